/- The document's store of frames: what Is, Load, Save, Bytes return and leave, for every argument. -/
import Derived.Test.YtlgohgjnocoadaaId
namespace Go.Proofs.Ytlgohgjnocoadaa.Fr
open Go.RowKit Ut Oc
set_option linter.unusedVariables false

theorem refIs_any (bt B n : Nat) (f : Int) (R : List (List Int)) (v : Value) (vs : List Value) (w : World) (hT : RT w bt B n R v vs) (b : Bool) (hb : b = (decide (0 ≤ f) && decide (f < n))) :
    Calls Try.prog 44 #[.pointer (some ⟨bt, 0, none⟩), .int .i64 f] w fun e w' => e = .returned (.bool b) ∧ w = w' := by
  have h0 := hT.cell0
  obtain ⟨a, cap, rfl⟩ := hT.form0
  clear hT
  subst hb
  rcases Int.lt_or_le f 0 with f0 | f0
  · have f1 : decide (0 ≤ f) = false := by simp; omega
    go_enter Try.func44, Try.ntmps44
    go_wp2
    go_ret
    exact ⟨by rw [f1]; rfl, rfl⟩
  · have f1 : decide (0 ≤ f) = true := by simpa using f0
    rcases Int.lt_or_le f n with f2 | f2
    · have f3 : decide (f < (n : Int)) = true := by simpa using f2
      go_enter Try.func44, Try.ntmps44
      go_wp2
      go_ret
      exact ⟨by rw [f1, f3]; rfl, rfl⟩
    · have f3 : decide (f < (n : Int)) = false := by simpa using f2
      go_enter Try.func44, Try.ntmps44
      go_wp2
      go_ret
      exact ⟨by rw [f1, f3]; rfl, rfl⟩
theorem refIs_in {bt B n f : Nat} {R : List (List Int)} {v : Value} {vs : List Value} {w : World} (hT : RT w bt B n R v vs) (hf : f < n) :
    Calls Try.prog 44 #[.pointer (some ⟨bt, 0, none⟩), .int .i64 f] w fun e w' => e = .returned (.bool true) ∧ w = w' :=
  refIs_any bt B n f R v vs w hT true (by have : (f : Int) < n := by omega
                                          simp [this])
theorem refIs_out {bt B n : Nat} {f : Int} {R : List (List Int)} {v : Value} {vs : List Value} {w : World} (hT : RT w bt B n R v vs) (hf : f < 0 ∨ n ≤ f) :
    Calls Try.prog 44 #[.pointer (some ⟨bt, 0, none⟩), .int .i64 f] w fun e w' => e = .returned (.bool false) ∧ w = w' :=
  refIs_any bt B n f R v vs w hT false (by
    rcases hf with h | h
    · simp [show ¬ 0 ≤ f by omega]
    · simp [show ¬ f < n by omega])

theorem refLoad_no {bt B n : Nat} {f : Int} (o m : Int) {R : List (List Int)} {v : Value} {vs : List Value} {w : World} (hT : RT w bt B n R v vs) (hf : f < 0 ∨ n ≤ f) :
    Calls Try.prog 45 #[.pointer (some ⟨bt, 0, none⟩), .int .i64 f, .int .i64 o, .int .i64 m] w fun e w' => e = .returned (.tuple #[.int .u32 0, .int .i64 1]) ∧ w = w' := by
  have HI := Lib.hid (refIs_out hT hf)
  clear hT hf
  go_enter Try.func45, Try.ntmps45
  go_wp2_with (go_at_call 44; refine HI.out.mono ?_; rintro e w' ⟨rfl, rfl⟩)
  go_ret2
  exact ⟨rfl, rfl⟩
theorem refSave_no {bt B n : Nat} {f : Int} (o m x : Int) {R : List (List Int)} {v : Value} {vs : List Value} {w : World} (hT : RT w bt B n R v vs) (hf : f < 0 ∨ n ≤ f) :
    Calls Try.prog 38 #[.pointer (some ⟨bt, 0, none⟩), .int .i64 f, .int .i64 o, .int .i64 m, .int .u32 x] w fun e w' => e = .returned (.int .i64 1) ∧ w = w' := by
  have HI := Lib.hid (refIs_out hT hf)
  clear hT hf
  go_enter Try.func38, Try.ntmps38
  go_wp2_with (go_at_call 44; refine HI.out.mono ?_; rintro e w' ⟨rfl, rfl⟩)
  go_ret
  exact ⟨rfl, rfl⟩
theorem refLoad_out {bt B n f : Nat} {o m : Int} {R : List (List Int)} {v : Value} {vs : List Value} {w : World} (hT : RT w bt B n R v vs) (hf : f < n) (h : hold 64 o m = false) :
    Calls Try.prog 45 #[.pointer (some ⟨bt, 0, none⟩), .int .i64 f, .int .i64 o, .int .i64 m] w fun e w' => e = .returned (.tuple #[.int .u32 0, .int .i64 1]) ∧ w = w' := by
  have HI := Lib.hid (refIs_in hT hf)
  have h0 := hT.cell0
  obtain ⟨gv, cap, rfl, _⟩ := hT.form (by omega)
  obtain ⟨g, c, h1, _, hc, _⟩ := hT.at_ f hf
  have f1 : (0 : Int) ≤ (f : Int) ∧ (f : Int) < (n : Int) := by omega
  clear hT
  go_enter Try.func45, Try.ntmps45
  go_wp2_with (first | (go_at_call 44; refine HI.out.mono ?_; rintro e w' ⟨rfl, rfl⟩) | (go_at_call 60; refine (refGet_no _ 64 _ o m _ frame_slice_bd h).mono ?_; rintro e w' ⟨rfl, rfl⟩))
  go_ret2
  exact ⟨rfl, rfl⟩
theorem refLoad_in {bt B n f o m : Nat} {R : List (List Int)} {v : Value} {vs : List Value} {w : World} (hT : RT w bt B n R v vs) (hf : f < n) (hm : isW m = true) (hi : o + m ≤ 64) :
    Calls Try.prog 45 #[.pointer (some ⟨bt, 0, none⟩), .int .i64 f, .int .i64 o, .int .i64 m] w fun e w' => e = .returned (.tuple #[.int .u32 (num (((R.getD f []).drop o).take m)), .int .i64 0]) ∧ w = w' := by
  have HI := Lib.hid (refIs_in hT hf)
  have h0 := hT.cell0
  obtain ⟨gv, cap, rfl, _⟩ := hT.form (by omega)
  obtain ⟨g, c, h1, _, hc, hr⟩ := hT.at_ f hf
  have HR := Lib.hid hr
  have HZ := Lib.hid (hT.bytes f hf)
  have HM := Lib.hid hm
  have HO := Lib.hid hi
  have f1 : (0 : Int) ≤ (f : Int) ∧ (f : Int) < (n : Int) := by omega
  clear hT hr hm hi
  go_enter Try.func45, Try.ntmps45
  go_wp2_with (first | (go_at_call 44; refine HI.out.mono ?_; rintro e w' ⟨rfl, rfl⟩) | (go_at_call 60; refine (refGet_yes _ 64 _ o m _ _ _ (by omega) HR.out HZ.out HM.out HO.out).mono ?_; rintro e w' ⟨rfl, rfl⟩))
  go_ret2
  exact ⟨rfl, rfl⟩
theorem refSave_out {bt B n f : Nat} {o m : Int} (x : Int) {R : List (List Int)} {v : Value} {vs : List Value} {w : World} (hT : RT w bt B n R v vs) (hf : f < n) (h : hold 64 o m = false) :
    Calls Try.prog 38 #[.pointer (some ⟨bt, 0, none⟩), .int .i64 f, .int .i64 o, .int .i64 m, .int .u32 x] w fun e w' => e = .returned (.int .i64 1) ∧ w = w' := by
  have HI := Lib.hid (refIs_in hT hf)
  have h0 := hT.cell0
  obtain ⟨gv, cap, rfl, _⟩ := hT.form (by omega)
  obtain ⟨g, c, h1, _, hc, _⟩ := hT.at_ f hf
  have f1 : (0 : Int) ≤ (f : Int) ∧ (f : Int) < (n : Int) := by omega
  clear hT
  go_enter Try.func38, Try.ntmps38
  go_wp2_with (first | (go_at_call 44; refine HI.out.mono ?_; rintro e w' ⟨rfl, rfl⟩) | (go_at_call 58; refine (refPut_no _ 64 _ o m x _ frame_slice_bd h).mono ?_; rintro e w' ⟨rfl, rfl⟩))
  go_ret
  exact ⟨rfl, rfl⟩
theorem refSave_own {bt B n f o m : Nat} {x : Int} {R : List (List Int)} {v : Value} {vs : List Value} {w : World} (hT : RT w bt B n R v vs) (hf : f < n) (hm : isW m = true) (hi : o + m ≤ 64) (hv0 : 0 ≤ x) (hv1 : x < 4294967296) :
    Calls Try.prog 38 #[.pointer (some ⟨bt, 0, none⟩), .int .i64 f, .int .i64 o, .int .i64 m, .int .u32 x] w fun e w' =>
      e = .returned (.int .i64 0) ∧ (∃ vs', RT w' bt B n (R.set f (putZ (R.getD f []) o m x)) v vs') ∧ w.grownBy w' v.ownBlock := by
  have HI := Lib.hid (refIs_in hT hf)
  have h0 := hT.cell0
  obtain ⟨gv, cap, rfl, hgB, hgl⟩ := hT.form (by omega)
  obtain ⟨g, c, h1, _, hc, hr⟩ := hT.at_ f hf
  have HR := Lib.hid hr
  have HZ := Lib.hid (hT.bytes f hf)
  have HM := Lib.hid hm
  have HO := Lib.hid hi
  have HV := Lib.hid (And.intro hv0 hv1)
  have HT := Lib.hid hT
  have HLO := Lib.hid (show B ≤ w.heap.size by have := hT.lo; have := hT.lt; omega)
  have f1 : (0 : Int) ≤ (f : Int) ∧ (f : Int) < (n : Int) := by omega
  clear hT hr hm hi hv0 hv1
  go_enter Try.func38, Try.ntmps38
  go_upto_region 5 with (first | (go_at_call 44; refine HI.out.mono ?_; rintro e w' ⟨rfl, rfl⟩) | (go_at_call 58; refine (refPut_own _ 64 _ o m x _ _ (by omega) HR.out HM.out HO.out HV.out.1 HV.out.2).mono ?_; rintro e w2 ⟨g2, c2, rfl, hg2, hc2, hc3, hr2, hb2⟩))
  have HT2 := Lib.hid (HT.out.below hb2)
  have h02 := HT2.out.cell0
  have hfr := HT2.out.own.frozenAt f
  obtain ⟨_, _, h12, _⟩ := HT2.out.at_ f hf
  have HS : Hid (RT (w2.setCell ⟨gv, f, none⟩ (.slice (some ⟨g2, 0, none⟩) 64 c2)) bt B n (R.set f (putZ (R.getD f []) o m x)) (.slice (some ⟨gv, 0, none⟩) n cap) (vs.set f (.slice (some ⟨g2, 0, none⟩) 64 c2))) :=
    HT2.out.set f hf _ _ ⟨g2, c2, rfl, Nat.le_trans HLO.out hg2, hc2, hc3, hr2⟩ (putZ_bytes HZ.out o m x)
  have HB : Hid (w.grownBy (w2.setCell ⟨gv, f, none⟩ (.slice (some ⟨g2, 0, none⟩) 64 c2)) (some gv)) := ⟨hb2.os, hb2.tape, hb2.output, by have := hb2.size; simpa [World.setCell] using this, fun k hk hne => (Below.heap_setCell _ _ _ _ (fun e => hne (by rw [e]))).trans (hb2.block k hk)⟩
  clear h0 h1 hr2
  go_wp2
  go_ret
  exact ⟨rfl, ⟨_, HS.out⟩, HB.out⟩

theorem refSave_in {bt B n f o m : Nat} {x : Int} {R : List (List Int)} {v : Value} {vs : List Value} {w : World} (hT : RT w bt B n R v vs) (hf : f < n) (hm : isW m = true) (hi : o + m ≤ 64) (hv0 : 0 ≤ x) (hv1 : x < 4294967296) (hB : B ≤ w.heap.size) :
    Calls Try.prog 38 #[.pointer (some ⟨bt, 0, none⟩), .int .i64 f, .int .i64 o, .int .i64 m, .int .u32 x] w fun e w' =>
      e = .returned (.int .i64 0) ∧ (∃ v' vs', RT w' bt B n (R.set f (putZ (R.getD f []) o m x)) v' vs') ∧ Below B w w' := by
  refine (refSave_own hT hf hm hi hv0 hv1).mono ?_
  rintro e w' ⟨he, ⟨vs', h'⟩, hg⟩
  exact ⟨he, ⟨v, vs', h'⟩, (Below.refl B w).grown hg hB (fun k hk => (hT.own.lt k hk).1)⟩

end Go.Proofs.Ytlgohgjnocoadaa.Fr
