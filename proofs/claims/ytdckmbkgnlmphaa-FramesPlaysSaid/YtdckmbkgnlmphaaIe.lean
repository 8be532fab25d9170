/- The document's store of frames: what Is, Load, Save, Bytes return and leave, for every argument. -/
import Derived.Test.YtdckmbkgnlmphaaId
namespace Go.Proofs.Ytdckmbkgnlmphaa.Fr
open Go.RowKit Ut Oc
set_option linter.unusedVariables false

theorem refIs_any (bt B n : Nat) (f : Int) (R : List (List Int)) (v : Value) (vs : List Value) (w : World) (hT : RT w bt B n R v vs) (b : Bool) (hb : b = (decide (0 ≤ f) && decide (f < n))) :
    Calls Try.prog 23 #[.pointer (some ⟨bt, 0, none⟩), .int .i64 f] w fun e w' => e = .returned (.bool b) ∧ w = w' := by
  have h0 := hT.cell0
  obtain ⟨a, cap, rfl⟩ := hT.form0
  clear hT
  subst hb
  rcases Int.lt_or_le f 0 with f0 | f0
  · have f1 : decide (0 ≤ f) = false := by simp; omega
    go_enter Try.func23, Try.ntmps23
    go_wp2
    go_ret
    exact ⟨by rw [f1]; rfl, rfl⟩
  · have f1 : decide (0 ≤ f) = true := by simpa using f0
    rcases Int.lt_or_le f n with f2 | f2
    · have f3 : decide (f < (n : Int)) = true := by simpa using f2
      go_enter Try.func23, Try.ntmps23
      go_wp2
      go_ret
      exact ⟨by rw [f1, f3]; rfl, rfl⟩
    · have f3 : decide (f < (n : Int)) = false := by simpa using f2
      go_enter Try.func23, Try.ntmps23
      go_wp2
      go_ret
      exact ⟨by rw [f1, f3]; rfl, rfl⟩
theorem refIs_in {bt B n f : Nat} {R : List (List Int)} {v : Value} {vs : List Value} {w : World} (hT : RT w bt B n R v vs) (hf : f < n) :
    Calls Try.prog 23 #[.pointer (some ⟨bt, 0, none⟩), .int .i64 f] w fun e w' => e = .returned (.bool true) ∧ w = w' :=
  refIs_any bt B n f R v vs w hT true (by have : (f : Int) < n := by omega
                                          simp [this])
theorem refIs_out {bt B n : Nat} {f : Int} {R : List (List Int)} {v : Value} {vs : List Value} {w : World} (hT : RT w bt B n R v vs) (hf : f < 0 ∨ n ≤ f) :
    Calls Try.prog 23 #[.pointer (some ⟨bt, 0, none⟩), .int .i64 f] w fun e w' => e = .returned (.bool false) ∧ w = w' :=
  refIs_any bt B n f R v vs w hT false (by
    rcases hf with h | h
    · simp [show ¬ 0 ≤ f by omega]
    · simp [show ¬ f < n by omega])

theorem refLoad_no {bt B n : Nat} {f : Int} (o m : Int) {R : List (List Int)} {v : Value} {vs : List Value} {w : World} (hT : RT w bt B n R v vs) (hf : f < 0 ∨ n ≤ f) :
    Calls Try.prog 15 #[.pointer (some ⟨bt, 0, none⟩), .int .i64 f, .int .i64 o, .int .i64 m] w fun e w' => e = .returned (.tuple #[.int .u32 0, .int .i64 1]) ∧ w = w' := by
  have HI := Lib.hid (refIs_out hT hf)
  clear hT hf
  go_enter Try.func15, Try.ntmps15
  go_wp2_with (go_at_call 23; refine HI.out.mono ?_; rintro e w' ⟨rfl, rfl⟩)
  go_ret2
  exact ⟨rfl, rfl⟩
theorem refSave_no {bt B n : Nat} {f : Int} (o m x : Int) {R : List (List Int)} {v : Value} {vs : List Value} {w : World} (hT : RT w bt B n R v vs) (hf : f < 0 ∨ n ≤ f) :
    Calls Try.prog 13 #[.pointer (some ⟨bt, 0, none⟩), .int .i64 f, .int .i64 o, .int .i64 m, .int .u32 x] w fun e w' => e = .returned (.int .i64 1) ∧ w = w' := by
  have HI := Lib.hid (refIs_out hT hf)
  clear hT hf
  go_enter Try.func13, Try.ntmps13
  go_wp2_with (go_at_call 23; refine HI.out.mono ?_; rintro e w' ⟨rfl, rfl⟩)
  go_ret
  exact ⟨rfl, rfl⟩
theorem refClear_no {bt B n : Nat} {f : Int} {R : List (List Int)} {v : Value} {vs : List Value} {w : World} (hT : RT w bt B n R v vs) (hf : f < 0 ∨ n ≤ f) :
    Calls Try.prog 11 #[.pointer (some ⟨bt, 0, none⟩), .int .i64 f] w fun e w' => e = .returned (.int .i64 1) ∧ w = w' := by
  have HI := Lib.hid (refIs_out hT hf)
  clear hT hf
  go_enter Try.func11, Try.ntmps11
  go_wp2_with (go_at_call 23; refine HI.out.mono ?_; rintro e w' ⟨rfl, rfl⟩)
  go_ret
  exact ⟨rfl, rfl⟩
theorem refBytes_no {bt B n : Nat} {f : Int} {R : List (List Int)} {v : Value} {vs : List Value} {w : World} (hT : RT w bt B n R v vs) (hf : f < 0 ∨ n ≤ f) :
    Calls Try.prog 17 #[.pointer (some ⟨bt, 0, none⟩), .int .i64 f] w fun e w' => e = .returned (.tuple #[.slice none 0 0, .int .i64 1]) ∧ w = w' := by
  have HI := Lib.hid (refIs_out hT hf)
  clear hT hf
  go_enter Try.func17, Try.ntmps17
  go_wp2_with (go_at_call 23; refine HI.out.mono ?_; rintro e w' ⟨rfl, rfl⟩)
  go_ret2
  exact ⟨rfl, rfl⟩
theorem refClean_no {bt B n : Nat} {f : Int} {R : List (List Int)} {v : Value} {vs : List Value} {w : World} (hT : RT w bt B n R v vs) (hf : f < 0 ∨ n ≤ f) :
    Calls Try.prog 19 #[.pointer (some ⟨bt, 0, none⟩), .int .i64 f] w fun e w' => e = .returned (.bool false) ∧ w = w' := by
  have HI := Lib.hid (refIs_out hT hf)
  clear hT hf
  go_enter Try.func19, Try.ntmps19
  go_wp2_with (go_at_call 23; refine HI.out.mono ?_; rintro e w' ⟨rfl, rfl⟩)
  go_ret
  exact ⟨rfl, rfl⟩

theorem refLoad_out {bt B n f : Nat} {o m : Int} {R : List (List Int)} {v : Value} {vs : List Value} {w : World} (hT : RT w bt B n R v vs) (hf : f < n) (h : hold 64 o m = false) :
    Calls Try.prog 15 #[.pointer (some ⟨bt, 0, none⟩), .int .i64 f, .int .i64 o, .int .i64 m] w fun e w' => e = .returned (.tuple #[.int .u32 0, .int .i64 1]) ∧ w = w' := by
  have HI := Lib.hid (refIs_in hT hf)
  have h0 := hT.cell0
  obtain ⟨gv, cap, rfl, _⟩ := hT.form (by omega)
  obtain ⟨g, c, h1, _, hc, _⟩ := hT.at_ f hf
  have f1 : (0 : Int) ≤ (f : Int) ∧ (f : Int) < (n : Int) := by omega
  clear hT
  go_enter Try.func15, Try.ntmps15
  go_wp2_with (first | (go_at_call 23; refine HI.out.mono ?_; rintro e w' ⟨rfl, rfl⟩) | (go_at_call 27; refine (refGet_no _ 64 _ o m _ frame_slice_bd h).mono ?_; rintro e w' ⟨rfl, rfl⟩))
  go_ret2
  exact ⟨rfl, rfl⟩
theorem refLoad_in {bt B n f o m : Nat} {R : List (List Int)} {v : Value} {vs : List Value} {w : World} (hT : RT w bt B n R v vs) (hf : f < n) (hm : isW m = true) (hi : o + m ≤ 64) :
    Calls Try.prog 15 #[.pointer (some ⟨bt, 0, none⟩), .int .i64 f, .int .i64 o, .int .i64 m] w fun e w' => e = .returned (.tuple #[.int .u32 (num (((R.getD f []).drop o).take m)), .int .i64 0]) ∧ w = w' := by
  have HI := Lib.hid (refIs_in hT hf)
  have h0 := hT.cell0
  obtain ⟨gv, cap, rfl, _⟩ := hT.form (by omega)
  obtain ⟨g, c, h1, _, hc, hr⟩ := hT.at_ f hf
  have HR := Lib.hid hr
  have HZ := Lib.hid (hT.bytes f hf)
  have HM := Lib.hid hm
  have HO := Lib.hid hi
  have f1 : (0 : Int) ≤ (f : Int) ∧ (f : Int) < (n : Int) := by omega
  clear hT hr hm hi
  go_enter Try.func15, Try.ntmps15
  go_wp2_with (first | (go_at_call 23; refine HI.out.mono ?_; rintro e w' ⟨rfl, rfl⟩) | (go_at_call 27; refine (refGet_yes _ 64 _ o m _ _ _ (by omega) HR.out HZ.out HM.out HO.out).mono ?_; rintro e w' ⟨rfl, rfl⟩))
  go_ret2
  exact ⟨rfl, rfl⟩
theorem refSave_out {bt B n f : Nat} {o m : Int} (x : Int) {R : List (List Int)} {v : Value} {vs : List Value} {w : World} (hT : RT w bt B n R v vs) (hf : f < n) (h : hold 64 o m = false) :
    Calls Try.prog 13 #[.pointer (some ⟨bt, 0, none⟩), .int .i64 f, .int .i64 o, .int .i64 m, .int .u32 x] w fun e w' => e = .returned (.int .i64 1) ∧ w = w' := by
  have HI := Lib.hid (refIs_in hT hf)
  have h0 := hT.cell0
  obtain ⟨gv, cap, rfl, _⟩ := hT.form (by omega)
  obtain ⟨g, c, h1, _, hc, _⟩ := hT.at_ f hf
  have f1 : (0 : Int) ≤ (f : Int) ∧ (f : Int) < (n : Int) := by omega
  clear hT
  go_enter Try.func13, Try.ntmps13
  go_wp2_with (first | (go_at_call 23; refine HI.out.mono ?_; rintro e w' ⟨rfl, rfl⟩) | (go_at_call 25; refine (refPut_no _ 64 _ o m x _ frame_slice_bd h).mono ?_; rintro e w' ⟨rfl, rfl⟩))
  go_ret
  exact ⟨rfl, rfl⟩
theorem refSave_in {bt B n f o m : Nat} {x : Int} {R : List (List Int)} {v : Value} {vs : List Value} {w : World} (hT : RT w bt B n R v vs) (hf : f < n) (hm : isW m = true) (hi : o + m ≤ 64) (hv0 : 0 ≤ x) (hv1 : x < 4294967296) (hB : B ≤ w.heap.size) :
    Calls Try.prog 13 #[.pointer (some ⟨bt, 0, none⟩), .int .i64 f, .int .i64 o, .int .i64 m, .int .u32 x] w fun e w' =>
      e = .returned (.int .i64 0) ∧ (∃ v' vs', RT w' bt B n (R.set f (putZ (R.getD f []) o m x)) v' vs') ∧ Below B w w' := by
  have HI := Lib.hid (refIs_in hT hf)
  have h0 := hT.cell0
  obtain ⟨gv, cap, rfl, hgB, hgl⟩ := hT.form (by omega)
  obtain ⟨g, c, h1, _, hc, hr⟩ := hT.at_ f hf
  have HR := Lib.hid hr
  have HZ := Lib.hid (hT.bytes f hf)
  have HM := Lib.hid hm
  have HO := Lib.hid hi
  have HV := Lib.hid (And.intro hv0 hv1)
  have HT := Lib.hid hT
  have f1 : (0 : Int) ≤ (f : Int) ∧ (f : Int) < (n : Int) := by omega
  clear hT hr hm hi hv0 hv1
  go_enter Try.func13, Try.ntmps13
  go_upto_region 5 with (first | (go_at_call 23; refine HI.out.mono ?_; rintro e w' ⟨rfl, rfl⟩) | (go_at_call 25; refine (refPut_own _ 64 _ o m x _ _ (by omega) HR.out HM.out HO.out HV.out.1 HV.out.2).mono ?_; rintro e w2 ⟨g2, c2, rfl, hg2, hc2, hc3, hr2, hb2⟩))
  have HT2 := Lib.hid (HT.out.below hb2)
  have h02 := HT2.out.cell0
  have hfr := HT2.out.own.frozenAt f
  obtain ⟨_, _, h12, _⟩ := HT2.out.at_ f hf
  have HS : Hid (RT (w2.setCell ⟨gv, f, none⟩ (.slice (some ⟨g2, 0, none⟩) 64 c2)) bt B n (R.set f (putZ (R.getD f []) o m x)) (.slice (some ⟨gv, 0, none⟩) n cap) (vs.set f (.slice (some ⟨g2, 0, none⟩) 64 c2))) :=
    HT2.out.set f hf _ _ ⟨g2, c2, rfl, by omega, hc2, hc3, hr2⟩ (putZ_bytes HZ.out o m x)
  have HB := Lib.hid ((hb2.mono hB).setCell (p := ⟨gv, f, none⟩) hgB (.slice (some ⟨g2, 0, none⟩) 64 c2))
  clear h0 h1 hr2
  go_wp2
  go_ret
  exact ⟨rfl, ⟨_, _, HS.out⟩, HB.out⟩

theorem refBytes_in {bt B n f : Nat} {R : List (List Int)} {v : Value} {vs : List Value} {w : World} (hT : RT w bt B n R v vs) (hf : f < n) :
    Calls Try.prog 17 #[.pointer (some ⟨bt, 0, none⟩), .int .i64 f] w fun e w' =>
      ∃ a c, e = .returned (.tuple #[.slice a 64 c, .int .i64 0]) ∧ RowK .u8 w' w'.heap.size a 64 (R.getD f []) ∧ Below w.heap.size w w' := by
  have HI := Lib.hid (refIs_in hT hf)
  have h0 := hT.cell0
  obtain ⟨gv, cap, rfl, hgB, hgl⟩ := hT.form (by omega)
  obtain ⟨g, c, h1, _, hc, hr⟩ := hT.at_ f hf
  have HR := Lib.hid hr
  have HO := Lib.hid (OwnI.made .u8 w w.heap.size 5 (Nat.le_refl _))
  have HA : Below w.heap.size w (w.alloc (.cells #[] 5)) := (Below.refl _ _).alloc (Nat.le_refl _) _
  have h02 := (HA.cell (p := ⟨bt, 0, none⟩) hT.lt).trans h0
  have h12 := (HA.cell (p := ⟨gv, f, none⟩) hgl).trans h1
  have f1 : (0 : Int) ≤ (f : Int) ∧ (f : Int) < (n : Int) := by omega
  clear hT hr
  go_enter Try.func17, Try.ntmps17
  go_wp2_with (first | (go_at_call 23; refine HI.out.mono ?_; rintro e w' ⟨rfl, rfl⟩) | (at_builtin; go_loud (refine wpList_append_ints rfl (.tmp 10) (.tmp 17) 22 rfl .u8 w.heap.size 5 1 Try.underlying22 info_byte _ 0 [] rfl HO.out w.heap.size _ 64 c _ rfl (HR.out.below HA) (by unfold maxLen; omega) (by omega) HA.size ?_); intro v1 w1 ho1 hb1 _))
  obtain ⟨a', c', hv, _, _, hrow⟩ := OwnI.row ho1.out
  subst hv
  have HRow := Lib.hid hrow
  have HBB := Lib.hid (HA.trans hb1)
  clear hrow ho1 hb1
  go_ret2
  refine ⟨a', c', rfl, ?_, HBB.out⟩
  have := HRow.out
  rwa [Nat.zero_add] at this
end Go.Proofs.Ytdckmbkgnlmphaa.Fr
