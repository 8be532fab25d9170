/- Several texts in one: Id Ie Ic Rg Ra -/
import Derived.Test.YteaincdeoajkeaaGreatDoorZ02
import Derived.Deep.AppendLies
import Derived.Test.YteaincdeoajkeaaGreatDoorZ01
import Derived.RangeFuncNested
import Derived.RegionTactic
import Derived.OrdersIn
section
/- The document's store of frames: a slice of slices of bytes, told by a list of lists; its methods but New and Clean. -/
namespace Go.Proofs.YteaincdeoajkeaaGreatDoor.Fr
open Go.RowKit Ut Oc
set_option linter.unusedVariables false

/-- a slice of a frame's bytes, in memory of its own from block B on -/
def Row64 (w : World) (B : Nat) (v : Value) (xs : List Int) : Prop :=
  ∃ g c, v = .slice (some ⟨g, 0, none⟩) 64 c ∧ B ≤ g ∧ 64 ≤ c ∧ c ≤ 9223372036854775807 ∧ RowK .u8 w w.heap.size (some ⟨g, 0, none⟩) 64 xs

theorem Row64.kept {w w' : World} {B : Nat} {v : Value} {xs : List Int} {row : Option Nat} (h : Row64 w B v xs) (hg : w.grownBy w' row) (hr : ∀ g, v.ownBlock = some g → row ≠ some g) : Row64 w' B v xs := by
  obtain ⟨g, c, rfl, hB, h1, h2, h3⟩ := h
  refine ⟨g, c, rfl, hB, h1, h2, h3.1, fun i hi => ?_⟩
  obtain ⟨x, e, hx, hc⟩ := h3.2 i hi
  injection e with e
  subst e
  refine ⟨_, rfl, Nat.lt_of_lt_of_le hx hg.size, ?_⟩
  rw [World.cell?_of_block (w := w)]
  · exact hc
  · rw [block_of_add]
    exact hg.block g hx (fun e => hr g rfl e.symm)

/-- block bt is the document's store; its frames' bytes are R; all its memory lies from block B on -/
structure RT (w : World) (bt B n : Nat) (R : List (List Int)) (v : Value) (vs : List Value) : Prop where
  box : w.heap[bt]? = some (.cells #[v] 64 (0, 0))
  lo : B ≤ bt
  own : w.ownsRow B 70 1 v n vs
  len : R.length = n
  rows : ∀ i, i < n → Row64 w B (vs.getD i undef) (R.getD i [])
  bytes : ∀ i, i < n → AreBytes (R.getD i [])
  nil0 : n = 0 → v = .slice none 0 0

section
variable {w w' : World} {bt B n : Nat} {R : List (List Int)} {v : Value} {vs : List Value}
theorem RT.lt (h : RT w bt B n R v vs) : bt < w.heap.size := (Array.getElem?_eq_some_iff.1 h.box).1
theorem RT.vlen (h : RT w bt B n R v vs) : vs.length = n := by have := h.own.1; simpa using this
/-- what is done below block B, or in new blocks, leaves it as it was -/
theorem RT.kept {row : Option Nat} (h : RT w bt B n R v vs) (hg : w.grownBy w' row) (hr : ∀ k, row = some k → k < B) : RT w' bt B n R v vs where
  box := by rw [hg.block bt h.lt (fun e => by have := hr bt e.symm; have := h.lo; omega)]; exact h.box
  lo := h.lo
  own := h.own.kept hg (by
    cases hv : v.ownBlock with
    | none => exact .inl rfl
    | some g => exact .inr fun e => by have := hr g e.symm; have := (h.own.lt g hv).1; omega)
  len := h.len
  rows := fun i hi => (h.rows i hi).kept hg (fun g hgv e => by
    obtain ⟨g', c, hv, hB, _⟩ := h.rows i hi
    rw [hv] at hgv
    simp [Value.ownBlock] at hgv
    have := hr g e
    omega)
  bytes := h.bytes
  nil0 := h.nil0
theorem grown_of_below (hb : Below w.heap.size w w') : w.grownBy w' none := ⟨hb.os, hb.tape, hb.output, hb.size, fun k hk _ => hb.block k hk⟩
theorem RT.below (h : RT w bt B n R v vs) (hb : Below w.heap.size w w') : RT w' bt B n R v vs := h.kept (grown_of_below hb) (fun k hk => by cases hk)
theorem RT.cell0 (h : RT w bt B n R v vs) : w.cell? ⟨bt, 0, none⟩ = some v := by simp [World.cell?, h.box]
/-- the slice of its frames -/
theorem RT.form (h : RT w bt B n R v vs) (hn : 0 < n) : ∃ g cap, v = .slice (some ⟨g, 0, none⟩) n cap ∧ B ≤ g ∧ g < w.heap.size := h.own.form hn
theorem RT.form0 (h : RT w bt B n R v vs) : ∃ a cap, v = .slice a n cap := by
  rcases h.own.2 with ⟨rfl, rfl⟩ | ⟨g, cap, cur, rfl, _⟩
  · exact ⟨none, 0, rfl⟩
  · exact ⟨_, cap, rfl⟩
/-- frame f -/
theorem RT.at_ {gv cap : Nat} (h : RT w bt B n R (.slice (some ⟨gv, 0, none⟩) n cap) vs) (f : Nat) (hf : f < n) :
    ∃ g c, w.cell? ⟨gv, f, none⟩ = some (.slice (some ⟨g, 0, none⟩) 64 c) ∧ 64 ≤ c ∧ c ≤ 9223372036854775807 ∧ RowK .u8 w w.heap.size (some ⟨g, 0, none⟩) 64 (R.getD f []) := by
  obtain ⟨g, c, hv, hB, h1, h2, h3⟩ := h.rows f hf
  refine ⟨g, c, ?_, h1, h2, h3⟩
  rw [h.own.cellAt f (by omega)]
  have hl := h.vlen
  simp only [List.getD, List.getElem?_eq_getElem (show f < vs.length by omega), Option.getD_some] at hv
  rw [List.getElem?_eq_getElem (by omega), hv]
/-- a frame's slice turned to another one -/
theorem RT.set {gv cap : Nat} (h : RT w bt B n R (.slice (some ⟨gv, 0, none⟩) n cap) vs) (f : Nat) (hf : f < n) (u : Value) (xs : List Int) (hu : Row64 w B u xs) (hx : AreBytes xs) :
    RT (w.setCell ⟨gv, f, none⟩ u) bt B n (R.set f xs) (.slice (some ⟨gv, 0, none⟩) n cap) (vs.set f u) := by
  obtain ⟨ho, hg⟩ := h.own.stored f u
  have hl := h.vlen
  have hR := h.len
  have hne : ∀ (y : Value) (ys : List Int), Row64 w B y ys → ∀ g, y.ownBlock = some g → some gv ≠ some g := by
    intro y ys hy g hyg e
    injection e with e
    subst e
    obtain ⟨g', c, hv, _, h1, _, h3⟩ := hy
    subst hv
    simp [Value.ownBlock] at hyg
    subst hyg
    obtain ⟨x, e, _, hc⟩ := h3.2 0 (by omega)
    injection e with e
    subst e
    rw [add_plain] at hc
    obtain ⟨q1, q2, hq, _⟩ := h.at_ 0 (by omega)
    rw [hq] at hc
    cases hc
  refine ⟨?_, h.lo, ho, by rw [List.length_set]; exact hR, fun i hi => ?_, fun i hi => ?_, fun e => by omega⟩
  · rw [hg.block bt h.lt (fun e => ?_)]
    · exact h.box
    · injection e with e
      subst e
      have hb := h.box
      rcases h.own.2 with ⟨hq, _⟩ | ⟨g2, cap2, cur, hq, _, hg2, _⟩
      · cases hq
      · injection hq with hq
        injection hq with hq
        injection hq with hq
        subst hq
        rw [hb] at hg2
        injection hg2 with hg2
        injection hg2 with _ hg2
        cases hg2
  · by_cases e : i = f
    · subst e
      have e1 : (vs.set i u).getD i undef = u := by simp [List.getD, show i < vs.length by omega]
      have e2 : (R.set i xs).getD i [] = xs := by simp [List.getD, show i < R.length by omega]
      rw [e1, e2]
      exact hu.kept hg (hne u xs hu)
    · have e1 : (vs.set f u).getD i undef = vs.getD i undef := by simp only [List.getD]; rw [List.getElem?_set_ne (fun q => e q.symm)]
      have e2 : (R.set f xs).getD i [] = R.getD i [] := by simp only [List.getD]; rw [List.getElem?_set_ne (fun q => e q.symm)]
      rw [e1, e2]
      exact (h.rows i hi).kept hg (hne _ _ (h.rows i hi))
  · by_cases e : i = f
    · subst e
      have e2 : (R.set i xs).getD i [] = xs := by simp [List.getD, show i < R.length by omega]
      rw [e2]; exact hx
    · have e2 : (R.set f xs).getD i [] = R.getD i [] := by simp only [List.getD]; rw [List.getElem?_set_ne (fun q => e q.symm)]
      rw [e2]; exact h.bytes i hi
end
end Go.Proofs.YteaincdeoajkeaaGreatDoor.Fr
end
section
/- The document's store of frames: what Is, Load, Save, Bytes return and leave, for every argument. -/
namespace Go.Proofs.YteaincdeoajkeaaGreatDoor.Fr
open Go.RowKit Ut Oc
set_option linter.unusedVariables false

theorem refIs_any (bt B n : Nat) (f : Int) (R : List (List Int)) (v : Value) (vs : List Value) (w : World) (hT : RT w bt B n R v vs) (b : Bool) (hb : b = (decide (0 ≤ f) && decide (f < n))) :
    Calls Tryz.prog 80 #[.pointer (some ⟨bt, 0, none⟩), .int .i64 f] w fun e w' => e = .returned (.bool b) ∧ w = w' := by
  have h0 := hT.cell0
  obtain ⟨a, cap, rfl⟩ := hT.form0
  clear hT
  subst hb
  rcases Int.lt_or_le f 0 with f0 | f0
  · have f1 : decide (0 ≤ f) = false := by simp; omega
    go_enter Tryz.func80, Tryz.ntmps80
    go_wp2
    go_ret
    exact ⟨by rw [f1]; rfl, rfl⟩
  · have f1 : decide (0 ≤ f) = true := by simpa using f0
    rcases Int.lt_or_le f n with f2 | f2
    · have f3 : decide (f < (n : Int)) = true := by simpa using f2
      go_enter Tryz.func80, Tryz.ntmps80
      go_wp2
      go_ret
      exact ⟨by rw [f1, f3]; rfl, rfl⟩
    · have f3 : decide (f < (n : Int)) = false := by simpa using f2
      go_enter Tryz.func80, Tryz.ntmps80
      go_wp2
      go_ret
      exact ⟨by rw [f1, f3]; rfl, rfl⟩
theorem refIs_in {bt B n f : Nat} {R : List (List Int)} {v : Value} {vs : List Value} {w : World} (hT : RT w bt B n R v vs) (hf : f < n) :
    Calls Tryz.prog 80 #[.pointer (some ⟨bt, 0, none⟩), .int .i64 f] w fun e w' => e = .returned (.bool true) ∧ w = w' :=
  refIs_any bt B n f R v vs w hT true (by have : (f : Int) < n := by omega
                                          simp [this])
theorem refIs_out {bt B n : Nat} {f : Int} {R : List (List Int)} {v : Value} {vs : List Value} {w : World} (hT : RT w bt B n R v vs) (hf : f < 0 ∨ n ≤ f) :
    Calls Tryz.prog 80 #[.pointer (some ⟨bt, 0, none⟩), .int .i64 f] w fun e w' => e = .returned (.bool false) ∧ w = w' :=
  refIs_any bt B n f R v vs w hT false (by
    rcases hf with h | h
    · simp [show ¬ 0 ≤ f by omega]
    · simp [show ¬ f < n by omega])

theorem refLoad_no {bt B n : Nat} {f : Int} (o m : Int) {R : List (List Int)} {v : Value} {vs : List Value} {w : World} (hT : RT w bt B n R v vs) (hf : f < 0 ∨ n ≤ f) :
    Calls Tryz.prog 47 #[.pointer (some ⟨bt, 0, none⟩), .int .i64 f, .int .i64 o, .int .i64 m] w fun e w' => e = .returned (.tuple #[.int .u32 0, .int .i64 1]) ∧ w = w' := by
  have HI := Lib.hid (refIs_out hT hf)
  clear hT hf
  go_enter Tryz.func47, Tryz.ntmps47
  go_wp2_with (go_at_call 80; refine HI.out.mono ?_; rintro e w' ⟨rfl, rfl⟩)
  go_ret2
  exact ⟨rfl, rfl⟩
theorem refSave_no {bt B n : Nat} {f : Int} (o m x : Int) {R : List (List Int)} {v : Value} {vs : List Value} {w : World} (hT : RT w bt B n R v vs) (hf : f < 0 ∨ n ≤ f) :
    Calls Tryz.prog 54 #[.pointer (some ⟨bt, 0, none⟩), .int .i64 f, .int .i64 o, .int .i64 m, .int .u32 x] w fun e w' => e = .returned (.int .i64 1) ∧ w = w' := by
  have HI := Lib.hid (refIs_out hT hf)
  clear hT hf
  go_enter Tryz.func54, Tryz.ntmps54
  go_wp2_with (go_at_call 80; refine HI.out.mono ?_; rintro e w' ⟨rfl, rfl⟩)
  go_ret
  exact ⟨rfl, rfl⟩
theorem refLoad_out {bt B n f : Nat} {o m : Int} {R : List (List Int)} {v : Value} {vs : List Value} {w : World} (hT : RT w bt B n R v vs) (hf : f < n) (h : hold 64 o m = false) :
    Calls Tryz.prog 47 #[.pointer (some ⟨bt, 0, none⟩), .int .i64 f, .int .i64 o, .int .i64 m] w fun e w' => e = .returned (.tuple #[.int .u32 0, .int .i64 1]) ∧ w = w' := by
  have HI := Lib.hid (refIs_in hT hf)
  have h0 := hT.cell0
  obtain ⟨gv, cap, rfl, _⟩ := hT.form (by omega)
  obtain ⟨g, c, h1, _, hc, _⟩ := hT.at_ f hf
  have f1 : (0 : Int) ≤ (f : Int) ∧ (f : Int) < (n : Int) := by omega
  clear hT
  go_enter Tryz.func47, Tryz.ntmps47
  go_wp2_with (first | (go_at_call 80; refine HI.out.mono ?_; rintro e w' ⟨rfl, rfl⟩) | (go_at_call 86; refine (refGet_no _ 64 _ o m _ frame_slice_bd h).mono ?_; rintro e w' ⟨rfl, rfl⟩))
  go_ret2
  exact ⟨rfl, rfl⟩
theorem refLoad_in {bt B n f o m : Nat} {R : List (List Int)} {v : Value} {vs : List Value} {w : World} (hT : RT w bt B n R v vs) (hf : f < n) (hm : isW m = true) (hi : o + m ≤ 64) :
    Calls Tryz.prog 47 #[.pointer (some ⟨bt, 0, none⟩), .int .i64 f, .int .i64 o, .int .i64 m] w fun e w' => e = .returned (.tuple #[.int .u32 (num (((R.getD f []).drop o).take m)), .int .i64 0]) ∧ w = w' := by
  have HI := Lib.hid (refIs_in hT hf)
  have h0 := hT.cell0
  obtain ⟨gv, cap, rfl, _⟩ := hT.form (by omega)
  obtain ⟨g, c, h1, _, hc, hr⟩ := hT.at_ f hf
  have HR := Lib.hid hr
  have HZ := Lib.hid (hT.bytes f hf)
  have HM := Lib.hid hm
  have HO := Lib.hid hi
  have f1 : (0 : Int) ≤ (f : Int) ∧ (f : Int) < (n : Int) := by omega
  clear hT hr hm hi
  go_enter Tryz.func47, Tryz.ntmps47
  go_wp2_with (first | (go_at_call 80; refine HI.out.mono ?_; rintro e w' ⟨rfl, rfl⟩) | (go_at_call 86; refine (refGet_yes _ 64 _ o m _ _ _ (by omega) HR.out HZ.out HM.out HO.out).mono ?_; rintro e w' ⟨rfl, rfl⟩))
  go_ret2
  exact ⟨rfl, rfl⟩
theorem refSave_out {bt B n f : Nat} {o m : Int} (x : Int) {R : List (List Int)} {v : Value} {vs : List Value} {w : World} (hT : RT w bt B n R v vs) (hf : f < n) (h : hold 64 o m = false) :
    Calls Tryz.prog 54 #[.pointer (some ⟨bt, 0, none⟩), .int .i64 f, .int .i64 o, .int .i64 m, .int .u32 x] w fun e w' => e = .returned (.int .i64 1) ∧ w = w' := by
  have HI := Lib.hid (refIs_in hT hf)
  have h0 := hT.cell0
  obtain ⟨gv, cap, rfl, _⟩ := hT.form (by omega)
  obtain ⟨g, c, h1, _, hc, _⟩ := hT.at_ f hf
  have f1 : (0 : Int) ≤ (f : Int) ∧ (f : Int) < (n : Int) := by omega
  clear hT
  go_enter Tryz.func54, Tryz.ntmps54
  go_wp2_with (first | (go_at_call 80; refine HI.out.mono ?_; rintro e w' ⟨rfl, rfl⟩) | (go_at_call 93; refine (refPut_no _ 64 _ o m x _ frame_slice_bd h).mono ?_; rintro e w' ⟨rfl, rfl⟩))
  go_ret
  exact ⟨rfl, rfl⟩
theorem refSave_own {bt B n f o m : Nat} {x : Int} {R : List (List Int)} {v : Value} {vs : List Value} {w : World} (hT : RT w bt B n R v vs) (hf : f < n) (hm : isW m = true) (hi : o + m ≤ 64) (hv0 : 0 ≤ x) (hv1 : x < 4294967296) :
    Calls Tryz.prog 54 #[.pointer (some ⟨bt, 0, none⟩), .int .i64 f, .int .i64 o, .int .i64 m, .int .u32 x] w fun e w' =>
      e = .returned (.int .i64 0) ∧ (∃ vs', RT w' bt B n (R.set f (putZ (R.getD f []) o m x)) v vs') ∧ w.grownBy w' v.ownBlock := by
  have HI := Lib.hid (refIs_in hT hf)
  have h0 := hT.cell0
  obtain ⟨gv, cap, rfl, hgB, hgl⟩ := hT.form (by omega)
  obtain ⟨g, c, h1, _, hc, hr⟩ := hT.at_ f hf
  have HR := Lib.hid hr
  have HZ := Lib.hid (hT.bytes f hf)
  have HM := Lib.hid hm
  have HO := Lib.hid hi
  have HV := Lib.hid (And.intro hv0 hv1)
  have HT := Lib.hid hT
  have HLO := Lib.hid (show B ≤ w.heap.size by have := hT.lo; have := hT.lt; omega)
  have f1 : (0 : Int) ≤ (f : Int) ∧ (f : Int) < (n : Int) := by omega
  clear hT hr hm hi hv0 hv1
  go_enter Tryz.func54, Tryz.ntmps54
  go_upto_region 5 with (first | (go_at_call 80; refine HI.out.mono ?_; rintro e w' ⟨rfl, rfl⟩) | (go_at_call 93; refine (refPut_own _ 64 _ o m x _ _ (by omega) HR.out HM.out HO.out HV.out.1 HV.out.2).mono ?_; rintro e w2 ⟨g2, c2, rfl, hg2, hc2, hc3, hr2, hb2⟩))
  have HT2 := Lib.hid (HT.out.below hb2)
  have h02 := HT2.out.cell0
  have hfr := HT2.out.own.frozenAt f
  obtain ⟨_, _, h12, _⟩ := HT2.out.at_ f hf
  have HS : Hid (RT (w2.setCell ⟨gv, f, none⟩ (.slice (some ⟨g2, 0, none⟩) 64 c2)) bt B n (R.set f (putZ (R.getD f []) o m x)) (.slice (some ⟨gv, 0, none⟩) n cap) (vs.set f (.slice (some ⟨g2, 0, none⟩) 64 c2))) :=
    HT2.out.set f hf _ _ ⟨g2, c2, rfl, Nat.le_trans HLO.out hg2, hc2, hc3, hr2⟩ (putZ_bytes HZ.out o m x)
  have HB : Hid (w.grownBy (w2.setCell ⟨gv, f, none⟩ (.slice (some ⟨g2, 0, none⟩) 64 c2)) (some gv)) := ⟨hb2.os, hb2.tape, hb2.output, by have := hb2.size; simpa [World.setCell] using this, fun k hk hne => (Below.heap_setCell _ _ _ _ (fun e => hne (by rw [e]))).trans (hb2.block k hk)⟩
  clear h0 h1 hr2
  go_wp2
  go_ret
  exact ⟨rfl, ⟨_, HS.out⟩, HB.out⟩

theorem refSave_in {bt B n f o m : Nat} {x : Int} {R : List (List Int)} {v : Value} {vs : List Value} {w : World} (hT : RT w bt B n R v vs) (hf : f < n) (hm : isW m = true) (hi : o + m ≤ 64) (hv0 : 0 ≤ x) (hv1 : x < 4294967296) (hB : B ≤ w.heap.size) :
    Calls Tryz.prog 54 #[.pointer (some ⟨bt, 0, none⟩), .int .i64 f, .int .i64 o, .int .i64 m, .int .u32 x] w fun e w' =>
      e = .returned (.int .i64 0) ∧ (∃ v' vs', RT w' bt B n (R.set f (putZ (R.getD f []) o m x)) v' vs') ∧ Below B w w' := by
  refine (refSave_own hT hf hm hi hv0 hv1).mono ?_
  rintro e w' ⟨he, ⟨vs', h'⟩, hg⟩
  exact ⟨he, ⟨v, vs', h'⟩, (Below.refl B w).grown hg hB (fun k hk => (hT.own.lt k hk).1)⟩

end Go.Proofs.YteaincdeoajkeaaGreatDoor.Fr
end
section
/- Package frames: Clear, Bytes, Clean of a frame that is there. -/
namespace Go.Proofs.YteaincdeoajkeaaGreatDoor.Fr
open Go.RowKit Ut Oc
set_option maxRecDepth 100000
set_option linter.unusedVariables false

/-- a frame of zeros -/
def zer : List Int := List.replicate 64 0
theorem zer_len : zer.length = 64 := List.length_replicate
theorem zer_bytes : AreBytes zer := fun z hz => by rw [List.eq_of_mem_replicate hz]; omega
theorem run_zero (w : World) : (Instr.build 136 #[]).run Tryz.prog w = .ok (.agg (zer.map (Value.int .u8)).toArray) w := run_build w 136 _ _ built_frame

set_option maxRecDepth 100000 in
theorem bytes_in (b n f : Nat) (L : List Int) (w : World) (hS : St w b n L) (hf : f < n) :
    Calls Tryz.prog 21 #[.pointer (some ⟨b, 0, none⟩), .int .i64 f] w fun e w' =>
      e = .returned (.tuple #[.slice (some ⟨w.heap.size, 0, none⟩) 64 64, .int .i64 0]) ∧ RowK .u8 w' w'.heap.size (some ⟨w.heap.size, 0, none⟩) 64 (frameL L f) ∧ Below w.heap.size w w' := by
  have hn := hS.2.2.2
  have hlt := hS.lt
  have hl := hS.2.1
  have hfl := length_frameL hl (f := f) (by omega)
  have HR := Lib.hid ((hS.frame f (by omega)).more (B' := w.heap.size) (by omega))
  have hmk : ∀ W, (Instr.makeSlice 70 (.int .i64 64) (.int .i64 64)).run Tryz.prog W = .ok (.slice (some ⟨W.heap.size, 0, none⟩) 64 64) (W.alloc (.cells (madeCells #[.int .u8 0] 64) 5)) := fun W => run_make_row' (P := Tryz.prog) 70 5 (.int .u8 0) 1 Tryz.underlying70 info_byte rfl .i64 .i64 64 (by omega) (by omega) W
  have HG := Lib.hid (made_heap w (.int .u8 0) 64 5)
  have HA : Below w.heap.size w (w.alloc (.cells (madeCells #[.int .u8 0] 64) 5)) := (Below.refl _ _).alloc (Nat.le_refl _) _
  have HL : 64 ≤ (List.replicate 64 (Value.int .u8 0)).length := by rw [List.length_replicate]; omega
  have HS := Lib.hid hS
  have HF := Lib.hid hf
  have HFL := Lib.hid hfl
  clear hS hf hn hl hfl hlt
  go_enter Tryz.func21, Tryz.ntmps21
  go_wp2_with (first | (go_at_call 55; refine (find_in b n f L w HS.out HF.out).mono ?_; rintro e w' ⟨rfl, rfl⟩) | (refine wpList_copy_head rfl (.tmp 19) (.tmp 22) 70 70 rfl 5 Tryz.underlying70 size_byte w.heap.size 64 64 64 64 _ _ _ (frameL L f) rfl rfl _ 5 HG.out (HR.out.below HA) (Nat.le_refl _) HL w.heap.size w HA (Nat.le_refl _) ?_; intro w2 HG2 hb2))
  have hI : w2.rowIs w.heap.size 5 64 (fun i => .int .u8 ((frameL L f).getD i 0)) := by
    have h := HG2.out
    rw [List.drop_of_length_le (by rw [List.length_replicate]; omega), List.append_nil] at h
    have := is_of_list h
    rwa [HFL.out] at this
  have HI := Lib.hid (RowK.of_is hI (frameL L f) HFL.out (fun i _ => rfl))
  clear HG2 HG hI
  go_ret2
  exact ⟨rfl, HI.out, hb2⟩
end Go.Proofs.YteaincdeoajkeaaGreatDoor.Fr
end
section
/- A region that draws its order of evaluation, by what each operation yields and what all of them keep: one case for each operation, whatever the order; the same in a round of a range over a function. -/
namespace Go.Proofs.YteaincdeoajkeaaGreatDoor.Ut
open Go.RowKit

/-- the operations that must come ahead of o -/
def depsOf (o : Oper) : List Nat := (o.after.toList.filter fun e => Region.binds .any e).map (·.on)
/-- all that comes ahead lies ahead; all but the last one is wanted by one behind it -/
def goodOrder (ops : Array Oper) : Bool :=
  ((List.range ops.size).all fun i => ((ops[i]?).map fun o => (depsOf o).all fun j => decide (j < i)).getD true) &&
  ((List.range (ops.size - 1)).all fun j => (List.range ops.size).any fun k => decide (j < k) && ((ops[k]?).map fun o => (depsOf o).contains j).getD false)

/-- whatever is listed, so is what comes ahead of it -/
def Closed (ops : Array Oper) (L : Nat → Bool) : Prop := ∀ k o, ops[k]? = some o → L k = true → ∀ j ∈ depsOf o, L j = true
/-- all that stands ahead of number k must come ahead of it -/
def allBefore (ops : Array Oper) (k : Nat) : Bool := (List.range k).all fun j => (List.range (k + 1)).any fun m => decide (j < m) && ((ops[m]?).map fun o => (depsOf o).contains j).getD false
theorem Closed.all {ops : Array Oper} {L : Nat → Bool} (h : Closed ops L) {k : Nat} (hk : allBefore ops k = true) (hL : L k = true) : ∀ j, j < k → L j = true := by
  unfold allBefore at hk
  simp only [List.all_eq_true, List.mem_range, List.any_eq_true, Bool.and_eq_true, decide_eq_true_eq] at hk
  have key : ∀ m j, k - j = m → j < k → L j = true := by
    intro m
    induction m using Nat.strongRecOn with
    | _ m ihm =>
      intro j hjm hj
      obtain ⟨q, hq, hjq, hc⟩ := hk j hj
      cases ho : ops[q]? with
      | none => rw [ho] at hc; cases hc
      | some o =>
        have hmem : j ∈ depsOf o := by simpa [ho] using hc
        by_cases e : q = k
        · subst e; exact h q o ho hL j hmem
        · exact h q o ho (ihm (k - q) (by omega) q rfl (by omega)) j hmem
  exact fun j hj => key _ j rfl hj
theorem Closed.none {ops : Array Oper} {L : Nat → Bool} (h : Closed ops L) {k i : Nat} (hk : allBefore ops k = true) (hi : i < k) (hL : L i = false) : L k = false := by
  cases e : L k with
  | false => rfl
  | true => rw [h.all hk e i hi] at hL; cases hL

def upd (x : Nat → Value) (i : Nat) (v : Value) : Nat → Value := fun j => if j = i then v else x j

section
variable {P : Program} {ops : Array Oper} {Q : Exit → Act → World → Prop} {T : (Nat → Value) → Array Value} {d : List Deferred} {R : Nat → Value → World → Prop} {WI : (Nat → Bool) → World → Prop} {Le : Nat → World → World → Prop}

/-- what is asked of operation o, number i -/
def StepOk (P : Program) (ops : Array Oper) (Q : Exit → Act → World → Prop) (T : (Nat → Value) → Array Value) (d : List Deferred) (R : Nat → Value → World → Prop) (WI : (Nat → Bool) → World → Prop) (Le : Nat → World → World → Prop) (i : Nat) (o : Oper) : Prop :=
  ∀ (L : Nat → Bool) (x : Nat → Value) (w : World), L i = false → Closed ops L → WI L w → (∀ j ∈ depsOf o, R j (x j) w) → ∀ K : Act → World → Prop, (∀ v w' tm, tm = T (upd x i v) → R i v w' → WI (fun j => if j = i then true else L j) w' → Le i w w' → K { tmps := tm, defers := d } w') →
    if Region.wanted o (yielded ops (T x)) = true then Oper.wp P o { tmps := T x, defers := d } w K Q else K (Act.put { tmps := T x, defers := d } o.dst undef) w
/-- .. of the last one -/
def LastOk (P : Program) (ops : Array Oper) (Q : Exit → Act → World → Prop) (T : (Nat → Value) → Array Value) (d : List Deferred) (R : Nat → Value → World → Prop) (WI : (Nat → Bool) → World → Prop) (i : Nat) (o : Oper) : Prop :=
  ∀ (L : Nat → Bool) (x : Nat → Value) (w : World), L i = false → (∀ j, j < i → L j = true) → WI L w → (∀ j, j < i → R j (x j) w) → ∀ K : Act → World → Prop, (∀ a' w', Q .normal a' w' → K a' w') →
    if Region.wanted o (yielded ops (T x)) = true then Oper.wp P o { tmps := T x, defers := d } w K Q else K (Act.put { tmps := T x, defers := d } o.dst undef) w

/-- the operations from number k on -/
def StepsFrom (P : Program) (ops : Array Oper) (Q : Exit → Act → World → Prop) (T : (Nat → Value) → Array Value) (d : List Deferred) (R : Nat → Value → World → Prop) (WI : (Nat → Bool) → World → Prop) (Le : Nat → World → World → Prop) (k : Nat) (l : List Oper) : Prop :=
  ∀ j o, l[j]? = some o → if j + 1 = l.length then LastOk P ops Q T d R WI (k + j) o else StepOk P ops Q T d R WI Le (k + j) o

theorem steps_last {k : Nat} {o : Oper} (h : LastOk P ops Q T d R WI k o) : StepsFrom P ops Q T d R WI Le k [o] := fun j o' hj => by
  cases j with
  | zero => simp at hj; subst hj; simpa using h
  | succ j => simp at hj
theorem steps_cons {k : Nat} {o o' : Oper} {l : List Oper} (h : StepOk P ops Q T d R WI Le k o) (hs : StepsFrom P ops Q T d R WI Le (k + 1) (o' :: l)) : StepsFrom P ops Q T d R WI Le k (o :: o' :: l) := fun j p hj => by
  cases j with
  | zero =>
    simp at hj
    subst hj
    simpa using h
  | succ j =>
    have := hs j p (by simpa using hj)
    simp only [List.length_cons] at this ⊢
    have e : k + (j + 1) = k + 1 + j := by omega
    rw [e]
    by_cases hl : j + 1 = l.length + 1
    · rw [if_pos (by omega)]; rwa [if_pos hl] at this
    · rw [if_neg (by omega)]; rwa [if_neg hl] at this

/-- .. with what comes ahead written out -/
theorem steps_op {k : Nat} {o o' : Oper} {l : List Oper} (ds : List Nat) (hd : depsOf o = ds)
    (h : ∀ (L : Nat → Bool) (x : Nat → Value) (w : World), L k = false → Closed ops L → WI L w → (∀ j ∈ ds, R j (x j) w) → ∀ K : Act → World → Prop, (∀ v w' tm, tm = T (upd x k v) → R k v w' → WI (fun j => if j = k then true else L j) w' → Le k w w' → K { tmps := tm, defers := d } w') →
      if Region.wanted o (yielded ops (T x)) = true then Oper.wp P o { tmps := T x, defers := d } w K Q else K (Act.put { tmps := T x, defers := d } o.dst undef) w)
    (hs : StepsFrom P ops Q T d R WI Le (k + 1) (o' :: l)) : StepsFrom P ops Q T d R WI Le k (o :: o' :: l) := steps_cons (by subst hd; exact h) hs

theorem count_set (l : Array Bool) (i : Nat) (hi : l.getD i true = false) : (l.setIfInBounds i true).toList.count false + 1 = l.toList.count false := by
  obtain ⟨l⟩ := l
  have hlt : i < l.length := by
    rcases Nat.lt_or_ge i l.length with h | h
    · exact h
    · rw [Array.getD, dif_neg (by simpa using h)] at hi; cases hi
  have he : l[i] = false := by simpa [Array.getD, hlt] using hi
  simp only [List.setIfInBounds_toArray]
  rw [List.count_set hlt]
  have hp : 0 < l.count false := List.count_pos_iff.2 (by rw [← he]; exact List.getElem_mem hlt)
  simp [he]
  omega

theorem getD_set (l : Array Bool) (i j : Nat) : (l.setIfInBounds i true).getD j true = if j = i then true else l.getD j true := by
  obtain ⟨l⟩ := l
  simp only [List.setIfInBounds_toArray]
  by_cases h : j < l.length
  · by_cases e : j = i
    · subst e; simp [Array.getD, h]
    · simp [Array.getD, h, e, Ne.symm e]
  · by_cases e : j = i <;> simp [Array.getD, h, e]

theorem wpAny_by (hok : goodOrder ops = true) (hLe : ∀ i j L v w w', i ≠ j → Closed ops L → L i = false → L j = true → Le i w w' → R j v w → R j v w') (hs : StepsFrom P ops Q T d R WI Le 0 ops.toList) :
    ∀ (fuel : Nat) (L : Array Bool) (x : Nat → Value) (w : World), L.size = ops.size → L.toList.count false ≤ fuel → L.getD (ops.size - 1) true = false →
      (∀ k o, ops[k]? = some o → L.getD k true = true → ∀ j ∈ depsOf o, L.getD j true = true) → WI (fun j => L.getD j true) w → (∀ j, j < ops.size → L.getD j true = true → R j (x j) w) →
      wpAny P .any ops Q fuel L { tmps := T x, defers := d } w := by
  unfold goodOrder at hok
  simp only [Bool.and_eq_true, List.all_eq_true, List.mem_range, List.any_eq_true, decide_eq_true_eq] at hok
  obtain ⟨ho1, ho2⟩ := hok
  have hdep : ∀ k o, ops[k]? = some o → ∀ j ∈ depsOf o, j < k := fun k o hk j hj => by
    have hlt : k < ops.size := (Array.getElem?_eq_some_iff.1 hk).1
    have := ho1 k hlt
    simp only [hk, Option.map_some, Option.getD_some, List.all_eq_true, decide_eq_true_eq] at this
    exact this j hj
  have hnext : ∀ j, j < ops.size - 1 → ∃ k o, ops[k]? = some o ∧ j < k ∧ j ∈ depsOf o := fun j hj => by
    obtain ⟨k, hk, hjk, hc⟩ := ho2 j hj
    refine ⟨k, ops[k], by simp [hk], hjk, ?_⟩
    simpa [hk] using hc
  intro fuel
  induction fuel with
  | zero =>
    intro L x w hsz hc hlast _ _ _
    exfalso
    have h2 : false ∈ L.toList := by
      have hlt : ops.size - 1 < L.size := by
        rcases Nat.lt_or_ge (ops.size - 1) L.size with h | h
        · exact h
        · rw [Array.getD, dif_neg (by omega)] at hlast; cases hlast
      rw [Array.getD, dif_pos hlt] at hlast
      rw [← hlast]; exact Array.mem_toList_iff.2 (Array.getElem_mem hlt)
    have := List.count_pos_iff.2 h2
    omega
  | succ fuel ih =>
    intro L x w hsz hc hlast hcl hw hR
    have hlt : ops.size - 1 < ops.size := by
      rcases Nat.lt_or_ge (ops.size - 1) L.size with h | h
      · omega
      · rw [Array.getD, dif_neg (by omega)] at hlast; cases hlast
    have hready : ∀ i, i ∈ Region.ready .any ops L ↔ ∃ o, ops[i]? = some o ∧ L.getD i true = false ∧ ∀ j ∈ depsOf o, L.getD j true = true := fun i => by
      unfold Region.ready
      simp only [List.mem_filter, List.mem_range, Bool.and_eq_true, Bool.not_eq_true']
      constructor
      · rintro ⟨hi, hn, hd⟩
        refine ⟨ops[i], by simp [hi], hn, fun j hj => ?_⟩
        have hj' := hdep i ops[i] (by simp [hi]) j hj
        simp only [depsOf, List.mem_map, List.mem_filter, Array.mem_toList_iff] at hj
        obtain ⟨e, ⟨he, hb⟩, rfl⟩ := hj
        simp only [Array.getElem?_eq_getElem hi, Option.map_some, Option.getD_some, Array.all_eq_true'] at hd
        have := hd e he
        simp only [hb, Bool.not_true, Bool.false_or] at this
        rw [Array.getD, dif_pos (by omega)] at this ⊢
        exact this
      · rintro ⟨o, ho, hn, hd⟩
        have hi : i < ops.size := (Array.getElem?_eq_some_iff.1 ho).1
        refine ⟨hi, hn, ?_⟩
        simp only [ho, Option.map_some, Option.getD_some, Array.all_eq_true']
        intro e he
        cases hb : Region.binds .any e with
        | false => rfl
        | true =>
          have hmem : e.on ∈ depsOf o := by
            simp only [depsOf, List.mem_map, List.mem_filter, Array.mem_toList_iff]
            exact ⟨e, ⟨he, hb⟩, rfl⟩
          have h1 := hd _ hmem
          have h2 := hdep i o ho _ hmem
          simp only [Bool.not_true, Bool.false_or]
          rw [Array.getD, dif_pos (by omega)] at h1 ⊢
          exact h1
    refine ⟨fun h0 => ?_, fun i hi => ?_⟩
    · -- the least one that is not listed may come up
      exfalso
      have key : ∀ i, i < ops.size → L.getD i true = true := by
        intro i
        induction i using Nat.strongRecOn with
        | _ i ihi =>
          intro hi
          cases hLi : L.getD i true with
          | true => rfl
          | false =>
            have : i ∈ Region.ready .any ops L := (hready i).2 ⟨ops[i], by simp [hi], hLi, fun j hj => by
              have hj' := hdep i ops[i] (by simp [hi]) j hj
              exact ihi j hj' (by omega)⟩
            rw [h0] at this; cases this
      rw [key _ hlt] at hlast; cases hlast
    · obtain ⟨o, ho, hn, hd⟩ := (hready i).1 hi
      have hil : i < ops.size := (Array.getElem?_eq_some_iff.1 ho).1
      have hstep := hs i o (by simpa using ho)
      simp only [Array.length_toList, Nat.zero_add] at hstep
      by_cases hlst : i + 1 = ops.size
      · rw [if_pos hlst] at hstep
        obtain rfl : i = ops.size - 1 := by omega
        have hall : ∀ m j, ops.size - 1 - j = m → j < ops.size - 1 → L.getD j true = true := by
          intro m
          induction m using Nat.strongRecOn with
          | _ m ihm =>
            intro j hjm hj
            obtain ⟨k, p, hk, hjk, hmem⟩ := hnext j hj
            have hkl : k < ops.size := (Array.getElem?_eq_some_iff.1 hk).1
            by_cases hkl' : k = ops.size - 1
            · subst hkl'
              rw [ho] at hk; cases hk
              exact hd j hmem
            · exact hcl k p hk (ihm (ops.size - 1 - k) (by omega) k rfl (by omega)) j hmem
        refine wpOp_step ho fun K hK => hstep (fun j => L.getD j true) x w hn (fun j hj => hall _ j rfl hj) hw (fun j hj => hR j (by omega) (hall _ j rfl hj)) K fun a' w' hq => hK _ _ ?_
        refine wpAny_done ?_ hq _
        unfold Region.ready
        rw [List.filter_eq_nil_iff]
        intro j hj
        simp only [List.mem_range] at hj
        rw [getD_set]
        by_cases e : j = ops.size - 1
        · simp [e]
        · simp [e, hall _ j rfl (by omega)]
      · rw [if_neg hlst] at hstep
        refine wpOp_step ho fun K hK => hstep (fun j => L.getD j true) x w hn hcl hw (fun j hj => hR j (by have := hdep i o ho j hj; omega) (hd j hj)) K fun v w' tm htm hv hw' hle => hK _ _ ?_
        subst htm
        have hcnt := count_set L i hn
        refine ih _ _ _ (by simpa using hsz) (by omega) ?_ ?_ (by rw [show (fun j => (L.setIfInBounds i true).getD j true) = fun j => if j = i then true else L.getD j true from funext fun j => getD_set L i j]; exact hw') ?_
        · rw [getD_set, if_neg (by omega)]; exact hlast
        · intro k p hk hk2 j hj
          rw [getD_set] at hk2 ⊢
          split
          · rfl
          · by_cases e : k = i
            · subst e
              rw [ho] at hk; cases hk
              exact hd j hj
            · rw [if_neg e] at hk2
              exact hcl k p hk hk2 j hj
        · intro j hj hlj
          rw [getD_set] at hlj
          unfold upd
          by_cases e : j = i
          · subst e; rw [if_pos rfl]; exact hv
          · rw [if_neg e] at hlj ⊢
            exact hLe i j (fun j => L.getD j true) _ _ _ (fun h => e h.symm) hcl hn hlj hle (hR j hj hlj)

/-- THE REGION, whatever the order -/
theorem wp_region_by {id : Nat} {a : Act} {w : World} (hm : P.follows .mixedOrders = true) (T : (Nat → Value) → Array Value) (R : Nat → Value → World → Prop) (WI : (Nat → Bool) → World → Prop) (Le : Nat → World → World → Prop)
    (hok : goodOrder ops = true) (hn : 0 < ops.size) (hLe : ∀ i j L v w w', i ≠ j → Closed ops L → L i = false → L j = true → Le i w w' → R j v w → R j v w') (x : Nat → Value) (ha : a = { tmps := T x, defers := a.defers }) (hw : ∀ L, (∀ j, j < ops.size → L j = false) → WI L w.drew)
    (hs : StepsFrom P ops Q T a.defers R WI Le 0 ops.toList) : (Code.region id ops true).wp P Q a w := by
  refine wp_region_any hm ?_
  rw [ha]
  refine wpAny_by hok hLe hs ops.size _ x _ (by simp) (by simp) (by simp [Array.getD]; omega) (fun k o hk h => ?_) (hw _ fun j hj => by simp [Array.getD, hj]) (fun j hj h => ?_)
  · have hkl : k < ops.size := (Array.getElem?_eq_some_iff.1 hk).1
    simp [Array.getD, hkl] at h
  · simp [Array.getD, hj] at h

/-! ### In a round -/
theorem opIn_of {F : Fence} {n : Nat} {o : Oper} {a : Act} {w : World} {K : Act → World → Prop} (hF : F = Fence.wide ∨ ∃ l, F = Fence.wide.inRound l) (hd : ∀ c, o.op ≠ .defer c) (h : o.wp P a w K Q) : o.wpIn F n P a w K Q := by
  have hsem : o.semAt F.round a.eval = execOp a.eval o := Oper.semAt_eq _ _ _ hd
  have hfn : ∀ f, F.fn f := by rcases hF with rfl | ⟨l, rfl⟩ <;> exact fun _ => trivial
  have hdp : F.depth.isSome = true → 1 ≤ n := by rcases hF with rfl | ⟨l, rfl⟩ <;> (intro hh; cases hh)
  refine ⟨fun f _ => hfn f, ?_⟩
  rw [hsem]
  unfold Oper.wp at h
  generalize (execOp a.eval o).run P w = r at h
  have hcalls : ∀ f args w' R, Calls P f args w' R → CallsIn F (n - 1) P f args w' R := fun f args w' R hc => by
    rcases hF with rfl | ⟨l, rfl⟩
    · exact callsIn_wide.2 hc
    · exact CallsIn.inRound l (callsIn_wide.2 hc)
  cases r with
  | ok x w' =>
    cases x with
    | value v => exact h
    | skip => exact h
    | defer _ => exact h
    | enter f args => exact ⟨hdp, hcalls _ _ _ _ h⟩
    | row row args =>
      refine ⟨hdp, fun c cs _ => ?_⟩
      obtain ⟨v, w'', r, s⟩ := h c cs
      refine ⟨v, w'', r, ?_⟩
      rcases hF with rfl | ⟨l, rfl⟩
      · exact stepsIn_wide.2 s
      · exact stepsIn_wide.2 s
    | _ => exact h.elim
  | halt x w' => cases x <;> exact h

theorem wpAnyIn_of {F : Fence} {n : Nat} (hF : F = Fence.wide ∨ ∃ l, F = Fence.wide.inRound l) (hd : ∀ (i : Nat) (o : Oper), ops[i]? = some o → ∀ c, o.op ≠ .defer c) (hQ : ¬ LetsOut Q) :
    ∀ (fuel : Nat) (L : Array Bool) (a : Act) (w : World), wpAny P .any ops Q fuel L a w → wpAnyIn F n P .any ops Q fuel L a w := by
  have hfn : ∀ f, F.fn f := by rcases hF with rfl | ⟨l, rfl⟩ <;> exact fun _ => trivial
  intro fuel
  induction fuel with
  | zero => exact fun L a w h => h
  | succ fuel ih =>
    intro L a w h
    refine ⟨h.1, fun i hi => ?_⟩
    have hop := h.2 i hi
    unfold wpOpIn
    unfold wpOp at hop
    cases ho : ops[i]? with
    | none => simp only [ho] at hop ⊢; exact ih _ _ _ hop
    | some o =>
      simp only [ho] at hop ⊢
      split
      · rename_i hw
        rw [if_pos hw] at hop
        rcases hop with hop | ⟨_, hl⟩
        · exact opIn_of hF (hd i o ho) (Oper.wp_mono (fun a w h => ih _ a w h) hop)
        · exact absurd hl hQ
      · rename_i hw
        rw [if_neg hw] at hop
        exact ⟨fun f _ => hfn f, ih _ _ _ hop⟩

/-- THE REGION, whatever the order, in a round too -/
theorem wpIn_region_by {F : Fence} {n : Nat} {id : Nat} {a : Act} {w : World} (hF : F = Fence.wide ∨ ∃ l, F = Fence.wide.inRound l) (hd : (ops.all fun (o : Oper) => match o.op with | .defer _ => false | _ => true) = true) (hQ : ¬ LetsOut Q)
    (hm : P.follows .mixedOrders = true) (T : (Nat → Value) → Array Value) (R : Nat → Value → World → Prop) (WI : (Nat → Bool) → World → Prop) (Le : Nat → World → World → Prop)
    (hok : goodOrder ops = true) (hn : 0 < ops.size) (hLe : ∀ i j L v w w', i ≠ j → Closed ops L → L i = false → L j = true → Le i w w' → R j v w → R j v w') (x : Nat → Value) (ha : a = { tmps := T x, defers := a.defers }) (hw : ∀ L, (∀ j, j < ops.size → L j = false) → WI L w.drew)
    (hs : StepsFrom P ops Q T a.defers R WI Le 0 ops.toList) : (Code.region id ops true).wpIn F n P Q a w := by
  refine wpIn_region_any hm (wpAnyIn_of hF (fun i o ho c e => ?_) hQ _ _ _ _ ?_)
  · rw [Array.all_eq_true] at hd
    obtain ⟨hi, rfl⟩ := Array.getElem?_eq_some_iff.1 ho
    have := hd i hi
    rw [e] at this
    cases this
  · rw [ha]
    refine wpAny_by hok hLe hs ops.size _ x _ (by simp) (by simp) (by simp [Array.getD]; omega) (fun k o hk h => ?_) (hw _ fun j hj => by simp [Array.getD, hj]) (fun j hj h => ?_)
    · have hkl : k < ops.size := (Array.getElem?_eq_some_iff.1 hk).1
      simp [Array.getD, hkl] at h
    · simp [Array.getD, hj] at h
end
end Go.Proofs.YteaincdeoajkeaaGreatDoor.Ut
end
section
/- Drawn regions with neither the frame nor the operations' values written out: both are found as the walk goes. -/
namespace Go.Proofs.YteaincdeoajkeaaGreatDoor.Ut
open Go.RowKit

def nth : List Value → Nat → Value
  | [], _ => undef
  | v :: _, 0 => v
  | _ :: l, n + 1 => nth l n
theorem hd_nth' : ∀ {vals : List Value} {j : Nat} {v u : Value}, v = nth vals j → vals[j]? = some u → v = u
  | [], j, _, _, _, hu => by simp at hu
  | a :: l, 0, _, _, h, hu => by
    simp at hu
    rw [h, ← hu]
    rfl
  | a :: l, j + 1, _, _, h, hu => hd_nth' (vals := l) (j := j) h (by simpa using hu)

def RV (vals : List Value) : Nat → Value → World → Prop := fun j v _ => v = nth vals j
theorem hd_nth {vals : List Value} {j : Nat} {v u : Value} {w : World} (h : RV vals j v w) (hu : vals[j]? = some u) : v = u := hd_nth' h hu
/-- the frame F with y k, y (k + 1), .. in the slots -/
def setAll (F : Array Value) : List Nat → Nat → (Nat → Value) → Array Value
  | [], _, _ => F
  | s :: l, k, y => setAll (F.setIfInBounds s (y k)) l (k + 1) y
theorem set_self (F : Array Value) (s : Nat) : F.setIfInBounds s (F.getD s undef) = F := by
  obtain ⟨l⟩ := F
  by_cases h : s < l.length
  · simp [Array.getD, h]
  · simp only [List.setIfInBounds_toArray]
    rw [List.set_eq_of_length_le (by omega)]
theorem setAll_self (F : Array Value) : ∀ (l : List Nat) (k : Nat) (y : Nat → Value), (∀ j s, l[j]? = some s → y (k + j) = F.getD s undef) → setAll F l k y = F
  | [], _, _, _ => rfl
  | s :: l, k, y, h => by
    have h0 := h 0 s rfl
    rw [Nat.add_zero] at h0
    unfold setAll
    rw [h0, set_self]
    exact setAll_self F l (k + 1) y fun j s hj => by
      have := h (j + 1) s (by simpa using hj)
      rwa [show k + 1 + j = k + (j + 1) by omega]

section
variable {P : Program} {ops : Array Oper} {Q : Exit → Act → World → Prop} {T : (Nat → Value) → Array Value} {d : List Deferred} {WI : World → Prop} {vals : List Value}

/-- what the operations from number k on are asked, by values alone -/
def AutoFrom (P : Program) (ops : Array Oper) (Q : Exit → Act → World → Prop) (T : (Nat → Value) → Array Value) (d : List Deferred) (vals : List Value) (WI : World → Prop) (k : Nat) (l : List Oper) : Prop :=
  StepsFrom P ops Q T d (RV vals) (fun _ W => WI W) (fun _ _ _ => True) k l

theorem auto_op {k : Nat} {o o' : Oper} {l : List Oper} (s : Nat) (ds : List Nat) (hd : depsOf o = ds)
    (h : ∀ (x : Nat → Value) (w : World), WI w → (∀ j ∈ ds, RV vals j (x j) w) → ∀ K : Act → World → Prop, (∀ tm w', tm = T (upd x k (tm.getD s undef)) → tm.getD s undef = nth vals k → WI w' → K { tmps := tm, defers := d } w') →
      if Region.wanted o (yielded ops (T x)) = true then Oper.wp P o { tmps := T x, defers := d } w K Q else K (Act.put { tmps := T x, defers := d } o.dst undef) w)
    (hs : AutoFrom P ops Q T d vals WI (k + 1) (o' :: l)) : AutoFrom P ops Q T d vals WI k (o :: o' :: l) := by
  refine steps_op ds hd (fun L x w _ _ hw hR K hK => h x w hw hR K fun tm w' ht hv hw' => ?_) hs
  exact hK _ w' tm ht hv hw' trivial
theorem auto_last {k : Nat} {o : Oper}
    (h : ∀ (x : Nat → Value) (w : World), WI w → (∀ j, j < k → RV vals j (x j) w) → ∀ K : Act → World → Prop, (∀ a' w', Q .normal a' w' → K a' w') →
      if Region.wanted o (yielded ops (T x)) = true then Oper.wp P o { tmps := T x, defers := d } w K Q else K (Act.put { tmps := T x, defers := d } o.dst undef) w) : AutoFrom P ops Q T d vals WI k [o] :=
  steps_last fun _ x w _ _ hw hR K hK => h x w hw hR K hK

/-- THE REGION: apply it; T and the values come by unification -/
theorem wp_region_auto {id : Nat} {a : Act} {w : World} (slots : List Nat) (vals : List Value) (WI : World → Prop) (hm : P.follows .mixedOrders = true) (hT : ∀ y, setAll a.tmps slots 0 y = T y) (hok : goodOrder ops = true) (hn : 0 < ops.size) (hw : WI w.drew)
    (hs : AutoFrom P ops Q T a.defers vals WI 0 ops.toList) : (Code.region id ops true).wp P Q a w := by
  refine wp_region_by hm T (RV vals) (fun _ W => WI W) (fun _ _ _ => True) hok hn (fun _ _ _ _ _ _ _ _ _ _ _ h => h) (fun j => a.tmps.getD (slots.getD j 0) undef) ?_ (fun _ _ => hw) hs
  rw [← hT, setAll_self]
  intro j s hj
  simp [List.getD, hj]
end
end Go.Proofs.YteaincdeoajkeaaGreatDoor.Ut
end
