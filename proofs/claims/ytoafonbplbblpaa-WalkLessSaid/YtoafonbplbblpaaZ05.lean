/- Several texts in one: Id Ie -/
import Derived.Test.YtoafonbplbblpaaZ03
import Derived.Test.YtoafonbplbblpaaZ04
import Derived.Deep.AppendLies
section
/- The document's store of frames: a slice of slices of bytes, told by a list of lists; its methods but New and Clean. -/
namespace Go.Proofs.Ytoafonbplbblpaa.Fr
open Go.RowKit Ut Oc
set_option linter.unusedVariables false

/-- a slice of a frame's bytes, in memory of its own from block B on -/
def Row64 (w : World) (B : Nat) (v : Value) (xs : List Int) : Prop :=
  ∃ g c, v = .slice (some ⟨g, 0, none⟩) 64 c ∧ B ≤ g ∧ 64 ≤ c ∧ c ≤ 9223372036854775807 ∧ RowK .u8 w w.heap.size (some ⟨g, 0, none⟩) 64 xs

theorem Row64.kept {w w' : World} {B : Nat} {v : Value} {xs : List Int} {row : Option Nat} (h : Row64 w B v xs) (hg : w.grownBy w' row) (hr : ∀ g, v.ownBlock = some g → row ≠ some g) : Row64 w' B v xs := by
  obtain ⟨g, c, rfl, hB, h1, h2, h3⟩ := h
  refine ⟨g, c, rfl, hB, h1, h2, h3.1, fun i hi => ?_⟩
  obtain ⟨x, e, hx, hc⟩ := h3.2 i hi
  injection e with e
  subst e
  refine ⟨_, rfl, Nat.lt_of_lt_of_le hx hg.size, ?_⟩
  rw [World.cell?_of_block (w := w)]
  · exact hc
  · rw [block_of_add]
    exact hg.block g hx (fun e => hr g rfl e.symm)

/-- block bt is the document's store; its frames' bytes are R; all its memory lies from block B on -/
structure RT (w : World) (bt B n : Nat) (R : List (List Int)) (v : Value) (vs : List Value) : Prop where
  box : w.heap[bt]? = some (.cells #[v] 121 (0, 0))
  lo : B ≤ bt
  own : w.ownsRow B 122 1 v n vs
  len : R.length = n
  rows : ∀ i, i < n → Row64 w B (vs.getD i undef) (R.getD i [])
  bytes : ∀ i, i < n → AreBytes (R.getD i [])
  nil0 : n = 0 → v = .slice none 0 0

section
variable {w w' : World} {bt B n : Nat} {R : List (List Int)} {v : Value} {vs : List Value}
theorem RT.lt (h : RT w bt B n R v vs) : bt < w.heap.size := (Array.getElem?_eq_some_iff.1 h.box).1
theorem RT.vlen (h : RT w bt B n R v vs) : vs.length = n := by have := h.own.1; simpa using this
/-- what is done below block B, or in new blocks, leaves it as it was -/
theorem RT.kept {row : Option Nat} (h : RT w bt B n R v vs) (hg : w.grownBy w' row) (hr : ∀ k, row = some k → k < B) : RT w' bt B n R v vs where
  box := by rw [hg.block bt h.lt (fun e => by have := hr bt e.symm; have := h.lo; omega)]; exact h.box
  lo := h.lo
  own := h.own.kept hg (by
    cases hv : v.ownBlock with
    | none => exact .inl rfl
    | some g => exact .inr fun e => by have := hr g e.symm; have := (h.own.lt g hv).1; omega)
  len := h.len
  rows := fun i hi => (h.rows i hi).kept hg (fun g hgv e => by
    obtain ⟨g', c, hv, hB, _⟩ := h.rows i hi
    rw [hv] at hgv
    simp [Value.ownBlock] at hgv
    have := hr g e
    omega)
  bytes := h.bytes
  nil0 := h.nil0
theorem grown_of_below (hb : Below w.heap.size w w') : w.grownBy w' none := ⟨hb.os, hb.tape, hb.output, hb.size, fun k hk _ => hb.block k hk⟩
theorem RT.below (h : RT w bt B n R v vs) (hb : Below w.heap.size w w') : RT w' bt B n R v vs := h.kept (grown_of_below hb) (fun k hk => by cases hk)
theorem RT.cell0 (h : RT w bt B n R v vs) : w.cell? ⟨bt, 0, none⟩ = some v := by simp [World.cell?, h.box]
/-- the slice of its frames -/
theorem RT.form (h : RT w bt B n R v vs) (hn : 0 < n) : ∃ g cap, v = .slice (some ⟨g, 0, none⟩) n cap ∧ B ≤ g ∧ g < w.heap.size := h.own.form hn
theorem RT.form0 (h : RT w bt B n R v vs) : ∃ a cap, v = .slice a n cap := by
  rcases h.own.2 with ⟨rfl, rfl⟩ | ⟨g, cap, cur, rfl, _⟩
  · exact ⟨none, 0, rfl⟩
  · exact ⟨_, cap, rfl⟩
/-- frame f -/
theorem RT.at_ {gv cap : Nat} (h : RT w bt B n R (.slice (some ⟨gv, 0, none⟩) n cap) vs) (f : Nat) (hf : f < n) :
    ∃ g c, w.cell? ⟨gv, f, none⟩ = some (.slice (some ⟨g, 0, none⟩) 64 c) ∧ 64 ≤ c ∧ c ≤ 9223372036854775807 ∧ RowK .u8 w w.heap.size (some ⟨g, 0, none⟩) 64 (R.getD f []) := by
  obtain ⟨g, c, hv, hB, h1, h2, h3⟩ := h.rows f hf
  refine ⟨g, c, ?_, h1, h2, h3⟩
  rw [h.own.cellAt f (by omega)]
  have hl := h.vlen
  simp only [List.getD, List.getElem?_eq_getElem (show f < vs.length by omega), Option.getD_some] at hv
  rw [List.getElem?_eq_getElem (by omega), hv]
/-- a frame's slice turned to another one -/
theorem RT.set {gv cap : Nat} (h : RT w bt B n R (.slice (some ⟨gv, 0, none⟩) n cap) vs) (f : Nat) (hf : f < n) (u : Value) (xs : List Int) (hu : Row64 w B u xs) (hx : AreBytes xs) :
    RT (w.setCell ⟨gv, f, none⟩ u) bt B n (R.set f xs) (.slice (some ⟨gv, 0, none⟩) n cap) (vs.set f u) := by
  obtain ⟨ho, hg⟩ := h.own.stored f u
  have hl := h.vlen
  have hR := h.len
  have hne : ∀ (y : Value) (ys : List Int), Row64 w B y ys → ∀ g, y.ownBlock = some g → some gv ≠ some g := by
    intro y ys hy g hyg e
    injection e with e
    subst e
    obtain ⟨g', c, hv, _, h1, _, h3⟩ := hy
    subst hv
    simp [Value.ownBlock] at hyg
    subst hyg
    obtain ⟨x, e, _, hc⟩ := h3.2 0 (by omega)
    injection e with e
    subst e
    rw [add_plain] at hc
    obtain ⟨q1, q2, hq, _⟩ := h.at_ 0 (by omega)
    rw [hq] at hc
    cases hc
  refine ⟨?_, h.lo, ho, by rw [List.length_set]; exact hR, fun i hi => ?_, fun i hi => ?_, fun e => by omega⟩
  · rw [hg.block bt h.lt (fun e => ?_)]
    · exact h.box
    · injection e with e
      subst e
      have hb := h.box
      rcases h.own.2 with ⟨hq, _⟩ | ⟨g2, cap2, cur, hq, _, hg2, _⟩
      · cases hq
      · injection hq with hq
        injection hq with hq
        injection hq with hq
        subst hq
        rw [hb] at hg2
        injection hg2 with hg2
        injection hg2 with _ hg2
        cases hg2
  · by_cases e : i = f
    · subst e
      have e1 : (vs.set i u).getD i undef = u := by simp [List.getD, show i < vs.length by omega]
      have e2 : (R.set i xs).getD i [] = xs := by simp [List.getD, show i < R.length by omega]
      rw [e1, e2]
      exact hu.kept hg (hne u xs hu)
    · have e1 : (vs.set f u).getD i undef = vs.getD i undef := by simp only [List.getD]; rw [List.getElem?_set_ne (fun q => e q.symm)]
      have e2 : (R.set f xs).getD i [] = R.getD i [] := by simp only [List.getD]; rw [List.getElem?_set_ne (fun q => e q.symm)]
      rw [e1, e2]
      exact (h.rows i hi).kept hg (hne _ _ (h.rows i hi))
  · by_cases e : i = f
    · subst e
      have e2 : (R.set i xs).getD i [] = xs := by simp [List.getD, show i < R.length by omega]
      rw [e2]; exact hx
    · have e2 : (R.set f xs).getD i [] = R.getD i [] := by simp only [List.getD]; rw [List.getElem?_set_ne (fun q => e q.symm)]
      rw [e2]; exact h.bytes i hi
end
end Go.Proofs.Ytoafonbplbblpaa.Fr
end
section
/- The document's store of frames: what Is, Load, Save, Bytes return and leave, for every argument. -/
namespace Go.Proofs.Ytoafonbplbblpaa.Fr
open Go.RowKit Ut Oc
set_option linter.unusedVariables false

theorem refIs_any (bt B n : Nat) (f : Int) (R : List (List Int)) (v : Value) (vs : List Value) (w : World) (hT : RT w bt B n R v vs) (b : Bool) (hb : b = (decide (0 ≤ f) && decide (f < n))) :
    Calls Try.prog 57 #[.pointer (some ⟨bt, 0, none⟩), .int .i64 f] w fun e w' => e = .returned (.bool b) ∧ w = w' := by
  have h0 := hT.cell0
  obtain ⟨a, cap, rfl⟩ := hT.form0
  clear hT
  subst hb
  rcases Int.lt_or_le f 0 with f0 | f0
  · have f1 : decide (0 ≤ f) = false := by simp; omega
    go_enter Try.func57, Try.ntmps57
    go_wp2
    go_ret
    exact ⟨by rw [f1]; rfl, rfl⟩
  · have f1 : decide (0 ≤ f) = true := by simpa using f0
    rcases Int.lt_or_le f n with f2 | f2
    · have f3 : decide (f < (n : Int)) = true := by simpa using f2
      go_enter Try.func57, Try.ntmps57
      go_wp2
      go_ret
      exact ⟨by rw [f1, f3]; rfl, rfl⟩
    · have f3 : decide (f < (n : Int)) = false := by simpa using f2
      go_enter Try.func57, Try.ntmps57
      go_wp2
      go_ret
      exact ⟨by rw [f1, f3]; rfl, rfl⟩
theorem refIs_in {bt B n f : Nat} {R : List (List Int)} {v : Value} {vs : List Value} {w : World} (hT : RT w bt B n R v vs) (hf : f < n) :
    Calls Try.prog 57 #[.pointer (some ⟨bt, 0, none⟩), .int .i64 f] w fun e w' => e = .returned (.bool true) ∧ w = w' :=
  refIs_any bt B n f R v vs w hT true (by have : (f : Int) < n := by omega
                                          simp [this])
theorem refIs_out {bt B n : Nat} {f : Int} {R : List (List Int)} {v : Value} {vs : List Value} {w : World} (hT : RT w bt B n R v vs) (hf : f < 0 ∨ n ≤ f) :
    Calls Try.prog 57 #[.pointer (some ⟨bt, 0, none⟩), .int .i64 f] w fun e w' => e = .returned (.bool false) ∧ w = w' :=
  refIs_any bt B n f R v vs w hT false (by
    rcases hf with h | h
    · simp [show ¬ 0 ≤ f by omega]
    · simp [show ¬ f < n by omega])

theorem refLoad_no {bt B n : Nat} {f : Int} (o m : Int) {R : List (List Int)} {v : Value} {vs : List Value} {w : World} (hT : RT w bt B n R v vs) (hf : f < 0 ∨ n ≤ f) :
    Calls Try.prog 83 #[.pointer (some ⟨bt, 0, none⟩), .int .i64 f, .int .i64 o, .int .i64 m] w fun e w' => e = .returned (.tuple #[.int .u32 0, .int .i64 1]) ∧ w = w' := by
  have HI := Lib.hid (refIs_out hT hf)
  clear hT hf
  go_enter Try.func83, Try.ntmps83
  go_wp2_with (go_at_call 57; refine HI.out.mono ?_; rintro e w' ⟨rfl, rfl⟩)
  go_ret2
  exact ⟨rfl, rfl⟩
theorem refSave_no {bt B n : Nat} {f : Int} (o m x : Int) {R : List (List Int)} {v : Value} {vs : List Value} {w : World} (hT : RT w bt B n R v vs) (hf : f < 0 ∨ n ≤ f) :
    Calls Try.prog 53 #[.pointer (some ⟨bt, 0, none⟩), .int .i64 f, .int .i64 o, .int .i64 m, .int .u32 x] w fun e w' => e = .returned (.int .i64 1) ∧ w = w' := by
  have HI := Lib.hid (refIs_out hT hf)
  clear hT hf
  go_enter Try.func53, Try.ntmps53
  go_wp2_with (go_at_call 57; refine HI.out.mono ?_; rintro e w' ⟨rfl, rfl⟩)
  go_ret
  exact ⟨rfl, rfl⟩
theorem refLoad_out {bt B n f : Nat} {o m : Int} {R : List (List Int)} {v : Value} {vs : List Value} {w : World} (hT : RT w bt B n R v vs) (hf : f < n) (h : hold 64 o m = false) :
    Calls Try.prog 83 #[.pointer (some ⟨bt, 0, none⟩), .int .i64 f, .int .i64 o, .int .i64 m] w fun e w' => e = .returned (.tuple #[.int .u32 0, .int .i64 1]) ∧ w = w' := by
  have HI := Lib.hid (refIs_in hT hf)
  have h0 := hT.cell0
  obtain ⟨gv, cap, rfl, _⟩ := hT.form (by omega)
  obtain ⟨g, c, h1, _, hc, _⟩ := hT.at_ f hf
  have f1 : (0 : Int) ≤ (f : Int) ∧ (f : Int) < (n : Int) := by omega
  clear hT
  go_enter Try.func83, Try.ntmps83
  go_wp2_with (first | (go_at_call 57; refine HI.out.mono ?_; rintro e w' ⟨rfl, rfl⟩) | (go_at_call 76; refine (refGet_no _ 64 _ o m _ frame_slice_bd h).mono ?_; rintro e w' ⟨rfl, rfl⟩))
  go_ret2
  exact ⟨rfl, rfl⟩
theorem refLoad_in {bt B n f o m : Nat} {R : List (List Int)} {v : Value} {vs : List Value} {w : World} (hT : RT w bt B n R v vs) (hf : f < n) (hm : isW m = true) (hi : o + m ≤ 64) :
    Calls Try.prog 83 #[.pointer (some ⟨bt, 0, none⟩), .int .i64 f, .int .i64 o, .int .i64 m] w fun e w' => e = .returned (.tuple #[.int .u32 (num (((R.getD f []).drop o).take m)), .int .i64 0]) ∧ w = w' := by
  have HI := Lib.hid (refIs_in hT hf)
  have h0 := hT.cell0
  obtain ⟨gv, cap, rfl, _⟩ := hT.form (by omega)
  obtain ⟨g, c, h1, _, hc, hr⟩ := hT.at_ f hf
  have HR := Lib.hid hr
  have HZ := Lib.hid (hT.bytes f hf)
  have HM := Lib.hid hm
  have HO := Lib.hid hi
  have f1 : (0 : Int) ≤ (f : Int) ∧ (f : Int) < (n : Int) := by omega
  clear hT hr hm hi
  go_enter Try.func83, Try.ntmps83
  go_wp2_with (first | (go_at_call 57; refine HI.out.mono ?_; rintro e w' ⟨rfl, rfl⟩) | (go_at_call 76; refine (refGet_yes _ 64 _ o m _ _ _ (by omega) HR.out HZ.out HM.out HO.out).mono ?_; rintro e w' ⟨rfl, rfl⟩))
  go_ret2
  exact ⟨rfl, rfl⟩
theorem refSave_out {bt B n f : Nat} {o m : Int} (x : Int) {R : List (List Int)} {v : Value} {vs : List Value} {w : World} (hT : RT w bt B n R v vs) (hf : f < n) (h : hold 64 o m = false) :
    Calls Try.prog 53 #[.pointer (some ⟨bt, 0, none⟩), .int .i64 f, .int .i64 o, .int .i64 m, .int .u32 x] w fun e w' => e = .returned (.int .i64 1) ∧ w = w' := by
  have HI := Lib.hid (refIs_in hT hf)
  have h0 := hT.cell0
  obtain ⟨gv, cap, rfl, _⟩ := hT.form (by omega)
  obtain ⟨g, c, h1, _, hc, _⟩ := hT.at_ f hf
  have f1 : (0 : Int) ≤ (f : Int) ∧ (f : Int) < (n : Int) := by omega
  clear hT
  go_enter Try.func53, Try.ntmps53
  go_wp2_with (first | (go_at_call 57; refine HI.out.mono ?_; rintro e w' ⟨rfl, rfl⟩) | (go_at_call 68; refine (refPut_no _ 64 _ o m x _ frame_slice_bd h).mono ?_; rintro e w' ⟨rfl, rfl⟩))
  go_ret
  exact ⟨rfl, rfl⟩
theorem refSave_own {bt B n f o m : Nat} {x : Int} {R : List (List Int)} {v : Value} {vs : List Value} {w : World} (hT : RT w bt B n R v vs) (hf : f < n) (hm : isW m = true) (hi : o + m ≤ 64) (hv0 : 0 ≤ x) (hv1 : x < 4294967296) :
    Calls Try.prog 53 #[.pointer (some ⟨bt, 0, none⟩), .int .i64 f, .int .i64 o, .int .i64 m, .int .u32 x] w fun e w' =>
      e = .returned (.int .i64 0) ∧ (∃ vs', RT w' bt B n (R.set f (putZ (R.getD f []) o m x)) v vs') ∧ w.grownBy w' v.ownBlock := by
  have HI := Lib.hid (refIs_in hT hf)
  have h0 := hT.cell0
  obtain ⟨gv, cap, rfl, hgB, hgl⟩ := hT.form (by omega)
  obtain ⟨g, c, h1, _, hc, hr⟩ := hT.at_ f hf
  have HR := Lib.hid hr
  have HZ := Lib.hid (hT.bytes f hf)
  have HM := Lib.hid hm
  have HO := Lib.hid hi
  have HV := Lib.hid (And.intro hv0 hv1)
  have HT := Lib.hid hT
  have HLO := Lib.hid (show B ≤ w.heap.size by have := hT.lo; have := hT.lt; omega)
  have f1 : (0 : Int) ≤ (f : Int) ∧ (f : Int) < (n : Int) := by omega
  clear hT hr hm hi hv0 hv1
  go_enter Try.func53, Try.ntmps53
  go_upto_region 5 with (first | (go_at_call 57; refine HI.out.mono ?_; rintro e w' ⟨rfl, rfl⟩) | (go_at_call 68; refine (refPut_own _ 64 _ o m x _ _ (by omega) HR.out HM.out HO.out HV.out.1 HV.out.2).mono ?_; rintro e w2 ⟨g2, c2, rfl, hg2, hc2, hc3, hr2, hb2⟩))
  have HT2 := Lib.hid (HT.out.below hb2)
  have h02 := HT2.out.cell0
  have hfr := HT2.out.own.frozenAt f
  obtain ⟨_, _, h12, _⟩ := HT2.out.at_ f hf
  have HS : Hid (RT (w2.setCell ⟨gv, f, none⟩ (.slice (some ⟨g2, 0, none⟩) 64 c2)) bt B n (R.set f (putZ (R.getD f []) o m x)) (.slice (some ⟨gv, 0, none⟩) n cap) (vs.set f (.slice (some ⟨g2, 0, none⟩) 64 c2))) :=
    HT2.out.set f hf _ _ ⟨g2, c2, rfl, Nat.le_trans HLO.out hg2, hc2, hc3, hr2⟩ (putZ_bytes HZ.out o m x)
  have HB : Hid (w.grownBy (w2.setCell ⟨gv, f, none⟩ (.slice (some ⟨g2, 0, none⟩) 64 c2)) (some gv)) := ⟨hb2.os, hb2.tape, hb2.output, by have := hb2.size; simpa [World.setCell] using this, fun k hk hne => (Below.heap_setCell _ _ _ _ (fun e => hne (by rw [e]))).trans (hb2.block k hk)⟩
  clear h0 h1 hr2
  go_wp2
  go_ret
  exact ⟨rfl, ⟨_, HS.out⟩, HB.out⟩

theorem refSave_in {bt B n f o m : Nat} {x : Int} {R : List (List Int)} {v : Value} {vs : List Value} {w : World} (hT : RT w bt B n R v vs) (hf : f < n) (hm : isW m = true) (hi : o + m ≤ 64) (hv0 : 0 ≤ x) (hv1 : x < 4294967296) (hB : B ≤ w.heap.size) :
    Calls Try.prog 53 #[.pointer (some ⟨bt, 0, none⟩), .int .i64 f, .int .i64 o, .int .i64 m, .int .u32 x] w fun e w' =>
      e = .returned (.int .i64 0) ∧ (∃ v' vs', RT w' bt B n (R.set f (putZ (R.getD f []) o m x)) v' vs') ∧ Below B w w' := by
  refine (refSave_own hT hf hm hi hv0 hv1).mono ?_
  rintro e w' ⟨he, ⟨vs', h'⟩, hg⟩
  exact ⟨he, ⟨v, vs', h'⟩, (Below.refl B w).grown hg hB (fun k hk => (hT.own.lt k hk).1)⟩

end Go.Proofs.Ytoafonbplbblpaa.Fr
end
