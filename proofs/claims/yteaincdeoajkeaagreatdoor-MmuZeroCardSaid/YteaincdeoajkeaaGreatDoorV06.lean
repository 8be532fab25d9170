/- Several texts in one: Oc Id Ie Ic If -/
import Derived.Test.YteaincdeoajkeaaGreatDoorV04
import Derived.Deep.AppendLies
import Derived.Test.YteaincdeoajkeaaGreatDoorV05
import Derived.Maps.AppendAt
section
/- The document's In, Get, Put and Sign of layer 2, and octet's Sign: what each returns, for every argument. -/
namespace Go.Proofs.YteaincdeoajkeaaGreatDoor.Oc
open Go.RowKit Ut
set_option maxRecDepth 100000
set_option linter.unusedVariables false

end Go.Proofs.YteaincdeoajkeaaGreatDoor.Oc
end
section
/- The document's store of frames: a slice of slices of bytes, told by a list of lists; its methods but New and Clean. -/
namespace Go.Proofs.YteaincdeoajkeaaGreatDoor.Fr
open Go.RowKit Ut Oc
set_option linter.unusedVariables false

/-- a slice of a frame's bytes, in memory of its own from block B on -/
def Row64 (w : World) (B : Nat) (v : Value) (xs : List Int) : Prop :=
 ∃ g c, v = .slice (some ⟨g, 0, none⟩) 64 c ∧ B ≤ g ∧ 64 ≤ c ∧ c ≤ 9223372036854775807 ∧ RowK .u8 w w.heap.size (some ⟨g, 0, none⟩) 64 xs

theorem Row64.kept {w w' : World} {B : Nat} {v : Value} {xs : List Int} {row : Option Nat} (h : Row64 w B v xs) (hg : w.grownBy w' row) (hr : ∀ g, v.ownBlock = some g → row ≠ some g) : Row64 w' B v xs := by
 obtain ⟨g, c, rfl, hB, h1, h2, h3⟩ := h
 refine ⟨g, c, rfl, hB, h1, h2, h3.1, fun i hi => ?_⟩
 obtain ⟨x, e, hx, hc⟩ := h3.2 i hi
 injection e with e
 subst e
 refine ⟨_, rfl, Nat.lt_of_lt_of_le hx hg.size, ?_⟩
 rw [World.cell?_of_block (w := w)]
 ·exact hc
 ·rw [block_of_add]
  exact hg.block g hx (fun e => hr g rfl e.symm)

/-- block bt is the document's store; its frames' bytes are R; all its memory lies from block B on -/
structure RT (w : World) (bt B n : Nat) (R : List (List Int)) (v : Value) (vs : List Value) : Prop where
 box : w.heap[bt]? = some (.cells #[v] 64 (0, 0))
 lo : B ≤ bt
 own : w.ownsRow B 70 1 v n vs
 len : R.length = n
 rows : ∀ i, i < n → Row64 w B (vs.getD i undef) (R.getD i [])
 bytes : ∀ i, i < n → AreBytes (R.getD i [])
 nil0 : n = 0 → v = .slice none 0 0

section
variable {w w' : World} {bt B n : Nat} {R : List (List Int)} {v : Value} {vs : List Value}
theorem RT.lt (h : RT w bt B n R v vs) : bt < w.heap.size := (Array.getElem?_eq_some_iff.1 h.box).1
theorem RT.vlen (h : RT w bt B n R v vs) : vs.length = n := by have := h.own.1; simpa using this
/-- what is done below block B, or in new blocks, leaves it as it was -/
theorem RT.kept {row : Option Nat} (h : RT w bt B n R v vs) (hg : w.grownBy w' row) (hr : ∀ k, row = some k → k < B) : RT w' bt B n R v vs where
 box := by rw [hg.block bt h.lt (fun e => by have := hr bt e.symm; have := h.lo; omega)]; exact h.box
 lo := h.lo
 own := h.own.kept hg (by
  cases hv : v.ownBlock with
  | none => exact .inl rfl
  | some g => exact .inr fun e => by have := hr g e.symm; have := (h.own.lt g hv).1; omega)
 len := h.len
 rows := fun i hi => (h.rows i hi).kept hg (fun g hgv e => by
  obtain ⟨g', c, hv, hB, _⟩ := h.rows i hi
  rw [hv] at hgv
  simp [Value.ownBlock] at hgv
  have := hr g e
  omega)
 bytes := h.bytes
 nil0 := h.nil0
theorem grown_of_below (hb : Below w.heap.size w w') : w.grownBy w' none := ⟨hb.os, hb.tape, hb.output, hb.size, fun k hk _ => hb.block k hk⟩
theorem RT.below (h : RT w bt B n R v vs) (hb : Below w.heap.size w w') : RT w' bt B n R v vs := h.kept (grown_of_below hb) (fun k hk => by cases hk)
theorem RT.cell0 (h : RT w bt B n R v vs) : w.cell? ⟨bt, 0, none⟩ = some v := by simp [World.cell?, h.box]
/-- frame f -/
theorem RT.at_ {gv cap : Nat} (h : RT w bt B n R (.slice (some ⟨gv, 0, none⟩) n cap) vs) (f : Nat) (hf : f < n) :
  ∃ g c, w.cell? ⟨gv, f, none⟩ = some (.slice (some ⟨g, 0, none⟩) 64 c) ∧ 64 ≤ c ∧ c ≤ 9223372036854775807 ∧ RowK .u8 w w.heap.size (some ⟨g, 0, none⟩) 64 (R.getD f []) := by
 obtain ⟨g, c, hv, hB, h1, h2, h3⟩ := h.rows f hf
 refine ⟨g, c, ?_, h1, h2, h3⟩
 rw [h.own.cellAt f (by omega)]
 have hl := h.vlen
 simp only [List.getD, List.getElem?_eq_getElem (show f < vs.length by omega), Option.getD_some] at hv
 rw [List.getElem?_eq_getElem (by omega), hv]
/-- a frame's slice turned to another one -/
theorem RT.set {gv cap : Nat} (h : RT w bt B n R (.slice (some ⟨gv, 0, none⟩) n cap) vs) (f : Nat) (hf : f < n) (u : Value) (xs : List Int) (hu : Row64 w B u xs) (hx : AreBytes xs) :
  RT (w.setCell ⟨gv, f, none⟩ u) bt B n (R.set f xs) (.slice (some ⟨gv, 0, none⟩) n cap) (vs.set f u) := by
 obtain ⟨ho, hg⟩ := h.own.stored f u
 have hl := h.vlen
 have hR := h.len
 have hne : ∀ (y : Value) (ys : List Int), Row64 w B y ys → ∀ g, y.ownBlock = some g → some gv ≠ some g := by
  intro y ys hy g hyg e
  injection e with e
  subst e
  obtain ⟨g', c, hv, _, h1, _, h3⟩ := hy
  subst hv
  simp [Value.ownBlock] at hyg
  subst hyg
  obtain ⟨x, e, _, hc⟩ := h3.2 0 (by omega)
  injection e with e
  subst e
  rw [add_plain] at hc
  obtain ⟨q1, q2, hq, _⟩ := h.at_ 0 (by omega)
  rw [hq] at hc
  cases hc
 refine ⟨?_, h.lo, ho, by rw [List.length_set]; exact hR, fun i hi => ?_, fun i hi => ?_, fun e => by omega⟩
 ·rw [hg.block bt h.lt (fun e => ?_)]
  ·exact h.box
  ·injection e with e
   subst e
   have hb := h.box
   rcases h.own.2 with ⟨hq, _⟩ | ⟨g2, cap2, cur, hq, _, hg2, _⟩
   ·cases hq
   ·injection hq with hq
    injection hq with hq
    injection hq with hq
    subst hq
    rw [hb] at hg2
    injection hg2 with hg2
    injection hg2 with _ hg2
    cases hg2
 ·by_cases e : i = f
  ·subst e
   have e1 : (vs.set i u).getD i undef = u := by simp [List.getD, show i < vs.length by omega]
   have e2 : (R.set i xs).getD i [] = xs := by simp [List.getD, show i < R.length by omega]
   rw [e1, e2]
   exact hu.kept hg (hne u xs hu)
  ·have e1 : (vs.set f u).getD i undef = vs.getD i undef := by simp only [List.getD]; rw [List.getElem?_set_ne (fun q => e q.symm)]
   have e2 : (R.set f xs).getD i [] = R.getD i [] := by simp only [List.getD]; rw [List.getElem?_set_ne (fun q => e q.symm)]
   rw [e1, e2]
   exact (h.rows i hi).kept hg (hne _ _ (h.rows i hi))
 ·by_cases e : i = f
  ·subst e
   have e2 : (R.set i xs).getD i [] = xs := by simp [List.getD, show i < R.length by omega]
   rw [e2]; exact hx
  ·have e2 : (R.set f xs).getD i [] = R.getD i [] := by simp only [List.getD]; rw [List.getElem?_set_ne (fun q => e q.symm)]
   rw [e2]; exact h.bytes i hi
end
end Go.Proofs.YteaincdeoajkeaaGreatDoor.Fr
end
section
/- The document's store of frames: what Is, Load, Save, Bytes return and leave, for every argument. -/
namespace Go.Proofs.YteaincdeoajkeaaGreatDoor.Fr
open Go.RowKit Ut Oc
set_option linter.unusedVariables false

end Go.Proofs.YteaincdeoajkeaaGreatDoor.Fr
end
section
/- Package frames: Clear, Bytes, Clean of a frame that is there. -/
namespace Go.Proofs.YteaincdeoajkeaaGreatDoor.Fr
open Go.RowKit Ut Oc
set_option maxRecDepth 100000
set_option linter.unusedVariables false

/-- a frame of zeros -/
def zer : List Int := List.replicate 64 0
theorem zer_len : zer.length = 64 := List.length_replicate
theorem zer_bytes : AreBytes zer := fun z hz => by rw [List.eq_of_mem_replicate hz]; omega
end Go.Proofs.YteaincdeoajkeaaGreatDoor.Fr
end
section
/- The document's store of frames: Clear, Clean of a frame that is there; New. -/
namespace Go.Proofs.YteaincdeoajkeaaGreatDoor.Fr
open Go.RowKit Ut Oc
set_option linter.unusedVariables false

/-- a new row of zeros -/
def zc : List Value := zer.map (Value.int .u8)
theorem row64_new (w : World) (B : Nat) (hB : B ≤ w.heap.size) : Row64 (w.alloc (.cells zc.toArray 5)) B (.slice (some ⟨w.heap.size, 0, none⟩) 64 64) zer := by
 refine ⟨_, 64, rfl, hB, Nat.le_refl _, by omega, zer_len, fun i hi => ⟨_, rfl, by simp, ?_⟩⟩
 rw [add_plain]
 have h : (w.alloc (.cells zc.toArray 5)).heap[w.heap.size]? = some (.cells zc.toArray 5 (0, 0)) := heap_alloc_new w _
 have hl := zer_len
 unfold World.cell?
 simp only [h]
 simp [zc, List.getD, show i < zer.length by omega]

theorem info_row : (Tryz.prog.info? 70).map (fun i => (i.zero, i.size, i.bytes)) = some (some (.slice none 0 0), 1, 24) := by kernel_rfl

/-- one frame more -/
theorem RT.more {w : World} {bt B k : Nat} {R : List (List Int)} {v : Value} {vs : List Value} (h : RT w bt B k R v vs) (hB : B ≤ w.heap.size) (hk : k < 32) (W2 : World)
  (hW2 : W2 = (w.alloc (.cells zc.toArray 5)).alloc (.cells #[.slice (some ⟨w.heap.size, 0, none⟩) 64 64] 70)) (ty : TypeId) :
  ∃ v' w', (Builtin.append_ #[62, 62] ty #[v, .slice (some ⟨w.heap.size + 1, 0, none⟩) 1 1]).run Tryz.prog W2 = .ok v' w' ∧ w'.cell? ⟨bt, 0, none⟩ = some v ∧ w'.frozen? ⟨bt, 0, none⟩ = false ∧
   RT (w'.setCell ⟨bt, 0, none⟩ v') bt B (k + 1) (R ++ [zer]) v' (vs ++ [.slice (some ⟨w.heap.size, 0, none⟩) 64 64]) ∧ Below B w (w'.setCell ⟨bt, 0, none⟩ v') := by
 have hA : Below w.heap.size w W2 := by subst hW2; exact ((Below.refl _ _).alloc (Nat.le_refl _) _).alloc (by simp) _
 have hR1 := (row64_new w B hB)
 have hR2 : Row64 W2 B (.slice (some ⟨w.heap.size, 0, none⟩) 64 64) zer := by subst hW2; exact hR1.kept (World.grownBy_alloc _ _ none) (fun g hg e => by cases e)
 have h2 := h.below hA
 have hsz := hA.size
 cases hq : Tryz.prog.info? 70 with
 | none => have := info_row; simp [hq] at this
 | some i =>
  have hin := info_row
  simp only [hq, Option.map_some, Option.some.injEq, Prod.mk.injEq] at hin
  obtain ⟨hz, hs, hb⟩ := hin
  have hnc : ∀ j u, [Value.slice (some ⟨w.heap.size, 0, none⟩) 64 64][j]? = some u → W2.cell? ((⟨w.heap.size + 1, 0, none⟩ : Addr).add j) = some u := by
   intro j u hj
   cases j with
   | succ j => simp at hj
   | zero =>
    simp at hj
    subst hj hW2
    rw [add_plain]
    have e := heap_alloc_new (w.alloc (.cells zc.toArray 5)) (.cells #[.slice (some ⟨w.heap.size, 0, none⟩) 64 64] 70)
    have es : (w.alloc (.cells zc.toArray 5)).heap.size = w.heap.size + 1 := by simp
    rw [es] at e
    unfold World.cell?
    simp only [e]
    rfl
  obtain ⟨v', w', hrun, ho, hg, _, hob⟩ := run_append_own_at (P := Tryz.prog) W2 B 62 ty 70 i (.slice none 0 0) 1 24 Tryz.underlying62 hq hz hs hb rfl (by omega) v k vs h2.own ⟨w.heap.size + 1, 0, none⟩ 1 1 [.slice (some ⟨w.heap.size, 0, none⟩) 64 64] rfl hnc (fun u hu => by simp at hu; subst hu; rfl) (by unfold maxLen; omega) (by omega) (by omega)
  have hvb : v.ownBlock ≠ some bt := by
   rcases h2.own.2 with ⟨rfl, _⟩ | ⟨g2, cap2, cur, rfl, _, hg2, _⟩
   ·simp [Value.ownBlock]
   ·simp only [Value.ownBlock]
    intro e
    simp at e
    subst e
    have hb2 := h2.box
    rw [hb2] at hg2
    injection hg2 with hg2
    injection hg2 with _ hg2
    cases hg2
  have hbox : w'.heap[bt]? = some (.cells #[v] 64 (0, 0)) := (hg.block bt h2.lt (fun e => hvb e.symm)).trans h2.box
  have hbl : bt < w'.heap.size := (Array.getElem?_eq_some_iff.1 hbox).1
  have hvb2 : v'.ownBlock ≠ some bt := by
   rcases hob with e | e
   ·rw [e]; exact hvb
   ·rw [e]
    have := h2.lt
    intro q
    injection q with q
    omega
  have hgs : w'.grownBy (w'.setCell ⟨bt, 0, none⟩ v') (some bt) := ⟨rfl, rfl, rfl, by simp [World.setCell], fun q _ hne => Below.heap_setCell _ _ _ _ (fun e => hne (by rw [e]))⟩
  -- a byte row's block is neither the box nor the outer row's
  have hrow : ∀ (y : Value) (ys : List Int), Row64 W2 B y ys → Row64 (w'.setCell ⟨bt, 0, none⟩ v') B y ys := by
   intro y ys hy
   obtain ⟨g', c, rfl, hB', q1, q2, q3⟩ := id hy
   obtain ⟨x, e, hxl, hc⟩ := q3.2 0 (by omega)
   injection e with e
   subst e
   rw [add_plain] at hc
   refine (hy.kept hg fun g hyg e => ?_).kept hgs fun g hyg e => ?_
   ·simp [Value.ownBlock] at hyg
    subst hyg
    rcases h2.own.2 with ⟨hq2, _⟩ | ⟨g2, cap2, cur, hq2, _, hg2, hcap, _, hcs, htk⟩
    ·rw [hq2] at e; simp [Value.ownBlock] at e
    ·rw [hq2] at e
     simp [Value.ownBlock] at e
     subst e
     by_cases hk0 : k = 0
     ·have := h2.nil0 hk0
      rw [hq2] at this
      cases this
     ·have h20 := h2
      rw [hq2] at h20
      obtain ⟨q4, q5, hq6, _⟩ := h20.at_ 0 (by omega)
      rw [hq6] at hc
      cases hc
   ·simp [Value.ownBlock] at hyg
    injection e with e
    subst hyg e
    simp [World.cell?, h2.box] at hc
    have := h2.own
    rw [hc] at this
    rcases this.2 with ⟨hq2, _⟩ | ⟨_, _, _, hq2, _⟩ <;> cases hq2
  refine ⟨v', w', hrun, by simp [World.cell?, hbox], by simp [World.frozen?, hbox], ⟨?_, h.lo, ?_, by simp [h.len], ?_, ?_, fun e => by omega⟩, ?_⟩
  ·have := heap_setCell_same w' bt 0 #[v] 64 v' hbox
   simpa using this
  ·exact ho.kept hgs (.inr hvb2)
  ·intro i hi
   by_cases e : i = k
   ·subst e
    have e1 : (vs ++ [Value.slice (some ⟨w.heap.size, 0, none⟩) 64 64]).getD i undef = .slice (some ⟨w.heap.size, 0, none⟩) 64 64 := by simp [List.getD, h.vlen]
    have e2 : (R ++ [zer]).getD i [] = zer := by simp [List.getD, h.len]
    rw [e1, e2]
    exact hrow _ _ hR2
   ·have hik : i < k := by omega
    have e1 : (vs ++ [Value.slice (some ⟨w.heap.size, 0, none⟩) 64 64]).getD i undef = vs.getD i undef := by simp only [List.getD]; rw [List.getElem?_append_left (by rw [h.vlen]; exact hik)]
    have e2 : (R ++ [zer]).getD i [] = R.getD i [] := by simp only [List.getD]; rw [List.getElem?_append_left (by rw [h.len]; exact hik)]
    rw [e1, e2]
    exact hrow _ _ (h2.rows i hik)
  ·intro i hi
   by_cases e : i = k
   ·subst e
    have e2 : (R ++ [zer]).getD i [] = zer := by simp [List.getD, h.len]
    rw [e2]; exact zer_bytes
   ·have e2 : (R ++ [zer]).getD i [] = R.getD i [] := by simp only [List.getD]; rw [List.getElem?_append_left (by rw [h.len]; omega)]
    rw [e2]; exact h.bytes i (by omega)
  ·refine ((hA.mono hB).grown hg (by omega) fun q hq => ?_).setCell (p := ⟨bt, 0, none⟩) h.lo v'
   exact (h2.own.lt q hq).1

end Go.Proofs.YteaincdeoajkeaaGreatDoor.Fr
end
