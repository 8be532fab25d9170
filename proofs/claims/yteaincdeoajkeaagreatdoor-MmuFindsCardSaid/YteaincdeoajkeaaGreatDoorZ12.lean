/- Several texts in one: Ig Ik Ya Yb Yc -/
import Derived.Test.YteaincdeoajkeaaGreatDoorZ06
import Derived.Test.YteaincdeoajkeaaGreatDoorZ07
import Derived.Test.YteaincdeoajkeaaGreatDoorZ10
import Derived.Test.YteaincdeoajkeaaGreatDoorZ09
import Derived.Test.YteaincdeoajkeaaGreatDoorZ11
import Derived.StillTailTactics
section
/- The statements' own helpers on frames: awake, all; what all tells of two stores. -/
namespace Go.Proofs.YteaincdeoajkeaaGreatDoor.Fr
open Go.RowKit Ut Oc
set_option linter.unusedVariables false

theorem zeros_zer (f : Nat) (hf : f < 32) : frameL zeros f = zer := zeros_frame f hf
end Go.Proofs.YteaincdeoajkeaaGreatDoor.Fr
end
section
/- Both stores of frames side by side: each act answers alike, and leaves like frames. -/
namespace Go.Proofs.YteaincdeoajkeaaGreatDoor.Fr
open Go.RowKit Ut Oc
set_option linter.unusedVariables false

/-- the frames that flat bytes say -/
def fr (n : Nat) (L : List Int) : List (List Int) := (List.range n).map (frameL L)
theorem fr_at {n : Nat} (L : List Int) {f : Nat} (hf : f < n) : (fr n L).getD f [] = frameL L f := by simp [fr, List.getD, hf]
theorem fr_lay {n : Nat} {L xs : List Int} (hL : L.length = 2048) {f : Nat} (hf : f < n) (hn : n ≤ 32) (hx : xs.length = 64) : (fr n L).set f xs = fr n (layF L f xs) := by
 apply List.ext_getElem?
 intro i
 simp only [fr, List.getElem?_set, List.length_map, List.length_range, List.getElem?_map]
 by_cases e : f = i
 ·subst e
  rw [if_pos rfl, if_pos hf, List.getElem?_range hf]
  simp [frameL_lay hL (by omega : f < 32) hx]
 ·rw [if_neg e]
  by_cases hi : i < n
  ·rw [List.getElem?_range hi]
   simp [frameL_other hL (by omega : f < 32) (by omega : i < 32) hx (fun q => e q.symm)]
  ·rw [List.getElem?_eq_none (by simp; omega)]
   rfl
theorem fr_zeros (n : Nat) (hn : n ≤ 32) : fr n zeros = List.replicate n zer := by
 apply List.ext_getElem?
 intro i
 simp only [fr, List.getElem?_map, List.getElem?_replicate]
 by_cases hi : i < n
 ·rw [if_pos hi, List.getElem?_range hi]
  simp [zeros_zer i (by omega)]
 ·rw [if_neg hi, List.getElem?_eq_none (by simp; omega)]
  rfl

/-- the document's store, wherever its slices lie -/
def RF (w : World) (bt B n : Nat) (L : List Int) : Prop := ∃ v vs, RT w bt B n (fr n L) v vs
theorem RF.kept {w w' : World} {bt B n : Nat} {L : List Int} {row : Option Nat} (h : RF w bt B n L) (hg : w.grownBy w' row) (hr : ∀ k, row = some k → k < B) : RF w' bt B n L := by
 obtain ⟨v, vs, h⟩ := h
 exact ⟨v, vs, h.kept hg hr⟩
theorem RF.below {w w' : World} {bt B n : Nat} {L : List Int} (h : RF w bt B n L) (hb : Below w.heap.size w w') : RF w' bt B n L := by
 obtain ⟨v, vs, h⟩ := h
 exact ⟨v, vs, h.below hb⟩

/-- an act on the program's store: code z, bytes L' -/
def PAct (fn : FuncId) (args : List Value) (b n : Nat) (L : List Int) (z : Int) (L' : List Int) : Prop :=
 ∀ W, St W b n L → Calls Tryz.prog fn (.pointer (some ⟨b, 0, none⟩) :: args).toArray W fun e W' => e = .returned (.int .i64 z) ∧ St W' b n L' ∧ W.grownBy W' (some b)
/-- .. on the document's -/
def RAct (fn : FuncId) (args : List Value) (bt B n : Nat) (L : List Int) (z : Int) (L' : List Int) : Prop :=
 ∀ W, RF W bt B n L → B ≤ W.heap.size → Calls Tryz.prog fn (.pointer (some ⟨bt, 0, none⟩) :: args).toArray W fun e W' => e = .returned (.int .i64 z) ∧ RF W' bt B n L' ∧ Below B W W'

end Go.Proofs.YteaincdeoajkeaaGreatDoor.Fr
end
section
/- Package view: a view's block told by what was written; both sides' memory whole; what is found, plainly. -/
namespace Go.Proofs.YteaincdeoajkeaaGreatDoor.Vw
open Go.RowKit Ut Oc
set_option maxRecDepth 100000
set_option linter.unusedVariables false

/-- a view's cells, of either side: its frames, its map, which pages were written -/
def vCells (s m : Nat) (D : List Bool) : List Value := .pointer (some ⟨s, 0, none⟩) :: .pointer (some ⟨m, 0, none⟩) :: D.map Value.bool
def noD : List Bool := List.replicate 12 false
def noDv : List Value := noD.map Value.bool

/-- block b is a view over the store at s (n frames, bytes S) and the map at m (places L); D says which pages were written -/
structure PV (w : World) (b s m n : Nat) (S : List Int) (L : List Gm.Pl) (D : List Bool) : Prop where
 blk : Blk w b 84 (vCells s m D)
 st : Fr.St w s n S
 mp : Gm.MAt w m L
 len : D.length = 12
 pos : 0 < n
 sm : s < m
 mb : m < b

section
variable {w w' : World} {b s m n : Nat} {S : List Int} {L : List Gm.Pl} {D : List Bool}
theorem PV.lt (h : PV w b s m n S L D) : b < w.heap.size := h.blk.lt
theorem PV.kq {T : List Nat} (h : PV w b s m n S L D) (k : Kq T w w') (hb : b ∉ T) (hs : s ∉ T) (hm : m ∉ T) : PV w' b s m n S L D :=
 ⟨h.blk.kq k hb, h.st.of_block (k.block s h.st.lt hs), ⟨h.mp.1.kq k hm, h.mp.2⟩, h.len, h.pos, h.sm, h.mb⟩
theorem PV.more (h : PV w b s m n S L D) (hb : Below w.heap.size w w') : PV w' b s m n S L D := h.kq (T := []) (Kq.of_below hb) (by simp) (by simp) (by simp)
theorem PV.cell0 (h : PV w b s m n S L D) : w.cell? ⟨b, 0, none⟩ = some (.pointer (some ⟨s, 0, none⟩)) := h.blk.cell rfl
theorem PV.cell1 (h : PV w b s m n S L D) : w.cell? ⟨b, 1, none⟩ = some (.pointer (some ⟨m, 0, none⟩)) := h.blk.cell rfl
theorem PV.mark (h : PV w b s m n S L D) (i : Nat) : PV (w.setCell ⟨b, 2 + i, none⟩ (.bool true)) b s m n S L (D.set i true) where
 blk := by
  have e : (vCells s m D).set (2 + i) (.bool true) = vCells s m (D.set i true) := by
   rw [show 2 + i = i + 1 + 1 by omega]
   simp [vCells, List.map_set]
  rw [← e]
  exact h.blk.set _ _
 st := h.st.of_block (Below.heap_setCell _ _ _ _ (fun e => by have := h.sm; have := h.mb; simp at e; omega))
 mp := ⟨h.mp.1.of_block (Below.heap_setCell _ _ _ _ (fun e => by have := h.mb; simp at e; omega)), h.mp.2⟩
 len := by rw [List.length_set]; exact h.len
 pos := h.pos
 sm := h.sm
 mb := h.mb
theorem PV.saved {S' : List Int} (h : PV w b s m n S L D) (hS : Fr.St w' s n S') (hg : w.grownBy w' (some s)) : PV w' b s m n S' L D :=
 ⟨h.blk.kept hg (fun e => by have := h.sm; have := h.mb; injection e; omega), hS, h.mp.kept hg (fun e => by have := h.sm; injection e; omega), h.len, h.pos, h.sm, h.mb⟩
end

/-- block g is the document's view over its store (box bt, its row at gv; all from block B on) and its map (q) -/
structure DV (w : World) (g bt B q n gv cap : Nat) (S : List Int) (L : List Gm.Pl) (D : List Bool) : Prop where
 blk : Blk w g 69 (vCells bt q D)
 st : ∃ vs, Fr.RT w bt B n (Fr.fr n S) (.slice (some ⟨gv, 0, none⟩) n cap) vs
 mp : Gm.RAt w q L
 len : D.length = 12
 pos : 0 < n
 s0 : S.length = 2048
 s1 : AreBytes S
 n32 : n ≤ 32
 bq : B ≤ q
 qg : q < g

/-- old blocks that are no slice's, no byte's: the document's store stays -/
theorem rt_kq {w w' : World} {bt B n gv cap : Nat} {R : List (List Int)} {vs : List Value} {T : List Nat} (h : Fr.RT w bt B n R (.slice (some ⟨gv, 0, none⟩) n cap) vs) (hn : 0 < n) (k : Kq T w w')
  (hT : ∀ x ∈ T, x < B ∨ (∃ u, w.cell? ⟨x, 0, none⟩ = some (.pointer u)) ∨ (∃ u, w.cell? ⟨x, 0, none⟩ = some (.bool u))) : Fr.RT w' bt B n R (.slice (some ⟨gv, 0, none⟩) n cap) vs := by
 have hno : ∀ x v, B ≤ x → w.cell? ⟨x, 0, none⟩ = some v → (∀ u, v ≠ .pointer u) → (∀ u, v ≠ .bool u) → x ∉ T := fun x v hx hc h1 h2 hm => by
  rcases hT x hm with h | ⟨u, h⟩ | ⟨u, h⟩
  ·omega
  ·rw [hc] at h; injection h with h; exact h1 u h
  ·rw [hc] at h; injection h with h; exact h2 u h
 have hbt : bt ∉ T := hno bt _ h.lo h.cell0 (fun u e => by cases e) (fun u e => by cases e)
 have hgB := (h.own.lt gv rfl).1
 have hgl := (h.own.lt gv rfl).2
 obtain ⟨g0, c0, hg0, _⟩ := h.at_ 0 hn
 have hgv : gv ∉ T := hno gv _ hgB hg0 (fun u e => by cases e) (fun u e => by cases e)
 refine ⟨(k.block bt h.lt hbt).trans h.box, h.lo, ?_, h.len, fun i hi => ?_, h.bytes, fun e => by omega⟩
 ·refine ⟨h.own.1, ?_⟩
  rcases h.own.2 with ⟨e, _⟩ | ⟨g, c, cur, e, hb, hg, rest⟩
  ·cases e
  ·refine .inr ⟨g, c, cur, e, hb, ?_, rest⟩
   injection e with e
   injection e with e
   injection e with e
   subst e
   exact (k.block gv hgl hgv).trans hg
 ·obtain ⟨g, c, hv, hB, h1, h2, h3⟩ := h.rows i hi
  refine ⟨g, c, hv, hB, h1, h2, h3.1, fun j hj => ?_⟩
  have hgT : g ∉ T := by
   obtain ⟨x, e, _, hc⟩ := h3.2 0 (by omega)
   injection e with e
   subst e
   rw [add_plain] at hc
   exact hno g _ hB hc (fun u e => by cases e) (fun u e => by cases e)
  obtain ⟨x, e, hx, hc⟩ := h3.2 j hj
  injection e with e
  subst e
  refine ⟨_, rfl, Nat.lt_of_lt_of_le hx k.size, ?_⟩
  rw [World.cell?_of_block (w := w)]
  ·exact hc
  ·rw [block_of_add]
   exact k.block g hx hgT

section
variable {w w' : World} {g bt B q n gv cap : Nat} {S : List Int} {L : List Gm.Pl} {D : List Bool}
theorem DV.lt (h : DV w g bt B q n gv cap S L D) : g < w.heap.size := h.blk.lt
theorem DV.cell0 (h : DV w g bt B q n gv cap S L D) : w.cell? ⟨g, 0, none⟩ = some (.pointer (some ⟨bt, 0, none⟩)) := h.blk.cell rfl
theorem DV.cell1 (h : DV w g bt B q n gv cap S L D) : w.cell? ⟨g, 1, none⟩ = some (.pointer (some ⟨q, 0, none⟩)) := h.blk.cell rfl
theorem DV.kq {T : List Nat} (h : DV w g bt B q n gv cap S L D) (k : Kq T w w') (hg : g ∉ T) (hq : q ∉ T)
  (hT : ∀ x ∈ T, x < B ∨ (∃ u, w.cell? ⟨x, 0, none⟩ = some (.pointer u)) ∨ (∃ u, w.cell? ⟨x, 0, none⟩ = some (.bool u))) : DV w' g bt B q n gv cap S L D := by
 obtain ⟨vs, hs⟩ := h.st
 exact ⟨h.blk.kq k hg, ⟨vs, rt_kq hs h.pos k hT⟩, ⟨h.mp.1.kq k hq, h.mp.2⟩, h.len, h.pos, h.s0, h.s1, h.n32, h.bq, h.qg⟩
theorem DV.more (h : DV w g bt B q n gv cap S L D) (hb : Below w.heap.size w w') : DV w' g bt B q n gv cap S L D := h.kq (T := []) (Kq.of_below hb) (by simp) (by simp) (by simp)
theorem DV.gvB (h : DV w g bt B q n gv cap S L D) : B ≤ gv ∧ gv < w.heap.size := by
 obtain ⟨vs, hs⟩ := h.st
 exact hs.own.lt gv rfl
/-- the store's own row is neither the view nor the map, nor whatever else begins otherwise -/
theorem DV.gv_ne (h : DV w g bt B q n gv cap S L D) {x : Nat} (hx : (∃ u, w.cell? ⟨x, 0, none⟩ = some (.pointer u)) ∨ (∃ u, w.cell? ⟨x, 0, none⟩ = some (.bool u))) : x ≠ gv := by
 obtain ⟨vs, hs⟩ := h.st
 obtain ⟨g0, c0, hg0, _⟩ := hs.at_ 0 h.pos
 rintro rfl
 rcases hx with ⟨u, hx⟩ | ⟨u, hx⟩
 ·rw [hg0] at hx; cases hx
 ·rw [hg0] at hx; cases hx
theorem DV.mark (h : DV w g bt B q n gv cap S L D) (i : Nat) : DV (w.setCell ⟨g, 2 + i, none⟩ (.bool true)) g bt B q n gv cap S L (D.set i true) := by
 obtain ⟨vs, hs⟩ := h.st
 have k : Kq [g] w (w.setCell ⟨g, 2 + i, none⟩ (.bool true)) := (Kq.refl _ _).setCell g _ _ (.inl (by simp))
 refine ⟨?_, ⟨vs, rt_kq hs h.pos k (fun x hx => ?_)⟩, ⟨h.mp.1.kq k (by have := h.qg; simp; omega), h.mp.2⟩, by rw [List.length_set]; exact h.len, h.pos, h.s0, h.s1, h.n32, h.bq, h.qg⟩
 ·have e : (vCells bt q D).set (2 + i) (.bool true) = vCells bt q (D.set i true) := by
   rw [show 2 + i = i + 1 + 1 by omega]
   simp [vCells, List.map_set]
  rw [← e]
  exact h.blk.set _ _
 ·obtain rfl : x = g := by simpa using hx
  exact .inr (.inl ⟨_, h.cell0⟩)
theorem RAt_c0 (h : Gm.RAt w q L) : ∃ u, w.cell? ⟨q, 0, none⟩ = some (.bool u) := ⟨_, h.there 0 (by omega)⟩
theorem DV.saved {S' : List Int} (h : DV w g bt B q n gv cap S L D) (hS : ∃ vs, Fr.RT w' bt B n (Fr.fr n S') (.slice (some ⟨gv, 0, none⟩) n cap) vs) (h0 : S'.length = 2048) (h1 : AreBytes S') (hg : w.grownBy w' (some gv)) : DV w' g bt B q n gv cap S' L D :=
 ⟨h.blk.kept hg (fun e => h.gv_ne (.inl ⟨_, h.cell0⟩) (by injection e)), hS, h.mp.kept hg (fun e => h.gv_ne (.inr (RAt_c0 h.mp)) (by injection e)), h.len, h.pos, h0, h1, h.n32, h.bq, h.qg⟩
end

/-- why an access can't be, whatever frames there are; .. at all; where it lies -/
def fltF (L : List Gm.Pl) (z m k : Int) : Int := if (isW m && (z % m == 0)) = true then (if 768 ≤ z then 2 else Gm.alwF (Gm.atP L (z / 64)) (z / 64) k) else 1
def findF (n : Nat) (L : List Gm.Pl) (z m k : Int) : Int := if fltF L z m k = 0 then (if (Gm.atP L (z / 64)).1 < n then 0 else 7) else fltF L z m k
def hitF (n : Nat) (L : List Gm.Pl) (z m k : Int) : Int × Int × Int := if findF n L z m k = 0 then (z / 64, (Gm.atP L (z / 64)).1, z % 64) else (0, 0, 0)
def hitV (h : Int × Int × Int) : Value := .agg #[.int .i64 h.1, .int .i64 h.2.1, .int .i64 h.2.2, .bool false]

theorem alwF_zero {p : Gm.Pl} {n k : Int} (h : Gm.alwF p n k = 0) : Gm.thB p = true := by
 unfold Gm.alwF at h
 by_cases ht : Gm.thB p = true
 ·exact ht
 ·rw [if_neg ht] at h; omega
/-- one that can be: which page, which frame -/
theorem flt_zero {L : List Gm.Pl} (hL : Gm.Okay L) {z m k : Int} (hz : 0 ≤ z) (h : fltF L z m k = 0) :
  ∃ (M j f r : Nat), m = M ∧ isW m = true ∧ z % m = 0 ∧ z < 768 ∧ z / 64 = j ∧ j < 12 ∧ Gm.atP L (z / 64) = ((f : Int), (r : Int)) ∧ Gm.plN L j = ((f : Int), (r : Int)) ∧ f < 32 ∧ Gm.alwF ((f : Int), (r : Int)) (z / 64) k = 0 := by
 unfold fltF at h
 by_cases h1 : (isW m && (z % m == 0)) = true
 ·rw [if_pos h1] at h
  by_cases h2 : 768 ≤ z
  ·rw [if_pos h2] at h; omega
  ·rw [if_neg h2] at h
   have hj : z / 64 = (((z / 64).toNat : Nat) : Int) := by omega
   have hj2 : (z / 64).toNat < 12 := by omega
   have hw : isW m = true := by simp at h1; exact h1.1
   have hm : 0 ≤ m := by unfold isW at hw; simp at hw; omega
   have ha : Gm.atP L (z / 64) = Gm.plN L (z / 64).toNat := by rw [hj]; exact Gm.atP_is hj2
   have ht := alwF_zero h
   rcases Gm.pl_cases hL (z / 64).toNat with h3 | ⟨f, r, h3, hf, _, _, _⟩
   ·rw [ha, h3] at ht; cases ht
   ·exact ⟨m.toNat, (z / 64).toNat, f, r, by omega, hw, by simp at h1; exact h1.2, by omega, hj, hj2, by rw [ha, h3], h3, hf, by rw [← h3, ← ha]; exact h⟩
 ·rw [if_neg h1] at h; omega
end Go.Proofs.YteaincdeoajkeaaGreatDoor.Vw
end
section
/- Package view: made, isWidth, isMade, New, frame, fault, Find, of the program. -/
namespace Go.Proofs.YteaincdeoajkeaaGreatDoor.Vw
open Go.RowKit Ut Oc
set_option maxRecDepth 100000
set_option linter.unusedVariables false
set_option maxHeartbeats 4000000

theorem made_yes (b s : Nat) (w : World) (h0 : w.cell? ⟨b, 0, none⟩ = some (.pointer (some ⟨s, 0, none⟩))) : Calls Tryz.prog 50 #[.pointer (some ⟨b, 0, none⟩)] w fun e w' => e = .returned (.bool true) ∧ w = w' := by
 go_enter Tryz.func50, Tryz.ntmps50
 go_wp2
 go_ret
 exact ⟨rfl, rfl⟩

theorem isWidth_any (m : Int) (t : Bool) (ht : isW m = t) (w : World) : Calls Tryz.prog 133 #[.int .i64 m] w fun e w' => e = .returned (.bool t) ∧ w = w' := by
 unfold isW at ht
 have HT := Lib.hid ht
 clear ht
 by_cases h1 : m = 1
 ·subst h1
  go_enter Tryz.func133, Tryz.ntmps133
  go_wp2
  go_ret
  exact ⟨by rw [← HT.out]; rfl, rfl⟩
 by_cases h2 : m = 2
 ·subst h2
  go_enter Tryz.func133, Tryz.ntmps133
  go_wp2
  go_ret
  exact ⟨by rw [← HT.out]; rfl, rfl⟩
 by_cases h4 : m = 4
 ·subst h4
  go_enter Tryz.func133, Tryz.ntmps133
  go_wp2
  go_ret
  exact ⟨by rw [← HT.out]; rfl, rfl⟩
 have HF : Hid (t = false) := Lib.hid (by rw [← HT.out]; simp [h1, h2, h4])
 have e1 : (m == 1) = false := by simpa using h1
 have e2 : (m == 2) = false := by simpa using h2
 have e4 : (m == 4) = false := by simpa using h4
 clear h1 h2 h4 HT
 go_enter Tryz.func133, Tryz.ntmps133
 go_wp2
 go_ret
 exact ⟨by rw [HF.out]; rfl, rfl⟩

theorem isMade_yes (m : Nat) (L : List Gm.Pl) (w : World) (h : Gm.MAt w m L) : Calls Tryz.prog 65 #[.pointer (some ⟨m, 0, none⟩)] w fun e w' => e = .returned (.bool true) ∧ w = w' := by
 have HD := Lib.hid (Gm.drop_no _ (-1) 1 (.inl rfl) w (Gm.find_out m (-1) L w h (.inl (by omega))))
 clear h
 go_enter Tryz.func65, Tryz.ntmps65
 go_wp2_with fail
 refine HD.out.mono ?_
 rintro e w1 ⟨rfl, rfl⟩
 go_wp2
 go_ret
 exact ⟨rfl, rfl⟩
theorem new_ok (s m n : Nat) (S : List Int) (L : List Gm.Pl) (w : World) (hS : Fr.St w s n S) (hn : 0 < n) (hM : Gm.MAt w m L) (hsm : s < m) :
  Calls Tryz.prog 31 #[.pointer (some ⟨s, 0, none⟩), .pointer (some ⟨m, 0, none⟩)] w fun e w' => e = .returned (.tuple #[.pointer (some ⟨w.heap.size, 0, none⟩), .int .i64 0]) ∧ PV w' w.heap.size s m n S L noD ∧ Below w.heap.size w w' := by
 have HB := (Below.refl w.heap.size w).alloc (Nat.le_refl _) (.cells (vCells s m noD).toArray 84)
 have HF : Hid (PV (w.alloc (.cells (vCells s m noD).toArray 84)) w.heap.size s m n S L noD) := Lib.hid ⟨Blk.new w _ _, hS.below HB hS.lt, hM.below HB hM.lt, rfl, hn, hsm, hM.lt⟩
 have HL := Lib.hid (Fr.len_of s n w hS.cell1)
 have HM := Lib.hid (isMade_yes m L w hM)
 have hn0 : ((n : Int) == 0) = false := by simp; omega
 clear hS hn hM hsm
 go_enter Tryz.func31, Tryz.ntmps31
 go_upto_region 3 with (first | (go_at_call 64; refine HL.out.mono ?_; rintro e w1 ⟨rfl, rfl⟩) | (go_at_call 65; refine HM.out.mono ?_; rintro e w1 ⟨rfl, rfl⟩))
 refine wp_region_lit ?_
 refine Great.wpList_readTo rfl _ rfl (.pointer (some ⟨s, 0, none⟩)) (by kernel_rfl) ?_
 refine Great.wpList_readTo rfl _ rfl (.pointer (some ⟨m, 0, none⟩)) (by kernel_rfl) ?_
 refine wpList_buildTo rfl 84 _ rfl _ rfl (vCells s m noD).toArray (by kernel_rfl) ?_
 refine Great.wpList_boxTo rfl 84 _ rfl _ rfl w.heap.size rfl (vCells s m noD).toArray rfl ?_
 obtain ⟨W, hW⟩ : ∃ W, W = w.alloc (.cells (vCells s m noD).toArray 84) := ⟨_, rfl⟩
 rw [← hW] at HF HB ⊢
 clear hW
 go_wp2
 go_ret2
 exact ⟨rfl, HF.out, HB⟩
/-- a page that is there, in a frame that is there; which -/
def okP (n : Nat) (p : Gm.Pl) : Bool := Gm.thB p && decide (p.1 < n)
def frP (n : Nat) (p : Gm.Pl) : Int := if okP n p = true then p.1 else 0

section
variable {b s m n : Nat} {S : List Int} {L : List Gm.Pl} {D : List Bool}
theorem frame_none (k : Int) (hp : Gm.atP L k = (0, 0)) (w : World) (h : PV w b s m n S L D) :
  Calls Tryz.prog 101 #[.pointer (some ⟨b, 0, none⟩), .int .i64 k] w fun e w' => e = .returned (.tuple #[.int .i64 0, .bool false]) ∧ Below w.heap.size w w' := by
 have HG := Lib.hid (Gm.get_any m L k (0, 0) false hp rfl w h.mp)
 have c1 := h.cell1
 have HLT := Lib.hid h.lt
 have HBX : Hid (∀ (W : World) (x y : Int), Below w.heap.size w W → Below w.heap.size w (W.alloc (.cells #[.int .i64 x, .int .i64 y] 54))) := Lib.hid fun W x y h => h.alloc h.size _
 clear h hp
 go_enter Tryz.func101, Tryz.ntmps101
 go_wp2_with fail
 refine HG.out.mono ?_
 rintro e w1 ⟨rfl, hb⟩
 have HB := Lib.hid (HBX.out _ 0 0 hb)
 clear hb
 unfold Gm.plV
 go_upto_region 2 with fail
 generalize w1.alloc (.cells #[.int .i64 0, .int .i64 0] 54) = V at HB ⊢
 apply wp_region_auto [17, 18, 19, 20, 21, 22, 23, 24, 25, 26, 27] [_, _, _, _, _, _, _, _, _, _, _] (fun W' => Below V.heap.size V W')
 case hm => kernel_rfl
 case hT => intro y; simp only [setAll, List.setIfInBounds_toArray, List.set_cons_succ, List.set_cons_zero]; exact rfl
 case hok => kernel_rfl
 case hn => decide
 case hw => exact (Below.refl _ _).drew
 case hs =>
  refine auto_op 17 [] (by kernel_rfl) (fun y w' HW hd K hK => ?_) ?_
  ·go_simp
   refine hK _ _ ?_ ?_ HW
   ·simp [upd]
   ·exact rfl
  refine auto_op 18 [0] (by kernel_rfl) (fun y w' HW hd K hK => ?_) ?_
  ·have e0 := hd_nth (hd 0 (by simp)) rfl
   go_simp
   refine hK _ _ ?_ ?_ HW
   ·simp [upd, e0]
   ·exact rfl
  refine auto_op 19 [1] (by kernel_rfl) (fun y w' HW hd K hK => ?_) ?_
  ·have e1 := hd_nth (hd 1 (by simp)) rfl
   go_simp
   refine hK _ _ ?_ ?_ HW
   ·simp [upd, e1]
   ·exact rfl
  refine auto_op 20 [2] (by kernel_rfl) (fun y w' HW hd K hK => ?_) ?_
  ·have e2 := hd_nth (hd 2 (by simp)) rfl
   go_simp
   refine hK _ _ ?_ ?_ HW
   ·simp [upd, e2]
   ·exact rfl
  refine auto_op 21 [3, 2] (by kernel_rfl) (fun y w' HW hd K hK => ?_) ?_
  ·have e2 := hd_nth (hd 2 (by simp)) rfl
   have e3 := hd_nth (hd 3 (by simp)) rfl
   have hcl : ∀ p : Addr, p.block < V.heap.size → w'.cell? p = V.cell? p := fun p hp => HW.cell hp
   go_simp
   refine hK _ _ ?_ ?_ HW
   ·simp [upd, e2, e3]
   ·exact rfl
  refine auto_op 22 [2] (by kernel_rfl) (fun y w' HW hd K hK => ?_) ?_
  ·have e2 := hd_nth (hd 2 (by simp)) rfl
   go_simp
   refine hK _ _ ?_ ?_ HW
   ·simp [upd, e2]
   ·exact rfl
  refine auto_op 23 [5, 2] (by kernel_rfl) (fun y w' HW hd K hK => ?_) ?_
  ·have e2 := hd_nth (hd 2 (by simp)) rfl
   have e5 := hd_nth (hd 5 (by simp)) rfl
   go_simp
   refine hK _ _ ?_ ?_ HW
   ·simp [upd, e2, e5]
   ·exact rfl
  refine auto_op 24 [6, 2] (by kernel_rfl) (fun y w' HW hd K hK => ?_) ?_
  ·have e2 := hd_nth (hd 2 (by simp)) rfl
   have e6 := hd_nth (hd 6 (by simp)) rfl
   go_simp
   refine hK _ _ ?_ ?_ HW
   ·simp [upd, e2, e6]
   ·exact rfl
  refine auto_op 25 [7, 2] (by kernel_rfl) (fun y w' HW hd K hK => ?_) ?_
  ·have e2 := hd_nth (hd 2 (by simp)) rfl
   have e7 := hd_nth (hd 7 (by simp)) rfl
   have hcl : ∀ p : Addr, p.block < V.heap.size → w'.cell? p = V.cell? p := fun p hp => HW.cell hp
   go_simp
   refine hK _ _ ?_ ?_ HW
   ·simp [upd, e2, e7]
   ·exact rfl
  refine auto_op 26 [8, 2, 2] (by kernel_rfl) (fun y w' HW hd K hK => ?_) ?_
  ·have e2 := hd_nth (hd 2 (by simp)) rfl
   have e8 := hd_nth (hd 8 (by simp)) rfl
   go_simp
   refine hK _ _ ?_ ?_ HW
   ·simp [upd, e2, e8]
   ·exact rfl
  refine auto_op 27 [4, 9, 2] (by kernel_rfl) (fun y w' HW hd K hK => ?_) ?_
  ·have e2 := hd_nth (hd 2 (by simp)) rfl
   have e4 := hd_nth (hd 4 (by simp)) rfl
   have e9 := hd_nth (hd 9 (by simp)) rfl
   go_simp
   refine hK _ _ ?_ ?_ HW
   ·simp [upd, e2, e4, e9]
   ·exact rfl
  refine auto_last fun y w' HW hd K hK => ?_
  have e0 := hd_nth (hd 0 (by omega)) rfl
  have e1 := hd_nth (hd 1 (by omega)) rfl
  have e2 := hd_nth (hd 2 (by omega)) rfl
  have e3 := hd_nth (hd 3 (by omega)) rfl
  have e4 := hd_nth (hd 4 (by omega)) rfl
  have e5 := hd_nth (hd 5 (by omega)) rfl
  have e6 := hd_nth (hd 6 (by omega)) rfl
  have e7 := hd_nth (hd 7 (by omega)) rfl
  have e8 := hd_nth (hd 8 (by omega)) rfl
  have e9 := hd_nth (hd 9 (by omega)) rfl
  have e10 := hd_nth (hd 10 (by omega)) rfl
  go_simp
  refine hK _ _ ?_
  clear hd hK K e0 e1 e2 e3 e4 e5 e6 e7 e8 e9 e10
  have HW2 := Lib.hid (HB.out.trans (HW.mono HB.out.size))
  clear HW
  go_wp2
  go_ret2
  exact ⟨rfl, HW2.out⟩
theorem frame_is (k N f r : Int) (hp : Gm.atP L k = (f, r)) (ht : Gm.thB (f, r) = true) (w : World) (h : PV w b s m n S L D) (hN : (n : Int) = N) (c : Bool) (hc : decide (N ≤ f) = c) :
  Calls Tryz.prog 101 #[.pointer (some ⟨b, 0, none⟩), .int .i64 k] w fun e w' => e = .returned (.tuple #[.int .i64 (if c = true then 0 else f), .bool (!c)]) ∧ Below w.heap.size w w' := by
 have HG := Lib.hid (Gm.get_any m L k _ true hp ht w h.mp)
 have c1 := h.cell1
 have HLT := Lib.hid h.lt
 have HH := Lib.hid h
 have HBX : Hid (∀ (W : World) (x y : Int), Below w.heap.size w W → Below w.heap.size w (W.alloc (.cells #[.int .i64 x, .int .i64 y] 54))) := Lib.hid fun W x y h => h.alloc h.size _
 have HC := Lib.hid hc
 have HNN := Lib.hid hN
 clear h hp ht hc hN
 go_enter Tryz.func101, Tryz.ntmps101
 go_wp2_with fail
 refine HG.out.mono ?_
 rintro e w1 ⟨rfl, hb⟩
 have HB := Lib.hid (HBX.out _ f r hb)
 have HN : Hid (Blk (w1.alloc (.cells #[.int .i64 f, .int .i64 r] 54)) w1.heap.size 54 [.int .i64 f, .int .i64 r]) := Blk.new w1 _ _
 clear hb c1
 unfold Gm.plV
 go_upto_region 2 with fail
 generalize w1.alloc (.cells #[.int .i64 f, .int .i64 r] 54) = V at HB HN ⊢
 generalize w1.heap.size = g at HN ⊢
 have HV := Lib.hid (HH.out.more HB.out)
 have c0 := HV.out.cell0
 have n0 : V.cell? ⟨g, 0, none⟩ = some (.int .i64 f) := HN.out.cell rfl
 have b0 : b < V.heap.size := HV.out.lt
 have b1 : g < V.heap.size := HN.out.lt
 have HLEN : Hid (∀ W, Below V.heap.size V W → Calls Tryz.prog 64 #[.pointer (some ⟨s, 0, none⟩)] W fun e w' => e = .returned (.int .i64 N) ∧ W = w') := Lib.hid fun W hW => HNN.out ▸ Fr.len_of s n W (HV.out.more hW).st.cell1
 have hcmp := HC.out
 cases c
 case false =>
  apply wp_region_auto [17, 18, 19, 20, 21, 22, 23, 24, 25, 26, 27] [_, _, _, _, _, _, _, _, _, _, _] (fun W' => Below V.heap.size V W')
  case hm => kernel_rfl
  case hT => intro y; simp only [setAll, List.setIfInBounds_toArray, List.set_cons_succ, List.set_cons_zero]; exact rfl
  case hok => kernel_rfl
  case hn => decide
  case hw => exact (Below.refl _ _).drew
  case hs =>
   refine auto_op 17 [] (by kernel_rfl) (fun y w' HW hd K hK => ?_) ?_
   ·go_simp
    refine hK _ _ ?_ ?_ HW
    ·simp [upd]
    ·exact rfl
   refine auto_op 18 [0] (by kernel_rfl) (fun y w' HW hd K hK => ?_) ?_
   ·have e0 := hd_nth (hd 0 (by simp)) rfl
    go_simp
    refine hK _ _ ?_ ?_ HW
    ·simp [upd, e0]
    ·exact rfl
   refine auto_op 19 [1] (by kernel_rfl) (fun y w' HW hd K hK => ?_) ?_
   ·have e1 := hd_nth (hd 1 (by simp)) rfl
    go_simp
    refine hK _ _ ?_ ?_ HW
    ·simp [upd, e1]
    ·exact rfl
   refine auto_op 20 [2] (by kernel_rfl) (fun y w' HW hd K hK => ?_) ?_
   ·have e2 := hd_nth (hd 2 (by simp)) rfl
    go_simp
    refine hK _ _ ?_ ?_ HW
    ·simp [upd, e2]
    ·exact rfl
   refine auto_op 21 [3, 2] (by kernel_rfl) (fun y w' HW hd K hK => ?_) ?_
   ·have e2 := hd_nth (hd 2 (by simp)) rfl
    have e3 := hd_nth (hd 3 (by simp)) rfl
    have hcl : ∀ p : Addr, p.block < V.heap.size → w'.cell? p = V.cell? p := fun p hp => HW.cell hp
    go_simp
    refine hK _ _ ?_ ?_ HW
    ·simp [upd, e2, e3]
    ·exact rfl
   refine auto_op 22 [2] (by kernel_rfl) (fun y w' HW hd K hK => ?_) ?_
   ·have e2 := hd_nth (hd 2 (by simp)) rfl
    go_simp
    refine hK _ _ ?_ ?_ HW
    ·simp [upd, e2]
    ·exact rfl
   refine auto_op 23 [5, 2] (by kernel_rfl) (fun y w' HW hd K hK => ?_) ?_
   ·have e2 := hd_nth (hd 2 (by simp)) rfl
    have e5 := hd_nth (hd 5 (by simp)) rfl
    go_simp
    refine hK _ _ ?_ ?_ HW
    ·simp [upd, e2, e5]
    ·exact rfl
   refine auto_op 24 [6, 2] (by kernel_rfl) (fun y w' HW hd K hK => ?_) ?_
   ·have e2 := hd_nth (hd 2 (by simp)) rfl
    have e6 := hd_nth (hd 6 (by simp)) rfl
    go_simp
    refine hK _ _ ?_ ?_ HW
    ·simp [upd, e2, e6]
    ·exact rfl
   refine auto_op 25 [7, 2] (by kernel_rfl) (fun y w' HW hd K hK => ?_) ?_
   ·have e2 := hd_nth (hd 2 (by simp)) rfl
    have e7 := hd_nth (hd 7 (by simp)) rfl
    have hcl : ∀ p : Addr, p.block < V.heap.size → w'.cell? p = V.cell? p := fun p hp => HW.cell hp
    go_simp
    refine hK _ _ ?_ ?_ HW
    ·simp [upd, e2, e7]
    ·exact rfl
   refine auto_op 26 [8, 2, 2] (by kernel_rfl) (fun y w' HW hd K hK => ?_) ?_
   ·have e2 := hd_nth (hd 2 (by simp)) rfl
    have e8 := hd_nth (hd 8 (by simp)) rfl
    go_simp
    refine (HLEN.out _ HW).mono ?_
    rintro e w3 ⟨rfl, rfl⟩
    refine hK _ _ ?_ ?_ HW
    ·simp [upd, e2, e8]
    ·exact rfl
   refine auto_op 27 [4, 9, 2] (by kernel_rfl) (fun y w' HW hd K hK => ?_) ?_
   ·have e2 := hd_nth (hd 2 (by simp)) rfl
    have e4 := hd_nth (hd 4 (by simp)) rfl
    have e9 := hd_nth (hd 9 (by simp)) rfl
    go_simp
    refine hK _ _ ?_ ?_ HW
    ·simp [upd, e2, e4, e9]
    ·exact rfl
   refine auto_last fun y w' HW hd K hK => ?_
   have e0 := hd_nth (hd 0 (by omega)) rfl
   have e1 := hd_nth (hd 1 (by omega)) rfl
   have e2 := hd_nth (hd 2 (by omega)) rfl
   have e3 := hd_nth (hd 3 (by omega)) rfl
   have e4 := hd_nth (hd 4 (by omega)) rfl
   have e5 := hd_nth (hd 5 (by omega)) rfl
   have e6 := hd_nth (hd 6 (by omega)) rfl
   have e7 := hd_nth (hd 7 (by omega)) rfl
   have e8 := hd_nth (hd 8 (by omega)) rfl
   have e9 := hd_nth (hd 9 (by omega)) rfl
   have e10 := hd_nth (hd 10 (by omega)) rfl
   go_simp
   refine hK _ _ ?_
   clear hd hK K e0 e1 e2 e3 e4 e5 e6 e7 e8 e9 e10
   have HW2 := Lib.hid (HB.out.trans (HW.mono HB.out.size))
   have n1 : w'.cell? ⟨g, 0, none⟩ = some (.int .i64 f) := (HN.out.more HW).cell rfl
   clear HW
   go_wp2
   go_ret2
   exact ⟨rfl, HW2.out⟩
 case true =>
  apply wp_region_auto [17, 18, 19, 20, 21, 22, 23, 24, 25, 26, 27] [_, _, _, _, _, _, _, _, _, _, _] (fun W' => Below V.heap.size V W')
  case hm => kernel_rfl
  case hT => intro y; simp only [setAll, List.setIfInBounds_toArray, List.set_cons_succ, List.set_cons_zero]; exact rfl
  case hok => kernel_rfl
  case hn => decide
  case hw => exact (Below.refl _ _).drew
  case hs =>
   refine auto_op 17 [] (by kernel_rfl) (fun y w' HW hd K hK => ?_) ?_
   ·go_simp
    refine hK _ _ ?_ ?_ HW
    ·simp [upd]
    ·exact rfl
   refine auto_op 18 [0] (by kernel_rfl) (fun y w' HW hd K hK => ?_) ?_
   ·have e0 := hd_nth (hd 0 (by simp)) rfl
    go_simp
    refine hK _ _ ?_ ?_ HW
    ·simp [upd, e0]
    ·exact rfl
   refine auto_op 19 [1] (by kernel_rfl) (fun y w' HW hd K hK => ?_) ?_
   ·have e1 := hd_nth (hd 1 (by simp)) rfl
    go_simp
    refine hK _ _ ?_ ?_ HW
    ·simp [upd, e1]
    ·exact rfl
   refine auto_op 20 [2] (by kernel_rfl) (fun y w' HW hd K hK => ?_) ?_
   ·have e2 := hd_nth (hd 2 (by simp)) rfl
    go_simp
    refine hK _ _ ?_ ?_ HW
    ·simp [upd, e2]
    ·exact rfl
   refine auto_op 21 [3, 2] (by kernel_rfl) (fun y w' HW hd K hK => ?_) ?_
   ·have e2 := hd_nth (hd 2 (by simp)) rfl
    have e3 := hd_nth (hd 3 (by simp)) rfl
    have hcl : ∀ p : Addr, p.block < V.heap.size → w'.cell? p = V.cell? p := fun p hp => HW.cell hp
    go_simp
    refine hK _ _ ?_ ?_ HW
    ·simp [upd, e2, e3]
    ·exact rfl
   refine auto_op 22 [2] (by kernel_rfl) (fun y w' HW hd K hK => ?_) ?_
   ·have e2 := hd_nth (hd 2 (by simp)) rfl
    go_simp
    refine hK _ _ ?_ ?_ HW
    ·simp [upd, e2]
    ·exact rfl
   refine auto_op 23 [5, 2] (by kernel_rfl) (fun y w' HW hd K hK => ?_) ?_
   ·have e2 := hd_nth (hd 2 (by simp)) rfl
    have e5 := hd_nth (hd 5 (by simp)) rfl
    go_simp
    refine hK _ _ ?_ ?_ HW
    ·simp [upd, e2, e5]
    ·exact rfl
   refine auto_op 24 [6, 2] (by kernel_rfl) (fun y w' HW hd K hK => ?_) ?_
   ·have e2 := hd_nth (hd 2 (by simp)) rfl
    have e6 := hd_nth (hd 6 (by simp)) rfl
    go_simp
    refine hK _ _ ?_ ?_ HW
    ·simp [upd, e2, e6]
    ·exact rfl
   refine auto_op 25 [7, 2] (by kernel_rfl) (fun y w' HW hd K hK => ?_) ?_
   ·have e2 := hd_nth (hd 2 (by simp)) rfl
    have e7 := hd_nth (hd 7 (by simp)) rfl
    have hcl : ∀ p : Addr, p.block < V.heap.size → w'.cell? p = V.cell? p := fun p hp => HW.cell hp
    go_simp
    refine hK _ _ ?_ ?_ HW
    ·simp [upd, e2, e7]
    ·exact rfl
   refine auto_op 26 [8, 2, 2] (by kernel_rfl) (fun y w' HW hd K hK => ?_) ?_
   ·have e2 := hd_nth (hd 2 (by simp)) rfl
    have e8 := hd_nth (hd 8 (by simp)) rfl
    go_simp
    refine (HLEN.out _ HW).mono ?_
    rintro e w3 ⟨rfl, rfl⟩
    refine hK _ _ ?_ ?_ HW
    ·simp [upd, e2, e8]
    ·exact rfl
   refine auto_op 27 [4, 9, 2] (by kernel_rfl) (fun y w' HW hd K hK => ?_) ?_
   ·have e2 := hd_nth (hd 2 (by simp)) rfl
    have e4 := hd_nth (hd 4 (by simp)) rfl
    have e9 := hd_nth (hd 9 (by simp)) rfl
    go_simp
    refine hK _ _ ?_ ?_ HW
    ·simp [upd, e2, e4, e9]
    ·exact rfl
   refine auto_last fun y w' HW hd K hK => ?_
   have e0 := hd_nth (hd 0 (by omega)) rfl
   have e1 := hd_nth (hd 1 (by omega)) rfl
   have e2 := hd_nth (hd 2 (by omega)) rfl
   have e3 := hd_nth (hd 3 (by omega)) rfl
   have e4 := hd_nth (hd 4 (by omega)) rfl
   have e5 := hd_nth (hd 5 (by omega)) rfl
   have e6 := hd_nth (hd 6 (by omega)) rfl
   have e7 := hd_nth (hd 7 (by omega)) rfl
   have e8 := hd_nth (hd 8 (by omega)) rfl
   have e9 := hd_nth (hd 9 (by omega)) rfl
   have e10 := hd_nth (hd 10 (by omega)) rfl
   go_simp
   refine hK _ _ ?_
   clear hd hK K e0 e1 e2 e3 e4 e5 e6 e7 e8 e9 e10
   have HW2 := Lib.hid (HB.out.trans (HW.mono HB.out.size))
   clear HW
   go_wp2
   go_ret2
   exact ⟨rfl, HW2.out⟩
theorem frame_any (k f : Int) (t : Bool) (ht : okP n (Gm.atP L k) = t) (hf : frP n (Gm.atP L k) = f) (w : World) (h : PV w b s m n S L D) :
  Calls Tryz.prog 101 #[.pointer (some ⟨b, 0, none⟩), .int .i64 k] w fun e w' => e = .returned (.tuple #[.int .i64 f, .bool t]) ∧ Below w.heap.size w w' := by
 have hN : Gm.atP L k = (0, 0) ∨ ∃ f r : Nat, Gm.atP L k = ((f : Int), (r : Int)) ∧ f < 32 ∧ Gm.thB ((f : Int), (r : Int)) = true := by
  rcases Gm.page_cases k with h1 | ⟨j, rfl, hj⟩
  ·exact .inl (Gm.atP_no h1)
  ·rw [Gm.atP_is hj]
   rcases Gm.pl_cases h.mp.2 j with h2 | ⟨f, r, h2, h3, _, _, h4⟩
   ·exact .inl h2
   ·exact .inr ⟨f, r, h2, h3, h4⟩
 rcases hN with hp | ⟨a, r, hp, ha, hth⟩
 ·rw [hp] at ht hf
  obtain rfl : false = t := ht
  obtain rfl : 0 = f := hf
  exact frame_none k hp w h
 ·rw [hp] at ht hf
  have H := frame_is k n a r hp hth w h rfl _ rfl
  by_cases hc : (n : Int) ≤ (a : Int)
  ·have e1 : okP n ((a : Int), (r : Int)) = false := by unfold okP; simp; omega
   have e2 : frP n ((a : Int), (r : Int)) = 0 := by unfold frP; rw [e1]; rfl
   rw [e1] at ht; rw [e2] at hf
   subst ht; subst hf
   simpa [hc] using H
  ·have e1 : okP n ((a : Int), (r : Int)) = true := by unfold okP; rw [hth]; simp; omega
   have e2 : frP n ((a : Int), (r : Int)) = a := by unfold frP; rw [e1]; rfl
   rw [e1] at ht; rw [e2] at hf
   subst ht; subst hf
   simpa [hc] using H

theorem fault_width (z q k : Int) (hw : isW q = false) (w : World) (h : PV w b s m n S L D) :
  Calls Tryz.prog 100 #[.pointer (some ⟨b, 0, none⟩), .int .u32 z, .int .i64 q, .int .i64 k] w fun e w' => e = .returned (.int .i64 1) ∧ w = w' := by
 have HM := Lib.hid (made_yes b s w h.cell0)
 have HI := Lib.hid (isWidth_any q false hw w)
 clear h hw
 go_enter Tryz.func100, Tryz.ntmps100
 go_wp2_with (first | (go_at_call 50; refine HM.out.mono ?_; rintro e w1 ⟨rfl, rfl⟩) | (go_at_call 133; refine HI.out.mono ?_; rintro e w1 ⟨rfl, rfl⟩))
 go_ret
 exact ⟨rfl, rfl⟩
theorem fault_is (z q k c : Int) (h0 : 0 ≤ z) (h1 : z < 4294967296) (hw : q = 1 ∨ q = 2 ∨ q = 4) (hc : fltF L z q k = c) (w : World) (h : PV w b s m n S L D) :
  Calls Tryz.prog 100 #[.pointer (some ⟨b, 0, none⟩), .int .u32 z, .int .i64 q, .int .i64 k] w fun e w' => e = .returned (.int .i64 c) ∧ Below w.heap.size w w' := by
 have HM := Lib.hid (made_yes b s w h.cell0)
 have HA := Lib.hid (Gm.allows_any m L (z / 64) k _ rfl w h.mp)
 have c1 := h.cell1
 have HR := Lib.hid (Below.refl w.heap.size w)
 unfold fltF at hc
 generalize Gm.alwF (Gm.atP L (z / 64)) (z / 64) k = al at HA hc
 clear h
 have HH := Lib.hid hc
 clear hc
 rcases hw with rfl | rfl | rfl
 ·have HI := Lib.hid (isWidth_any 1 true (by decide) w)
  by_cases h2 : 768 ≤ z
  ·have d2 : decide (768 ≤ z) = true := by simpa using h2
   have HC : Hid (2 = c) := Lib.hid (by rw [← HH.out]; simp [isW, h2, Int.emod_one])
   clear HH h2
   go_enter Tryz.func100, Tryz.ntmps100
   go_wp2_with (first | (go_at_call 50; refine HM.out.mono ?_; rintro e w1 ⟨rfl, rfl⟩) | (go_at_call 133; refine HI.out.mono ?_; rintro e w1 ⟨rfl, rfl⟩))
   go_ret
   exact ⟨by rw [← HC.out]; rfl, HR.out⟩
  ·have d2 : decide (768 ≤ z) = false := by simpa using h2
   have HC : Hid (al = c) := Lib.hid (by rw [← HH.out]; simp [isW, h2, Int.emod_one])
   clear HH h2
   go_enter Tryz.func100, Tryz.ntmps100
   go_wp2_with (first | (go_at_call 50; refine HM.out.mono ?_; rintro e w1 ⟨rfl, rfl⟩) | (go_at_call 133; refine HI.out.mono ?_; rintro e w1 ⟨rfl, rfl⟩) | (go_at_call 121; refine HA.out.mono ?_; rintro e w1 ⟨rfl, hb1⟩))
   go_ret
   exact ⟨by rw [← HC.out]; rfl, hb1⟩
 ·have HI := Lib.hid (isWidth_any 2 true (by decide) w)
  by_cases hm : z % 2 = 0
  rotate_left
  ·have d0 : (z % 2 != 0) = true := by simpa using hm
   have HC : Hid (1 = c) := Lib.hid (by rw [← HH.out]; simp [isW, hm])
   clear HH hm
   go_enter Tryz.func100, Tryz.ntmps100
   go_wp2_with (first | (go_at_call 50; refine HM.out.mono ?_; rintro e w1 ⟨rfl, rfl⟩) | (go_at_call 133; refine HI.out.mono ?_; rintro e w1 ⟨rfl, rfl⟩))
   go_ret
   exact ⟨by rw [← HC.out]; rfl, HR.out⟩
  have d0 : (z % 2 != 0) = false := by simpa using hm
  by_cases h2 : 768 ≤ z
  ·have d2 : decide (768 ≤ z) = true := by simpa using h2
   have HC : Hid (2 = c) := Lib.hid (by rw [← HH.out]; simp [isW, h2, hm])
   clear HH h2
   go_enter Tryz.func100, Tryz.ntmps100
   go_wp2_with (first | (go_at_call 50; refine HM.out.mono ?_; rintro e w1 ⟨rfl, rfl⟩) | (go_at_call 133; refine HI.out.mono ?_; rintro e w1 ⟨rfl, rfl⟩))
   go_ret
   exact ⟨by rw [← HC.out]; rfl, HR.out⟩
  ·have d2 : decide (768 ≤ z) = false := by simpa using h2
   have HC : Hid (al = c) := Lib.hid (by rw [← HH.out]; simp [isW, h2, hm])
   clear HH h2
   go_enter Tryz.func100, Tryz.ntmps100
   go_wp2_with (first | (go_at_call 50; refine HM.out.mono ?_; rintro e w1 ⟨rfl, rfl⟩) | (go_at_call 133; refine HI.out.mono ?_; rintro e w1 ⟨rfl, rfl⟩) | (go_at_call 121; refine HA.out.mono ?_; rintro e w1 ⟨rfl, hb1⟩))
   go_ret
   exact ⟨by rw [← HC.out]; rfl, hb1⟩
 ·have HI := Lib.hid (isWidth_any 4 true (by decide) w)
  by_cases hm : z % 4 = 0
  rotate_left
  ·have d0 : (z % 4 != 0) = true := by simpa using hm
   have HC : Hid (1 = c) := Lib.hid (by rw [← HH.out]; simp [isW, hm])
   clear HH hm
   go_enter Tryz.func100, Tryz.ntmps100
   go_wp2_with (first | (go_at_call 50; refine HM.out.mono ?_; rintro e w1 ⟨rfl, rfl⟩) | (go_at_call 133; refine HI.out.mono ?_; rintro e w1 ⟨rfl, rfl⟩))
   go_ret
   exact ⟨by rw [← HC.out]; rfl, HR.out⟩
  have d0 : (z % 4 != 0) = false := by simpa using hm
  by_cases h2 : 768 ≤ z
  ·have d2 : decide (768 ≤ z) = true := by simpa using h2
   have HC : Hid (2 = c) := Lib.hid (by rw [← HH.out]; simp [isW, h2, hm])
   clear HH h2
   go_enter Tryz.func100, Tryz.ntmps100
   go_wp2_with (first | (go_at_call 50; refine HM.out.mono ?_; rintro e w1 ⟨rfl, rfl⟩) | (go_at_call 133; refine HI.out.mono ?_; rintro e w1 ⟨rfl, rfl⟩))
   go_ret
   exact ⟨by rw [← HC.out]; rfl, HR.out⟩
  ·have d2 : decide (768 ≤ z) = false := by simpa using h2
   have HC : Hid (al = c) := Lib.hid (by rw [← HH.out]; simp [isW, h2, hm])
   clear HH h2
   go_enter Tryz.func100, Tryz.ntmps100
   go_wp2_with (first | (go_at_call 50; refine HM.out.mono ?_; rintro e w1 ⟨rfl, rfl⟩) | (go_at_call 133; refine HI.out.mono ?_; rintro e w1 ⟨rfl, rfl⟩) | (go_at_call 121; refine HA.out.mono ?_; rintro e w1 ⟨rfl, hb1⟩))
   go_ret
   exact ⟨by rw [← HC.out]; rfl, hb1⟩
theorem fault_any (z q k c : Int) (h0 : 0 ≤ z) (h1 : z < 4294967296) (hc : fltF L z q k = c) (w : World) (h : PV w b s m n S L D) :
  Calls Tryz.prog 100 #[.pointer (some ⟨b, 0, none⟩), .int .u32 z, .int .i64 q, .int .i64 k] w fun e w' => e = .returned (.int .i64 c) ∧ Below w.heap.size w w' := by
 by_cases hw : isW q = true
 ·exact fault_is z q k c h0 h1 (by unfold isW at hw; simpa [or_assoc] using hw) hc w h
 ·have hw : isW q = false := by simpa using hw
  have e : fltF L z q k = 1 := by unfold fltF; rw [hw]; rfl
  rw [e] at hc
  subst hc
  exact (fault_width z q k hw w h).mono fun e w' ⟨he, hb⟩ => ⟨he, hb ▸ Below.refl _ _⟩

/-- a block of four cells: where an access lies -/
def hitC (h : Int × Int × Int) : List Value := [.int .i64 h.1, .int .i64 h.2.1, .int .i64 h.2.2, .bool false]
def HAt (w : World) (g : Nat) (h : Int × Int × Int) : Prop := Blk w g 36 (hitC h)
theorem HAt.cells {w : World} {g : Nat} {h : Int × Int × Int} (H : HAt w g h) : w.cell? ⟨g, 0, none⟩ = some (.int .i64 h.1) ∧ w.cell? ⟨g, 1, none⟩ = some (.int .i64 h.2.1) ∧ w.cell? ⟨g, 2, none⟩ = some (.int .i64 h.2.2) ∧ w.cell? ⟨g, 3, none⟩ = some (.bool false) :=
 ⟨H.cell rfl, H.cell rfl, H.cell rfl, H.cell rfl⟩

theorem find_bad (z q k ft : Int) (h0 : 0 ≤ z) (h1 : z < 4294967296) (hft : fltF L z q k = ft) (hz : ¬ ft = 0) (w : World) (hP : PV w b s m n S L D) :
  Calls Tryz.prog 66 #[.pointer (some ⟨b, 0, none⟩), .int .u32 z, .int .i64 q, .int .i64 k] w fun e w' => e = .returned (.tuple #[hitV (0, 0, 0), .int .i64 ft]) ∧ Below w.heap.size w w' := by
 have HB : Hid (Below w.heap.size w (w.alloc (.cells (hitC (0, 0, 0)).toArray 36))) := Lib.hid ((Below.refl w.heap.size w).alloc (Nat.le_refl _) _)
 have HF := Lib.hid (fault_any (b := b) (s := s) (m := m) (n := n) (S := S) (D := D) z q k ft h0 h1 hft _ (hP.more HB.out))
 have HN : Hid (Blk (w.alloc (.cells (hitC (0, 0, 0)).toArray 36)) w.heap.size 36 (hitC (0, 0, 0))) := Lib.hid (Blk.new w _ _)
 have HSet : Hid (∀ (W : World) (j : Nat) (v : Value), Below w.heap.size w W → Below w.heap.size w (W.setCell ⟨w.heap.size, j, none⟩ v)) := Lib.hid fun W j v h => h.setCell (p := ⟨w.heap.size, j, none⟩) (by simp) _
 have hz0 : (ft == 0) = false := by simpa using hz
 clear hP hft hz
 go_enter Tryz.func66, Tryz.ntmps66
 go_wp2_with fail
 refine HF.out.mono ?_
 rintro e w1 ⟨rfl, hb1⟩
 have HB1 := Lib.hid (HB.out.trans (hb1.mono HB.out.size))
 have hq0 := HN.out.more hb1
 obtain ⟨r0, r1, r2, r3⟩ := HAt.cells hq0
 have f0 := hq0.frozen 0
 have f1 := hq0.frozen 1
 have f2 := hq0.frozen 2
 have f3 := hq0.frozen 3
 have hlt := hq0.lt
 clear hb1 hq0 HF HN HB
 go_wp2
 exact bodyPost_ret (v := .tuple #[hitV (0, 0, 0), .int .i64 ft]) (by simp [results, Tryz.results66, go_sem, r0, r1, r2, r3, hitV]) rfl ⟨rfl, by (repeat (first | refine HSet.out _ _ _ ?_)); exact HB1.out⟩
theorem find_ok (z q k fr : Int) (t : Bool) (h0 : 0 ≤ z) (h1 : z < 4294967296) (hft : fltF L z q k = 0) (ht : okP n (Gm.atP L (z / 64)) = t) (hf : frP n (Gm.atP L (z / 64)) = fr) (w : World) (hP : PV w b s m n S L D) :
  Calls Tryz.prog 66 #[.pointer (some ⟨b, 0, none⟩), .int .u32 z, .int .i64 q, .int .i64 k] w fun e w' => e = .returned (.tuple #[hitV (if t = true then (z / 64, fr, z % 64) else (0, 0, 0)), .int .i64 (if t = true then 0 else 7)]) ∧ Below w.heap.size w w' := by
 have HB : Hid (Below w.heap.size w (w.alloc (.cells (hitC (0, 0, 0)).toArray 36))) := Lib.hid ((Below.refl w.heap.size w).alloc (Nat.le_refl _) _)
 have HPV := Lib.hid (hP.more HB.out)
 have HF := Lib.hid (fault_any (b := b) (s := s) (m := m) (n := n) (S := S) (D := D) z q k 0 h0 h1 hft _ (hP.more HB.out))
 have HN : Hid (Blk (w.alloc (.cells (hitC (0, 0, 0)).toArray 36)) w.heap.size 36 (hitC (0, 0, 0))) := Lib.hid (Blk.new w _ _)
 have HSet : Hid (∀ (W : World) (j : Nat) (v : Value), Below w.heap.size w W → Below w.heap.size w (W.setCell ⟨w.heap.size, j, none⟩ v)) := Lib.hid fun W j v h => h.setCell (p := ⟨w.heap.size, j, none⟩) (by simp) _
 have HFR := Lib.hid (fun W hW => frame_any (b := b) (s := s) (m := m) (n := n) (S := S) (D := D) (z / 64) fr t ht hf W hW)
 clear hP hft ht hf
 have d0 : (0 : Int) ≤ z / 64 := by omega
 have d1 : (0 : Int) ≤ z % 64 := by omega
 cases t
 all_goals
  go_enter Tryz.func66, Tryz.ntmps66
  go_wp2_with fail
  refine HF.out.mono ?_
  rintro e w1 ⟨rfl, hb1⟩
  have HB1 := Lib.hid (HB.out.trans (hb1.mono HB.out.size))
  have HN1 : Hid (Blk w1 w.heap.size 36 (hitC (0, 0, 0))) := Lib.hid (HN.out.more hb1)
  have HP1 := Lib.hid (HPV.out.more hb1)
  clear hb1 HF HN HB HPV
  go_wp2_with fail
  refine (HFR.out _ HP1.out).mono ?_
  rintro e w2 ⟨rfl, hb1⟩
  have HB2 := Lib.hid (HB1.out.trans (hb1.mono HB1.out.size))
  have hq0 := HN1.out.more hb1
  obtain ⟨r0, r1, r2, r3⟩ := HAt.cells hq0
  have f0 := hq0.frozen 0
  have f1 := hq0.frozen 1
  have f2 := hq0.frozen 2
  have f3 := hq0.frozen 3
  have hlt := hq0.lt
  clear hb1 hq0 HB1 HN1 HP1 HFR
  go_wp2
 ·exact bodyPost_ret (v := .tuple #[hitV (0, 0, 0), .int .i64 7]) (by simp [results, Tryz.results66, go_sem, r0, r1, r2, r3, hitV]) rfl ⟨rfl, by (repeat (first | refine HSet.out _ _ _ ?_)); exact HB2.out⟩
 ·exact bodyPost_ret (v := .tuple #[hitV (z / 64, fr, z % 64), .int .i64 0]) (by simp [results, Tryz.results66, go_sem, r0, r1, r2, r3, hitV]) rfl ⟨rfl, by (repeat (first | refine HSet.out _ _ _ ?_)); exact HB2.out⟩
theorem find_any (z q k c : Int) (h : Int × Int × Int) (h0 : 0 ≤ z) (h1 : z < 4294967296) (hc : findF n L z q k = c) (hh : hitF n L z q k = h) (w : World) (hP : PV w b s m n S L D) :
  Calls Tryz.prog 66 #[.pointer (some ⟨b, 0, none⟩), .int .u32 z, .int .i64 q, .int .i64 k] w fun e w' => e = .returned (.tuple #[hitV h, .int .i64 c]) ∧ Below w.heap.size w w' := by
 unfold hitF at hh
 by_cases hz : fltF L z q k = 0
 ·obtain ⟨M, j, f, r, _, _, _, _, _, _, hat, _, hf, hal⟩ := flt_zero hP.mp.2 h0 hz
  have hth := alwF_zero hal
  have H := find_ok z q k _ _ h0 h1 hz rfl rfl w hP
  unfold findF at hc hh
  rw [if_pos hz] at hc hh
  rw [hat] at hc hh H
  by_cases hfn : (f : Int) < (n : Int)
  ·have e1 : okP n ((f : Int), (r : Int)) = true := by unfold okP; rw [hth]; simp; omega
   have e2 : frP n ((f : Int), (r : Int)) = f := by unfold frP; rw [e1]; rfl
   rw [e1, e2] at H
   simp only [hfn, if_true] at hc hh
   subst hc; subst hh
   exact H
  ·have e1 : okP n ((f : Int), (r : Int)) = false := by unfold okP; simp; omega
   rw [e1] at H
   simp only [hfn, if_false] at hc hh
   subst hc; subst hh
   exact H
 ·unfold findF at hc hh
  rw [if_neg hz] at hc hh
  rw [if_neg hz] at hh
  subst hh
  subst hc
  exact find_bad z q k _ h0 h1 rfl hz w hP
end
end Go.Proofs.YteaincdeoajkeaaGreatDoor.Vw
end
section
/- Package view: Load, Save, Dirty, Map, Store, of the program. -/
namespace Go.Proofs.YteaincdeoajkeaaGreatDoor.Vw
open Go.RowKit Ut Oc
set_option maxRecDepth 100000
set_option linter.unusedVariables false
set_option maxHeartbeats 4000000

/-- one that is there: page, frame, place, all plain numbers -/
structure Hitt (n : Nat) (L : List Gm.Pl) (z m : Int) (M j f o : Nat) : Prop where
 hm : m = M
 hw : isW (M : Int) = true
 hj : z / 64 = j
 j12 : j < 12
 hat : (Gm.atP L (z / 64)).1 = f
 fn : f < n
 f32 : f < 32
 ho : z % 64 = o
 fit : o + M ≤ 64
 th : Gm.thB (Gm.atP L (z / 64)) = true
theorem find_zero {n : Nat} {L : List Gm.Pl} (hL : Gm.Okay L) {z m k : Int} (hz : 0 ≤ z) (h : findF n L z m k = 0) :
  ∃ M j f o : Nat, Hitt n L z m M j f o ∧ hitF n L z m k = ((j : Int), (f : Int), (o : Int)) := by
 have hh : hitF n L z m k = (z / 64, (Gm.atP L (z / 64)).1, z % 64) := if_pos h
 unfold findF at h
 by_cases hf : fltF L z m k = 0
 ·rw [if_pos hf] at h
  obtain ⟨M, j, f, r, hm, hw, hmod, hz1, hj, hj1, hat, hpl, hf32, hal⟩ := flt_zero hL hz hf
  have hfn : (Gm.atP L (z / 64)).1 < n := by
   by_cases hc : (Gm.atP L (z / 64)).1 < n
   ·exact hc
   ·rw [if_neg hc] at h; omega
  have h1 : (Gm.atP L (z / 64)).1 = f := by rw [hat]
  have hw2 : M = 1 ∨ M = 2 ∨ M = 4 := by
   rw [hm] at hw
   unfold isW at hw
   simp at hw
   omega
  have ho : z % 64 = (((z % 64).toNat : Nat) : Int) := by omega
  have hfit : (z % 64).toNat + M ≤ 64 := by
   subst hm
   rcases hw2 with rfl | rfl | rfl
   ·omega
   ·simp at hmod; omega
   ·simp at hmod; omega
  refine ⟨M, j, f, (z % 64).toNat, ⟨hm, by rw [← hm]; exact hw, hj, hj1, h1, by rw [h1] at hfn; omega, hf32, ho, hfit, ?_⟩, ?_⟩
  ·have := alwF_zero hal
   rw [hat]; exact this
  ·rw [hh, h1, hj, ← ho]
 ·rw [if_neg hf] at h; omega

def loadF (n : Nat) (S : List Int) (L : List Gm.Pl) (z m : Int) : Int :=
 if findF n L z m 1 = 0 then num (((Fr.frameL S (Gm.atP L (z / 64)).1.toNat).drop (z % 64).toNat).take m.toNat) else 0
def saveS (n : Nat) (S : List Int) (L : List Gm.Pl) (z m x : Int) : List Int :=
 if findF n L z m 2 = 0 then Fr.layF S (Gm.atP L (z / 64)).1.toNat (putZ (Fr.frameL S (Gm.atP L (z / 64)).1.toNat) (z % 64).toNat m.toNat x) else S
def saveD (n : Nat) (L : List Gm.Pl) (D : List Bool) (z m : Int) : List Bool :=
 if findF n L z m 2 = 0 then D.set (z / 64).toNat true else D
theorem saveS_is {n : Nat} {S : List Int} {L : List Gm.Pl} {z m x : Int} {M j f o : Nat} (h : findF n L z m 2 = 0) (H : Hitt n L z m M j f o) : saveS n S L z m x = Fr.layF S f (putZ (Fr.frameL S f) o M x) := by
 unfold saveS
 rw [if_pos h, H.hat, H.ho, H.hm]
 simp
theorem saveD_is {n : Nat} {L : List Gm.Pl} {D : List Bool} {z m : Int} {M j f o : Nat} (h : findF n L z m 2 = 0) (H : Hitt n L z m M j f o) : saveD n L D z m = D.set j true := by
 unfold saveD
 rw [if_pos h, H.hj]
 simp
theorem load_len {S : List Int} {f o M : Nat} (hS : S.length = 2048) (hf : f < 32) (hfit : o + M ≤ 64) (x : Int) : (putZ (Fr.frameL S f) o M x).length = 64 := by
 rw [length_putZ _ _ _ _ (by rw [Fr.length_frameL hS hf]; omega), Fr.length_frameL hS hf]

section
variable {b s m n : Nat} {S : List Int} {L : List Gm.Pl} {D : List Bool}
theorem save_bad (z q x c : Int) (h0 : 0 ≤ z) (h1 : z < 4294967296) (hc : findF n L z q 2 = c) (hz : ¬ c = 0) (w : World) (hP : PV w b s m n S L D) :
  Calls Tryz.prog 32 #[.pointer (some ⟨b, 0, none⟩), .int .u32 z, .int .i64 q, .int .u32 x] w fun e w' => e = .returned (.int .i64 c) ∧ Below w.heap.size w w' := by
 have hh : hitF n L z q 2 = (0, 0, 0) := by unfold hitF; rw [hc, if_neg hz]
 have HF := Lib.hid (find_any (b := b) (s := s) (m := m) (n := n) (S := S) (D := D) z q 2 c _ h0 h1 hc hh w hP)
 have HBX : Hid (∀ W, Below w.heap.size w W → Below w.heap.size w (W.alloc (.cells #[.int .i64 0, .int .i64 0, .int .i64 0, .bool false] 36))) := Lib.hid fun W h => h.alloc h.size _
 have hz0 : (c == 0) = false := by simpa using hz
 clear hP hc hz hh
 go_enter Tryz.func32, Tryz.ntmps32
 go_wp2_with fail
 refine HF.out.mono ?_
 rintro e w1 ⟨rfl, hb1⟩
 have HB1 := Lib.hid (HBX.out _ hb1)
 clear hb1
 unfold hitV
 go_wp2
 go_ret
 exact ⟨rfl, HB1.out⟩
theorem save_ok (z q x : Int) (h0 : 0 ≤ z) (h1 : z < 4294967296) (hx0 : 0 ≤ x) (hx1 : x < 4294967296) (hc : findF n L z q 2 = 0) (w : World) (hP : PV w b s m n S L D) :
  Calls Tryz.prog 32 #[.pointer (some ⟨b, 0, none⟩), .int .u32 z, .int .i64 q, .int .u32 x] w fun e w' => e = .returned (.int .i64 0) ∧ PV w' b s m n (saveS n S L z q x) L (saveD n L D z q) ∧ Kq [s, b] w w' := by
 obtain ⟨M, j, f, o, H, hh⟩ := find_zero hP.mp.2 h0 hc
 have HF := Lib.hid (find_any (b := b) (s := s) (m := m) (n := n) (S := S) (D := D) z q 2 0 _ h0 h1 hc hh w hP)
 obtain ⟨S', hS'⟩ : ∃ S', saveS n S L z q x = S' := ⟨_, rfl⟩
 have HL : Hid (∀ W, PV W b s m n S L D → Calls Tryz.prog 67 #[.pointer (some ⟨s, 0, none⟩), .int .i64 f, .int .i64 o, .int .i64 q, .int .u32 x] W fun e w' => e = .returned (.int .i64 0) ∧ PV w' b s m n S' L D ∧ W.grownBy w' (some s)) := Lib.hid fun W hW => by
  have := Fr.save_in s n f o M x S W hW.st H.fn H.hw H.fit hx0 hx1
  rw [← saveS_is hc H, hS', ← H.hm] at this
  exact this.mono fun e w' ⟨he, hs, hg⟩ => ⟨he, hW.saved hs hg, hg⟩
 have HBX : Hid (∀ W, Below w.heap.size w W → Below w.heap.size w (W.alloc (.cells (hitC ((j : Int), (f : Int), (o : Int))).toArray 36))) := Lib.hid fun W h => h.alloc h.size _
 have HP := Lib.hid hP
 have HSD := Lib.hid (saveD_is (D := D) hc H)
 have HJ := Lib.hid H.j12
 have f2 : (0 : Int) ≤ (j : Int) ∧ (j : Int) < 12 := by have := H.j12; omega
 rw [hS', HSD.out]
 clear hP hc hS' hh H HSD hx0 hx1
 generalize (f : Int) = F at HF HBX HL
 generalize (o : Int) = O at HF HBX HL
 go_enter Tryz.func32, Tryz.ntmps32
 go_wp2_with fail
 refine HF.out.mono ?_
 rintro e w1 ⟨rfl, hb1⟩
 have HB1 := Lib.hid (HBX.out _ hb1)
 have HN : Hid (Blk (w1.alloc (.cells (hitC (j, F, O)).toArray 36)) w1.heap.size 36 (hitC (j, F, O))) := Lib.hid (Blk.new w1 _ _)
 have HGB := Lib.hid (Nat.lt_of_lt_of_le HP.out.lt hb1.size)
 clear hb1 f2
 unfold hitC at HB1
 unfold hitV
 go_upto_region 4 with fail
 change Hid (Blk (w1.alloc (.cells #[.int .i64 j, .int .i64 F, .int .i64 O, .bool false] 36)) w1.heap.size 36 (hitC (j, F, O))) at HN
 generalize w1.alloc (.cells #[.int .i64 j, .int .i64 F, .int .i64 O, .bool false] 36) = V at HB1 HN ⊢
 generalize w1.heap.size = g at HN HGB ⊢
 have HV := Lib.hid (HP.out.more HB1.out)
 have c0 := HV.out.cell0
 obtain ⟨n0, n1, n2, _⟩ := HAt.cells HN.out
 dsimp only at n0 n1 n2
 go_still_tail 10, (by kernel_rfl)
 change wpList _ _ _ _ _ V.drew
 have HV2 : Hid (PV V.drew b s m n S L D) := Lib.hid (HV.out.more (Below.refl _ _).drew)
 have HN2 : Hid (Blk V.drew g 36 (hitC (j, F, O))) := Lib.hid (HN.out.more (Below.refl _ _).drew)
 have HB2 : Hid (Below w.heap.size w V.drew) := Lib.hid HB1.out.drew
 clear c0 n0 n1 n2 HV HN HB1
 generalize V.drew = V2 at HV2 HN2 HB2 ⊢
 go_wp2_with fail
 refine (HL.out _ HV2.out).mono ?_
 rintro e w3 ⟨rfl, hv3, hg3⟩
 have HV3 := Lib.hid hv3
 have HK3 : Hid (Kq [s, b] w w3) := Lib.hid ((Kq.of_below HB2.out).trans (Kq.of_grown hg3 (by simp)))
 have HN3 := Lib.hid (HN2.out.kept hg3 (fun e => by have := HGB.out; have := HP.out.sm; have := HP.out.mb; injection e; omega))
 clear hv3 hg3 HV2 HN2 HB2
 have HPM := Lib.hid (HV3.out.mark j)
 have HKM := Lib.hid (HK3.out.setCell b (2 + j) (.bool true) (.inl (by simp)))
 obtain ⟨n0, _, _, _⟩ := HAt.cells HN3.out
 dsimp only at n0
 have f2 : (0 : Int) ≤ (j : Int) ∧ (j : Int) < 12 := by have := HJ.out; omega
 have fz := HV3.out.blk.frozen (2 + j)
 have c2 : w3.cell? ⟨b, 2 + j, none⟩ = some (.bool (D.getD j false)) := HV3.out.blk.cell (by
  rw [show 2 + j = j + 1 + 1 by omega]
  have := HV3.out.len
  have := HJ.out
  simp [vCells, List.getD, show j < D.length by omega])
 go_upto_region 5 with fail
 go_region
 all_goals go_wp2
 all_goals go_ret
 all_goals exact ⟨rfl, HPM.out.more (Below.refl _ _).drew, HKM.out.trans (Kq.of_below (Below.refl _ _).drew)⟩
theorem save_any (z q x c : Int) (S' : List Int) (D' : List Bool) (h0 : 0 ≤ z) (h1 : z < 4294967296) (hx0 : 0 ≤ x) (hx1 : x < 4294967296) (hc : findF n L z q 2 = c) (hS : saveS n S L z q x = S') (hD : saveD n L D z q = D') (w : World) (hP : PV w b s m n S L D) :
  Calls Tryz.prog 32 #[.pointer (some ⟨b, 0, none⟩), .int .u32 z, .int .i64 q, .int .u32 x] w fun e w' => e = .returned (.int .i64 c) ∧ PV w' b s m n S' L D' ∧ Kq [s, b] w w' := by
 by_cases hz : c = 0
 ·subst hz
  subst hS
  subst hD
  exact save_ok z q x h0 h1 hx0 hx1 hc w hP
 ·have e1 : saveS n S L z q x = S := by unfold saveS; rw [hc, if_neg hz]
  have e2 : saveD n L D z q = D := by unfold saveD; rw [hc, if_neg hz]
  rw [e1] at hS
  rw [e2] at hD
  subst hS
  subst hD
  exact (save_bad z q x c h0 h1 hc hz w hP).mono fun e w' ⟨he, hb⟩ => ⟨he, hP.more hb, Kq.of_below hb⟩
end
end Go.Proofs.YteaincdeoajkeaaGreatDoor.Vw
end
