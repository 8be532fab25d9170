/- Several texts in one: Ya Yb Yc -/
import Derived.Test.YteaincdeoajkeaaGreatDoorV08
import Derived.Test.YteaincdeoajkeaaGreatDoorV10
import Derived.Test.YteaincdeoajkeaaGreatDoorV12
import Derived.Test.YteaincdeoajkeaaGreatDoorV11
import Derived.Test.YteaincdeoajkeaaGreatDoorV13
import Derived.Test.YteaincdeoajkeaaGreatDoorV07
import Derived.StillTailTactics
section
/- Package view: a view's block told by what was written; both sides' memory whole; what is found, plainly. -/
namespace Go.Proofs.YteaincdeoajkeaaGreatDoor.Vw
open Go.RowKit Ut Oc
set_option maxRecDepth 100000
set_option linter.unusedVariables false

/-- a view's cells, of either side: its frames, its map, which pages were written -/
def vCells (s m : Nat) (D : List Bool) : List Value := .pointer (some ⟨s, 0, none⟩) :: .pointer (some ⟨m, 0, none⟩) :: D.map Value.bool
def noD : List Bool := List.replicate 12 false
def noDv : List Value := noD.map Value.bool

/-- block b is a view over the store at s (n frames, bytes S) and the map at m (places L); D says which pages were written -/
structure PV (w : World) (b s m n : Nat) (S : List Int) (L : List Gm.Pl) (D : List Bool) : Prop where
 blk : Blk w b 84 (vCells s m D)
 st : Fr.St w s n S
 mp : Gm.MAt w m L
 len : D.length = 12
 pos : 0 < n
 sm : s < m
 mb : m < b

section
variable {w w' : World} {b s m n : Nat} {S : List Int} {L : List Gm.Pl} {D : List Bool}
theorem PV.lt (h : PV w b s m n S L D) : b < w.heap.size := h.blk.lt
theorem PV.kq {T : List Nat} (h : PV w b s m n S L D) (k : Kq T w w') (hb : b ∉ T) (hs : s ∉ T) (hm : m ∉ T) : PV w' b s m n S L D :=
 ⟨h.blk.kq k hb, h.st.of_block (k.block s h.st.lt hs), ⟨h.mp.1.kq k hm, h.mp.2⟩, h.len, h.pos, h.sm, h.mb⟩
theorem PV.more (h : PV w b s m n S L D) (hb : Below w.heap.size w w') : PV w' b s m n S L D := h.kq (T := []) (Kq.of_below hb) (by simp) (by simp) (by simp)
theorem PV.cell0 (h : PV w b s m n S L D) : w.cell? ⟨b, 0, none⟩ = some (.pointer (some ⟨s, 0, none⟩)) := h.blk.cell rfl
theorem PV.saved {S' : List Int} (h : PV w b s m n S L D) (hS : Fr.St w' s n S') (hg : w.grownBy w' (some s)) : PV w' b s m n S' L D :=
 ⟨h.blk.kept hg (fun e => by have := h.sm; have := h.mb; injection e; omega), hS, h.mp.kept hg (fun e => by have := h.sm; injection e; omega), h.len, h.pos, h.sm, h.mb⟩
end

/-- block g is the document's view over its store (box bt, its row at gv; all from block B on) and its map (q) -/
structure DV (w : World) (g bt B q n gv cap : Nat) (S : List Int) (L : List Gm.Pl) (D : List Bool) : Prop where
 blk : Blk w g 69 (vCells bt q D)
 st : ∃ vs, Fr.RT w bt B n (Fr.fr n S) (.slice (some ⟨gv, 0, none⟩) n cap) vs
 mp : Gm.RAt w q L
 len : D.length = 12
 pos : 0 < n
 s0 : S.length = 2048
 s1 : AreBytes S
 n32 : n ≤ 32
 bq : B ≤ q
 qg : q < g

/-- old blocks that are no slice's, no byte's: the document's store stays -/
theorem rt_kq {w w' : World} {bt B n gv cap : Nat} {R : List (List Int)} {vs : List Value} {T : List Nat} (h : Fr.RT w bt B n R (.slice (some ⟨gv, 0, none⟩) n cap) vs) (hn : 0 < n) (k : Kq T w w')
  (hT : ∀ x ∈ T, x < B ∨ (∃ u, w.cell? ⟨x, 0, none⟩ = some (.pointer u)) ∨ (∃ u, w.cell? ⟨x, 0, none⟩ = some (.bool u))) : Fr.RT w' bt B n R (.slice (some ⟨gv, 0, none⟩) n cap) vs := by
 have hno : ∀ x v, B ≤ x → w.cell? ⟨x, 0, none⟩ = some v → (∀ u, v ≠ .pointer u) → (∀ u, v ≠ .bool u) → x ∉ T := fun x v hx hc h1 h2 hm => by
  rcases hT x hm with h | ⟨u, h⟩ | ⟨u, h⟩
  ·omega
  ·rw [hc] at h; injection h with h; exact h1 u h
  ·rw [hc] at h; injection h with h; exact h2 u h
 have hbt : bt ∉ T := hno bt _ h.lo h.cell0 (fun u e => by cases e) (fun u e => by cases e)
 have hgB := (h.own.lt gv rfl).1
 have hgl := (h.own.lt gv rfl).2
 obtain ⟨g0, c0, hg0, _⟩ := h.at_ 0 hn
 have hgv : gv ∉ T := hno gv _ hgB hg0 (fun u e => by cases e) (fun u e => by cases e)
 refine ⟨(k.block bt h.lt hbt).trans h.box, h.lo, ?_, h.len, fun i hi => ?_, h.bytes, fun e => by omega⟩
 ·refine ⟨h.own.1, ?_⟩
  rcases h.own.2 with ⟨e, _⟩ | ⟨g, c, cur, e, hb, hg, rest⟩
  ·cases e
  ·refine .inr ⟨g, c, cur, e, hb, ?_, rest⟩
   injection e with e
   injection e with e
   injection e with e
   subst e
   exact (k.block gv hgl hgv).trans hg
 ·obtain ⟨g, c, hv, hB, h1, h2, h3⟩ := h.rows i hi
  refine ⟨g, c, hv, hB, h1, h2, h3.1, fun j hj => ?_⟩
  have hgT : g ∉ T := by
   obtain ⟨x, e, _, hc⟩ := h3.2 0 (by omega)
   injection e with e
   subst e
   rw [add_plain] at hc
   exact hno g _ hB hc (fun u e => by cases e) (fun u e => by cases e)
  obtain ⟨x, e, hx, hc⟩ := h3.2 j hj
  injection e with e
  subst e
  refine ⟨_, rfl, Nat.lt_of_lt_of_le hx k.size, ?_⟩
  rw [World.cell?_of_block (w := w)]
  ·exact hc
  ·rw [block_of_add]
   exact k.block g hx hgT

section
variable {w w' : World} {g bt B q n gv cap : Nat} {S : List Int} {L : List Gm.Pl} {D : List Bool}
theorem DV.lt (h : DV w g bt B q n gv cap S L D) : g < w.heap.size := h.blk.lt
theorem DV.cell0 (h : DV w g bt B q n gv cap S L D) : w.cell? ⟨g, 0, none⟩ = some (.pointer (some ⟨bt, 0, none⟩)) := h.blk.cell rfl
theorem DV.kq {T : List Nat} (h : DV w g bt B q n gv cap S L D) (k : Kq T w w') (hg : g ∉ T) (hq : q ∉ T)
  (hT : ∀ x ∈ T, x < B ∨ (∃ u, w.cell? ⟨x, 0, none⟩ = some (.pointer u)) ∨ (∃ u, w.cell? ⟨x, 0, none⟩ = some (.bool u))) : DV w' g bt B q n gv cap S L D := by
 obtain ⟨vs, hs⟩ := h.st
 exact ⟨h.blk.kq k hg, ⟨vs, rt_kq hs h.pos k hT⟩, ⟨h.mp.1.kq k hq, h.mp.2⟩, h.len, h.pos, h.s0, h.s1, h.n32, h.bq, h.qg⟩
theorem DV.more (h : DV w g bt B q n gv cap S L D) (hb : Below w.heap.size w w') : DV w' g bt B q n gv cap S L D := h.kq (T := []) (Kq.of_below hb) (by simp) (by simp) (by simp)
/-- the store's own row is neither the view nor the map, nor whatever else begins otherwise -/
theorem DV.gv_ne (h : DV w g bt B q n gv cap S L D) {x : Nat} (hx : (∃ u, w.cell? ⟨x, 0, none⟩ = some (.pointer u)) ∨ (∃ u, w.cell? ⟨x, 0, none⟩ = some (.bool u))) : x ≠ gv := by
 obtain ⟨vs, hs⟩ := h.st
 obtain ⟨g0, c0, hg0, _⟩ := hs.at_ 0 h.pos
 rintro rfl
 rcases hx with ⟨u, hx⟩ | ⟨u, hx⟩
 ·rw [hg0] at hx; cases hx
 ·rw [hg0] at hx; cases hx
theorem RAt_c0 (h : Gm.RAt w q L) : ∃ u, w.cell? ⟨q, 0, none⟩ = some (.bool u) := ⟨_, h.there 0 (by omega)⟩
theorem DV.saved {S' : List Int} (h : DV w g bt B q n gv cap S L D) (hS : ∃ vs, Fr.RT w' bt B n (Fr.fr n S') (.slice (some ⟨gv, 0, none⟩) n cap) vs) (h0 : S'.length = 2048) (h1 : AreBytes S') (hg : w.grownBy w' (some gv)) : DV w' g bt B q n gv cap S' L D :=
 ⟨h.blk.kept hg (fun e => h.gv_ne (.inl ⟨_, h.cell0⟩) (by injection e)), hS, h.mp.kept hg (fun e => h.gv_ne (.inr (RAt_c0 h.mp)) (by injection e)), h.len, h.pos, h0, h1, h.n32, h.bq, h.qg⟩
end

/-- why an access can't be, whatever frames there are; .. at all; where it lies -/
def fltF (L : List Gm.Pl) (z m k : Int) : Int := if (isW m && (z % m == 0)) = true then (if 768 ≤ z then 2 else Gm.alwF (Gm.atP L (z / 64)) (z / 64) k) else 1
def findF (n : Nat) (L : List Gm.Pl) (z m k : Int) : Int := if fltF L z m k = 0 then (if (Gm.atP L (z / 64)).1 < n then 0 else 7) else fltF L z m k
def hitF (n : Nat) (L : List Gm.Pl) (z m k : Int) : Int × Int × Int := if findF n L z m k = 0 then (z / 64, (Gm.atP L (z / 64)).1, z % 64) else (0, 0, 0)
def hitV (h : Int × Int × Int) : Value := .agg #[.int .i64 h.1, .int .i64 h.2.1, .int .i64 h.2.2, .bool false]

end Go.Proofs.YteaincdeoajkeaaGreatDoor.Vw
end
section
/- Package view: made, isWidth, isMade, New, frame, fault, Find, of the program. -/
namespace Go.Proofs.YteaincdeoajkeaaGreatDoor.Vw
open Go.RowKit Ut Oc
set_option maxRecDepth 100000
set_option linter.unusedVariables false
set_option maxHeartbeats 4000000

theorem made_nil (w : World) : Calls Tryz.prog 50 #[.pointer none] w fun e w' => e = .returned (.bool false) ∧ w = w' := by
 go_enter Tryz.func50, Tryz.ntmps50
 go_wp2
 go_ret
 exact ⟨rfl, rfl⟩
theorem made_no (b : Nat) (w : World) (h0 : w.cell? ⟨b, 0, none⟩ = some (.pointer none)) : Calls Tryz.prog 50 #[.pointer (some ⟨b, 0, none⟩)] w fun e w' => e = .returned (.bool false) ∧ w = w' := by
 go_enter Tryz.func50, Tryz.ntmps50
 go_wp2
 go_ret
 exact ⟨rfl, rfl⟩
theorem isWidth_any (m : Int) (t : Bool) (ht : isW m = t) (w : World) : Calls Tryz.prog 133 #[.int .i64 m] w fun e w' => e = .returned (.bool t) ∧ w = w' := by
 unfold isW at ht
 have HT := Lib.hid ht
 clear ht
 by_cases h1 : m = 1
 ·subst h1
  go_enter Tryz.func133, Tryz.ntmps133
  go_wp2
  go_ret
  exact ⟨by rw [← HT.out]; rfl, rfl⟩
 by_cases h2 : m = 2
 ·subst h2
  go_enter Tryz.func133, Tryz.ntmps133
  go_wp2
  go_ret
  exact ⟨by rw [← HT.out]; rfl, rfl⟩
 by_cases h4 : m = 4
 ·subst h4
  go_enter Tryz.func133, Tryz.ntmps133
  go_wp2
  go_ret
  exact ⟨by rw [← HT.out]; rfl, rfl⟩
 have HF : Hid (t = false) := Lib.hid (by rw [← HT.out]; simp [h1, h2, h4])
 have e1 : (m == 1) = false := by simpa using h1
 have e2 : (m == 2) = false := by simpa using h2
 have e4 : (m == 4) = false := by simpa using h4
 clear h1 h2 h4 HT
 go_enter Tryz.func133, Tryz.ntmps133
 go_wp2
 go_ret
 exact ⟨by rw [HF.out]; rfl, rfl⟩

/-- a page that is there, in a frame that is there; which -/
def okP (n : Nat) (p : Gm.Pl) : Bool := Gm.thB p && decide (p.1 < n)
def frP (n : Nat) (p : Gm.Pl) : Int := if okP n p = true then p.1 else 0

section
variable {b s m n : Nat} {S : List Int} {L : List Gm.Pl} {D : List Bool}
/-- a block of four cells: where an access lies -/
def hitC (h : Int × Int × Int) : List Value := [.int .i64 h.1, .int .i64 h.2.1, .int .i64 h.2.2, .bool false]
def HAt (w : World) (g : Nat) (h : Int × Int × Int) : Prop := Blk w g 36 (hitC h)
theorem HAt.cells {w : World} {g : Nat} {h : Int × Int × Int} (H : HAt w g h) : w.cell? ⟨g, 0, none⟩ = some (.int .i64 h.1) ∧ w.cell? ⟨g, 1, none⟩ = some (.int .i64 h.2.1) ∧ w.cell? ⟨g, 2, none⟩ = some (.int .i64 h.2.2) ∧ w.cell? ⟨g, 3, none⟩ = some (.bool false) :=
 ⟨H.cell rfl, H.cell rfl, H.cell rfl, H.cell rfl⟩

end
end Go.Proofs.YteaincdeoajkeaaGreatDoor.Vw
end
section
/- Package view: Load, Save, Dirty, Map, Store, of the program. -/
namespace Go.Proofs.YteaincdeoajkeaaGreatDoor.Vw
open Go.RowKit Ut Oc
set_option maxRecDepth 100000
set_option linter.unusedVariables false
set_option maxHeartbeats 4000000

/-- one that is there: page, frame, place, all plain numbers -/
structure Hitt (n : Nat) (L : List Gm.Pl) (z m : Int) (M j f o : Nat) : Prop where
 hm : m = M
 hw : isW (M : Int) = true
 hj : z / 64 = j
 j12 : j < 12
 hat : (Gm.atP L (z / 64)).1 = f
 fn : f < n
 f32 : f < 32
 ho : z % 64 = o
 fit : o + M ≤ 64
 th : Gm.thB (Gm.atP L (z / 64)) = true
def loadF (n : Nat) (S : List Int) (L : List Gm.Pl) (z m : Int) : Int :=
 if findF n L z m 1 = 0 then num (((Fr.frameL S (Gm.atP L (z / 64)).1.toNat).drop (z % 64).toNat).take m.toNat) else 0
def saveS (n : Nat) (S : List Int) (L : List Gm.Pl) (z m x : Int) : List Int :=
 if findF n L z m 2 = 0 then Fr.layF S (Gm.atP L (z / 64)).1.toNat (putZ (Fr.frameL S (Gm.atP L (z / 64)).1.toNat) (z % 64).toNat m.toNat x) else S
def saveD (n : Nat) (L : List Gm.Pl) (D : List Bool) (z m : Int) : List Bool :=
 if findF n L z m 2 = 0 then D.set (z / 64).toNat true else D
section
variable {b s m n : Nat} {S : List Int} {L : List Gm.Pl} {D : List Bool}
end
end Go.Proofs.YteaincdeoajkeaaGreatDoor.Vw
end
