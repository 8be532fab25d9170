/- Several texts in one: Vt -/
import Derived.Test.YteaincdeoajkeaaGreatDoorV01
import Derived.Laws.OwnMore
import Derived.Deep.OwnRows
import Derived.Deep.Draws
import Derived.Laws.CopyOwn
import Derived.Laws.AppendOwnNone
import Derived.OwnWalk
section
/- Small laws that the walks of several packages share: a slice that came in or was made, as a list of integers of any kind. -/
namespace Go.Proofs.YteaincdeoajkeaaGreatDoor.Ut
open Go.RowKit

theorem block_of_add (a : Addr) (n : Nat) : (a.add n).block = a.block := by unfold Addr.add; split <;> rfl
theorem add_of_add (a : Addr) (i j : Nat) : (a.add i).add j = a.add (i + j) := by
 unfold Addr.add
 by_cases hi : i = 0 <;> by_cases hj : j = 0 <;> simp [hi, hj, Nat.add_assoc]
theorem add_plain (g i : Nat) : (⟨g, 0, none⟩ : Addr).add i = ⟨g, i, none⟩ := by unfold Addr.add; split <;> simp_all

/-- the slice at a of n elements of the integer kind k reads as zs, and lies below block B -/
def RowK (k : IntKind) (w : World) (B : Nat) (a : Option Addr) (n : Nat) (zs : List Int) : Prop :=
 zs.length = n ∧ ∀ i, i < n → ∃ x, a = some x ∧ x.block < B ∧ w.cell? (x.add i) = some (.int k (zs.getD i 0))

theorem RowK.below {k : IntKind} {w w' : World} {B n : Nat} {a : Option Addr} {zs : List Int} (h : RowK k w B a n zs) (hb : Below B w w') : RowK k w' B a n zs :=
 ⟨h.1, fun i hi => by
  obtain ⟨x, e, hx, hc⟩ := h.2 i hi
  exact ⟨x, e, hx, (hb.cell (p := x.add i) (by rw [block_of_add]; exact hx)).trans hc⟩⟩
theorem RowK.more {k : IntKind} {w : World} {B B' n : Nat} {a : Option Addr} {zs : List Int} (h : RowK k w B a n zs) (hB : B ≤ B') : RowK k w B' a n zs :=
 ⟨h.1, fun i hi => by
  obtain ⟨x, e, hx, hc⟩ := h.2 i hi
  exact ⟨x, e, by omega, hc⟩⟩
theorem RowK.drewN {k : IntKind} {w : World} {B n : Nat} {a : Option Addr} {zs : List Int} (h : RowK k w B a n zs) (d : Nat) : RowK k (w.drewN d) B a n zs := h
theorem RowK.nil (k : IntKind) (w : World) (B : Nat) (a : Option Addr) : RowK k w B a 0 [] := ⟨rfl, fun i hi => absurd hi (by omega)⟩

/-- a part of a row -/
theorem RowK.part {k : IntKind} {w : World} {B n : Nat} {x : Addr} {zs : List Int} (h : RowK k w B (some x) n zs) (i m : Nat) (him : i + m ≤ n) :
  RowK k w B (some (x.add i)) m ((zs.drop i).take m) := by
 refine ⟨by simp [h.1]; omega, fun j hj => ?_⟩
 obtain ⟨y, e, hx, hc⟩ := h.2 (i + j) (by omega)
 obtain rfl : x = y := by injection e
 refine ⟨_, rfl, by rw [block_of_add]; exact hx, ?_⟩
 rw [add_of_add, hc]
 simp [List.getD, hj]

/-- what the call owns, as a row -/
theorem RowK.of_own {k : IntKind} {w : World} {B e n : Nat} {v : Value} {xs : List Int} (h : w.ownsRow B e 1 v n (xs.map (Value.int k))) :
  ∃ a cap, v = .slice a n cap ∧ n ≤ cap ∧ cap ≤ maxLen ∧ RowK k w w.heap.size a n xs := by
 have hl : xs.length = n := by have := h.1; simpa using this
 rcases h.2 with ⟨rfl, rfl⟩ | ⟨g, cap, cur, rfl, hb, hg, hnc, hm, hsz, hcur⟩
 ·exact ⟨none, 0, rfl, by omega, by unfold maxLen; omega, hl, fun i hi => absurd hi (by omega)⟩
 ·refine ⟨some ⟨g, 0, none⟩, cap, rfl, hnc, hm, hl, fun i hi => ⟨_, rfl, (Array.getElem?_eq_some_iff.1 hg).1, ?_⟩⟩
  rw [add_plain, World.ownsRow.cellAt h i (by omega)]
  simp [List.getD, show i < xs.length by omega]

/-- the cells of a row, as 'copy' and 'append' ask for them -/
theorem RowK.cells {k : IntKind} {w : World} {B n : Nat} {a : Option Addr} {zs : List Int} (h : RowK k w B a n zs) (hp : 0 < (zs.map (Value.int k)).length) :
  ∃ ad, a = some ad ∧ ad.block < B ∧ ∀ j v, (zs.map (Value.int k))[j]? = some v → w.cell? (ad.add j) = some v := by
 rw [List.length_map, h.1] at hp
 obtain ⟨x, rfl, hb, _⟩ := h.2 0 hp
 refine ⟨x, rfl, hb, fun j v hj => ?_⟩
 have hjl : j < zs.length := by
  rcases Nat.lt_or_ge j zs.length with h | h
  ·exact h
  ·simp [List.getElem?_eq_none (show (zs.map (Value.int k)).length ≤ j by simpa using h)] at hj
 obtain ⟨y, e, _, hc⟩ := h.2 j (by rw [← h.1]; exact hjl)
 obtain rfl : x = y := by injection e
 rw [hc]
 simp [List.getElem?_eq_getElem hjl] at hj
 subst hj
 simp [List.getD, List.getElem?_eq_getElem hjl]

/-- what the call owns, as a list of numbers of one kind -/
def OwnI (k : IntKind) (w : World) (B : Nat) (e : TypeId) (v : Value) (n : Nat) (xs : List Int) : Prop := w.ownsRow B e 1 v n (xs.map (Value.int k))

section
variable {k : IntKind} {w w' : World} {B n : Nat} {e : TypeId} {v : Value} {xs : List Int}
theorem OwnI.nil (k : IntKind) (w : World) (B : Nat) (e : TypeId) : OwnI k w B e (.slice none 0 0) 0 [] := World.ownsRow_nil _ _ _ _
theorem OwnI.below (h : OwnI k w B e v n xs) (hb : Below w.heap.size w w') : OwnI k w' B e v n xs := ownsRow_below h hb
theorem OwnI.alloc (h : OwnI k w B e v n xs) (o : Obj) : OwnI k (w.alloc o) B e v n xs := World.ownsRow.alloc h o
theorem OwnI.drewN (h : OwnI k w B e v n xs) (d : Nat) : OwnI k (w.drewN d) B e v n xs := h
theorem OwnI.len (h : OwnI k w B e v n xs) : xs.length = n := by have := h.1; simpa using this
theorem OwnI.row (h : OwnI k w B e v n xs) : ∃ a cap, v = .slice a n cap ∧ n ≤ cap ∧ cap ≤ maxLen ∧ RowK k w w.heap.size a n xs := RowK.of_own h
theorem OwnI.made (k : IntKind) (w : World) (B : Nat) (e : TypeId) (hB : B ≤ w.heap.size) : OwnI k (w.alloc (.cells #[] e)) B e (.slice (some ⟨w.heap.size, 0, none⟩) 0 0) 0 [] :=
 World.ownsRow_made w #[] 0 hB (by unfold maxLen; omega) rfl
end

theorem OwnI.store {k : IntKind} {w : World} {B n g cap : Nat} {e : TypeId} {xs : List Int} (h : OwnI k w B e (.slice (some ⟨g, 0, none⟩) n cap) n xs) (j : Nat) (u : Int) :
  OwnI k (w.setCell ⟨g, j, none⟩ (.int k u)) B e (.slice (some ⟨g, 0, none⟩) n cap) n (xs.set j u) := by
 unfold OwnI
 rw [List.map_set]
 exact (World.ownsRow.stored h j (.int k u)).1
theorem OwnI.cellAt {k : IntKind} {w : World} {B n g cap : Nat} {e : TypeId} {xs : List Int} (h : OwnI k w B e (.slice (some ⟨g, 0, none⟩) n cap) n xs) (j : Nat) (hj : j < n) : w.cell? ⟨g, j, none⟩ = some (.int k (xs.getD j 0)) := by
 rw [World.ownsRow.cellAt h j (by omega)]
 simp [List.getD, show j < xs.length by rw [h.len]; exact hj]
theorem wf_u32 {z : Int} (h : (Lit.int .u32 z).wf = true) : 0 ≤ z ∧ z < 4294967296 := by
 simp [Lit.wf, IntKind.min, IntKind.max, IntKind.bits, IntKind.signed] at h; omega
end Go.Proofs.YteaincdeoajkeaaGreatDoor.Ut
end
