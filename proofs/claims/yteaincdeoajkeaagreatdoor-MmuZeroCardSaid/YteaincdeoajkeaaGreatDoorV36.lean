/- Several texts in one: Jv Jw -/
import Derived.Test.YteaincdeoajkeaaGreatDoorV35
section
/- Package shadow: forget: what goes, and what is left in its place. -/
namespace Go.Proofs.YteaincdeoajkeaaGreatDoor.Sw
open Go.RowKit Ut
set_option maxRecDepth 100000
set_option linter.unusedVariables false
set_option maxHeartbeats 8000000

/-- where forget's loop is: i asked, k of them left, the places L -/
structure FgI (P : Ln → Bool) (l L0 L : List Ln) (k i : Nat) : Prop where
 len : L.length = 32
 tk : L.take k = (l.take i).filter (fun x => !P x)
 dr : L.drop i = L0.drop i
 le : k ≤ i
 kl : ((l.take i).filter (fun x => !P x)).length = k
section
variable {P : Ln → Bool} {l L0 L : List Ln} {k i : Nat} {x : Ln}
theorem fg_take (hx : l[i]? = some x) : (l.take (i + 1)).filter (fun x => !P x) = (l.take i).filter (fun x => !P x) ++ (if P x = true then [] else [x]) := by
 rw [List.take_add_one, hx, List.filter_append]
 cases h : P x <;> simp [h]
theorem FgI.goes (h : FgI P l L0 L k i) (hx : l[i]? = some x) (hp : P x = true) : FgI P l L0 L k (i + 1) := by
 have e := fg_take (P := P) hx
 rw [if_pos hp, List.append_nil] at e
 exact ⟨h.len, by rw [e]; exact h.tk, by rw [← List.drop_drop, h.dr, List.drop_drop], Nat.le_succ_of_le h.le, by rw [e]; exact h.kl⟩
theorem FgI.stays (h : FgI P l L0 L k i) (hx : l[i]? = some x) (hp : P x = false) (hi : i < 32) : FgI P l L0 (L.set k x) (k + 1) (i + 1) := by
 have e := fg_take (P := P) hx
 rw [if_neg (by rw [hp]; decide)] at e
 have hkL : k < L.length := by have := h.le; have := h.len; omega
 refine ⟨by rw [List.length_set]; exact h.len, ?_, ?_, Nat.succ_le_succ h.le, by rw [e, List.length_append, h.kl]; rfl⟩
 ·rw [e, ← h.tk, List.take_add_one, List.getElem?_set_self hkL, List.take_set_of_le (Nat.le_refl _)]
  rfl
 ·rw [List.drop_set_of_lt (by have := h.le; omega), ← List.drop_drop, h.dr, List.drop_drop]
theorem FgI.at_ {z : List Ln} (h : FgI P l (l ++ z) L k i) (hx : l[i]? = some x) : L[i]? = some x := by
 have h1 : (L.drop i)[0]? = ((l ++ z).drop i)[0]? := by rw [h.dr]
 rw [List.getElem?_drop, List.getElem?_drop, Nat.add_zero, List.getElem?_append_left (List.getElem?_eq_some_iff.1 hx).1, hx] at h1
 exact h1
end
/-- forget's loop: the keys of those that go, and the places -/
structure FgW (W wr : World) (g : Nat) (m : Bool) (n : Int) (v : Value) (gone L : List Ln) : Prop where
 own : OwnT 2 wr W.heap.size 48 v (gone.map Ln.key)
 rs : RS19 wr g m n L
 gl : g < W.heap.size
 kq : Kq [g] W wr
section
variable {W wr w' : World} {g : Nat} {m : Bool} {n : Int} {v v' : Value} {gone L L' : List Ln}
theorem FgW.ob (h : FgW W wr g m n v gone L) : ∀ q, v.ownBlock = some q → W.heap.size ≤ q ∧ q < wr.heap.size := fun q hq => World.ownsRow.lt h.own.1 q hq
theorem FgW.more (h : FgW W wr g m n v gone L) (hb : Below wr.heap.size wr w') : FgW W w' g m n v gone L := ⟨h.own.below hb, h.rs.more hb, h.gl, h.kq.trans (Kq.of_below hb)⟩
theorem FgW.key (h : FgW W wr g m n v gone L) (ho : OwnT 2 w' W.heap.size 48 v' (L'.map Ln.key)) (hg : wr.grownBy w' v.ownBlock) : FgW W w' g m n v' L' L :=
 ⟨ho, ⟨h.rs.1, h.rs.2.of_block (hg.block g h.rs.lt (fun e => by have := (h.ob g e.symm).1; have := h.gl; omega))⟩, h.gl, kq_grown h.kq hg (fun q hq => .inl (h.ob q hq).1)⟩
theorem FgW.put (h : FgW W wr g m n v gone L) (ds : Array Value) (hr : RS19 (wr.setRow g ds) g m n L') : FgW W (wr.setRow g ds) g m n v gone L' :=
 ⟨ownT_kept h.own (setRow_kq [g] wr g ds (by simp)) (fun q hq => by have := (h.ob q hq).1; have := h.gl; simp; omega), hr, h.gl, h.kq.trans (setRow_kq _ _ _ _ (by simp))⟩
end
section
variable {W : World} {g fi : Nat} {m : Bool} {l : List Ln} {caps : Array Value} {P : Ln → Bool}
end
end Go.Proofs.YteaincdeoajkeaaGreatDoor.Sw
end
section
/- Package shadow: Wrote, Gone, Flush. -/
namespace Go.Proofs.YteaincdeoajkeaaGreatDoor.Sw
open Go.RowKit Ut
set_option maxRecDepth 100000
set_option linter.unusedVariables false
set_option maxHeartbeats 4000000

section
variable {W : World} {g : Nat} {m : Bool} {l : List Ln}
end
end Go.Proofs.YteaincdeoajkeaaGreatDoor.Sw
end
