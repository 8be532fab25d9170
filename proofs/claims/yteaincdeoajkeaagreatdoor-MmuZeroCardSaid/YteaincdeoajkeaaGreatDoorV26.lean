/- Several texts in one: Rh -/
import Derived.Test.YteaincdeoajkeaaGreatDoorV25
import Derived.Test.YteaincdeoajkeaaGreatDoorV11
section
/- Rows of records of k integers each, wherever they lie: read, kept, grown by one, cut at the front. Serves all packages. -/
namespace Go.Proofs.YteaincdeoajkeaaGreatDoor.Ut
open Go.RowKit
set_option linter.unusedVariables false

/-- the slice at a reads as xs, records of k integers -/
def IRow (k : Nat) (w : World) (a : Option Addr) (xs : List (List Int)) : Prop := ∀ (i : Nat) (x : List Int), xs[i]? = some x → ∃ y, a = some y ∧ y.block < w.heap.size ∧ ∀ (j : Nat) (z : Int), x[j]? = some z → w.cell? (y.add (i * k + j)) = some (.int .i64 z)
theorem add_past (x : Addr) (m j : Nat) (hj : 0 < j) : x.add (m + j) = ⟨(x.add m).block, (x.add m).off + j, none⟩ := by
 rw [← add_of_add]
 generalize x.add m = y
 unfold Addr.add
 rw [if_neg (by omega)]
section
variable {w w' : World} {a : Option Addr} {xs : List (List Int)} {B k : Nat}
theorem IRow.nil (k : Nat) (w : World) (a : Option Addr) : IRow k w a [] := fun i x h => by simp at h
theorem IRow.kq {T : List Nat} (h : IRow k w a xs) (q : Kq T w w') (hT : ∀ y, a = some y → y.block ∉ T) : IRow k w' a xs := fun i x hx => by
 obtain ⟨y, rfl, hy, hc⟩ := h i x hx
 exact ⟨y, rfl, Nat.lt_of_lt_of_le hy q.size, fun j z hz => (q.cell (p := y.add (i * k + j)) (by rw [block_of_add]; exact hy) (by rw [block_of_add]; exact hT y rfl)).trans (hc j z hz)⟩
theorem IRow.more (h : IRow k w a xs) (hb : Below w.heap.size w w') : IRow k w' a xs := h.kq (T := []) (Kq.of_below hb) (fun _ _ => by simp)
/-- a record's cells as the walk spells them -/
theorem IRow.at_ (h : IRow k w a xs) {i : Nat} {x : List Int} (hx : xs[i]? = some x) : ∃ y, a = some y ∧ y.block < w.heap.size ∧ (y.add (i * k)).block < w.heap.size ∧ (∀ z, x[0]? = some z → w.cell? (y.add (i * k)) = some (.int .i64 z)) ∧ ∀ j z, 0 < j → x[j]? = some z → w.cell? ⟨(y.add (i * k)).block, (y.add (i * k)).off + j, none⟩ = some (.int .i64 z) := by
 obtain ⟨y, e, hy, hc⟩ := h i x hx
 exact ⟨y, e, hy, by rw [block_of_add]; exact hy, fun z hz => hc 0 z hz, fun j z hj hz => by rw [← add_past y (i * k) j hj]; exact hc j z hz⟩
theorem encR_get (k : Nat) : ∀ (xs : List (List Int)), (∀ x ∈ xs, x.length = k) → ∀ (i : Nat) (x : List Int) (j : Nat) (z : Int), xs[i]? = some x → x[j]? = some z → (encR xs)[i * k + j]? = some (.int .i64 z) := by
 intro xs
 induction xs with
 | nil => intro _ i x j z h1; simp at h1
 | cons c xs ih =>
  intro hk i x j z h1 h2
  have hc : c.length = k := hk c (List.mem_cons_self ..)
  have hcl : (encI c).length = k := by unfold encI; rw [List.length_map, hc]
  have e1 : encR (c :: xs) = encI c ++ encR xs := rfl
  rw [e1]
  match i, h1 with
  | 0, h1 =>
   injection h1 with h1
   subst h1
   have hj : j < c.length := (List.getElem?_eq_some_iff.1 h2).1
   rw [List.getElem?_append_left (by omega), Nat.zero_mul, Nat.zero_add]
   unfold encI
   rw [List.getElem?_map, h2]
   rfl
  | i + 1, h1 =>
   rw [List.getElem?_append_right (by rw [hcl, Nat.add_mul]; omega), hcl, show (i + 1) * k + j - k = i * k + j by rw [Nat.add_mul]; omega]
   exact ih (fun x hx => hk x (List.mem_cons_of_mem _ hx)) i x j z h1 h2
/-- what the call owns reads so -/
theorem IRow.own {e : TypeId} {v : Value} (h : OwnT k w B e v xs) : ∃ a cap, v = .slice a xs.length cap ∧ IRow k w a xs ∧ xs.length ≤ cap ∧ cap ≤ maxLen ∧ (∀ y, a = some y → B ≤ y.block) ∧ v.ownBlock = a.map Addr.block := by
 rcases h.1.2 with ⟨rfl, h0⟩ | ⟨g, cap, cur, rfl, hB, hg, hnc, hcm, hsz, htk⟩
 ·have hx : xs = [] := List.eq_nil_of_length_eq_zero h0
  subst hx
  exact ⟨none, 0, rfl, IRow.nil _ _ _, by simp, by simp, (fun y e => by cases e), rfl⟩
 ·refine ⟨some ⟨g, 0, none⟩, cap, rfl, fun i x hx => ⟨_, rfl, (Array.getElem?_eq_some_iff.1 hg).1, fun j z hz => ?_⟩, hnc, hcm, (fun y e => by injection e with e; rw [← e]; exact hB), rfl⟩
  have h1 := encR_get k xs h.2 i x j z hx hz
  rw [← htk, List.getElem?_take] at h1
  have h2 : cur.toList[i * k + j]? = some (.int .i64 z) := by
   split at h1
   ·exact h1
   ·cases h1
  rw [add_plain]
  unfold World.cell?
  rw [hg]
  simpa using h2
theorem ownT_kept {e : TypeId} {v : Value} {T : List Nat} (h : OwnT k w B e v xs) (K : Kq T w w') (hT : ∀ q, v.ownBlock = some q → q ∉ T) : OwnT k w' B e v xs := by
 refine ⟨⟨h.1.1, ?_⟩, h.2⟩
 rcases h.1.2 with h0 | ⟨g, cap, cur, rfl, hB, hg, r⟩
 ·exact .inl h0
 ·exact .inr ⟨g, cap, cur, rfl, hB, (K.block g (Array.getElem?_eq_some_iff.1 hg).1 (hT g rfl)).trans hg, r⟩
/-- the first record is cut off -/
theorem IRow.cut {y : Addr} {c : Nat} (h : IRow k w (some y) xs) (hk : 0 < k) (hc : c = 1 → xs.length ≤ 1) : IRow k w (if c = 1 then some y else some ⟨y.block, y.off + k, none⟩) (xs.drop 1) := fun i x hx => by
 rw [List.getElem?_drop] at hx
 have hi := (List.getElem?_eq_some_iff.1 hx).1
 have h1 : ¬ c = 1 := fun e => by have := hc e; omega
 rw [if_neg h1]
 obtain ⟨y', e, hy, hcell⟩ := h (1 + i) x hx
 injection e with e
 subst e
 refine ⟨_, rfl, hy, fun j z hz => ?_⟩
 have e5 : (⟨y.block, y.off + k, none⟩ : Addr) = y.add k := by unfold Addr.add; rw [if_neg (by omega)]
 rw [e5, add_of_add, show k + (i * k + j) = (1 + i) * k + j by rw [Nat.add_mul]; omega]
 exact hcell j z hz
end
end Go.Proofs.YteaincdeoajkeaaGreatDoor.Ut
end
