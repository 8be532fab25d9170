/- Several texts in one: Au Af Av -/
import Derived.Test.YteaincdeoajkeaaGreatDoorV45
import Derived.Test.YteaincdeoajkeaaGreatDoorV39
section
/- Package stlb: Put. -/
namespace Go.Proofs.YteaincdeoajkeaaGreatDoor.Sb
open Go.RowKit Ut Hg
set_option maxRecDepth 100000
set_option linter.unusedVariables false
set_option maxHeartbeats 4000000

section
variable {W : World} {g : Nat} {room c : Int} {l : List Rc}
theorem HP.drewN {b : Nat} {t : TypeId} {pre : List Value} {us : List Us} (h : HP W b t pre us) (n : Nat) : HP (W.drewN n) b t pre us := ⟨h.1.of_block rfl, h.2⟩
theorem without_none {x : Rc} {p q : Int} (h : x ∈ withoutL l p q) : ¬ (x.kr = p ∧ x.kp = q) := fun e => by
 have := (List.mem_filter.1 h).2
 rw [is_iff.2 e] at this
 cases this
/-- what is put now -/
theorem Rel.put {us us2 : List Us} {x : Rc} (h : Rel us (withoutL l x.kr x.kp)) (hc : ∀ u ∈ us, u.2 ≤ c) (hp : us2.Perm ((x, c + 1) :: us)) : Rel us2 (withoutL l x.kr x.kp ++ [x]) ∧ ∀ u ∈ us2, u.2 ≤ c + 1 := by
 refine ⟨(h.add x (c + 1) (fun u hu => by have := hc u hu; omega) (fun u hu => without_none (h.mem.2 ⟨u.2, hu⟩))).perm hp.symm, fun u hu => ?_⟩
 rcases List.mem_cons.1 (hp.mem_iff.1 hu) with rfl | hu
 ·exact Int.le_refl _
 ·have := hc u hu; omega

end
end Go.Proofs.YteaincdeoajkeaaGreatDoor.Sb
end
section
/- The document's translations: Get. -/
namespace Go.Proofs.YteaincdeoajkeaaGreatDoor.Sb
open Go.RowKit Ut
set_option maxRecDepth 100000
set_option linter.unusedVariables false
set_option maxHeartbeats 4000000

def getX (o : Option Rc) (l xs : List Rc) (p q : Int) : List Rc := match o with | some x => xs ++ [⟨p, q, x.ep, x.ef, x.er⟩] | none => l
def getL (l : List Rc) (p q : Int) : List Rc := getX (findL l p q) l (withoutL l p q) p q
/-- Get's own blocks: the key, the result, the entry that was found -/
structure GS (w W : World) (p q : Int) (eb : Nat) (e0 e1 e2 : Int) : Prop where
 b : w.heap.size ≤ W.heap.size
 ky : Blk W w.heap.size 48 [.int .i64 p, .int .i64 q]
 rs : Blk W (w.heap.size + 1) 50 (entC (0, 0, 0))
 en : Blk W eb 50 [.int .i64 e0, .int .i64 e1, .int .i64 e2]
 eg : w.heap.size + 1 < eb
theorem GS.more {w W W' : World} {p q : Int} {eb : Nat} {e0 e1 e2 : Int} (h : GS w W p q eb e0 e1 e2) (hb : Below W.heap.size W W') : GS w W' p q eb e0 e1 e2 := ⟨Nat.le_trans h.b hb.size, h.ky.more hb, h.rs.more hb, h.en.more hb, h.eg⟩
theorem GS.set {w W : World} {p q : Int} {eb g : Nat} {e0 e1 e2 : Int} (h : GS w W p q eb e0 e1 e2) (hg : g < w.heap.size) (v : Value) : GS w (W.setCell ⟨g, 0, none⟩ v) p q eb e0 e1 e2 := by
 have he := h.eg
 exact ⟨by simpa [World.setCell] using h.b, h.ky.of_block (Below.heap_setCell _ _ _ _ (by simp; omega)), h.rs.of_block (Below.heap_setCell _ _ _ _ (by simp; omega)), h.en.of_block (Below.heap_setCell _ _ _ _ (by simp; omega)), h.eg⟩
section
variable {g n cap : Nat} {room : Int} {a : Option Addr} {l : List Rc}
end
end Go.Proofs.YteaincdeoajkeaaGreatDoor.Sb
end
section
/- Package stlb: Get. -/
namespace Go.Proofs.YteaincdeoajkeaaGreatDoor.Sb
open Go.RowKit Ut Hg
set_option maxRecDepth 100000
set_option linter.unusedVariables false
set_option maxHeartbeats 4000000

theorem split_at {us : List Us} {i : Nat} {u : Us} (h : us[i]? = some u) (v : Us) : ∃ r, us.Perm (u :: r) ∧ (us.set i v).Perm (v :: r) := by
 induction us generalizing i with
 | nil => simp at h
 | cons x us ih =>
  cases i with
  | zero =>
   simp only [List.getElem?_cons_zero, Option.some.injEq] at h
   subst h
   exact ⟨us, List.Perm.refl _, List.Perm.refl _⟩
  | succ i =>
   obtain ⟨r, h1, h2⟩ := ih (by simpa using h)
   exact ⟨x :: r, (h1.cons x).trans (List.Perm.swap _ _ _), (h2.cons x).trans (List.Perm.swap _ _ _)⟩
section
variable {W : World} {g : Nat} {room c : Int} {l : List Rc} {us : List Us}
theorem LB.used (h : LB W g 175 (hd3 room c) us) (i : Nat) (u : Us) (hu : us[i]? = some u) (s : Int) : LB (W.setCell ⟨g, 4 + i * 6 + 5, none⟩ (.int .u64 s)) g 175 (hd3 room c) (us.set i (u.1, s)) := by
 obtain ⟨z, h5, hb⟩ := h
 have hil := (List.getElem?_eq_some_iff.1 hu).1
 refine ⟨z, by simpa using h5, ?_⟩
 have h6 := hb.set (4 + i * 6 + 5) (.int .u64 s)
 have e : (hd3 room c ++ .int .i64 (us.length : Nat) :: flatU (us ++ z)).set (4 + i * 6 + 5) (.int .u64 s) = hd3 room c ++ .int .i64 ((us.set i (u.1, s)).length : Nat) :: flatU (us.set i (u.1, s) ++ z) := by
  have e0 : (hd3 room c).length = 3 := rfl
  rw [List.length_set, List.set_append_right _ _ (by omega), show 4 + i * 6 + 5 - (hd3 room c).length = i * 6 + 5 + 1 by omega, List.set_cons_succ, ← List.set_append_left _ _ hil]
  congr 2
  rw [flatU_set _ _ _ (by rw [List.length_append]; omega)]
  have hx : (us ++ z)[i]? = some u := by rw [List.getElem?_append_left hil]; exact hu
  obtain ⟨g0, g1, g2, g3, g4, g5⟩ := flatU_get _ i u hx
  have keep : ∀ (X : List Value) (j : Nat) (v : Value), X[j]? = some v → X.set j v = X := fun X j v hv => by
   apply List.ext_getElem?
   intro m
   rw [List.getElem?_set]
   by_cases hm : j = m
   ·subst hm
    rw [if_pos rfl, if_pos (List.getElem?_eq_some_iff.1 hv).1, hv]
   ·rw [if_neg hm]
  dsimp only
  rw [keep _ _ _ g0, keep _ _ _ g1, keep _ _ _ g2, keep _ _ _ g3, keep _ _ _ g4]
 rw [e] at h6
 exact h6
/-- what is got is used now -/
theorem Rel.used {us2 : List Us} {i : Nat} {u : Us} {p q : Int} (h : Rel us l) (hu : us[i]? = some u) (hi : u.1.is p q = true) (hc : ∀ u ∈ us, u.2 ≤ c) (hp : us2.Perm (us.set i (u.1, c + 1))) : Rel us2 (getL l p q) ∧ ∀ u ∈ us2, u.2 ≤ c + 1 := by
 obtain ⟨r, h1, h2⟩ := split_at hu (u.1, c + 1)
 have hf := h.find_some (List.mem_of_getElem? hu) hi
 obtain ⟨e1, e2⟩ := is_iff.1 hi
 have hr := (h.perm h1).rem
 have hcr : ∀ v ∈ r, v.2 ≤ c := fun v hv => hc v (h1.mem_iff.2 (List.mem_cons_of_mem _ hv))
 have ha := hr.add u.1 (c + 1) (fun v hv => by have := hcr v hv; omega) (fun v hv => without_none (hr.mem.2 ⟨v.2, hv⟩))
 refine ⟨?_, fun v hv => ?_⟩
 ·have e3 : getL l p q = withoutL l u.1.kr u.1.kp ++ [u.1] := by
   unfold getL
   rw [hf, ← e1, ← e2]
   rfl
  rw [e3]
  exact ha.perm (hp.trans h2).symm
 ·rcases List.mem_cons.1 ((hp.trans h2).mem_iff.1 hv) with rfl | hv
  ·exact Int.le_refl _
  ·have := hcr v hv; omega
end
end Go.Proofs.YteaincdeoajkeaaGreatDoor.Sb
end
