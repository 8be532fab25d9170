/- Several texts in one: Ah Aw Km Kn -/
import Derived.Test.YteaincdeoajkeaaGreatDoorV42
import Derived.Test.YteaincdeoajkeaaGreatDoorV46
import Derived.Deep.OwnRows
import Derived.Test.YteaincdeoajkeaaGreatDoorV45
section
/- The document's translations: Narrow. -/
namespace Go.Proofs.YteaincdeoajkeaaGreatDoor.Sb
open Go.RowKit Ut
set_option maxRecDepth 100000
set_option linter.unusedVariables false
set_option maxHeartbeats 4000000

theorem ownT_kq {k B : Nat} {w w' : World} {e : TypeId} {v : Value} {xs : List (List Int)} {T : List Nat} (h : OwnT k w B e v xs) (K : Kq T w w') (hT : ∀ q, v.ownBlock = some q → q ∉ T) : OwnT k w' B e v xs := by
 refine ⟨⟨h.1.1, ?_⟩, h.2⟩
 rcases h.1.2 with h0 | ⟨g, cap, cur, rfl, hB, hg, r⟩
 ·exact .inl h0
 ·exact .inr ⟨g, cap, cur, rfl, hB, (K.block g (Array.getElem?_eq_some_iff.1 hg).1 (hT g rfl)).trans hg, r⟩
section
variable {g n cap : Nat} {room : Int} {a : Option Addr} {l : List Rc}
end
end Go.Proofs.YteaincdeoajkeaaGreatDoor.Sb
end
section
/- Package stlb: List. -/
namespace Go.Proofs.YteaincdeoajkeaaGreatDoor.Sb
open Go.RowKit Ut Hg
set_option maxRecDepth 100000
set_option linter.unusedVariables false
set_option maxHeartbeats 4000000

/-- what first answers, and what is left, told by the list -/
def FirstP (l : List Rc) (e : Ending) (w' : World) (b : Nat) (t : TypeId) (pre : List Value) : Prop := ∃ (c : Us) (q : Bool) (us : List Us) (L : List Rc), e = .returned (.tuple #[usV c, .bool q]) ∧ HP w' b t pre us ∧ Rel us L ∧ l = (if q = true then c.1 :: L else [])
section
variable {W : World} {b o g : Nat} {t : TypeId} {pre : List Value} {us : List Us} {l : List Rc} {room c : Int}
def lenOf : Value → Nat
 | .slice _ n _ => n
 | _ => 0
def zeroL : List Value := .int .i64 0 :: flatU [noU, noU, noU, noU, noU]
/-- where List's loop is: d is told already, L (behind c, if q) is still to come -/
structure LS (W wr : World) (lb xb : Nat) (d : List Rc) (l : List Rc) (c : Us) (q : Bool) (us : List Us) (L : List Rc) (v : Value) : Prop where
 own : OwnT 5 wr (lb + 1) 52 v (d.map Rc.l)
 x : Blk wr xb 170 (usC c)
 h : HP wr lb 173 [] us
 r : Rel us L
 e : d ++ (if q = true then c.1 :: L else []) = l
 ne : ∀ p, v.ownBlock = some p → p ≠ xb
 xg : lb < xb
 lw : W.heap.size ≤ lb
 b : Below W.heap.size W wr
end
end Go.Proofs.YteaincdeoajkeaaGreatDoor.Sb
end
section
/- Package stlb, whatever its counter of uses says: which translations it remembers, in any order; New, Drop, Narrow, Flush. -/
namespace Go.Proofs.YteaincdeoajkeaaGreatDoor.Sb
open Go.RowKit Ut Hg
set_option maxRecDepth 100000
set_option linter.unusedVariables false
set_option maxHeartbeats 4000000

/-- us are those of l, in any order -/
def RelQ (us : List Us) (l : List Rc) : Prop := Once l ∧ (us.map Prod.fst).Perm l
section
variable {us vs us2 : List Us} {l : List Rc} {i : Nat} {u : Us} {x : Rc} {s p q : Int}
theorem RelQ.nil : RelQ [] [] := ⟨List.Pairwise.nil, List.Perm.refl _⟩
theorem RelQ.perm (h : RelQ us l) (hp : us.Perm vs) : RelQ vs l := ⟨h.1, (hp.symm.map _).trans h.2⟩
theorem RelQ.len (h : RelQ us l) : us.length = l.length := by rw [← h.2.length_eq, List.length_map]
theorem RelQ.mem (h : RelQ us l) {x : Rc} : x ∈ l ↔ ∃ s, (x, s) ∈ us := by
 rw [← h.2.mem_iff, List.mem_map]
 constructor
 ·rintro ⟨⟨y, s⟩, hy, rfl⟩; exact ⟨s, hy⟩
 ·rintro ⟨s, hs⟩; exact ⟨(x, s), hs, rfl⟩
theorem once_find {l : List Rc} (ho : Once l) {x : Rc} (hm : x ∈ l) (hi : x.is p q = true) : findL l p q = some x := by
 unfold findL
 induction l with
 | nil => cases hm
 | cons y l ih =>
  rw [List.find?_cons]
  rcases List.mem_cons.1 hm with rfl | hm2
  ·rw [hi]
  ·have hx : y.is p q = false := by
    cases hxx : y.is p q with
    | false => rfl
    | true =>
     have h1 := (List.pairwise_cons.1 ho).1 _ hm2
     have h2 := is_iff.1 hxx
     have h3 := is_iff.1 hi
     exact absurd ⟨h2.1.trans h3.1.symm, h2.2.trans h3.2.symm⟩ h1
   rw [hx]
   exact ih (List.pairwise_cons.1 ho).2 hm2
theorem RelQ.find_some (h : RelQ us l) (hu : u ∈ us) (hi : u.1.is p q = true) : findL l p q = some u.1 := once_find h.1 (h.mem.2 ⟨u.2, hu⟩) hi
theorem once_perm {l m : List Rc} (h : Once l) (hp : l.Perm m) : Once m := (hp.pairwise_iff (fun {a b} hab hba => hab ⟨hba.1.symm, hba.2.symm⟩)).1 h
theorem RelQ.filter (h : RelQ us l) (f : Rc → Bool) : RelQ (us.filter fun u => f u.1) (l.filter f) := by
 refine ⟨h.1.filter _, ?_⟩
 have h1 := h.2.filter f
 rw [List.filter_map] at h1
 exact h1
theorem RelQ.map (h : RelQ us l) (f : Rc → Rc) (hf : ∀ x, (f x).kr = x.kr ∧ (f x).kp = x.kp) : RelQ (us.map fun u => (f u.1, u.2)) (l.map f) := by
 refine ⟨?_, ?_⟩
 ·unfold Once
  rw [List.pairwise_map]
  refine h.1.imp fun {a b} hab => ?_
  rw [(hf a).1, (hf a).2, (hf b).1, (hf b).2]
  exact hab
 ·have h1 := h.2.map f
  rw [List.map_map] at h1 ⊢
  exact h1
theorem RelQ.put (h : RelQ us (withoutL l x.kr x.kp)) (hp : us2.Perm ((x, s) :: us)) : RelQ us2 (withoutL l x.kr x.kp ++ [x]) := by
 refine ⟨?_, ?_⟩
 ·unfold Once
  rw [List.pairwise_append]
  refine ⟨h.1, List.pairwise_singleton _ _, fun a ha b hb => ?_⟩
  simp at hb
  subst hb
  intro e
  have := (List.mem_filter.1 ha).2
  rw [is_iff.2 e] at this
  cases this
 ·refine (hp.map Prod.fst).trans ?_
  rw [List.map_cons]
  exact ((h.2.cons x)).trans (List.perm_append_comm (l₁ := [x]))
/-- one is taken out -/
theorem RelQ.out (h : RelQ us2 l) {r : List Us} (hp : (u :: r).Perm us2) : RelQ r (r.map Prod.fst) ∧ (∀ y ∈ r.map Prod.fst, y ∈ l) ∧ (r.map Prod.fst).length + 1 = l.length ∧ l.Perm (u.1 :: r.map Prod.fst) := by
 have h1 : l.Perm (u.1 :: r.map Prod.fst) := h.2.symm.trans ((hp.map Prod.fst).symm)
 have h2 := once_perm h.1 h1
 refine ⟨⟨(List.pairwise_cons.1 h2).2, List.Perm.refl _⟩, fun y hy => h1.mem_iff.2 (List.mem_cons_of_mem _ hy), ?_, h1⟩
 rw [h1.length_eq]
 rfl
/-- one is used anew -/
theorem RelQ.used (h : RelQ us l) (hu : us[i]? = some u) (hp : us2.Perm (us.set i (u.1, s))) : RelQ us2 l := by
 refine ⟨h.1, ((hp.map Prod.fst).trans (List.Perm.of_eq ?_)).trans h.2⟩
 rw [List.map_set]
 refine List.ext_getElem? fun j => ?_
 rw [List.getElem?_set]
 by_cases hj : i = j
 ·subst hj
  rw [if_pos rfl, List.getElem?_map, hu]
  have := (List.getElem?_eq_some_iff.1 hu).1
  rw [List.length_map, if_pos this]
  rfl
 ·rw [if_neg hj]
end

/-- the program's translations at g: those of l, in any order -/
def QS (W : World) (g : Nat) (room c : Int) (l : List Rc) : Prop := ∃ us, HP W g 175 (hd3 room c) us ∧ RelQ us l
/-- .. at most room -/
def QT (W : World) (g : Nat) (l : List Rc) : Prop := ∃ room c, QS W g room c l ∧ 0 ≤ room ∧ room ≤ 4 ∧ (l.length : Int) ≤ room
section
variable {W W0 W' : World} {g : Nat} {room c : Int} {l l' : List Rc} {us : List Us}
theorem QS.lt (h : QS W g room c l) : g < W.heap.size := h.elim fun _ h => h.1.1.lt
theorem QS.kq {T : List Nat} (h : QS W g room c l) (k : Kq T W W') (hg : g ∉ T) : QS W' g room c l := by
 obtain ⟨us, h1, h2⟩ := h
 exact ⟨us, ⟨h1.1.kq k hg, h1.2⟩, h2⟩
theorem QS.more (h : QS W g room c l) (hb : Below W.heap.size W W') : QS W' g room c l := h.kq (T := []) (Kq.of_below hb) (by simp)
theorem QT.lt (h : QT W g l) : g < W.heap.size := h.elim fun _ h => h.elim fun _ h => h.1.lt
theorem QT.kq {T : List Nat} (h : QT W g l) (k : Kq T W W') (hg : g ∉ T) : QT W' g l := h.elim fun r h => h.elim fun c h => ⟨r, c, h.1.kq k hg, h.2⟩
theorem QT.more (h : QT W g l) (hb : Below W.heap.size W W') : QT W' g l := h.kq (T := []) (Kq.of_below hb) (by simp)
theorem QT.once (h : QT W g l) : Once l := h.elim fun _ h => h.elim fun _ h => h.1.elim fun _ h => h.2.1
theorem QT.len (h : QT W g l) : l.length ≤ 4 := h.elim fun _ h => h.elim fun _ h => by have := h.2; omega
theorem QT.cell0 (h : QT W g l) : W.cell? ⟨g, 0, none⟩ = some (.bool true) := h.elim fun _ h => h.elim fun _ h => h.1.elim fun _ h => h.1.1.pre.1
end
end Go.Proofs.YteaincdeoajkeaaGreatDoor.Sb
end
section
/- Package stlb, whatever its counter of uses says: Put, Get. -/
namespace Go.Proofs.YteaincdeoajkeaaGreatDoor.Sb
open Go.RowKit Ut Hg
set_option maxRecDepth 100000
set_option linter.unusedVariables false
set_option maxHeartbeats 4000000

section
variable {W : World} {g : Nat} {room c : Int} {l : List Rc} {us : List Us}
end
end Go.Proofs.YteaincdeoajkeaaGreatDoor.Sb
end
