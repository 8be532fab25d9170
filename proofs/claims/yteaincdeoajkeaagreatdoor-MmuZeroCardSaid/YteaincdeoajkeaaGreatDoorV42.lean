/- Several texts in one: Ag Ak Al -/
import Derived.Test.YteaincdeoajkeaaGreatDoorV39
import Derived.Test.YteaincdeoajkeaaGreatDoorV41
import Derived.BigQuiet
import Derived.Deep.QuietTactic
section
/- The document's translations: Gone, Narrow. -/
namespace Go.Proofs.YteaincdeoajkeaaGreatDoor.Sb
open Go.RowKit Ut
set_option maxRecDepth 100000
set_option linter.unusedVariables false
set_option maxHeartbeats 4000000

def goneL (l : List Rc) (pg : Int) : List Rc := l.filter fun x => !(x.ep == pg)
/-- one whose page it is loses RWrite -/
def hadB (x : Rc) (pg : Int) : Bool := (x.ep == pg) && !(bits .and .i64 x.er 2 == 0)
def narX (pg : Int) (x : Rc) : Rc := if hadB x pg = true then { x with er := wrap64 (x.er - 2) } else x
def narL (l : List Rc) (pg : Int) : List Rc := l.map (narX pg)
def narN (l : List Rc) (pg : Int) : Nat := l.countP fun x => hadB x pg
section
variable {g n cap : Nat} {room : Int} {a : Option Addr} {l : List Rc}
end
end Go.Proofs.YteaincdeoajkeaaGreatDoor.Sb
end
section
/- Translations and when each was used last, in any order (us), beside the document's list (l: whose last use is longest ago first); plain facts. -/
namespace Go.Proofs.YteaincdeoajkeaaGreatDoor.Sb
set_option linter.unusedVariables false

/-- by last use, each at another time -/
def Ord (o : List (Rc × Int)) : Prop := o.Pairwise fun a b => a.2 < b.2
/-- each key once -/
def Once (l : List Rc) : Prop := l.Pairwise fun a b => ¬ (a.kr = b.kr ∧ a.kp = b.kp)
/-- us, put in order, is l -/
def Rel (us : List (Rc × Int)) (l : List Rc) : Prop := Once l ∧ ∃ o, o.Perm us ∧ Ord o ∧ l = o.map Prod.fst
section
variable {us vs : List (Rc × Int)} {l : List Rc}
theorem Rel.nil : Rel [] [] := ⟨List.Pairwise.nil, [], List.Perm.refl _, List.Pairwise.nil, rfl⟩
theorem Rel.perm (h : Rel us l) (hp : us.Perm vs) : Rel vs l := by
 obtain ⟨h0, o, h1, h2, h3⟩ := h
 exact ⟨h0, o, h1.trans hp, h2, h3⟩
theorem Rel.len (h : Rel us l) : us.length = l.length := by
 obtain ⟨_, o, h1, _, rfl⟩ := h
 rw [List.length_map, h1.length_eq]
theorem Rel.mem (h : Rel us l) {x : Rc} : x ∈ l ↔ ∃ s, (x, s) ∈ us := by
 obtain ⟨_, o, h1, _, rfl⟩ := h
 rw [List.mem_map]
 constructor
 ·rintro ⟨⟨y, s⟩, hy, rfl⟩; exact ⟨s, h1.mem_iff.1 hy⟩
 ·rintro ⟨s, hs⟩; exact ⟨(x, s), h1.mem_iff.2 hs, rfl⟩
theorem is_iff {x : Rc} {p q : Int} : x.is p q = true ↔ x.kr = p ∧ x.kp = q := by unfold Rc.is; simp
/-- a key's entry is found at whatever place it lies -/
theorem Rel.find_some (h : Rel us l) {u : Rc × Int} (hu : u ∈ us) {p q : Int} (hi : u.1.is p q = true) : findL l p q = some u.1 := by
 have hm : u.1 ∈ l := h.mem.2 ⟨u.2, hu⟩
 have ho := h.1
 unfold findL
 clear h hu
 induction l with
 | nil => cases hm
 | cons x l ih =>
  rw [List.find?_cons]
  rcases List.mem_cons.1 hm with rfl | hm2
  ·rw [hi]
  ·have hx : x.is p q = false := by
    cases hxx : x.is p q with
    | false => rfl
    | true =>
     have h1 := (List.pairwise_cons.1 ho).1 _ hm2
     have h2 := is_iff.1 hxx
     have h3 := is_iff.1 hi
     exact absurd ⟨h2.1.trans h3.1.symm, h2.2.trans h3.2.symm⟩ h1
   rw [hx]
   exact ih hm2 (List.pairwise_cons.1 ho).2
/-- all but some -/
theorem Rel.filter (h : Rel us l) (f : Rc → Bool) : Rel (us.filter fun u => f u.1) (l.filter f) := by
 obtain ⟨h0, o, h1, h2, rfl⟩ := h
 refine ⟨h0.filter _, o.filter fun u => f u.1, h1.filter _, h2.filter _, ?_⟩
 rw [List.filter_map]
 rfl
/-- entries turn, keys don't -/
theorem Rel.map (h : Rel us l) (f : Rc → Rc) (hf : ∀ x, (f x).kr = x.kr ∧ (f x).kp = x.kp) : Rel (us.map fun u => (f u.1, u.2)) (l.map f) := by
 obtain ⟨h0, o, h1, h2, rfl⟩ := h
 refine ⟨?_, o.map fun u => (f u.1, u.2), h1.map _, ?_, ?_⟩
 ·unfold Once
  rw [List.pairwise_map]
  refine h0.imp fun {a b} hab => ?_
  rw [(hf a).1, (hf a).2, (hf b).1, (hf b).2]
  exact hab
 ·unfold Ord
  rw [List.pairwise_map]
  exact h2.imp fun {a b} hab => hab
 ·rw [List.map_map, List.map_map]
  rfl
/-- one that is used now -/
theorem Rel.add (h : Rel us l) (x : Rc) (s : Int) (hs : ∀ u ∈ us, u.2 < s) (hk : ∀ u ∈ us, ¬ (u.1.kr = x.kr ∧ u.1.kp = x.kp)) : Rel ((x, s) :: us) (l ++ [x]) := by
 have hm := fun y => h.mem (x := y)
 obtain ⟨h0, o, h1, h2, rfl⟩ := h
 refine ⟨?_, o ++ [(x, s)], ?_, ?_, by simp⟩
 ·unfold Once
  rw [List.pairwise_append]
  refine ⟨h0, List.pairwise_singleton _ _, fun a ha b hb => ?_⟩
  simp at hb
  subst hb
  obtain ⟨t, ht⟩ := (hm a).1 ha
  exact hk _ ht
 ·exact (List.perm_append_comm (l₂ := [(x, s)])).trans (h1.cons _)
 ·unfold Ord
  rw [List.pairwise_append]
  refine ⟨h2, List.pairwise_singleton _ _, fun a ha b hb => ?_⟩
  simp at hb
  subst hb
  exact hs a (h1.mem_iff.1 ha)
/-- one is taken out -/
theorem Rel.rem {u : Rc × Int} (h : Rel (u :: us) l) : Rel us (withoutL l u.1.kr u.1.kp) := by
 have hf := h.filter fun x => !x.is u.1.kr u.1.kp
 have hu : u.1.is u.1.kr u.1.kp = true := is_iff.2 ⟨rfl, rfl⟩
 have hall : ∀ v ∈ us, v.1.is u.1.kr u.1.kp = false := fun v hv => by
  cases hvv : v.1.is u.1.kr u.1.kp with
  | false => rfl
  | true =>
   obtain ⟨h0, o, h1, h2, rfl⟩ := h
   have hn : (u :: us).Pairwise fun a b => ¬ (a.1.kr = b.1.kr ∧ a.1.kp = b.1.kp) := by
    have ho : o.Pairwise fun a b => ¬ (a.1.kr = b.1.kr ∧ a.1.kp = b.1.kp) := by
     unfold Once at h0
     rw [List.pairwise_map] at h0
     exact h0
    exact (h1.pairwise_iff (fun {a b} hab hba => hab ⟨hba.1.symm, hba.2.symm⟩)).1 ho
   have := (List.pairwise_cons.1 hn).1 v hv
   have h3 := is_iff.1 hvv
   exact absurd ⟨h3.1.symm, h3.2.symm⟩ this
 have e : (u :: us).filter (fun v => !v.1.is u.1.kr u.1.kp) = us := by
  rw [List.filter_cons_of_neg (by simp [hu])]
  exact List.filter_eq_self.2 fun v hv => by simp [hall v hv]
 rw [e] at hf
 exact hf
end
end Go.Proofs.YteaincdeoajkeaaGreatDoor.Sb
end
section
/- Package stlb: translations with their last use, as they lie in the heap's array: five places of six numbers in a block, of which the first are meant. -/
namespace Go.Proofs.YteaincdeoajkeaaGreatDoor.Sb
open Go.RowKit Ut Hg
set_option maxRecDepth 100000
set_option linter.unusedVariables false
set_option maxHeartbeats 4000000

/-- a translation that is kept, and the number of its last use -/
abbrev Us := Rc × Int
def usK (u : Us) : Int := u.2
def usC (u : Us) : List Value := [.int .i64 u.1.kr, .int .i64 u.1.kp, .int .i64 u.1.ep, .int .i64 u.1.ef, .int .i64 u.1.er, .int .u64 u.2]
abbrev usV (u : Us) : Value := .agg #[.int .i64 u.1.kr, .int .i64 u.1.kp, .int .i64 u.1.ep, .int .i64 u.1.ef, .int .i64 u.1.er, .int .u64 u.2]
def noU : Us := (⟨0, 0, 0, 0, 0⟩, 0)
def flatU : List Us → List Value
 | [] => []
 | u :: l => .int .i64 u.1.kr :: .int .i64 u.1.kp :: .int .i64 u.1.ep :: .int .i64 u.1.ef :: .int .i64 u.1.er :: .int .u64 u.2 :: flatU l
theorem flatU_get (l : List Us) : ∀ k u, l[k]? = some u → (flatU l)[k * 6]? = some (.int .i64 u.1.kr) ∧ (flatU l)[k * 6 + 1]? = some (.int .i64 u.1.kp) ∧ (flatU l)[k * 6 + 2]? = some (.int .i64 u.1.ep) ∧ (flatU l)[k * 6 + 3]? = some (.int .i64 u.1.ef) ∧ (flatU l)[k * 6 + 4]? = some (.int .i64 u.1.er) ∧ (flatU l)[k * 6 + 5]? = some (.int .u64 u.2) := by
 induction l with
 | nil => intro k u h; simp at h
 | cons q l ih =>
  intro k u hk
  cases k with
  | zero =>
   simp only [List.getElem?_cons_zero, Option.some.injEq] at hk
   subst hk
   exact ⟨rfl, rfl, rfl, rfl, rfl, rfl⟩
  | succ k =>
   have h := ih k u (by simpa using hk)
   rw [show (k + 1) * 6 = k * 6 + 1 + 1 + 1 + 1 + 1 + 1 by omega]
   simp only [flatU, Nat.add_assoc, Nat.reduceAdd]
   simp only [show k * 6 + 6 = k * 6 + 5 + 1 by omega, show k * 6 + 7 = k * 6 + 1 + 5 + 1 by omega, show k * 6 + 8 = k * 6 + 2 + 5 + 1 by omega, show k * 6 + 9 = k * 6 + 3 + 5 + 1 by omega, show k * 6 + 10 = k * 6 + 4 + 5 + 1 by omega, show k * 6 + 11 = k * 6 + 5 + 5 + 1 by omega, List.getElem?_cons_succ]
   exact h
theorem flatU_set (l : List Us) : ∀ k (u : Us), k < l.length → flatU (l.set k u) = ((((((flatU l).set (k * 6) (.int .i64 u.1.kr)).set (k * 6 + 1) (.int .i64 u.1.kp)).set (k * 6 + 2) (.int .i64 u.1.ep)).set (k * 6 + 3) (.int .i64 u.1.ef)).set (k * 6 + 4) (.int .i64 u.1.er)).set (k * 6 + 5) (.int .u64 u.2) := by
 induction l with
 | nil => intro k u hk; simp at hk
 | cons q l ih =>
  intro k u hk
  cases k with
  | zero => rfl
  | succ k =>
   have h := ih k u (by simpa using hk)
   simp only [show (k + 1) * 6 = k * 6 + 5 + 1 by omega, show k * 6 + 5 + 1 + 1 = k * 6 + 1 + 5 + 1 by omega, show k * 6 + 5 + 1 + 2 = k * 6 + 2 + 5 + 1 by omega, show k * 6 + 5 + 1 + 3 = k * 6 + 3 + 5 + 1 by omega, show k * 6 + 5 + 1 + 4 = k * 6 + 4 + 5 + 1 by omega, show k * 6 + 5 + 1 + 5 = k * 6 + 5 + 5 + 1 by omega, List.set_cons_succ, flatU, h]

/-- a block holds, behind pre, a number n and five places L -/
def RB (W : World) (b : Nat) (t : TypeId) (pre : List Value) (n : Int) (L : List Us) : Prop := L.length = 5 ∧ Blk W b t (pre ++ .int .i64 n :: flatU L)
/-- .. of which the first are l, as many as the number says -/
def LB (W : World) (b : Nat) (t : TypeId) (pre : List Value) (l : List Us) : Prop := ∃ z : List Us, RB W b t pre (l.length : Nat) (l ++ z)
/-- where place i begins -/
def st6 (o i : Nat) : Nat := o + 1 + i * 6
/-- place i is written -/
def putU (W : World) (b o i : Nat) (u : Us) : World := (((((W.setCell ⟨b, o + 1 + i * 6, none⟩ (.int .i64 u.1.kr)).setCell ⟨b, o + 1 + i * 6 + 1, none⟩ (.int .i64 u.1.kp)).setCell ⟨b, o + 1 + i * 6 + 2, none⟩ (.int .i64 u.1.ep)).setCell ⟨b, o + 1 + i * 6 + 3, none⟩ (.int .i64 u.1.ef)).setCell ⟨b, o + 1 + i * 6 + 4, none⟩ (.int .i64 u.1.er)).setCell ⟨b, o + 1 + i * 6 + 5, none⟩ (.int .u64 u.2)
section
variable {W W' : World} {b o : Nat} {t : TypeId} {pre : List Value} {n m : Int} {L l : List Us}
theorem RB.lt (h : RB W b t pre n L) : b < W.heap.size := h.2.lt
theorem RB.cell0 (h : RB W b t pre n L) (ho : pre.length = o) : W.cell? ⟨b, o, none⟩ = some (.int .i64 n) := h.2.cell (by
 subst ho
 rw [List.getElem?_append_right (Nat.le_refl _), Nat.sub_self]
 rfl)
theorem RB.get (h : RB W b t pre n L) (ho : pre.length = o) (k : Nat) (v : Value) (hv : (flatU L)[k]? = some v) : W.cell? ⟨b, o + 1 + k, none⟩ = some v := h.2.cell (by
 subst ho
 rw [List.getElem?_append_right (by omega), show pre.length + 1 + k - pre.length = k + 1 by omega, List.getElem?_cons_succ]
 exact hv)
theorem RB.cells (h : RB W b t pre n L) (ho : pre.length = o) (i : Nat) (u : Us) (hi : L[i]? = some u) : W.cell? ⟨b, o + 1 + i * 6, none⟩ = some (.int .i64 u.1.kr) ∧ W.cell? ⟨b, o + 1 + i * 6 + 1, none⟩ = some (.int .i64 u.1.kp) ∧ W.cell? ⟨b, o + 1 + i * 6 + 2, none⟩ = some (.int .i64 u.1.ep) ∧ W.cell? ⟨b, o + 1 + i * 6 + 3, none⟩ = some (.int .i64 u.1.ef) ∧ W.cell? ⟨b, o + 1 + i * 6 + 4, none⟩ = some (.int .i64 u.1.er) ∧ W.cell? ⟨b, o + 1 + i * 6 + 5, none⟩ = some (.int .u64 u.2) := by
 obtain ⟨h0, h1, h2, h3, h4, h5⟩ := flatU_get L i u hi
 exact ⟨h.get ho _ _ h0, h.get ho _ _ h1, h.get ho _ _ h2, h.get ho _ _ h3, h.get ho _ _ h4, h.get ho _ _ h5⟩
theorem RB.put (h : RB W b t pre n L) (ho : pre.length = o) (i : Nat) (u : Us) (hi : i < L.length) : RB (putU W b o i u) b t pre n (L.set i u) := by
 refine ⟨by rw [List.length_set]; exact h.1, ?_⟩
 have h6 := (((((h.2.set (o + 1 + i * 6) (.int .i64 u.1.kr)).set (o + 1 + i * 6 + 1) (.int .i64 u.1.kp)).set (o + 1 + i * 6 + 2) (.int .i64 u.1.ep)).set (o + 1 + i * 6 + 3) (.int .i64 u.1.ef)).set (o + 1 + i * 6 + 4) (.int .i64 u.1.er)).set (o + 1 + i * 6 + 5) (.int .u64 u.2)
 have e : ∀ (X : List Value) (k : Nat) (v : Value), (pre ++ .int .i64 n :: X).set (o + 1 + k) v = pre ++ .int .i64 n :: X.set k v := fun X k v => by
  subst ho
  rw [List.set_append_right _ _ (by omega), show pre.length + 1 + k - pre.length = k + 1 by omega, List.set_cons_succ]
 rw [flatU_set L i u hi]
 simp only [Nat.add_assoc] at h6 e ⊢
 simp only [e] at h6
 unfold putU
 simp only [Nat.add_assoc]
 exact h6
theorem LB.lt (h : LB W b t pre l) : b < W.heap.size := h.elim fun _ h => h.lt
theorem LB.of_block (h : LB W b t pre l) (e : W'.heap[b]? = W.heap[b]?) : LB W' b t pre l := h.elim fun z h => ⟨z, h.1, h.2.of_block e⟩
theorem LB.more (h : LB W b t pre l) (hb : Below W.heap.size W W') : LB W' b t pre l := h.of_block (hb.block b h.lt)
theorem LB.kq {T : List Nat} (h : LB W b t pre l) (k : Kq T W W') (hb : b ∉ T) : LB W' b t pre l := h.of_block (k.block b h.lt hb)
theorem LB.len (h : LB W b t pre l) : l.length ≤ 5 := h.elim fun z h => by have := h.1; rw [List.length_append] at this; omega
theorem LB.cell0 (h : LB W b t pre l) (ho : pre.length = o) : W.cell? ⟨b, o, none⟩ = some (.int .i64 (l.length : Nat)) := h.elim fun z h => h.cell0 ho
theorem LB.cells (h : LB W b t pre l) (ho : pre.length = o) (i : Nat) (u : Us) (hi : l[i]? = some u) : W.cell? ⟨b, o + 1 + i * 6, none⟩ = some (.int .i64 u.1.kr) ∧ W.cell? ⟨b, o + 1 + i * 6 + 1, none⟩ = some (.int .i64 u.1.kp) ∧ W.cell? ⟨b, o + 1 + i * 6 + 2, none⟩ = some (.int .i64 u.1.ep) ∧ W.cell? ⟨b, o + 1 + i * 6 + 3, none⟩ = some (.int .i64 u.1.ef) ∧ W.cell? ⟨b, o + 1 + i * 6 + 4, none⟩ = some (.int .i64 u.1.er) ∧ W.cell? ⟨b, o + 1 + i * 6 + 5, none⟩ = some (.int .u64 u.2) := h.elim fun z h => h.cells ho i u (by rw [List.getElem?_append_left (List.getElem?_eq_some_iff.1 hi).1]; exact hi)
theorem LB.put (h : LB W b t pre l) (ho : pre.length = o) (i : Nat) (u : Us) (hi : i < l.length) : LB (putU W b o i u) b t pre (l.set i u) := by
 obtain ⟨z, h⟩ := h
 refine ⟨z, ?_⟩
 have := h.put ho i u (by rw [List.length_append]; omega)
 rw [List.set_append_left _ _ hi] at this
 rw [List.length_set]
 exact this
end
end Go.Proofs.YteaincdeoajkeaaGreatDoor.Sb
end
