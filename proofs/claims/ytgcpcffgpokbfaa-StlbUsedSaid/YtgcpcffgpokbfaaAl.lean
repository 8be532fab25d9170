/- Package stlb: translations with their last use, as they lie in the heap's array: five places of six numbers in a block, of which the first are meant. -/
import Derived.Test.YtgcpcffgpokbfaaAk
import Derived.Test.YtgcpcffgpokbfaaHy
import Derived.BigQuiet
import Derived.Deep.QuietTactic
namespace Go.Proofs.Ytgcpcffgpokbfaa.Sb
open Go.RowKit Ut Hg
set_option maxRecDepth 100000
set_option linter.unusedVariables false
set_option maxHeartbeats 4000000

/-- a translation that is kept, and the number of its last use -/
abbrev Us := Rc × Int
def usK (u : Us) : Int := u.2
def usC (u : Us) : List Value := [.int .i64 u.1.kr, .int .i64 u.1.kp, .int .i64 u.1.ep, .int .i64 u.1.ef, .int .i64 u.1.er, .int .u64 u.2]
abbrev usV (u : Us) : Value := .agg #[.int .i64 u.1.kr, .int .i64 u.1.kp, .int .i64 u.1.ep, .int .i64 u.1.ef, .int .i64 u.1.er, .int .u64 u.2]
def noU : Us := (⟨0, 0, 0, 0, 0⟩, 0)
def flatU : List Us → List Value
  | [] => []
  | u :: l => .int .i64 u.1.kr :: .int .i64 u.1.kp :: .int .i64 u.1.ep :: .int .i64 u.1.ef :: .int .i64 u.1.er :: .int .u64 u.2 :: flatU l
theorem length_flatU (l : List Us) : (flatU l).length = l.length * 6 := by
  induction l with
  | nil => rfl
  | cons u l ih => simp [flatU, ih]; omega
theorem flatU_one (l : List Us) : ∀ v ∈ flatU l, v.oneCell' = true := by
  induction l with
  | nil => intro v hv; cases hv
  | cons u l ih =>
    intro v hv
    unfold flatU at hv
    simp only [List.mem_cons] at hv
    rcases hv with rfl | rfl | rfl | rfl | rfl | rfl | hv
    · rfl
    · rfl
    · rfl
    · rfl
    · rfl
    · rfl
    · exact ih v hv
theorem flatU_get (l : List Us) : ∀ k u, l[k]? = some u → (flatU l)[k * 6]? = some (.int .i64 u.1.kr) ∧ (flatU l)[k * 6 + 1]? = some (.int .i64 u.1.kp) ∧ (flatU l)[k * 6 + 2]? = some (.int .i64 u.1.ep) ∧ (flatU l)[k * 6 + 3]? = some (.int .i64 u.1.ef) ∧ (flatU l)[k * 6 + 4]? = some (.int .i64 u.1.er) ∧ (flatU l)[k * 6 + 5]? = some (.int .u64 u.2) := by
  induction l with
  | nil => intro k u h; simp at h
  | cons q l ih =>
    intro k u hk
    cases k with
    | zero =>
      simp only [List.getElem?_cons_zero, Option.some.injEq] at hk
      subst hk
      exact ⟨rfl, rfl, rfl, rfl, rfl, rfl⟩
    | succ k =>
      have h := ih k u (by simpa using hk)
      rw [show (k + 1) * 6 = k * 6 + 1 + 1 + 1 + 1 + 1 + 1 by omega]
      simp only [flatU, Nat.add_assoc, Nat.reduceAdd]
      simp only [show k * 6 + 6 = k * 6 + 5 + 1 by omega, show k * 6 + 7 = k * 6 + 1 + 5 + 1 by omega, show k * 6 + 8 = k * 6 + 2 + 5 + 1 by omega, show k * 6 + 9 = k * 6 + 3 + 5 + 1 by omega, show k * 6 + 10 = k * 6 + 4 + 5 + 1 by omega, show k * 6 + 11 = k * 6 + 5 + 5 + 1 by omega, List.getElem?_cons_succ]
      exact h
theorem flatU_set (l : List Us) : ∀ k (u : Us), k < l.length → flatU (l.set k u) = ((((((flatU l).set (k * 6) (.int .i64 u.1.kr)).set (k * 6 + 1) (.int .i64 u.1.kp)).set (k * 6 + 2) (.int .i64 u.1.ep)).set (k * 6 + 3) (.int .i64 u.1.ef)).set (k * 6 + 4) (.int .i64 u.1.er)).set (k * 6 + 5) (.int .u64 u.2) := by
  induction l with
  | nil => intro k u hk; simp at hk
  | cons q l ih =>
    intro k u hk
    cases k with
    | zero => rfl
    | succ k =>
      have h := ih k u (by simpa using hk)
      simp only [show (k + 1) * 6 = k * 6 + 5 + 1 by omega, show k * 6 + 5 + 1 + 1 = k * 6 + 1 + 5 + 1 by omega, show k * 6 + 5 + 1 + 2 = k * 6 + 2 + 5 + 1 by omega, show k * 6 + 5 + 1 + 3 = k * 6 + 3 + 5 + 1 by omega, show k * 6 + 5 + 1 + 4 = k * 6 + 4 + 5 + 1 by omega, show k * 6 + 5 + 1 + 5 = k * 6 + 5 + 5 + 1 by omega, List.set_cons_succ, flatU, h]

/-- a block holds, behind pre, a number n and five places L -/
def RB (W : World) (b : Nat) (t : TypeId) (pre : List Value) (n : Int) (L : List Us) : Prop := L.length = 5 ∧ Blk W b t (pre ++ .int .i64 n :: flatU L)
/-- .. of which the first are l, as many as the number says -/
def LB (W : World) (b : Nat) (t : TypeId) (pre : List Value) (l : List Us) : Prop := ∃ z : List Us, RB W b t pre (l.length : Nat) (l ++ z)
/-- where place i begins -/
def st6 (o i : Nat) : Nat := o + 1 + i * 6
/-- place i is written -/
def putU (W : World) (b o i : Nat) (u : Us) : World := (((((W.setCell ⟨b, o + 1 + i * 6, none⟩ (.int .i64 u.1.kr)).setCell ⟨b, o + 1 + i * 6 + 1, none⟩ (.int .i64 u.1.kp)).setCell ⟨b, o + 1 + i * 6 + 2, none⟩ (.int .i64 u.1.ep)).setCell ⟨b, o + 1 + i * 6 + 3, none⟩ (.int .i64 u.1.ef)).setCell ⟨b, o + 1 + i * 6 + 4, none⟩ (.int .i64 u.1.er)).setCell ⟨b, o + 1 + i * 6 + 5, none⟩ (.int .u64 u.2)
section
variable {W W' : World} {b o : Nat} {t : TypeId} {pre : List Value} {n m : Int} {L l : List Us}
theorem RB.lt (h : RB W b t pre n L) : b < W.heap.size := h.2.lt
theorem RB.cell0 (h : RB W b t pre n L) (ho : pre.length = o) : W.cell? ⟨b, o, none⟩ = some (.int .i64 n) := h.2.cell (by
  subst ho
  rw [List.getElem?_append_right (Nat.le_refl _), Nat.sub_self]
  rfl)
theorem RB.get (h : RB W b t pre n L) (ho : pre.length = o) (k : Nat) (v : Value) (hv : (flatU L)[k]? = some v) : W.cell? ⟨b, o + 1 + k, none⟩ = some v := h.2.cell (by
  subst ho
  rw [List.getElem?_append_right (by omega), show pre.length + 1 + k - pre.length = k + 1 by omega, List.getElem?_cons_succ]
  exact hv)
theorem RB.cells (h : RB W b t pre n L) (ho : pre.length = o) (i : Nat) (u : Us) (hi : L[i]? = some u) : W.cell? ⟨b, o + 1 + i * 6, none⟩ = some (.int .i64 u.1.kr) ∧ W.cell? ⟨b, o + 1 + i * 6 + 1, none⟩ = some (.int .i64 u.1.kp) ∧ W.cell? ⟨b, o + 1 + i * 6 + 2, none⟩ = some (.int .i64 u.1.ep) ∧ W.cell? ⟨b, o + 1 + i * 6 + 3, none⟩ = some (.int .i64 u.1.ef) ∧ W.cell? ⟨b, o + 1 + i * 6 + 4, none⟩ = some (.int .i64 u.1.er) ∧ W.cell? ⟨b, o + 1 + i * 6 + 5, none⟩ = some (.int .u64 u.2) := by
  obtain ⟨h0, h1, h2, h3, h4, h5⟩ := flatU_get L i u hi
  exact ⟨h.get ho _ _ h0, h.get ho _ _ h1, h.get ho _ _ h2, h.get ho _ _ h3, h.get ho _ _ h4, h.get ho _ _ h5⟩
theorem RB.put (h : RB W b t pre n L) (ho : pre.length = o) (i : Nat) (u : Us) (hi : i < L.length) : RB (putU W b o i u) b t pre n (L.set i u) := by
  refine ⟨by rw [List.length_set]; exact h.1, ?_⟩
  have h6 := (((((h.2.set (o + 1 + i * 6) (.int .i64 u.1.kr)).set (o + 1 + i * 6 + 1) (.int .i64 u.1.kp)).set (o + 1 + i * 6 + 2) (.int .i64 u.1.ep)).set (o + 1 + i * 6 + 3) (.int .i64 u.1.ef)).set (o + 1 + i * 6 + 4) (.int .i64 u.1.er)).set (o + 1 + i * 6 + 5) (.int .u64 u.2)
  have e : ∀ (X : List Value) (k : Nat) (v : Value), (pre ++ .int .i64 n :: X).set (o + 1 + k) v = pre ++ .int .i64 n :: X.set k v := fun X k v => by
    subst ho
    rw [List.set_append_right _ _ (by omega), show pre.length + 1 + k - pre.length = k + 1 by omega, List.set_cons_succ]
  rw [flatU_set L i u hi]
  simp only [Nat.add_assoc] at h6 e ⊢
  simp only [e] at h6
  unfold putU
  simp only [Nat.add_assoc]
  exact h6
theorem RB.count (h : RB W b t pre n L) (ho : pre.length = o) (m : Int) : RB (W.setCell ⟨b, o, none⟩ (.int .i64 m)) b t pre m L := by
  refine ⟨h.1, ?_⟩
  have := h.2.set o (.int .i64 m)
  subst ho
  rw [List.set_append_right _ _ (Nat.le_refl _), Nat.sub_self, List.set_cons_zero] at this
  exact this
theorem LB.lt (h : LB W b t pre l) : b < W.heap.size := h.elim fun _ h => h.lt
theorem LB.of_block (h : LB W b t pre l) (e : W'.heap[b]? = W.heap[b]?) : LB W' b t pre l := h.elim fun z h => ⟨z, h.1, h.2.of_block e⟩
theorem LB.more (h : LB W b t pre l) (hb : Below W.heap.size W W') : LB W' b t pre l := h.of_block (hb.block b h.lt)
theorem LB.kq {T : List Nat} (h : LB W b t pre l) (k : Kq T W W') (hb : b ∉ T) : LB W' b t pre l := h.of_block (k.block b h.lt hb)
theorem LB.len (h : LB W b t pre l) : l.length ≤ 5 := h.elim fun z h => by have := h.1; rw [List.length_append] at this; omega
theorem LB.cell0 (h : LB W b t pre l) (ho : pre.length = o) : W.cell? ⟨b, o, none⟩ = some (.int .i64 (l.length : Nat)) := h.elim fun z h => h.cell0 ho
theorem LB.cells (h : LB W b t pre l) (ho : pre.length = o) (i : Nat) (u : Us) (hi : l[i]? = some u) : W.cell? ⟨b, o + 1 + i * 6, none⟩ = some (.int .i64 u.1.kr) ∧ W.cell? ⟨b, o + 1 + i * 6 + 1, none⟩ = some (.int .i64 u.1.kp) ∧ W.cell? ⟨b, o + 1 + i * 6 + 2, none⟩ = some (.int .i64 u.1.ep) ∧ W.cell? ⟨b, o + 1 + i * 6 + 3, none⟩ = some (.int .i64 u.1.ef) ∧ W.cell? ⟨b, o + 1 + i * 6 + 4, none⟩ = some (.int .i64 u.1.er) ∧ W.cell? ⟨b, o + 1 + i * 6 + 5, none⟩ = some (.int .u64 u.2) := h.elim fun z h => h.cells ho i u (by rw [List.getElem?_append_left (List.getElem?_eq_some_iff.1 hi).1]; exact hi)
/-- there is a place behind the others -/
theorem LB.slot (h : LB W b t pre l) (ho : pre.length = o) (hl : l.length < 5) : ∃ u : Us, W.cell? ⟨b, o + 1 + l.length * 6, none⟩ = some (.int .i64 u.1.kr) ∧ W.cell? ⟨b, o + 1 + l.length * 6 + 1, none⟩ = some (.int .i64 u.1.kp) ∧ W.cell? ⟨b, o + 1 + l.length * 6 + 2, none⟩ = some (.int .i64 u.1.ep) ∧ W.cell? ⟨b, o + 1 + l.length * 6 + 3, none⟩ = some (.int .i64 u.1.ef) ∧ W.cell? ⟨b, o + 1 + l.length * 6 + 4, none⟩ = some (.int .i64 u.1.er) ∧ W.cell? ⟨b, o + 1 + l.length * 6 + 5, none⟩ = some (.int .u64 u.2) := by
  obtain ⟨z, h⟩ := h
  have h5 := h.1
  rw [List.length_append] at h5
  match z, h5 with
  | [], h5 => simp at h5; omega
  | c :: z, _ => exact ⟨c, h.cells ho l.length c (by rw [List.getElem?_append_right (Nat.le_refl _), Nat.sub_self]; rfl)⟩
theorem LB.frz (h : LB W b t pre l) (j : Nat) : W.frozen? ⟨b, j, none⟩ = false := h.elim fun z h => h.2.frozen j
theorem LB.put (h : LB W b t pre l) (ho : pre.length = o) (i : Nat) (u : Us) (hi : i < l.length) : LB (putU W b o i u) b t pre (l.set i u) := by
  obtain ⟨z, h⟩ := h
  refine ⟨z, ?_⟩
  have := h.put ho i u (by rw [List.length_append]; omega)
  rw [List.set_append_left _ _ hi] at this
  rw [List.length_set]
  exact this
/-- one more behind the others -/
theorem LB.push (h : LB W b t pre l) (ho : pre.length = o) (u : Us) (hl : l.length < 5) : LB ((putU W b o l.length u).setCell ⟨b, o, none⟩ (.int .i64 ((l.length : Int) + 1))) b t pre (l ++ [u]) := by
  obtain ⟨z, h⟩ := h
  have h5 := h.1
  rw [List.length_append] at h5
  match z, h5, h with
  | [], h5, _ => simp at h5; omega
  | c :: z, _, h =>
    refine ⟨z, ?_⟩
    have := (h.put ho l.length u (by simp)).count ho ((l.length : Int) + 1)
    rw [List.set_append_right _ _ (Nat.le_refl _), Nat.sub_self, List.set_cons_zero] at this
    rw [List.length_append, List.append_assoc]
    exact this
/-- the last one goes -/
theorem LB.pop {u : Us} (h : LB W b t pre (l ++ [u])) (ho : pre.length = o) (x : Us) : LB (putU (W.setCell ⟨b, o, none⟩ (.int .i64 (l.length : Nat))) b o l.length x) b t pre l := by
  obtain ⟨z, h⟩ := h
  refine ⟨x :: z, ?_⟩
  have := (h.count ho (l.length : Nat)).put ho l.length x (by simp)
  rw [List.append_assoc, List.set_append_right _ _ (Nat.le_refl _), Nat.sub_self] at this
  exact this
theorem kq_drew {T : List Nat} (h : Kq T W W') : Kq T W W'.drew := ⟨h.os, h.tape, h.output, h.size, h.block⟩
theorem putU_kq (T : List Nat) (W : World) (b o i : Nat) (u : Us) (hb : b ∈ T) : Kq T W (putU W b o i u) :=
  ((((((Kq.refl T W).setCell b _ _ (.inl hb)).setCell b _ _ (.inl hb)).setCell b _ _ (.inl hb)).setCell b _ _ (.inl hb)).setCell b _ _ (.inl hb)).setCell b _ _ (.inl hb)
end
end Go.Proofs.Ytgcpcffgpokbfaa.Sb
