/- Several texts in one: Hy Al Hz Am -/
import Derived.Test.YteaincdeoajkeaaGreatDoorZ30
import Derived.Test.YteaincdeoajkeaaGreatDoorZ29
import Derived.BigQuiet
import Derived.Deep.QuietTactic
section
/- Plain facts on heaps: what Fix and Remove leave. Serves all packages. -/
namespace Go.Proofs.YteaincdeoajkeaaGreatDoor.Hg
set_option linter.unusedVariables false

section
variable {α : Type} [Inhabited α] {ky : α → Int}
theorem upL_above (l : List α) (j : Nat) (hj : j < l.length) : ∀ k, j < k → (upL ky l j).getD k default = l.getD k default := by
  induction j using Nat.strongRecOn generalizing l with
  | _ j ih =>
    intro k hk
    unfold upL
    split
    · rfl
    · rename_i h0
      split
      · rw [ih _ (by omega) _ (by rw [length_swapL]; omega) k (by omega), el_swapL _ _ _ _ (by omega) hj, if_neg (by omega), if_neg (by omega)]
      · rfl
theorem fix_above {l : List α} {i n : Nat} (hi : i < n) (hn : n ≤ l.length) : ∀ k, n ≤ k → (fixL ky l i n).getD k default = l.getD k default := fun k hk => by
  unfold fixL
  split
  · exact downL_above _ _ _ _ rfl hn k hk
  · exact upL_above l i (by omega) k (by omega)
theorem length_fixL {l : List α} {i n : Nat} : (fixL ky l i n).length = l.length := by
  unfold fixL
  split
  · exact length_downL _ _ _ _ rfl
  · exact length_upL _ _
/-- one in its place has turned -/
theorem fix_parts {l : List α} {i : Nat} (x : α) (hi : i < l.length) (h : HeapL ky l l.length) : HeapL ky (fixL ky (l.set i x) i l.length) l.length ∧ (fixL ky (l.set i x) i l.length).Perm (l.set i x) ∧ (fixL ky (l.set i x) i l.length).length = l.length := by
  have e : ∀ k, k ≠ i → vl ky (l.set i x) k = vl ky l k := fun k hk => by
    unfold vl
    simp only [List.getD, List.getElem?_set_ne (fun q => hk q.symm)]
  have hs : (l.set i x).length = l.length := List.length_set
  refine ⟨fix_heap hi (by omega) ⟨fun k hk hkn h1 h2 => ?_, fun h0 k hk hkn hp => ?_⟩, fix_perm hi (by omega), by rw [length_fixL, hs]⟩
  · rw [e _ h1, e _ h2]
    exact h k hk hkn
  · rw [e _ (by omega), e _ (by omega)]
    have a := h i h0 (by omega)
    have b := h k hk hkn
    rw [hp] at b
    omega
/-- one is taken out: what is left is a heap of all others -/
theorem rem_parts {l : List α} {i : Nat} (hi : i < l.length) (h : HeapL ky l l.length) : ∃ r, remL ky l i = r ++ [l.getD i default] ∧ r.length + 1 = l.length ∧ HeapL ky r r.length ∧ (l.getD i default :: r).Perm l := by
  unfold remL
  by_cases e : i = l.length - 1
  · rw [if_pos e]
    exact cut_parts (by omega) rfl (by rw [← e]) (fun k hk hkn => h k hk (by omega)) (List.Perm.refl _)
  · rw [if_neg e]
    have hq : i < l.length - 1 := by omega
    have hsw := length_swapL l i (l.length - 1)
    have hv : ∀ k, k < l.length - 1 → k ≠ i → vl ky (swapL l i (l.length - 1)) k = vl ky l k := fun k hk hne => by
      rw [getD_swapL _ _ _ _ (by omega) (by omega), if_neg (by omega), if_neg hne]
    refine cut_parts (by omega) (by rw [length_fixL, hsw]) ?_ (fix_heap hq (by omega) ⟨fun k hk hkn h1 h2 => ?_, fun h0 k hk hkn hp => ?_⟩) ((fix_perm hq (by omega)).trans (swapL_perm l _ _ (by omega) (by omega)))
    · rw [fix_above hq (by omega) _ (Nat.le_refl _), el_swapL _ _ _ _ (by omega) (by omega), if_pos rfl]
    · rw [hv _ (by omega) h2, hv _ hkn h1]
      exact h k hk (by omega)
    · rw [hv _ (by omega) (by omega), hv _ hkn (by omega)]
      have a := h i h0 (by omega)
      have b := h k hk (by omega)
      rw [hp] at b
      omega
end
end Go.Proofs.YteaincdeoajkeaaGreatDoor.Hg
end
section
/- Package stlb: translations with their last use, as they lie in the heap's array: five places of six numbers in a block, of which the first are meant. -/
namespace Go.Proofs.YteaincdeoajkeaaGreatDoor.Sb
open Go.RowKit Ut Hg
set_option maxRecDepth 100000
set_option linter.unusedVariables false
set_option maxHeartbeats 4000000

/-- a translation that is kept, and the number of its last use -/
abbrev Us := Rc × Int
def usK (u : Us) : Int := u.2
def usC (u : Us) : List Value := [.int .i64 u.1.kr, .int .i64 u.1.kp, .int .i64 u.1.ep, .int .i64 u.1.ef, .int .i64 u.1.er, .int .u64 u.2]
abbrev usV (u : Us) : Value := .agg #[.int .i64 u.1.kr, .int .i64 u.1.kp, .int .i64 u.1.ep, .int .i64 u.1.ef, .int .i64 u.1.er, .int .u64 u.2]
def noU : Us := (⟨0, 0, 0, 0, 0⟩, 0)
def flatU : List Us → List Value
  | [] => []
  | u :: l => .int .i64 u.1.kr :: .int .i64 u.1.kp :: .int .i64 u.1.ep :: .int .i64 u.1.ef :: .int .i64 u.1.er :: .int .u64 u.2 :: flatU l
theorem length_flatU (l : List Us) : (flatU l).length = l.length * 6 := by
  induction l with
  | nil => rfl
  | cons u l ih => simp [flatU, ih]; omega
theorem flatU_one (l : List Us) : ∀ v ∈ flatU l, v.oneCell' = true := by
  induction l with
  | nil => intro v hv; cases hv
  | cons u l ih =>
    intro v hv
    unfold flatU at hv
    simp only [List.mem_cons] at hv
    rcases hv with rfl | rfl | rfl | rfl | rfl | rfl | hv
    · rfl
    · rfl
    · rfl
    · rfl
    · rfl
    · rfl
    · exact ih v hv
theorem flatU_get (l : List Us) : ∀ k u, l[k]? = some u → (flatU l)[k * 6]? = some (.int .i64 u.1.kr) ∧ (flatU l)[k * 6 + 1]? = some (.int .i64 u.1.kp) ∧ (flatU l)[k * 6 + 2]? = some (.int .i64 u.1.ep) ∧ (flatU l)[k * 6 + 3]? = some (.int .i64 u.1.ef) ∧ (flatU l)[k * 6 + 4]? = some (.int .i64 u.1.er) ∧ (flatU l)[k * 6 + 5]? = some (.int .u64 u.2) := by
  induction l with
  | nil => intro k u h; simp at h
  | cons q l ih =>
    intro k u hk
    cases k with
    | zero =>
      simp only [List.getElem?_cons_zero, Option.some.injEq] at hk
      subst hk
      exact ⟨rfl, rfl, rfl, rfl, rfl, rfl⟩
    | succ k =>
      have h := ih k u (by simpa using hk)
      rw [show (k + 1) * 6 = k * 6 + 1 + 1 + 1 + 1 + 1 + 1 by omega]
      simp only [flatU, Nat.add_assoc, Nat.reduceAdd]
      simp only [show k * 6 + 6 = k * 6 + 5 + 1 by omega, show k * 6 + 7 = k * 6 + 1 + 5 + 1 by omega, show k * 6 + 8 = k * 6 + 2 + 5 + 1 by omega, show k * 6 + 9 = k * 6 + 3 + 5 + 1 by omega, show k * 6 + 10 = k * 6 + 4 + 5 + 1 by omega, show k * 6 + 11 = k * 6 + 5 + 5 + 1 by omega, List.getElem?_cons_succ]
      exact h
theorem flatU_set (l : List Us) : ∀ k (u : Us), k < l.length → flatU (l.set k u) = ((((((flatU l).set (k * 6) (.int .i64 u.1.kr)).set (k * 6 + 1) (.int .i64 u.1.kp)).set (k * 6 + 2) (.int .i64 u.1.ep)).set (k * 6 + 3) (.int .i64 u.1.ef)).set (k * 6 + 4) (.int .i64 u.1.er)).set (k * 6 + 5) (.int .u64 u.2) := by
  induction l with
  | nil => intro k u hk; simp at hk
  | cons q l ih =>
    intro k u hk
    cases k with
    | zero => rfl
    | succ k =>
      have h := ih k u (by simpa using hk)
      simp only [show (k + 1) * 6 = k * 6 + 5 + 1 by omega, show k * 6 + 5 + 1 + 1 = k * 6 + 1 + 5 + 1 by omega, show k * 6 + 5 + 1 + 2 = k * 6 + 2 + 5 + 1 by omega, show k * 6 + 5 + 1 + 3 = k * 6 + 3 + 5 + 1 by omega, show k * 6 + 5 + 1 + 4 = k * 6 + 4 + 5 + 1 by omega, show k * 6 + 5 + 1 + 5 = k * 6 + 5 + 5 + 1 by omega, List.set_cons_succ, flatU, h]

/-- a block holds, behind pre, a number n and five places L -/
def RB (W : World) (b : Nat) (t : TypeId) (pre : List Value) (n : Int) (L : List Us) : Prop := L.length = 5 ∧ Blk W b t (pre ++ .int .i64 n :: flatU L)
/-- .. of which the first are l, as many as the number says -/
def LB (W : World) (b : Nat) (t : TypeId) (pre : List Value) (l : List Us) : Prop := ∃ z : List Us, RB W b t pre (l.length : Nat) (l ++ z)
/-- where place i begins -/
def st6 (o i : Nat) : Nat := o + 1 + i * 6
/-- place i is written -/
def putU (W : World) (b o i : Nat) (u : Us) : World := (((((W.setCell ⟨b, o + 1 + i * 6, none⟩ (.int .i64 u.1.kr)).setCell ⟨b, o + 1 + i * 6 + 1, none⟩ (.int .i64 u.1.kp)).setCell ⟨b, o + 1 + i * 6 + 2, none⟩ (.int .i64 u.1.ep)).setCell ⟨b, o + 1 + i * 6 + 3, none⟩ (.int .i64 u.1.ef)).setCell ⟨b, o + 1 + i * 6 + 4, none⟩ (.int .i64 u.1.er)).setCell ⟨b, o + 1 + i * 6 + 5, none⟩ (.int .u64 u.2)
section
variable {W W' : World} {b o : Nat} {t : TypeId} {pre : List Value} {n m : Int} {L l : List Us}
theorem RB.lt (h : RB W b t pre n L) : b < W.heap.size := h.2.lt
theorem RB.cell0 (h : RB W b t pre n L) (ho : pre.length = o) : W.cell? ⟨b, o, none⟩ = some (.int .i64 n) := h.2.cell (by
  subst ho
  rw [List.getElem?_append_right (Nat.le_refl _), Nat.sub_self]
  rfl)
theorem RB.get (h : RB W b t pre n L) (ho : pre.length = o) (k : Nat) (v : Value) (hv : (flatU L)[k]? = some v) : W.cell? ⟨b, o + 1 + k, none⟩ = some v := h.2.cell (by
  subst ho
  rw [List.getElem?_append_right (by omega), show pre.length + 1 + k - pre.length = k + 1 by omega, List.getElem?_cons_succ]
  exact hv)
theorem RB.cells (h : RB W b t pre n L) (ho : pre.length = o) (i : Nat) (u : Us) (hi : L[i]? = some u) : W.cell? ⟨b, o + 1 + i * 6, none⟩ = some (.int .i64 u.1.kr) ∧ W.cell? ⟨b, o + 1 + i * 6 + 1, none⟩ = some (.int .i64 u.1.kp) ∧ W.cell? ⟨b, o + 1 + i * 6 + 2, none⟩ = some (.int .i64 u.1.ep) ∧ W.cell? ⟨b, o + 1 + i * 6 + 3, none⟩ = some (.int .i64 u.1.ef) ∧ W.cell? ⟨b, o + 1 + i * 6 + 4, none⟩ = some (.int .i64 u.1.er) ∧ W.cell? ⟨b, o + 1 + i * 6 + 5, none⟩ = some (.int .u64 u.2) := by
  obtain ⟨h0, h1, h2, h3, h4, h5⟩ := flatU_get L i u hi
  exact ⟨h.get ho _ _ h0, h.get ho _ _ h1, h.get ho _ _ h2, h.get ho _ _ h3, h.get ho _ _ h4, h.get ho _ _ h5⟩
theorem RB.put (h : RB W b t pre n L) (ho : pre.length = o) (i : Nat) (u : Us) (hi : i < L.length) : RB (putU W b o i u) b t pre n (L.set i u) := by
  refine ⟨by rw [List.length_set]; exact h.1, ?_⟩
  have h6 := (((((h.2.set (o + 1 + i * 6) (.int .i64 u.1.kr)).set (o + 1 + i * 6 + 1) (.int .i64 u.1.kp)).set (o + 1 + i * 6 + 2) (.int .i64 u.1.ep)).set (o + 1 + i * 6 + 3) (.int .i64 u.1.ef)).set (o + 1 + i * 6 + 4) (.int .i64 u.1.er)).set (o + 1 + i * 6 + 5) (.int .u64 u.2)
  have e : ∀ (X : List Value) (k : Nat) (v : Value), (pre ++ .int .i64 n :: X).set (o + 1 + k) v = pre ++ .int .i64 n :: X.set k v := fun X k v => by
    subst ho
    rw [List.set_append_right _ _ (by omega), show pre.length + 1 + k - pre.length = k + 1 by omega, List.set_cons_succ]
  rw [flatU_set L i u hi]
  simp only [Nat.add_assoc] at h6 e ⊢
  simp only [e] at h6
  unfold putU
  simp only [Nat.add_assoc]
  exact h6
theorem RB.count (h : RB W b t pre n L) (ho : pre.length = o) (m : Int) : RB (W.setCell ⟨b, o, none⟩ (.int .i64 m)) b t pre m L := by
  refine ⟨h.1, ?_⟩
  have := h.2.set o (.int .i64 m)
  subst ho
  rw [List.set_append_right _ _ (Nat.le_refl _), Nat.sub_self, List.set_cons_zero] at this
  exact this
theorem LB.lt (h : LB W b t pre l) : b < W.heap.size := h.elim fun _ h => h.lt
theorem LB.of_block (h : LB W b t pre l) (e : W'.heap[b]? = W.heap[b]?) : LB W' b t pre l := h.elim fun z h => ⟨z, h.1, h.2.of_block e⟩
theorem LB.more (h : LB W b t pre l) (hb : Below W.heap.size W W') : LB W' b t pre l := h.of_block (hb.block b h.lt)
theorem LB.kq {T : List Nat} (h : LB W b t pre l) (k : Kq T W W') (hb : b ∉ T) : LB W' b t pre l := h.of_block (k.block b h.lt hb)
theorem LB.len (h : LB W b t pre l) : l.length ≤ 5 := h.elim fun z h => by have := h.1; rw [List.length_append] at this; omega
theorem LB.cell0 (h : LB W b t pre l) (ho : pre.length = o) : W.cell? ⟨b, o, none⟩ = some (.int .i64 (l.length : Nat)) := h.elim fun z h => h.cell0 ho
theorem LB.cells (h : LB W b t pre l) (ho : pre.length = o) (i : Nat) (u : Us) (hi : l[i]? = some u) : W.cell? ⟨b, o + 1 + i * 6, none⟩ = some (.int .i64 u.1.kr) ∧ W.cell? ⟨b, o + 1 + i * 6 + 1, none⟩ = some (.int .i64 u.1.kp) ∧ W.cell? ⟨b, o + 1 + i * 6 + 2, none⟩ = some (.int .i64 u.1.ep) ∧ W.cell? ⟨b, o + 1 + i * 6 + 3, none⟩ = some (.int .i64 u.1.ef) ∧ W.cell? ⟨b, o + 1 + i * 6 + 4, none⟩ = some (.int .i64 u.1.er) ∧ W.cell? ⟨b, o + 1 + i * 6 + 5, none⟩ = some (.int .u64 u.2) := h.elim fun z h => h.cells ho i u (by rw [List.getElem?_append_left (List.getElem?_eq_some_iff.1 hi).1]; exact hi)
/-- there is a place behind the others -/
theorem LB.slot (h : LB W b t pre l) (ho : pre.length = o) (hl : l.length < 5) : ∃ u : Us, W.cell? ⟨b, o + 1 + l.length * 6, none⟩ = some (.int .i64 u.1.kr) ∧ W.cell? ⟨b, o + 1 + l.length * 6 + 1, none⟩ = some (.int .i64 u.1.kp) ∧ W.cell? ⟨b, o + 1 + l.length * 6 + 2, none⟩ = some (.int .i64 u.1.ep) ∧ W.cell? ⟨b, o + 1 + l.length * 6 + 3, none⟩ = some (.int .i64 u.1.ef) ∧ W.cell? ⟨b, o + 1 + l.length * 6 + 4, none⟩ = some (.int .i64 u.1.er) ∧ W.cell? ⟨b, o + 1 + l.length * 6 + 5, none⟩ = some (.int .u64 u.2) := by
  obtain ⟨z, h⟩ := h
  have h5 := h.1
  rw [List.length_append] at h5
  match z, h5 with
  | [], h5 => simp at h5; omega
  | c :: z, _ => exact ⟨c, h.cells ho l.length c (by rw [List.getElem?_append_right (Nat.le_refl _), Nat.sub_self]; rfl)⟩
theorem LB.frz (h : LB W b t pre l) (j : Nat) : W.frozen? ⟨b, j, none⟩ = false := h.elim fun z h => h.2.frozen j
theorem LB.put (h : LB W b t pre l) (ho : pre.length = o) (i : Nat) (u : Us) (hi : i < l.length) : LB (putU W b o i u) b t pre (l.set i u) := by
  obtain ⟨z, h⟩ := h
  refine ⟨z, ?_⟩
  have := h.put ho i u (by rw [List.length_append]; omega)
  rw [List.set_append_left _ _ hi] at this
  rw [List.length_set]
  exact this
/-- one more behind the others -/
theorem LB.push (h : LB W b t pre l) (ho : pre.length = o) (u : Us) (hl : l.length < 5) : LB ((putU W b o l.length u).setCell ⟨b, o, none⟩ (.int .i64 ((l.length : Int) + 1))) b t pre (l ++ [u]) := by
  obtain ⟨z, h⟩ := h
  have h5 := h.1
  rw [List.length_append] at h5
  match z, h5, h with
  | [], h5, _ => simp at h5; omega
  | c :: z, _, h =>
    refine ⟨z, ?_⟩
    have := (h.put ho l.length u (by simp)).count ho ((l.length : Int) + 1)
    rw [List.set_append_right _ _ (Nat.le_refl _), Nat.sub_self, List.set_cons_zero] at this
    rw [List.length_append, List.append_assoc]
    exact this
/-- the last one goes -/
theorem LB.pop {u : Us} (h : LB W b t pre (l ++ [u])) (ho : pre.length = o) (x : Us) : LB (putU (W.setCell ⟨b, o, none⟩ (.int .i64 (l.length : Nat))) b o l.length x) b t pre l := by
  obtain ⟨z, h⟩ := h
  refine ⟨x :: z, ?_⟩
  have := (h.count ho (l.length : Nat)).put ho l.length x (by simp)
  rw [List.append_assoc, List.set_append_right _ _ (Nat.le_refl _), Nat.sub_self] at this
  exact this
theorem kq_drew {T : List Nat} (h : Kq T W W') : Kq T W W'.drew := ⟨h.os, h.tape, h.output, h.size, h.block⟩
theorem putU_kq (T : List Nat) (W : World) (b o i : Nat) (u : Us) (hb : b ∈ T) : Kq T W (putU W b o i u) :=
  ((((((Kq.refl T W).setCell b _ _ (.inl hb)).setCell b _ _ (.inl hb)).setCell b _ _ (.inl hb)).setCell b _ _ (.inl hb)).setCell b _ _ (.inl hb)).setCell b _ _ (.inl hb)
end
end Go.Proofs.YteaincdeoajkeaaGreatDoor.Sb
end
section
/- The library's heaps: which method is meant, where the heap is a pointer and its methods have pointer receivers. Serves all packages. -/
namespace Go.Proofs.YteaincdeoajkeaaGreatDoor.Hg
open Go.RowKit Ut
set_option linter.unusedVariables false

theorem asked_ptr {P : Program} (n t elem f : Nat) (name : String) (a : Addr) (W : World)
    (hm : ((P.info? t).bind fun i => i.methods.find? (·.name == name)).map (fun m => (m.path.toList, m.func)) = some ([], some (f, true))) (hu : P.underlying t = some (.pointer elem)) :
    (method (n + 1) t (.pointer (some a)) name).run P W = .ok (f, .pointer (some a)) W := by
  cases hi : P.info? t with
  | none => rw [hi] at hm; cases hm
  | some i =>
    rw [hi] at hm
    simp only [Option.bind_some] at hm
    cases hf : i.methods.find? (·.name == name) with
    | none => rw [hf] at hm; cases hm
    | some m =>
      rw [hf] at hm
      simp only [Option.map_some, Option.some.injEq, Prod.mk.injEq] at hm
      obtain ⟨hp, hfn⟩ := hm
      have hpe : m.path = #[] := by
        cases hq : m.path with
        | mk l => rw [hq] at hp; simp at hp; rw [hp]
      unfold method
      simp [typeInfo, hi, hf, hpe, follow, hfn, receiverAt, run_underlying hu, Place.get]
/-- a heap behind a pointer, its method f: what f does is what is asked of it -/
theorem Asks.ptr (T elem f : Nat) (name : String) (a : Addr) (W : World) (D : Nat → Value → Prop)
    (hm : ((Tryz.prog.info? T).bind fun i => i.methods.find? (·.name == name)).map (fun m => (m.path.toList, m.func)) = some ([], some (f, true))) (hu : Tryz.prog.underlying T = some (.pointer elem))
    (hen : ∀ (args : Array Value) (w : World), (callFunc f args).run Tryz.prog w = .ok (.enter f args) w) (h : D f (.pointer (some a))) : Asks T (.pointer (some a)) name W D :=
  ⟨f, .pointer (some a), fun m => asked_ptr m T elem f name a W hm hu, hen, h⟩
end Go.Proofs.YteaincdeoajkeaaGreatDoor.Hg
end
section
/- Package stlb: the heap's methods Len, Less, Push. -/
namespace Go.Proofs.YteaincdeoajkeaaGreatDoor.Sb
open Go.RowKit Ut Hg
set_option maxRecDepth 100000
set_option linter.unusedVariables false
set_option maxHeartbeats 4000000

section
variable {W : World} {b o : Nat} {t : TypeId} {pre : List Value} {l : List Us}
theorem len18 (h : LB W b t pre l) (ho : pre.length = o) :
    Calls Tryz.prog 175 #[.pointer (some ⟨b, o, none⟩)] W fun e W' => e = .returned (.int .i64 (l.length : Nat)) ∧ W = W' := by
  have h0 := h.cell0 ho
  clear h
  go_enter Tryz.func175, Tryz.ntmps175
  go_wp2
  go_ret
  exact ⟨rfl, rfl⟩

theorem less18 (h : LB W b t pre l) (ho : pre.length = o) (i j : Nat) (hi : i < l.length) (hj : j < l.length) (r : Bool) (hr : decide (vl usK l i < vl usK l j) = r) :
    Calls Tryz.prog 176 #[.pointer (some ⟨b, o, none⟩), .int .i64 i, .int .i64 j] W fun e W' => e = .returned (.bool r) ∧ Below W.heap.size W W' := by
  have c1 := (h.cells ho i l[i] (List.getElem?_eq_getElem hi)).2.2.2.2.2
  have c2 := (h.cells ho j l[j] (List.getElem?_eq_getElem hj)).2.2.2.2.2
  have hl := h.len
  have d1 : (0 : Int) ≤ (i : Int) ∧ (i : Int) < 5 := by omega
  have d2 : (0 : Int) ≤ (j : Int) ∧ (j : Int) < 5 := by omega
  have HB := Lib.hid ((Below.refl W.heap.size W).drew)
  have e1 : vl usK l i = (l[i]).2 := by unfold vl usK; rw [List.getD_eq_getElem?_getD, List.getElem?_eq_getElem hi]; rfl
  have e2 : vl usK l j = (l[j]).2 := by unfold vl usK; rw [List.getD_eq_getElem?_getD, List.getElem?_eq_getElem hj]; rfl
  rw [e1, e2] at hr
  subst hr
  generalize (l[i]).2 = x at c1 ⊢
  generalize (l[j]).2 = y at c2 ⊢
  clear h hi hj hl e1 e2
  go_enter Tryz.func176, Tryz.ntmps176
  go_wp2
  go_region
  go_wp2
  go_ret
  exact ⟨rfl, HB.out⟩
end
end Go.Proofs.YteaincdeoajkeaaGreatDoor.Sb
end
