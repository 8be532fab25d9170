/- Records of k integers each inside a block, behind other cells: read, written whole, many at once, cleared. Serves all packages. -/
import Derived.Test.YtcdiigdbjncpeaaRh
import Derived.Test.YtcdiigdbjncpeaaTa
namespace Go.Proofs.Ytcdiigdbjncpeaa.Ut
open Go.RowKit
set_option linter.unusedVariables false

theorem encI_len (x : List Int) : (encI x).length = x.length := by unfold encI; rw [List.length_map]
theorem encR_cons (x : List Int) (xs : List (List Int)) : encR (x :: xs) = encI x ++ encR xs := rfl
theorem encR_app (xs ys : List (List Int)) : encR (xs ++ ys) = encR xs ++ encR ys := by
  unfold encR
  rw [List.map_append, List.flatten_append]
theorem encR_len (k : Nat) : ∀ (xs : List (List Int)), (∀ x ∈ xs, x.length = k) → (encR xs).length = xs.length * k
  | [], _ => by simp [encR]
  | x :: xs, h => by
    rw [encR_cons, List.length_append, encI_len, h x (List.mem_cons_self ..), encR_len k xs (fun y hy => h y (List.mem_cons_of_mem _ hy)), List.length_cons, Nat.add_mul]
    omega
theorem encI_one (x : List Int) : ∀ v ∈ encI x, v.oneCell' = true := fun v hv => by
  obtain ⟨z, _, rfl⟩ := List.mem_map.1 hv
  rfl
theorem encR_take (k : Nat) (xs : List (List Int)) (h : ∀ x ∈ xs, x.length = k) (i : Nat) : (encR xs).take (i * k) = encR (xs.take i) := by
  by_cases hi : i ≤ xs.length
  · have e : encR xs = encR (xs.take i) ++ encR (xs.drop i) := by rw [← encR_app, List.take_append_drop]
    have hl : (encR (xs.take i)).length = i * k := by rw [encR_len k _ (fun x hx => h x (List.mem_of_mem_take hx)), List.length_take, Nat.min_eq_left hi]
    rw [e, List.take_append, hl, Nat.sub_self, List.take_zero, List.append_nil, List.take_of_length_le (by omega)]
  · rw [List.take_of_length_le (show xs.length ≤ i by omega), List.take_of_length_le]
    rw [encR_len k xs h]
    exact Nat.mul_le_mul_right k (by omega)
theorem encR_drop (k : Nat) (xs : List (List Int)) (h : ∀ x ∈ xs, x.length = k) (i : Nat) : (encR xs).drop (i * k) = encR (xs.drop i) := by
  by_cases hi : i ≤ xs.length
  · have e : encR xs = encR (xs.take i) ++ encR (xs.drop i) := by rw [← encR_app, List.take_append_drop]
    have hl : (encR (xs.take i)).length = i * k := by rw [encR_len k _ (fun x hx => h x (List.mem_of_mem_take hx)), List.length_take, Nat.min_eq_left hi]
    rw [e, List.drop_append, hl, Nat.sub_self, List.drop_zero, List.drop_of_length_le (by omega), List.nil_append]
  · rw [List.drop_of_length_le (show xs.length ≤ i by omega), List.drop_of_length_le]
    · rfl
    · rw [encR_len k xs h]
      exact Nat.mul_le_mul_right k (by omega)
/-- records written over others -/
theorem encR_splice (k : Nat) (xs ys : List (List Int)) (hx : ∀ x ∈ xs, x.length = k) (hy : ∀ y ∈ ys, y.length = k) (i : Nat) : splice (encR xs) (i * k) (encR ys) = encR (splice xs i ys) := by
  unfold splice
  rw [encR_len k ys hy, ← Nat.add_mul, encR_take k xs hx, encR_drop k xs hx, encR_app, encR_app]
theorem splice_behind {α : Type} (pre f cs : List α) (o k : Nat) (ho : pre.length = o) : splice (pre ++ f) (o + k) cs = pre ++ splice f k cs := by
  subst ho
  unfold splice
  rw [List.take_append, List.take_of_length_le (by omega), show pre.length + k - pre.length = k by omega, Nat.add_assoc, List.drop_append, List.drop_of_length_le (by omega), show pre.length + (k + cs.length) - pre.length = k + cs.length by omega, List.append_assoc]
  rfl
theorem splice_one {α : Type} (l : List α) : ∀ (i : Nat) (x : α), i < l.length → splice l i [x] = l.set i x := by
  induction l with
  | nil => intro i x h; simp at h
  | cons y l ih =>
    intro i x h
    cases i with
    | zero => rfl
    | succ i =>
      have := ih i x (by simpa using h)
      unfold splice at this ⊢
      rw [List.set_cons_succ, ← this, List.take_succ_cons, List.cons_append, show i + 1 + [x].length = i + [x].length + 1 by simp, List.drop_succ_cons]
theorem splice_len {α : Type} (l ys : List α) (i : Nat) (h : i + ys.length ≤ l.length) : (splice l i ys).length = l.length := by
  unfold splice
  rw [List.length_append, List.length_append, List.length_take, List.length_drop]
  omega
theorem splice_take {α : Type} (l ys : List α) (i : Nat) (h : i ≤ l.length) : (splice l i ys).take i = l.take i := by
  unfold splice
  have e : (l.take i).length = i := by rw [List.length_take]; omega
  rw [List.take_append, e, Nat.sub_self, List.take_zero, List.append_nil, List.take_of_length_le (by omega)]

theorem encR_set (k : Nat) : ∀ (xs : List (List Int)), (∀ x ∈ xs, x.length = k) → ∀ (i j : Nat) (x : List Int) (z : Int), xs[i]? = some x → j < k → (encR xs).set (i * k + j) (.int .i64 z) = encR (xs.set i (x.set j z)) := by
  intro xs
  induction xs with
  | nil => intro _ i j x z h; simp at h
  | cons c xs ih =>
    intro h i j x z hx hj
    have hc : (encI c).length = k := by rw [encI_len]; exact h c (List.mem_cons_self ..)
    cases i with
    | zero =>
      simp only [List.getElem?_cons_zero, Option.some.injEq] at hx
      subst hx
      rw [List.set_cons_zero, encR_cons, encR_cons, Nat.zero_mul, Nat.zero_add, List.set_append_left _ _ (by omega)]
      unfold encI
      rw [List.map_set]
    | succ i =>
      rw [List.set_cons_succ, encR_cons, encR_cons, List.set_append_right _ _ (by rw [hc, Nat.add_mul]; omega), hc, show (i + 1) * k + j - k = i * k + j by rw [Nat.add_mul]; omega,
        ih (fun y hy => h y (List.mem_cons_of_mem _ hy)) i j x z (by simpa using hx) hj]
/-- a block's cells behind pre are records of k integers -/
def RecB (w : World) (b : Nat) (t : TypeId) (pre : List Value) (k : Nat) (xs : List (List Int)) : Prop := (∀ x ∈ xs, x.length = k) ∧ Blk w b t (pre ++ encR xs)
section
variable {w w' : World} {b o k : Nat} {t : TypeId} {pre : List Value} {xs : List (List Int)}
theorem RecB.lt (h : RecB w b t pre k xs) : b < w.heap.size := h.2.lt
theorem RecB.of_block (h : RecB w b t pre k xs) (e : w'.heap[b]? = w.heap[b]?) : RecB w' b t pre k xs := ⟨h.1, h.2.of_block e⟩
theorem RecB.kq {T : List Nat} (h : RecB w b t pre k xs) (q : Kq T w w') (hb : b ∉ T) : RecB w' b t pre k xs := h.of_block (q.block b h.lt hb)
theorem RecB.more (h : RecB w b t pre k xs) (hb : Below w.heap.size w w') : RecB w' b t pre k xs := h.of_block (hb.block b h.lt)
theorem RecB.get (h : RecB w b t pre k xs) (ho : pre.length = o) {i j : Nat} {x : List Int} {z : Int} (hx : xs[i]? = some x) (hz : x[j]? = some z) : w.cell? ⟨b, o + i * k + j, none⟩ = some (.int .i64 z) := h.2.cell (by
  subst ho
  rw [List.getElem?_append_right (by omega), show pre.length + i * k + j - pre.length = i * k + j by omega]
  exact encR_get k xs h.1 i x j z hx hz)
/-- .. as a slice of them reads -/
theorem RecB.row (h : RecB w b t pre k xs) (ho : pre.length = o) : IRow k w (some ⟨b, o, none⟩) xs := fun i x hx => ⟨_, rfl, h.lt, fun j z hz => by
  have e : (⟨b, o, none⟩ : Addr).add (i * k + j) = ⟨b, o + i * k + j, none⟩ := by unfold Addr.add; split <;> simp_all [Nat.add_assoc]
  rw [e]
  exact h.get ho hx hz⟩
/-- one of them is written whole -/
theorem RecB.putRow (h : RecB w b t pre k xs) (ho : pre.length = o) (i : Nat) (x : List Int) (hi : i < xs.length) (hx : x.length = k) : splice (pre ++ encR xs) (o + i * k) (encI x) = pre ++ encR (xs.set i x) ∧ RecB (w.setRow b (pre ++ encR (xs.set i x)).toArray) b t pre k (xs.set i x) := by
  have e : encI x = encR [x] := by simp [encR]
  refine ⟨?_, fun y hy => ?_, h.2.row _⟩
  · rw [splice_behind pre _ _ o _ ho, e, encR_splice k xs [x] h.1 (by simp [hx]), splice_one _ _ _ hi]
  · rcases List.mem_or_eq_of_mem_set hy with hy | rfl
    · exact h.1 y hy
    · exact hx
theorem RecB.fits (h : RecB w b t pre k xs) (ho : pre.length = o) (i : Nat) (hi : i < xs.length) : o + i * k + k ≤ (pre ++ encR xs).length := by
  rw [List.length_append, encR_len k xs h.1, ho]
  have := Nat.mul_le_mul_right k (show i + 1 ≤ xs.length by omega)
  rw [Nat.add_mul] at this
  omega
/-- one of its numbers is written -/
theorem RecB.setAt (h : RecB w b t pre k xs) (ho : pre.length = o) {i j : Nat} {x : List Int} (z : Int) (hx : xs[i]? = some x) (hj : j < k) : RecB (w.setCell ⟨b, o + i * k + j, none⟩ (.int .i64 z)) b t pre k (xs.set i (x.set j z)) := by
  subst ho
  refine ⟨fun y hy => ?_, ?_⟩
  · rcases List.mem_or_eq_of_mem_set hy with hy | rfl
    · exact h.1 y hy
    · rw [List.length_set]
      exact h.1 x (List.mem_of_getElem? hx)
  · have h1 := h.2.set (pre.length + i * k + j) (.int .i64 z)
    rw [List.set_append_right _ _ (by omega), show pre.length + i * k + j - pre.length = i * k + j by omega, encR_set k xs h.1 i j x z hx hj] at h1
    exact h1
theorem setRow_kq (T : List Nat) (w : World) (b : Nat) (ds : Array Value) (hb : b ∈ T) : Kq T w (w.setRow b ds) := ⟨rfl, rfl, rfl, by rw [size_setRow]; exact Nat.le_refl _, fun q hq hn => setRow_other _ _ _ _ (fun e => hn (by rw [e]; exact hb))⟩
theorem zeroCells_recs (k n : Nat) : (Builtin.zeroCells (encI (List.replicate k 0)).toArray n).toList = encR (List.replicate n (List.replicate k 0)) := by
  have hl : (encI (List.replicate k (0 : Int))) = List.replicate k (.int .i64 0) := by unfold encI; rw [List.map_replicate]
  have hr : encR (List.replicate n (List.replicate k (0 : Int))) = List.replicate (n * k) (.int .i64 0) := by
    unfold encR
    rw [List.map_replicate, hl, List.flatten_replicate_replicate]
  rw [hr, hl]
  unfold Builtin.zeroCells
  apply List.ext_getElem
  · simp
  · intro i h1 h2
    have hk : 0 < k := by
      rcases Nat.eq_zero_or_pos k with h | h
      · subst h; simp at h2
      · exact h
    simp [Nat.mod_lt i hk]
variable {P : Program}
/-- the builtin clear over some of them -/
theorem run_clear_recs (h : RecB w b t pre k xs) (ho : pre.length = o) (st e ty : TypeId) (z : Value) (ht : P.underlying st = some (.slice e)) (hv : ∀ w, (zeroValue e).run P w = .ok z w) (hz : z.cells = (encI (List.replicate k 0)).toArray) (i n c : Nat) (hn : i + n ≤ xs.length) (a : Option Addr) (ha : 0 < n → a = some ⟨b, o + i * k, none⟩) :
    ∃ w', (Builtin.clear_ #[st] ty #[.slice a n c]).run P w = .ok (.tuple #[]) w' ∧ RecB w' b t pre k (splice xs i (List.replicate n (List.replicate k 0))) ∧ Kq [b] w w' := by
  cases n with
  | zero =>
    refine ⟨w, ?_, ?_, Kq.refl _ _⟩
    · cases a <;> simp [Builtin.clear_, run_underlying ht]
    · have e0 : splice xs i (List.replicate 0 (List.replicate k (0 : Int))) = xs := by
        unfold splice
        simp
      rw [e0]
      exact h
  | succ m =>
    obtain rfl := ha (Nat.succ_pos m)
    have hfit : (o + i * k) + (encR (List.replicate (m + 1) (List.replicate k (0 : Int)))).length ≤ (pre ++ encR xs).length := by
      rw [encR_len k _ (fun x hx => by rw [List.eq_of_mem_replicate hx, List.length_replicate]), List.length_append, encR_len k xs h.1, ho, List.length_replicate]
      have := Nat.mul_le_mul_right k hn
      rw [Nat.add_mul] at this
      omega
    have hst := run_storeCells_at (P := P) b (o + i * k) t (encR (List.replicate (m + 1) (List.replicate k (0 : Int)))) 0 (pre ++ encR xs).toArray w h.2 (by simpa using hfit) (fun v hv => by
      unfold encR at hv
      obtain ⟨c, hc, hv⟩ := List.mem_flatten.1 hv
      obtain ⟨y, _, rfl⟩ := List.mem_map.1 hc
      exact encI_one y v hv)
    refine ⟨w.setRow b (splice (pre ++ encR xs) (o + i * k) (encR (List.replicate (m + 1) (List.replicate k (0 : Int))))).toArray, ?_, ⟨fun y hy => ?_, ?_⟩, setRow_kq _ _ _ _ (by simp)⟩
    · simp [Builtin.clear_, run_underlying ht, hv, hz, zeroCells_recs, hst, splice]
    · unfold splice at hy
      rcases List.mem_append.1 hy with hy | hy
      · exact h.1 y (List.mem_of_mem_take hy)
      · rcases List.mem_append.1 hy with hy | hy
        · rw [List.eq_of_mem_replicate hy, List.length_replicate]
        · exact h.1 y (List.mem_of_mem_drop hy)
    · rw [splice_behind pre _ _ o _ ho, encR_splice k xs _ h.1 (fun x hx => by rw [List.eq_of_mem_replicate hx, List.length_replicate])]
      exact h.2.row _
theorem run_clear_none (w : World) (st e ty : TypeId) (ht : P.underlying st = some (.slice e)) (a : Option Addr) (c : Nat) : (Builtin.clear_ #[st] ty #[.slice a 0 c]).run P w = .ok (.tuple #[]) w := by
  cases a <;> simp [Builtin.clear_, run_underlying ht]
/-- clear, as a step of a drawn region whose run is known -/
theorem step_clear_run {ops : Array Oper} {oo : Oper} {a : Act} {K : Act → World → Prop} {Q : Exit → Act → World → Prop} {E : Prop} (hgd : oo.guard = none) (x : Operand) (st : TypeId)
    (ho : oo.op = .call { callee := .builtin .clear, args := #[x], argTypes := #[st] }) (v : Value) (hv : a.eval x = v) (v' : Value) (w' : World)
    (hrun : (Builtin.clear_ #[st] oo.type #[v]).run P w = .ok v' w') (h : K (a.put oo.dst v') w') :
    if Region.wanted oo (yielded ops a.tmps) = true then Oper.wp P oo a w K Q else E := by
  have hw : Region.wanted oo (yielded ops a.tmps) = true := by simp [Region.wanted, hgd]
  rw [if_pos hw]
  unfold Oper.wp execOp
  simp only [ho, resolve, invoke, builtin, Sem.run_bind, Sem.run_pure, Result.andThen_ok, List.map_toArray, List.map_cons, List.map_nil, hv, hrun]
  exact h
end
theorem splice_map {α β : Type} (f : α → β) (l ys : List α) (i : Nat) : (splice l i ys).map f = splice (l.map f) i (ys.map f) := by
  unfold splice
  rw [List.map_append, List.map_append, List.map_take, List.map_drop, List.length_map]
theorem kq_grown {T : List Nat} {W w w' : World} {row : Option Nat} (h : Kq T W w) (hg : w.grownBy w' row) (hr : ∀ q, row = some q → W.heap.size ≤ q ∨ q ∈ T) : Kq T W w' :=
  ⟨hg.os.trans h.os, hg.tape.trans h.tape, hg.output.trans h.output, Nat.le_trans h.size hg.size, fun q hq hn => (hg.block q (Nat.lt_of_lt_of_le hq h.size) (fun e => by
    rcases hr q e.symm with h1 | h1
    · omega
    · exact hn h1)).trans (h.block q hq hn)⟩
end Go.Proofs.Ytcdiigdbjncpeaa.Ut
