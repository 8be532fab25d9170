/- Several texts in one: St Js Jt Rf Ju -/
import Derived.Test.YteaincdeoajkeaaGreatDoorZ23
import Derived.Test.YteaincdeoajkeaaGreatDoorZ08
import Derived.Test.YteaincdeoajkeaaGreatDoorZ32
import Derived.Laws.EntriesVeiled
import Derived.Great.Walk
import Derived.Test.YteaincdeoajkeaaGreatDoorZ22
section
/- Records of k integers each inside a block, behind other cells: read, written whole, many at once, cleared. Serves all packages. -/
namespace Go.Proofs.YteaincdeoajkeaaGreatDoor.Ut
open Go.RowKit
set_option linter.unusedVariables false

theorem encI_len (x : List Int) : (encI x).length = x.length := by unfold encI; rw [List.length_map]
theorem encR_cons (x : List Int) (xs : List (List Int)) : encR (x :: xs) = encI x ++ encR xs := rfl
theorem encR_app (xs ys : List (List Int)) : encR (xs ++ ys) = encR xs ++ encR ys := by
 unfold encR
 rw [List.map_append, List.flatten_append]
theorem encR_len (k : Nat) : ∀ (xs : List (List Int)), (∀ x ∈ xs, x.length = k) → (encR xs).length = xs.length * k
 | [], _ => by simp [encR]
 | x :: xs, h => by
  rw [encR_cons, List.length_append, encI_len, h x (List.mem_cons_self ..), encR_len k xs (fun y hy => h y (List.mem_cons_of_mem _ hy)), List.length_cons, Nat.add_mul]
  omega
theorem encI_one (x : List Int) : ∀ v ∈ encI x, v.oneCell' = true := fun v hv => by
 obtain ⟨z, _, rfl⟩ := List.mem_map.1 hv
 rfl
theorem encR_take (k : Nat) (xs : List (List Int)) (h : ∀ x ∈ xs, x.length = k) (i : Nat) : (encR xs).take (i * k) = encR (xs.take i) := by
 by_cases hi : i ≤ xs.length
 ·have e : encR xs = encR (xs.take i) ++ encR (xs.drop i) := by rw [← encR_app, List.take_append_drop]
  have hl : (encR (xs.take i)).length = i * k := by rw [encR_len k _ (fun x hx => h x (List.mem_of_mem_take hx)), List.length_take, Nat.min_eq_left hi]
  rw [e, List.take_append, hl, Nat.sub_self, List.take_zero, List.append_nil, List.take_of_length_le (by omega)]
 ·rw [List.take_of_length_le (show xs.length ≤ i by omega), List.take_of_length_le]
  rw [encR_len k xs h]
  exact Nat.mul_le_mul_right k (by omega)
theorem encR_drop (k : Nat) (xs : List (List Int)) (h : ∀ x ∈ xs, x.length = k) (i : Nat) : (encR xs).drop (i * k) = encR (xs.drop i) := by
 by_cases hi : i ≤ xs.length
 ·have e : encR xs = encR (xs.take i) ++ encR (xs.drop i) := by rw [← encR_app, List.take_append_drop]
  have hl : (encR (xs.take i)).length = i * k := by rw [encR_len k _ (fun x hx => h x (List.mem_of_mem_take hx)), List.length_take, Nat.min_eq_left hi]
  rw [e, List.drop_append, hl, Nat.sub_self, List.drop_zero, List.drop_of_length_le (by omega), List.nil_append]
 ·rw [List.drop_of_length_le (show xs.length ≤ i by omega), List.drop_of_length_le]
  ·rfl
  ·rw [encR_len k xs h]
   exact Nat.mul_le_mul_right k (by omega)
/-- records written over others -/
theorem encR_splice (k : Nat) (xs ys : List (List Int)) (hx : ∀ x ∈ xs, x.length = k) (hy : ∀ y ∈ ys, y.length = k) (i : Nat) : splice (encR xs) (i * k) (encR ys) = encR (splice xs i ys) := by
 unfold splice
 rw [encR_len k ys hy, ← Nat.add_mul, encR_take k xs hx, encR_drop k xs hx, encR_app, encR_app]
theorem splice_behind {α : Type} (pre f cs : List α) (o k : Nat) (ho : pre.length = o) : splice (pre ++ f) (o + k) cs = pre ++ splice f k cs := by
 subst ho
 unfold splice
 rw [List.take_append, List.take_of_length_le (by omega), show pre.length + k - pre.length = k by omega, Nat.add_assoc, List.drop_append, List.drop_of_length_le (by omega), show pre.length + (k + cs.length) - pre.length = k + cs.length by omega, List.append_assoc]
 rfl
theorem splice_one {α : Type} (l : List α) : ∀ (i : Nat) (x : α), i < l.length → splice l i [x] = l.set i x := by
 induction l with
 | nil => intro i x h; simp at h
 | cons y l ih =>
  intro i x h
  cases i with
  | zero => rfl
  | succ i =>
   have := ih i x (by simpa using h)
   unfold splice at this ⊢
   rw [List.set_cons_succ, ← this, List.take_succ_cons, List.cons_append, show i + 1 + [x].length = i + [x].length + 1 by simp, List.drop_succ_cons]
theorem splice_len {α : Type} (l ys : List α) (i : Nat) (h : i + ys.length ≤ l.length) : (splice l i ys).length = l.length := by
 unfold splice
 rw [List.length_append, List.length_append, List.length_take, List.length_drop]
 omega
theorem splice_take {α : Type} (l ys : List α) (i : Nat) (h : i ≤ l.length) : (splice l i ys).take i = l.take i := by
 unfold splice
 have e : (l.take i).length = i := by rw [List.length_take]; omega
 rw [List.take_append, e, Nat.sub_self, List.take_zero, List.append_nil, List.take_of_length_le (by omega)]

theorem encR_set (k : Nat) : ∀ (xs : List (List Int)), (∀ x ∈ xs, x.length = k) → ∀ (i j : Nat) (x : List Int) (z : Int), xs[i]? = some x → j < k → (encR xs).set (i * k + j) (.int .i64 z) = encR (xs.set i (x.set j z)) := by
 intro xs
 induction xs with
 | nil => intro _ i j x z h; simp at h
 | cons c xs ih =>
  intro h i j x z hx hj
  have hc : (encI c).length = k := by rw [encI_len]; exact h c (List.mem_cons_self ..)
  cases i with
  | zero =>
   simp only [List.getElem?_cons_zero, Option.some.injEq] at hx
   subst hx
   rw [List.set_cons_zero, encR_cons, encR_cons, Nat.zero_mul, Nat.zero_add, List.set_append_left _ _ (by omega)]
   unfold encI
   rw [List.map_set]
  | succ i =>
   rw [List.set_cons_succ, encR_cons, encR_cons, List.set_append_right _ _ (by rw [hc, Nat.add_mul]; omega), hc, show (i + 1) * k + j - k = i * k + j by rw [Nat.add_mul]; omega,
    ih (fun y hy => h y (List.mem_cons_of_mem _ hy)) i j x z (by simpa using hx) hj]
/-- a block's cells behind pre are records of k integers -/
def RecB (w : World) (b : Nat) (t : TypeId) (pre : List Value) (k : Nat) (xs : List (List Int)) : Prop := (∀ x ∈ xs, x.length = k) ∧ Blk w b t (pre ++ encR xs)
section
variable {w w' : World} {b o k : Nat} {t : TypeId} {pre : List Value} {xs : List (List Int)}
theorem RecB.lt (h : RecB w b t pre k xs) : b < w.heap.size := h.2.lt
theorem RecB.of_block (h : RecB w b t pre k xs) (e : w'.heap[b]? = w.heap[b]?) : RecB w' b t pre k xs := ⟨h.1, h.2.of_block e⟩
theorem RecB.kq {T : List Nat} (h : RecB w b t pre k xs) (q : Kq T w w') (hb : b ∉ T) : RecB w' b t pre k xs := h.of_block (q.block b h.lt hb)
theorem RecB.more (h : RecB w b t pre k xs) (hb : Below w.heap.size w w') : RecB w' b t pre k xs := h.of_block (hb.block b h.lt)
theorem RecB.get (h : RecB w b t pre k xs) (ho : pre.length = o) {i j : Nat} {x : List Int} {z : Int} (hx : xs[i]? = some x) (hz : x[j]? = some z) : w.cell? ⟨b, o + i * k + j, none⟩ = some (.int .i64 z) := h.2.cell (by
 subst ho
 rw [List.getElem?_append_right (by omega), show pre.length + i * k + j - pre.length = i * k + j by omega]
 exact encR_get k xs h.1 i x j z hx hz)
/-- .. as a slice of them reads -/
theorem RecB.row (h : RecB w b t pre k xs) (ho : pre.length = o) : IRow k w (some ⟨b, o, none⟩) xs := fun i x hx => ⟨_, rfl, h.lt, fun j z hz => by
 have e : (⟨b, o, none⟩ : Addr).add (i * k + j) = ⟨b, o + i * k + j, none⟩ := by unfold Addr.add; split <;> simp_all [Nat.add_assoc]
 rw [e]
 exact h.get ho hx hz⟩
/-- one of them is written whole -/
theorem RecB.putRow (h : RecB w b t pre k xs) (ho : pre.length = o) (i : Nat) (x : List Int) (hi : i < xs.length) (hx : x.length = k) : splice (pre ++ encR xs) (o + i * k) (encI x) = pre ++ encR (xs.set i x) ∧ RecB (w.setRow b (pre ++ encR (xs.set i x)).toArray) b t pre k (xs.set i x) := by
 have e : encI x = encR [x] := by simp [encR]
 refine ⟨?_, fun y hy => ?_, h.2.row _⟩
 ·rw [splice_behind pre _ _ o _ ho, e, encR_splice k xs [x] h.1 (by simp [hx]), splice_one _ _ _ hi]
 ·rcases List.mem_or_eq_of_mem_set hy with hy | rfl
  ·exact h.1 y hy
  ·exact hx
theorem RecB.fits (h : RecB w b t pre k xs) (ho : pre.length = o) (i : Nat) (hi : i < xs.length) : o + i * k + k ≤ (pre ++ encR xs).length := by
 rw [List.length_append, encR_len k xs h.1, ho]
 have := Nat.mul_le_mul_right k (show i + 1 ≤ xs.length by omega)
 rw [Nat.add_mul] at this
 omega
/-- one of its numbers is written -/
theorem RecB.setAt (h : RecB w b t pre k xs) (ho : pre.length = o) {i j : Nat} {x : List Int} (z : Int) (hx : xs[i]? = some x) (hj : j < k) : RecB (w.setCell ⟨b, o + i * k + j, none⟩ (.int .i64 z)) b t pre k (xs.set i (x.set j z)) := by
 subst ho
 refine ⟨fun y hy => ?_, ?_⟩
 ·rcases List.mem_or_eq_of_mem_set hy with hy | rfl
  ·exact h.1 y hy
  ·rw [List.length_set]
   exact h.1 x (List.mem_of_getElem? hx)
 ·have h1 := h.2.set (pre.length + i * k + j) (.int .i64 z)
  rw [List.set_append_right _ _ (by omega), show pre.length + i * k + j - pre.length = i * k + j by omega, encR_set k xs h.1 i j x z hx hj] at h1
  exact h1
theorem setRow_kq (T : List Nat) (w : World) (b : Nat) (ds : Array Value) (hb : b ∈ T) : Kq T w (w.setRow b ds) := ⟨rfl, rfl, rfl, by rw [size_setRow]; exact Nat.le_refl _, fun q hq hn => setRow_other _ _ _ _ (fun e => hn (by rw [e]; exact hb))⟩
theorem zeroCells_recs (k n : Nat) : (Builtin.zeroCells (encI (List.replicate k 0)).toArray n).toList = encR (List.replicate n (List.replicate k 0)) := by
 have hl : (encI (List.replicate k (0 : Int))) = List.replicate k (.int .i64 0) := by unfold encI; rw [List.map_replicate]
 have hr : encR (List.replicate n (List.replicate k (0 : Int))) = List.replicate (n * k) (.int .i64 0) := by
  unfold encR
  rw [List.map_replicate, hl, List.flatten_replicate_replicate]
 rw [hr, hl]
 unfold Builtin.zeroCells
 apply List.ext_getElem
 ·simp
 ·intro i h1 h2
  have hk : 0 < k := by
   rcases Nat.eq_zero_or_pos k with h | h
   ·subst h; simp at h2
   ·exact h
  simp [Nat.mod_lt i hk]
variable {P : Program}
/-- the builtin clear over some of them -/
theorem run_clear_recs (h : RecB w b t pre k xs) (ho : pre.length = o) (st e ty : TypeId) (z : Value) (ht : P.underlying st = some (.slice e)) (hv : ∀ w, (zeroValue e).run P w = .ok z w) (hz : z.cells = (encI (List.replicate k 0)).toArray) (i n c : Nat) (hn : i + n ≤ xs.length) (a : Option Addr) (ha : 0 < n → a = some ⟨b, o + i * k, none⟩) :
  ∃ w', (Builtin.clear_ #[st] ty #[.slice a n c]).run P w = .ok (.tuple #[]) w' ∧ RecB w' b t pre k (splice xs i (List.replicate n (List.replicate k 0))) ∧ Kq [b] w w' := by
 cases n with
 | zero =>
  refine ⟨w, ?_, ?_, Kq.refl _ _⟩
  ·cases a <;> simp [Builtin.clear_, run_underlying ht]
  ·have e0 : splice xs i (List.replicate 0 (List.replicate k (0 : Int))) = xs := by
    unfold splice
    simp
   rw [e0]
   exact h
 | succ m =>
  obtain rfl := ha (Nat.succ_pos m)
  have hfit : (o + i * k) + (encR (List.replicate (m + 1) (List.replicate k (0 : Int)))).length ≤ (pre ++ encR xs).length := by
   rw [encR_len k _ (fun x hx => by rw [List.eq_of_mem_replicate hx, List.length_replicate]), List.length_append, encR_len k xs h.1, ho, List.length_replicate]
   have := Nat.mul_le_mul_right k hn
   rw [Nat.add_mul] at this
   omega
  have hst := run_storeCells_at (P := P) b (o + i * k) t (encR (List.replicate (m + 1) (List.replicate k (0 : Int)))) 0 (pre ++ encR xs).toArray w h.2 (by simpa using hfit) (fun v hv => by
   unfold encR at hv
   obtain ⟨c, hc, hv⟩ := List.mem_flatten.1 hv
   obtain ⟨y, _, rfl⟩ := List.mem_map.1 hc
   exact encI_one y v hv)
  refine ⟨w.setRow b (splice (pre ++ encR xs) (o + i * k) (encR (List.replicate (m + 1) (List.replicate k (0 : Int))))).toArray, ?_, ⟨fun y hy => ?_, ?_⟩, setRow_kq _ _ _ _ (by simp)⟩
  ·simp [Builtin.clear_, run_underlying ht, hv, hz, zeroCells_recs, hst, splice]
  ·unfold splice at hy
   rcases List.mem_append.1 hy with hy | hy
   ·exact h.1 y (List.mem_of_mem_take hy)
   ·rcases List.mem_append.1 hy with hy | hy
    ·rw [List.eq_of_mem_replicate hy, List.length_replicate]
    ·exact h.1 y (List.mem_of_mem_drop hy)
  ·rw [splice_behind pre _ _ o _ ho, encR_splice k xs _ h.1 (fun x hx => by rw [List.eq_of_mem_replicate hx, List.length_replicate])]
   exact h.2.row _
/-- clear, as a step of a drawn region whose run is known -/
theorem step_clear_run {ops : Array Oper} {oo : Oper} {a : Act} {K : Act → World → Prop} {Q : Exit → Act → World → Prop} {E : Prop} (hgd : oo.guard = none) (x : Operand) (st : TypeId)
  (ho : oo.op = .call { callee := .builtin .clear, args := #[x], argTypes := #[st] }) (v : Value) (hv : a.eval x = v) (v' : Value) (w' : World)
  (hrun : (Builtin.clear_ #[st] oo.type #[v]).run P w = .ok v' w') (h : K (a.put oo.dst v') w') :
  if Region.wanted oo (yielded ops a.tmps) = true then Oper.wp P oo a w K Q else E := by
 have hw : Region.wanted oo (yielded ops a.tmps) = true := by simp [Region.wanted, hgd]
 rw [if_pos hw]
 unfold Oper.wp execOp
 simp only [ho, resolve, invoke, builtin, Sem.run_bind, Sem.run_pure, Result.andThen_ok, List.map_toArray, List.map_cons, List.map_nil, hv, hrun]
 exact h
end
theorem splice_map {α β : Type} (f : α → β) (l ys : List α) (i : Nat) : (splice l i ys).map f = splice (l.map f) i (ys.map f) := by
 unfold splice
 rw [List.map_append, List.map_append, List.map_take, List.map_drop, List.length_map]
theorem kq_grown {T : List Nat} {W w w' : World} {row : Option Nat} (h : Kq T W w) (hg : w.grownBy w' row) (hr : ∀ q, row = some q → W.heap.size ≤ q ∨ q ∈ T) : Kq T W w' :=
 ⟨hg.os.trans h.os, hg.tape.trans h.tape, hg.output.trans h.output, Nat.le_trans h.size hg.size, fun q hq hn => (hg.block q (Nat.lt_of_lt_of_le hq h.size) (fun e => by
  rcases hr q e.symm with h1 | h1
  ·omega
  ·exact hn h1)).trans (h.block q hq hn)⟩
end Go.Proofs.YteaincdeoajkeaaGreatDoor.Ut
end
section
/- Package shadow: translations as they lie in the shadow itself; New, there, own; the closures that say which ones go. -/
namespace Go.Proofs.YteaincdeoajkeaaGreatDoor.Sw
open Go.RowKit Ut
set_option maxRecDepth 100000
set_option linter.unusedVariables false
set_option maxHeartbeats 4000000

def noL : Ln := ⟨0, 0, 0, 0, 0, 0, 0⟩
/-- what lies ahead of the places: made, the number -/
abbrev hd2 (m : Bool) (n : Int) : List Value := [.bool m, .int .i64 n]
/-- the shadow at g: thirty-two places -/
def RS19 (W : World) (g : Nat) (m : Bool) (n : Int) (L : List Ln) : Prop := L.length = 32 ∧ RecB W g 185 (hd2 m n) 7 (L.map Ln.l)
/-- .. of which the first are l -/
def LS19 (W : World) (g : Nat) (m : Bool) (l : List Ln) : Prop := ∃ z : List Ln, RS19 W g m (l.length : Nat) (l ++ z)
section
variable {W W' : World} {g : Nat} {m : Bool} {n : Int} {l L : List Ln}
theorem RS19.lt (h : RS19 W g m n L) : g < W.heap.size := h.2.lt
theorem RS19.kq {T : List Nat} (h : RS19 W g m n L) (k : Kq T W W') (hb : g ∉ T) : RS19 W' g m n L := ⟨h.1, h.2.kq k hb⟩
theorem RS19.more (h : RS19 W g m n L) (hb : Below W.heap.size W W') : RS19 W' g m n L := ⟨h.1, h.2.more hb⟩
theorem RS19.pre (h : RS19 W g m n L) : W.cell? ⟨g, 0, none⟩ = some (.bool m) ∧ W.cell? ⟨g, 1, none⟩ = some (.int .i64 n) := ⟨h.2.2.cell rfl, h.2.2.cell rfl⟩
theorem RS19.frz (h : RS19 W g m n L) (j : Nat) : W.frozen? ⟨g, j, none⟩ = false := h.2.2.frozen j
theorem RS19.count (h : RS19 W g m n L) (n' : Int) : RS19 (W.setCell ⟨g, 1, none⟩ (.int .i64 n')) g m n' L := ⟨h.1, h.2.1, h.2.2.set 1 (.int .i64 n')⟩
/-- a place's cells as the walk spells them, the shadow asked -/
theorem RS19.cells (h : RS19 W g m n L) {i : Nat} {x : Ln} (hx : L[i]? = some x) : W.cell? ⟨g, 2 + i * 7, none⟩ = some (.int .i64 x.kr) ∧ W.cell? ⟨g, 2 + i * 7 + 1, none⟩ = some (.int .i64 x.kp) ∧ W.cell? ⟨g, 2 + i * 7 + 2, none⟩ = some (.int .i64 x.ep) ∧ W.cell? ⟨g, 2 + i * 7 + 3, none⟩ = some (.int .i64 x.ef) ∧ W.cell? ⟨g, 2 + i * 7 + 4, none⟩ = some (.int .i64 x.er) ∧ W.cell? ⟨g, 2 + i * 7 + 5, none⟩ = some (.int .i64 x.rt) ∧ W.cell? ⟨g, 2 + i * 7 + 6, none⟩ = some (.int .i64 x.lf) := by
 have hl : (L.map Ln.l)[i]? = some x.l := by rw [List.getElem?_map, hx]; rfl
 exact ⟨h.2.get rfl (j := 0) hl rfl, h.2.get rfl (j := 1) hl rfl, h.2.get rfl (j := 2) hl rfl, h.2.get rfl (j := 3) hl rfl, h.2.get rfl (j := 4) hl rfl, h.2.get rfl (j := 5) hl rfl, h.2.get rfl (j := 6) hl rfl⟩
theorem LS19.lt (h : LS19 W g m l) : g < W.heap.size := h.elim fun _ h => h.lt
theorem LS19.kq {T : List Nat} (h : LS19 W g m l) (k : Kq T W W') (hb : g ∉ T) : LS19 W' g m l := h.elim fun z h => ⟨z, h.kq k hb⟩
theorem LS19.more (h : LS19 W g m l) (hb : Below W.heap.size W W') : LS19 W' g m l := h.elim fun z h => ⟨z, h.more hb⟩
theorem LS19.len (h : LS19 W g m l) : l.length ≤ 32 := h.elim fun z h => by have := h.1; rw [List.length_append] at this; omega
theorem LS19.pre (h : LS19 W g m l) : W.cell? ⟨g, 0, none⟩ = some (.bool m) ∧ W.cell? ⟨g, 1, none⟩ = some (.int .i64 (l.length : Nat)) := h.elim fun _ h => h.pre
theorem LS19.row (h : LS19 W g m l) : LnRow W (some ⟨g, 2, none⟩) l := h.elim fun z h => fun i x hx => by
 have hr := h.2.row (o := 2) rfl
 refine hr i x ?_
 rw [List.map_append, List.getElem?_append_left (List.getElem?_eq_some_iff.1 hx).1]
 exact hx
end

/-- what a new one's cells are -/
def newS (m : Bool) : List Value := hd2 m 0 ++ encR ((List.replicate 32 noL).map Ln.l)
theorem newS_at (m : Bool) (w : World) : LS19 (w.alloc (.cells (newS m).toArray 185)) w.heap.size m [] := ⟨List.replicate 32 noL, rfl, (fun x hx => by
 obtain ⟨y, _, rfl⟩ := List.mem_map.1 hx
 rfl), Blk.new w _ (newS m)⟩
theorem shNew_any (w : World) : Calls Tryz.prog 57 #[] w fun e w' => e = .returned (.pointer (some ⟨w.heap.size, 0, none⟩)) ∧ LS19 w' w.heap.size true [] ∧ Below w.heap.size w w' := by
 have HF := Lib.hid (newS_at true w)
 have HB := Lib.hid ((Below.refl w.heap.size w).alloc (Nat.le_refl _) (.cells (newS true).toArray 185))
 go_enter Tryz.func57, Tryz.ntmps57
 go_upto_region 1 with fail
 refine wp_region_lit ?_
 refine wpList_buildTo rfl 185 _ rfl _ rfl (newS true).toArray (by kernel_rfl) ?_
 refine Great.wpList_boxTo rfl 185 _ rfl _ rfl w.heap.size rfl (newS true).toArray rfl ?_
 obtain ⟨V, hV⟩ : ∃ V, V = w.alloc (.cells (newS true).toArray 185) := ⟨_, rfl⟩
 rw [← hV] at HF HB ⊢
 clear hV
 go_wp2
 go_ret
 exact ⟨rfl, HF.out, HB.out⟩
theorem own19_any (p : Int) (w : World) : Calls Tryz.prog 142 #[.int .i64 p] w fun e w' => e = .returned (.bool (ownP p)) ∧ w = w' := by
 have hc : (ownP p = true ∧ 0 ≤ p ∧ p < 8) ∨ (ownP p = false ∧ ¬ 0 ≤ p) ∨ (ownP p = false ∧ 0 ≤ p ∧ ¬ p < 8) := by
  unfold ownP
  by_cases h1 : 0 ≤ p
  ·by_cases h2 : p < 8
   ·exact .inl ⟨by simp [h1, h2], h1, h2⟩
   ·exact .inr (.inr ⟨by simp [h2], h1, h2⟩)
  ·exact .inr (.inl ⟨by simp [h1], h1⟩)
 rcases hc with ⟨ho, h1, h2⟩ | ⟨ho, h1⟩ | ⟨ho, h1, h2⟩
 all_goals
  rw [ho]
  clear ho
  go_enter Tryz.func142, Tryz.ntmps142
  go_wp2
  go_ret
  exact ⟨rfl, rfl⟩
section
variable {W W' : World} {g : Nat} {m : Bool} {l : List Ln}
theorem there_any (h : LS19 W g m l) : Calls Tryz.prog 87 #[.pointer (some ⟨g, 0, none⟩)] W fun e w' => e = .returned (.slice (some ⟨g, 2, none⟩) l.length 32) ∧ Below W.heap.size W w' := by
 obtain ⟨n, hn⟩ : ∃ n : Nat, l.length = n := ⟨_, rfl⟩
 have c1 := h.pre.2
 have hlt := h.lt
 have h32 := h.len
 rw [hn] at c1 h32 ⊢
 have b0 : (0 : Int) ≤ (n : Int) := by omega
 have b1 : (n : Int) ≤ 32 := by omega
 have HB := Lib.hid (Below.refl W.heap.size W)
 clear h hn
 go_enter Tryz.func87, Tryz.ntmps87
 go_upto_region 3 with fail
 go_quiet (fail)
 go_wp2
 go_ret
 exact ⟨rfl, drewN_below HB.out _⟩
end

/-- a key's closure; a page's -/
theorem hasKey19_any (p q : Int) (w : World) : Calls Tryz.prog 117 #[.agg #[.int .i64 p, .int .i64 q]] w fun e w' => e = .returned (.func (.func 141) #[] #[.pointer (some ⟨w.heap.size, 0, none⟩)]) ∧ Blk w' w.heap.size 48 [.int .i64 p, .int .i64 q] ∧ Below w.heap.size w w' := by
 have HB := Lib.hid ((Below.refl w.heap.size w).alloc (Nat.le_refl _) (.cells #[.int .i64 p, .int .i64 q] 48))
 have HN := Lib.hid (Blk.new w 48 [.int .i64 p, .int .i64 q])
 go_enter Tryz.func117, Tryz.ntmps117
 go_wp2
 go_ret
 exact ⟨rfl, HN.out, HB.out⟩
theorem through_any (p : Int) (w : World) : Calls Tryz.prog 90 #[.int .i64 p] w fun e w' => e = .returned (.func (.func 129) #[] #[.pointer (some ⟨w.heap.size, 0, none⟩)]) ∧ Blk w' w.heap.size 3 [.int .i64 p] ∧ Below w.heap.size w w' := by
 have HB := Lib.hid ((Below.refl w.heap.size w).alloc (Nat.le_refl _) (.cells #[.int .i64 p] 3))
 have HN := Lib.hid (Blk.new w 3 [.int .i64 p])
 go_enter Tryz.func90, Tryz.ntmps90
 go_wp2
 go_ret
 exact ⟨rfl, HN.out, HB.out⟩
theorem hasKey119_any (p q : Int) (k : Nat) (x : Ln) (w : World) (h : Blk w k 48 [.int .i64 p, .int .i64 q]) : Calls Tryz.prog 141 #[x.v, .pointer (some ⟨k, 0, none⟩)] w fun e w' => e = .returned (.bool (x.is p q)) ∧ Below w.heap.size w w' := by
 have k0 := h.cell (j := 0) rfl
 have k1 := h.cell (j := 1) rfl
 have kl := h.lt
 have hcases := isS_cases x p q
 obtain ⟨kr, kp, ep, ef, er, rt, lf⟩ := x
 have HB := Lib.hid ((Below.refl w.heap.size w).alloc (Nat.le_refl _) (.cells #[.int .i64 kr, .int .i64 kp, .int .i64 ep, .int .i64 ef, .int .i64 er, .int .i64 rt, .int .i64 lf] 167))
 dsimp only at hcases ⊢
 clear h
 rcases hcases with ⟨hy, h1, h2⟩ | ⟨hy, h1⟩ | ⟨hy, h1, h2⟩
 ·subst h1 h2
  rw [hy]
  clear hy
  go_enter Tryz.func141, Tryz.ntmps141
  go_wp2
  go_ret
  exact ⟨rfl, HB.out⟩
 ·rw [hy]
  clear hy
  go_enter Tryz.func141, Tryz.ntmps141
  go_wp2
  go_ret
  exact ⟨rfl, HB.out⟩
 ·subst h1
  rw [hy]
  clear hy
  go_enter Tryz.func141, Tryz.ntmps141
  go_wp2
  go_ret
  exact ⟨rfl, HB.out⟩
theorem through1_any (p : Int) (k : Nat) (x : Ln) (w : World) (h : Blk w k 3 [.int .i64 p]) : Calls Tryz.prog 129 #[x.v, .pointer (some ⟨k, 0, none⟩)] w fun e w' => e = .returned (.bool (x.by_ p)) ∧ Below w.heap.size w w' := by
 have k0 := h.cell (j := 0) rfl
 have kl := h.lt
 have hcases := by_cases_ x p
 obtain ⟨kr, kp, ep, ef, er, rt, lf⟩ := x
 have HB := Lib.hid ((Below.refl w.heap.size w).alloc (Nat.le_refl _) (.cells #[.int .i64 kr, .int .i64 kp, .int .i64 ep, .int .i64 ef, .int .i64 er, .int .i64 rt, .int .i64 lf] 167))
 dsimp only at hcases ⊢
 clear h
 rcases hcases with ⟨hy, h1⟩ | ⟨hy, h1, h2⟩ | ⟨hy, h1, h2⟩
 all_goals
  rw [hy]
  clear hy
  go_enter Tryz.func129, Tryz.ntmps129
  go_wp2
  go_ret
  exact ⟨rfl, HB.out⟩
theorem flush119_any (x : Ln) (w : World) : Calls Tryz.prog 99 #[x.v] w fun e w' => e = .returned (.bool true) ∧ Below w.heap.size w w' := by
 obtain ⟨kr, kp, ep, ef, er, rt, lf⟩ := x
 have HB := Lib.hid ((Below.refl w.heap.size w).alloc (Nat.le_refl _) (.cells #[.int .i64 kr, .int .i64 kp, .int .i64 ep, .int .i64 ef, .int .i64 er, .int .i64 rt, .int .i64 lf] 167))
 go_enter Tryz.func99, Tryz.ntmps99
 go_wp2
 go_ret
 exact ⟨rfl, HB.out⟩
/-- Gone's closure asks another one first -/
theorem gone119_any (p : Int) (k kf kt : Nat) (x : Ln) (w : World) (h : Blk w k 3 [.int .i64 p]) (hf : Blk w kf 179 [.func (.func 129) #[] #[.pointer (some ⟨kt, 0, none⟩)]]) (ht : Blk w kt 3 [.int .i64 p]) :
  Calls Tryz.prog 96 #[x.v, .pointer (some ⟨kf, 0, none⟩), .pointer (some ⟨k, 0, none⟩)] w fun e w' => e = .returned (.bool (goF p true x)) ∧ Below w.heap.size w w' := by
 obtain ⟨U, hU⟩ : ∃ U, U = w.alloc (.cells #[.int .i64 x.kr, .int .i64 x.kp, .int .i64 x.ep, .int .i64 x.ef, .int .i64 x.er, .int .i64 x.rt, .int .i64 x.lf] 167) := ⟨_, rfl⟩
 have hB : Below w.heap.size w U := by rw [hU]; exact (Below.refl _ _).alloc (Nat.le_refl _) _
 have hN : Blk U w.heap.size 167 (encI x.l) := by rw [hU]; exact Blk.new w _ _
 have hk := h.more hB
 have hkf := hf.more hB
 have HC := Lib.hid (through1_any p kt x U (ht.more hB))
 have HK := Lib.hid hk
 have HN := Lib.hid hN
 have HU := Lib.hid hU
 have HB := Lib.hid hB
 have f0 := hkf.cell (j := 0) rfl
 have fl := hkf.lt
 have x0 := hN.cell (j := 0) rfl
 have x1 := hN.cell (j := 1) rfl
 have x2 := hN.cell (j := 2) rfl
 have x3 := hN.cell (j := 3) rfl
 have x4 := hN.cell (j := 4) rfl
 have x5 := hN.cell (j := 5) rfl
 have x6 := hN.cell (j := 6) rfl
 have xl := hN.lt
 have hg : goF p true x = (x.by_ p || (x.ep == p)) := by unfold goF; rw [Bool.true_and]
 rw [hg]
 generalize x.by_ p = t at HC ⊢
 clear h hf ht hB hN hU hk hkf hg
 obtain ⟨kr, kp, ep, ef, er, rt, lf⟩ := x
 dsimp only [Ln.l] at HU HC x0 x1 x2 x3 x4 x5 x6 HN ⊢
 go_enter Tryz.func96, Tryz.ntmps96
 go_upto_region 1 with fail
 rw [← HU.out]
 clear HU
 cases t
 ·go_wp2_with fail
  refine HC.out.mono ?_
  rintro e w1 ⟨rfl, hb1⟩
  have HB1 := Lib.hid (HB.out.trans (hb1.mono HB.out.size))
  have hN1 := HN.out.more hb1
  have hK1 := HK.out.more hb1
  have k0 := hK1.cell (j := 0) rfl
  have kl := hK1.lt
  have y2 := hN1.cell (j := 2) rfl
  have yl := hN1.lt
  clear hb1 HC x0 x1 x2 x3 x4 x5 x6 xl f0 fl hN1 hK1
  go_wp2
  go_ret
  exact ⟨rfl, HB1.out⟩
 ·go_wp2_with fail
  refine HC.out.mono ?_
  rintro e w1 ⟨rfl, hb1⟩
  have HB1 := Lib.hid (HB.out.trans (hb1.mono HB.out.size))
  clear hb1 HC x0 x1 x2 x3 x4 x5 x6 xl f0 fl
  go_wp2
  go_ret
  exact ⟨rfl, HB1.out⟩
end Go.Proofs.YteaincdeoajkeaaGreatDoor.Sw
end
section
/- Package shadow: slices.IndexFunc, slices.ContainsFunc over its translations, Table, Len. -/
namespace Go.Proofs.YteaincdeoajkeaaGreatDoor.Sw
open Go.RowKit Ut
set_option maxRecDepth 100000
set_option linter.unusedVariables false
set_option maxHeartbeats 4000000

/-- a closure that says which ones are meant, in all worlds in which nothing but T has turned since W0 -/
def IsL (W0 : World) (T : List Nat) (fi : Nat) (caps : Array Value) (P : Ln → Bool) : Prop :=
 (∀ args w, (callFunc fi args).run Tryz.prog w = .ok (.enter fi args) w) ∧ ∀ (x : Ln) (w : World), Kq T W0 w → Calls Tryz.prog fi (#[x.v] ++ caps) w fun e w' => e = .returned (.bool (P x)) ∧ Below w.heap.size w w'
/-- what IndexFunc answers -/
def IdxP (P : Ln → Bool) (l : List Ln) (z : Int) : Prop := (∃ (i : Nat) (x : Ln), z = (i : Nat) ∧ l[i]? = some x ∧ P x = true ∧ ∀ y ∈ l.take i, P y = false) ∨ (z = -1 ∧ ∀ y ∈ l, P y = false)
theorem isL_key {W : World} {T : List Nat} (p q : Int) (k : Nat) (hk : Blk W k 48 [.int .i64 p, .int .i64 q]) (hT : k ∉ T) : IsL W T 141 #[.pointer (some ⟨k, 0, none⟩)] (fun x => x.is p q) :=
 ⟨fun _ _ => rfl, fun x w' hw => hasKey119_any p q k x w' (hk.kq hw hT)⟩
theorem isL_through {W : World} {T : List Nat} (p : Int) (k : Nat) (hk : Blk W k 3 [.int .i64 p]) (hT : k ∉ T) : IsL W T 129 #[.pointer (some ⟨k, 0, none⟩)] (fun x => x.by_ p) :=
 ⟨fun _ _ => rfl, fun x w' hw => through1_any p k x w' (hk.kq hw hT)⟩
theorem isL_flush {W : World} {T : List Nat} : IsL W T 99 #[] (fun _ => true) :=
 ⟨fun _ _ => rfl, fun x w' hw => by rw [Array.append_empty]; exact flush119_any x w'⟩
section
variable {W W' : World} {g fi : Nat} {m : Bool} {l : List Ln} {caps : Array Value} {P : Ln → Bool}
theorem indexFunc19 (a : Option Addr) (c : Nat) (h : LnRow W a l) (hl : l.length ≤ 1000) (hi : IsL W [] fi caps P) :
  Calls Tryz.prog 116 #[.slice a l.length c, .func (.func fi) #[] caps] W fun e w' => (∃ z, e = .returned (.int .i64 z) ∧ IdxP P l z) ∧ Below W.heap.size W w' := by
 obtain ⟨hen, hc⟩ := hi
 have HR := Lib.hid h
 have HC := Lib.hid hc
 obtain ⟨n, hn⟩ : ∃ n : Nat, l.length = n := ⟨_, rfl⟩
 rw [hn] at hl ⊢
 have HLN := Lib.hid hn
 have hn0 : (n : Int) ≤ 1000 := by omega
 clear h hc hn hl
 go_enter Tryz.func116, Tryz.ntmps116
 go_wp2
 go_loopw [8] (fun j wr => ∃ k : Nat, k ≤ n ∧ j = .int .i64 k ∧ Hid (∀ u ∈ l.take k, P u = false) ∧ Hid (Below W.heap.size W wr)) (fun j _ => n - (intOf j).toNat)
 case atStart => exact ⟨0, Nat.zero_le _, rfl, Lib.hid (by simp), Lib.hid (Below.refl _ _)⟩
 case round =>
  obtain ⟨k, hk, rfl, HNO, HB⟩ := hrel
  by_cases hlt : k < n
  ·have hx : l[k]? = some (l[k]'(by rw [HLN.out]; exact hlt)) := List.getElem?_eq_getElem _
   obtain ⟨u, hu⟩ : ∃ u, l[k]'(by rw [HLN.out]; exact hlt) = u := ⟨_, rfl⟩
   rw [hu] at hx
   obtain ⟨y, rfl, hyb, hyb2, c0, c1, c2, c3, c4, c5, c6⟩ := LnRow.at_ (IRow.more HR.out HB.out) hx
   have b0 : (0 : Int) ≤ (k : Int) := by omega
   have b1 : (k : Int) < (n : Int) := by omega
   have HX := Lib.hid hx
   have H3 := Lib.hid hlt
   obtain ⟨t, ht⟩ : ∃ t, P u = t := ⟨_, rfl⟩
   have HCU := Lib.hid (HC.out u wr (Kq.of_below HB.out))
   rw [ht] at HCU
   have HT := Lib.hid ht
   clear hx hu hk hlt ht
   obtain ⟨kr, kp, ep, ef, er, rt, lf⟩ := u
   dsimp only [Ln.v] at c0 c1 c2 c3 c4 c5 c6 HCU
   cases t
   ·have HN2 := Lib.hid (noneS HNO.out HX.out HT.out)
    go_wp2_with fail
    refine HCU.out.mono ?_
    rintro e w2 ⟨rfl, hb2⟩
    have HB2 := Lib.hid (HB.out.trans (hb2.mono HB.out.size))
    clear hb2 HCU c0 c1 c2 c3 c4 c5 c6
    go_wp2
    go_roundw
    case rel => exact ⟨k + 1, H3.out, by go_num, HN2, HB2⟩
    case measure => have := H3.out; simp [intOf]; omega
   ·go_wp2_with fail
    refine HCU.out.mono ?_
    rintro e w2 ⟨rfl, hb2⟩
    have HB2 := Lib.hid (HB.out.trans (hb2.mono HB.out.size))
    clear hb2 HCU c0 c1 c2 c3 c4 c5 c6
    go_wp2
    go_ret
    exact ⟨⟨_, rfl, .inl ⟨k, _, rfl, HX.out, HT.out, HNO.out⟩⟩, HB2.out⟩
  ·obtain rfl : k = n := by omega
   have b1 : ¬ (k : Int) < (k : Int) := by omega
   have HF : Hid (IdxP P l (-1)) := Lib.hid (.inr ⟨rfl, by have := HNO.out; rwa [← HLN.out, List.take_length] at this⟩)
   go_wp2
   go_ret
   exact ⟨⟨_, rfl, HF.out⟩, HB.out⟩
theorem containsFunc19 (a : Option Addr) (c : Nat) (h : LnRow W a l) (hl : l.length ≤ 1000) (hi : IsL W [] fi caps P) :
  Calls Tryz.prog 89 #[.slice a l.length c, .func (.func fi) #[] caps] W fun e w' => e = .returned (.bool (l.any P)) ∧ Below W.heap.size W w' := by
 have HI := Lib.hid (indexFunc19 a c h hl hi)
 clear h hi
 generalize l.length = n at HI hl ⊢
 go_enter Tryz.func89, Tryz.ntmps89
 go_wp2_with fail
 refine HI.out.mono ?_
 rintro e w1 ⟨⟨z, rfl, hz⟩, hb⟩
 have HB := Lib.hid hb
 rcases hz with ⟨i, x, rfl, hx, hp, _⟩ | ⟨rfl, hno⟩
 ·have HT : Hid (l.any P = true) := Lib.hid (List.any_eq_true.2 ⟨x, List.mem_of_getElem? hx, hp⟩)
  have t0 : (0 : Int) ≤ (i : Int) := by omega
  clear hx hp HI hb
  go_wp2
  go_ret
  exact ⟨by rw [HT.out]; rfl, HB.out⟩
 ·have HT : Hid (l.any P = false) := Lib.hid (List.any_eq_false.2 (fun y hy => by rw [hno y hy]; decide))
  clear hno HI hb
  go_wp2
  go_ret
  exact ⟨by rw [HT.out]; rfl, HB.out⟩
theorem idx_ex (P : Ln → Bool) : ∀ l : List Ln, ∃ z, IdxP P l z := fun l => by
 cases h : l.findIdx? P with
 | none => exact ⟨-1, .inr ⟨rfl, fun y hy => by have := List.findIdx?_eq_none_iff.1 h y hy; exact this⟩⟩
 | some i =>
  obtain ⟨hi, h1, h2⟩ := List.findIdx?_eq_some_iff_getElem.1 h
  exact ⟨i, .inl ⟨i, l[i], rfl, List.getElem?_eq_getElem hi, h1, fun y hy => by
   obtain ⟨j, hj, rfl⟩ := List.mem_take_iff_getElem.1 hy
   have := h2 j (by omega)
   simpa using this⟩⟩
theorem idx_one {z z' : Int} (h : IdxP P l z) (h' : IdxP P l z') : z = z' := by
 rcases h with ⟨i, x, rfl, hx, hp, hn⟩ | ⟨rfl, hn⟩ <;> rcases h' with ⟨j, y, rfl, hy, hq, hm⟩ | ⟨rfl, hm⟩
 ·rcases Nat.lt_trichotomy i j with hij | rfl | hij
  ·have := hm x (List.mem_take_iff_getElem.2 ⟨i, by have := (List.getElem?_eq_some_iff.1 hx).1; omega, (List.getElem?_eq_some_iff.1 hx).2⟩)
   rw [hp] at this
   cases this
  ·rfl
  ·have := hn y (List.mem_take_iff_getElem.2 ⟨j, by have := (List.getElem?_eq_some_iff.1 hy).1; omega, (List.getElem?_eq_some_iff.1 hy).2⟩)
   rw [hq] at this
   cases this
 ·have := hm x (List.mem_of_getElem? hx)
  rw [hp] at this
  cases this
 ·have := hn y (List.mem_of_getElem? hy)
  rw [hq] at this
  cases this
 ·rfl
/-- what there answers: v is the shadow, or nil (then nothing is there) -/
def ThP (W : World) (v : Value) (l : List Ln) : Prop := l.length ≤ 32 ∧ ∃ (a : Option Addr) (c : Nat), (∀ V, Below W.heap.size W V → Calls Tryz.prog 87 #[v] V fun e w' => e = .returned (.slice a l.length c) ∧ Below V.heap.size V w') ∧ LnRow W a l
theorem LS19.th (h : LS19 W g m l) : ThP W (.pointer (some ⟨g, 0, none⟩)) l := ⟨h.len, _, 32, fun V hb => there_any (h.more hb), h.row⟩
theorem ThP.more {v : Value} (h : ThP W v l) (hb : Below W.heap.size W W') : ThP W' v l := by
 obtain ⟨h1, a, c, h2, h3⟩ := h
 exact ⟨h1, a, c, fun V hV => h2 V (hb.trans (hV.mono hb.size)), IRow.more h3 hb⟩
theorem shTable_any {v : Value} (p : Int) (h : ThP W v l) : Calls Tryz.prog 52 #[v, .int .i64 p] W fun e w' => e = .returned (.bool (tabL l p)) ∧ Below W.heap.size W w' := by
 obtain ⟨h32, a, c, hc, hr⟩ := h
 have HC := Lib.hid (hc W (Below.refl _ _))
 have HR := Lib.hid hr
 have HF : Hid (∀ (w w1 : World), Below W.heap.size W w → Blk w1 w.heap.size 3 [.int .i64 p] → Below w.heap.size w w1 → Calls Tryz.prog 89 #[.slice a l.length c, .func (.func 129) #[] #[.pointer (some ⟨w.heap.size, 0, none⟩)]] w1 fun e w' => e = .returned (.bool (tabL l p)) ∧ Below W.heap.size W w') := Lib.hid fun w w1 hb hk hb1 =>
  have hbb : Below W.heap.size W w1 := hb.trans (hb1.mono hb.size)
  (containsFunc19 a c (IRow.more hr hbb) (by omega) (isL_through p w.heap.size hk (by simp))).mono fun e w' ⟨h1, h2⟩ => ⟨h1, hbb.trans (h2.mono hbb.size)⟩
 clear hc hr h32
 generalize l.length = n at HC HF
 generalize tabL l p = t at HF ⊢
 go_enter Tryz.func52, Tryz.ntmps52
 go_wp2_with fail
 refine HC.out.mono ?_
 rintro e w1 ⟨rfl, hb⟩
 have HB := Lib.hid hb
 clear hb HC
 go_wp2_with fail
 refine (through_any p w1).mono ?_
 rintro e w2 ⟨rfl, hk, hb2⟩
 have HF2 := Lib.hid (HF.out w1 w2 HB.out hk hb2)
 clear hk hb2 HF
 go_wp2_with fail
 refine HF2.out.mono ?_
 rintro e w3 ⟨rfl, hb3⟩
 have HB3 := Lib.hid hb3
 clear hb3
 go_wp2
 go_ret
 exact ⟨rfl, HB3.out⟩
end
end Go.Proofs.YteaincdeoajkeaaGreatDoor.Sw
end
section
/- Drawn regions in which one operation's value depends on the order drawn (a call that makes memory and answers with a slice of it): what is known of it (any property that later blocks leave) stands in its value's place. Serves all packages. -/
namespace Go.Proofs.YteaincdeoajkeaaGreatDoor.Ut
open Go.RowKit
set_option linter.unusedVariables false

section
variable {P : Program} {ops : Array Oper} {Q : Exit → Act → World → Prop} {T : (Nat → Value) → Array Value} {d : List Deferred}
/-- what each operation yields: of number b no more than Pb -/
def ExR (Pb : Value → World → Prop) (vals : List Value) (b : Nat) (j : Nat) (v : Value) (w : World) : Prop := if j = b then Pb v w else v = nth vals j
variable {W : World} {Pb : Value → World → Prop} {vals : List Value} {b : Nat}
def ExFrom (P : Program) (ops : Array Oper) (Q : Exit → Act → World → Prop) (T : (Nat → Value) → Array Value) (d : List Deferred) (W : World) (Pb : Value → World → Prop) (vals : List Value) (b : Nat) (k : Nat) (l : List Oper) : Prop :=
 StepsFrom P ops Q T d (ExR Pb vals b) (fun _ w => Below W.heap.size W w) (fun _ w w' => Below w.heap.size w w') k l
theorem exR_nth {j : Nat} {v u : Value} {w : World} (h : ExR Pb vals b j v w) (hb : j ≠ b) (hu : vals[j]? = some u) : v = u := by
 unfold ExR at h
 rw [if_neg hb] at h
 exact hd_nth' h hu
theorem exR_b {v : Value} {w : World} (h : ExR Pb vals b b v w) : Pb v w := by
 unfold ExR at h
 rwa [if_pos rfl] at h
theorem ex_op {k : Nat} {o o' : Oper} {l : List Oper} (s : Nat) (ds : List Nat) (hd : depsOf o = ds) (kb : k ≠ b)
  (h : ∀ (x : Nat → Value) (w : World), Below W.heap.size W w → (∀ j ∈ ds, ExR Pb vals b j (x j) w) → ∀ K : Act → World → Prop, (∀ tm w', tm = T (upd x k (tm.getD s undef)) → tm.getD s undef = nth vals k → Below w.heap.size w w' → K { tmps := tm, defers := d } w') →
   if Region.wanted o (yielded ops (T x)) = true then Oper.wp P o { tmps := T x, defers := d } w K Q else K (Act.put { tmps := T x, defers := d } o.dst undef) w)
  (hs : ExFrom P ops Q T d W Pb vals b (k + 1) (o' :: l)) : ExFrom P ops Q T d W Pb vals b k (o :: o' :: l) := by
 refine steps_op ds hd (fun L x w _ _ hw hR K hK => h x w hw hR K fun tm w' ht hv hb => ?_) hs
 refine hK _ w' tm ht ?_ (hw.trans (hb.mono hw.size)) hb
 unfold ExR; rw [if_neg kb]; exact hv
/-- the operation whose value is not known ahead -/
theorem ex_one {k : Nat} {o o' : Oper} {l : List Oper} (s : Nat) (ds : List Nat) (hd : depsOf o = ds) (kb : k = b)
  (h : ∀ (x : Nat → Value) (w : World), Below W.heap.size W w → (∀ j ∈ ds, ExR Pb vals b j (x j) w) → ∀ K : Act → World → Prop, (∀ tm w', tm = T (upd x k (tm.getD s undef)) → Pb (tm.getD s undef) w' → Below w.heap.size w w' → K { tmps := tm, defers := d } w') →
   if Region.wanted o (yielded ops (T x)) = true then Oper.wp P o { tmps := T x, defers := d } w K Q else K (Act.put { tmps := T x, defers := d } o.dst undef) w)
  (hs : ExFrom P ops Q T d W Pb vals b (k + 1) (o' :: l)) : ExFrom P ops Q T d W Pb vals b k (o :: o' :: l) := by
 refine steps_op ds hd (fun L x w _ _ hw hR K hK => h x w hw hR K fun tm w' ht hv hb => ?_) hs
 refine hK _ w' tm ht ?_ (hw.trans (hb.mono hw.size)) hb
 unfold ExR; rw [if_pos kb]; exact hv
theorem ex_last {k : Nat} {o : Oper}
  (h : ∀ (x : Nat → Value) (w : World), Below W.heap.size W w → (∀ j, j < k → ExR Pb vals b j (x j) w) → ∀ K : Act → World → Prop, (∀ a' w', Q .normal a' w' → K a' w') →
   if Region.wanted o (yielded ops (T x)) = true then Oper.wp P o { tmps := T x, defers := d } w K Q else K (Act.put { tmps := T x, defers := d } o.dst undef) w) : ExFrom P ops Q T d W Pb vals b k [o] :=
 steps_last fun L x w _ _ hw hR K hK => h x w hw hR K hK
/-- THE REGION: apply it; T and the values come by unification -/
theorem wp_region_ex {id : Nat} {act : Act} {w : World} (slots : List Nat) (vals : List Value) (b : Nat) (Pb : Value → World → Prop) (hPb : ∀ v w w', Below w.heap.size w w' → Pb v w → Pb v w') (hm : P.follows .mixedOrders = true) (hT : ∀ y, setAll act.tmps slots 0 y = T y) (hok : goodOrder ops = true) (hn : 0 < ops.size)
  (hs : ExFrom P ops Q T act.defers w Pb vals b 0 ops.toList) : (Code.region id ops true).wp P Q act w := by
 refine wp_region_by hm T (ExR Pb vals b) (fun _ v => Below w.heap.size w v) (fun _ v v' => Below v.heap.size v v') hok hn ?_ (fun j => act.tmps.getD (slots.getD j 0) undef) ?_ (fun _ _ => (Below.refl _ _).drew) hs
 ·intro i j L v u u' _ _ _ _ hle hR
  unfold ExR at hR ⊢
  split at hR
  ·rename_i hj
   rw [if_pos hj]
   exact hPb _ _ _ hle hR
  ·rename_i hj
   rw [if_neg hj]; exact hR
 ·rw [← hT, setAll_self]
  intro j s hj
  simp [List.getD, hj]
end
end Go.Proofs.YteaincdeoajkeaaGreatDoor.Ut
end
section
/- Package shadow: Get. -/
namespace Go.Proofs.YteaincdeoajkeaaGreatDoor.Sw
open Go.RowKit Ut
set_option maxRecDepth 100000
set_option linter.unusedVariables false
set_option maxHeartbeats 4000000

/-- a key's closure -/
def ClK (p q : Int) (v : Value) (W : World) : Prop := ∃ k, v = .func (.func 141) #[] #[.pointer (some ⟨k, 0, none⟩)] ∧ Blk W k 48 [.int .i64 p, .int .i64 q]
theorem ClK.more {p q : Int} {v : Value} {W W' : World} (h : ClK p q v W) (hb : Below W.heap.size W W') : ClK p q v W' := h.elim fun k h => ⟨k, h.1, h.2.more hb⟩
section
variable {W : World} {g : Nat} {m : Bool} {l : List Ln}
/-- what Get is to do behind the search -/
theorem shGet_any {v : Value} (p q : Int) (h : ThP W v l) (hv : l = [] ∨ ∃ g m, v = .pointer (some ⟨g, 0, none⟩) ∧ LS19 W g m l) :
  Calls Tryz.prog 74 #[v, .agg #[.int .i64 p, .int .i64 q]] W fun e w' => e = .returned (.tuple #[entW (entS (findS l p q)), .bool (findS l p q).isSome]) ∧ Below W.heap.size W w' := by
 obtain ⟨U, hU⟩ : ∃ U, U = (W.alloc (.cells #[.int .i64 p, .int .i64 q] 48)).alloc (.cells #[.int .i64 0, .int .i64 0, .int .i64 0] 50) := ⟨_, rfl⟩
 have hB : Below W.heap.size W U := by rw [hU]; exact ((Below.refl _ _).alloc (Nat.le_refl _) _).alloc (by simp) _
 have hk : Blk U W.heap.size 48 [.int .i64 p, .int .i64 q] := by rw [hU]; exact (Blk.new W _ [.int .i64 p, .int .i64 q]).more ((Below.refl _ _).alloc (Nat.le_refl _) _)
 have he : Blk U (W.heap.size + 1) 50 (entD (0, 0, 0)) := by
  have := Blk.new (W.alloc (.cells #[.int .i64 p, .int .i64 q] 48)) 50 (entD (0, 0, 0))
  rw [World.size_alloc] at this
  rw [hU]
  exact this
 obtain ⟨h32, a, c, hth, hrow⟩ := h.more hB
 obtain ⟨z, hz⟩ := idx_ex (fun x => x.is p q) l
 have HU := Lib.hid hU
 have HB := Lib.hid hB
 have HK := Lib.hid hk
 have HE := Lib.hid he
 have HTH := Lib.hid hth
 have HV : Hid (l = [] ∨ ∃ g m, v = .pointer (some ⟨g, 0, none⟩) ∧ LS19 U g m l) := Lib.hid (hv.imp_right fun ⟨g, m, h1, h2⟩ => ⟨g, m, h1, h2.more hB⟩)
 have HIX : Hid (∀ V (k : Nat), Below U.heap.size U V → Blk V k 48 [.int .i64 p, .int .i64 q] → Calls Tryz.prog 116 #[.slice a l.length c, .func (.func 141) #[] #[.pointer (some ⟨k, 0, none⟩)]] V fun e w' => e = .returned (.int .i64 z) ∧ Below V.heap.size V w') := Lib.hid fun V k hb hk =>
  (indexFunc19 a c (IRow.more hrow hb) (by omega) (isL_key p q k hk (by simp))).mono fun e w' ⟨⟨z', h1, h2⟩, h3⟩ => ⟨by rw [idx_one hz h2]; exact h1, h3⟩
 have HZ := Lib.hid hz
 have HSet : Hid (∀ (X : World) (j : Nat) (v : Value), Below W.heap.size W X → Below W.heap.size W (X.setCell ⟨W.heap.size + 1, j, none⟩ v)) := Lib.hid fun X j v h => h.setCell (p := ⟨W.heap.size + 1, j, none⟩) (by simp) _
 have k0 := hk.cell (j := 0) rfl
 have k1 := hk.cell (j := 1) rfl
 have kl := hk.lt
 clear hU hB hk he h hth hrow hz h32 hv
 generalize l.length = n at HTH HIX
 go_enter Tryz.func74, Tryz.ntmps74
 go_upto_region 1 with fail
 rw [← HU.out]
 clear HU
 apply wp_region_ex [7, 8, 9, 10, 11] [_, _, _, undef, _] 3 (ClK p q) (fun v W1 W2 hb h => h.more hb)
 case hm => kernel_rfl
 case hT => intro y; simp only [setAll, List.setIfInBounds_toArray, List.set_cons_succ, List.set_cons_zero]; exact rfl
 case hok => kernel_rfl
 case hn => decide
 case hs =>
  refine ex_op 7 [] (by kernel_rfl) (by decide) (fun y w' HW hd K hK => ?_) ?_
  ·go_simp
   refine hK _ _ ?_ ?_ (Below.refl _ _)
   ·simp [upd]
   ·exact rfl
  refine ex_op 8 [0] (by kernel_rfl) (by decide) (fun y w' HW hd K hK => ?_) ?_
  ·have e0 := exR_nth (hd 0 (by simp)) (by decide) rfl
   go_simp
   refine (HTH.out _ HW).mono ?_
   rintro e w3 ⟨rfl, hb3⟩
   refine hK _ _ ?_ ?_ hb3
   ·simp [upd, e0]
   ·exact rfl
  refine ex_op 9 [] (by kernel_rfl) (by decide) (fun y w' HW hd K hK => ?_) ?_
  ·have hcl : ∀ p : Addr, p.block < U.heap.size → w'.cell? p = U.cell? p := fun p hp => HW.cell hp
   go_simp
   refine hK _ _ ?_ ?_ (Below.refl _ _)
   ·simp [upd]
   ·exact rfl
  refine ex_one 10 [2, 1] (by kernel_rfl) rfl (fun y w' HW hd K hK => ?_) ?_
  ·have e1 := exR_nth (hd 1 (by simp)) (by decide) rfl
   have e2 := exR_nth (hd 2 (by simp)) (by decide) rfl
   go_simp
   refine (hasKey19_any p q _).mono ?_
   rintro e w3 ⟨rfl, hk3, hb3⟩
   have hP : ClK p q (.func (.func 141) #[] #[.pointer (some ⟨w'.heap.size, 0, none⟩)]) w3 := ⟨_, rfl, hk3⟩
   refine hK _ _ ?_ ?_ hb3
   ·simp [upd, e1, e2]
   ·exact hP
  refine ex_op 11 [1, 3, 3] (by kernel_rfl) (by decide) (fun y w' HW hd K hK => ?_) ?_
  ·have e1 := exR_nth (hd 1 (by simp)) (by decide) rfl
   have eP := exR_b (hd 3 (by simp))
   obtain ⟨k9, e3, hr5⟩ := eP
   go_simp
   refine (HIX.out _ k9 HW hr5).mono ?_
   rintro e w3 ⟨rfl, hb3⟩
   refine hK _ _ ?_ ?_ hb3
   ·simp [upd, e1, e3]
   ·exact rfl
  refine ex_last fun y w' HW hd K hK => ?_
  have e0 := exR_nth (hd 0 (by omega)) (by decide) rfl
  have e1 := exR_nth (hd 1 (by omega)) (by decide) rfl
  have e2 := exR_nth (hd 2 (by omega)) (by decide) rfl
  have e4 := exR_nth (hd 4 (by omega)) (by decide) rfl
  go_simp
  refine hK _ _ ?_
  clear hd hK K e0 e1 e2 e4
  have HW9 := Lib.hid HW
  have HB9 := Lib.hid (HB.out.trans (HW.mono HB.out.size))
  clear HW HTH HIX k0 k1 kl
  have q0 := HE.out.more HW9.out
  have r0 := q0.cell (j := 0) rfl
  have r1 := q0.cell (j := 1) rfl
  have r2 := q0.cell (j := 2) rfl
  have f3 := q0.frozen 0
  have f4 := q0.frozen 1
  have f5 := q0.frozen 2
  have hlt := q0.lt
  clear q0
  rcases HZ.out with ⟨i, x, rfl, hx, hp, hno⟩ | ⟨rfl, hno⟩
  ·have HF := Lib.hid (foundS hno hx hp)
   have hil := (List.getElem?_eq_some_iff.1 hx).1
   rcases HV.out with rfl | ⟨g, m, rfl, hl⟩
   ·simp at hx
   have h32 := hl.len
   have t0 : (0 : Int) ≤ (i : Int) := by omega
   have t1 : ¬ (i : Int) < 0 := by omega
   have t2 : (i : Int) < 32 := by omega
   obtain ⟨zz, hrs⟩ := hl.more HW9.out
   obtain ⟨c0, c1, c2, c3, c4, c5, c6⟩ := hrs.cells (i := i) (x := x) (by rw [List.getElem?_append_left hil]; exact hx)
   have gl := hrs.lt
   clear hno hx hp hil hl h32 hrs HV HZ c0 c1 c5 c6
   obtain ⟨kr, kp, ep, ef, er, rt, lf⟩ := x
   dsimp only at c2 c3 c4
   go_wp2
   exact bodyPost_ret (v := .tuple #[entW (ep, ef, er), .bool true]) (by simp [results, Tryz.results74, go_sem, r0, r1, r2, entW]) rfl ⟨by rw [HF.out]; rfl, by (repeat (first | refine HSet.out _ _ _ ?_)); exact HB9.out⟩
  ·have HF := Lib.hid (absentS hno)
   clear hno HV HZ
   go_wp2
   exact bodyPost_ret (v := .tuple #[entW (0, 0, 0), .bool false]) (by simp [results, Tryz.results74, go_sem, r0, r1, r2, entW]) rfl ⟨by rw [HF.out]; rfl, by (repeat (first | refine HSet.out _ _ _ ?_)); exact HB9.out⟩
end
end Go.Proofs.YteaincdeoajkeaaGreatDoor.Sw
end
