/- Package pool: a heap of frames' numbers that lies in a block (pool.lowest): its five methods. -/
import Derived.Test.YthabilokbfieiaaRa
import Derived.Test.YthabilokbfieiaaHp
import Derived.Test.YthabilokbfieiaaVt
import Derived.Test.YthabilokbfieiaaWa
import Derived.BigQuiet
import Derived.Deep.QuietTactic
namespace Go.Proofs.Ythabilokbfieiaa.Lo
open Go.RowKit Ut Hp
set_option linter.unusedVariables false

/-- the heap at ⟨ab, ao⟩ holds the row l: how many, then the numbers, of which there is room for 32 -/
def HB (W : World) (ab ao : Nat) (l : List Int) : Prop :=
  l.length ≤ 32 ∧ ∃ cs t, W.heap[ab]? = some (.cells cs t (0, 0)) ∧ ao + 33 ≤ cs.size ∧ cs[ao]? = some (.int .i64 l.length) ∧ ∀ i, i < l.length → cs[ao + 1 + i]? = some (.int .i64 (l.getD i 0))

/-- what lies at ⟨ab, ao⟩ to ⟨ab, ao + 32⟩ may have turned; all else that was there is as it was -/
structure Trn (W W' : World) (ab ao : Nat) : Prop where
  os : W'.os = W.os
  tape : W'.tape = W.tape
  output : W'.output = W.output
  size : W.heap.size ≤ W'.heap.size
  other : ∀ q, q < W.heap.size → q ≠ ab → W'.heap[q]? = W.heap[q]?
  at_ : ∀ cs t, W.heap[ab]? = some (.cells cs t (0, 0)) → ∃ cs', W'.heap[ab]? = some (.cells cs' t (0, 0)) ∧ cs'.size = cs.size ∧ ∀ j, j < ao ∨ ao + 33 ≤ j → cs'[j]? = cs[j]?

section
variable {W W' W'' : World} {ab ao : Nat} {l : List Int}
theorem HB.lt (h : HB W ab ao l) : ab < W.heap.size := by
  obtain ⟨_, cs, t, h1, _⟩ := h
  exact (Array.getElem?_eq_some_iff.1 h1).1
theorem HB.of_block (h : HB W ab ao l) (e : W'.heap[ab]? = W.heap[ab]?) : HB W' ab ao l := by
  obtain ⟨h0, cs, t, h1, h2⟩ := h
  exact ⟨h0, cs, t, e.trans h1, h2⟩
theorem HB.below (h : HB W ab ao l) (hb : Below W.heap.size W W') : HB W' ab ao l := h.of_block (hb.block ab h.lt)
theorem HB.cell0 (h : HB W ab ao l) : W.cell? ⟨ab, ao, none⟩ = some (.int .i64 l.length) := by
  obtain ⟨_, cs, t, h1, _, h2, _⟩ := h
  simp [World.cell?, h1, h2]
theorem HB.cell (h : HB W ab ao l) (i : Nat) (hi : i < l.length) : W.cell? ⟨ab, ao + 1 + i, none⟩ = some (.int .i64 (l.getD i 0)) := by
  obtain ⟨_, cs, t, h1, _, _, h2⟩ := h
  simp [World.cell?, h1, h2 i hi]
theorem HB.room (h : HB W ab ao l) (i : Nat) (hi : i < 32) : ∃ v, W.cell? ⟨ab, ao + 1 + i, none⟩ = some v := by
  obtain ⟨_, cs, t, h1, h2, _⟩ := h
  exact ⟨cs[ao + 1 + i]'(by omega), by simp [World.cell?, h1, show ao + 1 + i < cs.size by omega]⟩
theorem HB.frz (h : HB W ab ao l) (i : Nat) : W.frozen? ⟨ab, i, none⟩ = false := by
  obtain ⟨_, cs, t, h1, _⟩ := h
  simp [World.frozen?, h1]
theorem Trn.refl (W : World) (ab ao : Nat) : Trn W W ab ao := ⟨rfl, rfl, rfl, Nat.le_refl _, fun _ _ _ => rfl, fun cs t h => ⟨cs, h, rfl, fun _ _ => rfl⟩⟩
theorem Trn.trans (h : Trn W W' ab ao) (k : Trn W' W'' ab ao) : Trn W W'' ab ao :=
  ⟨k.os.trans h.os, k.tape.trans h.tape, k.output.trans h.output, Nat.le_trans h.size k.size, fun q hq hne => (k.other q (Nat.lt_of_lt_of_le hq h.size) hne).trans (h.other q hq hne),
    fun cs t hc => by
      obtain ⟨c1, h1, h2, h3⟩ := h.at_ cs t hc
      obtain ⟨c2, k1, k2, k3⟩ := k.at_ c1 t h1
      exact ⟨c2, k1, k2.trans h2, fun j hj => (k3 j hj).trans (h3 j hj)⟩⟩
theorem Trn.of_below (hab : ab < W.heap.size) (hb : Below W.heap.size W W') : Trn W W' ab ao :=
  ⟨hb.os, hb.tape, hb.output, hb.size, fun q hq _ => hb.block q hq, fun cs t h => ⟨cs, (hb.block ab hab).trans h, rfl, fun _ _ => rfl⟩⟩
theorem Trn.set (W : World) (ab ao k : Nat) (hk : k < 33) (v : Value) : Trn W (W.setCell ⟨ab, ao + k, none⟩ v) ab ao :=
  ⟨rfl, rfl, rfl, by simp [World.setCell], fun q hq hne => Below.heap_setCell _ _ _ _ hne, fun cs t h => ⟨_, heap_setCell_same W ab (ao + k) cs t v h, by simp, fun j hj => by
    rw [Array.getElem?_setIfInBounds_ne (by omega)]⟩⟩
/-- a number in its place turns -/
theorem HB.put (h : HB W ab ao l) (i : Nat) (x : Int) (hi : i < l.length) : HB (W.setCell ⟨ab, ao + 1 + i, none⟩ (.int .i64 x)) ab ao (l.set i x) := by
  obtain ⟨h0, cs, t, h1, h2, h3, h4⟩ := h
  refine ⟨by simpa using h0, _, t, heap_setCell_same W ab (ao + 1 + i) cs t _ h1, by simpa using h2, ?_, ?_⟩
  · rw [Array.getElem?_setIfInBounds_ne (by omega), h3]; simp
  · intro j hj
    rw [List.length_set] at hj
    by_cases e : i = j
    · subst e
      rw [Array.getElem?_setIfInBounds_self_of_lt (by omega)]
      simp [List.getD, hj]
    · rw [Array.getElem?_setIfInBounds_ne (by omega), h4 j hj]
      simp [List.getD, List.getElem?_set_ne e]
/-- one more number behind the others -/
theorem HB.push (h : HB W ab ao l) (x : Int) (hl : l.length < 32) : HB ((W.setCell ⟨ab, ao + 1 + l.length, none⟩ (.int .i64 x)).setCell ⟨ab, ao, none⟩ (.int .i64 ((l.length : Int) + 1))) ab ao (l ++ [x]) := by
  obtain ⟨h0, cs, t, h1, h2, h3, h4⟩ := h
  refine ⟨by simp; omega, _, t, heap_setCell_same _ ab ao _ t _ (heap_setCell_same W ab (ao + 1 + l.length) cs t _ h1), by simpa using h2, ?_, ?_⟩
  · rw [Array.getElem?_setIfInBounds_self_of_lt (by simp; omega)]; simp
  · intro j hj
    rw [List.length_append, List.length_singleton] at hj
    rw [Array.getElem?_setIfInBounds_ne (by omega)]
    by_cases e : l.length = j
    · subst e
      rw [Array.getElem?_setIfInBounds_self_of_lt (by omega)]
      simp [List.getD]
    · rw [Array.getElem?_setIfInBounds_ne (by omega), h4 j (by omega)]
      simp [List.getD, List.getElem?_append_left (show j < l.length by omega)]
/-- the last number goes -/
theorem HB.pop {x : Int} (h : HB W ab ao (l ++ [x])) : HB (W.setCell ⟨ab, ao, none⟩ (.int .i64 l.length)) ab ao l := by
  obtain ⟨h0, cs, t, h1, h2, h3, h4⟩ := h
  rw [List.length_append, List.length_singleton] at h0 h4
  refine ⟨by omega, _, t, heap_setCell_same _ ab ao _ t _ h1, by simpa using h2, ?_, ?_⟩
  · rw [Array.getElem?_setIfInBounds_self_of_lt (by omega)]
  · intro j hj
    rw [Array.getElem?_setIfInBounds_ne (by omega), h4 j (by omega)]
    simp [List.getD, List.getElem?_append_left hj]
end

theorem len_any (ab ao : Nat) (l : List Int) (W : World) (h : HB W ab ao l) :
    Calls Try.prog 38 #[.pointer (some ⟨ab, ao, none⟩)] W fun e W' => e = .returned (.int .i64 l.length) ∧ W = W' := by
  have h0 := h.cell0
  clear h
  go_enter Try.func38, Try.ntmps38
  go_wp2
  go_ret
  exact ⟨rfl, rfl⟩

theorem less_any (ab ao i j : Nat) (l : List Int) (W : World) (h : HB W ab ao l) (hi : i < l.length) (hj : j < l.length) (r : Bool) (hr : r = decide (l.getD i 0 < l.getD j 0)) :
    Calls Try.prog 65 #[.pointer (some ⟨ab, ao, none⟩), .int .i64 i, .int .i64 j] W fun e W' => e = .returned (.bool r) ∧ Below W.heap.size W W' := by
  have c1 := h.cell i hi
  have c2 := h.cell j hj
  have hl := h.1
  have d1 : (0 : Int) ≤ (i : Int) ∧ (i : Int) < 32 := by omega
  have d2 : (0 : Int) ≤ (j : Int) ∧ (j : Int) < 32 := by omega
  have HB := Lib.hid ((Below.refl W.heap.size W).drew)
  subst hr
  generalize l.getD i 0 = x at c1 ⊢
  generalize l.getD j 0 = y at c2 ⊢
  clear h hi hj hl
  go_enter Try.func65, Try.ntmps65
  go_wp2
  go_region
  go_wp2
  go_ret
  exact ⟨rfl, HB.out⟩

theorem swap_any (ab ao i j : Nat) (l : List Int) (W : World) (h : HB W ab ao l) (hi : i < l.length) (hj : j < l.length) :
    Calls Try.prog 68 #[.pointer (some ⟨ab, ao, none⟩), .int .i64 i, .int .i64 j] W fun e W' => e = .returned (.tuple #[]) ∧ HB W' ab ao (swapL l i j) ∧ Trn W W' ab ao := by
  have c1 := h.cell i hi
  have c2 := h.cell j hj
  have f1 := h.frz (ao + 1 + i)
  have f2 := h.frz (ao + 1 + j)
  have hl := h.1
  have d1 : (0 : Int) ≤ (i : Int) ∧ (i : Int) < 32 := by omega
  have d2 : (0 : Int) ≤ (j : Int) ∧ (j : Int) < 32 := by omega
  have hi32 : i < 32 := by omega
  have hj32 : j < 32 := by omega
  have HO := Lib.hid h
  generalize hx : l.getD i 0 = x at c1
  generalize hy : l.getD j 0 = y at c2
  have hs : swapL l i j = (l.set i y).set j x := by unfold swapL; rw [hx, hy]
  have HS := Lib.hid ((h.put i y hi).put j x (by simpa using hj))
  have HT := Lib.hid ((Trn.set W ab ao (1 + i) (by omega) (.int .i64 y)).trans (Trn.set _ ab ao (1 + j) (by omega) (.int .i64 x)))
  rw [hs]
  rw [← Nat.add_assoc, ← Nat.add_assoc] at HT
  have c3 : (W.setCell ⟨ab, ao + 1 + i, none⟩ (.int .i64 y)).cell? ⟨ab, ao + 1 + j, none⟩ = some (.int .i64 ((l.set i y).getD j 0)) := (h.put i y hi).cell j (by simpa using hj)
  generalize (l.set i y).getD j 0 = z at c3
  clear h hx hy hs hi hj hl hi32 hj32
  go_enter Try.func68, Try.ntmps68
  go_wp2
  go_region
  go_wp2
  go_end0
  exact ⟨rfl, HS.out, HT.out.os, HT.out.tape, HT.out.output, HT.out.size, HT.out.other, HT.out.at_⟩

theorem assert_int (x : Int) (W : World) : (Instr.typeAssert (.iface 3 (.int .i64 x)) 20 3 true).run Try.prog W = .ok (.tuple #[.int .i64 x, .bool true]) W := by kernel_rfl

theorem push_any (ab ao : Nat) (l : List Int) (x : Int) (W : World) (h : HB W ab ao l) (hl : l.length < 32) :
    Calls Try.prog 67 #[.pointer (some ⟨ab, ao, none⟩), .iface 3 (.int .i64 x)] W fun e W' => e = .returned (.tuple #[]) ∧ HB W' ab ao (l ++ [x]) ∧ Trn W W' ab ao := by
  obtain ⟨u, c1⟩ := h.room l.length hl
  have c0 := h.cell0
  have f1 := h.frz (ao + 1 + l.length)
  have f0 := h.frz ao
  have HP := Lib.hid (h.push x hl)
  have HT := Lib.hid ((Trn.set W ab ao (1 + l.length) (by omega) (.int .i64 x)).trans (Trn.set _ ab ao 0 (by omega) (.int .i64 ((l.length : Int) + 1))))
  rw [← Nat.add_assoc, Nat.add_zero] at HT
  have c2 : (W.setCell ⟨ab, ao + 1 + l.length, none⟩ (.int .i64 x)).cell? ⟨ab, ao, none⟩ = some (.int .i64 l.length) := by
    rw [World.cell?_setCell_other]
    · exact c0
    · intro e; injection e with _ e; omega
  have d0 : wrap64 ((l.length : Int) + 1) = (l.length : Int) + 1 := IntWalk.wrap64_in _ (by omega)
  have d1 : (0 : Int) ≤ (l.length : Int) ∧ (l.length : Int) < 32 := by omega
  generalize l.length = n at *
  have hta := assert_int x
  clear h hl
  go_enter Try.func67, Try.ntmps67
  go_wp2
  go_region
  go_wp2
  go_end0
  exact ⟨rfl, HP.out, HT.out.os, HT.out.tape, HT.out.output, HT.out.size, HT.out.other, HT.out.at_⟩

theorem pop_any (ab ao : Nat) (l : List Int) (x : Int) (W : World) (h : HB W ab ao (l ++ [x])) :
    Calls Try.prog 66 #[.pointer (some ⟨ab, ao, none⟩)] W fun e W' => e = .returned (.iface 3 (.int .i64 x)) ∧ HB W' ab ao l ∧ Trn W W' ab ao := by
  have c0 := h.cell0
  have c1 := h.cell l.length (by simp)
  have f0 := h.frz ao
  have h32 := h.1
  rw [List.length_append, List.length_singleton] at c0 h32
  have ex : (l ++ [x]).getD l.length 0 = x := by simp [List.getD]
  rw [ex] at c1
  have HP := Lib.hid h.pop
  have HT := Lib.hid (Trn.set W ab ao 0 (by omega) (.int .i64 l.length))
  rw [Nat.add_zero] at HT
  have c2 : (W.setCell ⟨ab, ao, none⟩ (.int .i64 l.length)).cell? ⟨ab, ao + 1 + l.length, none⟩ = some (.int .i64 x) := by
    rw [World.cell?_setCell_other]
    · exact c1
    · intro e; injection e with _ e; omega
  have c3 : (W.setCell ⟨ab, ao, none⟩ (.int .i64 l.length)).cell? ⟨ab, ao, none⟩ = some (.int .i64 l.length) := World.cell?_setCell_same _ _ _ c0
  have e0 : ((l.length + 1 : Nat) : Int) - 1 = (l.length : Int) := by omega
  have d0 : wrap64 (l.length : Int) = (l.length : Int) := IntWalk.wrap64_in _ (by omega)
  have d1 : (0 : Int) ≤ (l.length : Int) ∧ (l.length : Int) < 32 := by omega
  generalize l.length = n at *
  clear h ex
  go_enter Try.func66, Try.ntmps66
  go_wp2
  go_region
  go_wp2
  go_ret
  exact ⟨rfl, HP.out, HT.out.os, HT.out.tape, HT.out.output, HT.out.size, HT.out.other, HT.out.at_⟩
end Go.Proofs.Ythabilokbfieiaa.Lo
