/- Package pool: container/heap's Push and Pop over pool.lowest; first. -/
import Derived.Test.YthabilokbfieiaaKc
namespace Go.Proofs.Ythabilokbfieiaa.Lo
open Go.RowKit Ut Hp
set_option linter.unusedVariables false
set_option maxRecDepth 100000

theorem heapPush_any (ab ao : Nat) (l : List Int) (x : Int) (W : World) (h : HB W ab ao l) (hl : l.length < 32) :
    Calls Try.prog 40 #[.iface 80 (.pointer (some ⟨ab, ao, none⟩)), .iface 3 (.int .i64 x)] W fun e W' => e = .returned (.tuple #[]) ∧ HB W' ab ao (pushL l x) ∧ Trn W W' ab ao := by
  have HH := Lib.hid h
  have hmP := fun q => method_push ⟨ab, ao, none⟩ q W
  have HL := Lib.hid hl
  clear h hl
  go_enter Try.func40, Try.ntmps40
  go_wp2_with fail
  refine (push_any ab ao l x W HH.out HL.out).mono ?_
  rintro e w2 ⟨rfl, h2, t2⟩
  have H2 := Lib.hid h2
  have T2 := Lib.hid t2
  have hlen : (l ++ [x]).length = l.length + 1 := by simp
  have HLEN := Lib.hid hlen
  have hmL := fun q => method_len ⟨ab, ao, none⟩ q w2
  have d0 : wrap64 (l.length : Int) = (l.length : Int) := IntWalk.wrap64_in _ (by have := HL.out; omega)
  clear h2 t2 hmP
  go_wp2_with fail
  refine (len_any ab ao _ w2 H2.out).mono ?_
  rintro e w4 ⟨rfl, rfl⟩
  rw [hlen]
  clear hlen
  generalize hn : l.length = n at *
  go_wp2_with fail
  refine (up_any ab ao (n + 1) n (l ++ [x]) w2 H2.out HLEN.out (Nat.lt_succ_self n)).mono ?_
  rintro e w5 ⟨rfl, h5, t5⟩
  have HF : Hid (HB w5 ab ao (pushL l x)) := by unfold pushL; rw [hn]; exact h5
  have HT := Lib.hid (T2.out.trans t5)
  clear h5 t5 hmL
  go_wp2
  go_end0
  exact ⟨rfl, HF.out, HT.out⟩

theorem heapPop_any (ab ao m : Nat) (l : List Int) (W : World) (hh : HeapL l l.length) (hlen : l.length = m + 1) (h : HB W ab ao l) :
    Calls Try.prog 41 #[.iface 80 (.pointer (some ⟨ab, ao, none⟩))] W fun e W' => e = .returned (.iface 3 (.int .i64 (l.getD 0 0))) ∧
      ∃ r, popL l = r ++ [l.getD 0 0] ∧ r.length = m ∧ HB W' ab ao r ∧ Trn W W' ab ao := by
  have HH := Lib.hid h
  obtain ⟨r, hr1, hr2, _⟩ := pop_parts (show 0 < l.length by omega) hh
  have hmL := fun q => method_len ⟨ab, ao, none⟩ q W
  have d0 : wrap64 (m : Int) = (m : Int) := IntWalk.wrap64_in _ (by have := h.1; omega)
  have HR1 := Lib.hid hr1
  have HR2 := Lib.hid (show r.length = m by omega)
  have HLN := Lib.hid hlen
  clear h hr1 hr2 hlen hh
  go_enter Try.func41, Try.ntmps41
  go_wp2_with fail
  refine (len_any ab ao l W HH.out).mono ?_
  rintro e w1 ⟨rfl, rfl⟩
  rw [HLN.out]
  have hmS := fun q => method_swap ⟨ab, ao, none⟩ q W
  clear hmL
  go_wp2_with fail
  refine (swap_any ab ao 0 m l W HH.out (by rw [HLN.out]; exact Nat.succ_pos m) (by rw [HLN.out]; exact Nat.lt_succ_self m)).mono ?_
  rintro e w2 ⟨rfl, h2, t2⟩
  have H2 := Lib.hid h2
  have T2 := Lib.hid t2
  clear h2 t2 hmS
  go_wp2_with fail
  refine (down_any ab ao (m + 1) 0 m (swapL l 0 m) w2 H2.out ((length_swapL _ _ _).trans HLN.out) (Nat.le_succ m) (Nat.zero_le m)).mono ?_
  rintro e w3 ⟨⟨b, rfl⟩, h3, t3⟩
  have hpl : downL (swapL l 0 m) 0 m = r ++ [l.getD 0 0] := by
    have := HR1.out
    unfold popL at this
    rwa [HLN.out, Nat.add_sub_cancel] at this
  rw [hpl] at h3
  have H3 := Lib.hid h3
  have T3 := Lib.hid (T2.out.trans t3)
  have hmP := fun q => method_pop ⟨ab, ao, none⟩ q w3
  clear h3 t3 hpl
  go_wp2_with fail
  refine (pop_any ab ao r (l.getD 0 0) w3 H3.out).mono ?_
  rintro e w4 ⟨rfl, h4, t4⟩
  have H4 := Lib.hid h4
  have T4 := Lib.hid (T3.out.trans t4)
  clear h4 t4 hmP
  go_wp2
  go_ret
  exact ⟨rfl, r, HR1.out, HR2.out, H4.out, T4.out⟩

/-- first, of a heap with nothing in it -/
theorem first_none (ab ao : Nat) (W : World) (h : HB W ab ao []) :
    Calls Try.prog 33 #[.pointer (some ⟨ab, ao, none⟩)] W fun e W' => e = .returned (.tuple #[.int .i64 0, .bool false]) ∧ W = W' := by
  have h0 : W.cell? ⟨ab, ao, none⟩ = some (.int .i64 0) := h.cell0
  clear h
  go_enter Try.func33, Try.ntmps33
  go_wp2
  go_ret2
  exact ⟨rfl, rfl⟩

theorem first_some (ab ao m : Nat) (l : List Int) (W : World) (hh : HeapL l l.length) (hlen : l.length = m + 1) (h : HB W ab ao l) :
    Calls Try.prog 33 #[.pointer (some ⟨ab, ao, none⟩)] W fun e W' => e = .returned (.tuple #[.int .i64 (l.getD 0 0), .bool true]) ∧
      ∃ r, popL l = r ++ [l.getD 0 0] ∧ r.length = m ∧ HB W' ab ao r ∧ Trn W W' ab ao := by
  have h0 := h.cell0
  rw [hlen] at h0
  have f0 : (((m + 1 : Nat) : Int) == 0) = false := by simp; omega
  have HH := Lib.hid h
  have HHH := Lib.hid hh
  have HLN := Lib.hid hlen
  clear h hh hlen
  obtain ⟨x, hx⟩ : ∃ x, l.getD 0 0 = x := ⟨_, rfl⟩
  have HX := Lib.hid hx
  rw [hx]
  clear hx
  go_enter Try.func33, Try.ntmps33
  go_wp2_with fail
  refine (heapPop_any ab ao m l W HHH.out HLN.out HH.out).mono ?_
  rw [HX.out]
  rintro e w1 ⟨rfl, hr⟩
  have HR := Lib.hid hr
  clear hr
  have hta := assert_int x
  go_wp2
  go_ret2
  exact ⟨rfl, HR.out⟩
end Go.Proofs.Ythabilokbfieiaa.Lo
