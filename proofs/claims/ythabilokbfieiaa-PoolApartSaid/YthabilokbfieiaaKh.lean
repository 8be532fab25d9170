/- Package pool: Take, Who, Taken, Left. -/
import Derived.Test.YthabilokbfieiaaKg
namespace Go.Proofs.Ythabilokbfieiaa.Lo
open Go.RowKit Ut Hp Fr
set_option linter.unusedVariables false
set_option maxRecDepth 100000

theorem take_zero (p : Option Addr) (who z : Int) (w : World) (hz : z = 1 ∨ z = 7) (hF : Calls Try.prog 30 #[.pointer p, .int .i64 who] w fun e w' => e = .returned (.tuple #[.pointer none, .int .i64 z]) ∧ w = w') :
    Calls Try.prog 14 #[.pointer p, .int .i64 who] w fun e w' => e = .returned (.tuple #[.int .i64 0, .int .i64 z]) ∧ w = w' := by
  have hz0 : (z == 0) = false := by rcases hz with rfl | rfl <;> rfl
  clear hz
  go_enter Try.func14, Try.ntmps14
  go_wp2_with fail
  refine hF.mono ?_
  rintro e w' ⟨rfl, rfl⟩
  go_wp2
  go_ret2
  exact ⟨rfl, rfl⟩

theorem take_none (pb b n who : Nat) (s : PS) (W : World) (h : PB W pb b n s) (hw : who < 16) (hno : ∀ k, k < n → hit s who k = false) :
    Calls Try.prog 14 #[.pointer (some ⟨pb, 0, none⟩), .int .i64 who] W fun e W' => e = .returned (.tuple #[.int .i64 0, .int .i64 2]) ∧ W = W' := by
  have h0 := h.1.cell0
  obtain ⟨l, hl1, hl2, hl3⟩ := h.1.heap who hw
  rw [none_those hno] at hl3
  obtain rfl : l = [] := List.perm_nil.1 hl3
  have HL := Lib.hid hl1
  have HW := Lib.hid hw
  clear h hl1 hl2 hl3 hno hw
  go_enter Try.func14, Try.ntmps14
  go_wp2_with fail
  refine (leftOf_in pb b who W h0 HW.out).mono ?_
  rintro e w1 ⟨rfl, rfl⟩
  go_wp2_with fail
  refine (first_none pb _ W HL.out).mono ?_
  rintro e w1 ⟨rfl, rfl⟩
  go_wp2
  go_ret2
  exact ⟨rfl, rfl⟩

theorem take_some (pb b n f who : Nat) (L : List Int) (s : PS) (W : World) (hS : St W b n L) (h : PB W pb b n s) (hne : b ≠ pb) (hf : f < n) (hw : who < 16) (hh : hit s who f = true) (hle : ∀ k, k < f → hit s who k = false) :
    Calls Try.prog 14 #[.pointer (some ⟨pb, 0, none⟩), .int .i64 who] W fun e W' =>
      e = .returned (.tuple #[.int .i64 f, .int .i64 0]) ∧ St W' b n (layF L f zer) ∧ PB W' pb b n (tkS s f true) ∧ Two W W' b pb := by
  have h0 := h.1.cell0
  have hn := h.1.1
  obtain ⟨l, hl1, hl2, hl3⟩ := h.1.heap who hw
  have hpos : 0 < l.length := by
    rcases Nat.eq_zero_or_pos l.length with e | e
    · have := empty_those hl3 e f hf
      rw [hh] at this; cases this
    · exact e
  obtain ⟨f', e1, e2, e3, e4, r, r1, r2, r3, r4⟩ := pop_those (q := hit (tkS s f true) who) hpos hl2 hl3
  obtain rfl : f' = f := by
    rcases Nat.lt_trichotomy f' f with q | q | q
    · rw [hle _ q] at e3; cases e3
    · exact q
    · rw [e4 _ q] at hh; cases hh
  have hr := r4 (by simp [hit, tkS]) (fun k hk => by simp [hit, tkS, hk])
  have hoth : ∀ v, v ≠ who → ∀ k, k < n → hit (tkS s f' true) v k = hit s v k := by
    intro v hv k _
    by_cases e : k = f'
    · subst e
      have : s.wh k = who := by simp [hit] at hh; exact hh.2
      simp [hit, tkS, this, show ¬ who = v from fun q => hv q.symm]
    · simp [hit, tkS, e]
  have HP := Lib.hid h
  have HS := Lib.hid hS
  have HF := Lib.hid hf
  have HNE := Lib.hid hne
  have HN := Lib.hid hn
  have HW := Lib.hid hw
  have HL1 := Lib.hid hl1
  have HL2 := Lib.hid hl2
  have HR := Lib.hid (And.intro r1 (And.intro r2 (And.intro r3 hr)))
  have HOTH := Lib.hid hoth
  have HH := Lib.hid hh
  obtain ⟨m, hm⟩ : ∃ m, l.length = m + 1 := ⟨l.length - 1, by omega⟩
  have HM := Lib.hid hm
  have HE := Lib.hid e1
  have d1 : (0 : Int) ≤ (f' : Int) ∧ (f' : Int) < 32 := by omega
  clear h hS hf hne hn hw hl1 hl2 hl3 hpos e1 e2 e3 e4 r1 r2 r3 r4 hr hoth hh hle hm
  go_enter Try.func14, Try.ntmps14
  go_wp2_with fail
  refine (leftOf_in pb b who W h0 HW.out).mono ?_
  rintro e w1 ⟨rfl, rfl⟩
  go_wp2_with fail
  refine (first_some pb _ m l W HL2.out HM.out HL1.out).mono ?_
  rw [HE.out]
  rintro e w1 ⟨rfl, r', q1, q2, q3, q4⟩
  obtain rfl : r' = r := by
    have := q1.symm.trans HR.out.1
    exact List.append_cancel_right this
  have H1 := Lib.hid (HP.out.1.turn (p' := hit (tkS s f' true)) HW.out q4 q3 HR.out.2.2.1 HR.out.2.2.2 HOTH.out)
  have HS1 : Hid (St w1 b n L) := HS.out.of_block (q4.other b HS.out.lt HNE.out)
  have HT1 := Lib.hid (Two.of_trn (b := b) q4)
  have c0 := H1.out.cell0
  clear q1 q2 q3 q4 h0
  go_wp2_with fail
  refine (clear_in b n f' L w1 HS1.out HF.out).mono ?_
  rintro e w2 ⟨rfl, hS2, hg2⟩
  have H2 := Lib.hid (H1.out.grown hg2 HNE.out)
  have HS2 := Lib.hid hS2
  have HT2 := Lib.hid (HT1.out.trans (Two.of_grown (pb := pb) hg2))
  have c2 := H2.out.cellT f' (by have := HF.out; have := HN.out; omega)
  have f2 := H2.out.frz (1 + f' * 3 + 1)
  have H3 := Lib.hid (H2.out.setT f' (by have := HF.out; have := HN.out; omega) true)
  have HT3 := Lib.hid (HT2.out.trans (Two.set w2 b pb (1 + f' * 3 + 1) (.bool true)))
  have HS3 : Hid (St (w2.setCell ⟨pb, 1 + f' * 3 + 1, none⟩ (.bool true)) b n (layF L f' zer)) := HS2.out.of_block (Below.heap_setCell _ _ _ _ HNE.out)
  have HF3 : Hid (PB (w2.setCell ⟨pb, 1 + f' * 3 + 1, none⟩ (.bool true)) pb b n (tkS s f' true)) := by
    refine ⟨H3.out, fun k => HP.out.2.1 k, fun k hk => ?_⟩
    by_cases e : k = f'
    · subst e
      have := HH.out
      simp [hit] at this
      exact this.1.1
    · simp only [tkS, e, if_false] at hk; exact HP.out.2.2 k hk
  clear hS2 hg2 c0 H1 HS1 HT1 HT2
  go_wp2
  go_ret2
  exact ⟨rfl, HS3.out, HF3.out, HT3.out⟩

theorem who_zero (p : Option Addr) (f z : Int) (w : World) (hz : z = 1 ∨ z = 7) (hF : Calls Try.prog 29 #[.pointer p, .int .i64 f] w fun e w' => e = .returned (.tuple #[.pointer none, .int .i64 z]) ∧ w = w') :
    Calls Try.prog 20 #[.pointer p, .int .i64 f] w fun e w' => e = .returned (.tuple #[.int .i64 0, .bool false]) ∧ w = w' := by
  have hz1 : (z != 0) = true := by rcases hz with rfl | rfl <;> rfl
  have hz0 : (z == 0) = false := by rcases hz with rfl | rfl <;> rfl
  clear hz
  go_enter Try.func20, Try.ntmps20
  go_wp2_with fail
  refine hF.mono ?_
  rintro e w' ⟨rfl, rfl⟩
  go_wp2
  go_ret2
  exact ⟨rfl, rfl⟩
theorem who_of (pb b n f : Nat) (s : PS) (W : World) (hL : W.cell? ⟨b, 1, none⟩ = some (.int .i64 n)) (h : PB W pb b n s) (hf : f < n) (ho : s.ow f = true) :
    Calls Try.prog 20 #[.pointer (some ⟨pb, 0, none⟩), .int .i64 f] W fun e W' => e = .returned (.tuple #[.int .i64 (s.wh f), .bool true]) ∧ W = W' := by
  have h0 := h.1.cell0
  have hn := h.1.1
  have c1 := h.1.cellO f (by omega)
  have c2 := h.1.cellW f (by omega)
  rw [ho] at c1
  have HF := Lib.hid hf
  have HN := Lib.hid hn
  have HL := Lib.hid hL
  clear h hf hn ho hL
  go_enter Try.func20, Try.ntmps20
  go_wp2_with fail
  refine (find_in pb b n f W h0 HL.out HF.out HN.out).mono ?_
  rintro e w1 ⟨rfl, rfl⟩
  go_wp2
  go_ret2
  exact ⟨rfl, rfl⟩

theorem taken_zero (p : Option Addr) (f z : Int) (w : World) (hz : z = 1 ∨ z = 7) (hF : Calls Try.prog 29 #[.pointer p, .int .i64 f] w fun e w' => e = .returned (.tuple #[.pointer none, .int .i64 z]) ∧ w = w') :
    Calls Try.prog 28 #[.pointer p, .int .i64 f] w fun e w' => e = .returned (.bool false) ∧ w = w' := by
  have hz0 : (z == 0) = false := by rcases hz with rfl | rfl <;> rfl
  clear hz
  go_enter Try.func28, Try.ntmps28
  go_wp2_with fail
  refine hF.mono ?_
  rintro e w' ⟨rfl, rfl⟩
  go_wp2
  go_ret
  exact ⟨rfl, rfl⟩
theorem taken_of (pb b n f : Nat) (s : PS) (W : World) (hL : W.cell? ⟨b, 1, none⟩ = some (.int .i64 n)) (h : PB W pb b n s) (hf : f < n) :
    Calls Try.prog 28 #[.pointer (some ⟨pb, 0, none⟩), .int .i64 f] W fun e W' => e = .returned (.bool (s.tk f)) ∧ W = W' := by
  have h0 := h.1.cell0
  have hn := h.1.1
  have c1 := h.1.cellT f (by omega)
  have HF := Lib.hid hf
  have HN := Lib.hid hn
  have HL := Lib.hid hL
  clear h hf hn hL
  go_enter Try.func28, Try.ntmps28
  go_wp2_with fail
  refine (find_in pb b n f W h0 HL.out HF.out HN.out).mono ?_
  rintro e w1 ⟨rfl, rfl⟩
  go_wp2
  go_ret
  exact ⟨rfl, rfl⟩

theorem left_zero (p : Option Addr) (who z : Int) (w : World) (hz : z = 1 ∨ z = 7) (hF : Calls Try.prog 30 #[.pointer p, .int .i64 who] w fun e w' => e = .returned (.tuple #[.pointer none, .int .i64 z]) ∧ w = w') :
    Calls Try.prog 22 #[.pointer p, .int .i64 who] w fun e w' => e = .returned (.int .i64 0) ∧ w = w' := by
  have hz0 : (z == 0) = false := by rcases hz with rfl | rfl <;> rfl
  clear hz
  go_enter Try.func22, Try.ntmps22
  go_wp2_with fail
  refine hF.mono ?_
  rintro e w' ⟨rfl, rfl⟩
  go_wp2
  go_ret
  exact ⟨rfl, rfl⟩
theorem left_of (pb b n who : Nat) (s : PS) (W : World) (h : PB W pb b n s) (hw : who < 16) :
    Calls Try.prog 22 #[.pointer (some ⟨pb, 0, none⟩), .int .i64 who] W fun e W' => e = .returned (.int .i64 (countN (hit s who) n)) ∧ W = W' := by
  have h0 := h.1.cell0
  obtain ⟨l, hl1, hl2, hl3⟩ := h.1.heap who hw
  have hlen := hl3.length_eq
  rw [length_those] at hlen
  rw [← hlen]
  have HL := Lib.hid hl1
  have HW := Lib.hid hw
  clear h hl1 hl2 hl3 hlen hw
  go_enter Try.func22, Try.ntmps22
  go_wp2_with fail
  refine (leftOf_in pb b who W h0 HW.out).mono ?_
  rintro e w1 ⟨rfl, rfl⟩
  go_wp2_with fail
  refine (len_any pb _ l W HL.out).mono ?_
  rintro e w1 ⟨rfl, rfl⟩
  go_wp2
  go_ret
  exact ⟨rfl, rfl⟩
end Go.Proofs.Ythabilokbfieiaa.Lo
