/- Package pool: leave, Own, Back. -/
import Derived.Test.YthabilokbfieiaaKf
import Derived.StillTailTactics
namespace Go.Proofs.Ythabilokbfieiaa.Lo
open Go.RowKit Ut Hp Fr
set_option linter.unusedVariables false
set_option maxRecDepth 100000

theorem room_those {l : List Int} {p : Nat → Bool} {n f : Nat} (hp : l.Perm (those p n)) (hf : f < n) (h : p f = false) : l.length < n := by
  have h1 := (those_add n f hf p (fun k => if k = f then true else p k) h (by simp) (fun k hk => by simp [hk])).length_eq
  have h2 : (those (fun k => if k = f then true else p k) n).length ≤ n := by
    unfold those
    rw [List.length_map]
    exact Nat.le_trans (List.length_filter_le _ _) (by simp)
  have h3 := hp.length_eq
  simp only [List.length_cons] at h1
  omega
/-- frame f is in who's heap, too -/
def addP (p : Nat → Nat → Bool) (who f : Nat) : Nat → Nat → Bool := fun v k => if v = who ∧ k = f then true else p v k

theorem leave_any (pb b n f who : Nat) (L : List Int) (s : PS) (p : Nat → Nat → Bool) (W : World) (hS : St W b n L) (h : PC W pb b n s p) (hne : b ≠ pb) (hf : f < n) (hwh : s.wh f = who) (hw : who < 16) (hpf : p who f = false) :
    Calls Try.prog 31 #[.pointer (some ⟨pb, 0, none⟩), .int .i64 f] W fun e W' => e = .returned (.tuple #[]) ∧ St W' b n (layF L f zer) ∧ PC W' pb b n s (addP p who f) ∧ Two W W' b pb := by
  have h0 := h.cell0
  have hn := h.1
  have HP := Lib.hid h
  have HS := Lib.hid hS
  have HF := Lib.hid hf
  have HNE := Lib.hid hne
  have HPF := Lib.hid hpf
  have d1 : (0 : Int) ≤ (f : Int) ∧ (f : Int) < 32 := by omega
  have d2 : (0 : Int) ≤ (who : Int) ∧ (who : Int) < 16 := by omega
  have HW := Lib.hid hw
  have HWH := Lib.hid hwh
  have HN := Lib.hid hn
  clear h hS hf hpf hw hwh hne hn
  go_enter Try.func31, Try.ntmps31
  go_wp2_with fail
  refine (clear_in b n f L W HS.out HF.out).mono ?_
  rintro e w1 ⟨rfl, hS1, hg1⟩
  have H1 := Lib.hid (HP.out.grown hg1 HNE.out)
  have HS1 := Lib.hid hS1
  have HT1 := Lib.hid (Two.of_grown (pb := pb) hg1)
  have c0 := H1.out.cellW f (by have := HF.out; have := HN.out; omega)
  rw [HWH.out] at c0
  clear hS1 hg1 h0
  go_upto_region 1 with fail
  go_still_tail 14, (by kernel_rfl)
  change wpList _ _ _ _ _ w1.drew
  have hbd : Below w1.heap.size w1 w1.drew := (Below.refl _ w1).drew
  have H2 := Lib.hid (H1.out.below hbd)
  have HS2 := Lib.hid (HS1.out.below hbd HS1.out.lt)
  have HT2 := Lib.hid (HT1.out.trans (Two.of_below (b := b) (pb := pb) hbd))
  clear hbd c0 H1 HS1 HT1
  generalize w1.drew = w2 at H2 HS2 HT2 ⊢
  obtain ⟨l, hl1, hl2, hl3⟩ := H2.out.heap who HW.out
  have HL1 := Lib.hid hl1
  have HL2 := Lib.hid hl2
  have HL3 := Lib.hid hl3
  clear hl1 hl2 hl3
  go_wp2_with fail
  refine (heapPush_any pb (97 + who * 33) l f w2 HL1.out (by have := room_those HL3.out HF.out HPF.out; have := HN.out; omega)).mono ?_
  rintro e w3 ⟨rfl, h3, t3⟩
  obtain ⟨q1, q2, q3⟩ := push_those (q := addP p who f who) HL2.out HL3.out HF.out HPF.out (by simp [addP]) (fun k hk => by simp [addP, hk])
  have H3 := Lib.hid (H2.out.turn (p' := addP p who f) HW.out t3 h3 q2 q3 (fun v hv k _ => by simp [addP, hv]))
  have HS3 : Hid (St w3 b n (layF L f zer)) := HS2.out.of_block (t3.other b HS2.out.lt HNE.out)
  have HT3 := Lib.hid (HT2.out.trans (Two.of_trn (b := b) t3))
  clear h3 t3 q1 q2 q3
  go_wp2
  go_end0
  exact ⟨rfl, HS3.out, H3.out, HT3.out⟩

theorem own_zero (p : Option Addr) (f who z : Int) (w : World) (hz : z = 1 ∨ z = 7) (hF : Calls Try.prog 29 #[.pointer p, .int .i64 f] w fun e w' => e = .returned (.tuple #[.pointer none, .int .i64 z]) ∧ w = w') :
    Calls Try.prog 12 #[.pointer p, .int .i64 f, .int .i64 who] w fun e w' => e = .returned (.int .i64 z) ∧ w = w' := by
  have hz0 : (z == 0) = false := by rcases hz with rfl | rfl <;> rfl
  clear hz
  go_enter Try.func12, Try.ntmps12
  go_wp2_with fail
  refine hF.mono ?_
  rintro e w' ⟨rfl, rfl⟩
  go_wp2
  go_ret
  exact ⟨rfl, rfl⟩

theorem own_ok (pb b n f who : Nat) (L : List Int) (s : PS) (W : World) (hS : St W b n L) (h : PB W pb b n s) (hne : b ≠ pb) (hf : f < n) (hw : who < 16) (ho : s.ow f = false) :
    Calls Try.prog 12 #[.pointer (some ⟨pb, 0, none⟩), .int .i64 f, .int .i64 who] W fun e W' => e = .returned (.int .i64 0) ∧ St W' b n (layF L f zer) ∧ PB W' pb b n (owS s f who) ∧ Two W W' b pb := by
  have h0 := h.1.cell0
  have hn := h.1.1
  have c1 := h.1.cellO f (by omega)
  have c2 := h.1.cellT f (by omega)
  have c3 := h.1.cellW f (by omega)
  have f1 := h.1.frz (1 + f * 3)
  have f2 := h.1.frz (1 + f * 3 + 1)
  have f3 := h.1.frz (1 + f * 3 + 2)
  rw [ho] at c1
  have HP := Lib.hid h
  have HS := Lib.hid hS
  have HF := Lib.hid hf
  have HNE := Lib.hid hne
  have HW := Lib.hid hw
  have HO := Lib.hid ho
  have HN := Lib.hid hn
  have HL := Lib.hid hS.cell1
  clear h hS hf hw hne hn ho
  go_enter Try.func12, Try.ntmps12
  go_wp2_with fail
  refine (find_in pb b n f W h0 HL.out HF.out HN.out).mono ?_
  rintro e w1 ⟨rfl, rfl⟩
  go_wp2_with fail
  refine (leftOf_in pb b who W h0 HW.out).mono ?_
  rintro e w1 ⟨rfl, rfl⟩
  go_wp2_with fail
  have HP2 := Lib.hid (HP.out.1.setH f who (by have := HF.out; have := HN.out; omega))
  have HT2 := Lib.hid (((Two.set W b pb (1 + f * 3) (.bool true)).trans (Two.set _ b pb (1 + f * 3 + 1) (.bool false))).trans (Two.set _ b pb (1 + f * 3 + 2) (.int .i64 who)))
  have HS2 : Hid (St (((W.setCell ⟨pb, 1 + f * 3, none⟩ (.bool true)).setCell ⟨pb, 1 + f * 3 + 1, none⟩ (.bool false)).setCell ⟨pb, 1 + f * 3 + 2, none⟩ (.int .i64 who)) b n L) := HS.out.of_block ((Below.heap_setCell _ _ _ _ HNE.out).trans ((Below.heap_setCell _ _ _ _ HNE.out).trans (Below.heap_setCell _ _ _ _ HNE.out)))
  generalize ((W.setCell ⟨pb, 1 + f * 3, none⟩ (.bool true)).setCell ⟨pb, 1 + f * 3 + 1, none⟩ (.bool false)).setCell ⟨pb, 1 + f * 3 + 2, none⟩ (.int .i64 who) = W2 at HP2 HT2 HS2 ⊢
  refine (leave_any pb b n f who L (owS s f who) (hit s) W2 HS2.out HP2.out HNE.out HF.out (by simp [owS]) HW.out (by simp [hit, HO.out])).mono ?_
  rintro e w3 ⟨rfl, hS3, hP3, hT3⟩
  have HF1 : Hid (PB w3 pb b n (owS s f who)) := by
    refine ⟨hP3.as fun v k => ?_, fun k => ?_, fun k hk => ?_⟩
    · by_cases e : k = f
      · subst e
        by_cases e2 : v = who
        · subst e2; simp [addP, hit, owS]
        · simp [addP, hit, owS, e2, HO.out, show ¬ who = v from fun q => e2 q.symm]
      · simp [addP, hit, owS, e]
    · by_cases e : k = f
      · subst e; simpa [owS] using HW.out
      · simpa [owS, e] using HP.out.2.1 k
    · by_cases e : k = f
      · subst e; simp [owS] at hk
      · simp only [owS, e, if_false] at hk ⊢; exact HP.out.2.2 k hk
  have HT3 := Lib.hid (HT2.out.trans hT3)
  have HS3 := Lib.hid hS3
  clear hS3 hP3 hT3 HP
  go_wp2
  go_ret
  exact ⟨rfl, HS3.out, HF1.out, HT3.out⟩

theorem back_ok (pb b n f : Nat) (L : List Int) (s : PS) (W : World) (hS : St W b n L) (h : PB W pb b n s) (hne : b ≠ pb) (hf : f < n) (ho : s.tk f = true) :
    Calls Try.prog 16 #[.pointer (some ⟨pb, 0, none⟩), .int .i64 f] W fun e W' => e = .returned (.int .i64 0) ∧ St W' b n (layF L f zer) ∧ PB W' pb b n (tkS s f false) ∧ Two W W' b pb := by
  have h0 := h.1.cell0
  have hn := h.1.1
  have c2 := h.1.cellT f (by omega)
  have f2 := h.1.frz (1 + f * 3 + 1)
  rw [ho] at c2
  have HP := Lib.hid h
  have HS := Lib.hid hS
  have HF := Lib.hid hf
  have HNE := Lib.hid hne
  have HO := Lib.hid ho
  have HN := Lib.hid hn
  have HL := Lib.hid hS.cell1
  clear h hS hf hne hn ho
  go_enter Try.func16, Try.ntmps16
  go_wp2_with fail
  refine (find_in pb b n f W h0 HL.out HF.out HN.out).mono ?_
  rintro e w1 ⟨rfl, rfl⟩
  go_wp2_with fail
  have HP2 := Lib.hid (HP.out.1.setT f (by have := HF.out; have := HN.out; omega) false)
  have HT2 := Lib.hid (Two.set W b pb (1 + f * 3 + 1) (.bool false))
  have HS2 : Hid (St (W.setCell ⟨pb, 1 + f * 3 + 1, none⟩ (.bool false)) b n L) := HS.out.of_block (Below.heap_setCell _ _ _ _ HNE.out)
  generalize W.setCell ⟨pb, 1 + f * 3 + 1, none⟩ (.bool false) = W2 at HP2 HT2 HS2 ⊢
  refine (leave_any pb b n f (s.wh f) L (tkS s f false) (hit s) W2 HS2.out HP2.out HNE.out HF.out (by simp [tkS]) (HP.out.2.1 f) (by simp [hit, HO.out])).mono ?_
  rintro e w3 ⟨rfl, hS3, hP3, hT3⟩
  have HF1 : Hid (PB w3 pb b n (tkS s f false)) := by
    refine ⟨hP3.as fun v k => ?_, fun k => HP.out.2.1 k, fun k hk => ?_⟩
    · by_cases e : k = f
      · subst e
        have how := HP.out.2.2 k HO.out
        by_cases e2 : v = s.wh k
        · subst e2; simp [addP, hit, tkS, how]
        · simp [addP, hit, tkS, e2, how, HO.out, show ¬ s.wh k = v from fun q => e2 q.symm]
      · simp [addP, hit, tkS, e]
    · by_cases e : k = f
      · subst e; simp [tkS] at hk
      · simp only [tkS, e, if_false] at hk; exact HP.out.2.2 k hk
  have HT3 := Lib.hid (HT2.out.trans hT3)
  have HS3 := Lib.hid hS3
  clear hS3 hP3 hT3 HP
  go_wp2
  go_ret
  exact ⟨rfl, HS3.out, HF1.out, HT3.out⟩

/-- Back of a frame that is not taken -/
theorem back_none (pb b n f : Nat) (s : PS) (W : World) (hL : W.cell? ⟨b, 1, none⟩ = some (.int .i64 n)) (h : PB W pb b n s) (hf : f < n) (ho : s.tk f = false) :
    Calls Try.prog 16 #[.pointer (some ⟨pb, 0, none⟩), .int .i64 f] W fun e W' => e = .returned (.int .i64 3) ∧ W = W' := by
  have h0 := h.1.cell0
  have hn := h.1.1
  have c2 := h.1.cellT f (by omega)
  rw [ho] at c2
  have HF := Lib.hid hf
  have HN := Lib.hid hn
  have HL := Lib.hid hL
  clear h hf hn ho hL
  go_enter Try.func16, Try.ntmps16
  go_wp2_with fail
  refine (find_in pb b n f W h0 HL.out HF.out HN.out).mono ?_
  rintro e w1 ⟨rfl, rfl⟩
  go_wp2
  go_ret
  exact ⟨rfl, rfl⟩
theorem back_zero (p : Option Addr) (f z : Int) (w : World) (hz : z = 1 ∨ z = 7) (hF : Calls Try.prog 29 #[.pointer p, .int .i64 f] w fun e w' => e = .returned (.tuple #[.pointer none, .int .i64 z]) ∧ w = w') :
    Calls Try.prog 16 #[.pointer p, .int .i64 f] w fun e w' => e = .returned (.int .i64 z) ∧ w = w' := by
  have hz0 : (z == 0) = false := by rcases hz with rfl | rfl <;> rfl
  clear hz
  go_enter Try.func16, Try.ntmps16
  go_wp2_with fail
  refine hF.mono ?_
  rintro e w' ⟨rfl, rfl⟩
  go_wp2
  go_ret
  exact ⟨rfl, rfl⟩
end Go.Proofs.Ythabilokbfieiaa.Lo
