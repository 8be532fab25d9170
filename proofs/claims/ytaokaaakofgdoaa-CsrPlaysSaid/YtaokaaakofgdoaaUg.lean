/- The document's registers of the kernel's mode (hermitageref12): Enter, Leave, Mode. -/
import Derived.Test.YtaokaaakofgdoaaUf
namespace Go.Proofs.Ytaokaaakofgdoaa.Cs
open Go.RowKit Ut
set_option maxRecDepth 100000
set_option linter.unusedVariables false

theorem or3_u32 (x y z : Nat) (hx : x < 4294967296) (hy : y < 4294967296) (hz : z < 4294967296) : bits .or .u32 (bits .or .u32 (x : Int) (y : Int)) (z : Int) = ((x ||| y ||| z : Nat) : Int) := by
  rw [u32_or_nat x y hx hy, u32_or_nat (x ||| y) z (Nat.or_lt_two_pow (n := 32) hx hy) hz]
theorem ite_cast (q : Bool) (x : Nat) : (if q then ((x : Nat) : Int) else 0) = (((if q then x else 0 : Nat)) : Int) := by cases q <;> rfl

theorem refHas_at (b i k : Nat) (R : List Nat) (q : Bool) (hq : hasB (st R) k = q) (hk : k = 1 ∨ k = 2 ∨ k = 4 ∨ k = 8) : Hid (∀ W, RAt W b i R → Calls Try.prog 33 #[.pointer (some ⟨b, 0, none⟩), .int .u32 (k : Int)] W fun e w' => e = .returned (.bool q) ∧ W = w') := Lib.hid fun W h => by
  rw [← hq]
  exact refHas_any b i k R W h hk
theorem refBit_at (q : Bool) (x : Nat) (z : Int) (hz : (if q then ((x : Nat) : Int) else 0) = z) : Hid (∀ W, Calls Try.prog 32 #[.bool q, .int .u32 (x : Int)] W fun e w' => e = .returned (.int .u32 z) ∧ W = w') := Lib.hid fun W => by
  rw [← hz]
  exact refBit_any q x W

theorem refEnter_any (b i pc cause tval : Nat) (R : List Nat) (w : World) (h : RAt w b i R) (h1 : pc < 4294967296) (h2 : cause < 4294967296) (h3 : tval < 4294967296) :
    Calls Try.prog 12 #[.pointer (some ⟨b, 0, none⟩), .int .u32 (pc : Int), .int .u32 (cause : Int), .int .u32 (tval : Int)] w fun e w' => e = .returned (.int .u32 ((R.getD 1 0 : Nat) : Int)) ∧ RAt w' b i (entR R pc cause tval) ∧ w.grownBy w' (some b) := by
  have hE : (entR R pc cause tval).getD 1 0 = R.getD 1 0 := by
    unfold entR
    rw [List.getD_eq_getElem?_getD, List.getD_eq_getElem?_getD, List.getElem?_set_ne (by decide), List.getElem?_set_ne (by decide), List.getElem?_set_ne (by decide), List.getElem?_set_ne (by decide)]
  have hs := h.2.1.stat
  obtain ⟨R0, hR0⟩ : ∃ Q, ((R.set 2 pc).set 3 cause).set 4 tval = Q := ⟨_, rfl⟩
  have hs0 : st R0 = st R := by
    subst hR0
    unfold st
    rw [List.getD_eq_getElem?_getD, List.getD_eq_getElem?_getD, List.getElem?_set_ne (by decide), List.getElem?_set_ne (by decide), List.getElem?_set_ne (by decide)]
  have hL : R0.set 5 (enterS (st R)) = entR R pc cause tval := by rw [← hR0]; rfl
  obtain ⟨q1, hq1⟩ : ∃ q, hasB (st R0) 1 = q := ⟨_, rfl⟩
  obtain ⟨q2, hq2⟩ : ∃ q, hasB (st R0) 4 = q := ⟨_, rfl⟩
  obtain ⟨z1, hz1⟩ : ∃ z, (if q1 then ((2 : Nat) : Int) else 0) = z := ⟨_, rfl⟩
  obtain ⟨z2, hz2⟩ : ∃ z, (if q2 then ((8 : Nat) : Int) else 0) = z := ⟨_, rfl⟩
  obtain ⟨s1, hS⟩ : ∃ s, enterS (st R) = s := ⟨_, rfl⟩
  have hsl : s1 < 16 := by rw [← hS]; exact enterS_lt hs
  have e4 : bits .or .u32 (bits .or .u32 4 z1) z2 = (s1 : Int) := by
    rw [← hz1, ← hz2, ite_cast, ite_cast, show (4 : Int) = ((4 : Nat) : Int) from rfl, or3_u32 _ _ _ (by decide) (by split <;> decide) (by split <;> decide), ← hq1, ← hq2, hs0, ← hS]
    rfl
  have A1 := refHas_at b i 1 R0 q1 hq1 (by decide)
  have A2 := refHas_at b i 4 R0 q2 hq2 (by decide)
  have B1 := refBit_at q1 2 z1 hz1
  have B2 := refBit_at q2 8 z2 hz2
  rw [hS] at hL
  have HS : Hid (∀ W, RAt W b i R0 → RAt (W.setCell ⟨b, 5, none⟩ (.int .u32 (s1 : Int))) b i (entR R pc cause tval)) := Lib.hid fun W hW => by
    rw [← hL]
    exact hW.set 5 s1 (by decide) (by omega) (fun _ => hsl)
  have H1 : Hid (RAt (w.setCell ⟨b, 2, none⟩ (.int .u32 (pc : Int))) b i (R.set 2 pc)) := Lib.hid (h.set 2 pc (by decide) h1 (fun e => absurd e (by decide)))
  have H2 : Hid (∀ W, RAt W b i (R.set 2 pc) → RAt (W.setCell ⟨b, 3, none⟩ (.int .u32 (cause : Int))) b i ((R.set 2 pc).set 3 cause)) := Lib.hid fun W hW => hW.set 3 cause (by decide) h2 (fun e => absurd e (by decide))
  have H3 : Hid (∀ W, RAt W b i ((R.set 2 pc).set 3 cause) → RAt (W.setCell ⟨b, 4, none⟩ (.int .u32 (tval : Int))) b i R0) := Lib.hid fun W hW => by
    rw [← hR0]
    exact hW.set 4 tval (by decide) h3 (fun e => absurd e (by decide))
  have c2 := h.reg 2 (by decide)
  have d2 := h.1.frozen 2
  have HE := Lib.hid hE
  have E4 := Lib.hid e4
  have G1 := Lib.hid (grown_setCell w b 2 (.int .u32 (pc : Int)))
  clear h hR0 hs0 hL hq1 hq2 hz1 hz2 hS h1 h2 h3 hs hE e4 hsl
  generalize entR R pc cause tval = Q at HE HS ⊢
  generalize R.getD 1 0 = tvec at HE ⊢
  go_enter Try.func12, Try.ntmps12
  go_upto_region 2 with fail
  generalize w.setCell ⟨b, 2, none⟩ (.int .u32 (pc : Int)) = w1 at H1 G1 ⊢
  clear c2 d2
  have c3 := H1.out.reg 3 (by decide)
  have d3 := H1.out.1.frozen 3
  have H2 := Lib.hid (H2.out w1 H1.out)
  have G2 := Lib.hid (grown_trans G1.out (grown_setCell w1 b 3 (.int .u32 (cause : Int))))
  go_upto_region 3 with fail
  generalize w1.setCell ⟨b, 3, none⟩ (.int .u32 (cause : Int)) = w2 at H2 G2 ⊢
  clear c3 d3 H1 G1
  have c4 := H2.out.reg 4 (by decide)
  have d4 := H2.out.1.frozen 4
  have H3 := Lib.hid (H3.out w2 H2.out)
  have G3 := Lib.hid (grown_trans G2.out (grown_setCell w2 b 4 (.int .u32 (tval : Int))))
  go_upto_region 4 with fail
  generalize w2.setCell ⟨b, 4, none⟩ (.int .u32 (tval : Int)) = w3 at H3 G3 ⊢
  clear c4 d4 H2 G2
  apply wp_region_auto [24, 25, 26, 27, 28, 29, 30, 31, 32, 33, 34, 35] [_, _, _, _, _, _, _, _, _, _, _, _] (fun W' => Below w3.heap.size w3 W')
  case hm => kernel_rfl
  case hT => intro y; simp only [setAll, List.setIfInBounds_toArray, List.set_cons_succ, List.set_cons_zero]; exact rfl
  case hok => kernel_rfl
  case hn => decide
  case hw => exact (Below.refl _ _).drew
  case hs =>
    refine auto_op 24 [] (by kernel_rfl) (fun y w' HW hd K hK => ?_) ?_
    · go_simp
      refine hK _ _ ?_ ?_ HW
      · simp [upd]
      · exact rfl
    refine auto_op 25 [] (by kernel_rfl) (fun y w' HW hd K hK => ?_) ?_
    · go_simp
      refine hK _ _ ?_ ?_ HW
      · simp [upd]
      · exact rfl
    refine auto_op 26 [1] (by kernel_rfl) (fun y w' HW hd K hK => ?_) ?_
    · have e1 := hd_nth (hd 1 (by simp)) rfl
      go_simp
      refine (A1.out _ (H3.out.below HW H3.out.1.lt)).mono ?_
      rintro e w5 ⟨rfl, rfl⟩
      refine hK _ _ ?_ ?_ HW
      · simp [upd, e1]
      · exact rfl
    refine auto_op 27 [2, 2] (by kernel_rfl) (fun y w' HW hd K hK => ?_) ?_
    · have e2 := hd_nth (hd 2 (by simp)) rfl
      go_simp
      refine (B1.out _).mono ?_
      rintro e w5 ⟨rfl, rfl⟩
      refine hK _ _ ?_ ?_ HW
      · simp [upd, e2]
      · exact rfl
    refine auto_op 28 [3] (by kernel_rfl) (fun y w' HW hd K hK => ?_) ?_
    · have e3 := hd_nth (hd 3 (by simp)) rfl
      go_simp
      refine hK _ _ ?_ ?_ HW
      · simp [upd, e3]
      · exact rfl
    refine auto_op 29 [] (by kernel_rfl) (fun y w' HW hd K hK => ?_) ?_
    · go_simp
      refine hK _ _ ?_ ?_ HW
      · simp [upd]
      · exact rfl
    refine auto_op 30 [5, 3] (by kernel_rfl) (fun y w' HW hd K hK => ?_) ?_
    · have e3 := hd_nth (hd 3 (by simp)) rfl
      have e5 := hd_nth (hd 5 (by simp)) rfl
      go_simp
      refine (A2.out _ (H3.out.below HW H3.out.1.lt)).mono ?_
      rintro e w5 ⟨rfl, rfl⟩
      refine hK _ _ ?_ ?_ HW
      · simp [upd, e3, e5]
      · exact rfl
    refine auto_op 31 [6, 6] (by kernel_rfl) (fun y w' HW hd K hK => ?_) ?_
    · have e6 := hd_nth (hd 6 (by simp)) rfl
      go_simp
      refine (B2.out _).mono ?_
      rintro e w5 ⟨rfl, rfl⟩
      refine hK _ _ ?_ ?_ HW
      · simp [upd, e6]
      · exact rfl
    refine auto_op 32 [4, 7] (by kernel_rfl) (fun y w' HW hd K hK => ?_) ?_
    · have e4 := hd_nth (hd 4 (by simp)) rfl
      have e7 := hd_nth (hd 7 (by simp)) rfl
      go_simp
      refine hK _ _ ?_ ?_ HW
      · simp [upd, e4, e7]
      · exact rfl
    refine auto_op 33 [0] (by kernel_rfl) (fun y w' HW hd K hK => ?_) ?_
    · have e0 := hd_nth (hd 0 (by simp)) rfl
      go_simp
      refine hK _ _ ?_ ?_ HW
      · simp [upd, e0]
      · exact rfl
    refine auto_op 34 [9] (by kernel_rfl) (fun y w' HW hd K hK => ?_) ?_
    · have e9 := hd_nth (hd 9 (by simp)) rfl
      go_simp
      refine hK _ _ ?_ ?_ HW
      · simp [upd, e9]
      · exact rfl
    refine auto_op 35 [10, 0, 1, 2, 3, 4, 5, 6, 7, 8] (by kernel_rfl) (fun y w' HW hd K hK => ?_) ?_
    · have e0 := hd_nth (hd 0 (by simp)) rfl
      have e1 := hd_nth (hd 1 (by simp)) rfl
      have e2 := hd_nth (hd 2 (by simp)) rfl
      have e3 := hd_nth (hd 3 (by simp)) rfl
      have e4 := hd_nth (hd 4 (by simp)) rfl
      have e5 := hd_nth (hd 5 (by simp)) rfl
      have e6 := hd_nth (hd 6 (by simp)) rfl
      have e7 := hd_nth (hd 7 (by simp)) rfl
      have e8 := hd_nth (hd 8 (by simp)) rfl
      have e10 := hd_nth (hd 10 (by simp)) rfl
      go_simp
      refine hK _ _ ?_ ?_ HW
      · simp [upd, e0, e1, e2, e3, e4, e5, e6, e7, e8, e10]
      · exact rfl
    refine auto_last fun y w' HW hd K hK => ?_
    have e0 := hd_nth (hd 0 (by omega)) rfl
    have e1 := hd_nth (hd 1 (by omega)) rfl
    have e2 := hd_nth (hd 2 (by omega)) rfl
    have e3 := hd_nth (hd 3 (by omega)) rfl
    have e4 := hd_nth (hd 4 (by omega)) rfl
    have e5 := hd_nth (hd 5 (by omega)) rfl
    have e6 := hd_nth (hd 6 (by omega)) rfl
    have e7 := hd_nth (hd 7 (by omega)) rfl
    have e8 := hd_nth (hd 8 (by omega)) rfl
    have e9 := hd_nth (hd 9 (by omega)) rfl
    have e10 := hd_nth (hd 10 (by omega)) rfl
    have e11 := hd_nth (hd 11 (by omega)) rfl
    have HF := Lib.hid (H3.out.below HW H3.out.1.lt)
    have c5 := HF.out.reg 5 (by decide)
    have d5 := HF.out.1.frozen 5
    have HF2 := Lib.hid (HS.out _ HF.out)
    have G4 := Lib.hid (grown_trans G3.out (grown_trans (grown_below (row := some b) HW) (grown_setCell w' b 5 (.int .u32 (s1 : Int)))))
    have e4 := E4.out
    go_simp
    refine hK _ _ ?_
    clear hd hK K e0 e1 e2 e3 e5 e6 e7 e8 e9 e10 e11
    generalize w'.setCell ⟨b, 5, none⟩ (.int .u32 (s1 : Int)) = w4 at HF2 G4 ⊢
    clear c5 d5 HF
    have c1 := HF2.out.reg 1 (by decide)
    rw [HE.out] at c1
    go_wp2
    go_ret
    exact ⟨rfl, HF2.out, G4.out⟩

theorem refLeave_any (b i : Nat) (R : List Nat) (w : World) (h : RAt w b i R) :
    Calls Try.prog 14 #[.pointer (some ⟨b, 0, none⟩)] w fun e w' => e = .returned (.int .u32 ((R.getD 2 0 : Nat) : Int)) ∧ RAt w' b i (lvR R) ∧ w.grownBy w' (some b) := by
  have hE : (lvR R).getD 2 0 = R.getD 2 0 := by
    unfold lvR
    rw [List.getD_eq_getElem?_getD, List.getD_eq_getElem?_getD, List.getElem?_set_ne (by decide)]
  have hs := h.2.1.stat
  obtain ⟨q1, hq1⟩ : ∃ q, hasB (st R) 2 = q := ⟨_, rfl⟩
  obtain ⟨q2, hq2⟩ : ∃ q, hasB (st R) 8 = q := ⟨_, rfl⟩
  obtain ⟨z1, hz1⟩ : ∃ z, (if q1 then ((1 : Nat) : Int) else 0) = z := ⟨_, rfl⟩
  obtain ⟨z2, hz2⟩ : ∃ z, (if q2 then ((4 : Nat) : Int) else 0) = z := ⟨_, rfl⟩
  obtain ⟨s1, hS⟩ : ∃ s, leaveS (st R) = s := ⟨_, rfl⟩
  have hsl : s1 < 16 := by rw [← hS]; exact leaveS_lt hs
  have hS2 : R.set 5 s1 = lvR R := by rw [← hS]; rfl
  obtain ⟨a10, h10⟩ : ∃ a, st R &&& 10 = a := ⟨_, rfl⟩
  have hal : a10 < 4294967296 := by
    rw [← h10]
    exact Nat.lt_of_le_of_lt Nat.and_le_right (by decide)
  have e4 : bits .or .u32 (bits .or .u32 (a10 : Int) z1) z2 = (s1 : Int) := by
    rw [← hz1, ← hz2, ite_cast, ite_cast, or3_u32 _ _ _ hal (by split <;> decide) (by split <;> decide), ← hq1, ← hq2, ← hS, ← h10]
    rfl
  have e9 : bits .and .u32 ((R.getD 5 0 : Nat) : Int) 10 = (a10 : Int) := by
    rw [← h10]
    exact u32_and_nat (R.getD 5 0) 10 (h.2.1.reg 5) (by decide)
  have c5 := h.reg 5 (by decide)
  have A1 := refHas_at b i 2 R q1 hq1 (by decide)
  have A2 := refHas_at b i 8 R q2 hq2 (by decide)
  have B1 := refBit_at q1 1 z1 hz1
  have B2 := refBit_at q2 4 z2 hz2
  have HS : Hid (∀ W, RAt W b i R → RAt (W.setCell ⟨b, 5, none⟩ (.int .u32 (s1 : Int))) b i (lvR R)) := Lib.hid fun W hW => by
    rw [← hS2]
    exact hW.set 5 s1 (by decide) (by omega) (fun _ => hsl)
  have HE := Lib.hid hE
  have E4 := Lib.hid e4
  have H3 := Lib.hid h
  clear h hq1 hq2 hz1 hz2 hS hs hE e4 hsl hS2 h10 hal
  generalize lvR R = Q at HE HS ⊢
  generalize R.getD 2 0 = epc at HE ⊢
  generalize R.getD 5 0 = s at c5 e9
  go_enter Try.func14, Try.ntmps14
  go_upto_region 2 with fail
  clear e9 c5
  apply wp_region_auto [10, 11, 12, 13, 14, 15, 16, 17, 18, 19, 20, 21, 22] [_, _, _, _, _, _, _, _, _, _, _, _, _] (fun W' => Below w.heap.size w W')
  case hm => kernel_rfl
  case hT => intro y; simp only [setAll, List.setIfInBounds_toArray, List.set_cons_succ, List.set_cons_zero]; exact rfl
  case hok => kernel_rfl
  case hn => decide
  case hw => exact (Below.refl _ _).drew
  case hs =>
    refine auto_op 10 [] (by kernel_rfl) (fun y w' HW hd K hK => ?_) ?_
    · go_simp
      refine hK _ _ ?_ ?_ HW
      · simp [upd]
      · exact rfl
    refine auto_op 11 [] (by kernel_rfl) (fun y w' HW hd K hK => ?_) ?_
    · go_simp
      refine hK _ _ ?_ ?_ HW
      · simp [upd]
      · exact rfl
    refine auto_op 12 [] (by kernel_rfl) (fun y w' HW hd K hK => ?_) ?_
    · go_simp
      refine hK _ _ ?_ ?_ HW
      · simp [upd]
      · exact rfl
    refine auto_op 13 [2] (by kernel_rfl) (fun y w' HW hd K hK => ?_) ?_
    · have e2 := hd_nth (hd 2 (by simp)) rfl
      go_simp
      refine (A1.out _ (H3.out.below HW H3.out.1.lt)).mono ?_
      rintro e w5 ⟨rfl, rfl⟩
      refine hK _ _ ?_ ?_ HW
      · simp [upd, e2]
      · exact rfl
    refine auto_op 14 [3, 3] (by kernel_rfl) (fun y w' HW hd K hK => ?_) ?_
    · have e3 := hd_nth (hd 3 (by simp)) rfl
      go_simp
      refine (B1.out _).mono ?_
      rintro e w5 ⟨rfl, rfl⟩
      refine hK _ _ ?_ ?_ HW
      · simp [upd, e3]
      · exact rfl
    refine auto_op 15 [1, 4] (by kernel_rfl) (fun y w' HW hd K hK => ?_) ?_
    · have e1 := hd_nth (hd 1 (by simp)) rfl
      have e4 := hd_nth (hd 4 (by simp)) rfl
      go_simp
      refine hK _ _ ?_ ?_ HW
      · simp [upd, e1, e4]
      · exact rfl
    refine auto_op 16 [] (by kernel_rfl) (fun y w' HW hd K hK => ?_) ?_
    · go_simp
      refine hK _ _ ?_ ?_ HW
      · simp [upd]
      · exact rfl
    refine auto_op 17 [6, 4] (by kernel_rfl) (fun y w' HW hd K hK => ?_) ?_
    · have e4 := hd_nth (hd 4 (by simp)) rfl
      have e6 := hd_nth (hd 6 (by simp)) rfl
      go_simp
      refine (A2.out _ (H3.out.below HW H3.out.1.lt)).mono ?_
      rintro e w5 ⟨rfl, rfl⟩
      refine hK _ _ ?_ ?_ HW
      · simp [upd, e4, e6]
      · exact rfl
    refine auto_op 18 [7, 7] (by kernel_rfl) (fun y w' HW hd K hK => ?_) ?_
    · have e7 := hd_nth (hd 7 (by simp)) rfl
      go_simp
      refine (B2.out _).mono ?_
      rintro e w5 ⟨rfl, rfl⟩
      refine hK _ _ ?_ ?_ HW
      · simp [upd, e7]
      · exact rfl
    refine auto_op 19 [5, 8] (by kernel_rfl) (fun y w' HW hd K hK => ?_) ?_
    · have e5 := hd_nth (hd 5 (by simp)) rfl
      have e8 := hd_nth (hd 8 (by simp)) rfl
      go_simp
      refine hK _ _ ?_ ?_ HW
      · simp [upd, e5, e8]
      · exact rfl
    refine auto_op 20 [0] (by kernel_rfl) (fun y w' HW hd K hK => ?_) ?_
    · have e0 := hd_nth (hd 0 (by simp)) rfl
      go_simp
      refine hK _ _ ?_ ?_ HW
      · simp [upd, e0]
      · exact rfl
    refine auto_op 21 [10] (by kernel_rfl) (fun y w' HW hd K hK => ?_) ?_
    · have e10 := hd_nth (hd 10 (by simp)) rfl
      go_simp
      refine hK _ _ ?_ ?_ HW
      · simp [upd, e10]
      · exact rfl
    refine auto_op 22 [11, 0, 1, 2, 3, 4, 5, 6, 7, 8, 9] (by kernel_rfl) (fun y w' HW hd K hK => ?_) ?_
    · have e0 := hd_nth (hd 0 (by simp)) rfl
      have e1 := hd_nth (hd 1 (by simp)) rfl
      have e2 := hd_nth (hd 2 (by simp)) rfl
      have e3 := hd_nth (hd 3 (by simp)) rfl
      have e4 := hd_nth (hd 4 (by simp)) rfl
      have e5 := hd_nth (hd 5 (by simp)) rfl
      have e6 := hd_nth (hd 6 (by simp)) rfl
      have e7 := hd_nth (hd 7 (by simp)) rfl
      have e8 := hd_nth (hd 8 (by simp)) rfl
      have e9 := hd_nth (hd 9 (by simp)) rfl
      have e11 := hd_nth (hd 11 (by simp)) rfl
      go_simp
      refine hK _ _ ?_ ?_ HW
      · simp [upd, e0, e1, e2, e3, e4, e5, e6, e7, e8, e9, e11]
      · exact rfl
    refine auto_last fun y w' HW hd K hK => ?_
    have e0 := hd_nth (hd 0 (by omega)) rfl
    have e1 := hd_nth (hd 1 (by omega)) rfl
    have e2 := hd_nth (hd 2 (by omega)) rfl
    have e3 := hd_nth (hd 3 (by omega)) rfl
    have e4 := hd_nth (hd 4 (by omega)) rfl
    have e5 := hd_nth (hd 5 (by omega)) rfl
    have e6 := hd_nth (hd 6 (by omega)) rfl
    have e7 := hd_nth (hd 7 (by omega)) rfl
    have e8 := hd_nth (hd 8 (by omega)) rfl
    have e9 := hd_nth (hd 9 (by omega)) rfl
    have e10 := hd_nth (hd 10 (by omega)) rfl
    have e11 := hd_nth (hd 11 (by omega)) rfl
    have e12 := hd_nth (hd 12 (by omega)) rfl
    have HF := Lib.hid (H3.out.below HW H3.out.1.lt)
    have c5 := HF.out.reg 5 (by decide)
    have d5 := HF.out.1.frozen 5
    have HF2 := Lib.hid (HS.out _ HF.out)
    have G4 := Lib.hid (grown_trans (grown_below (row := some b) HW) (grown_setCell w' b 5 (.int .u32 (s1 : Int))))
    have q4 := E4.out
    go_simp
    refine hK _ _ ?_
    clear hd hK K e0 e1 e2 e3 e4 e5 e6 e7 e8 e9 e10 e11 e12
    generalize w'.setCell ⟨b, 5, none⟩ (.int .u32 (s1 : Int)) = w4 at HF2 G4 ⊢
    clear c5 d5 HF
    have c1 := HF2.out.reg 2 (by decide)
    rw [HE.out] at c1
    go_wp2
    go_ret
    exact ⟨rfl, HF2.out, G4.out⟩
end Go.Proofs.Ytaokaaakofgdoaa.Cs
