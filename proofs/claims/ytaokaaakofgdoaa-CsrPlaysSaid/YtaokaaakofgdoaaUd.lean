/- Package csr: Write, Enter, Leave, All, Mode of a file that was made. -/
import Derived.Test.YtaokaaakofgdoaaUc
import Derived.BigRegion
namespace Go.Proofs.Ytaokaaakofgdoaa.Cs
open Go.RowKit Ut
set_option maxRecDepth 100000
set_option linter.unusedVariables false

theorem write_any (b i : Nat) (n : Int) (v : Nat) (R : List Nat) (w : World) (h : FAt w b i R) (hv : v < 4294967296) :
    Calls Try.prog 17 #[.pointer (some ⟨b, 0, none⟩), .int .i64 n, .int .u32 (v : Int)] w fun e w' => e = .returned (.int .i64 (errZ R n 7)) ∧ FAt w' b i (wrR R n v) ∧ w.grownBy w' (some b) := by
  have HR := Lib.hid (refusal_any b i n 7 R w h)
  have HF := Lib.hid h
  have hlt := h.1.lt
  have hok := h.2.1
  clear h
  by_cases he : errZ R n 7 = 0
  · have hn : 0 ≤ n ∧ n < 7 := by
      rcases errZ_cases R n 7 with ⟨_, e⟩ | ⟨_, _, e⟩ | ⟨_, _, _, e⟩ | ⟨_, a, b, _⟩
      · omega
      · omega
      · omega
      · exact ⟨a, b⟩
    have hr : wrR R n v = R.set n.toNat (v &&& maskN n.toNat) := if_pos he
    rw [hr]
    clear hr
    rw [he] at HR ⊢
    obtain ⟨k, rfl⟩ : ∃ k : Nat, n = (k : Int) := ⟨n.toNat, by omega⟩
    clear he
    have hk : k < 7 := by omega
    clear hn
    rw [Int.toNat_natCast]
    have HM : Hid (∀ W, Calls Try.prog 35 #[.int .i64 (k : Int)] W fun e w' => e = .returned (.int .u32 ((maskN k : Nat) : Int)) ∧ W = w') := Lib.hid fun W => allowed_any k W hk
    have q1 := u32_and_nat v (maskN k) hv (maskN_lt k)
    have HS : Hid (∀ W, FAt W b i R → FAt (W.setCell ⟨b, 2 + k, none⟩ (.int .u32 ((v &&& maskN k : Nat) : Int))) b i (R.set k (v &&& maskN k))) := Lib.hid fun W hW => hW.set k _ (mask_lt _ _ hv) (fun e => by rw [e]; exact mask_five v)
    generalize v &&& maskN k = z at q1 HS ⊢
    generalize maskN k = m at q1 HM
    clear hok
    have hk7 : (k : Int) < 7 := by omega
    go_enter Try.func17, Try.ntmps17
    go_wp2_with fail
    refine HR.out.mono ?_
    rintro e w1 ⟨rfl, hb⟩
    have HB := Lib.hid hb
    have HF1 := Lib.hid (HF.out.below hb hlt)
    clear hb
    go_upto_region 4 with fail
    apply wp_region_auto [14, 15, 16, 17, 18, 19, 20, 21, 22] [_, _, _, _, _, _, _, _, _] (fun W' => Below w1.heap.size w1 W')
    case hm => kernel_rfl
    case hT => intro y; simp only [setAll, List.setIfInBounds_toArray, List.set_cons_succ, List.set_cons_zero]; exact rfl
    case hok => kernel_rfl
    case hn => decide
    case hw => exact (Below.refl _ _).drew
    case hs =>
      refine auto_op 14 [] (by kernel_rfl) (fun y w' HW hd K hK => ?_) ?_
      · go_simp
        refine hK _ _ ?_ ?_ HW
        · simp [upd]
        · exact rfl
      refine auto_op 15 [] (by kernel_rfl) (fun y w' HW hd K hK => ?_) ?_
      · go_simp
        refine hK _ _ ?_ ?_ HW
        · simp [upd]
        · exact rfl
      refine auto_op 16 [] (by kernel_rfl) (fun y w' HW hd K hK => ?_) ?_
      · go_simp
        refine hK _ _ ?_ ?_ HW
        · simp [upd]
        · exact rfl
      refine auto_op 17 [] (by kernel_rfl) (fun y w' HW hd K hK => ?_) ?_
      · go_simp
        refine hK _ _ ?_ ?_ HW
        · simp [upd]
        · exact rfl
      refine auto_op 18 [3] (by kernel_rfl) (fun y w' HW hd K hK => ?_) ?_
      · have e3 := hd_nth (hd 3 (by simp)) rfl
        go_simp
        refine (HM.out _).mono ?_
        rintro e w3 ⟨rfl, rfl⟩
        refine hK _ _ ?_ ?_ HW
        · simp [upd, e3]
        · exact rfl
      refine auto_op 19 [2, 4] (by kernel_rfl) (fun y w' HW hd K hK => ?_) ?_
      · have e2 := hd_nth (hd 2 (by simp)) rfl
        have e4 := hd_nth (hd 4 (by simp)) rfl
        go_simp
        refine hK _ _ ?_ ?_ HW
        · simp [upd, e2, e4]
        · exact rfl
      refine auto_op 20 [0] (by kernel_rfl) (fun y w' HW hd K hK => ?_) ?_
      · have e0 := hd_nth (hd 0 (by simp)) rfl
        go_simp
        refine hK _ _ ?_ ?_ HW
        · simp [upd, e0]
        · exact rfl
      refine auto_op 21 [6] (by kernel_rfl) (fun y w' HW hd K hK => ?_) ?_
      · have e6 := hd_nth (hd 6 (by simp)) rfl
        go_simp
        refine hK _ _ ?_ ?_ HW
        · simp [upd, e6]
        · exact rfl
      refine auto_op 22 [7, 1, 0, 1, 2, 3, 4, 5] (by kernel_rfl) (fun y w' HW hd K hK => ?_) ?_
      · have e0 := hd_nth (hd 0 (by simp)) rfl
        have e1 := hd_nth (hd 1 (by simp)) rfl
        have e2 := hd_nth (hd 2 (by simp)) rfl
        have e3 := hd_nth (hd 3 (by simp)) rfl
        have e4 := hd_nth (hd 4 (by simp)) rfl
        have e5 := hd_nth (hd 5 (by simp)) rfl
        have e7 := hd_nth (hd 7 (by simp)) rfl
        go_simp
        refine hK _ _ ?_ ?_ HW
        · simp [upd, e0, e1, e2, e3, e4, e5, e7]
        · exact rfl
      refine auto_last fun y w' HW hd K hK => ?_
      have e0 := hd_nth (hd 0 (by omega)) rfl
      have e1 := hd_nth (hd 1 (by omega)) rfl
      have e2 := hd_nth (hd 2 (by omega)) rfl
      have e3 := hd_nth (hd 3 (by omega)) rfl
      have e4 := hd_nth (hd 4 (by omega)) rfl
      have e5 := hd_nth (hd 5 (by omega)) rfl
      have e6 := hd_nth (hd 6 (by omega)) rfl
      have e7 := hd_nth (hd 7 (by omega)) rfl
      have e8 := hd_nth (hd 8 (by omega)) rfl
      have HF2 := Lib.hid (HF1.out.below HW HF1.out.1.lt)
      have HB2 := Lib.hid (HB.out.trans (HW.mono HB.out.size))
      have c1 := HF2.out.reg k hk
      have c2 := HF2.out.1.frozen (2 + k)
      have HF3 := Lib.hid (HS.out _ HF2.out)
      have HG := Lib.hid (grown_trans (grown_below (row := some b) HB2.out) (grown_setCell w' b (2 + k) (.int .u32 (z : Int))))
      go_simp
      refine hK _ _ ?_
      clear hd hK K e0 e1 e2 e3 e4 e5 e6 e7 e8
      generalize w'.setCell ⟨b, 2 + k, none⟩ (.int .u32 (z : Int)) = W3 at HF3 HG ⊢
      go_wp2
      go_ret
      exact ⟨rfl, HF3.out, HG.out⟩
  · have hr : wrR R n v = R := if_neg he
    rw [hr]
    clear hr
    generalize errZ R n 7 = e at HR he ⊢
    have hd : (e != 0) = true := by simpa using he
    clear he
    go_enter Try.func17, Try.ntmps17
    go_wp2_with fail
    refine HR.out.mono ?_
    rintro e w1 ⟨rfl, hb⟩
    have HB := Lib.hid hb
    clear hb
    go_wp2
    go_ret
    exact ⟨rfl, HF.out.below HB.out hlt, grown_below HB.out⟩

/-- the registers behind a trap, and behind the way back -/
def entR (R : List Nat) (pc cause tval : Nat) : List Nat := (((R.set 2 pc).set 3 cause).set 4 tval).set 5 (enterS (st R))
def lvR (R : List Nat) : List Nat := R.set 5 (leaveS (st R))
theorem entR_ok {R : List Nat} (h : Ok R) {pc cause tval : Nat} (h1 : pc < 4294967296) (h2 : cause < 4294967296) (h3 : tval < 4294967296) : Ok (entR R pc cause tval) := by
  have : enterS (st R) < 16 := enterS_lt h.stat
  exact (((h.set h1 (by omega)).set h2 (by omega)).set h3 (by omega)).set (by omega) (fun _ => this)
theorem lvR_ok {R : List Nat} (h : Ok R) : Ok (lvR R) := by
  have : leaveS (st R) < 16 := leaveS_lt h.stat
  exact h.set (by omega) (fun _ => this)
theorem st_set {R : List Nat} (h : R.length = 7) (x : Nat) : st (R.set 5 x) = x := by
  unfold st
  rw [List.getD_eq_getElem?_getD, List.getElem?_set_self (by omega)]
  rfl

theorem is_at (b i k : Nat) (R : List Nat) (q : Bool) (hq : hasB (st R) k = q) (hk : k < 4294967296) : Hid (∀ W g, FAt W b i R → Var W g b → Calls Try.prog 36 #[.int .u32 (k : Int), .pointer (some ⟨g, 0, none⟩)] W fun e w' => e = .returned (.bool q) ∧ W = w') :=
  Lib.hid fun W g hW hg => by
    have := is_any b g i k R W hW hg hk
    rwa [hq] at this
theorem put_at (b i k : Nat) (on : Bool) (R Q : List Nat) (hq : R.set 5 (putS (st R) k on) = Q) (hk : k < 16) : Hid (∀ W g, FAt W b i R → Var W g b → Calls Try.prog 37 #[.int .u32 (k : Int), .bool on, .pointer (some ⟨g, 0, none⟩)] W fun e w' => e = .returned (.tuple #[]) ∧ FAt w' b i Q ∧ W.grownBy w' (some b)) :=
  Lib.hid fun W g hW hg => by
    have := put_any b g i k on R W hW hg hk
    rwa [hq] at this

theorem leave_any (b i : Nat) (R : List Nat) (w : World) (h : FAt w b i R) :
    Calls Try.prog 13 #[.pointer (some ⟨b, 0, none⟩)] w fun e w' => e = .returned (.tuple #[.int .u32 ((R.getD 2 0 : Nat) : Int), .int .i64 0]) ∧ FAt w' b i (lvR R) ∧ w.grownBy w' (some b) := by
  have HF := Lib.hid h
  obtain ⟨q1, hq1⟩ : ∃ q, hasB (st R) 2 = q := ⟨_, rfl⟩
  obtain ⟨R1, hR1⟩ : ∃ Q, R.set 5 (putS (st R) 1 q1) = Q := ⟨_, rfl⟩
  obtain ⟨q2, hq2⟩ : ∃ q, hasB (st R1) 8 = q := ⟨_, rfl⟩
  obtain ⟨R2, hR2⟩ : ∃ Q, R1.set 5 (putS (st R1) 4 q2) = Q := ⟨_, rfl⟩
  have hL : R2 = lvR R := by
    subst hR2 hq2 hR1 hq1
    rw [st_set h.2.1.len, List.set_set, leave_is h.2.1.stat]
    rfl
  have hE : (lvR R).getD 2 0 = R.getD 2 0 := by
    unfold lvR
    rw [List.getD_eq_getElem?_getD, List.getD_eq_getElem?_getD, List.getElem?_set_ne (by decide)]
  have A1 := is_at b i 2 R q1 hq1 (by decide)
  have P1 := put_at b i 1 q1 R R1 hR1 (by decide)
  have A2 := is_at b i 8 R1 q2 hq2 (by decide)
  have P2 := put_at b i 4 q2 R1 R2 hR2 (by decide)
  rw [hL] at P2
  clear h hq1 hR1 hq2 hR2 hL
  have HE := Lib.hid hE
  clear hE
  generalize R.getD 2 0 = epc at HE ⊢
  generalize lvR R = Q at HE P2 ⊢
  go_enter Try.func13, Try.ntmps13
  go_wp2_with fail
  refine (made_is b true w HF.out.cell0).mono ?_
  rintro e w' ⟨rfl, rfl⟩
  go_wp2_with fail
  refine (asker_any b i R w HF.out).mono ?_
  rintro e w1 ⟨rfl, hV, hb⟩
  have HA1 := Lib.hid hV
  have HF1 := Lib.hid (HF.out.below hb HF.out.1.lt)
  have HG1 := Lib.hid (grown_below (row := some b) hb)
  have hgb := HF.out.1.lt
  clear hV hb HF
  generalize w.heap.size = ga at HA1 hgb ⊢
  have HGA : Hid (ga ≠ b) := Lib.hid (by omega)
  go_wp2_with fail
  refine (putter_any b i R w1 HF1.out).mono ?_
  rintro e w2 ⟨rfl, hV, hb⟩
  have HP2 := Lib.hid hV
  have HA2 := Lib.hid (HA1.out.below hb HA1.out.lt)
  have HF2 := Lib.hid (HF1.out.below hb HF1.out.1.lt)
  have HG2 := Lib.hid (grown_trans HG1.out (grown_below (row := some b) hb))
  have hgb2 := HF1.out.1.lt
  clear hV hb HF1 HG1 HA1
  generalize w1.heap.size = gp at HP2 hgb2 ⊢
  have HGP : Hid (gp ≠ b) := Lib.hid (by omega)
  clear hgb hgb2
  go_wp2_with fail
  refine (A1.out w2 ga HF2.out HA2.out).mono ?_
  rintro e w3 ⟨rfl, rfl⟩
  go_wp2_with fail
  refine (P1.out w2 gp HF2.out HP2.out).mono ?_
  rintro e w3 ⟨rfl, hF, hg⟩
  have HF3 := Lib.hid hF
  have HA3 : Hid (Var w3 ga b) := Lib.hid (HA2.out.kept hg (fun e => HGA.out (by injection e)))
  have HP3 : Hid (Var w3 gp b) := Lib.hid (HP2.out.kept hg (fun e => HGP.out (by injection e)))
  have HG3 := Lib.hid (grown_trans HG2.out hg)
  clear hF hg HF2 HA2 HP2 HG2
  go_wp2_with fail
  refine (A2.out w3 ga HF3.out HA3.out).mono ?_
  rintro e w4 ⟨rfl, rfl⟩
  go_wp2_with fail
  refine (P2.out w3 gp HF3.out HP3.out).mono ?_
  rintro e w4 ⟨rfl, hF, hg⟩
  have HF4 := Lib.hid hF
  have HG4 := Lib.hid (grown_trans HG3.out hg)
  have c1 := hF.reg 2 (by decide)
  rw [HE.out] at c1
  clear hF hg HF3 HA3 HP3 HG3
  go_wp2
  go_ret2
  exact ⟨rfl, HF4.out, HG4.out⟩

theorem enter_any (b i pc cause tval : Nat) (R : List Nat) (w : World) (h : FAt w b i R) (h1 : pc < 4294967296) (h2 : cause < 4294967296) (h3 : tval < 4294967296) :
    Calls Try.prog 11 #[.pointer (some ⟨b, 0, none⟩), .int .u32 (pc : Int), .int .u32 (cause : Int), .int .u32 (tval : Int)] w fun e w' => e = .returned (.tuple #[.int .u32 ((R.getD 1 0 : Nat) : Int), .int .i64 0]) ∧ FAt w' b i (entR R pc cause tval) ∧ w.grownBy w' (some b) := by
  have HF := Lib.hid h
  obtain ⟨R0, hR0⟩ : ∃ Q, ((R.set 2 pc).set 3 cause).set 4 tval = Q := ⟨_, rfl⟩
  have hs0 : st R0 = st R := by
    subst hR0
    unfold st
    rw [List.getD_eq_getElem?_getD, List.getD_eq_getElem?_getD, List.getElem?_set_ne (by decide), List.getElem?_set_ne (by decide), List.getElem?_set_ne (by decide)]
  have hl0 : R0.length = 7 := by
    subst hR0
    simp [h.2.1.len]
  obtain ⟨q1, hq1⟩ : ∃ q, hasB (st R0) 1 = q := ⟨_, rfl⟩
  obtain ⟨R1, hR1⟩ : ∃ Q, R0.set 5 (putS (st R0) 2 q1) = Q := ⟨_, rfl⟩
  obtain ⟨q2, hq2⟩ : ∃ q, hasB (st R1) 4 = q := ⟨_, rfl⟩
  obtain ⟨R2, hR2⟩ : ∃ Q, R1.set 5 (putS (st R1) 8 q2) = Q := ⟨_, rfl⟩
  obtain ⟨R3, hR3⟩ : ∃ Q, R2.set 5 (putS (st R2) 1 false) = Q := ⟨_, rfl⟩
  obtain ⟨R4, hR4⟩ : ∃ Q, R3.set 5 (putS (st R3) 4 true) = Q := ⟨_, rfl⟩
  have hL : R4 = entR R pc cause tval := by
    have l1 : R1.length = 7 := by subst hR1; simpa using hl0
    have l2 : R2.length = 7 := by subst hR2; simpa using l1
    have l3 : R3.length = 7 := by subst hR3; simpa using l2
    have s1 : st R1 = putS (st R) 2 q1 := by rw [← hR1, st_set hl0, hs0]
    have s2 : st R2 = putS (st R1) 8 q2 := by rw [← hR2, st_set l1]
    have s3 : st R3 = putS (st R2) 1 false := by rw [← hR3, st_set l2]
    rw [← hR4, s3, ← hR3, List.set_set, ← hR2, List.set_set, ← hR1, List.set_set, hR1, hR2, s2, s1, ← hq2, s1, ← hq1, hs0, enter_is h.2.1.stat, ← hR0]
    rfl
  have hE : (entR R pc cause tval).getD 1 0 = R.getD 1 0 := by
    unfold entR
    rw [List.getD_eq_getElem?_getD, List.getD_eq_getElem?_getD, List.getElem?_set_ne (by decide), List.getElem?_set_ne (by decide), List.getElem?_set_ne (by decide), List.getElem?_set_ne (by decide)]
  have A1 := is_at b i 1 R0 q1 hq1 (by decide)
  have P1 := put_at b i 2 q1 R0 R1 hR1 (by decide)
  have A2 := is_at b i 4 R1 q2 hq2 (by decide)
  have P2 := put_at b i 8 q2 R1 R2 hR2 (by decide)
  have P3 := put_at b i 1 false R2 R3 hR3 (by decide)
  have P4 := put_at b i 4 true R3 R4 hR4 (by decide)
  rw [hL] at P4
  have HS : Hid (∀ W, FAt W b i R → FAt (((W.setCell ⟨b, 4, none⟩ (.int .u32 (pc : Int))).setCell ⟨b, 5, none⟩ (.int .u32 (cause : Int))).setCell ⟨b, 6, none⟩ (.int .u32 (tval : Int))) b i R0 ∧ W.grownBy (((W.setCell ⟨b, 4, none⟩ (.int .u32 (pc : Int))).setCell ⟨b, 5, none⟩ (.int .u32 (cause : Int))).setCell ⟨b, 6, none⟩ (.int .u32 (tval : Int))) (some b)) := Lib.hid fun W hW => by
    rw [← hR0]
    exact ⟨((hW.set 2 pc h1 (fun e => absurd e (by decide))).set 3 cause h2 (fun e => absurd e (by decide))).set 4 tval h3 (fun e => absurd e (by decide)), grown_trans (grown_trans (grown_setCell W b 4 _) (grown_setCell _ b 5 _)) (grown_setCell _ b 6 _)⟩
  have c2 := h.reg 2 (by decide)
  have c3 := h.reg 3 (by decide)
  have c4 := h.reg 4 (by decide)
  have d2 := h.1.frozen 4
  have d3 := h.1.frozen 5
  have d4 := h.1.frozen 6
  clear h hR0 hs0 hl0 hq1 hR1 hq2 hR2 hR3 hR4 hL h1 h2 h3
  have HE := Lib.hid hE
  clear hE
  generalize R.getD 1 0 = tvec at HE ⊢
  generalize entR R pc cause tval = Q at HE P4 ⊢
  go_enter Try.func11, Try.ntmps11
  go_wp2_with fail
  refine (made_is b true w HF.out.cell0).mono ?_
  rintro e w' ⟨rfl, rfl⟩
  go_wp2
  go_region
  obtain ⟨hF0, hG0⟩ := HS.out w HF.out
  generalize ((w.setCell ⟨b, 4, none⟩ (.int .u32 (pc : Int))).setCell ⟨b, 5, none⟩ (.int .u32 (cause : Int))).setCell ⟨b, 6, none⟩ (.int .u32 (tval : Int)) = W0 at hF0 hG0 ⊢
  have HF0 : Hid (FAt W0.drew b i R0) := Lib.hid hF0
  have HG0 : Hid (w.grownBy W0.drew (some b)) := Lib.hid (grown_trans hG0 (grown_below (Below.refl _ _).drew))
  generalize W0.drew = W at HF0 HG0 ⊢
  clear HF HS hF0 hG0 c2 c3 c4 d2 d3 d4
  go_wp2_with fail
  refine (asker_any b i R0 W HF0.out).mono ?_
  rintro e w1 ⟨rfl, hV, hb⟩
  have HA1 := Lib.hid hV
  have HF1 := Lib.hid (HF0.out.below hb HF0.out.1.lt)
  have HG1 := Lib.hid (grown_trans HG0.out (grown_below (row := some b) hb))
  have hgb := HF0.out.1.lt
  clear hV hb HF0 HG0
  generalize W.heap.size = ga at HA1 hgb ⊢
  have HGA : Hid (ga ≠ b) := Lib.hid (by omega)
  go_wp2_with fail
  refine (putter_any b i R0 w1 HF1.out).mono ?_
  rintro e w2 ⟨rfl, hV, hb⟩
  have HP2 := Lib.hid hV
  have HA2 := Lib.hid (HA1.out.below hb HA1.out.lt)
  have HF2 := Lib.hid (HF1.out.below hb HF1.out.1.lt)
  have HG2 := Lib.hid (grown_trans HG1.out (grown_below (row := some b) hb))
  have hgb2 := HF1.out.1.lt
  clear hV hb HF1 HG1 HA1
  generalize w1.heap.size = gp at HP2 hgb2 ⊢
  have HGP : Hid (gp ≠ b) := Lib.hid (by omega)
  clear hgb hgb2
  go_wp2_with fail
  refine (A1.out w2 ga HF2.out HA2.out).mono ?_
  rintro e w3 ⟨rfl, rfl⟩
  go_wp2_with fail
  refine (P1.out w2 gp HF2.out HP2.out).mono ?_
  rintro e w3 ⟨rfl, hF, hg⟩
  have HF3 := Lib.hid hF
  have HA3 : Hid (Var w3 ga b) := Lib.hid (HA2.out.kept hg (fun e => HGA.out (by injection e)))
  have HP3 : Hid (Var w3 gp b) := Lib.hid (HP2.out.kept hg (fun e => HGP.out (by injection e)))
  have HG3 := Lib.hid (grown_trans HG2.out hg)
  clear hF hg HF2 HA2 HP2 HG2
  go_wp2_with fail
  refine (A2.out w3 ga HF3.out HA3.out).mono ?_
  rintro e w4 ⟨rfl, rfl⟩
  go_wp2_with fail
  refine (P2.out w3 gp HF3.out HP3.out).mono ?_
  rintro e w4 ⟨rfl, hF, hg⟩
  have HF4 := Lib.hid hF
  have HP4 : Hid (Var w4 gp b) := Lib.hid (HP3.out.kept hg (fun e => HGP.out (by injection e)))
  have HG4 := Lib.hid (grown_trans HG3.out hg)
  clear hF hg HF3 HA3 HP3 HG3
  go_wp2_with fail
  refine (P3.out w4 gp HF4.out HP4.out).mono ?_
  rintro e w5 ⟨rfl, hF, hg⟩
  have HF5 := Lib.hid hF
  have HP5 : Hid (Var w5 gp b) := Lib.hid (HP4.out.kept hg (fun e => HGP.out (by injection e)))
  have HG5 := Lib.hid (grown_trans HG4.out hg)
  clear hF hg HF4 HP4 HG4
  go_wp2_with fail
  refine (P4.out w5 gp HF5.out HP5.out).mono ?_
  rintro e w6 ⟨rfl, hF, hg⟩
  have HF6 := Lib.hid hF
  have HG6 := Lib.hid (grown_trans HG5.out hg)
  have c1 := hF.reg 1 (by decide)
  rw [HE.out] at c1
  clear hF hg HF5 HP5 HG5
  go_wp2
  go_ret2
  exact ⟨rfl, HF6.out, HG6.out⟩
end Go.Proofs.Ytaokaaakofgdoaa.Cs
