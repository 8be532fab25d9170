/- Package csr: Write, Enter, Leave, All, Mode of a file that was made. -/
import Derived.Test.YtniaclhmfmkikaaDoorUc
import Derived.BigRegion
namespace Go.Proofs.YtniaclhmfmkikaaDoor.Cs
open Go.RowKit Ut
set_option maxRecDepth 100000
set_option linter.unusedVariables false

theorem write_any (b i : Nat) (n : Int) (v : Nat) (R : List Nat) (w : World) (h : FAt w b i R) (hv : v < 4294967296) :
    Calls Tryd.prog 59 #[.pointer (some ⟨b, 0, none⟩), .int .i64 n, .int .u32 (v : Int)] w fun e w' => e = .returned (.int .i64 (errZ R n 7)) ∧ FAt w' b i (wrR R n v) ∧ w.grownBy w' (some b) := by
  have HR := Lib.hid (refusal_any b i n 7 R w h)
  have HF := Lib.hid h
  have hlt := h.1.lt
  have hok := h.2.1
  clear h
  by_cases he : errZ R n 7 = 0
  · have hn : 0 ≤ n ∧ n < 7 := by
      rcases errZ_cases R n 7 with ⟨_, e⟩ | ⟨_, _, e⟩ | ⟨_, _, _, e⟩ | ⟨_, a, b, _⟩
      · omega
      · omega
      · omega
      · exact ⟨a, b⟩
    have hr : wrR R n v = R.set n.toNat (v &&& maskN n.toNat) := if_pos he
    rw [hr]
    clear hr
    rw [he] at HR ⊢
    obtain ⟨k, rfl⟩ : ∃ k : Nat, n = (k : Int) := ⟨n.toNat, by omega⟩
    clear he
    have hk : k < 7 := by omega
    clear hn
    rw [Int.toNat_natCast]
    have HM : Hid (∀ W, Calls Tryd.prog 67 #[.int .i64 (k : Int)] W fun e w' => e = .returned (.int .u32 ((maskN k : Nat) : Int)) ∧ W = w') := Lib.hid fun W => allowed_any k W hk
    have q1 := u32_and_nat v (maskN k) hv (maskN_lt k)
    have HS : Hid (∀ W, FAt W b i R → FAt (W.setCell ⟨b, 2 + k, none⟩ (.int .u32 ((v &&& maskN k : Nat) : Int))) b i (R.set k (v &&& maskN k))) := Lib.hid fun W hW => hW.set k _ (mask_lt _ _ hv) (fun e => by rw [e]; exact mask_five v)
    generalize v &&& maskN k = z at q1 HS ⊢
    generalize maskN k = m at q1 HM
    clear hok
    have hk7 : (k : Int) < 7 := by omega
    go_enter Tryd.func59, Tryd.ntmps59
    go_wp2_with fail
    refine HR.out.mono ?_
    rintro e w1 ⟨rfl, hb⟩
    have HB := Lib.hid hb
    have HF1 := Lib.hid (HF.out.below hb hlt)
    clear hb
    go_upto_region 4 with fail
    apply wp_region_auto [14, 15, 16, 17, 18, 19, 20, 21, 22] [_, _, _, _, _, _, _, _, _] (fun W' => Below w1.heap.size w1 W')
    case hm => kernel_rfl
    case hT => intro y; simp only [setAll, List.setIfInBounds_toArray, List.set_cons_succ, List.set_cons_zero]; exact rfl
    case hok => kernel_rfl
    case hn => decide
    case hw => exact (Below.refl _ _).drew
    case hs =>
      refine auto_op 14 [] (by kernel_rfl) (fun y w' HW hd K hK => ?_) ?_
      · go_simp
        refine hK _ _ ?_ ?_ HW
        · simp [upd]
        · exact rfl
      refine auto_op 15 [] (by kernel_rfl) (fun y w' HW hd K hK => ?_) ?_
      · go_simp
        refine hK _ _ ?_ ?_ HW
        · simp [upd]
        · exact rfl
      refine auto_op 16 [] (by kernel_rfl) (fun y w' HW hd K hK => ?_) ?_
      · go_simp
        refine hK _ _ ?_ ?_ HW
        · simp [upd]
        · exact rfl
      refine auto_op 17 [] (by kernel_rfl) (fun y w' HW hd K hK => ?_) ?_
      · go_simp
        refine hK _ _ ?_ ?_ HW
        · simp [upd]
        · exact rfl
      refine auto_op 18 [3] (by kernel_rfl) (fun y w' HW hd K hK => ?_) ?_
      · have e3 := hd_nth (hd 3 (by simp)) rfl
        go_simp
        refine (HM.out _).mono ?_
        rintro e w3 ⟨rfl, rfl⟩
        refine hK _ _ ?_ ?_ HW
        · simp [upd, e3]
        · exact rfl
      refine auto_op 19 [2, 4] (by kernel_rfl) (fun y w' HW hd K hK => ?_) ?_
      · have e2 := hd_nth (hd 2 (by simp)) rfl
        have e4 := hd_nth (hd 4 (by simp)) rfl
        go_simp
        refine hK _ _ ?_ ?_ HW
        · simp [upd, e2, e4]
        · exact rfl
      refine auto_op 20 [0] (by kernel_rfl) (fun y w' HW hd K hK => ?_) ?_
      · have e0 := hd_nth (hd 0 (by simp)) rfl
        go_simp
        refine hK _ _ ?_ ?_ HW
        · simp [upd, e0]
        · exact rfl
      refine auto_op 21 [6] (by kernel_rfl) (fun y w' HW hd K hK => ?_) ?_
      · have e6 := hd_nth (hd 6 (by simp)) rfl
        go_simp
        refine hK _ _ ?_ ?_ HW
        · simp [upd, e6]
        · exact rfl
      refine auto_op 22 [7, 1, 0, 1, 2, 3, 4, 5] (by kernel_rfl) (fun y w' HW hd K hK => ?_) ?_
      · have e0 := hd_nth (hd 0 (by simp)) rfl
        have e1 := hd_nth (hd 1 (by simp)) rfl
        have e2 := hd_nth (hd 2 (by simp)) rfl
        have e3 := hd_nth (hd 3 (by simp)) rfl
        have e4 := hd_nth (hd 4 (by simp)) rfl
        have e5 := hd_nth (hd 5 (by simp)) rfl
        have e7 := hd_nth (hd 7 (by simp)) rfl
        go_simp
        refine hK _ _ ?_ ?_ HW
        · simp [upd, e0, e1, e2, e3, e4, e5, e7]
        · exact rfl
      refine auto_last fun y w' HW hd K hK => ?_
      have e0 := hd_nth (hd 0 (by omega)) rfl
      have e1 := hd_nth (hd 1 (by omega)) rfl
      have e2 := hd_nth (hd 2 (by omega)) rfl
      have e3 := hd_nth (hd 3 (by omega)) rfl
      have e4 := hd_nth (hd 4 (by omega)) rfl
      have e5 := hd_nth (hd 5 (by omega)) rfl
      have e6 := hd_nth (hd 6 (by omega)) rfl
      have e7 := hd_nth (hd 7 (by omega)) rfl
      have e8 := hd_nth (hd 8 (by omega)) rfl
      have HF2 := Lib.hid (HF1.out.below HW HF1.out.1.lt)
      have HB2 := Lib.hid (HB.out.trans (HW.mono HB.out.size))
      have c1 := HF2.out.reg k hk
      have c2 := HF2.out.1.frozen (2 + k)
      have HF3 := Lib.hid (HS.out _ HF2.out)
      have HG := Lib.hid (grown_trans (grown_below (row := some b) HB2.out) (grown_setCell w' b (2 + k) (.int .u32 (z : Int))))
      go_simp
      refine hK _ _ ?_
      clear hd hK K e0 e1 e2 e3 e4 e5 e6 e7 e8
      generalize w'.setCell ⟨b, 2 + k, none⟩ (.int .u32 (z : Int)) = W3 at HF3 HG ⊢
      go_wp2
      go_ret
      exact ⟨rfl, HF3.out, HG.out⟩
  · have hr : wrR R n v = R := if_neg he
    rw [hr]
    clear hr
    generalize errZ R n 7 = e at HR he ⊢
    have hd : (e != 0) = true := by simpa using he
    clear he
    go_enter Tryd.func59, Tryd.ntmps59
    go_wp2_with fail
    refine HR.out.mono ?_
    rintro e w1 ⟨rfl, hb⟩
    have HB := Lib.hid hb
    clear hb
    go_wp2
    go_ret
    exact ⟨rfl, HF.out.below HB.out hlt, grown_below HB.out⟩

/-- the registers behind a trap, and behind the way back -/
def entR (R : List Nat) (pc cause tval : Nat) : List Nat := (((R.set 2 pc).set 3 cause).set 4 tval).set 5 (enterS (st R))
def lvR (R : List Nat) : List Nat := R.set 5 (leaveS (st R))
theorem entR_ok {R : List Nat} (h : Ok R) {pc cause tval : Nat} (h1 : pc < 4294967296) (h2 : cause < 4294967296) (h3 : tval < 4294967296) : Ok (entR R pc cause tval) := by
  have : enterS (st R) < 16 := enterS_lt h.stat
  exact (((h.set h1 (by omega)).set h2 (by omega)).set h3 (by omega)).set (by omega) (fun _ => this)
theorem lvR_ok {R : List Nat} (h : Ok R) : Ok (lvR R) := by
  have : leaveS (st R) < 16 := leaveS_lt h.stat
  exact h.set (by omega) (fun _ => this)
theorem st_set {R : List Nat} (h : R.length = 7) (x : Nat) : st (R.set 5 x) = x := by
  unfold st
  rw [List.getD_eq_getElem?_getD, List.getElem?_set_self (by omega)]
  rfl

theorem is_at (b i k : Nat) (R : List Nat) (q : Bool) (hq : hasB (st R) k = q) (hk : k < 4294967296) : Hid (∀ W g, FAt W b i R → Var W g b → Calls Tryd.prog 64 #[.int .u32 (k : Int), .pointer (some ⟨g, 0, none⟩)] W fun e w' => e = .returned (.bool q) ∧ W = w') :=
  Lib.hid fun W g hW hg => by
    have := is_any b g i k R W hW hg hk
    rwa [hq] at this
theorem put_at (b i k : Nat) (on : Bool) (R Q : List Nat) (hq : R.set 5 (putS (st R) k on) = Q) (hk : k < 16) : Hid (∀ W g, FAt W b i R → Var W g b → Calls Tryd.prog 88 #[.int .u32 (k : Int), .bool on, .pointer (some ⟨g, 0, none⟩)] W fun e w' => e = .returned (.tuple #[]) ∧ FAt w' b i Q ∧ W.grownBy w' (some b)) :=
  Lib.hid fun W g hW hg => by
    have := put_any b g i k on R W hW hg hk
    rwa [hq] at this

theorem leave_any (b i : Nat) (R : List Nat) (w : World) (h : FAt w b i R) :
    Calls Tryd.prog 58 #[.pointer (some ⟨b, 0, none⟩)] w fun e w' => e = .returned (.tuple #[.int .u32 ((R.getD 2 0 : Nat) : Int), .int .i64 0]) ∧ FAt w' b i (lvR R) ∧ w.grownBy w' (some b) := by
  have HF := Lib.hid h
  obtain ⟨q1, hq1⟩ : ∃ q, hasB (st R) 2 = q := ⟨_, rfl⟩
  obtain ⟨R1, hR1⟩ : ∃ Q, R.set 5 (putS (st R) 1 q1) = Q := ⟨_, rfl⟩
  obtain ⟨q2, hq2⟩ : ∃ q, hasB (st R1) 8 = q := ⟨_, rfl⟩
  obtain ⟨R2, hR2⟩ : ∃ Q, R1.set 5 (putS (st R1) 4 q2) = Q := ⟨_, rfl⟩
  have hL : R2 = lvR R := by
    subst hR2 hq2 hR1 hq1
    rw [st_set h.2.1.len, List.set_set, leave_is h.2.1.stat]
    rfl
  have hE : (lvR R).getD 2 0 = R.getD 2 0 := by
    unfold lvR
    rw [List.getD_eq_getElem?_getD, List.getD_eq_getElem?_getD, List.getElem?_set_ne (by decide)]
  have A1 := is_at b i 2 R q1 hq1 (by decide)
  have P1 := put_at b i 1 q1 R R1 hR1 (by decide)
  have A2 := is_at b i 8 R1 q2 hq2 (by decide)
  have P2 := put_at b i 4 q2 R1 R2 hR2 (by decide)
  rw [hL] at P2
  clear h hq1 hR1 hq2 hR2 hL
  have HE := Lib.hid hE
  clear hE
  generalize R.getD 2 0 = epc at HE ⊢
  generalize lvR R = Q at HE P2 ⊢
  go_enter Tryd.func58, Tryd.ntmps58
  go_wp2_with fail
  refine (made_is b true w HF.out.cell0).mono ?_
  rintro e w' ⟨rfl, rfl⟩
  go_wp2_with fail
  refine (asker_any b i R w HF.out).mono ?_
  rintro e w1 ⟨rfl, hV, hb⟩
  have HA1 := Lib.hid hV
  have HF1 := Lib.hid (HF.out.below hb HF.out.1.lt)
  have HG1 := Lib.hid (grown_below (row := some b) hb)
  have hgb := HF.out.1.lt
  clear hV hb HF
  generalize w.heap.size = ga at HA1 hgb ⊢
  have HGA : Hid (ga ≠ b) := Lib.hid (by omega)
  go_wp2_with fail
  refine (putter_any b i R w1 HF1.out).mono ?_
  rintro e w2 ⟨rfl, hV, hb⟩
  have HP2 := Lib.hid hV
  have HA2 := Lib.hid (HA1.out.below hb HA1.out.lt)
  have HF2 := Lib.hid (HF1.out.below hb HF1.out.1.lt)
  have HG2 := Lib.hid (grown_trans HG1.out (grown_below (row := some b) hb))
  have hgb2 := HF1.out.1.lt
  clear hV hb HF1 HG1 HA1
  generalize w1.heap.size = gp at HP2 hgb2 ⊢
  have HGP : Hid (gp ≠ b) := Lib.hid (by omega)
  clear hgb hgb2
  go_wp2_with fail
  refine (A1.out w2 ga HF2.out HA2.out).mono ?_
  rintro e w3 ⟨rfl, rfl⟩
  go_wp2_with fail
  refine (P1.out w2 gp HF2.out HP2.out).mono ?_
  rintro e w3 ⟨rfl, hF, hg⟩
  have HF3 := Lib.hid hF
  have HA3 : Hid (Var w3 ga b) := Lib.hid (HA2.out.kept hg (fun e => HGA.out (by injection e)))
  have HP3 : Hid (Var w3 gp b) := Lib.hid (HP2.out.kept hg (fun e => HGP.out (by injection e)))
  have HG3 := Lib.hid (grown_trans HG2.out hg)
  clear hF hg HF2 HA2 HP2 HG2
  go_wp2_with fail
  refine (A2.out w3 ga HF3.out HA3.out).mono ?_
  rintro e w4 ⟨rfl, rfl⟩
  go_wp2_with fail
  refine (P2.out w3 gp HF3.out HP3.out).mono ?_
  rintro e w4 ⟨rfl, hF, hg⟩
  have HF4 := Lib.hid hF
  have HG4 := Lib.hid (grown_trans HG3.out hg)
  have c1 := hF.reg 2 (by decide)
  rw [HE.out] at c1
  clear hF hg HF3 HA3 HP3 HG3
  go_wp2
  go_ret2
  exact ⟨rfl, HF4.out, HG4.out⟩

end Go.Proofs.YtniaclhmfmkikaaDoor.Cs
