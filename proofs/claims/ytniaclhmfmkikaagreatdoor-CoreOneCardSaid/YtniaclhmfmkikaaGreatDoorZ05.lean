/- Several texts in one: Ud Ue -/
import Derived.Test.YtniaclhmfmkikaaGreatDoorZ04
import Derived.BigRegion
section
/- Package csr: Write, Enter, Leave, All, Mode of a file that was made. -/
namespace Go.Proofs.YtniaclhmfmkikaaGreatDoor.Cs
open Go.RowKit Ut
set_option maxRecDepth 100000
set_option linter.unusedVariables false

theorem write_any (b i : Nat) (n : Int) (v : Nat) (R : List Nat) (w : World) (h : FAt w b i R) (hv : v < 4294967296) :
    Calls Tryz.prog 26 #[.pointer (some ⟨b, 0, none⟩), .int .i64 n, .int .u32 (v : Int)] w fun e w' => e = .returned (.int .i64 (errZ R n 7)) ∧ FAt w' b i (wrR R n v) ∧ w.grownBy w' (some b) := by
  have HR := Lib.hid (refusal_any b i n 7 R w h)
  have HF := Lib.hid h
  have hlt := h.1.lt
  have hok := h.2.1
  clear h
  by_cases he : errZ R n 7 = 0
  · have hn : 0 ≤ n ∧ n < 7 := by
      rcases errZ_cases R n 7 with ⟨_, e⟩ | ⟨_, _, e⟩ | ⟨_, _, _, e⟩ | ⟨_, a, b, _⟩
      · omega
      · omega
      · omega
      · exact ⟨a, b⟩
    have hr : wrR R n v = R.set n.toNat (v &&& maskN n.toNat) := if_pos he
    rw [hr]
    clear hr
    rw [he] at HR ⊢
    obtain ⟨k, rfl⟩ : ∃ k : Nat, n = (k : Int) := ⟨n.toNat, by omega⟩
    clear he
    have hk : k < 7 := by omega
    clear hn
    rw [Int.toNat_natCast]
    have HM : Hid (∀ W, Calls Tryz.prog 51 #[.int .i64 (k : Int)] W fun e w' => e = .returned (.int .u32 ((maskN k : Nat) : Int)) ∧ W = w') := Lib.hid fun W => allowed_any k W hk
    have q1 := u32_and_nat v (maskN k) hv (maskN_lt k)
    have HS : Hid (∀ W, FAt W b i R → FAt (W.setCell ⟨b, 2 + k, none⟩ (.int .u32 ((v &&& maskN k : Nat) : Int))) b i (R.set k (v &&& maskN k))) := Lib.hid fun W hW => hW.set k _ (mask_lt _ _ hv) (fun e => by rw [e]; exact mask_five v)
    generalize v &&& maskN k = z at q1 HS ⊢
    generalize maskN k = m at q1 HM
    clear hok
    have hk7 : (k : Int) < 7 := by omega
    go_enter Tryz.func26, Tryz.ntmps26
    go_wp2_with fail
    refine HR.out.mono ?_
    rintro e w1 ⟨rfl, hb⟩
    have HB := Lib.hid hb
    have HF1 := Lib.hid (HF.out.below hb hlt)
    clear hb
    go_upto_region 4 with fail
    apply wp_region_auto [14, 15, 16, 17, 18, 19, 20, 21, 22] [_, _, _, _, _, _, _, _, _] (fun W' => Below w1.heap.size w1 W')
    case hm => kernel_rfl
    case hT => intro y; simp only [setAll, List.setIfInBounds_toArray, List.set_cons_succ, List.set_cons_zero]; exact rfl
    case hok => kernel_rfl
    case hn => decide
    case hw => exact (Below.refl _ _).drew
    case hs =>
      refine auto_op 14 [] (by kernel_rfl) (fun y w' HW hd K hK => ?_) ?_
      · go_simp
        refine hK _ _ ?_ ?_ HW
        · simp [upd]
        · exact rfl
      refine auto_op 15 [] (by kernel_rfl) (fun y w' HW hd K hK => ?_) ?_
      · go_simp
        refine hK _ _ ?_ ?_ HW
        · simp [upd]
        · exact rfl
      refine auto_op 16 [] (by kernel_rfl) (fun y w' HW hd K hK => ?_) ?_
      · go_simp
        refine hK _ _ ?_ ?_ HW
        · simp [upd]
        · exact rfl
      refine auto_op 17 [] (by kernel_rfl) (fun y w' HW hd K hK => ?_) ?_
      · go_simp
        refine hK _ _ ?_ ?_ HW
        · simp [upd]
        · exact rfl
      refine auto_op 18 [3] (by kernel_rfl) (fun y w' HW hd K hK => ?_) ?_
      · have e3 := hd_nth (hd 3 (by simp)) rfl
        go_simp
        refine (HM.out _).mono ?_
        rintro e w3 ⟨rfl, rfl⟩
        refine hK _ _ ?_ ?_ HW
        · simp [upd, e3]
        · exact rfl
      refine auto_op 19 [2, 4] (by kernel_rfl) (fun y w' HW hd K hK => ?_) ?_
      · have e2 := hd_nth (hd 2 (by simp)) rfl
        have e4 := hd_nth (hd 4 (by simp)) rfl
        go_simp
        refine hK _ _ ?_ ?_ HW
        · simp [upd, e2, e4]
        · exact rfl
      refine auto_op 20 [0] (by kernel_rfl) (fun y w' HW hd K hK => ?_) ?_
      · have e0 := hd_nth (hd 0 (by simp)) rfl
        go_simp
        refine hK _ _ ?_ ?_ HW
        · simp [upd, e0]
        · exact rfl
      refine auto_op 21 [6] (by kernel_rfl) (fun y w' HW hd K hK => ?_) ?_
      · have e6 := hd_nth (hd 6 (by simp)) rfl
        go_simp
        refine hK _ _ ?_ ?_ HW
        · simp [upd, e6]
        · exact rfl
      refine auto_op 22 [7, 1, 0, 1, 2, 3, 4, 5] (by kernel_rfl) (fun y w' HW hd K hK => ?_) ?_
      · have e0 := hd_nth (hd 0 (by simp)) rfl
        have e1 := hd_nth (hd 1 (by simp)) rfl
        have e2 := hd_nth (hd 2 (by simp)) rfl
        have e3 := hd_nth (hd 3 (by simp)) rfl
        have e4 := hd_nth (hd 4 (by simp)) rfl
        have e5 := hd_nth (hd 5 (by simp)) rfl
        have e7 := hd_nth (hd 7 (by simp)) rfl
        go_simp
        refine hK _ _ ?_ ?_ HW
        · simp [upd, e0, e1, e2, e3, e4, e5, e7]
        · exact rfl
      refine auto_last fun y w' HW hd K hK => ?_
      have e0 := hd_nth (hd 0 (by omega)) rfl
      have e1 := hd_nth (hd 1 (by omega)) rfl
      have e2 := hd_nth (hd 2 (by omega)) rfl
      have e3 := hd_nth (hd 3 (by omega)) rfl
      have e4 := hd_nth (hd 4 (by omega)) rfl
      have e5 := hd_nth (hd 5 (by omega)) rfl
      have e6 := hd_nth (hd 6 (by omega)) rfl
      have e7 := hd_nth (hd 7 (by omega)) rfl
      have e8 := hd_nth (hd 8 (by omega)) rfl
      have HF2 := Lib.hid (HF1.out.below HW HF1.out.1.lt)
      have HB2 := Lib.hid (HB.out.trans (HW.mono HB.out.size))
      have c1 := HF2.out.reg k hk
      have c2 := HF2.out.1.frozen (2 + k)
      have HF3 := Lib.hid (HS.out _ HF2.out)
      have HG := Lib.hid (grown_trans (grown_below (row := some b) HB2.out) (grown_setCell w' b (2 + k) (.int .u32 (z : Int))))
      go_simp
      refine hK _ _ ?_
      clear hd hK K e0 e1 e2 e3 e4 e5 e6 e7 e8
      generalize w'.setCell ⟨b, 2 + k, none⟩ (.int .u32 (z : Int)) = W3 at HF3 HG ⊢
      go_wp2
      go_ret
      exact ⟨rfl, HF3.out, HG.out⟩
  · have hr : wrR R n v = R := if_neg he
    rw [hr]
    clear hr
    generalize errZ R n 7 = e at HR he ⊢
    have hd : (e != 0) = true := by simpa using he
    clear he
    go_enter Tryz.func26, Tryz.ntmps26
    go_wp2_with fail
    refine HR.out.mono ?_
    rintro e w1 ⟨rfl, hb⟩
    have HB := Lib.hid hb
    clear hb
    go_wp2
    go_ret
    exact ⟨rfl, HF.out.below HB.out hlt, grown_below HB.out⟩

/-- the registers behind a trap, and behind the way back -/
def entR (R : List Nat) (pc cause tval : Nat) : List Nat := (((R.set 2 pc).set 3 cause).set 4 tval).set 5 (enterS (st R))
def lvR (R : List Nat) : List Nat := R.set 5 (leaveS (st R))
theorem entR_ok {R : List Nat} (h : Ok R) {pc cause tval : Nat} (h1 : pc < 4294967296) (h2 : cause < 4294967296) (h3 : tval < 4294967296) : Ok (entR R pc cause tval) := by
  have : enterS (st R) < 16 := enterS_lt h.stat
  exact (((h.set h1 (by omega)).set h2 (by omega)).set h3 (by omega)).set (by omega) (fun _ => this)
theorem lvR_ok {R : List Nat} (h : Ok R) : Ok (lvR R) := by
  have : leaveS (st R) < 16 := leaveS_lt h.stat
  exact h.set (by omega) (fun _ => this)
theorem st_set {R : List Nat} (h : R.length = 7) (x : Nat) : st (R.set 5 x) = x := by
  unfold st
  rw [List.getD_eq_getElem?_getD, List.getElem?_set_self (by omega)]
  rfl

theorem is_at (b i k : Nat) (R : List Nat) (q : Bool) (hq : hasB (st R) k = q) (hk : k < 4294967296) : Hid (∀ W g, FAt W b i R → Var W g b → Calls Tryz.prog 103 #[.int .u32 (k : Int), .pointer (some ⟨g, 0, none⟩)] W fun e w' => e = .returned (.bool q) ∧ W = w') :=
  Lib.hid fun W g hW hg => by
    have := is_any b g i k R W hW hg hk
    rwa [hq] at this
theorem put_at (b i k : Nat) (on : Bool) (R Q : List Nat) (hq : R.set 5 (putS (st R) k on) = Q) (hk : k < 16) : Hid (∀ W g, FAt W b i R → Var W g b → Calls Tryz.prog 127 #[.int .u32 (k : Int), .bool on, .pointer (some ⟨g, 0, none⟩)] W fun e w' => e = .returned (.tuple #[]) ∧ FAt w' b i Q ∧ W.grownBy w' (some b)) :=
  Lib.hid fun W g hW hg => by
    have := put_any b g i k on R W hW hg hk
    rwa [hq] at this

theorem leave_any (b i : Nat) (R : List Nat) (w : World) (h : FAt w b i R) :
    Calls Tryz.prog 104 #[.pointer (some ⟨b, 0, none⟩)] w fun e w' => e = .returned (.tuple #[.int .u32 ((R.getD 2 0 : Nat) : Int), .int .i64 0]) ∧ FAt w' b i (lvR R) ∧ w.grownBy w' (some b) := by
  have HF := Lib.hid h
  obtain ⟨q1, hq1⟩ : ∃ q, hasB (st R) 2 = q := ⟨_, rfl⟩
  obtain ⟨R1, hR1⟩ : ∃ Q, R.set 5 (putS (st R) 1 q1) = Q := ⟨_, rfl⟩
  obtain ⟨q2, hq2⟩ : ∃ q, hasB (st R1) 8 = q := ⟨_, rfl⟩
  obtain ⟨R2, hR2⟩ : ∃ Q, R1.set 5 (putS (st R1) 4 q2) = Q := ⟨_, rfl⟩
  have hL : R2 = lvR R := by
    subst hR2 hq2 hR1 hq1
    rw [st_set h.2.1.len, List.set_set, leave_is h.2.1.stat]
    rfl
  have hE : (lvR R).getD 2 0 = R.getD 2 0 := by
    unfold lvR
    rw [List.getD_eq_getElem?_getD, List.getD_eq_getElem?_getD, List.getElem?_set_ne (by decide)]
  have A1 := is_at b i 2 R q1 hq1 (by decide)
  have P1 := put_at b i 1 q1 R R1 hR1 (by decide)
  have A2 := is_at b i 8 R1 q2 hq2 (by decide)
  have P2 := put_at b i 4 q2 R1 R2 hR2 (by decide)
  rw [hL] at P2
  clear h hq1 hR1 hq2 hR2 hL
  have HE := Lib.hid hE
  clear hE
  generalize R.getD 2 0 = epc at HE ⊢
  generalize lvR R = Q at HE P2 ⊢
  go_enter Tryz.func104, Tryz.ntmps104
  go_wp2_with fail
  refine (made_is b true w HF.out.cell0).mono ?_
  rintro e w' ⟨rfl, rfl⟩
  go_wp2_with fail
  refine (asker_any b i R w HF.out).mono ?_
  rintro e w1 ⟨rfl, hV, hb⟩
  have HA1 := Lib.hid hV
  have HF1 := Lib.hid (HF.out.below hb HF.out.1.lt)
  have HG1 := Lib.hid (grown_below (row := some b) hb)
  have hgb := HF.out.1.lt
  clear hV hb HF
  generalize w.heap.size = ga at HA1 hgb ⊢
  have HGA : Hid (ga ≠ b) := Lib.hid (by omega)
  go_wp2_with fail
  refine (putter_any b i R w1 HF1.out).mono ?_
  rintro e w2 ⟨rfl, hV, hb⟩
  have HP2 := Lib.hid hV
  have HA2 := Lib.hid (HA1.out.below hb HA1.out.lt)
  have HF2 := Lib.hid (HF1.out.below hb HF1.out.1.lt)
  have HG2 := Lib.hid (grown_trans HG1.out (grown_below (row := some b) hb))
  have hgb2 := HF1.out.1.lt
  clear hV hb HF1 HG1 HA1
  generalize w1.heap.size = gp at HP2 hgb2 ⊢
  have HGP : Hid (gp ≠ b) := Lib.hid (by omega)
  clear hgb hgb2
  go_wp2_with fail
  refine (A1.out w2 ga HF2.out HA2.out).mono ?_
  rintro e w3 ⟨rfl, rfl⟩
  go_wp2_with fail
  refine (P1.out w2 gp HF2.out HP2.out).mono ?_
  rintro e w3 ⟨rfl, hF, hg⟩
  have HF3 := Lib.hid hF
  have HA3 : Hid (Var w3 ga b) := Lib.hid (HA2.out.kept hg (fun e => HGA.out (by injection e)))
  have HP3 : Hid (Var w3 gp b) := Lib.hid (HP2.out.kept hg (fun e => HGP.out (by injection e)))
  have HG3 := Lib.hid (grown_trans HG2.out hg)
  clear hF hg HF2 HA2 HP2 HG2
  go_wp2_with fail
  refine (A2.out w3 ga HF3.out HA3.out).mono ?_
  rintro e w4 ⟨rfl, rfl⟩
  go_wp2_with fail
  refine (P2.out w3 gp HF3.out HP3.out).mono ?_
  rintro e w4 ⟨rfl, hF, hg⟩
  have HF4 := Lib.hid hF
  have HG4 := Lib.hid (grown_trans HG3.out hg)
  have c1 := hF.reg 2 (by decide)
  rw [HE.out] at c1
  clear hF hg HF3 HA3 HP3 HG3
  go_wp2
  go_ret2
  exact ⟨rfl, HF4.out, HG4.out⟩

end Go.Proofs.YtniaclhmfmkikaaGreatDoor.Cs
end
section
/- Package csr: All and Mode; what no call made; awake of the law. -/
namespace Go.Proofs.YtniaclhmfmkikaaGreatDoor.Cs
open Go.RowKit Ut
set_option maxRecDepth 100000
set_option linter.unusedVariables false

/-- an array of registers as a value -/
def arrV (R : List Nat) : Value := .agg (wordsV R).toArray
theorem run_new_words (w : World) (ρ : Operand → Value) (o : Oper) (ho : o.op = .alloc 45) : (execOp ρ o).run Tryz.prog w = .ok (.value (.pointer (some ⟨w.heap.size, 0, none⟩))) (w.alloc (.cells (wordsV zer).toArray 45)) := by
  unfold execOp
  rw [ho]
  kernel_rfl

theorem all_any (b i : Nat) (R : List Nat) (w : World) (h : FAt w b i R) :
    Calls Tryz.prog 12 #[.pointer (some ⟨b, 0, none⟩)] w fun e w' => e = .returned (arrV R) ∧ Below w.heap.size w w' := by
  have HRUN : Hid (∀ (ρ : Operand → Value) (o : Oper), o.op = .alloc 45 → (execOp ρ o).run Tryz.prog w = .ok (.value (.pointer (some ⟨w.heap.size, 0, none⟩))) (w.alloc (.cells (wordsV zer).toArray 45))) := fun ρ o ho => run_new_words w ρ o ho
  have HB := Lib.hid ((Below.refl w.heap.size w).alloc (Nat.le_refl _) (.cells (wordsV zer).toArray 45))
  have HN : Hid (Blk (w.alloc (.cells (wordsV zer).toArray 45)) w.heap.size 45 (wordsV zer)) := Blk.new w _ _
  have HF := Lib.hid (h.below HB.out h.1.lt)
  have HL := Lib.hid h.2.1.len
  clear h
  go_enter Tryz.func12, Tryz.ntmps12
  generalize hQQ : bodyPost _ _ _ = QQ
  have HQQ := Lib.hid hQQ
  clear hQQ
  go_upto_region 0 with fail
  refine wp_region_lit ?_
  refine Great.wpList_allocTo rfl (some 2) rfl (.pointer (some ⟨w.heap.size, 0, none⟩)) (.cells (wordsV zer).toArray 45) (HRUN.out _ _ rfl) ?_
  generalize hW : w.alloc (.cells (wordsV zer).toArray 45) = W at HB HN HF ⊢
  clear HRUN hW
  go_upto_region 3 with (go_at_call 42; refine (made_is b true W HF.out.cell0).mono ?_; rintro e w' ⟨rfl, rfl⟩)
  refine wp_region_lit ?_
  refine Great.wpList_readTo rfl _ rfl (.pointer (some ⟨b, 0, none⟩)) (by kernel_rfl) ?_
  refine Great.wpList_readTo rfl _ rfl (.pointer (some ⟨b, 0, none⟩)) (by kernel_rfl) ?_
  refine Great.wpList_readTo rfl _ rfl (.pointer (some ⟨b, 2, none⟩)) (by kernel_rfl) ?_
  refine Great.wpList_readTo rfl _ rfl (arrV R) (exec_load_blk HF.out.1 2 45 _ rfl (by kernel_rfl) (wordsV R) (fCells_words i R) _ Tryz.underlying45 rfl (size_words R HL.out)) ?_
  refine wpList_store_rowTo rfl 45 _ _ rfl rfl w.heap.size (wordsV R).toArray (by kernel_rfl) (by kernel_rfl) 45 (wordsV zer).toArray HN.out (by rw [size_words R HL.out]; simp) (by simp [wordsV, HL.out, zer]) (by simpa using one_words R) ?_
  have HB2 := Lib.hid (below_setRow HB.out (Nat.le_refl _) (wordsV R).toArray)
  have HN2 := Lib.hid (HN.out.row (wordsV R))
  generalize hW2 : W.setRow w.heap.size (wordsV R).toArray = W2 at HB2 HN2 ⊢
  clear hW2
  go_wp2
  rw [← HQQ.out]
  exact bodyPost_ret (v := arrV R) (results_cell_row Tryz.results12 _ _ _ _ _ _ _ rfl HN2.out Tryz.underlying45 rfl (by rw [size_words R HL.out]; simp)) rfl ⟨rfl, HB2.out⟩

/-- of what no call made: each method by isMade's no -/
def NotMade (a : Option Addr) (w : World) : Prop := Calls Tryz.prog 42 #[.pointer a] w fun e w' => e = .returned (.bool false) ∧ w = w'
theorem all_zero (a : Option Addr) (w : World) (h : ∀ W, Below w.heap.size w W → NotMade a W) : Calls Tryz.prog 12 #[.pointer a] w fun e w' => e = .returned (arrV zer) ∧ Below w.heap.size w w' := by
  have HRUN : Hid (∀ (ρ : Operand → Value) (o : Oper), o.op = .alloc 45 → (execOp ρ o).run Tryz.prog w = .ok (.value (.pointer (some ⟨w.heap.size, 0, none⟩))) (w.alloc (.cells (wordsV zer).toArray 45))) := fun ρ o ho => run_new_words w ρ o ho
  have HB := Lib.hid ((Below.refl w.heap.size w).alloc (Nat.le_refl _) (.cells (wordsV zer).toArray 45))
  have HN : Hid (Blk (w.alloc (.cells (wordsV zer).toArray 45)) w.heap.size 45 (wordsV zer)) := Blk.new w _ _
  have H := Lib.hid (h _ HB.out)
  clear h
  go_enter Tryz.func12, Tryz.ntmps12
  generalize hQQ : bodyPost _ _ _ = QQ
  have HQQ := Lib.hid hQQ
  clear hQQ
  go_upto_region 0 with fail
  refine wp_region_lit ?_
  refine Great.wpList_allocTo rfl (some 2) rfl (.pointer (some ⟨w.heap.size, 0, none⟩)) (.cells (wordsV zer).toArray 45) (HRUN.out _ _ rfl) ?_
  generalize hW : w.alloc (.cells (wordsV zer).toArray 45) = W at HB HN H ⊢
  clear HRUN hW
  go_upto_region 2 with (go_at_call 42; refine H.out.mono ?_; rintro e w' ⟨rfl, rfl⟩)
  refine wp_region_lit ?_
  refine Great.wpList_readTo rfl _ rfl (arrV zer) (by kernel_rfl) ?_
  refine wpList_store_rowTo rfl 45 _ _ rfl rfl w.heap.size (wordsV zer).toArray (by kernel_rfl) (by kernel_rfl) 45 (wordsV zer).toArray HN.out (by kernel_rfl) rfl (by kernel_rfl) ?_
  have HB2 := Lib.hid (below_setRow HB.out (Nat.le_refl _) (wordsV zer).toArray)
  have HN2 := Lib.hid (HN.out.row (wordsV zer))
  generalize hW2 : W.setRow w.heap.size (wordsV zer).toArray = W2 at HB2 HN2 ⊢
  clear hW2
  go_wp2
  rw [← HQQ.out]
  exact bodyPost_ret (v := arrV zer) (results_cell_row Tryz.results12 _ _ _ _ _ _ _ rfl HN2.out Tryz.underlying45 rfl (by kernel_rfl)) rfl ⟨rfl, HB2.out⟩

/-- how addresses are meant, as a value -/
def modeL (on : Bool) (root : Nat) (user : Bool) : List Value := [.bool on, .int .i64 (root : Int), .bool user]
def mV (on : Bool) (root : Nat) (user : Bool) : Value := .agg (modeL on root user).toArray
def modeV (R : List Nat) : Value := mV (hasB (R.getD 0 0) 1) (rootN (R.getD 0 0)) (!hasB (st R) 4)
theorem run_new_mode (w : World) (ρ : Operand → Value) (o : Oper) (ho : o.op = .alloc 74) : (execOp ρ o).run Tryz.prog w = .ok (.value (.pointer (some ⟨w.heap.size, 0, none⟩))) (w.alloc (.cells (modeL false 0 false).toArray 74)) := by
  unfold execOp
  rw [ho]
  kernel_rfl
theorem one_mode (on : Bool) (root : Nat) (user : Bool) : ∀ v ∈ modeL on root user, v.oneCell' = true := fun v hv => by
  simp [modeL] at hv
  rcases hv with rfl | rfl | rfl <;> rfl
theorem size_mode : (Tryz.prog.info? 74).map (·.size) = some 3 := by kernel_rfl

theorem mode_any (b i : Nat) (R : List Nat) (w : World) (h : FAt w b i R) :
    Calls Tryz.prog 80 #[.pointer (some ⟨b, 0, none⟩)] w fun e w' => e = .returned (modeV R) ∧ Below w.heap.size w w' := by
  have HRUN : Hid (∀ (ρ : Operand → Value) (o : Oper), o.op = .alloc 74 → (execOp ρ o).run Tryz.prog w = .ok (.value (.pointer (some ⟨w.heap.size, 0, none⟩))) (w.alloc (.cells (modeL false 0 false).toArray 74))) := fun ρ o ho => run_new_mode w ρ o ho
  have HB := Lib.hid ((Below.refl w.heap.size w).alloc (Nat.le_refl _) (.cells (modeL false 0 false).toArray 74))
  have HN : Hid (Blk (w.alloc (.cells (modeL false 0 false).toArray 74)) w.heap.size 74 (modeL false 0 false)) := Blk.new w _ _
  have HF := Lib.hid (h.below HB.out h.1.lt)
  obtain ⟨q, hq⟩ : ∃ q, hasB (st R) 4 = q := ⟨_, rfl⟩
  have A1 := is_at b i 4 R q hq (by decide)
  have c0 := HF.out.reg 0 (by decide)
  have hlt := HF.out.1.lt
  have hwd := h.2.1.reg 0
  have HA : Hid (modeV R = mV (hasB (R.getD 0 0) 1) (rootN (R.getD 0 0)) (!q)) := by rw [← hq]; exact Lib.hid rfl
  generalize modeV R = mR at HA ⊢
  clear h hq
  generalize R.getD 0 0 = a at c0 HA hwd
  have q1 := u32_and_nat a 1 hwd (by decide)
  have q3 := u32_and_nat a 7936 hwd (by decide)
  have q2 : (((a &&& 1 : Nat) : Int) != 0) = hasB a 1 := bne_cast _
  have q4 : (a &&& 7936) / 256 = rootN a := root_is a
  have hb2 : a &&& 7936 < 4294967296 := Nat.lt_of_le_of_lt Nat.and_le_left hwd
  generalize hasB a 1 = on at q2 HA
  generalize rootN a = root at q4 HA
  generalize a &&& 1 = a1 at q1 q2
  generalize a &&& 7936 = a2 at q3 q4 hb2
  clear hwd
  have K1 : Hid ((bits .and .u32 (a : Int) 1 != 0) = on) := Lib.hid (by rw [show (1 : Int) = ((1 : Nat) : Int) from rfl, q1, q2])
  have K2 : Hid (wrap64 (bits .and .u32 (a : Int) 7936 / 256) = (root : Int)) := Lib.hid (by
    rw [show (7936 : Int) = ((7936 : Nat) : Int) from rfl, q3, ← q4]
    unfold wrap64
    omega)
  clear q1 q2 q3 q4 hb2
  go_enter Tryz.func80, Tryz.ntmps80
  generalize hQQ : bodyPost _ _ _ = QQ
  have HQQ := Lib.hid hQQ
  clear hQQ
  go_upto_region 0 with fail
  refine wp_region_lit ?_
  refine Great.wpList_allocTo rfl (some 2) rfl (.pointer (some ⟨w.heap.size, 0, none⟩)) (.cells (modeL false 0 false).toArray 74) (HRUN.out _ _ rfl) ?_
  generalize hW : w.alloc (.cells (modeL false 0 false).toArray 74) = W at HB HN HF c0 hlt ⊢
  clear HRUN hW
  go_upto_region 3 with (go_at_call 42; refine (made_is b true W HF.out.cell0).mono ?_; rintro e w' ⟨rfl, rfl⟩)
  apply wp_region_autoL [9, 10, 11, 12, 13, 14, 15, 3] [_, _, _, _, _, _, _, _] (fun L W' => Below W.heap.size W W' ∧ cond (L 6) (Var W' W.heap.size b) (W'.heap.size = W.heap.size))
  case hm => kernel_rfl
  case hT => intro y; simp only [setAll, List.setIfInBounds_toArray, List.set_cons_succ, List.set_cons_zero]; exact rfl
  case hok => kernel_rfl
  case hn => decide
  case hw => exact fun L hL => (by simp only [hL 6 (by decide)]; exact ⟨(Below.refl _ _).drew, rfl⟩)
  case hs =>
    refine autoL_op 9 [] (by kernel_rfl) (fun L y w' hL HW hd K hK => ?_) ?_
    · go_simp
      refine hK _ _ ?_ ?_ HW
      · simp [upd]
      · exact rfl
    refine autoL_op 10 [0] (by kernel_rfl) (fun L y w' hL HW hd K hK => ?_) ?_
    · have e0 := hd_nth (hd 0 (by simp)) rfl
      go_simp
      refine hK _ _ ?_ ?_ HW
      · simp [upd, e0]
      · exact rfl
    refine autoL_op 11 [1] (by kernel_rfl) (fun L y w' hL HW hd K hK => ?_) ?_
    · have e1 := hd_nth (hd 1 (by simp)) rfl
      go_simp
      refine hK _ _ ?_ ?_ HW
      · simp [upd, e1]
      · exact rfl
    refine autoL_op 12 [2] (by kernel_rfl) (fun L y w' hL HW hd K hK => ?_) ?_
    · have e2 := hd_nth (hd 2 (by simp)) rfl
      go_simp
      refine hK _ _ ?_ ?_ HW
      · simp [upd, e2]
      · exact rfl
    refine autoL_op 13 [3] (by kernel_rfl) (fun L y w' hL HW hd K hK => ?_) ?_
    · have e3 := hd_nth (hd 3 (by simp)) rfl
      have hcl : ∀ p : Addr, p.block < W.heap.size → w'.cell? p = W.cell? p := fun p hp => HW.1.cell hp
      go_simp
      refine hK _ _ ?_ ?_ HW
      · simp [upd, e3]
      · exact rfl
    refine autoL_op 14 [] (by kernel_rfl) (fun L y w' hL HW hd K hK => ?_) ?_
    · go_simp
      refine hK _ _ ?_ ?_ HW
      · simp [upd]
      · exact rfl
    refine autoL_op 15 [5] (by kernel_rfl) (fun L y w' hL HW hd K hK => ?_) ?_
    · have e5 := hd_nth (hd 5 (by simp)) rfl
      go_simp
      have HW0 : w'.heap.size = W.heap.size := by have h := HW.2; simp only [hL] at h; exact h
      have hA := asker_any b i R w' (HF.out.below HW.1 hlt)
      rw [HW0] at hA
      refine hA.mono ?_
      rintro e w3 ⟨rfl, hV3, hb3⟩
      refine hK _ _ ?_ ?_ ⟨HW.1.trans hb3, hV3⟩
      · simp [upd, e5]
      · exact rfl
    refine autoL_op 3 [4, 6, 0, 1, 2, 3, 4] (by kernel_rfl) (fun L y w' hL HW hd K hK => ?_) ?_
    · have e0 := hd_nth (hd 0 (by simp)) rfl
      have e1 := hd_nth (hd 1 (by simp)) rfl
      have e2 := hd_nth (hd 2 (by simp)) rfl
      have e3 := hd_nth (hd 3 (by simp)) rfl
      have e4 := hd_nth (hd 4 (by simp)) rfl
      have e6 := hd_nth (hd 6 (by simp)) rfl
      go_simp
      refine hK _ _ ?_ ?_ HW
      · simp [upd, e0, e1, e2, e3, e4, e6]
      · exact rfl
    refine autoL_last fun L y w' hLs HW hd K hK => ?_
    have e0 := hd_nth (hd 0 (by omega)) rfl
    have e1 := hd_nth (hd 1 (by omega)) rfl
    have e2 := hd_nth (hd 2 (by omega)) rfl
    have e3 := hd_nth (hd 3 (by omega)) rfl
    have e4 := hd_nth (hd 4 (by omega)) rfl
    have e5 := hd_nth (hd 5 (by omega)) rfl
    have e6 := hd_nth (hd 6 (by omega)) rfl
    have e7 := hd_nth (hd 7 (by omega)) rfl
    have HWF := Lib.hid (show Below W.heap.size W w' ∧ Var w' W.heap.size b by have h := HW; simp only [hLs 6 (by omega)] at h; exact h)
    go_simp
    refine hK _ _ ?_
    clear hd hK K e0 e1 e2 e3 e4 e5 e6 e7
    clear hLs HW c0
    go_wp2_with fail
    refine (A1.out w' W.heap.size (HF.out.below HWF.out.1 hlt) HWF.out.2).mono ?_
    rintro e w3 ⟨rfl, rfl⟩
    have HN1 := Lib.hid (HN.out.below HWF.out.1 HN.out.lt)
    have HB1 := Lib.hid (HB.out.trans (HWF.out.1.mono HB.out.size))
    clear HWF HN
    go_simp
    rename_i hK
    refine hK _ _ ?_
    clear hK
    rw [K1.out, K2.out]
    refine Great.wpList_readTo rfl _ rfl (.bool (!q)) (by kernel_rfl) ?_
    refine Great.wpList_readTo rfl _ rfl (mV on root (!q)) (by kernel_rfl) ?_
    refine wpList_store_rowTo rfl 74 _ _ rfl rfl w.heap.size (modeL on root (!q)).toArray (by kernel_rfl) (by kernel_rfl) 74 (modeL false 0 false).toArray HN1.out (by rw [size_mode]; rfl) rfl (by simpa using one_mode on root (!q)) ?_
    have HB2 := Lib.hid (below_setRow HB1.out (Nat.le_refl _) (modeL on root (!q)).toArray)
    have HN2 := Lib.hid (HN1.out.row (modeL on root (!q)))
    generalize hW2 : w'.setRow w.heap.size (modeL on root (!q)).toArray = W2 at HB2 HN2 ⊢
    clear hW2
    go_wp2
    rw [← HQQ.out]
    rw [HA.out]
    exact bodyPost_ret (v := mV on root (!q)) (results_cell_row Tryz.results80 _ _ _ _ _ _ _ rfl HN2.out Tryz.underlying74 rfl (by rw [size_mode]; rfl)) rfl ⟨rfl, HB2.out⟩

theorem mode_zero (a : Option Addr) (w : World) (h : ∀ W, Below w.heap.size w W → NotMade a W) : Calls Tryz.prog 80 #[.pointer a] w fun e w' => e = .returned (mV false 0 false) ∧ Below w.heap.size w w' := by
  have HRUN : Hid (∀ (ρ : Operand → Value) (o : Oper), o.op = .alloc 74 → (execOp ρ o).run Tryz.prog w = .ok (.value (.pointer (some ⟨w.heap.size, 0, none⟩))) (w.alloc (.cells (modeL false 0 false).toArray 74))) := fun ρ o ho => run_new_mode w ρ o ho
  have HB := Lib.hid ((Below.refl w.heap.size w).alloc (Nat.le_refl _) (.cells (modeL false 0 false).toArray 74))
  have HN : Hid (Blk (w.alloc (.cells (modeL false 0 false).toArray 74)) w.heap.size 74 (modeL false 0 false)) := Blk.new w _ _
  have H := Lib.hid (h _ HB.out)
  clear h
  go_enter Tryz.func80, Tryz.ntmps80
  generalize hQQ : bodyPost _ _ _ = QQ
  have HQQ := Lib.hid hQQ
  clear hQQ
  go_upto_region 0 with fail
  refine wp_region_lit ?_
  refine Great.wpList_allocTo rfl (some 2) rfl (.pointer (some ⟨w.heap.size, 0, none⟩)) (.cells (modeL false 0 false).toArray 74) (HRUN.out _ _ rfl) ?_
  generalize hW : w.alloc (.cells (modeL false 0 false).toArray 74) = W at HB HN H ⊢
  clear HRUN hW
  go_upto_region 2 with (go_at_call 42; refine H.out.mono ?_; rintro e w' ⟨rfl, rfl⟩)
  refine wp_region_lit ?_
  refine Great.wpList_readTo rfl _ rfl (mV false 0 false) (by kernel_rfl) ?_
  refine wpList_store_rowTo rfl 74 _ _ rfl rfl w.heap.size (modeL false 0 false).toArray (by kernel_rfl) (by kernel_rfl) 74 (modeL false 0 false).toArray HN.out (by kernel_rfl) rfl (by kernel_rfl) ?_
  have HB2 := Lib.hid (below_setRow HB.out (Nat.le_refl _) (modeL false 0 false).toArray)
  have HN2 := Lib.hid (HN.out.row (modeL false 0 false))
  generalize hW2 : W.setRow w.heap.size (modeL false 0 false).toArray = W2 at HB2 HN2 ⊢
  clear hW2
  go_wp2
  rw [← HQQ.out]
  exact bodyPost_ret (v := mV false 0 false) (results_cell_row Tryz.results80 _ _ _ _ _ _ _ rfl HN2.out Tryz.underlying74 rfl (by kernel_rfl)) rfl ⟨rfl, HB2.out⟩

theorem refusal_zero (a : Option Addr) (n c : Int) (w : World) (h : NotMade a w) : Calls Tryz.prog 50 #[.pointer a, .int .i64 n, .int .i64 c] w fun e w' => e = .returned (.int .i64 7) ∧ w = w' := by
  go_enter Tryz.func50, Tryz.ntmps50
  go_wp2_with (go_at_call 42; refine h.mono ?_; rintro e w' ⟨rfl, rfl⟩)
  go_ret
  exact ⟨rfl, rfl⟩
theorem read_zero (a : Option Addr) (n clock : Int) (w : World) (h : NotMade a w) : Calls Tryz.prog 53 #[.pointer a, .int .i64 n, .int .i64 clock] w fun e w' => e = .returned (.tuple #[.int .u32 0, .int .i64 7]) ∧ w = w' := by
  go_enter Tryz.func53, Tryz.ntmps53
  go_wp2_with (go_at_call 50; refine (refusal_zero a n 9 w h).mono ?_; rintro e w' ⟨rfl, rfl⟩)
  go_ret2
  exact ⟨rfl, rfl⟩
theorem write_zero (a : Option Addr) (n v : Int) (w : World) (h : NotMade a w) : Calls Tryz.prog 26 #[.pointer a, .int .i64 n, .int .u32 v] w fun e w' => e = .returned (.int .i64 7) ∧ w = w' := by
  go_enter Tryz.func26, Tryz.ntmps26
  go_wp2_with (go_at_call 50; refine (refusal_zero a n 7 w h).mono ?_; rintro e w' ⟨rfl, rfl⟩)
  go_ret
  exact ⟨rfl, rfl⟩
theorem leave_zero (a : Option Addr) (w : World) (h : NotMade a w) : Calls Tryz.prog 104 #[.pointer a] w fun e w' => e = .returned (.tuple #[.int .u32 0, .int .i64 7]) ∧ w = w' := by
  go_enter Tryz.func104, Tryz.ntmps104
  go_wp2_with (go_at_call 42; refine h.mono ?_; rintro e w' ⟨rfl, rfl⟩)
  go_ret2
  exact ⟨rfl, rfl⟩
/-- the methods with their answers named -/
theorem write_at (b i : Nat) (n : Int) (v : Nat) (R : List Nat) (z : Int) (Q : List Nat) (hz : errZ R n 7 = z) (hQ : wrR R n v = Q) (hv : v < 4294967296) : Hid (∀ W, FAt W b i R → Calls Tryz.prog 26 #[.pointer (some ⟨b, 0, none⟩), .int .i64 n, .int .u32 (v : Int)] W fun e w' => e = .returned (.int .i64 z) ∧ FAt w' b i Q ∧ W.grownBy w' (some b)) := Lib.hid fun W h => by
  rw [← hz, ← hQ]
  exact write_any b i n v R W h hv
theorem read_at (b i : Nat) (n clock : Int) (R : List Nat) (x z : Int) (hx : rdZ R i n clock = x) (hz : errZ R n 9 = z) : Hid (∀ W, FAt W b i R → Calls Tryz.prog 53 #[.pointer (some ⟨b, 0, none⟩), .int .i64 n, .int .i64 clock] W fun e w' => e = .returned (.tuple #[.int .u32 x, .int .i64 z]) ∧ Below W.heap.size W w') := Lib.hid fun W h => by
  rw [← hz, ← hx]
  exact read_any b i n clock R W h
theorem leave_at (b i : Nat) (R : List Nat) (x : Nat) (Q : List Nat) (hx : R.getD 2 0 = x) (hQ : lvR R = Q) : Hid (∀ W, FAt W b i R → Calls Tryz.prog 104 #[.pointer (some ⟨b, 0, none⟩)] W fun e w' => e = .returned (.tuple #[.int .u32 (x : Int), .int .i64 0]) ∧ FAt w' b i Q ∧ W.grownBy w' (some b)) := Lib.hid fun W h => by
  rw [← hx, ← hQ]
  exact leave_any b i R W h
theorem mode_at (b i : Nat) (R : List Nat) (V : Value) (hV : modeV R = V) : Hid (∀ W, FAt W b i R → Calls Tryz.prog 80 #[.pointer (some ⟨b, 0, none⟩)] W fun e w' => e = .returned V ∧ Below W.heap.size W w') := Lib.hid fun W h => by
  rw [← hV]
  exact mode_any b i R W h
theorem all_at (b i : Nat) (R : List Nat) (V : Value) (hV : arrV R = V) : Hid (∀ W, FAt W b i R → Calls Tryz.prog 12 #[.pointer (some ⟨b, 0, none⟩)] W fun e w' => e = .returned V ∧ Below W.heap.size W w') := Lib.hid fun W h => by
  rw [← hV]
  exact all_any b i R W h

end Go.Proofs.YtniaclhmfmkikaaGreatDoor.Cs
end
