/- The walk of hermitagelaw11.RegsOne. -/
import Derived.Test.YtpjpobcdedlgbaaTe
import Derived.StillTailTactics
namespace Go.Proofs.Ytpjpobcdedlgbaa.Rg
open Go.RowKit Ut
set_option maxRecDepth 100000
set_option linter.unusedVariables false
set_option maxHeartbeats 4000000

theorem one_old (R : List Int) (i v : Int) (j : Nat) (hne : (j : Int) ≠ i) : (setR R i v).getD j 0 = R.getD j 0 := by
  unfold setR
  split
  · simp only [List.getD_eq_getElem?_getD]
    rw [List.getElem?_set_ne (by omega)]
  · rfl
theorem one_new (R : List Int) (i v : Int) (j : Nat) (hR : R.length = 16) (h0 : 0 < j) (hj : j < 16) (he : (j : Int) = i) : (setR R i v).getD j 0 = v := by
  subst he
  rw [setR_yes h0 hj]
  simp [List.getD, hR, hj]
theorem one_zero (R : List Int) (i v : Int) (h : R.getD 0 0 = 0) : (setR R i v).getD 0 0 = 0 := by
  unfold setR
  split
  · simp only [List.getD_eq_getElem?_getD] at h ⊢
    rw [List.getElem?_set_ne (by omega)]
    exact h
  · exact h
theorem arr_cell {w : World} {g : Nat} {R : List Int} (h : Blk w g 29 (wordsV R)) (hl : R.length = 16) (j : Nat) (hj : j < 16) : w.cell? ⟨g, j, none⟩ = some (.int .u32 (R.getD j 0)) :=
  h.cell (by simp [wordsV, List.getD, hl, hj])
/-- a new array that holds R -/
def arrW (w : World) (R : List Int) : World := (w.alloc (.cells (wordsV zer).toArray 29)).setRow w.heap.size (wordsV R).toArray
theorem arrW_blk (w : World) (R : List Int) : Blk (arrW w R) w.heap.size 29 (wordsV R) := (Blk.new w _ _).row _
theorem arrW_below (w : World) (R : List Int) : Below w.heap.size w (arrW w R) := below_setRow ((Below.refl w.heap.size w).alloc (Nat.le_refl _) (.cells (wordsV zer).toArray 29)) (Nat.le_refl _) (wordsV R).toArray

theorem one_any (ai av : Option Addr) (li ci lv cv : Nat) (xs ys : List Int) (w : World) (hli : li ≤ 9223372036854775807) (hlv : lv ≤ 9223372036854775807) (hx : RowK .i64 w w.heap.size ai li xs) (hy : RowK .u32 w w.heap.size av lv ys) :
    Calls Try.prog 4 #[.slice ai li ci, .slice av lv cv] w fun e w' => e = .returned (.bool true) ∧ Below w.heap.size w w' := by
  have HX := Lib.hid hx
  have HY := Lib.hid hy
  clear hx hy
  go_enter Try.func4, Try.ntmps4
  go_wp2_with fail
  refine (new_any w).mono ?_
  rintro e w1 ⟨rfl, hF, hb⟩
  have HF1 := Lib.hid hF
  have HB1 := Lib.hid hb
  clear hF hb
  go_wp2
  go_loopw [6] (fun j wr => ∃ (k : Nat) (R : List Int), k ≤ 100 ∧ j = .int .i64 k ∧ Hid (FAt wr w.heap.size 0 R) ∧ Hid (R.getD 0 0 = 0) ∧ Hid (Below w.heap.size w wr)) (fun j _ => 100 - (intOf j).toNat)
  case atStart => exact ⟨0, zer, Nat.zero_le _, rfl, HF1, rfl, HB1⟩
  case round =>
    clear HF1 HB1
    obtain ⟨k, R, hk, rfl, HF, HZ, HB⟩ := hrel
    by_cases hin : k < li ∧ k < lv ∧ k < 100
    · obtain ⟨h1, h2, h3⟩ := hin
      obtain ⟨x, rfl, hxb, hxc⟩ := HX.out.2 k h1
      obtain ⟨y, rfl, hyb, hyc⟩ := HY.out.2 k h2
      have HC1 := Lib.hid (And.intro (show (x.add k).block < w.heap.size by rw [block_of_add]; exact hxb) hxc)
      have HC2 := Lib.hid (And.intro (show (y.add k).block < w.heap.size by rw [block_of_add]; exact hyb) hyc)
      generalize xs.getD k 0 = i at HC1
      generalize ys.getD k 0 = v at HC2
      have f1 : (k : Int) < (li : Int) := by omega
      have f2 : (k : Int) < (lv : Int) := by omega
      have f3 : (k : Int) < 100 := by omega
      have H3 := Lib.hid h3
      clear hxb hxc hyb hyc hk h3 h1 h2 HX HY
      go_wp2_with fail
      refine (all_any w.heap.size 0 R wr HF.out).mono ?_
      rintro e w2 ⟨rfl, hb⟩
      have HW2 := Lib.hid hb
      clear hb
      go_simp
      rename_i hK
      refine hK _ _ ?_
      clear hK
      refine Great.wpList_allocTo rfl (some 7) rfl (.pointer (some ⟨w2.heap.size, 0, none⟩)) (.cells (wordsV zer).toArray 29) (run_new_words w2 _ _ rfl) ?_
      refine wpList_store_rowTo rfl 29 _ _ rfl rfl w2.heap.size (wordsV R).toArray (by kernel_rfl) (by kernel_rfl) 29 (wordsV zer).toArray (Blk.new w2 29 (wordsV zer)) (by rw [size_words R HF.out.2]; simp) (by simp [wordsV, HF.out.2, zer]) (by simpa using one_words R) ?_
      have HO : Hid (Blk (arrW w2 R) w2.heap.size 29 (wordsV R)) := arrW_blk w2 R
      have HW3 : Hid (Below wr.heap.size wr (arrW w2 R)) := HW2.out.trans ((arrW_below w2 R).mono HW2.out.size)
      have HGO : Hid (wr.heap.size ≤ w2.heap.size) := HW2.out.size
      change wpList _ _ _ _ _ (arrW w2 R)
      generalize w2.heap.size = g at HO HGO ⊢
      have HB3 := Lib.hid (HB.out.trans (HW3.out.mono HB.out.size))
      have HF3 := Lib.hid (HF.out.below HW3.out HF.out.1.lt)
      generalize arrW w2 R = w3 at HO HF3 HB3 ⊢
      have hlt : w.heap.size < wr.heap.size := HF.out.1.lt
      have HG := Lib.hid (show w.heap.size < g by have := HGO.out; omega)
      have HR := Lib.hid HF.out.2
      clear HW2 HW3 hlt HGO HF HB
      have c1 := (HB3.out.cell HC1.out.1).trans HC1.out.2
      have c2 := (HB3.out.cell HC2.out.1).trans HC2.out.2
      go_upto_region 8 with fail
      go_still_tail 9, (by kernel_rfl)
      change wpList _ _ _ _ _ w3.drew
      have HF4 : Hid (FAt w3.drew w.heap.size 0 R) := HF3
      have HO4 : Hid (Blk w3.drew g 29 (wordsV R)) := HO
      have HB4 : Hid (Below w.heap.size w w3.drew) := HB3.out.drew
      generalize w3.drew = w4 at HF4 HO4 HB4 ⊢
      clear HF3 HO HB3 c1 c2
      go_wp2_with fail
      refine (set_any w.heap.size 0 i v R w4 HF4.out).mono ?_
      rintro e w5 ⟨rfl, hF, hg⟩
      have HF5 := Lib.hid hF
      have HO5 := Lib.hid (HO4.out.kept hg (by intro e; injection e with e; have := HG.out; omega))
      have HB5 := Lib.hid (below_of_grown HB4.out hg HB4.out.size (Nat.le_refl _))
      have HQL := Lib.hid hF.2
      clear hF hg HF4 HO4 HB4
      have HOLD := Lib.hid (fun j hj => one_old R i v j hj)
      have HNEW := Lib.hid (fun j h0 hj he => one_new R i v j HR.out h0 hj he)
      have HZ2 := Lib.hid (one_zero R i v HZ.out)
      generalize setR R i v = Q at HF5 HOLD HNEW HZ2 HQL ⊢
      go_wp2_with fail
      refine (all_any w.heap.size 0 Q w5 HF5.out).mono ?_
      rintro e w6 ⟨rfl, hb⟩
      have HO6 := Lib.hid (HO5.out.below hb HO5.out.lt)
      have HF6 := Lib.hid (HF5.out.below hb HF5.out.1.lt)
      have HB6 := Lib.hid (HB5.out.trans (hb.mono HB5.out.size))
      have HG6 := Lib.hid (Nat.lt_of_lt_of_le HO5.out.lt hb.size)
      clear hb HO5 HF5 HB5
      go_simp
      rename_i hK
      refine hK _ _ ?_
      clear hK
      refine Great.wpList_allocTo rfl (some 9) rfl (.pointer (some ⟨w6.heap.size, 0, none⟩)) (.cells (wordsV zer).toArray 29) (run_new_words w6 _ _ rfl) ?_
      refine wpList_store_rowTo rfl 29 _ _ rfl rfl w6.heap.size (wordsV Q).toArray (by kernel_rfl) (by kernel_rfl) 29 (wordsV zer).toArray (Blk.new w6 29 (wordsV zer)) (by rw [size_words Q HQL.out]; simp) (by simp [wordsV, HQL.out, zer]) (by simpa using one_words Q) ?_
      have HN : Hid (Blk (arrW w6 Q) w6.heap.size 29 (wordsV Q)) := arrW_blk w6 Q
      have HW7 : Hid (Below w6.heap.size w6 (arrW w6 Q)) := arrW_below w6 Q
      have HB7 := Lib.hid (HB6.out.trans (HW7.out.mono HB6.out.size))
      have HF7 := Lib.hid (HF6.out.below HW7.out HF6.out.1.lt)
      have HO7 := Lib.hid (HO6.out.below HW7.out HO6.out.lt)
      change wpList _ _ _ _ _ (arrW w6 Q)
      generalize w6.heap.size = q at HN HG6 HW7 HF7 HO7 ⊢
      generalize arrW w6 Q = W at HN HB7 HF7 HO7 HW7 ⊢
      clear HW7 HB6 HF6 HO6 HG6
      have c1 := (HB7.out.cell HC1.out.1).trans HC1.out.2
      have c3 := arr_cell HN.out HQL.out 0 (by omega)
      rw [HZ2.out] at c3
      have hcs : (errZ i = 1 ∧ ¬ 0 ≤ i) ∨ (errZ i = 1 ∧ 0 ≤ i ∧ ¬ i < 16) ∨ (errZ i = 0 ∧ 0 ≤ i ∧ i < 16) := by
        by_cases h0 : 0 ≤ i
        · by_cases h1 : i < 16
          · exact .inr (.inr ⟨if_pos ⟨h0, h1⟩, h0, h1⟩)
          · exact .inr (.inl ⟨errZ_no (.inr (by omega)), h0, h1⟩)
        · exact .inl ⟨errZ_no (.inl (by omega)), h0⟩
      obtain ⟨ez, hez⟩ : ∃ ez, errZ i = ez := ⟨_, rfl⟩
      rw [hez] at hcs ⊢
      clear hez
      go_upto_region 10 with fail
      simp only [Act.put, List.setIfInBounds_toArray, List.set_cons_succ, List.set_cons_zero]
      go_cut [63] (fun v wx => v = .bool false ∧ W = wx)
      case first =>
        rcases hcs with ⟨rfl, t1⟩ | ⟨rfl, t1, t2⟩ | ⟨rfl, t1, t2⟩
        all_goals
          go_wp2
          go_meet
          exact ⟨rfl, rfl⟩
      obtain ⟨rfl, rfl⟩ := hcut
      clear c1 c3 hcs
      go_wp2
      go_loopw [10] (fun j wr => ∃ n : Nat, n ≤ 16 ∧ j = .int .i64 n ∧ Hid (Below W.heap.size W wr)) (fun j _ => 16 - (intOf j).toNat)
      case atStart => exact ⟨0, Nat.zero_le _, rfl, Below.refl _ _⟩
      case round =>
        obtain ⟨n, hn, rfl, HV⟩ := hrel
        have HBV := Lib.hid (HB7.out.trans (HV.out.mono HB7.out.size))
        by_cases hn16 : n < 16
        · have f4 : (n : Int) < 16 := by omega
          have H16 := Lib.hid hn16
          have c1 := (HBV.out.cell HC1.out.1).trans HC1.out.2
          have b1 : (x.add k).block < wr.heap.size := Nat.lt_of_lt_of_le HC1.out.1 HBV.out.size
          have b2 : (y.add k).block < wr.heap.size := Nat.lt_of_lt_of_le HC2.out.1 HBV.out.size
          have b1' : x.block < wr.heap.size := by rw [← block_of_add x k]; exact b1
          have b2' : y.block < wr.heap.size := by rw [← block_of_add y k]; exact b2
          have c2 := (HBV.out.cell HC2.out.1).trans HC2.out.2
          have c3 := arr_cell (HN.out.below HV.out HN.out.lt) HQL.out n hn16
          have c4 := arr_cell (HO7.out.below HV.out HO7.out.lt) HR.out n hn16
          have b3 := (HN.out.below HV.out HN.out.lt).lt
          have b4 := (HO7.out.below HV.out HO7.out.lt).lt
          clear hn hn16
          by_cases hji : (n : Int) = i
          · have e1 : ((n : Int) == i) = true := by simpa using hji
            have e2 : ((n : Int) != i) = false := by simpa using hji
            by_cases h0 : 0 < n
            · rw [HNEW.out n h0 H16.out hji] at c3
              have e3 : decide ((0 : Int) < (n : Int)) = true := by simpa using h0
              have e5 : decide (0 < n) = true := by simpa using h0
              generalize R.getD n 0 = z at c4
              clear hji h0
              go_upto_region 15 with fail
              apply wp_region_auto [68, 69, 70, 71, 72, 73, 74, 75, 76, 77, 78, 79, 80, 81, 82, 83, 84, 85, 86, 87, 88, 89, 90, 91, 92, 93, 94, 95, 96, 97, 98, 99, 100, 101, 102, 103] [_, _, _, _, _, _, _, _, _, _, _, _, _, _, _, _, _, _, _, _, _, _, _, _, _, _, _, _, _, _, _, _, _, _, _, _] (fun W' => Below wr.heap.size wr W')
              case hm => kernel_rfl
              case hT => intro y; simp only [setAll, List.setIfInBounds_toArray, List.set_cons_succ, List.set_cons_zero]; exact rfl
              case hok => kernel_rfl
              case hn => decide
              case hw => exact (Below.refl _ _).drew
              case hs =>
                refine auto_op 68 [] (by kernel_rfl) (fun y w' HW hd K hK => ?_) ?_
                · go_simp
                  refine hK _ _ ?_ ?_ HW
                  · simp [upd]
                  · exact rfl
                refine auto_op 69 [] (by kernel_rfl) (fun y w' HW hd K hK => ?_) ?_
                · go_simp
                  refine hK _ _ ?_ ?_ HW
                  · simp [upd]
                  · exact rfl
                refine auto_op 70 [] (by kernel_rfl) (fun y w' HW hd K hK => ?_) ?_
                · go_simp
                  refine hK _ _ ?_ ?_ HW
                  · simp [upd]
                  · exact rfl
                refine auto_op 71 [1, 2] (by kernel_rfl) (fun y w' HW hd K hK => ?_) ?_
                · have e1 := hd_nth (hd 1 (by simp)) rfl
                  have e2 := hd_nth (hd 2 (by simp)) rfl
                  go_simp
                  refine hK _ _ ?_ ?_ HW
                  · simp [upd, e1, e2]
                  · exact rfl
                refine auto_op 72 [3] (by kernel_rfl) (fun y w' HW hd K hK => ?_) ?_
                · have e3 := hd_nth (hd 3 (by simp)) rfl
                  have hcl : ∀ p : Addr, p.block < wr.heap.size → w'.cell? p = wr.cell? p := fun p hp => HW.cell hp
                  go_simp
                  refine hK _ _ ?_ ?_ HW
                  · simp [upd, e3]
                  · exact rfl
                refine auto_op 73 [0, 4] (by kernel_rfl) (fun y w' HW hd K hK => ?_) ?_
                · have e0 := hd_nth (hd 0 (by simp)) rfl
                  have e4 := hd_nth (hd 4 (by simp)) rfl
                  go_simp
                  refine hK _ _ ?_ ?_ HW
                  · simp [upd, e0, e4]
                  · exact rfl
                refine auto_op 74 [5] (by kernel_rfl) (fun y w' HW hd K hK => ?_) ?_
                · have e5 := hd_nth (hd 5 (by simp)) rfl
                  go_simp
                  refine hK _ _ ?_ ?_ HW
                  · simp [upd, e5]
                  · exact rfl
                refine auto_op 75 [6] (by kernel_rfl) (fun y w' HW hd K hK => ?_) ?_
                · have e6 := hd_nth (hd 6 (by simp)) rfl
                  go_simp
                  refine hK _ _ ?_ ?_ HW
                  · simp [upd, e6]
                  · exact rfl
                refine auto_op 76 [7, 6] (by kernel_rfl) (fun y w' HW hd K hK => ?_) ?_
                · have e6 := hd_nth (hd 6 (by simp)) rfl
                  have e7 := hd_nth (hd 7 (by simp)) rfl
                  go_simp
                  refine hK _ _ ?_ ?_ HW
                  · simp [upd, e6, e7]
                  · exact rfl
                refine auto_op 77 [6, 8] (by kernel_rfl) (fun y w' HW hd K hK => ?_) ?_
                · have e6 := hd_nth (hd 6 (by simp)) rfl
                  have e8 := hd_nth (hd 8 (by simp)) rfl
                  go_simp
                  refine hK _ _ ?_ ?_ HW
                  · simp [upd, e6, e8]
                  · exact rfl
                refine auto_op 78 [9, 6] (by kernel_rfl) (fun y w' HW hd K hK => ?_) ?_
                · have e6 := hd_nth (hd 6 (by simp)) rfl
                  have e9 := hd_nth (hd 9 (by simp)) rfl
                  go_simp
                  refine hK _ _ ?_ ?_ HW
                  · simp [upd, e6, e9]
                  · exact rfl
                refine auto_op 79 [10] (by kernel_rfl) (fun y w' HW hd K hK => ?_) ?_
                · have e10 := hd_nth (hd 10 (by simp)) rfl
                  go_simp
                  refine hK _ _ ?_ ?_ HW
                  · simp [upd, e10]
                  · exact rfl
                refine auto_op 80 [11, 10] (by kernel_rfl) (fun y w' HW hd K hK => ?_) ?_
                · have e10 := hd_nth (hd 10 (by simp)) rfl
                  have e11 := hd_nth (hd 11 (by simp)) rfl
                  go_simp
                  refine hK _ _ ?_ ?_ HW
                  · simp [upd, e10, e11]
                  · exact rfl
                refine auto_op 81 [12, 10] (by kernel_rfl) (fun y w' HW hd K hK => ?_) ?_
                · have e10 := hd_nth (hd 10 (by simp)) rfl
                  have e12 := hd_nth (hd 12 (by simp)) rfl
                  have hcl : ∀ p : Addr, p.block < wr.heap.size → w'.cell? p = wr.cell? p := fun p hp => HW.cell hp
                  go_simp
                  refine hK _ _ ?_ ?_ HW
                  · simp [upd, e10, e12]
                  · exact rfl
                refine auto_op 82 [10] (by kernel_rfl) (fun y w' HW hd K hK => ?_) ?_
                · have e10 := hd_nth (hd 10 (by simp)) rfl
                  go_simp
                  refine hK _ _ ?_ ?_ HW
                  · simp [upd, e10]
                  · exact rfl
                refine auto_op 83 [10] (by kernel_rfl) (fun y w' HW hd K hK => ?_) ?_
                · have e10 := hd_nth (hd 10 (by simp)) rfl
                  go_simp
                  refine hK _ _ ?_ ?_ HW
                  · simp [upd, e10]
                  · exact rfl
                refine auto_op 84 [14, 15, 10] (by kernel_rfl) (fun y w' HW hd K hK => ?_) ?_
                · have e10 := hd_nth (hd 10 (by simp)) rfl
                  have e14 := hd_nth (hd 14 (by simp)) rfl
                  have e15 := hd_nth (hd 15 (by simp)) rfl
                  go_simp
                  refine hK _ _ ?_ ?_ HW
                  · simp [upd, e10, e14, e15]
                  · exact rfl
                refine auto_op 85 [16, 10] (by kernel_rfl) (fun y w' HW hd K hK => ?_) ?_
                · have e10 := hd_nth (hd 10 (by simp)) rfl
                  have e16 := hd_nth (hd 16 (by simp)) rfl
                  have hcl : ∀ p : Addr, p.block < wr.heap.size → w'.cell? p = wr.cell? p := fun p hp => HW.cell hp
                  go_simp
                  refine hK _ _ ?_ ?_ HW
                  · simp [upd, e10, e16]
                  · exact rfl
                refine auto_op 86 [13, 17, 10] (by kernel_rfl) (fun y w' HW hd K hK => ?_) ?_
                · have e10 := hd_nth (hd 10 (by simp)) rfl
                  have e13 := hd_nth (hd 13 (by simp)) rfl
                  have e17 := hd_nth (hd 17 (by simp)) rfl
                  go_simp
                  refine hK _ _ ?_ ?_ HW
                  · simp [upd, e10, e13, e17]
                  · exact rfl
                refine auto_op 87 [10, 18] (by kernel_rfl) (fun y w' HW hd K hK => ?_) ?_
                · have e10 := hd_nth (hd 10 (by simp)) rfl
                  have e18 := hd_nth (hd 18 (by simp)) rfl
                  go_simp
                  refine hK _ _ ?_ ?_ HW
                  · simp [upd, e10, e18]
                  · exact rfl
                refine auto_op 88 [19, 10] (by kernel_rfl) (fun y w' HW hd K hK => ?_) ?_
                · have e10 := hd_nth (hd 10 (by simp)) rfl
                  have e19 := hd_nth (hd 19 (by simp)) rfl
                  go_simp
                  refine hK _ _ ?_ ?_ HW
                  · simp [upd, e10, e19]
                  · exact rfl
                refine auto_op 89 [20] (by kernel_rfl) (fun y w' HW hd K hK => ?_) ?_
                · have e20 := hd_nth (hd 20 (by simp)) rfl
                  go_simp
                  refine hK _ _ ?_ ?_ HW
                  · simp [upd, e20]
                  · exact rfl
                refine auto_op 90 [20] (by kernel_rfl) (fun y w' HW hd K hK => ?_) ?_
                · have e20 := hd_nth (hd 20 (by simp)) rfl
                  go_simp
                  refine hK _ _ ?_ ?_ HW
                  · simp [upd, e20]
                  · exact rfl
                refine auto_op 91 [20] (by kernel_rfl) (fun y w' HW hd K hK => ?_) ?_
                · have e20 := hd_nth (hd 20 (by simp)) rfl
                  go_simp
                  refine hK _ _ ?_ ?_ HW
                  · simp [upd, e20]
                  · exact rfl
                refine auto_op 92 [22, 23, 20] (by kernel_rfl) (fun y w' HW hd K hK => ?_) ?_
                · have e20 := hd_nth (hd 20 (by simp)) rfl
                  have e22 := hd_nth (hd 22 (by simp)) rfl
                  have e23 := hd_nth (hd 23 (by simp)) rfl
                  go_simp
                  refine hK _ _ ?_ ?_ HW
                  · simp [upd, e20, e22, e23]
                  · exact rfl
                refine auto_op 93 [24, 20] (by kernel_rfl) (fun y w' HW hd K hK => ?_) ?_
                · have e20 := hd_nth (hd 20 (by simp)) rfl
                  have e24 := hd_nth (hd 24 (by simp)) rfl
                  have hcl : ∀ p : Addr, p.block < wr.heap.size → w'.cell? p = wr.cell? p := fun p hp => HW.cell hp
                  go_simp
                  refine hK _ _ ?_ ?_ HW
                  · simp [upd, e20, e24]
                  · exact rfl
                refine auto_op 94 [21, 25, 20] (by kernel_rfl) (fun y w' HW hd K hK => ?_) ?_
                · have e20 := hd_nth (hd 20 (by simp)) rfl
                  have e21 := hd_nth (hd 21 (by simp)) rfl
                  have e25 := hd_nth (hd 25 (by simp)) rfl
                  go_simp
                  refine hK _ _ ?_ ?_ HW
                  · simp [upd, e20, e21, e25]
                  · exact rfl
                refine auto_op 95 [26, 20, 20] (by kernel_rfl) (fun y w' HW hd K hK => ?_) ?_
                · have e20 := hd_nth (hd 20 (by simp)) rfl
                  have e26 := hd_nth (hd 26 (by simp)) rfl
                  go_simp
                  refine hK _ _ ?_ ?_ HW
                  · simp [upd, e20, e26]
                  · exact rfl
                refine auto_op 96 [27] (by kernel_rfl) (fun y w' HW hd K hK => ?_) ?_
                · have e27 := hd_nth (hd 27 (by simp)) rfl
                  go_simp
                  refine hK _ _ ?_ ?_ HW
                  · simp [upd, e27]
                  · exact rfl
                refine auto_op 97 [28, 27] (by kernel_rfl) (fun y w' HW hd K hK => ?_) ?_
                · have e27 := hd_nth (hd 27 (by simp)) rfl
                  have e28 := hd_nth (hd 28 (by simp)) rfl
                  go_simp
                  refine hK _ _ ?_ ?_ HW
                  · simp [upd, e27, e28]
                  · exact rfl
                refine auto_op 98 [29, 27] (by kernel_rfl) (fun y w' HW hd K hK => ?_) ?_
                · have e27 := hd_nth (hd 27 (by simp)) rfl
                  have e29 := hd_nth (hd 29 (by simp)) rfl
                  have hcl : ∀ p : Addr, p.block < wr.heap.size → w'.cell? p = wr.cell? p := fun p hp => HW.cell hp
                  go_simp
                  refine hK _ _ ?_ ?_ HW
                  · simp [upd, e27, e29]
                  · exact rfl
                refine auto_op 99 [27] (by kernel_rfl) (fun y w' HW hd K hK => ?_) ?_
                · have e27 := hd_nth (hd 27 (by simp)) rfl
                  go_simp
                  refine hK _ _ ?_ ?_ HW
                  · simp [upd, e27]
                  · exact rfl
                refine auto_op 100 [31, 27] (by kernel_rfl) (fun y w' HW hd K hK => ?_) ?_
                · have e27 := hd_nth (hd 27 (by simp)) rfl
                  have e31 := hd_nth (hd 31 (by simp)) rfl
                  go_simp
                  refine hK _ _ ?_ ?_ HW
                  · simp [upd, e27, e31]
                  · exact rfl
                refine auto_op 101 [32, 27] (by kernel_rfl) (fun y w' HW hd K hK => ?_) ?_
                · have e27 := hd_nth (hd 27 (by simp)) rfl
                  have e32 := hd_nth (hd 32 (by simp)) rfl
                  have hcl : ∀ p : Addr, p.block < wr.heap.size → w'.cell? p = wr.cell? p := fun p hp => HW.cell hp
                  go_simp
                  refine hK _ _ ?_ ?_ HW
                  · simp [upd, e27, e32]
                  · exact rfl
                refine auto_op 102 [30, 33, 27] (by kernel_rfl) (fun y w' HW hd K hK => ?_) ?_
                · have e27 := hd_nth (hd 27 (by simp)) rfl
                  have e30 := hd_nth (hd 30 (by simp)) rfl
                  have e33 := hd_nth (hd 33 (by simp)) rfl
                  go_simp
                  refine hK _ _ ?_ ?_ HW
                  · simp [upd, e27, e30, e33]
                  · exact rfl
                refine auto_op 103 [27, 34, 20] (by kernel_rfl) (fun y w' HW hd K hK => ?_) ?_
                · have e20 := hd_nth (hd 20 (by simp)) rfl
                  have e27 := hd_nth (hd 27 (by simp)) rfl
                  have e34 := hd_nth (hd 34 (by simp)) rfl
                  go_simp
                  refine hK _ _ ?_ ?_ HW
                  · simp [upd, e20, e27, e34]
                  · exact rfl
                refine auto_last fun y w' HW hd K hK => ?_
                have e0 := hd_nth (hd 0 (by omega)) rfl
                have e1 := hd_nth (hd 1 (by omega)) rfl
                have e2 := hd_nth (hd 2 (by omega)) rfl
                have e3 := hd_nth (hd 3 (by omega)) rfl
                have e4 := hd_nth (hd 4 (by omega)) rfl
                have e5 := hd_nth (hd 5 (by omega)) rfl
                have e6 := hd_nth (hd 6 (by omega)) rfl
                have e7 := hd_nth (hd 7 (by omega)) rfl
                have e8 := hd_nth (hd 8 (by omega)) rfl
                have e9 := hd_nth (hd 9 (by omega)) rfl
                have e10 := hd_nth (hd 10 (by omega)) rfl
                have e11 := hd_nth (hd 11 (by omega)) rfl
                have e12 := hd_nth (hd 12 (by omega)) rfl
                have e13 := hd_nth (hd 13 (by omega)) rfl
                have e14 := hd_nth (hd 14 (by omega)) rfl
                have e15 := hd_nth (hd 15 (by omega)) rfl
                have e16 := hd_nth (hd 16 (by omega)) rfl
                have e17 := hd_nth (hd 17 (by omega)) rfl
                have e18 := hd_nth (hd 18 (by omega)) rfl
                have e19 := hd_nth (hd 19 (by omega)) rfl
                have e20 := hd_nth (hd 20 (by omega)) rfl
                have e21 := hd_nth (hd 21 (by omega)) rfl
                have e22 := hd_nth (hd 22 (by omega)) rfl
                have e23 := hd_nth (hd 23 (by omega)) rfl
                have e24 := hd_nth (hd 24 (by omega)) rfl
                have e25 := hd_nth (hd 25 (by omega)) rfl
                have e26 := hd_nth (hd 26 (by omega)) rfl
                have e27 := hd_nth (hd 27 (by omega)) rfl
                have e28 := hd_nth (hd 28 (by omega)) rfl
                have e29 := hd_nth (hd 29 (by omega)) rfl
                have e30 := hd_nth (hd 30 (by omega)) rfl
                have e31 := hd_nth (hd 31 (by omega)) rfl
                have e32 := hd_nth (hd 32 (by omega)) rfl
                have e33 := hd_nth (hd 33 (by omega)) rfl
                have e34 := hd_nth (hd 34 (by omega)) rfl
                have e35 := hd_nth (hd 35 (by omega)) rfl
                go_simp
                refine hK _ _ ?_
                clear hd hK K e0 e1 e2 e3 e4 e5 e6 e7 e8 e9 e10 e11 e12 e13 e14 e15 e16 e17 e18 e19 e20 e21 e22 e23 e24 e25 e26 e27 e28 e29 e30 e31 e32 e33 e34 e35
                go_wp2
                go_roundw
                case rel => exact ⟨n + 1, H16.out, by go_num, HV.out.trans (HW.mono HV.out.size)⟩
                case measure => have := H16.out; simp [intOf]; omega
            · have e3 : decide ((0 : Int) < (n : Int)) = false := by simpa using h0
              have e5 : decide (0 < n) = false := by simpa using h0
              generalize R.getD n 0 = z at c4
              generalize Q.getD n 0 = z2 at c3
              clear hji h0
              go_upto_region 15 with fail
              apply wp_region_auto [68, 69, 70, 71, 72, 73, 74, 75, 76, 77, 78, 79, 80, 81, 82, 83, 84, 85, 86, 87, 88, 89, 90, 91, 92, 93, 94, 95, 96, 97, 98, 99, 100, 101, 102, 103] [_, _, _, _, _, _, _, _, _, _, _, _, _, _, _, _, _, _, _, _, _, _, _, _, _, _, _, _, _, _, _, _, _, _, _, _] (fun W' => Below wr.heap.size wr W')
              case hm => kernel_rfl
              case hT => intro y; simp only [setAll, List.setIfInBounds_toArray, List.set_cons_succ, List.set_cons_zero]; exact rfl
              case hok => kernel_rfl
              case hn => decide
              case hw => exact (Below.refl _ _).drew
              case hs =>
                refine auto_op 68 [] (by kernel_rfl) (fun y w' HW hd K hK => ?_) ?_
                · go_simp
                  refine hK _ _ ?_ ?_ HW
                  · simp [upd]
                  · exact rfl
                refine auto_op 69 [] (by kernel_rfl) (fun y w' HW hd K hK => ?_) ?_
                · go_simp
                  refine hK _ _ ?_ ?_ HW
                  · simp [upd]
                  · exact rfl
                refine auto_op 70 [] (by kernel_rfl) (fun y w' HW hd K hK => ?_) ?_
                · go_simp
                  refine hK _ _ ?_ ?_ HW
                  · simp [upd]
                  · exact rfl
                refine auto_op 71 [1, 2] (by kernel_rfl) (fun y w' HW hd K hK => ?_) ?_
                · have e1 := hd_nth (hd 1 (by simp)) rfl
                  have e2 := hd_nth (hd 2 (by simp)) rfl
                  go_simp
                  refine hK _ _ ?_ ?_ HW
                  · simp [upd, e1, e2]
                  · exact rfl
                refine auto_op 72 [3] (by kernel_rfl) (fun y w' HW hd K hK => ?_) ?_
                · have e3 := hd_nth (hd 3 (by simp)) rfl
                  have hcl : ∀ p : Addr, p.block < wr.heap.size → w'.cell? p = wr.cell? p := fun p hp => HW.cell hp
                  go_simp
                  refine hK _ _ ?_ ?_ HW
                  · simp [upd, e3]
                  · exact rfl
                refine auto_op 73 [0, 4] (by kernel_rfl) (fun y w' HW hd K hK => ?_) ?_
                · have e0 := hd_nth (hd 0 (by simp)) rfl
                  have e4 := hd_nth (hd 4 (by simp)) rfl
                  go_simp
                  refine hK _ _ ?_ ?_ HW
                  · simp [upd, e0, e4]
                  · exact rfl
                refine auto_op 74 [5] (by kernel_rfl) (fun y w' HW hd K hK => ?_) ?_
                · have e5 := hd_nth (hd 5 (by simp)) rfl
                  go_simp
                  refine hK _ _ ?_ ?_ HW
                  · simp [upd, e5]
                  · exact rfl
                refine auto_op 75 [6] (by kernel_rfl) (fun y w' HW hd K hK => ?_) ?_
                · have e6 := hd_nth (hd 6 (by simp)) rfl
                  go_simp
                  refine hK _ _ ?_ ?_ HW
                  · simp [upd, e6]
                  · exact rfl
                refine auto_op 76 [7, 6] (by kernel_rfl) (fun y w' HW hd K hK => ?_) ?_
                · have e6 := hd_nth (hd 6 (by simp)) rfl
                  have e7 := hd_nth (hd 7 (by simp)) rfl
                  go_simp
                  refine hK _ _ ?_ ?_ HW
                  · simp [upd, e6, e7]
                  · exact rfl
                refine auto_op 77 [6, 8] (by kernel_rfl) (fun y w' HW hd K hK => ?_) ?_
                · have e6 := hd_nth (hd 6 (by simp)) rfl
                  have e8 := hd_nth (hd 8 (by simp)) rfl
                  go_simp
                  refine hK _ _ ?_ ?_ HW
                  · simp [upd, e6, e8]
                  · exact rfl
                refine auto_op 78 [9, 6] (by kernel_rfl) (fun y w' HW hd K hK => ?_) ?_
                · have e6 := hd_nth (hd 6 (by simp)) rfl
                  have e9 := hd_nth (hd 9 (by simp)) rfl
                  go_simp
                  refine hK _ _ ?_ ?_ HW
                  · simp [upd, e6, e9]
                  · exact rfl
                refine auto_op 79 [10] (by kernel_rfl) (fun y w' HW hd K hK => ?_) ?_
                · have e10 := hd_nth (hd 10 (by simp)) rfl
                  go_simp
                  refine hK _ _ ?_ ?_ HW
                  · simp [upd, e10]
                  · exact rfl
                refine auto_op 80 [11, 10] (by kernel_rfl) (fun y w' HW hd K hK => ?_) ?_
                · have e10 := hd_nth (hd 10 (by simp)) rfl
                  have e11 := hd_nth (hd 11 (by simp)) rfl
                  go_simp
                  refine hK _ _ ?_ ?_ HW
                  · simp [upd, e10, e11]
                  · exact rfl
                refine auto_op 81 [12, 10] (by kernel_rfl) (fun y w' HW hd K hK => ?_) ?_
                · have e10 := hd_nth (hd 10 (by simp)) rfl
                  have e12 := hd_nth (hd 12 (by simp)) rfl
                  have hcl : ∀ p : Addr, p.block < wr.heap.size → w'.cell? p = wr.cell? p := fun p hp => HW.cell hp
                  go_simp
                  refine hK _ _ ?_ ?_ HW
                  · simp [upd, e10, e12]
                  · exact rfl
                refine auto_op 82 [10] (by kernel_rfl) (fun y w' HW hd K hK => ?_) ?_
                · have e10 := hd_nth (hd 10 (by simp)) rfl
                  go_simp
                  refine hK _ _ ?_ ?_ HW
                  · simp [upd, e10]
                  · exact rfl
                refine auto_op 83 [10] (by kernel_rfl) (fun y w' HW hd K hK => ?_) ?_
                · have e10 := hd_nth (hd 10 (by simp)) rfl
                  go_simp
                  refine hK _ _ ?_ ?_ HW
                  · simp [upd, e10]
                  · exact rfl
                refine auto_op 84 [14, 15, 10] (by kernel_rfl) (fun y w' HW hd K hK => ?_) ?_
                · have e10 := hd_nth (hd 10 (by simp)) rfl
                  have e14 := hd_nth (hd 14 (by simp)) rfl
                  have e15 := hd_nth (hd 15 (by simp)) rfl
                  go_simp
                  refine hK _ _ ?_ ?_ HW
                  · simp [upd, e10, e14, e15]
                  · exact rfl
                refine auto_op 85 [16, 10] (by kernel_rfl) (fun y w' HW hd K hK => ?_) ?_
                · have e10 := hd_nth (hd 10 (by simp)) rfl
                  have e16 := hd_nth (hd 16 (by simp)) rfl
                  have hcl : ∀ p : Addr, p.block < wr.heap.size → w'.cell? p = wr.cell? p := fun p hp => HW.cell hp
                  go_simp
                  refine hK _ _ ?_ ?_ HW
                  · simp [upd, e10, e16]
                  · exact rfl
                refine auto_op 86 [13, 17, 10] (by kernel_rfl) (fun y w' HW hd K hK => ?_) ?_
                · have e10 := hd_nth (hd 10 (by simp)) rfl
                  have e13 := hd_nth (hd 13 (by simp)) rfl
                  have e17 := hd_nth (hd 17 (by simp)) rfl
                  go_simp
                  refine hK _ _ ?_ ?_ HW
                  · simp [upd, e10, e13, e17]
                  · exact rfl
                refine auto_op 87 [10, 18] (by kernel_rfl) (fun y w' HW hd K hK => ?_) ?_
                · have e10 := hd_nth (hd 10 (by simp)) rfl
                  have e18 := hd_nth (hd 18 (by simp)) rfl
                  go_simp
                  refine hK _ _ ?_ ?_ HW
                  · simp [upd, e10, e18]
                  · exact rfl
                refine auto_op 88 [19, 10] (by kernel_rfl) (fun y w' HW hd K hK => ?_) ?_
                · have e10 := hd_nth (hd 10 (by simp)) rfl
                  have e19 := hd_nth (hd 19 (by simp)) rfl
                  go_simp
                  refine hK _ _ ?_ ?_ HW
                  · simp [upd, e10, e19]
                  · exact rfl
                refine auto_op 89 [20] (by kernel_rfl) (fun y w' HW hd K hK => ?_) ?_
                · have e20 := hd_nth (hd 20 (by simp)) rfl
                  go_simp
                  refine hK _ _ ?_ ?_ HW
                  · simp [upd, e20]
                  · exact rfl
                refine auto_op 90 [20] (by kernel_rfl) (fun y w' HW hd K hK => ?_) ?_
                · have e20 := hd_nth (hd 20 (by simp)) rfl
                  go_simp
                  refine hK _ _ ?_ ?_ HW
                  · simp [upd, e20]
                  · exact rfl
                refine auto_op 91 [20] (by kernel_rfl) (fun y w' HW hd K hK => ?_) ?_
                · have e20 := hd_nth (hd 20 (by simp)) rfl
                  go_simp
                  refine hK _ _ ?_ ?_ HW
                  · simp [upd, e20]
                  · exact rfl
                refine auto_op 92 [22, 23, 20] (by kernel_rfl) (fun y w' HW hd K hK => ?_) ?_
                · have e20 := hd_nth (hd 20 (by simp)) rfl
                  have e22 := hd_nth (hd 22 (by simp)) rfl
                  have e23 := hd_nth (hd 23 (by simp)) rfl
                  go_simp
                  refine hK _ _ ?_ ?_ HW
                  · simp [upd, e20, e22, e23]
                  · exact rfl
                refine auto_op 93 [24, 20] (by kernel_rfl) (fun y w' HW hd K hK => ?_) ?_
                · have e20 := hd_nth (hd 20 (by simp)) rfl
                  have e24 := hd_nth (hd 24 (by simp)) rfl
                  have hcl : ∀ p : Addr, p.block < wr.heap.size → w'.cell? p = wr.cell? p := fun p hp => HW.cell hp
                  go_simp
                  refine hK _ _ ?_ ?_ HW
                  · simp [upd, e20, e24]
                  · exact rfl
                refine auto_op 94 [21, 25, 20] (by kernel_rfl) (fun y w' HW hd K hK => ?_) ?_
                · have e20 := hd_nth (hd 20 (by simp)) rfl
                  have e21 := hd_nth (hd 21 (by simp)) rfl
                  have e25 := hd_nth (hd 25 (by simp)) rfl
                  go_simp
                  refine hK _ _ ?_ ?_ HW
                  · simp [upd, e20, e21, e25]
                  · exact rfl
                refine auto_op 95 [26, 20, 20] (by kernel_rfl) (fun y w' HW hd K hK => ?_) ?_
                · have e20 := hd_nth (hd 20 (by simp)) rfl
                  have e26 := hd_nth (hd 26 (by simp)) rfl
                  go_simp
                  refine hK _ _ ?_ ?_ HW
                  · simp [upd, e20, e26]
                  · exact rfl
                refine auto_op 96 [27] (by kernel_rfl) (fun y w' HW hd K hK => ?_) ?_
                · have e27 := hd_nth (hd 27 (by simp)) rfl
                  go_simp
                  refine hK _ _ ?_ ?_ HW
                  · simp [upd, e27]
                  · exact rfl
                refine auto_op 97 [28, 27] (by kernel_rfl) (fun y w' HW hd K hK => ?_) ?_
                · have e27 := hd_nth (hd 27 (by simp)) rfl
                  have e28 := hd_nth (hd 28 (by simp)) rfl
                  go_simp
                  refine hK _ _ ?_ ?_ HW
                  · simp [upd, e27, e28]
                  · exact rfl
                refine auto_op 98 [29, 27] (by kernel_rfl) (fun y w' HW hd K hK => ?_) ?_
                · have e27 := hd_nth (hd 27 (by simp)) rfl
                  have e29 := hd_nth (hd 29 (by simp)) rfl
                  have hcl : ∀ p : Addr, p.block < wr.heap.size → w'.cell? p = wr.cell? p := fun p hp => HW.cell hp
                  go_simp
                  refine hK _ _ ?_ ?_ HW
                  · simp [upd, e27, e29]
                  · exact rfl
                refine auto_op 99 [27] (by kernel_rfl) (fun y w' HW hd K hK => ?_) ?_
                · have e27 := hd_nth (hd 27 (by simp)) rfl
                  go_simp
                  refine hK _ _ ?_ ?_ HW
                  · simp [upd, e27]
                  · exact rfl
                refine auto_op 100 [31, 27] (by kernel_rfl) (fun y w' HW hd K hK => ?_) ?_
                · have e27 := hd_nth (hd 27 (by simp)) rfl
                  have e31 := hd_nth (hd 31 (by simp)) rfl
                  go_simp
                  refine hK _ _ ?_ ?_ HW
                  · simp [upd, e27, e31]
                  · exact rfl
                refine auto_op 101 [32, 27] (by kernel_rfl) (fun y w' HW hd K hK => ?_) ?_
                · have e27 := hd_nth (hd 27 (by simp)) rfl
                  have e32 := hd_nth (hd 32 (by simp)) rfl
                  have hcl : ∀ p : Addr, p.block < wr.heap.size → w'.cell? p = wr.cell? p := fun p hp => HW.cell hp
                  go_simp
                  refine hK _ _ ?_ ?_ HW
                  · simp [upd, e27, e32]
                  · exact rfl
                refine auto_op 102 [30, 33, 27] (by kernel_rfl) (fun y w' HW hd K hK => ?_) ?_
                · have e27 := hd_nth (hd 27 (by simp)) rfl
                  have e30 := hd_nth (hd 30 (by simp)) rfl
                  have e33 := hd_nth (hd 33 (by simp)) rfl
                  go_simp
                  refine hK _ _ ?_ ?_ HW
                  · simp [upd, e27, e30, e33]
                  · exact rfl
                refine auto_op 103 [27, 34, 20] (by kernel_rfl) (fun y w' HW hd K hK => ?_) ?_
                · have e20 := hd_nth (hd 20 (by simp)) rfl
                  have e27 := hd_nth (hd 27 (by simp)) rfl
                  have e34 := hd_nth (hd 34 (by simp)) rfl
                  go_simp
                  refine hK _ _ ?_ ?_ HW
                  · simp [upd, e20, e27, e34]
                  · exact rfl
                refine auto_last fun y w' HW hd K hK => ?_
                have e0 := hd_nth (hd 0 (by omega)) rfl
                have e1 := hd_nth (hd 1 (by omega)) rfl
                have e2 := hd_nth (hd 2 (by omega)) rfl
                have e3 := hd_nth (hd 3 (by omega)) rfl
                have e4 := hd_nth (hd 4 (by omega)) rfl
                have e5 := hd_nth (hd 5 (by omega)) rfl
                have e6 := hd_nth (hd 6 (by omega)) rfl
                have e7 := hd_nth (hd 7 (by omega)) rfl
                have e8 := hd_nth (hd 8 (by omega)) rfl
                have e9 := hd_nth (hd 9 (by omega)) rfl
                have e10 := hd_nth (hd 10 (by omega)) rfl
                have e11 := hd_nth (hd 11 (by omega)) rfl
                have e12 := hd_nth (hd 12 (by omega)) rfl
                have e13 := hd_nth (hd 13 (by omega)) rfl
                have e14 := hd_nth (hd 14 (by omega)) rfl
                have e15 := hd_nth (hd 15 (by omega)) rfl
                have e16 := hd_nth (hd 16 (by omega)) rfl
                have e17 := hd_nth (hd 17 (by omega)) rfl
                have e18 := hd_nth (hd 18 (by omega)) rfl
                have e19 := hd_nth (hd 19 (by omega)) rfl
                have e20 := hd_nth (hd 20 (by omega)) rfl
                have e21 := hd_nth (hd 21 (by omega)) rfl
                have e22 := hd_nth (hd 22 (by omega)) rfl
                have e23 := hd_nth (hd 23 (by omega)) rfl
                have e24 := hd_nth (hd 24 (by omega)) rfl
                have e25 := hd_nth (hd 25 (by omega)) rfl
                have e26 := hd_nth (hd 26 (by omega)) rfl
                have e27 := hd_nth (hd 27 (by omega)) rfl
                have e28 := hd_nth (hd 28 (by omega)) rfl
                have e29 := hd_nth (hd 29 (by omega)) rfl
                have e30 := hd_nth (hd 30 (by omega)) rfl
                have e31 := hd_nth (hd 31 (by omega)) rfl
                have e32 := hd_nth (hd 32 (by omega)) rfl
                have e33 := hd_nth (hd 33 (by omega)) rfl
                have e34 := hd_nth (hd 34 (by omega)) rfl
                have e35 := hd_nth (hd 35 (by omega)) rfl
                go_simp
                refine hK _ _ ?_
                clear hd hK K e0 e1 e2 e3 e4 e5 e6 e7 e8 e9 e10 e11 e12 e13 e14 e15 e16 e17 e18 e19 e20 e21 e22 e23 e24 e25 e26 e27 e28 e29 e30 e31 e32 e33 e34 e35
                go_wp2
                go_roundw
                case rel => exact ⟨n + 1, H16.out, by go_num, HV.out.trans (HW.mono HV.out.size)⟩
                case measure => have := H16.out; simp [intOf]; omega
          · have e1 : ((n : Int) == i) = false := by simpa using hji
            have e2 : ((n : Int) != i) = true := by simpa using hji
            rw [HOLD.out n hji] at c3
            generalize R.getD n 0 = z at c3 c4
            clear hji
            go_upto_region 15 with fail
            apply wp_region_auto [68, 69, 70, 71, 72, 73, 74, 75, 76, 77, 78, 79, 80, 81, 82, 83, 84, 85, 86, 87, 88, 89, 90, 91, 92, 93, 94, 95, 96, 97, 98, 99, 100, 101, 102, 103] [_, _, _, _, _, _, _, _, _, _, _, _, _, _, _, _, _, _, _, _, _, _, _, _, _, _, _, _, _, _, _, _, _, _, _, _] (fun W' => Below wr.heap.size wr W')
            case hm => kernel_rfl
            case hT => intro y; simp only [setAll, List.setIfInBounds_toArray, List.set_cons_succ, List.set_cons_zero]; exact rfl
            case hok => kernel_rfl
            case hn => decide
            case hw => exact (Below.refl _ _).drew
            case hs =>
              refine auto_op 68 [] (by kernel_rfl) (fun y w' HW hd K hK => ?_) ?_
              · go_simp
                refine hK _ _ ?_ ?_ HW
                · simp [upd]
                · exact rfl
              refine auto_op 69 [] (by kernel_rfl) (fun y w' HW hd K hK => ?_) ?_
              · go_simp
                refine hK _ _ ?_ ?_ HW
                · simp [upd]
                · exact rfl
              refine auto_op 70 [] (by kernel_rfl) (fun y w' HW hd K hK => ?_) ?_
              · go_simp
                refine hK _ _ ?_ ?_ HW
                · simp [upd]
                · exact rfl
              refine auto_op 71 [1, 2] (by kernel_rfl) (fun y w' HW hd K hK => ?_) ?_
              · have e1 := hd_nth (hd 1 (by simp)) rfl
                have e2 := hd_nth (hd 2 (by simp)) rfl
                go_simp
                refine hK _ _ ?_ ?_ HW
                · simp [upd, e1, e2]
                · exact rfl
              refine auto_op 72 [3] (by kernel_rfl) (fun y w' HW hd K hK => ?_) ?_
              · have e3 := hd_nth (hd 3 (by simp)) rfl
                have hcl : ∀ p : Addr, p.block < wr.heap.size → w'.cell? p = wr.cell? p := fun p hp => HW.cell hp
                go_simp
                refine hK _ _ ?_ ?_ HW
                · simp [upd, e3]
                · exact rfl
              refine auto_op 73 [0, 4] (by kernel_rfl) (fun y w' HW hd K hK => ?_) ?_
              · have e0 := hd_nth (hd 0 (by simp)) rfl
                have e4 := hd_nth (hd 4 (by simp)) rfl
                go_simp
                refine hK _ _ ?_ ?_ HW
                · simp [upd, e0, e4]
                · exact rfl
              refine auto_op 74 [5] (by kernel_rfl) (fun y w' HW hd K hK => ?_) ?_
              · have e5 := hd_nth (hd 5 (by simp)) rfl
                go_simp
                refine hK _ _ ?_ ?_ HW
                · simp [upd, e5]
                · exact rfl
              refine auto_op 75 [6] (by kernel_rfl) (fun y w' HW hd K hK => ?_) ?_
              · have e6 := hd_nth (hd 6 (by simp)) rfl
                go_simp
                refine hK _ _ ?_ ?_ HW
                · simp [upd, e6]
                · exact rfl
              refine auto_op 76 [7, 6] (by kernel_rfl) (fun y w' HW hd K hK => ?_) ?_
              · have e6 := hd_nth (hd 6 (by simp)) rfl
                have e7 := hd_nth (hd 7 (by simp)) rfl
                go_simp
                refine hK _ _ ?_ ?_ HW
                · simp [upd, e6, e7]
                · exact rfl
              refine auto_op 77 [6, 8] (by kernel_rfl) (fun y w' HW hd K hK => ?_) ?_
              · have e6 := hd_nth (hd 6 (by simp)) rfl
                have e8 := hd_nth (hd 8 (by simp)) rfl
                go_simp
                refine hK _ _ ?_ ?_ HW
                · simp [upd, e6, e8]
                · exact rfl
              refine auto_op 78 [9, 6] (by kernel_rfl) (fun y w' HW hd K hK => ?_) ?_
              · have e6 := hd_nth (hd 6 (by simp)) rfl
                have e9 := hd_nth (hd 9 (by simp)) rfl
                go_simp
                refine hK _ _ ?_ ?_ HW
                · simp [upd, e6, e9]
                · exact rfl
              refine auto_op 79 [10] (by kernel_rfl) (fun y w' HW hd K hK => ?_) ?_
              · have e10 := hd_nth (hd 10 (by simp)) rfl
                go_simp
                refine hK _ _ ?_ ?_ HW
                · simp [upd, e10]
                · exact rfl
              refine auto_op 80 [11, 10] (by kernel_rfl) (fun y w' HW hd K hK => ?_) ?_
              · have e10 := hd_nth (hd 10 (by simp)) rfl
                have e11 := hd_nth (hd 11 (by simp)) rfl
                go_simp
                refine hK _ _ ?_ ?_ HW
                · simp [upd, e10, e11]
                · exact rfl
              refine auto_op 81 [12, 10] (by kernel_rfl) (fun y w' HW hd K hK => ?_) ?_
              · have e10 := hd_nth (hd 10 (by simp)) rfl
                have e12 := hd_nth (hd 12 (by simp)) rfl
                have hcl : ∀ p : Addr, p.block < wr.heap.size → w'.cell? p = wr.cell? p := fun p hp => HW.cell hp
                go_simp
                refine hK _ _ ?_ ?_ HW
                · simp [upd, e10, e12]
                · exact rfl
              refine auto_op 82 [10] (by kernel_rfl) (fun y w' HW hd K hK => ?_) ?_
              · have e10 := hd_nth (hd 10 (by simp)) rfl
                go_simp
                refine hK _ _ ?_ ?_ HW
                · simp [upd, e10]
                · exact rfl
              refine auto_op 83 [10] (by kernel_rfl) (fun y w' HW hd K hK => ?_) ?_
              · have e10 := hd_nth (hd 10 (by simp)) rfl
                go_simp
                refine hK _ _ ?_ ?_ HW
                · simp [upd, e10]
                · exact rfl
              refine auto_op 84 [14, 15, 10] (by kernel_rfl) (fun y w' HW hd K hK => ?_) ?_
              · have e10 := hd_nth (hd 10 (by simp)) rfl
                have e14 := hd_nth (hd 14 (by simp)) rfl
                have e15 := hd_nth (hd 15 (by simp)) rfl
                go_simp
                refine hK _ _ ?_ ?_ HW
                · simp [upd, e10, e14, e15]
                · exact rfl
              refine auto_op 85 [16, 10] (by kernel_rfl) (fun y w' HW hd K hK => ?_) ?_
              · have e10 := hd_nth (hd 10 (by simp)) rfl
                have e16 := hd_nth (hd 16 (by simp)) rfl
                have hcl : ∀ p : Addr, p.block < wr.heap.size → w'.cell? p = wr.cell? p := fun p hp => HW.cell hp
                go_simp
                refine hK _ _ ?_ ?_ HW
                · simp [upd, e10, e16]
                · exact rfl
              refine auto_op 86 [13, 17, 10] (by kernel_rfl) (fun y w' HW hd K hK => ?_) ?_
              · have e10 := hd_nth (hd 10 (by simp)) rfl
                have e13 := hd_nth (hd 13 (by simp)) rfl
                have e17 := hd_nth (hd 17 (by simp)) rfl
                go_simp
                refine hK _ _ ?_ ?_ HW
                · simp [upd, e10, e13, e17]
                · exact rfl
              refine auto_op 87 [10, 18] (by kernel_rfl) (fun y w' HW hd K hK => ?_) ?_
              · have e10 := hd_nth (hd 10 (by simp)) rfl
                have e18 := hd_nth (hd 18 (by simp)) rfl
                go_simp
                refine hK _ _ ?_ ?_ HW
                · simp [upd, e10, e18]
                · exact rfl
              refine auto_op 88 [19, 10] (by kernel_rfl) (fun y w' HW hd K hK => ?_) ?_
              · have e10 := hd_nth (hd 10 (by simp)) rfl
                have e19 := hd_nth (hd 19 (by simp)) rfl
                go_simp
                refine hK _ _ ?_ ?_ HW
                · simp [upd, e10, e19]
                · exact rfl
              refine auto_op 89 [20] (by kernel_rfl) (fun y w' HW hd K hK => ?_) ?_
              · have e20 := hd_nth (hd 20 (by simp)) rfl
                go_simp
                refine hK _ _ ?_ ?_ HW
                · simp [upd, e20]
                · exact rfl
              refine auto_op 90 [20] (by kernel_rfl) (fun y w' HW hd K hK => ?_) ?_
              · have e20 := hd_nth (hd 20 (by simp)) rfl
                go_simp
                refine hK _ _ ?_ ?_ HW
                · simp [upd, e20]
                · exact rfl
              refine auto_op 91 [20] (by kernel_rfl) (fun y w' HW hd K hK => ?_) ?_
              · have e20 := hd_nth (hd 20 (by simp)) rfl
                go_simp
                refine hK _ _ ?_ ?_ HW
                · simp [upd, e20]
                · exact rfl
              refine auto_op 92 [22, 23, 20] (by kernel_rfl) (fun y w' HW hd K hK => ?_) ?_
              · have e20 := hd_nth (hd 20 (by simp)) rfl
                have e22 := hd_nth (hd 22 (by simp)) rfl
                have e23 := hd_nth (hd 23 (by simp)) rfl
                go_simp
                refine hK _ _ ?_ ?_ HW
                · simp [upd, e20, e22, e23]
                · exact rfl
              refine auto_op 93 [24, 20] (by kernel_rfl) (fun y w' HW hd K hK => ?_) ?_
              · have e20 := hd_nth (hd 20 (by simp)) rfl
                have e24 := hd_nth (hd 24 (by simp)) rfl
                have hcl : ∀ p : Addr, p.block < wr.heap.size → w'.cell? p = wr.cell? p := fun p hp => HW.cell hp
                go_simp
                refine hK _ _ ?_ ?_ HW
                · simp [upd, e20, e24]
                · exact rfl
              refine auto_op 94 [21, 25, 20] (by kernel_rfl) (fun y w' HW hd K hK => ?_) ?_
              · have e20 := hd_nth (hd 20 (by simp)) rfl
                have e21 := hd_nth (hd 21 (by simp)) rfl
                have e25 := hd_nth (hd 25 (by simp)) rfl
                go_simp
                refine hK _ _ ?_ ?_ HW
                · simp [upd, e20, e21, e25]
                · exact rfl
              refine auto_op 95 [26, 20, 20] (by kernel_rfl) (fun y w' HW hd K hK => ?_) ?_
              · have e20 := hd_nth (hd 20 (by simp)) rfl
                have e26 := hd_nth (hd 26 (by simp)) rfl
                go_simp
                refine hK _ _ ?_ ?_ HW
                · simp [upd, e20, e26]
                · exact rfl
              refine auto_op 96 [27] (by kernel_rfl) (fun y w' HW hd K hK => ?_) ?_
              · have e27 := hd_nth (hd 27 (by simp)) rfl
                go_simp
                refine hK _ _ ?_ ?_ HW
                · simp [upd, e27]
                · exact rfl
              refine auto_op 97 [28, 27] (by kernel_rfl) (fun y w' HW hd K hK => ?_) ?_
              · have e27 := hd_nth (hd 27 (by simp)) rfl
                have e28 := hd_nth (hd 28 (by simp)) rfl
                go_simp
                refine hK _ _ ?_ ?_ HW
                · simp [upd, e27, e28]
                · exact rfl
              refine auto_op 98 [29, 27] (by kernel_rfl) (fun y w' HW hd K hK => ?_) ?_
              · have e27 := hd_nth (hd 27 (by simp)) rfl
                have e29 := hd_nth (hd 29 (by simp)) rfl
                have hcl : ∀ p : Addr, p.block < wr.heap.size → w'.cell? p = wr.cell? p := fun p hp => HW.cell hp
                go_simp
                refine hK _ _ ?_ ?_ HW
                · simp [upd, e27, e29]
                · exact rfl
              refine auto_op 99 [27] (by kernel_rfl) (fun y w' HW hd K hK => ?_) ?_
              · have e27 := hd_nth (hd 27 (by simp)) rfl
                go_simp
                refine hK _ _ ?_ ?_ HW
                · simp [upd, e27]
                · exact rfl
              refine auto_op 100 [31, 27] (by kernel_rfl) (fun y w' HW hd K hK => ?_) ?_
              · have e27 := hd_nth (hd 27 (by simp)) rfl
                have e31 := hd_nth (hd 31 (by simp)) rfl
                go_simp
                refine hK _ _ ?_ ?_ HW
                · simp [upd, e27, e31]
                · exact rfl
              refine auto_op 101 [32, 27] (by kernel_rfl) (fun y w' HW hd K hK => ?_) ?_
              · have e27 := hd_nth (hd 27 (by simp)) rfl
                have e32 := hd_nth (hd 32 (by simp)) rfl
                have hcl : ∀ p : Addr, p.block < wr.heap.size → w'.cell? p = wr.cell? p := fun p hp => HW.cell hp
                go_simp
                refine hK _ _ ?_ ?_ HW
                · simp [upd, e27, e32]
                · exact rfl
              refine auto_op 102 [30, 33, 27] (by kernel_rfl) (fun y w' HW hd K hK => ?_) ?_
              · have e27 := hd_nth (hd 27 (by simp)) rfl
                have e30 := hd_nth (hd 30 (by simp)) rfl
                have e33 := hd_nth (hd 33 (by simp)) rfl
                go_simp
                refine hK _ _ ?_ ?_ HW
                · simp [upd, e27, e30, e33]
                · exact rfl
              refine auto_op 103 [27, 34, 20] (by kernel_rfl) (fun y w' HW hd K hK => ?_) ?_
              · have e20 := hd_nth (hd 20 (by simp)) rfl
                have e27 := hd_nth (hd 27 (by simp)) rfl
                have e34 := hd_nth (hd 34 (by simp)) rfl
                go_simp
                refine hK _ _ ?_ ?_ HW
                · simp [upd, e20, e27, e34]
                · exact rfl
              refine auto_last fun y w' HW hd K hK => ?_
              have e0 := hd_nth (hd 0 (by omega)) rfl
              have e1 := hd_nth (hd 1 (by omega)) rfl
              have e2 := hd_nth (hd 2 (by omega)) rfl
              have e3 := hd_nth (hd 3 (by omega)) rfl
              have e4 := hd_nth (hd 4 (by omega)) rfl
              have e5 := hd_nth (hd 5 (by omega)) rfl
              have e6 := hd_nth (hd 6 (by omega)) rfl
              have e7 := hd_nth (hd 7 (by omega)) rfl
              have e8 := hd_nth (hd 8 (by omega)) rfl
              have e9 := hd_nth (hd 9 (by omega)) rfl
              have e10 := hd_nth (hd 10 (by omega)) rfl
              have e11 := hd_nth (hd 11 (by omega)) rfl
              have e12 := hd_nth (hd 12 (by omega)) rfl
              have e13 := hd_nth (hd 13 (by omega)) rfl
              have e14 := hd_nth (hd 14 (by omega)) rfl
              have e15 := hd_nth (hd 15 (by omega)) rfl
              have e16 := hd_nth (hd 16 (by omega)) rfl
              have e17 := hd_nth (hd 17 (by omega)) rfl
              have e18 := hd_nth (hd 18 (by omega)) rfl
              have e19 := hd_nth (hd 19 (by omega)) rfl
              have e20 := hd_nth (hd 20 (by omega)) rfl
              have e21 := hd_nth (hd 21 (by omega)) rfl
              have e22 := hd_nth (hd 22 (by omega)) rfl
              have e23 := hd_nth (hd 23 (by omega)) rfl
              have e24 := hd_nth (hd 24 (by omega)) rfl
              have e25 := hd_nth (hd 25 (by omega)) rfl
              have e26 := hd_nth (hd 26 (by omega)) rfl
              have e27 := hd_nth (hd 27 (by omega)) rfl
              have e28 := hd_nth (hd 28 (by omega)) rfl
              have e29 := hd_nth (hd 29 (by omega)) rfl
              have e30 := hd_nth (hd 30 (by omega)) rfl
              have e31 := hd_nth (hd 31 (by omega)) rfl
              have e32 := hd_nth (hd 32 (by omega)) rfl
              have e33 := hd_nth (hd 33 (by omega)) rfl
              have e34 := hd_nth (hd 34 (by omega)) rfl
              have e35 := hd_nth (hd 35 (by omega)) rfl
              go_simp
              refine hK _ _ ?_
              clear hd hK K e0 e1 e2 e3 e4 e5 e6 e7 e8 e9 e10 e11 e12 e13 e14 e15 e16 e17 e18 e19 e20 e21 e22 e23 e24 e25 e26 e27 e28 e29 e30 e31 e32 e33 e34 e35
              go_wp2
              go_roundw
              case rel => exact ⟨n + 1, H16.out, by go_num, HV.out.trans (HW.mono HV.out.size)⟩
              case measure => have := H16.out; simp [intOf]; omega
        · have f4 : ¬ (n : Int) < 16 := by omega
          have HFV := Lib.hid (HF7.out.below HV.out HF7.out.1.lt)
          clear hn hn16
          go_wp2
          go_roundw
          case rel => exact ⟨k + 1, Q, H3.out, by go_num, HFV, HZ2, HBV⟩
          case measure => have := H3.out; simp [intOf]; omega
    · have hout : (¬ (k : Int) < (li : Int)) ∨ ((k : Int) < (li : Int) ∧ ¬ (k : Int) < (lv : Int)) ∨ ((k : Int) < (li : Int) ∧ (k : Int) < (lv : Int) ∧ ¬ (k : Int) < 100) := by omega
      rcases hout with f1 | ⟨f1, f2⟩ | ⟨f1, f2, f3⟩
      all_goals
        clear hin hk HX HY
        go_wp2_with fail
        refine (awake_any wr).mono ?_
        rintro e w6 ⟨rfl, hb⟩
        go_wp2
        go_ret
        exact ⟨rfl, HB.out.trans (hb.mono HB.out.size)⟩
end Go.Proofs.Ytpjpobcdedlgbaa.Rg
