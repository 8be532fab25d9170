/- Package desc: the document's Get, Put; bytes of words and back. -/
import Derived.Test.YtkkolbdapoejkaaMs
import Derived.Test.YtkkolbdapoejkaaSu
namespace Go.Proofs.Ytkkolbdapoejkaa.De
open Go.RowKit Go.Shelf Ut Oc
set_option linter.unusedVariables false
set_option maxRecDepth 100000
set_option maxHeartbeats 4000000

theorem words_r32 (zs : List Int) (hz : AreBytes zs) (i : Nat) (hi : i < zs.length / 4) : R32 ((wordsZ zs).getD i 0) := by
  rw [getD_wordsZ zs i hi]
  obtain ⟨q, hq⟩ : ∃ q, (zs.drop (4 * i)).take 4 = q := ⟨_, rfl⟩
  have hl : q.length = 4 := by rw [← hq]; simp; omega
  have hb : AreBytes q := by rw [← hq]; exact (hz.drop _).take _
  rw [hq]
  match q, hl with
  | [b0, b1, b2, b3], _ =>
    have h0 := hb b0 (by simp)
    have h1 := hb b1 (by simp)
    have h2 := hb b2 (by simp)
    have h3 := hb b3 (by simp)
    unfold R32
    simp only [num]
    omega
theorem num_byte (q : List Int) (hl : q.length = 4) (hb : AreBytes q) (j : Nat) (hj : j < 4) : byteN (num q) j = q.getD j 0 := by
  match q, hl with
  | [b0, b1, b2, b3], _ =>
    have h0 := hb b0 (by simp)
    have h1 := hb b1 (by simp)
    have h2 := hb b2 (by simp)
    have h3 := hb b3 (by simp)
    unfold byteN
    match j, hj with
    | 0, _ => simp [num]; omega
    | 1, _ => simp [num]; omega
    | 2, _ => simp [num]; omega
    | 3, _ => simp [num]; omega
/-- bytes that are words are these words' bytes -/
theorem bytes_back (zs : List Int) (hl : zs.length % 4 = 0) (hb : AreBytes zs) : bytesZ (wordsZ zs) = zs := by
  refine ext_getD (by rw [length_bytesZ, length_wordsZ]; omega) fun j hj => ?_
  rw [length_bytesZ, length_wordsZ] at hj
  rw [getD_bytesZ _ _ (by rw [length_wordsZ]; exact hj), getD_wordsZ _ _ (by omega), num_byte _ (by simp; omega) ((hb.drop _).take _) _ (by omega)]
  rw [List.getD_eq_getElem?_getD, List.getD_eq_getElem?_getD, List.getElem?_take_of_lt (by omega), List.getElem?_drop, show 4 * (j / 4) + j % 4 = j by omega]
theorem wordsZ_four (zs : List Int) (hl : zs.length = 16) : wordsZ zs = [(wordsZ zs).getD 0 0, (wordsZ zs).getD 1 0, (wordsZ zs).getD 2 0, (wordsZ zs).getD 3 0] := by
  have h : (wordsZ zs).length = 4 := by rw [length_wordsZ, hl]
  match wordsZ zs, h with
  | [a, b, c, d], _ => rfl
/-- what Get says: either way -/
theorem gt_cases (zs : List Int) (hz : AreBytes zs) : (zs.length = 16 ∧ ∃ a l f n, R32 a ∧ R32 l ∧ R32 f ∧ R32 n ∧ gtV zs = dV a l f n ∧ gtC zs = 0 ∧ bytesZ [a, l, f, n] = zs) ∨ (¬ zs.length = 16 ∧ gtV zs = dV 0 0 0 0 ∧ gtC zs = 6) := by
  by_cases h : zs.length = 16
  · refine .inl ⟨h, _, _, _, _, words_r32 zs hz 0 (by omega), words_r32 zs hz 1 (by omega), words_r32 zs hz 2 (by omega), words_r32 zs hz 3 (by omega), if_pos h, if_pos h, ?_⟩
    rw [← wordsZ_four zs h]
    exact bytes_back zs (by omega) hz
  · exact .inr ⟨h, if_neg h, if_neg h⟩
theorem gt_back (a l f n : Int) (ha : R32 a) (hl : R32 l) (hf : R32 f) (hn : R32 n) : gtV (bytesZ [a, l, f, n]) = dV a l f n ∧ gtC (bytesZ [a, l, f, n]) = 0 := by
  have hz : (bytesZ [a, l, f, n]).length = 16 := by rw [length_bytesZ]; rfl
  have hw : wordsZ (bytesZ [a, l, f, n]) = [a, l, f, n] := words_back0 _ (fun z hz => by
    simp only [List.mem_cons, List.not_mem_nil, or_false] at hz
    rcases hz with rfl | rfl | rfl | rfl <;> assumption)
  unfold gtV gtC
  rw [if_pos hz, if_pos hz, hw]
  exact ⟨rfl, rfl⟩

theorem refPut_any (a l f n : Int) (w : World) (ha : R32 a) (hl : R32 l) (hf : R32 f) (hn : R32 n) : Calls Try.prog 10 #[dV a l f n] w fun e w' => (∃ v, e = .returned v ∧ Hid (Byt w' v (bytesZ [a, l, f, n]))) ∧ Below w.heap.size w w' := by
  obtain ⟨U, hU⟩ : ∃ U, U = w.alloc (.cells #[.int .u32 a, .int .u32 l, .int .u32 f, .int .u32 n] 24) := ⟨_, rfl⟩
  have hB : Below w.heap.size w U := by rw [hU]; exact d_below a l f n w
  have hm : Blk U w.heap.size 24 [.int .u32 a, .int .u32 l, .int .u32 f, .int .u32 n] := by rw [hU]; exact Blk.new w _ _
  have HU := Lib.hid hU
  obtain ⟨V, hV⟩ : ∃ V, V = U.alloc (.cells #[.int .u32 a, .int .u32 l, .int .u32 f, .int .u32 n] 22) := ⟨_, rfl⟩
  have hBV : Below U.heap.size U V := by rw [hV]; exact (Below.refl _ _).alloc (Nat.le_refl _) _
  have hmV : Blk V U.heap.size 22 [.int .u32 a, .int .u32 l, .int .u32 f, .int .u32 n] := by rw [hV]; exact Blk.new U _ _
  have HROW : Hid (RowK .u32 V V.heap.size (some ⟨U.heap.size, 0, none⟩) 4 [a, l, f, n]) := Lib.hid ⟨rfl, fun i hi => ⟨_, rfl, hmV.lt, match i, hi with
    | 0, _ => hmV.cell (j := 0) rfl
    | 1, _ => hmV.cell (j := 1) rfl
    | 2, _ => hmV.cell (j := 2) rfl
    | 3, _ => hmV.cell (j := 3) rfl⟩⟩
  have HBD : Hid (∀ z ∈ [a, l, f, n], 0 ≤ z ∧ z < 4294967296) := Lib.hid fun z hz => by
    simp only [List.mem_cons, List.not_mem_nil, or_false] at hz
    rcases hz with rfl | rfl | rfl | rfl <;> assumption
  have HBB := Lib.hid (hB.trans (hBV.mono hB.size))
  have HV := Lib.hid hV
  have m0 := hm.cell (j := 0) rfl
  have m1 := hm.cell (j := 1) rfl
  have m2 := hm.cell (j := 2) rfl
  have m3 := hm.cell (j := 3) rfl
  have ml := hm.lt
  clear hU hB hm hV hBV hmV
  go_enter Try.func10, Try.ntmps10
  go_upto_region 1 with fail
  rw [← HU.out]
  clear HU
  go_wp2_with fail
  rw [← HV.out]
  refine (refBytes_any (some ⟨U.heap.size, 0, none⟩) 4 4 [a, l, f, n] V (by omega) HROW.out HBD.out).mono ?_
  rintro e w1 ⟨v, rfl, ho, hb⟩
  have HO : Hid (Byt w1 v (bytesZ [a, l, f, n])) := by
    obtain ⟨x, c, rfl, h1, h2, h3⟩ := ho.row
    refine Lib.hid ⟨x, c, ?_, ?_, h2, ?_⟩
    · rw [length_bytesZ]; rfl
    · rw [length_bytesZ]; exact h1
    · rw [length_bytesZ]; exact h3
  have HB1 := Lib.hid (HBB.out.trans (hb.mono HBB.out.size))
  clear m0 m1 m2 m3 ml ho hb
  go_wp2
  go_ret
  exact ⟨⟨_, rfl, HO⟩, HB1.out⟩

theorem refGet_e (a : Option Addr) (n cap : Nat) (zs : List Int) (w : World) (hn : n ≤ 140737488355328) (hr : RowK .u8 w w.heap.size a n zs) (hz : AreBytes zs) : Calls Try.prog 8 #[.slice a n cap] w fun e w' => e = .returned (.tuple #[gtV zs, .int .i64 (gtC zs)]) ∧ Below w.heap.size w w' := by
  obtain ⟨U, hU⟩ : ∃ U, U = w.alloc (.cells #[.int .u32 0, .int .u32 0, .int .u32 0, .int .u32 0] 24) := ⟨_, rfl⟩
  have hB : Below w.heap.size w U := by rw [hU]; exact d_below 0 0 0 0 w
  have hm : Blk U w.heap.size 24 [.int .u32 0, .int .u32 0, .int .u32 0, .int .u32 0] := by rw [hU]; exact Blk.new w _ _
  have HU := Lib.hid hU
  have HB := Lib.hid hB
  have HM := Lib.hid hm
  have HR := Lib.hid ((hr.below hB).more hB.size)
  have hlen := hr.1
  have m0 := hm.cell (j := 0) rfl
  have m1 := hm.cell (j := 1) rfl
  have m2 := hm.cell (j := 2) rfl
  have m3 := hm.cell (j := 3) rfl
  have f0 := hm.frozen 0
  have f1 := hm.frozen 1
  have f2 := hm.frozen 2
  have f3 := hm.frozen 3
  have ml := hm.lt
  clear hU hB hm hr
  by_cases h16 : n = 16
  · have HW4 := Lib.hid (refWords_any a n cap zs U hn HR.out hz)
    obtain ⟨x0, hx0⟩ : ∃ x, (wordsZ zs).getD 0 0 = x := ⟨_, rfl⟩
    obtain ⟨x1, hx1⟩ : ∃ x, (wordsZ zs).getD 1 0 = x := ⟨_, rfl⟩
    obtain ⟨x2, hx2⟩ : ∃ x, (wordsZ zs).getD 2 0 = x := ⟨_, rfl⟩
    obtain ⟨x3, hx3⟩ : ∃ x, (wordsZ zs).getD 3 0 = x := ⟨_, rfl⟩
    have hg : gtV zs = dV x0 x1 x2 x3 := by unfold gtV; rw [if_pos (hlen.trans h16), hx0, hx1, hx2, hx3]
    have hgc : gtC zs = 0 := by unfold gtC; rw [if_pos (hlen.trans h16)]
    rw [hg, hgc]
    have HX := Lib.hid (And.intro hx0 (And.intro hx1 (And.intro hx2 hx3)))
    clear hg hgc hx0 hx1 hx2 hx3 hlen
    subst h16
    go_enter Try.func8, Try.ntmps8
    go_upto_region 1 with fail
    rw [← HU.out]
    clear HU
    go_wp2_with fail
    refine HW4.out.mono ?_
    rintro e V ⟨v, rfl, ho, hb⟩
    obtain ⟨g, c, rfl, hg1, hg2, hg3, hg4⟩ := ho.form (by omega)
    have HG1 : Hid (w.heap.size ≠ g) := Lib.hid (by omega)
    obtain ⟨y0, y1, y2, y3⟩ := HX.out
    have g0 := ho.cellAt 0 (by omega)
    have g1 := ho.cellAt 1 (by omega)
    have g2 := ho.cellAt 2 (by omega)
    have g3 := ho.cellAt 3 (by omega)
    rw [y0] at g0
    rw [y1] at g1
    rw [y2] at g2
    rw [y3] at g3
    have HM2 := Lib.hid (HM.out.below hb HM.out.lt)
    have HB2 := Lib.hid (HB.out.trans (hb.mono HB.out.size))
    clear hb y0 y1 y2 y3 HX ho HW4 m0 m1 m2 m3 f0 f1 f2 f3 ml hg1 HM HB HR
    have c4 : (4 : Int) ≤ (c : Int) := by omega
    go_upto_region 4 with fail
    apply wp_region_x [11, 12, 13, 14, 15, 16, 17, 18, 19, 20, 21, 22, 23, 60] [_, _, _, _, _, _, _, _, _, _, _, _, _, undef] [] (fun L_ x_ W' => Kq [w.heap.size] V W' ∧ Blk W' w.heap.size 24 (cond (L_ 13) [.int .u32 x0, .int .u32 x1, .int .u32 x2, .int .u32 x3] [.int .u32 0, .int .u32 0, .int .u32 0, .int .u32 0]))
    case hm => kernel_rfl
    case hT => intro y; simp only [setAll, List.setIfInBounds_toArray, List.set_cons_succ, List.set_cons_zero, List.set_nil]; exact rfl
    case hok => kernel_rfl
    case hn => decide
    case hw => exact (fun L_ x_ h0 => ⟨Kq.of_below ((Below.refl _ _).drew), by rw [h0 13 (by decide)]; exact HM2.out.below (Below.refl _ _).drew HM2.out.lt⟩)
    case hs =>
      refine x_op 11 [] (by kernel_rfl) (fun L y w' hL hC HW hd K hK => ?_) ?_
      · go_simp
        refine hK _ _ ?_ ?_ HW
        · simp [upd]
        · exact rfl
      refine x_op 12 [0] (by kernel_rfl) (fun L y w' hL hC HW hd K hK => ?_) ?_
      · have e0 := xR_nth (hd 0 (by simp)).2 rfl rfl
        go_simp
        refine hK _ _ ?_ ?_ HW
        · simp [upd, e0]
        · exact rfl
      refine x_op 13 [1] (by kernel_rfl) (fun L y w' hL hC HW hd K hK => ?_) ?_
      · have e1 := xR_nth (hd 1 (by simp)).2 rfl rfl
        have g0 := (HW.1.cell (p := ⟨g, 0, none⟩) hg2 (by have := HG1.out; simp; omega)).trans g0
        have gl := Nat.lt_of_lt_of_le hg2 HW.1.size
        go_simp
        refine hK _ _ ?_ ?_ HW
        · simp [upd, e1]
        · exact rfl
      refine x_op 14 [] (by kernel_rfl) (fun L y w' hL hC HW hd K hK => ?_) ?_
      · go_simp
        refine hK _ _ ?_ ?_ HW
        · simp [upd]
        · exact rfl
      refine x_op 15 [3] (by kernel_rfl) (fun L y w' hL hC HW hd K hK => ?_) ?_
      · have e3 := xR_nth (hd 3 (by simp)).2 rfl rfl
        go_simp
        refine hK _ _ ?_ ?_ HW
        · simp [upd, e3]
        · exact rfl
      refine x_op 16 [4] (by kernel_rfl) (fun L y w' hL hC HW hd K hK => ?_) ?_
      · have e4 := xR_nth (hd 4 (by simp)).2 rfl rfl
        have g1 := (HW.1.cell (p := ⟨g, 1, none⟩) hg2 (by have := HG1.out; simp; omega)).trans g1
        have gl := Nat.lt_of_lt_of_le hg2 HW.1.size
        go_simp
        refine hK _ _ ?_ ?_ HW
        · simp [upd, e4]
        · exact rfl
      refine x_op 17 [] (by kernel_rfl) (fun L y w' hL hC HW hd K hK => ?_) ?_
      · go_simp
        refine hK _ _ ?_ ?_ HW
        · simp [upd]
        · exact rfl
      refine x_op 18 [6] (by kernel_rfl) (fun L y w' hL hC HW hd K hK => ?_) ?_
      · have e6 := xR_nth (hd 6 (by simp)).2 rfl rfl
        go_simp
        refine hK _ _ ?_ ?_ HW
        · simp [upd, e6]
        · exact rfl
      refine x_op 19 [7] (by kernel_rfl) (fun L y w' hL hC HW hd K hK => ?_) ?_
      · have e7 := xR_nth (hd 7 (by simp)).2 rfl rfl
        have g2 := (HW.1.cell (p := ⟨g, 2, none⟩) hg2 (by have := HG1.out; simp; omega)).trans g2
        have gl := Nat.lt_of_lt_of_le hg2 HW.1.size
        go_simp
        refine hK _ _ ?_ ?_ HW
        · simp [upd, e7]
        · exact rfl
      refine x_op 20 [] (by kernel_rfl) (fun L y w' hL hC HW hd K hK => ?_) ?_
      · go_simp
        refine hK _ _ ?_ ?_ HW
        · simp [upd]
        · exact rfl
      refine x_op 21 [9] (by kernel_rfl) (fun L y w' hL hC HW hd K hK => ?_) ?_
      · have e9 := xR_nth (hd 9 (by simp)).2 rfl rfl
        go_simp
        refine hK _ _ ?_ ?_ HW
        · simp [upd, e9]
        · exact rfl
      refine x_op 22 [10] (by kernel_rfl) (fun L y w' hL hC HW hd K hK => ?_) ?_
      · have e10 := xR_nth (hd 10 (by simp)).2 rfl rfl
        have g3 := (HW.1.cell (p := ⟨g, 3, none⟩) hg2 (by have := HG1.out; simp; omega)).trans g3
        have gl := Nat.lt_of_lt_of_le hg2 HW.1.size
        go_simp
        refine hK _ _ ?_ ?_ HW
        · simp [upd, e10]
        · exact rfl
      refine x_op 23 [2, 5, 8, 11] (by kernel_rfl) (fun L y w' hL hC HW hd K hK => ?_) ?_
      · have e2 := xR_nth (hd 2 (by simp)).2 rfl rfl
        have e5 := xR_nth (hd 5 (by simp)).2 rfl rfl
        have e8 := xR_nth (hd 8 (by simp)).2 rfl rfl
        have e11 := xR_nth (hd 11 (by simp)).2 rfl rfl
        go_simp
        refine hK _ _ ?_ ?_ HW
        · simp [upd, e2, e5, e8, e11]
        · exact rfl
      refine x_op 60 [12, 0, 1, 2, 3, 4, 5, 6, 7, 8, 9, 10, 11, 12] (by kernel_rfl) (fun L y w' hL hC HW hd K hK => ?_) ?_
      · have e0 := xR_nth (hd 0 (by simp)).2 rfl rfl
        have e1 := xR_nth (hd 1 (by simp)).2 rfl rfl
        have e2 := xR_nth (hd 2 (by simp)).2 rfl rfl
        have e3 := xR_nth (hd 3 (by simp)).2 rfl rfl
        have e4 := xR_nth (hd 4 (by simp)).2 rfl rfl
        have e5 := xR_nth (hd 5 (by simp)).2 rfl rfl
        have e6 := xR_nth (hd 6 (by simp)).2 rfl rfl
        have e7 := xR_nth (hd 7 (by simp)).2 rfl rfl
        have e8 := xR_nth (hd 8 (by simp)).2 rfl rfl
        have e9 := xR_nth (hd 9 (by simp)).2 rfl rfl
        have e10 := xR_nth (hd 10 (by simp)).2 rfl rfl
        have e11 := xR_nth (hd 11 (by simp)).2 rfl rfl
        have e12 := xR_nth (hd 12 (by simp)).2 rfl rfl
        have hb := HW.2
        rw [hL] at hb
        have z0 := hb.cell (j := 0) rfl
        have z1 := hb.cell (j := 1) rfl
        have z2 := hb.cell (j := 2) rfl
        have z3 := hb.cell (j := 3) rfl
        have y0 := hb.frozen 0
        have y1 := hb.frozen 1
        have y2 := hb.frozen 2
        have y3 := hb.frozen 3
        have zl := hb.lt
        go_simp
        refine hK _ _ ?_ ?_ ⟨(((HW.1.setCell w.heap.size 0 (.int .u32 x0) (.inl (by simp))).setCell w.heap.size 1 (.int .u32 x1) (.inl (by simp))).setCell w.heap.size 2 (.int .u32 x2) (.inl (by simp))).setCell w.heap.size 3 (.int .u32 x3) (.inl (by simp)), (((hb.set 0 (.int .u32 x0)).set 1 (.int .u32 x1)).set 2 (.int .u32 x2)).set 3 (.int .u32 x3)⟩
        · simp [upd, e0, e1, e2, e3, e4, e5, e6, e7, e8, e9, e10, e11, e12]
        · exact rfl
      refine x_last fun L y w' hLs HW hd K hK => ?_
      have e0 := xR_nth (hd 0 (by omega)) rfl rfl
      have e1 := xR_nth (hd 1 (by omega)) rfl rfl
      have e2 := xR_nth (hd 2 (by omega)) rfl rfl
      have e3 := xR_nth (hd 3 (by omega)) rfl rfl
      have e4 := xR_nth (hd 4 (by omega)) rfl rfl
      have e5 := xR_nth (hd 5 (by omega)) rfl rfl
      have e6 := xR_nth (hd 6 (by omega)) rfl rfl
      have e7 := xR_nth (hd 7 (by omega)) rfl rfl
      have e8 := xR_nth (hd 8 (by omega)) rfl rfl
      have e9 := xR_nth (hd 9 (by omega)) rfl rfl
      have e10 := xR_nth (hd 10 (by omega)) rfl rfl
      have e11 := xR_nth (hd 11 (by omega)) rfl rfl
      have e12 := xR_nth (hd 12 (by omega)) rfl rfl
      rw [hLs 13 (by decide)] at HW
      have HK9 := Lib.hid HW.1
      have HM9 := Lib.hid HW.2
      go_simp
      refine hK _ _ ?_
      clear hd hK K HW hLs
      have r0 := HM9.out.cell (j := 0) rfl
      have r1 := HM9.out.cell (j := 1) rfl
      have r2 := HM9.out.cell (j := 2) rfl
      have r3 := HM9.out.cell (j := 3) rfl
      have rl := HM9.out.lt
      have HB9 := Lib.hid (HB2.out.trans (HK9.out.under (B := w.heap.size) (by simp) HB2.out.size))
      clear g0 g1 g2 g3 HM2 HB2
      go_wp2
      exact bodyPost_ret (v := .tuple #[dV x0 x1 x2 x3, .int .i64 0]) (by simp [results, Try.results8, go_sem, r0, r1, r2, r3]) rfl ⟨rfl, HB9.out⟩
  · have hg : gtV zs = dV 0 0 0 0 := by unfold gtV; rw [if_neg (by rw [hlen]; exact h16)]
    have hgc : gtC zs = 6 := by unfold gtC; rw [if_neg (by rw [hlen]; exact h16)]
    rw [hg, hgc]
    have HPUT : Hid (∀ (v0 v1 v2 v3 : Value), Below w.heap.size w ((((U.setCell ⟨w.heap.size, 0, none⟩ v0).setCell ⟨w.heap.size, 1, none⟩ v1).setCell ⟨w.heap.size, 2, none⟩ v2).setCell ⟨w.heap.size, 3, none⟩ v3)) := Lib.hid fun v0 v1 v2 v3 =>
      (((HB.out.setCell (Nat.le_refl _) v0).setCell (Nat.le_refl _) v1).setCell (Nat.le_refl _) v2).setCell (Nat.le_refl _) v3
    have hi : ¬ (n : Int) = 16 := by omega
    clear hg hgc hlen HR HM
    go_enter Try.func8, Try.ntmps8
    go_upto_region 1 with fail
    rw [← HU.out]
    clear HU
    go_wp2
    exact bodyPost_ret (v := .tuple #[dV 0 0 0 0, .int .i64 6]) (by simp [results, Try.results8, go_sem, m0, m1, m2, m3]) rfl ⟨rfl, HPUT.out _ _ _ _⟩
theorem refGet_d (a : Option Addr) (n cap : Nat) (zs : List Int) (w : World) (hnc : n ≤ cap) (hn : n ≤ 140737488355328) (hc : cap ≤ 9223372036854775807) (hr : RowK .u8 w w.heap.size a n zs) (hz : AreBytes zs) : Calls Try.prog 8 #[.slice a n cap] w fun e w' => e = .returned (.tuple #[gtV zs, .int .i64 (gtC zs)]) ∧ Below w.heap.size w w' := refGet_e a n cap zs w hn hr hz
end Go.Proofs.Ytkkolbdapoejkaa.De
