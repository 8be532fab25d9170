/- Package desc: what the program keeps (DescC): Get, Put, Check, Sized, Size, Right. -/
import Derived.Test.YtkkolbdapoejkaaMt
import Derived.Laws.BitsAllLaws
namespace Go.Proofs.Ytkkolbdapoejkaa.De
open Go.RowKit Go.Shelf Ut Oc
set_option linter.unusedVariables false
set_option maxRecDepth 100000
set_option maxHeartbeats 4000000

theorem sized21_any (n : Int) (w : World) : Calls Try.prog 13 #[.int .i64 n] w fun e w' => e = .returned (.bool (szB n)) ∧ Below w.heap.size w w' := by
  rcases szB_cases n with ⟨rfl, h⟩ | ⟨rfl, h⟩ | ⟨rfl, h⟩ | ⟨h2, h4, h8, h⟩
  all_goals
    rw [h]
    clear h
    go_enter Try.func13, Try.ntmps13
    go_wp2
    go_ret
    exact ⟨rfl, Below.refl _ _⟩
theorem size21_any (p n : Int) (w : World) : Calls Try.prog 15 #[.int .i64 p, .int .i64 n] w fun e w' => e = .returned (.int .i64 (szF p n)) ∧ Below w.heap.size w w' := by
  have HS := Lib.hid (sized21_any n w)
  unfold szF
  rcases szB_cases n with ⟨rfl, h⟩ | ⟨rfl, h⟩ | ⟨rfl, h⟩ | ⟨h2, h4, h8, h⟩
  all_goals
    rw [h] at HS ⊢
    by_cases p0 : p = 0 <;> by_cases p1 : p = 1 <;> by_cases p2 : p = 2 <;> try subst p0 <;> try subst p1 <;> try subst p2
  all_goals
    first
    | (exfalso; omega)
    | skip
  all_goals
    try simp only [p0, p1, p2, if_true, if_false, Bool.false_eq_true]
    clear h
    go_enter Try.func15, Try.ntmps15
    go_wp2_with fail
    refine HS.out.mono ?_
    rintro e w1 ⟨rfl, hb⟩
    have HB := Lib.hid hb
    clear hb
    go_wp2
    go_ret
    exact ⟨rfl, HB.out⟩
theorem below21_any (x k : Int) (w : World) (hx : R32 x) : Calls Try.prog 24 #[.int .u32 x, .int .i64 k] w fun e w' => e = .returned (.bool (decide (x < k))) ∧ w = w' := by
  obtain ⟨h0, h1⟩ := hx
  go_enter Try.func24, Try.ntmps24
  go_wp2
  go_ret
  exact ⟨rfl, rfl⟩
theorem word21_any (x : Int) (w : World) (hx : R32 x) : Calls Try.prog 25 #[.int .u32 x] w fun e w' => e = .returned (.bool (x % 4 == 0)) ∧ w = w' := by
  obtain ⟨h0, h1⟩ := hx
  go_enter Try.func25, Try.ntmps25
  go_wp2
  go_ret
  exact ⟨rfl, rfl⟩
theorem flags_three (f : Int) (h : R32 f) : (3 < f → ¬ bits .andNot .u32 f 3 = 0) ∧ (¬ 3 < f → bits .andNot .u32 f 3 = 0) := by
  obtain ⟨x, rfl⟩ := Int.eq_ofNat_of_zero_le h.1
  have hx : x < 4294967296 := by have := h.2; omega
  have e : bits .andNot .u32 (x : Int) 3 = ((4 * (x / 4) : Nat) : Int) := by
    rw [show (3 : Int) = ((3 : Nat) : Int) from rfl, u32_andNot_nat x 3 hx (by omega)]
    refine congrArg _ ?_
    have h1 : (x &&& 4294967292) % 4 = 0 := by
      have := Nat.and_mod_two_pow (a := x) (b := 4294967292) (n := 2)
      rw [show (4294967292 : Nat) % 2 ^ 2 = 0 from rfl, Nat.and_zero] at this
      exact this
    have h2 : (x &&& 4294967292) / 4 = x / 4 &&& 1073741823 := Nat.and_div_two_pow (a := x) (b := 4294967292) (n := 2)
    have h3 : x / 4 &&& 1073741823 = x / 4 % 2 ^ 30 := Nat.and_two_pow_sub_one_eq_mod (x / 4) 30
    have h4 : x / 4 % 2 ^ 30 = x / 4 := Nat.mod_eq_of_lt (by omega)
    show x &&& 4294967292 = 4 * (x / 4)
    omega
  rw [e]
  constructor <;> intro h3 <;> omega
theorem flag_one (f : Int) (h : R32 f) : bits .and .u32 f 1 = f % 2 := by
  obtain ⟨x, rfl⟩ := Int.eq_ofNat_of_zero_le h.1
  have hx : x < 4294967296 := by have := h.2; omega
  rw [show (1 : Int) = ((1 : Nat) : Int) from rfl, u32_and_nat x 1 hx (by omega), Nat.and_one_is_mod]
  omega
theorem check21_any (a l f n k : Int) (w : World) (hl : R32 l) (hf : R32 f) (hn : R32 n) : Calls Try.prog 11 #[dV a l f n, .int .i64 k] w fun e w' => e = .returned (.int .i64 (ckF l f n k)) ∧ Below w.heap.size w w' := by
  have HB := Lib.hid (d_below a l f n w)
  have HN := Lib.hid (fun W => below21_any n k W hn)
  obtain ⟨t1, t2⟩ := flags_three f hf
  have t3 := flag_one f hf
  obtain ⟨l0, l1⟩ := hl
  obtain ⟨f0, f1⟩ := hf
  obtain ⟨n0, n1⟩ := hn
  unfold ckF
  by_cases c1 : 3 < f
  · rw [if_pos c1]
    have t := t1 c1
    clear t1 t2 t3
    go_enter Try.func11, Try.ntmps11
    go_wp2
    go_ret
    exact ⟨rfl, HB.out⟩
  rw [if_neg c1]
  have t := t2 c1
  clear t1 t2
  by_cases c2 : 64 < l
  · rw [if_pos c2]
    clear t3
    go_enter Try.func11, Try.ntmps11
    go_wp2
    go_ret
    exact ⟨rfl, HB.out⟩
  rw [if_neg c2]
  by_cases c3 : f % 2 = 1
  · have t4 : ¬ bits .and .u32 f 1 = 0 := by omega
    clear t3
    by_cases c4 : k ≤ n
    · rw [if_pos ⟨c3, c4⟩]
      rw [show decide (n < k) = false from decide_eq_false (by omega)] at HN
      clear c3
      go_enter Try.func11, Try.ntmps11
      go_wp2_with (go_at_call 24; refine (HN.out _).mono ?_; rintro e w' ⟨rfl, rfl⟩)
      go_ret
      exact ⟨rfl, HB.out⟩
    · rw [if_neg (fun h => c4 h.2)]
      rw [show decide (n < k) = true from decide_eq_true (by omega)] at HN
      clear c3
      go_enter Try.func11, Try.ntmps11
      go_wp2_with (go_at_call 24; refine (HN.out _).mono ?_; rintro e w' ⟨rfl, rfl⟩)
      go_ret
      exact ⟨rfl, HB.out⟩
  · rw [if_neg (fun h => c3 h.1)]
    have t4 : bits .and .u32 f 1 = 0 := by omega
    clear t3 c3
    go_enter Try.func11, Try.ntmps11
    go_wp2
    go_ret
    exact ⟨rfl, HB.out⟩
theorem right21_p (d a u n : Int) (w : World) (hd : R32 d) (ha : R32 a) (hu : R32 u) : Calls Try.prog 17 #[rV d a u n] w fun e w' => e = .returned (.bool (rtB d a u n)) ∧ Below w.heap.size w w' := by
  obtain ⟨U, hU⟩ : ∃ U, U = w.alloc (.cells #[.int .u32 d, .int .u32 a, .int .u32 u, .int .i64 n] 27) := ⟨_, rfl⟩
  have hB : Below w.heap.size w U := by rw [hU]; exact r_below d a u n w
  have hm : Blk U w.heap.size 27 [.int .u32 d, .int .u32 a, .int .u32 u, .int .i64 n] := by rw [hU]; exact Blk.new w _ _
  have HU := Lib.hid hU
  have HB := Lib.hid hB
  have HM := Lib.hid hm
  have HS := Lib.hid (sized21_any n U)
  have HD := Lib.hid (fun W => word21_any d W hd)
  have HA := Lib.hid (fun W => word21_any a W ha)
  have HW := Lib.hid (fun W => word21_any u W hu)
  unfold rtB
  obtain ⟨t, ht⟩ : ∃ t, szB n = t := ⟨_, rfl⟩
  obtain ⟨td, htd⟩ : ∃ t, (d % 4 == 0) = t := ⟨_, rfl⟩
  obtain ⟨ta, hta⟩ : ∃ t, (a % 4 == 0) = t := ⟨_, rfl⟩
  obtain ⟨tu, htu⟩ : ∃ t, (u % 4 == 0) = t := ⟨_, rfl⟩
  rw [ht] at HS ⊢
  rw [htd] at HD ⊢
  rw [hta] at HA ⊢
  rw [htu] at HW ⊢
  have m3 := hm.cell (j := 3) rfl
  have ml := hm.lt
  clear hU hB hm ht htd hta htu
  cases t
  · go_enter Try.func17, Try.ntmps17
    go_upto_region 1 with fail
    rw [← HU.out]
    clear HU
    go_wp2_with fail
    refine HS.out.mono ?_
    rintro e w1 ⟨rfl, hb⟩
    have HB1 := Lib.hid (HB.out.trans (hb.mono HB.out.size))
    clear hb m3 ml
    go_wp2
    go_ret
    exact ⟨rfl, HB1.out⟩
  · go_enter Try.func17, Try.ntmps17
    go_upto_region 1 with fail
    rw [← HU.out]
    clear HU
    go_wp2_with fail
    refine HS.out.mono ?_
    rintro e w1 ⟨rfl, hb⟩
    have HB1 := Lib.hid (HB.out.trans (hb.mono HB.out.size))
    have hm := HM.out.below hb HM.out.lt
    clear hb m3 ml
    have m0 := hm.cell (j := 0) rfl
    have m1 := hm.cell (j := 1) rfl
    have m2 := hm.cell (j := 2) rfl
    have ml := hm.lt
    clear hm
    cases td
    · go_wp2_with (go_at_call 25; refine (HD.out _).mono ?_; rintro e w' ⟨rfl, rfl⟩)
      go_ret
      exact ⟨rfl, HB1.out⟩
    · go_wp2_with fail
      refine (HD.out _).mono ?_
      rintro e w' ⟨rfl, rfl⟩
      cases ta
      · go_wp2_with (go_at_call 25; refine (HA.out _).mono ?_; rintro e w' ⟨rfl, rfl⟩)
        go_ret
        exact ⟨rfl, HB1.out⟩
      · go_wp2_with fail
        refine (HA.out _).mono ?_
        rintro e w' ⟨rfl, rfl⟩
        cases tu
        · go_wp2_with (go_at_call 25; refine (HW.out _).mono ?_; rintro e w' ⟨rfl, rfl⟩)
          go_ret
          exact ⟨rfl, HB1.out⟩
        · go_wp2_with (go_at_call 25; refine (HW.out _).mono ?_; rintro e w' ⟨rfl, rfl⟩)
          go_ret
          exact ⟨rfl, HB1.out⟩

theorem get21_any (a : Option Addr) (n cap : Nat) (zs : List Int) (w : World) (hnc : n ≤ cap) (hn : n ≤ 140737488355328) (hc : cap ≤ 9223372036854775807) (hr : RowK .u8 w w.heap.size a n zs) (hz : AreBytes zs) : Calls Try.prog 7 #[.slice a n cap] w fun e w' => e = .returned (.tuple #[gtV zs, .int .i64 (gtC zs)]) ∧ Below w.heap.size w w' := by
  obtain ⟨U, hU⟩ : ∃ U, U = w.alloc (.cells #[.int .u32 0, .int .u32 0, .int .u32 0, .int .u32 0] 24) := ⟨_, rfl⟩
  have hB : Below w.heap.size w U := by rw [hU]; exact d_below 0 0 0 0 w
  have hm : Blk U w.heap.size 24 [.int .u32 0, .int .u32 0, .int .u32 0, .int .u32 0] := by rw [hU]; exact Blk.new w _ _
  have HU := Lib.hid hU
  have HB := Lib.hid hB
  have HM := Lib.hid hm
  have HR := Lib.hid ((hr.below hB).more hB.size)
  have hlen := hr.1
  have m0 := hm.cell (j := 0) rfl
  have m1 := hm.cell (j := 1) rfl
  have m2 := hm.cell (j := 2) rfl
  have m3 := hm.cell (j := 3) rfl
  have f0 := hm.frozen 0
  have f1 := hm.frozen 1
  have f2 := hm.frozen 2
  have f3 := hm.frozen 3
  have ml := hm.lt
  clear hU hB hm hr
  by_cases h16 : n = 16
  · have HW4 := Lib.hid (words_any a n cap zs U hnc hn hc HR.out hz)
    rw [show n / 4 = 4 by omega] at HW4
    obtain ⟨x0, hx0⟩ : ∃ x, (wordsZ zs).getD 0 0 = x := ⟨_, rfl⟩
    obtain ⟨x1, hx1⟩ : ∃ x, (wordsZ zs).getD 1 0 = x := ⟨_, rfl⟩
    obtain ⟨x2, hx2⟩ : ∃ x, (wordsZ zs).getD 2 0 = x := ⟨_, rfl⟩
    obtain ⟨x3, hx3⟩ : ∃ x, (wordsZ zs).getD 3 0 = x := ⟨_, rfl⟩
    have hg : gtV zs = dV x0 x1 x2 x3 := by unfold gtV; rw [if_pos (hlen.trans h16), hx0, hx1, hx2, hx3]
    have hgc : gtC zs = 0 := by unfold gtC; rw [if_pos (hlen.trans h16)]
    rw [hg, hgc]
    have HX := Lib.hid (And.intro hx0 (And.intro hx1 (And.intro hx2 hx3)))
    clear hg hgc hx0 hx1 hx2 hx3 hlen
    subst h16
    go_enter Try.func7, Try.ntmps7
    go_upto_region 1 with fail
    rw [← HU.out]
    clear HU
    go_wp2_with fail
    refine HW4.out.mono ?_
    rintro e V ⟨rfl, ho, hb⟩
    obtain ⟨g, hg⟩ : ∃ g, U.heap.size = g := ⟨_, rfl⟩
    rw [hg] at ho ⊢
    have hg2 : g < V.heap.size := by obtain ⟨x, e1, e2, _⟩ := ho.2 0 (by omega); cases e1; exact e2
    have HG1 : Hid (w.heap.size ≠ g) := Lib.hid (by omega)
    obtain ⟨y0, y1, y2, y3⟩ := HX.out
    have g0 : V.cell? ⟨g, 0, none⟩ = some (.int .u32 ((wordsZ zs).getD 0 0)) := by obtain ⟨x, e1, _, e3⟩ := ho.2 0 (by omega); cases e1; exact e3
    have g1 : V.cell? ⟨g, 1, none⟩ = some (.int .u32 ((wordsZ zs).getD 1 0)) := by obtain ⟨x, e1, _, e3⟩ := ho.2 1 (by omega); cases e1; exact e3
    have g2 : V.cell? ⟨g, 2, none⟩ = some (.int .u32 ((wordsZ zs).getD 2 0)) := by obtain ⟨x, e1, _, e3⟩ := ho.2 2 (by omega); cases e1; exact e3
    have g3 : V.cell? ⟨g, 3, none⟩ = some (.int .u32 ((wordsZ zs).getD 3 0)) := by obtain ⟨x, e1, _, e3⟩ := ho.2 3 (by omega); cases e1; exact e3
    rw [y0] at g0
    rw [y1] at g1
    rw [y2] at g2
    rw [y3] at g3
    have HM2 := Lib.hid (HM.out.below hb HM.out.lt)
    have HB2 := Lib.hid (HB.out.trans (hb.mono HB.out.size))
    clear hg hb y0 y1 y2 y3 HX ho HW4 m0 m1 m2 m3 f0 f1 f2 f3 ml HM HB HR
    go_upto_region 4 with fail
    apply wp_region_x [11, 12, 13, 14, 15, 16, 17, 18, 19, 20, 21, 22, 23, 60] [_, _, _, _, _, _, _, _, _, _, _, _, _, undef] [] (fun L_ x_ W' => Kq [w.heap.size] V W' ∧ Blk W' w.heap.size 24 (cond (L_ 13) [.int .u32 x0, .int .u32 x1, .int .u32 x2, .int .u32 x3] [.int .u32 0, .int .u32 0, .int .u32 0, .int .u32 0]))
    case hm => kernel_rfl
    case hT => intro y; simp only [setAll, List.setIfInBounds_toArray, List.set_cons_succ, List.set_cons_zero, List.set_nil]; exact rfl
    case hok => kernel_rfl
    case hn => decide
    case hw => exact (fun L_ x_ h0 => ⟨Kq.of_below ((Below.refl _ _).drew), by rw [h0 13 (by decide)]; exact HM2.out.below (Below.refl _ _).drew HM2.out.lt⟩)
    case hs =>
      refine x_op 11 [] (by kernel_rfl) (fun L y w' hL hC HW hd K hK => ?_) ?_
      · go_simp
        refine hK _ _ ?_ ?_ HW
        · simp [upd]
        · exact rfl
      refine x_op 12 [0] (by kernel_rfl) (fun L y w' hL hC HW hd K hK => ?_) ?_
      · have e0 := xR_nth (hd 0 (by simp)).2 rfl rfl
        go_simp
        refine hK _ _ ?_ ?_ HW
        · simp [upd, e0]
        · exact rfl
      refine x_op 13 [1] (by kernel_rfl) (fun L y w' hL hC HW hd K hK => ?_) ?_
      · have e1 := xR_nth (hd 1 (by simp)).2 rfl rfl
        have g0 := (HW.1.cell (p := ⟨g, 0, none⟩) hg2 (by have := HG1.out; simp; omega)).trans g0
        have gl := Nat.lt_of_lt_of_le hg2 HW.1.size
        go_simp
        refine hK _ _ ?_ ?_ HW
        · simp [upd, e1]
        · exact rfl
      refine x_op 14 [] (by kernel_rfl) (fun L y w' hL hC HW hd K hK => ?_) ?_
      · go_simp
        refine hK _ _ ?_ ?_ HW
        · simp [upd]
        · exact rfl
      refine x_op 15 [3] (by kernel_rfl) (fun L y w' hL hC HW hd K hK => ?_) ?_
      · have e3 := xR_nth (hd 3 (by simp)).2 rfl rfl
        go_simp
        refine hK _ _ ?_ ?_ HW
        · simp [upd, e3]
        · exact rfl
      refine x_op 16 [4] (by kernel_rfl) (fun L y w' hL hC HW hd K hK => ?_) ?_
      · have e4 := xR_nth (hd 4 (by simp)).2 rfl rfl
        have g1 := (HW.1.cell (p := ⟨g, 1, none⟩) hg2 (by have := HG1.out; simp; omega)).trans g1
        have gl := Nat.lt_of_lt_of_le hg2 HW.1.size
        go_simp
        refine hK _ _ ?_ ?_ HW
        · simp [upd, e4]
        · exact rfl
      refine x_op 17 [] (by kernel_rfl) (fun L y w' hL hC HW hd K hK => ?_) ?_
      · go_simp
        refine hK _ _ ?_ ?_ HW
        · simp [upd]
        · exact rfl
      refine x_op 18 [6] (by kernel_rfl) (fun L y w' hL hC HW hd K hK => ?_) ?_
      · have e6 := xR_nth (hd 6 (by simp)).2 rfl rfl
        go_simp
        refine hK _ _ ?_ ?_ HW
        · simp [upd, e6]
        · exact rfl
      refine x_op 19 [7] (by kernel_rfl) (fun L y w' hL hC HW hd K hK => ?_) ?_
      · have e7 := xR_nth (hd 7 (by simp)).2 rfl rfl
        have g2 := (HW.1.cell (p := ⟨g, 2, none⟩) hg2 (by have := HG1.out; simp; omega)).trans g2
        have gl := Nat.lt_of_lt_of_le hg2 HW.1.size
        go_simp
        refine hK _ _ ?_ ?_ HW
        · simp [upd, e7]
        · exact rfl
      refine x_op 20 [] (by kernel_rfl) (fun L y w' hL hC HW hd K hK => ?_) ?_
      · go_simp
        refine hK _ _ ?_ ?_ HW
        · simp [upd]
        · exact rfl
      refine x_op 21 [9] (by kernel_rfl) (fun L y w' hL hC HW hd K hK => ?_) ?_
      · have e9 := xR_nth (hd 9 (by simp)).2 rfl rfl
        go_simp
        refine hK _ _ ?_ ?_ HW
        · simp [upd, e9]
        · exact rfl
      refine x_op 22 [10] (by kernel_rfl) (fun L y w' hL hC HW hd K hK => ?_) ?_
      · have e10 := xR_nth (hd 10 (by simp)).2 rfl rfl
        have g3 := (HW.1.cell (p := ⟨g, 3, none⟩) hg2 (by have := HG1.out; simp; omega)).trans g3
        have gl := Nat.lt_of_lt_of_le hg2 HW.1.size
        go_simp
        refine hK _ _ ?_ ?_ HW
        · simp [upd, e10]
        · exact rfl
      refine x_op 23 [2, 5, 8, 11] (by kernel_rfl) (fun L y w' hL hC HW hd K hK => ?_) ?_
      · have e2 := xR_nth (hd 2 (by simp)).2 rfl rfl
        have e5 := xR_nth (hd 5 (by simp)).2 rfl rfl
        have e8 := xR_nth (hd 8 (by simp)).2 rfl rfl
        have e11 := xR_nth (hd 11 (by simp)).2 rfl rfl
        go_simp
        refine hK _ _ ?_ ?_ HW
        · simp [upd, e2, e5, e8, e11]
        · exact rfl
      refine x_op 60 [12, 0, 1, 2, 3, 4, 5, 6, 7, 8, 9, 10, 11, 12] (by kernel_rfl) (fun L y w' hL hC HW hd K hK => ?_) ?_
      · have e0 := xR_nth (hd 0 (by simp)).2 rfl rfl
        have e1 := xR_nth (hd 1 (by simp)).2 rfl rfl
        have e2 := xR_nth (hd 2 (by simp)).2 rfl rfl
        have e3 := xR_nth (hd 3 (by simp)).2 rfl rfl
        have e4 := xR_nth (hd 4 (by simp)).2 rfl rfl
        have e5 := xR_nth (hd 5 (by simp)).2 rfl rfl
        have e6 := xR_nth (hd 6 (by simp)).2 rfl rfl
        have e7 := xR_nth (hd 7 (by simp)).2 rfl rfl
        have e8 := xR_nth (hd 8 (by simp)).2 rfl rfl
        have e9 := xR_nth (hd 9 (by simp)).2 rfl rfl
        have e10 := xR_nth (hd 10 (by simp)).2 rfl rfl
        have e11 := xR_nth (hd 11 (by simp)).2 rfl rfl
        have e12 := xR_nth (hd 12 (by simp)).2 rfl rfl
        have hb := HW.2
        rw [hL] at hb
        have z0 := hb.cell (j := 0) rfl
        have z1 := hb.cell (j := 1) rfl
        have z2 := hb.cell (j := 2) rfl
        have z3 := hb.cell (j := 3) rfl
        have y0 := hb.frozen 0
        have y1 := hb.frozen 1
        have y2 := hb.frozen 2
        have y3 := hb.frozen 3
        have zl := hb.lt
        go_simp
        refine hK _ _ ?_ ?_ ⟨(((HW.1.setCell w.heap.size 0 (.int .u32 x0) (.inl (by simp))).setCell w.heap.size 1 (.int .u32 x1) (.inl (by simp))).setCell w.heap.size 2 (.int .u32 x2) (.inl (by simp))).setCell w.heap.size 3 (.int .u32 x3) (.inl (by simp)), (((hb.set 0 (.int .u32 x0)).set 1 (.int .u32 x1)).set 2 (.int .u32 x2)).set 3 (.int .u32 x3)⟩
        · simp [upd, e0, e1, e2, e3, e4, e5, e6, e7, e8, e9, e10, e11, e12]
        · exact rfl
      refine x_last fun L y w' hLs HW hd K hK => ?_
      have e0 := xR_nth (hd 0 (by omega)) rfl rfl
      have e1 := xR_nth (hd 1 (by omega)) rfl rfl
      have e2 := xR_nth (hd 2 (by omega)) rfl rfl
      have e3 := xR_nth (hd 3 (by omega)) rfl rfl
      have e4 := xR_nth (hd 4 (by omega)) rfl rfl
      have e5 := xR_nth (hd 5 (by omega)) rfl rfl
      have e6 := xR_nth (hd 6 (by omega)) rfl rfl
      have e7 := xR_nth (hd 7 (by omega)) rfl rfl
      have e8 := xR_nth (hd 8 (by omega)) rfl rfl
      have e9 := xR_nth (hd 9 (by omega)) rfl rfl
      have e10 := xR_nth (hd 10 (by omega)) rfl rfl
      have e11 := xR_nth (hd 11 (by omega)) rfl rfl
      have e12 := xR_nth (hd 12 (by omega)) rfl rfl
      rw [hLs 13 (by decide)] at HW
      have HK9 := Lib.hid HW.1
      have HM9 := Lib.hid HW.2
      go_simp
      refine hK _ _ ?_
      clear hd hK K HW hLs
      have r0 := HM9.out.cell (j := 0) rfl
      have r1 := HM9.out.cell (j := 1) rfl
      have r2 := HM9.out.cell (j := 2) rfl
      have r3 := HM9.out.cell (j := 3) rfl
      have rl := HM9.out.lt
      have HB9 := Lib.hid (HB2.out.trans (HK9.out.under (B := w.heap.size) (by simp) HB2.out.size))
      clear g0 g1 g2 g3 HM2 HB2
      go_wp2
      exact bodyPost_ret (v := .tuple #[dV x0 x1 x2 x3, .int .i64 0]) (by simp [results, Try.results7, go_sem, r0, r1, r2, r3]) rfl ⟨rfl, HB9.out⟩
  · have hg : gtV zs = dV 0 0 0 0 := by unfold gtV; rw [if_neg (by rw [hlen]; exact h16)]
    have hgc : gtC zs = 6 := by unfold gtC; rw [if_neg (by rw [hlen]; exact h16)]
    rw [hg, hgc]
    have HPUT : Hid (∀ (v0 v1 v2 v3 : Value), Below w.heap.size w ((((U.setCell ⟨w.heap.size, 0, none⟩ v0).setCell ⟨w.heap.size, 1, none⟩ v1).setCell ⟨w.heap.size, 2, none⟩ v2).setCell ⟨w.heap.size, 3, none⟩ v3)) := Lib.hid fun v0 v1 v2 v3 =>
      (((HB.out.setCell (Nat.le_refl _) v0).setCell (Nat.le_refl _) v1).setCell (Nat.le_refl _) v2).setCell (Nat.le_refl _) v3
    have hi : ¬ (n : Int) = 16 := by omega
    clear hg hgc hlen HR HM
    go_enter Try.func7, Try.ntmps7
    go_upto_region 1 with fail
    rw [← HU.out]
    clear HU
    go_wp2
    exact bodyPost_ret (v := .tuple #[dV 0 0 0 0, .int .i64 6]) (by simp [results, Try.results7, go_sem, m0, m1, m2, m3]) rfl ⟨rfl, HPUT.out _ _ _ _⟩

/-- the bytes of words, one word at a time -/
theorem bytes_next (a l f n : Int) (k : Nat) (hk : k < 4) : (bytesZ [a, l, f, n]).take (4 * (k + 1)) = (bytesZ [a, l, f, n]).take (4 * k) ++ bytesZ [[a, l, f, n].getD k 0] := by
  match k, hk with
  | 0, _ => simp [bytesZ, List.range, List.range.loop]
  | 1, _ => simp [bytesZ, List.range, List.range.loop]
  | 2, _ => simp [bytesZ, List.range, List.range.loop]
  | 3, _ => simp [bytesZ, List.range, List.range.loop]
theorem made16 (w : World) : OwnI .u8 (w.alloc (.cells (madeCells #[.int .u8 0] 16) 5)) w.heap.size 5 (.slice (some ⟨w.heap.size, 0, none⟩) 0 16) 0 [] :=
  World.ownsRow_made w _ 16 (Nat.le_refl _) (by unfold maxLen; omega) (size_madeCells _ _)
theorem slice4 (g k : Nat) (hk : k < 4) (W : World) : (Instr.sliceAt 45 (.pointer (some ⟨g, 0, none⟩)) (some (.int .i64 (k : Int))) (some (.int .i64 ((k : Int) + 1))) none).run Try.prog W = .ok (.slice (some ⟨g, k, none⟩) 1 (4 - k)) W := by
  rcases (show k = 0 ∨ k = 1 ∨ k = 2 ∨ k = 3 by omega) with rfl | rfl | rfl | rfl
  · kernel_rfl
  · kernel_rfl
  · kernel_rfl
  · kernel_rfl
theorem put21_any (a l f n : Int) (w : World) (ha : R32 a) (hl : R32 l) (hf : R32 f) (hn : R32 n) : Calls Try.prog 9 #[dV a l f n] w fun e w' => (∃ v, e = .returned v ∧ Hid (Byt w' v (bytesZ [a, l, f, n]))) ∧ Below w.heap.size w w' := by
  obtain ⟨U, hU⟩ : ∃ U, U = w.alloc (.cells #[.int .u32 a, .int .u32 l, .int .u32 f, .int .u32 n] 24) := ⟨_, rfl⟩
  have hB : Below w.heap.size w U := by rw [hU]; exact d_below a l f n w
  have hm : Blk U w.heap.size 24 [.int .u32 a, .int .u32 l, .int .u32 f, .int .u32 n] := by rw [hU]; exact Blk.new w _ _
  have HU := Lib.hid hU
  obtain ⟨V, hV⟩ : ∃ V, V = U.alloc (.cells #[.int .u32 a, .int .u32 l, .int .u32 f, .int .u32 n] 45) := ⟨_, rfl⟩
  have hBV : Below U.heap.size U V := by rw [hV]; exact (Below.refl _ _).alloc (Nat.le_refl _) _
  have hmV : Blk V U.heap.size 45 [.int .u32 a, .int .u32 l, .int .u32 f, .int .u32 n] := by rw [hV]; exact Blk.new U _ _
  have HMV := Lib.hid hmV
  have HBD : Hid (∀ z ∈ [a, l, f, n], 0 ≤ z ∧ z < 4294967296) := Lib.hid fun z hz => by
    simp only [List.mem_cons, List.not_mem_nil, or_false] at hz
    rcases hz with rfl | rfl | rfl | rfl <;> assumption
  have HBB := Lib.hid (hB.trans (hBV.mono hB.size))
  have HV := Lib.hid hV
  have m0 := hm.cell (j := 0) rfl
  have m1 := hm.cell (j := 1) rfl
  have m2 := hm.cell (j := 2) rfl
  have m3 := hm.cell (j := 3) rfl
  have ml := hm.lt
  obtain ⟨g, hg⟩ : ∃ g, U.heap.size = g := ⟨_, rfl⟩
  rw [hg] at HMV
  have HG := Lib.hid hg
  have hmk : ∀ W : World, (Instr.makeSlice 25 (.int .i64 0) (.int .i64 16)).run Try.prog W = .ok (.slice (some ⟨W.heap.size, 0, none⟩) 0 16) (W.alloc (.cells (madeCells #[.int .u8 0] 16) 5)) := fun W => by kernel_rfl
  have HA : Below V.heap.size V (V.alloc (.cells (madeCells #[.int .u8 0] 16) 5)) := (Below.refl _ _).alloc (Nat.le_refl _) _
  have HO0 := Lib.hid (made16 V)
  have HGV : Hid (g < V.heap.size) := Lib.hid HMV.out.lt
  have HX : Hid (∀ k : Nat, k < 4 → V.cell? ⟨g, k, none⟩ = some (.int .u32 ([a, l, f, n].getD k 0))) := Lib.hid fun k hk => match k, hk with
    | 0, _ => HMV.out.cell (j := 0) rfl
    | 1, _ => HMV.out.cell (j := 1) rfl
    | 2, _ => HMV.out.cell (j := 2) rfl
    | 3, _ => HMV.out.cell (j := 3) rfl
  have HRNG : Hid (∀ k : Nat, k < 4 → R32 ([a, l, f, n].getD k 0)) := Lib.hid fun k hk => match k, hk with
    | 0, _ => ha
    | 1, _ => hl
    | 2, _ => hf
    | 3, _ => hn
  have HNX := Lib.hid (bytes_next a l f n)
  have HALL : Hid ((bytesZ [a, l, f, n]).take 16 = bytesZ [a, l, f, n] ∧ (bytesZ [a, l, f, n]).length = 16) := Lib.hid ⟨rfl, rfl⟩
  clear hU hB hm hV hBV hmV hg
  go_enter Try.func9, Try.ntmps9
  go_upto_region 1 with fail
  rw [← HU.out]
  clear HU
  go_upto_region 2 with fail
  rw [← HV.out, HG.out]
  clear HV HG m0 m1 m2 m3 ml HMV HBD ha hl hf hn
  obtain ⟨zs, hzs⟩ : ∃ zs, bytesZ [a, l, f, n] = zs := ⟨_, rfl⟩
  rw [hzs] at HALL HNX
  have HZ := Lib.hid hzs
  clear hzs
  generalize [a, l, f, n] = ws at HX HRNG HNX
  go_wp2
  go_loopw [4, 16] (fun v i wr => ∃ k : Nat, k ≤ 4 ∧ i = .int .i64 k ∧ OwnI .u8 wr V.heap.size 5 v (4 * k) (zs.take (4 * k)) ∧ Below V.heap.size V wr) (fun _ i _ => 4 - (intOf i).toNat)
  case atStart => exact ⟨0, Nat.zero_le _, rfl, HO0.out, HA⟩
  case round =>
    obtain ⟨k, hk, rfl, ho, hb⟩ := hrel
    have HO := Lib.hid ho
    clear ho
    by_cases hlt : k < 4
    · have hx := (hb.cell (p := ⟨g, k, none⟩) HGV.out).trans (HX.out k hlt)
      have HN := Lib.hid (HNX.out k hlt)
      obtain ⟨x, hxe⟩ : ∃ x, ws.getD k 0 = x := ⟨_, rfl⟩
      have HR := Lib.hid (HRNG.out k hlt)
      rw [hxe] at hx HN HR
      have hrow : RowK .u32 wr wr.heap.size (some ⟨g, k, none⟩) 1 [x] := ⟨rfl, fun i hi => ⟨_, rfl, Nat.lt_of_lt_of_le HGV.out hb.size, by
        obtain rfl : i = 0 := by omega
        simpa [Addr.add] using hx⟩⟩
      have HCALL : Hid (∀ c : Nat, Calls Try.prog 22 #[.slice (some ⟨g, k, none⟩) 1 c] wr fun e w' => e = .returned (.slice (some ⟨wr.heap.size, 0, none⟩) 4 4) ∧ RowK .u8 w' w'.heap.size (some ⟨wr.heap.size, 0, none⟩) 4 (bytesZ [x]) ∧ Below wr.heap.size wr w') := Lib.hid fun c => bytes_any (some ⟨g, k, none⟩) 1 c [x] wr (by omega) hrow (fun z hz => by simp only [List.mem_cons, List.not_mem_nil, or_false] at hz; subst hz; exact HR.out)
      clear hxe hrow
      have hi1 : (0 : Int) ≤ (k : Int) := by omega
      have hi2 : (k : Int) < 4 := by omega
      have hsl := fun W => slice4 g k hlt W
      go_wp2_with fail
      refine (HCALL.out _).mono ?_
      rintro e w1 ⟨rfl, hr, hb1⟩
      have HO1 := Lib.hid (HO.out.below hb1)
      have HB1 := Lib.hid (hb.trans (hb1.mono hb.size))
      have HR1 := Lib.hid hr
      clear hr hb1 hx
      go_wp2_with (at_builtin; go_loud (refine wpList_append_ints rfl (.tmp 19) (.tmp 24) 25 rfl .u8 V.heap.size 5 1 Try.underlying25 info_byte _ _ _ rfl HO1.out _ _ 4 4 _ rfl HR1.out (by unfold maxLen; omega) (by omega) HB1.out.size ?_); intro v1 w2 ho1 hb2 _)
      have hb3 := HB1.out.trans hb2
      go_roundw
      case rel => exact ⟨k + 1, by omega, by go_num, by rw [HN.out]; exact ho1.out, hb3⟩
      case measure => simp [intOf]; omega
    · obtain rfl : k = 4 := by omega
      go_wp2
      go_ret
      obtain ⟨ad, c, rfl, h1, h2, h3⟩ := HO.out.row
      refine ⟨⟨_, rfl, Lib.hid ⟨ad, c, ?_, ?_, ?_, ?_⟩⟩, HBB.out.trans (hb.mono HBB.out.size)⟩
      · rw [HZ.out, HALL.out.2]; rfl
      · rw [HZ.out, HALL.out.2]; exact h1
      · exact h2
      · rw [HZ.out, HALL.out.2]; have := h3; rwa [show 4 * 4 = 16 from rfl, HALL.out.1] at this
theorem prog21 : DescC := ⟨get21_any, put21_any, check21_any, sized21_any, size21_any, right21_p⟩
end Go.Proofs.Ytkkolbdapoejkaa.De
