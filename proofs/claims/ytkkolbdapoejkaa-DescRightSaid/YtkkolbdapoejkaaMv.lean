/- Package desc: the walk of DescRight. -/
import Derived.Test.YtkkolbdapoejkaaMu
import Derived.Test.YtkkolbdapoejkaaMt
import Derived.Laws.BitsAllLaws
namespace Go.Proofs.Ytkkolbdapoejkaa.De
open Go.RowKit Go.Shelf Ut Oc
set_option linter.unusedVariables false
set_option maxRecDepth 100000
set_option maxHeartbeats 4000000

theorem not_three (x : Nat) (hx : x < 4294967296) : bits .andNot .u32 (x : Int) 3 = ((4 * (x / 4) : Nat) : Int) := by
  rw [show (3 : Int) = ((3 : Nat) : Int) from rfl, u32_andNot_nat x 3 hx (by omega)]
  refine congrArg _ ?_
  have h1 : (x &&& 4294967292) % 4 = 0 := by
    have := Nat.and_mod_two_pow (a := x) (b := 4294967292) (n := 2)
    rw [show (4294967292 : Nat) % 2 ^ 2 = 0 from rfl, Nat.and_zero] at this
    exact this
  have h2 : (x &&& 4294967292) / 4 = x / 4 &&& 1073741823 := Nat.and_div_two_pow (a := x) (b := 4294967292) (n := 2)
  have h3 : x / 4 &&& 1073741823 = x / 4 % 2 ^ 30 := Nat.and_two_pow_sub_one_eq_mod (x / 4) 30
  have h4 : x / 4 % 2 ^ 30 = x / 4 := Nat.mod_eq_of_lt (by omega)
  show x &&& 4294967292 = 4 * (x / 4)
  omega
theorem not_three' (d : Int) (h : R32 d) : ∃ s, bits .andNot .u32 d 3 = s ∧ R32 s ∧ s % 4 = 0 ∧ (d % 4 = 0 → s = d) ∧ (¬ d % 4 = 0 → ¬ s = d) := by
  obtain ⟨x, rfl⟩ := Int.eq_ofNat_of_zero_le h.1
  have hx := h.2
  refine ⟨_, not_three x (by omega), ⟨?_, ?_⟩, ?_, fun _ => ?_, fun _ => ?_⟩ <;> omega
theorem ck_mono {l f n m k : Int} (h : ckF l f n m = 0) (hk : ¬ k < m) : ckF l f n k = 0 := by
  unfold ckF at h ⊢
  by_cases c1 : 3 < f
  · rw [if_pos c1] at h; exact absurd h (by decide)
  rw [if_neg c1] at h ⊢
  by_cases c2 : 64 < l
  · rw [if_pos c2] at h; exact absurd h (by decide)
  rw [if_neg c2] at h ⊢
  by_cases c3 : f % 2 = 1 ∧ m ≤ n
  · rw [if_pos c3] at h; exact absurd h (by decide)
  rw [if_neg (fun h2 => c3 ⟨h2.1, by omega⟩)]
section
variable (C : DescC)
include C
theorem right21_any (d a u n ad al af an k : Int) (w : World) (hd : R32 d) (ha : R32 a) (hu : R32 u) (hal : R32 al) (haf : R32 af) (han : R32 an) : Calls Try.prog 6 #[rV d a u n, dV ad al af an, .int .i64 k] w fun e w' => e = .returned (.bool true) ∧ Below w.heap.size w w' := by
  obtain ⟨sd, hsd, sd0, sd1, sd2, sd3⟩ := not_three' d hd
  obtain ⟨sa, hsa, sa0, sa1, sa2, sa3⟩ := not_three' a ha
  obtain ⟨su, hsu, su0, su1, su2, su3⟩ := not_three' u hu
  obtain ⟨U, hU⟩ : ∃ U, U = (w.alloc (.cells #[.int .u32 d, .int .u32 a, .int .u32 u, .int .i64 n] 27)).alloc (.cells #[.int .u32 ad, .int .u32 al, .int .u32 af, .int .u32 an] 24) := ⟨_, rfl⟩
  have hs : U.heap.size = w.heap.size + 1 + 1 := by rw [hU]; simp
  have hB : Below w.heap.size w U := by rw [hU]; exact ((Below.refl _ _).alloc (Nat.le_refl _) _).alloc (by simp) _
  have hr : Blk U w.heap.size 27 [.int .u32 d, .int .u32 a, .int .u32 u, .int .i64 n] := by rw [hU]; exact (Blk.new w _ [.int .u32 d, .int .u32 a, .int .u32 u, .int .i64 n]).below ((Below.refl _ _).alloc (Nat.le_refl _) _) (Blk.new w _ _).lt
  have hde : Blk U (w.heap.size + 1) 24 [.int .u32 ad, .int .u32 al, .int .u32 af, .int .u32 an] := by
    have := Blk.new (w.alloc (.cells #[.int .u32 d, .int .u32 a, .int .u32 u, .int .i64 n] 27)) 24 [.int .u32 ad, .int .u32 al, .int .u32 af, .int .u32 an]
    rw [World.size_alloc] at this
    rw [hU]
    exact this
  have HU := Lib.hid hU
  have HB := Lib.hid hB
  have HR := Lib.hid hr
  have HD := Lib.hid hde
  have r0 := hr.cell (j := 0) rfl
  have r1 := hr.cell (j := 1) rfl
  have r2 := hr.cell (j := 2) rfl
  have r3 := hr.cell (j := 3) rfl
  have rl := hr.lt
  clear hU hr hde hB
  go_enter Try.func6, Try.ntmps6
  go_upto_region 1 with fail
  rw [← HU.out]
  clear HU
  go_upto_region 5 with fail
  obtain ⟨X, hX⟩ : ∃ X, X = U.alloc (.cells #[.int .u32 sd, .int .u32 sa, .int .u32 su, .int .i64 n] 27) := ⟨_, rfl⟩
  have hBX : Below U.heap.size U X := by rw [hX]; exact (Below.refl _ _).alloc (Nat.le_refl _) _
  have hsb : Blk X (w.heap.size + 1 + 1) 27 [.int .u32 sd, .int .u32 sa, .int .u32 su, .int .i64 n] := by
    have := Blk.new U 27 [.int .u32 sd, .int .u32 sa, .int .u32 su, .int .i64 n]
    rw [hs] at this
    rw [hX]
    exact this
  rw [← hX]
  have HSB := Lib.hid hsb
  have HRX := Lib.hid (HR.out.below hBX HR.out.lt)
  have HDX := Lib.hid (HD.out.below hBX HD.out.lt)
  have HBX := Lib.hid (HB.out.trans (hBX.mono HB.out.size))
  clear hX hBX hsb HR HD HB hs r0 r1 r2 r3 rl
  obtain ⟨t, ht⟩ : ∃ t, szB n = t := ⟨_, rfl⟩
  have HCS := Lib.hid (C.sized n)
  have HC1 := Lib.hid (fun W => C.right sd sa su n W sd0 sa0 su0)
  have HC2 := Lib.hid (fun W => C.right d a u n W hd ha hu)
  have HCK := Lib.hid (fun m W => C.check ad al af an m W hal haf han)
  have HA := Lib.hid (awake21_any C)
  rw [show rtB sd sa su n = t by unfold rtB; rw [ht, sd1, sa1, su1]; simp] at HC1
  rw [ht] at HCS
  obtain ⟨r2, hr2⟩ : ∃ r2, rtB d a u n = r2 := ⟨_, rfl⟩
  rw [hr2] at HC2
  have hcase : (sd = d ∧ sa = a ∧ su = u ∧ t = r2) ∨ (¬ sd = d ∧ r2 = false) ∨ (sd = d ∧ ¬ sa = a ∧ r2 = false) ∨ (sd = d ∧ sa = a ∧ ¬ su = u ∧ r2 = false) := by
    unfold rtB at hr2
    rw [ht] at hr2
    by_cases c1 : d % 4 = 0
    · by_cases c2 : a % 4 = 0
      · by_cases c3 : u % 4 = 0
        · exact .inl ⟨sd2 c1, sa2 c2, su2 c3, by rw [← hr2]; simp [c1, c2, c3]⟩
        · exact .inr (.inr (.inr ⟨sd2 c1, sa2 c2, su3 c3, by rw [← hr2]; simp [c3]⟩))
      · exact .inr (.inr (.inl ⟨sd2 c1, sa3 c2, by rw [← hr2]; simp [c2]⟩))
    · exact .inr (.inl ⟨sd3 c1, by rw [← hr2]; simp [c1]⟩)
  clear hr2 ht sd0 sa0 su0 sd1 sa1 su1 sd2 sa2 su2 sd3 sa3 su3 hsd hsa hsu hd ha hu C
  obtain ⟨m, hm⟩ : ∃ m, wrap64 (k.tdiv 2) = m := ⟨_, rfl⟩
  obtain ⟨c1, hc1⟩ : ∃ c, ckF al af an m = c := ⟨_, rfl⟩
  obtain ⟨c2, hc2⟩ : ∃ c, ckF al af an k = c := ⟨_, rfl⟩
  have HK1 := Lib.hid (HCK.out m)
  have HK2 := Lib.hid (HCK.out k)
  rw [hc1] at HK1
  rw [hc2] at HK2
  have hmono : c1 = 0 → ¬ k < m → c2 = 0 := fun e h => by rw [← hc2]; exact ck_mono (hc1.trans e) h
  clear hc1 hc2 HCK
  rcases hcase with ⟨rfl, rfl, rfl, rfl⟩ | ⟨hq, rfl⟩ | ⟨rfl, hq, rfl⟩ | ⟨rfl, rfl, hq, rfl⟩
  all_goals cases t
  all_goals
    apply wp_region_x [22, 23, 24, 25, 26, 27, 28, 29, 30, 31, 32, 33, 34, 35, 36, 37, 38, 39] [_, _, _, _, _, _, _, _, _, _, _, _, _, _, _, _, _, _] [] (fun L_ x_ W' => Below X.heap.size X W')
    case hm => kernel_rfl
    case hT => intro y; simp only [setAll, List.setIfInBounds_toArray, List.set_cons_succ, List.set_cons_zero]; exact rfl
    case hok => kernel_rfl
    case hn => decide
    case hw => exact (fun L_ x_ h0 => (Below.refl _ _).drew)
    case hs =>
      refine x_op 22 [] (by kernel_rfl) (fun L y w' hL hC HW hd K hK => ?_) ?_
      · have z := HSB.out.below HW HSB.out.lt
        have s0 := z.cell (j := 0) rfl
        have s1 := z.cell (j := 1) rfl
        have s2 := z.cell (j := 2) rfl
        have s3 := z.cell (j := 3) rfl
        have sl := z.lt
        go_simp
        refine hK _ _ ?_ ?_ HW
        · simp [upd]
        · exact rfl
      refine x_op 23 [0] (by kernel_rfl) (fun L y w' hL hC HW hd K hK => ?_) ?_
      · have e0 := xR_nth (hd 0 (by simp)).2 rfl rfl
        go_simp
        refine (HC1.out _).mono ?_
        rintro e w3 ⟨rfl, hb3⟩
        refine hK _ _ ?_ ?_ (HW.trans (hb3.mono HW.size))
        · simp [upd, e0]
        · exact rfl
      refine x_op 24 [] (by kernel_rfl) (fun L y w' hL hC HW hd K hK => ?_) ?_
      · go_simp
        refine hK _ _ ?_ ?_ HW
        · simp [upd]
        · exact rfl
      refine x_op 25 [2] (by kernel_rfl) (fun L y w' hL hC HW hd K hK => ?_) ?_
      · have e2 := xR_nth (hd 2 (by simp)).2 rfl rfl
        have z := HRX.out.below HW HRX.out.lt
        have s3 := z.cell (j := 3) rfl
        have sl := z.lt
        go_simp
        refine hK _ _ ?_ ?_ HW
        · simp [upd, e2]
        · exact rfl
      refine x_op 26 [3, 1] (by kernel_rfl) (fun L y w' hL hC HW hd K hK => ?_) ?_
      · have e1 := xR_nth (hd 1 (by simp)).2 rfl rfl
        have e3 := xR_nth (hd 3 (by simp)).2 rfl rfl
        go_simp
        refine (HCS.out _).mono ?_
        rintro e w3 ⟨rfl, hb3⟩
        refine hK _ _ ?_ ?_ (HW.trans (hb3.mono HW.size))
        · simp [upd, e1, e3]
        · exact rfl
      refine x_op 27 [1, 4] (by kernel_rfl) (fun L y w' hL hC HW hd K hK => ?_) ?_
      · have e1 := xR_nth (hd 1 (by simp)).2 rfl rfl
        have e4 := xR_nth (hd 4 (by simp)).2 rfl rfl
        go_simp
        refine hK _ _ ?_ ?_ HW
        · simp [upd, e1, e4]
        · exact rfl
      refine x_op 28 [5, 4] (by kernel_rfl) (fun L y w' hL hC HW hd K hK => ?_) ?_
      · have e4 := xR_nth (hd 4 (by simp)).2 rfl rfl
        have e5 := xR_nth (hd 5 (by simp)).2 rfl rfl
        go_simp
        refine hK _ _ ?_ ?_ HW
        · simp [upd, e4, e5]
        · exact rfl
      refine x_op 29 [6] (by kernel_rfl) (fun L y w' hL hC HW hd K hK => ?_) ?_
      · have e6 := xR_nth (hd 6 (by simp)).2 rfl rfl
        have z := HRX.out.below HW HRX.out.lt
        have s0 := z.cell (j := 0) rfl
        have s1 := z.cell (j := 1) rfl
        have s2 := z.cell (j := 2) rfl
        have s3 := z.cell (j := 3) rfl
        have sl := z.lt
        go_simp
        refine hK _ _ ?_ ?_ HW
        · simp [upd, e6]
        · exact rfl
      refine x_op 30 [7, 6, 6] (by kernel_rfl) (fun L y w' hL hC HW hd K hK => ?_) ?_
      · have e6 := xR_nth (hd 6 (by simp)).2 rfl rfl
        have e7 := xR_nth (hd 7 (by simp)).2 rfl rfl
        go_simp
        refine (HC2.out _).mono ?_
        rintro e w3 ⟨rfl, hb3⟩
        refine hK _ _ ?_ ?_ (HW.trans (hb3.mono HW.size))
        · simp [upd, e6, e7]
        · exact rfl
      refine x_op 31 [6] (by kernel_rfl) (fun L y w' hL hC HW hd K hK => ?_) ?_
      · have e6 := xR_nth (hd 6 (by simp)).2 rfl rfl
        have z := HSB.out.below HW HSB.out.lt
        have s0 := z.cell (j := 0) rfl
        have s1 := z.cell (j := 1) rfl
        have s2 := z.cell (j := 2) rfl
        have s3 := z.cell (j := 3) rfl
        have sl := z.lt
        go_simp
        refine hK _ _ ?_ ?_ HW
        · simp [upd, e6]
        · exact rfl
      refine x_op 32 [6] (by kernel_rfl) (fun L y w' hL hC HW hd K hK => ?_) ?_
      · have e6 := xR_nth (hd 6 (by simp)).2 rfl rfl
        have z := HRX.out.below HW HRX.out.lt
        have s0 := z.cell (j := 0) rfl
        have s1 := z.cell (j := 1) rfl
        have s2 := z.cell (j := 2) rfl
        have s3 := z.cell (j := 3) rfl
        have sl := z.lt
        go_simp
        refine hK _ _ ?_ ?_ HW
        · simp [upd, e6]
        · exact rfl
      refine x_op 33 [9, 10, 6] (by kernel_rfl) (fun L y w' hL hC HW hd K hK => ?_) ?_
      · have e6 := xR_nth (hd 6 (by simp)).2 rfl rfl
        have e9 := xR_nth (hd 9 (by simp)).2 rfl rfl
        have e10 := xR_nth (hd 10 (by simp)).2 rfl rfl
        go_simp
        refine hK _ _ ?_ ?_ HW
        · simp [upd, e6, e9, e10]
        · exact rfl
      refine x_op 34 [11, 8, 6] (by kernel_rfl) (fun L y w' hL hC HW hd K hK => ?_) ?_
      · have e6 := xR_nth (hd 6 (by simp)).2 rfl rfl
        have e8 := xR_nth (hd 8 (by simp)).2 rfl rfl
        have e11 := xR_nth (hd 11 (by simp)).2 rfl rfl
        go_simp
        refine hK _ _ ?_ ?_ HW
        · simp [upd, e6, e8, e11]
        · exact rfl
      refine x_op 35 [12] (by kernel_rfl) (fun L y w' hL hC HW hd K hK => ?_) ?_
      · have e12 := xR_nth (hd 12 (by simp)).2 rfl rfl
        go_simp
        refine hK _ _ ?_ ?_ HW
        · simp [upd, e12]
        · exact rfl
      refine x_op 36 [13, 12] (by kernel_rfl) (fun L y w' hL hC HW hd K hK => ?_) ?_
      · have e12 := xR_nth (hd 12 (by simp)).2 rfl rfl
        have e13 := xR_nth (hd 13 (by simp)).2 rfl rfl
        have z := HRX.out.below HW HRX.out.lt
        have s3 := z.cell (j := 3) rfl
        have sl := z.lt
        go_simp
        refine hK _ _ ?_ ?_ HW
        · simp [upd, e12, e13]
        · exact rfl
      refine x_op 37 [14, 12, 12] (by kernel_rfl) (fun L y w' hL hC HW hd K hK => ?_) ?_
      · have e12 := xR_nth (hd 12 (by simp)).2 rfl rfl
        have e14 := xR_nth (hd 14 (by simp)).2 rfl rfl
        go_simp
        first |(refine (HCS.out _).mono ?_; rintro e w3 ⟨rfl, hb3⟩) |skip
        refine hK _ _ ?_ ?_ (by first |exact HW.trans (hb3.mono HW.size) |exact HW)
        · simp [upd, e12, e14]
        · exact rfl
      refine x_op 38 [12, 15, 6] (by kernel_rfl) (fun L y w' hL hC HW hd K hK => ?_) ?_
      · have e6 := xR_nth (hd 6 (by simp)).2 rfl rfl
        have e12 := xR_nth (hd 12 (by simp)).2 rfl rfl
        have e15 := xR_nth (hd 15 (by simp)).2 rfl rfl
        go_simp
        refine hK _ _ ?_ ?_ HW
        · simp [upd, e6, e12, e15]
        · exact rfl
      refine x_op 39 [8, 16, 6] (by kernel_rfl) (fun L y w' hL hC HW hd K hK => ?_) ?_
      · have e6 := xR_nth (hd 6 (by simp)).2 rfl rfl
        have e8 := xR_nth (hd 8 (by simp)).2 rfl rfl
        have e16 := xR_nth (hd 16 (by simp)).2 rfl rfl
        go_simp
        refine hK _ _ ?_ ?_ HW
        · simp [upd, e6, e8, e16]
        · exact rfl
      refine x_last fun L y w' hLs HW hd K hK => ?_
      have e0 := xR_nth (hd 0 (by omega)) rfl rfl
      have e1 := xR_nth (hd 1 (by omega)) rfl rfl
      have e2 := xR_nth (hd 2 (by omega)) rfl rfl
      have e3 := xR_nth (hd 3 (by omega)) rfl rfl
      have e4 := xR_nth (hd 4 (by omega)) rfl rfl
      have e5 := xR_nth (hd 5 (by omega)) rfl rfl
      have e6 := xR_nth (hd 6 (by omega)) rfl rfl
      have e7 := xR_nth (hd 7 (by omega)) rfl rfl
      have e8 := xR_nth (hd 8 (by omega)) rfl rfl
      have e9 := xR_nth (hd 9 (by omega)) rfl rfl
      have e10 := xR_nth (hd 10 (by omega)) rfl rfl
      have e11 := xR_nth (hd 11 (by omega)) rfl rfl
      have e12 := xR_nth (hd 12 (by omega)) rfl rfl
      have e13 := xR_nth (hd 13 (by omega)) rfl rfl
      have e14 := xR_nth (hd 14 (by omega)) rfl rfl
      have e15 := xR_nth (hd 15 (by omega)) rfl rfl
      have e16 := xR_nth (hd 16 (by omega)) rfl rfl
      have e17 := xR_nth (hd 17 (by omega)) rfl rfl
      have HX9 := Lib.hid HW
      go_simp
      refine hK _ _ ?_
      clear hd hK K HW hLs
      have HDY := Lib.hid (HDX.out.below HX9.out HDX.out.lt)
      have HBY := Lib.hid (HBX.out.trans (HX9.out.mono HBX.out.size))
      clear HSB HRX HDX HBX HX9 HCS HC1 HC2
      have d0 := HDY.out.cell (j := 0) rfl
      have d1 := HDY.out.cell (j := 1) rfl
      have d2 := HDY.out.cell (j := 2) rfl
      have d3 := HDY.out.cell (j := 3) rfl
      have dl := HDY.out.lt
      go_wp2_with fail
      refine (HK1.out _).mono ?_
      rintro e w4 ⟨rfl, hb4⟩
      have HB4 := Lib.hid (HBY.out.trans (hb4.mono HBY.out.size))
      have HD4 := Lib.hid (HDY.out.below hb4 HDY.out.lt)
      clear hb4 HDY HBY d0 d1 d2 d3 dl HK1
      have d0 := HD4.out.cell (j := 0) rfl
      have d1 := HD4.out.cell (j := 1) rfl
      have d2 := HD4.out.cell (j := 2) rfl
      have d3 := HD4.out.cell (j := 3) rfl
      have dl := HD4.out.lt
      by_cases z1 : c1 = 0
      · by_cases z2 : k < m
        · clear hmono
          go_wp2_with fail
          refine (HA.out _).mono ?_
          rintro e w9 ⟨rfl, hb9⟩
          have HB9 := Lib.hid (HB4.out.trans (hb9.mono HB4.out.size))
          clear hb9 d0 d1 d2 d3 dl
          go_wp2
          go_ret
          exact ⟨rfl, HB9.out⟩
        · have z3 : c2 = 0 := hmono z1 (by omega)
          clear hmono
          subst z3
          go_wp2_with fail
          refine (HK2.out _).mono ?_
          rintro e w5 ⟨rfl, hb5⟩
          have HB5 := Lib.hid (HB4.out.trans (hb5.mono HB4.out.size))
          clear hb5
          go_wp2_with fail
          refine (HA.out _).mono ?_
          rintro e w9 ⟨rfl, hb9⟩
          have HB9 := Lib.hid (HB5.out.trans (hb9.mono HB5.out.size))
          clear hb9 d0 d1 d2 d3 dl
          go_wp2
          go_ret
          exact ⟨rfl, HB9.out⟩
      · clear hmono
        go_wp2_with fail
        refine (HA.out _).mono ?_
        rintro e w9 ⟨rfl, hb9⟩
        have HB9 := Lib.hid (HB4.out.trans (hb9.mono HB4.out.size))
        clear hb9 d0 d1 d2 d3 dl
        go_wp2
        go_ret
        exact ⟨rfl, HB9.out⟩
end
end Go.Proofs.Ytkkolbdapoejkaa.De
