/- Several texts in one: Bc Be Bf Bd -/
import Derived.Test.YteaincdeoajkeaaGreatDoorZ14
section
/- Package pte: the document's Put. -/
namespace Go.Proofs.YteaincdeoajkeaaGreatDoor.Pe
open Go.RowKit Ut
set_option linter.unusedVariables false
set_option maxRecDepth 100000
set_option maxHeartbeats 4000000

theorem refPut_any (o : Bool) (r g : Int) (z : Nat) (c : Int) (hz : putZ o r g = z) (hc : putE o r g = c) (w : World) :
    Calls Tryz.prog 148 #[pteV o r g] w fun e w' => e = .returned (.tuple #[.int .u32 z, .int .i64 c]) ∧ Below w.heap.size w w' := by
  subst hz hc
  have hb := Lib.hid (pte_below o r g w)
  by_cases h1 : r < 0
  · have e1 : fitsB o r g = false := by unfold fitsB; cases o <;> simp <;> omega
    have E1 : Hid (putZ o r g = 0) := Lib.hid (by simp [putZ, e1])
    have E2 : Hid (putE o r g = 6) := Lib.hid (by simp [putE, e1])
    clear e1
    go_enter Tryz.func148, Tryz.ntmps148
    go_wp2
    go_ret2
    exact ⟨by rw [E1.out, E2.out]; rfl, hb.out⟩
  by_cases h2 : 15 < r
  · have e1 : fitsB o r g = false := by unfold fitsB; cases o <;> simp <;> omega
    have E1 : Hid (putZ o r g = 0) := Lib.hid (by simp [putZ, e1])
    have E2 : Hid (putE o r g = 6) := Lib.hid (by simp [putE, e1])
    clear e1
    go_enter Tryz.func148, Tryz.ntmps148
    go_wp2
    go_ret2
    exact ⟨by rw [E1.out, E2.out]; rfl, hb.out⟩
  by_cases h3 : g < 0
  · have e1 : fitsB o r g = false := by unfold fitsB; cases o <;> simp <;> omega
    have E1 : Hid (putZ o r g = 0) := Lib.hid (by simp [putZ, e1])
    have E2 : Hid (putE o r g = 6) := Lib.hid (by simp [putE, e1])
    clear e1
    go_enter Tryz.func148, Tryz.ntmps148
    go_wp2
    go_ret2
    exact ⟨by rw [E1.out, E2.out]; rfl, hb.out⟩
  by_cases h4 : 31 < g
  · have e1 : fitsB o r g = false := by unfold fitsB; cases o <;> simp <;> omega
    have E1 : Hid (putZ o r g = 0) := Lib.hid (by simp [putZ, e1])
    have E2 : Hid (putE o r g = 6) := Lib.hid (by simp [putE, e1])
    clear e1
    go_enter Tryz.func148, Tryz.ntmps148
    go_wp2
    go_ret2
    exact ⟨by rw [E1.out, E2.out]; rfl, hb.out⟩
  obtain ⟨a, rfl⟩ : ∃ a : Nat, r = a := ⟨r.toNat, by omega⟩
  obtain ⟨b, rfl⟩ : ∃ b : Nat, g = b := ⟨g.toNat, by omega⟩
  cases o
  · by_cases h5 : (a : Int) = 0
    · obtain rfl : a = 0 := by omega
      by_cases h6 : (b : Int) = 0
      · obtain rfl : b = 0 := by omega
        go_enter Tryz.func148, Tryz.ntmps148
        go_wp2
        go_ret2
        exact ⟨rfl, hb.out⟩
      · have e1 : fitsB false 0 b = false := by unfold fitsB; simp; omega
        have E1 : Hid (putZ false 0 b = 0) := Lib.hid (by simp [putZ])
        have E2 : Hid (putE false 0 b = 6) := Lib.hid (by unfold putE; rw [e1]; rfl)
        have h7 : ¬ b = 0 := by omega
        clear e1
        go_enter Tryz.func148, Tryz.ntmps148
        go_wp2
        go_ret2
        exact ⟨by rw [E1.out, E2.out]; rfl, hb.out⟩
    · have e1 : fitsB false a b = false := by unfold fitsB; simp; omega
      have E1 : Hid (putZ false a b = 0) := Lib.hid (by simp [putZ])
      have E2 : Hid (putE false a b = 6) := Lib.hid (by unfold putE; rw [e1]; rfl)
      have h7 : ¬ a = 0 := by omega
      clear e1
      go_enter Tryz.func148, Tryz.ntmps148
      go_wp2
      go_ret2
      exact ⟨by rw [E1.out, E2.out]; rfl, hb.out⟩
  · have e1 : fitsB true a b = true := by unfold fitsB; simp; omega
    have E1 : Hid (putZ true a b = wordN a b) := Lib.hid (by unfold putZ; rw [e1]; rfl)
    have E2 : Hid (putE true a b = 0) := Lib.hid (by unfold putE; rw [e1]; rfl)
    clear e1
    go_enter Tryz.func148, Tryz.ntmps148
    go_wp2
    go_ret2
    exact ⟨by rw [E1.out, E2.out]; unfold wordN; simp <;> omega, hb.out⟩
end Go.Proofs.YteaincdeoajkeaaGreatDoor.Pe
end
section
/- Package pte: Get of both. -/
namespace Go.Proofs.YteaincdeoajkeaaGreatDoor.Pe
open Go.RowKit Ut
set_option linter.unusedVariables false
set_option maxRecDepth 100000
set_option maxHeartbeats 4000000

theorem set_keep {w W : World} (j : Nat) (v : Value) (h : Below w.heap.size w W) : Below w.heap.size w (W.setCell ⟨w.heap.size, j, none⟩ v) := h.setCell (p := ⟨w.heap.size, j, none⟩) (by simp) _
theorem get_odd (x : Nat) (hx : x < 4294967296) (h : x % 2 = 1) : (1 + 2 * rOf x + 256 * gOf x = x) ↔ 32 * (x / 32 % 8 + 256 * (x / 8192)) = 0 := by unfold rOf gOf; omega
theorem r_bits (x : Nat) (hx : x < 4294967296) : bits .and .u32 ((x : Int) / 2) 15 = (rOf x : Nat) := by
  rw [show (x : Int) / 2 = ((x / 2 : Nat) : Int) by omega, show (15 : Int) = ((15 : Nat) : Int) from rfl, u32_and_nat (x / 2) 15 (by omega) (by omega)]
  exact congrArg _ (Nat.and_two_pow_sub_one_eq_mod (x / 2) 4)
theorem g_bits (x : Nat) (hx : x < 4294967296) : bits .and .u32 ((x : Int) / 256) 31 = (gOf x : Nat) := by
  rw [show (x : Int) / 256 = ((x / 256 : Nat) : Int) by omega, show (31 : Int) = ((31 : Nat) : Int) from rfl, u32_and_nat (x / 256) 31 (by omega) (by omega)]
  exact congrArg _ (Nat.and_two_pow_sub_one_eq_mod (x / 256) 5)
theorem get_even (x : Nat) (hx : x < 4294967296) (h : x % 2 = 0) (w : World) :
    Calls Tryz.prog 135 #[.int .u32 x] w fun e w' => e = .returned (.tuple #[pteV false 0 0, .int .i64 4]) ∧ Below w.heap.size w w' := by
  have HB := Lib.hid (pte_below false 0 0 w)
  have ht : bits .and .u32 (x : Int) 1 = 0 := by rw [and_one x hx, h]; rfl
  go_enter Tryz.func135, Tryz.ntmps135
  go_wp2
  exact bodyPost_ret (v := .tuple #[pteV false 0 0, .int .i64 4]) (by simp [results, Tryz.results135, go_sem]) rfl ⟨rfl, HB.out⟩
theorem get_form (x : Nat) (hx : x < 4294967296) (h : x % 2 = 1) (hf : ¬ 1 + 2 * rOf x + 256 * gOf x = x) (w : World) :
    Calls Tryz.prog 135 #[.int .u32 x] w fun e w' => e = .returned (.tuple #[pteV false 0 0, .int .i64 5]) ∧ Below w.heap.size w w' := by
  have HB := Lib.hid (pte_below false 0 0 w)
  have ht : ¬ bits .and .u32 (x : Int) 1 = 0 := by rw [and_one x hx, h]; decide
  have ht2 : ¬ bits .andNot .u32 (x : Int) 7967 = 0 := by rw [and_not_all x hx]; have := get_odd x hx h; omega
  clear h hf
  go_enter Tryz.func135, Tryz.ntmps135
  go_wp2
  exact bodyPost_ret (v := .tuple #[pteV false 0 0, .int .i64 5]) (by simp [results, Tryz.results135, go_sem]) rfl ⟨rfl, HB.out⟩
theorem get_ok (x : Nat) (hx : x < 4294967296) (h : x % 2 = 1) (hf : 1 + 2 * rOf x + 256 * gOf x = x) (w : World) :
    Calls Tryz.prog 135 #[.int .u32 x] w fun e w' => e = .returned (.tuple #[pteV true (rOf x : Nat) (gOf x : Nat), .int .i64 0]) ∧ Below w.heap.size w w' := by
  have ht : ¬ bits .and .u32 (x : Int) 1 = 0 := by rw [and_one x hx, h]; decide
  have ht2 : bits .andNot .u32 (x : Int) 7967 = 0 := by rw [and_not_all x hx]; have := get_odd x hx h; omega
  have h1 := r_bits x hx
  have h2 := g_bits x hx
  have b1 : rOf x < 16 := by unfold rOf; omega
  have b2 : gOf x < 32 := by unfold gOf; omega
  clear h hf
  generalize rOf x = R at h1 b1 ⊢
  generalize gOf x = G at h2 b2 ⊢
  have HB := Lib.hid (pte_below true R G w)
  go_enter Tryz.func135, Tryz.ntmps135
  go_wp2
  exact bodyPost_ret (v := .tuple #[pteV true (R : Nat) (G : Nat), .int .i64 0]) (by simp [results, Tryz.results135, go_sem]) rfl ⟨rfl, HB.out⟩
theorem get_any (x : Nat) (hx : x < 4294967296) (f : Int) (hf : getF x = f) (w : World) :
    Calls Tryz.prog 135 #[.int .u32 x] w fun e w' => e = .returned (.tuple #[pteV (oF f) (rF f x) (gF f x), .int .i64 f]) ∧ Below w.heap.size w w' := by
  subst hf
  unfold getF
  by_cases h : x % 2 = 0
  · rw [if_pos h]; exact get_even x hx h w
  rw [if_neg h]
  by_cases h2 : 1 + 2 * rOf x + 256 * gOf x = x
  · rw [if_pos h2]; exact get_ok x hx (by omega) h2 w
  · rw [if_neg h2]; exact get_form x hx (by omega) h2 w
end Go.Proofs.YteaincdeoajkeaaGreatDoor.Pe
end
section
/- Package pte: the document's Get. -/
namespace Go.Proofs.YteaincdeoajkeaaGreatDoor.Pe
open Go.RowKit Ut
set_option linter.unusedVariables false
set_option maxRecDepth 100000
set_option maxHeartbeats 4000000

theorem quo_two (x : Nat) : (x : Int).tdiv 2 = ((x / 2 : Nat) : Int) := by rw [Int.tdiv_eq_ediv_of_nonneg (by omega)]; omega
theorem refGet_even (x : Nat) (hx : x < 4294967296) (h : x % 2 = 0) (w : World) :
    Calls Tryz.prog 123 #[.int .u32 x] w fun e w' => e = .returned (.tuple #[pteV false 0 0, .int .i64 4]) ∧ Below w.heap.size w w' := by
  have HB := Lib.hid (pte_below false 0 0 w)
  have ht : (x : Int) % 2 = 0 := by omega
  go_enter Tryz.func123, Tryz.ntmps123
  go_wp2
  exact bodyPost_ret (v := .tuple #[pteV false 0 0, .int .i64 4]) (by simp [results, Tryz.results123, go_sem]) rfl ⟨rfl, HB.out⟩
theorem refGet_odd (x R G z : Nat) (f : Int) (hx : x < 4294967296) (h : x % 2 = 1) (hR : rOf x = R) (hG : gOf x = G) (hz : 1 + 2 * R + 256 * G = z) (w : World) :
    Calls Tryz.prog 123 #[.int .u32 x] w fun e w' => e = .returned (.tuple #[if z = x then pteV true R G else pteV false 0 0, .int .i64 (if z = x then 0 else 5)]) ∧ Below w.heap.size w w' := by
  have b1 : R < 16 := by rw [← hR]; unfold rOf; omega
  have b2 : G < 32 := by rw [← hG]; unfold gOf; omega
  have e1 : (x : Int) / 2 % 16 = (R : Int) := by rw [← hR]; unfold rOf; omega
  have e2 : (x : Int) / 256 % 32 = (G : Int) := by rw [← hG]; unfold gOf; omega
  have ht : ¬ (x : Int) % 2 = 0 := by omega
  have ef : fitsB true R G = true := by unfold fitsB; simp; omega
  have P := Lib.hid (refPut_any true R G z 0 (by unfold putZ; rw [ef]; show wordN R G = z; unfold wordN; simpa using hz) (by unfold putE; rw [ef]; rfl))
  have HB0 := Lib.hid (pte_below false 0 0 w)
  have HB := Lib.hid (HB0.out.trans ((pte_below true R G (pteW false 0 0 w)).mono HB0.out.size))
  have HP0 := Lib.hid ((pte_at false 0 0 w).more (pte_below true R G (pteW false 0 0 w)))
  have HP1 : Hid (PteAt (pteW true R G (pteW false 0 0 w)) (w.heap.size + 1) true R G) := Lib.hid (by have := pte_at true R G (pteW false 0 0 w); simpa using this)
  have HSet : Hid (∀ (W : World) (j : Nat) (v : Value), Below w.heap.size w W → Below w.heap.size w (W.setCell ⟨w.heap.size, j, none⟩ v)) := Lib.hid fun W j v h => h.setCell (p := ⟨w.heap.size, j, none⟩) (by simp) _
  clear hR hG hz ef h
  by_cases hzx : z = x
  · rw [if_pos hzx, if_pos hzx]
    have e3 : (z : Int) = x := by omega
    go_enter Tryz.func123, Tryz.ntmps123
    go_wp2_with fail
    refine (P.out _).mono ?_
    rintro e w1 ⟨rfl, hb1⟩
    have hq0 := HP0.out.more hb1
    obtain ⟨r0, r1, r2⟩ := hq0.cells
    obtain ⟨s0, s1, s2⟩ := (HP1.out.more hb1).cells
    have f0 := hq0.frozen 0
    have f1 := hq0.frozen 1
    have f2 := hq0.frozen 2
    have hz0 := hq0.lt
    have HB1 := Lib.hid (HB.out.trans (hb1.mono HB.out.size))
    clear hb1 hq0
    go_wp2
    exact bodyPost_ret (v := .tuple #[pteV true R G, .int .i64 0]) (by simp [results, Tryz.results123, go_sem, r0, r1, r2]) rfl ⟨rfl, HSet.out _ _ _ (HSet.out _ _ _ (HSet.out _ _ _ HB1.out))⟩
  · rw [if_neg hzx, if_neg hzx]
    have e3 : ¬ (z : Int) = x := by omega
    go_enter Tryz.func123, Tryz.ntmps123
    go_wp2_with fail
    refine (P.out _).mono ?_
    rintro e w1 ⟨rfl, hb1⟩
    have hq0 := HP0.out.more hb1
    obtain ⟨r0, r1, r2⟩ := hq0.cells
    have f0 := hq0.frozen 0
    have f1 := hq0.frozen 1
    have f2 := hq0.frozen 2
    have hz0 := hq0.lt
    have HB1 := Lib.hid (HB.out.trans (hb1.mono HB.out.size))
    clear hb1 hq0
    go_wp2
    exact bodyPost_ret (v := .tuple #[pteV false 0 0, .int .i64 5]) (by simp [results, Tryz.results123, go_sem, r0, r1, r2]) rfl ⟨rfl, HSet.out _ _ _ (HSet.out _ _ _ (HSet.out _ _ _ HB1.out))⟩
theorem refGet_any (x : Nat) (hx : x < 4294967296) (f : Int) (hf : getF x = f) (w : World) :
    Calls Tryz.prog 123 #[.int .u32 x] w fun e w' => e = .returned (.tuple #[pteV (oF f) (rF f x) (gF f x), .int .i64 f]) ∧ Below w.heap.size w w' := by
  subst hf
  unfold getF
  by_cases h : x % 2 = 0
  · rw [if_pos h]; exact refGet_even x hx h w
  rw [if_neg h]
  have H := refGet_odd x (rOf x) (gOf x) _ 0 hx (by omega) rfl rfl rfl w
  by_cases h2 : 1 + 2 * rOf x + 256 * gOf x = x
  · rw [if_pos h2]; rw [if_pos h2, if_pos h2] at H; exact H
  · rw [if_neg h2]; rw [if_neg h2, if_neg h2] at H; exact H
end Go.Proofs.YteaincdeoajkeaaGreatDoor.Pe
end
section
/- Package pte: hasAny, of a slice of words. -/
namespace Go.Proofs.YteaincdeoajkeaaGreatDoor.Pe
open Go.RowKit Ut
set_option linter.unusedVariables false
set_option maxRecDepth 100000
set_option maxHeartbeats 4000000

theorem any_step (x k z : Nat) (zs : List Nat) (hzk : zs[k]? = some z) (hf : ((zs.take k).any fun z => decide (x &&& z ≠ 0)) = false) (h0 : x &&& z = 0) : ((zs.take (k + 1)).any fun z => decide (x &&& z ≠ 0)) = false := by
  rw [List.take_add_one, hzk, List.any_append, hf]
  simp [h0]
theorem any_here (x k z : Nat) (zs : List Nat) (hzk : zs[k]? = some z) (h0 : ¬ x &&& z = 0) : (zs.any fun z => decide (x &&& z ≠ 0)) = true :=
  List.any_eq_true.2 ⟨z, List.mem_of_getElem? hzk, by simpa using h0⟩
/-- the slice at a of n words reads as zs -/
def WordsAt (w : World) (a : Option Addr) (n : Nat) (zs : List Nat) : Prop := zs.length = n ∧ n ≤ 9223372036854775807 ∧ ∀ k, k < n → ∃ y z, a = some y ∧ zs[k]? = some z ∧ z < 4294967296 ∧ w.cell? (y.add k) = some (.int .u32 (z : Int))
theorem hasAny_any (x : Nat) (hx : x < 4294967296) (a : Option Addr) (n cap : Nat) (zs : List Nat) (w : World) (hr : WordsAt w a n zs) (t : Bool) (ht : (zs.any fun z => decide (x &&& z ≠ 0)) = t) :
    Calls Tryz.prog 110 #[.int .u32 x, .slice a n cap] w fun e w' => e = .returned (.bool t) ∧ w = w' := by
  have hm := hr.2.1
  have HT := Lib.hid ht
  have HR := Lib.hid hr
  clear ht hr
  go_enter Tryz.func110, Tryz.ntmps110
  go_wp2
  go_loop [9] (fun i => ∃ k : Nat, k ≤ n ∧ i = .int .i64 k ∧ ((zs.take k).any fun z => decide (x &&& z ≠ 0)) = false) (fun i => n - (intOf i).toNat)
  case atStart => exact ⟨0, Nat.zero_le _, rfl, rfl⟩
  case round =>
    obtain ⟨k, hk, rfl, hf⟩ := hrel
    have HF := Lib.hid hf
    clear hf
    by_cases hlt : k < n
    · obtain ⟨y, z, rfl, hzk, hzl, hc⟩ := HR.out.2.2 k hlt
      have hand := u32_and_nat x z hx hzl
      have HK := Lib.hid hzk
      clear hzk
      by_cases h0 : x &&& z = 0
      · have htest : bits .and .u32 (x : Int) (z : Int) = 0 := by rw [hand, h0]; rfl
        have HS := Lib.hid (any_step x k z zs HK.out HF.out h0)
        clear hand h0
        go_wp2
        go_round
        case rel => exact ⟨k + 1, by omega, by go_num, HS.out⟩
        case measure => simp [intOf]; omega
      · have htest : ¬ bits .and .u32 (x : Int) (z : Int) = 0 := by rw [hand]; omega
        have HS := Lib.hid (HT.out.symm.trans (any_here x k z zs HK.out h0))
        clear hand h0
        go_wp2
        go_ret
        exact ⟨by rw [HS.out]; rfl, rfl⟩
    · have HS : Hid (t = false) := Lib.hid (by have h1 := HF.out; rw [List.take_of_length_le (by have := HR.out.1; omega)] at h1; exact HT.out.symm.trans h1)
      go_wp2
      go_ret
      exact ⟨by rw [HS.out]; rfl, rfl⟩
end Go.Proofs.YteaincdeoajkeaaGreatDoor.Pe
end
