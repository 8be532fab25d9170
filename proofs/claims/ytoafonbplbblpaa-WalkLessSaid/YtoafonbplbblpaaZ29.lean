/- Several texts in one: Bf Bd -/
import Derived.Test.YtoafonbplbblpaaZ28
import Derived.Test.YtoafonbplbblpaaZ27
section
/- Package pte: the document's Get. -/
namespace Go.Proofs.Ytoafonbplbblpaa.Pe
open Go.RowKit Ut
set_option linter.unusedVariables false
set_option maxRecDepth 100000
set_option maxHeartbeats 4000000

theorem quo_two (x : Nat) : (x : Int).tdiv 2 = ((x / 2 : Nat) : Int) := by rw [Int.tdiv_eq_ediv_of_nonneg (by omega)]; omega
theorem refGet_even (x : Nat) (hx : x < 4294967296) (h : x % 2 = 0) (w : World) :
    Calls Try.prog 61 #[.int .u32 x] w fun e w' => e = .returned (.tuple #[pteV false 0 0, .int .i64 4]) ∧ Below w.heap.size w w' := by
  have HB := Lib.hid (pte_below false 0 0 w)
  have ht : (x : Int) % 2 = 0 := by omega
  go_enter Try.func61, Try.ntmps61
  go_wp2
  exact bodyPost_ret (v := .tuple #[pteV false 0 0, .int .i64 4]) (by simp [results, Try.results61, go_sem]) rfl ⟨rfl, HB.out⟩
theorem refGet_odd (x R G z : Nat) (f : Int) (hx : x < 4294967296) (h : x % 2 = 1) (hR : rOf x = R) (hG : gOf x = G) (hz : 1 + 2 * R + 256 * G = z) (w : World) :
    Calls Try.prog 61 #[.int .u32 x] w fun e w' => e = .returned (.tuple #[if z = x then pteV true R G else pteV false 0 0, .int .i64 (if z = x then 0 else 5)]) ∧ Below w.heap.size w w' := by
  have b1 : R < 16 := by rw [← hR]; unfold rOf; omega
  have b2 : G < 32 := by rw [← hG]; unfold gOf; omega
  have e1 : (x : Int) / 2 % 16 = (R : Int) := by rw [← hR]; unfold rOf; omega
  have e2 : (x : Int) / 256 % 32 = (G : Int) := by rw [← hG]; unfold gOf; omega
  have ht : ¬ (x : Int) % 2 = 0 := by omega
  have ef : fitsB true R G = true := by unfold fitsB; simp; omega
  have P := Lib.hid (refPut_any true R G z 0 (by unfold putZ; rw [ef]; show wordN R G = z; unfold wordN; simpa using hz) (by unfold putE; rw [ef]; rfl))
  have HB0 := Lib.hid (pte_below false 0 0 w)
  have HB := Lib.hid (HB0.out.trans ((pte_below true R G (pteW false 0 0 w)).mono HB0.out.size))
  have HP0 := Lib.hid ((pte_at false 0 0 w).more (pte_below true R G (pteW false 0 0 w)))
  have HP1 : Hid (PteAt (pteW true R G (pteW false 0 0 w)) (w.heap.size + 1) true R G) := Lib.hid (by have := pte_at true R G (pteW false 0 0 w); simpa using this)
  have HSet : Hid (∀ (W : World) (j : Nat) (v : Value), Below w.heap.size w W → Below w.heap.size w (W.setCell ⟨w.heap.size, j, none⟩ v)) := Lib.hid fun W j v h => h.setCell (p := ⟨w.heap.size, j, none⟩) (by simp) _
  clear hR hG hz ef h
  by_cases hzx : z = x
  · rw [if_pos hzx, if_pos hzx]
    have e3 : (z : Int) = x := by omega
    go_enter Try.func61, Try.ntmps61
    go_wp2_with fail
    refine (P.out _).mono ?_
    rintro e w1 ⟨rfl, hb1⟩
    have hq0 := HP0.out.more hb1
    obtain ⟨r0, r1, r2⟩ := hq0.cells
    obtain ⟨s0, s1, s2⟩ := (HP1.out.more hb1).cells
    have f0 := hq0.frozen 0
    have f1 := hq0.frozen 1
    have f2 := hq0.frozen 2
    have hz0 := hq0.lt
    have HB1 := Lib.hid (HB.out.trans (hb1.mono HB.out.size))
    clear hb1 hq0
    go_wp2
    exact bodyPost_ret (v := .tuple #[pteV true R G, .int .i64 0]) (by simp [results, Try.results61, go_sem, r0, r1, r2]) rfl ⟨rfl, HSet.out _ _ _ (HSet.out _ _ _ (HSet.out _ _ _ HB1.out))⟩
  · rw [if_neg hzx, if_neg hzx]
    have e3 : ¬ (z : Int) = x := by omega
    go_enter Try.func61, Try.ntmps61
    go_wp2_with fail
    refine (P.out _).mono ?_
    rintro e w1 ⟨rfl, hb1⟩
    have hq0 := HP0.out.more hb1
    obtain ⟨r0, r1, r2⟩ := hq0.cells
    have f0 := hq0.frozen 0
    have f1 := hq0.frozen 1
    have f2 := hq0.frozen 2
    have hz0 := hq0.lt
    have HB1 := Lib.hid (HB.out.trans (hb1.mono HB.out.size))
    clear hb1 hq0
    go_wp2
    exact bodyPost_ret (v := .tuple #[pteV false 0 0, .int .i64 5]) (by simp [results, Try.results61, go_sem, r0, r1, r2]) rfl ⟨rfl, HSet.out _ _ _ (HSet.out _ _ _ (HSet.out _ _ _ HB1.out))⟩
theorem refGet_any (x : Nat) (hx : x < 4294967296) (f : Int) (hf : getF x = f) (w : World) :
    Calls Try.prog 61 #[.int .u32 x] w fun e w' => e = .returned (.tuple #[pteV (oF f) (rF f x) (gF f x), .int .i64 f]) ∧ Below w.heap.size w w' := by
  subst hf
  unfold getF
  by_cases h : x % 2 = 0
  · rw [if_pos h]; exact refGet_even x hx h w
  rw [if_neg h]
  have H := refGet_odd x (rOf x) (gOf x) _ 0 hx (by omega) rfl rfl rfl w
  by_cases h2 : 1 + 2 * rOf x + 256 * gOf x = x
  · rw [if_pos h2]; rw [if_pos h2, if_pos h2] at H; exact H
  · rw [if_neg h2]; rw [if_neg h2, if_neg h2] at H; exact H
end Go.Proofs.Ytoafonbplbblpaa.Pe
end
section
/- Package pte: hasAny, of a slice of words. -/
namespace Go.Proofs.Ytoafonbplbblpaa.Pe
open Go.RowKit Ut
set_option linter.unusedVariables false
set_option maxRecDepth 100000
set_option maxHeartbeats 4000000

theorem any_step (x k z : Nat) (zs : List Nat) (hzk : zs[k]? = some z) (hf : ((zs.take k).any fun z => decide (x &&& z ≠ 0)) = false) (h0 : x &&& z = 0) : ((zs.take (k + 1)).any fun z => decide (x &&& z ≠ 0)) = false := by
  rw [List.take_add_one, hzk, List.any_append, hf]
  simp [h0]
theorem any_here (x k z : Nat) (zs : List Nat) (hzk : zs[k]? = some z) (h0 : ¬ x &&& z = 0) : (zs.any fun z => decide (x &&& z ≠ 0)) = true :=
  List.any_eq_true.2 ⟨z, List.mem_of_getElem? hzk, by simpa using h0⟩
/-- the slice at a of n words reads as zs -/
def WordsAt (w : World) (a : Option Addr) (n : Nat) (zs : List Nat) : Prop := zs.length = n ∧ n ≤ 9223372036854775807 ∧ ∀ k, k < n → ∃ y z, a = some y ∧ zs[k]? = some z ∧ z < 4294967296 ∧ w.cell? (y.add k) = some (.int .u32 (z : Int))
theorem hasAny_any (x : Nat) (hx : x < 4294967296) (a : Option Addr) (n cap : Nat) (zs : List Nat) (w : World) (hr : WordsAt w a n zs) (t : Bool) (ht : (zs.any fun z => decide (x &&& z ≠ 0)) = t) :
    Calls Try.prog 45 #[.int .u32 x, .slice a n cap] w fun e w' => e = .returned (.bool t) ∧ w = w' := by
  have hm := hr.2.1
  have HT := Lib.hid ht
  have HR := Lib.hid hr
  clear ht hr
  go_enter Try.func45, Try.ntmps45
  go_wp2
  go_loop [9] (fun i => ∃ k : Nat, k ≤ n ∧ i = .int .i64 k ∧ ((zs.take k).any fun z => decide (x &&& z ≠ 0)) = false) (fun i => n - (intOf i).toNat)
  case atStart => exact ⟨0, Nat.zero_le _, rfl, rfl⟩
  case round =>
    obtain ⟨k, hk, rfl, hf⟩ := hrel
    have HF := Lib.hid hf
    clear hf
    by_cases hlt : k < n
    · obtain ⟨y, z, rfl, hzk, hzl, hc⟩ := HR.out.2.2 k hlt
      have hand := u32_and_nat x z hx hzl
      have HK := Lib.hid hzk
      clear hzk
      by_cases h0 : x &&& z = 0
      · have htest : bits .and .u32 (x : Int) (z : Int) = 0 := by rw [hand, h0]; rfl
        have HS := Lib.hid (any_step x k z zs HK.out HF.out h0)
        clear hand h0
        go_wp2
        go_round
        case rel => exact ⟨k + 1, by omega, by go_num, HS.out⟩
        case measure => simp [intOf]; omega
      · have htest : ¬ bits .and .u32 (x : Int) (z : Int) = 0 := by rw [hand]; omega
        have HS := Lib.hid (HT.out.symm.trans (any_here x k z zs HK.out h0))
        clear hand h0
        go_wp2
        go_ret
        exact ⟨by rw [HS.out]; rfl, rfl⟩
    · have HS : Hid (t = false) := Lib.hid (by have h1 := HF.out; rw [List.take_of_length_le (by have := HR.out.1; omega)] at h1; exact HT.out.symm.trans h1)
      go_wp2
      go_ret
      exact ⟨by rw [HS.out]; rfl, rfl⟩
end Go.Proofs.Ytoafonbplbblpaa.Pe
end
