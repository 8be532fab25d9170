/- Package pte: fits, needed, Put of both. -/
import Derived.Test.YtfifflepgfpjiaaBa
namespace Go.Proofs.Ytfifflepgfpjiaa.Pe
open Go.RowKit Ut
set_option linter.unusedVariables false
set_option maxRecDepth 100000
set_option maxHeartbeats 4000000

theorem fits_off (r g : Int) (t : Bool) (ht : fitsB false r g = t) (w : World) :
    Calls Try.prog 18 #[pteV false r g] w fun e w' => e = .returned (.bool t) ∧ Below w.heap.size w w' := by
  have hb := Lib.hid (pte_below false r g w)
  have H : Hid (t = (decide (r = 0) && decide (g = 0))) := Lib.hid (by rw [← ht]; rfl)
  clear ht
  by_cases h1 : r = 0
  · subst h1
    by_cases h2 : g = 0
    · subst h2
      go_enter Try.func18, Try.ntmps18
      go_wp2
      go_ret
      exact ⟨by rw [H.out]; rfl, hb.out⟩
    · go_enter Try.func18, Try.ntmps18
      go_wp2
      go_ret
      exact ⟨by rw [H.out]; simp [h2], hb.out⟩
  · go_enter Try.func18, Try.ntmps18
    go_wp2
    go_ret
    exact ⟨by rw [H.out]; simp [h1], hb.out⟩
theorem fits_on (r g : Int) (t : Bool) (ht : fitsB true r g = t) (w : World) :
    Calls Try.prog 18 #[pteV true r g] w fun e w' => e = .returned (.bool t) ∧ Below w.heap.size w w' := by
  have hb := Lib.hid (pte_below true r g w)
  have H : Hid (t = (decide (0 ≤ r) && decide (r ≤ 15) && decide (0 ≤ g) && decide (g ≤ 31))) := Lib.hid (by rw [← ht]; rfl)
  clear ht
  by_cases h1 : 0 ≤ r
  · by_cases h2 : r ≤ 15
    · by_cases h3 : 0 ≤ g
      · by_cases h4 : g ≤ 31
        all_goals
          go_enter Try.func18, Try.ntmps18
          go_wp2
          go_ret
          exact ⟨by rw [H.out]; simp [*], hb.out⟩
      · go_enter Try.func18, Try.ntmps18
        go_wp2
        go_ret
        exact ⟨by rw [H.out]; simp; omega, hb.out⟩
    · go_enter Try.func18, Try.ntmps18
      go_wp2
      go_ret
      exact ⟨by rw [H.out]; simp; omega, hb.out⟩
  · go_enter Try.func18, Try.ntmps18
    go_wp2
    go_ret
    exact ⟨by rw [H.out]; simp; omega, hb.out⟩
theorem fits_any (o : Bool) (r g : Int) (t : Bool) (ht : fitsB o r g = t) (w : World) :
    Calls Try.prog 18 #[pteV o r g] w fun e w' => e = .returned (.bool t) ∧ Below w.heap.size w w' := by
  cases o
  · exact fits_off r g t ht w
  · exact fits_on r g t ht w
theorem needed_any (k : Int) (w : World) :
    Calls Try.prog 20 #[.int .i64 k] w fun e w' => e = .returned (.int .u32 (2 * kindN k : Nat)) ∧ w = w' := by
  unfold kindN
  by_cases h0 : k = 0
  · subst h0
    go_enter Try.func20, Try.ntmps20
    go_wp2
    go_ret
    exact ⟨rfl, rfl⟩
  rw [if_neg h0]
  by_cases h1 : k = 1
  · subst h1
    go_enter Try.func20, Try.ntmps20
    go_wp2
    go_ret
    exact ⟨rfl, rfl⟩
  rw [if_neg h1]
  by_cases h2 : k = 2
  · subst h2
    go_enter Try.func20, Try.ntmps20
    go_wp2
    go_ret
    exact ⟨rfl, rfl⟩
  rw [if_neg h2]
  go_enter Try.func20, Try.ntmps20
  go_wp2
  go_ret
  exact ⟨rfl, rfl⟩

theorem fits_in {r g : Int} (h : fitsB true r g = true) : ∃ a b : Nat, r = a ∧ g = b ∧ a ≤ 15 ∧ b ≤ 31 := by
  unfold fitsB at h
  simp at h
  exact ⟨r.toNat, g.toNat, by omega, by omega, by omega, by omega⟩
theorem word_or (a b : Nat) (ha : a ≤ 15) (hb : b ≤ 31) : bits .or .u32 (bits .or .u32 1 ((a : Int) * 2)) ((b : Int) * 256) = (1 + 2 * a + 256 * b : Nat) := by
  have h : ((List.range 16).all fun a => (List.range 32).all fun b => bits .or .u32 (bits .or .u32 1 ((a : Int) * 2)) ((b : Int) * 256) == ((1 + 2 * a + 256 * b : Nat) : Int)) = true := by decide +kernel
  have h1 := List.all_eq_true.1 (List.all_eq_true.1 h a (by simp; omega)) b (by simp; omega)
  simpa using h1

theorem put_bad (o : Bool) (r g : Int) (h : fitsB o r g = false) (w : World) :
    Calls Try.prog 7 #[pteV o r g] w fun e w' => e = .returned (.tuple #[.int .u32 0, .int .i64 6]) ∧ Below w.heap.size w w' := by
  have hb := Lib.hid (pte_below o r g w)
  have C := Lib.hid (fits_any o r g false h)
  clear h
  go_enter Try.func7, Try.ntmps7
  go_wp2_with fail
  refine (C.out _).mono ?_
  rintro e w1 ⟨rfl, hb1⟩
  have HB1 := Lib.hid (hb.out.trans (hb1.mono hb.out.size))
  clear hb1
  go_wp2
  go_ret2
  exact ⟨rfl, HB1.out⟩
theorem put_off (r g : Int) (h : fitsB false r g = true) (w : World) :
    Calls Try.prog 7 #[pteV false r g] w fun e w' => e = .returned (.tuple #[.int .u32 0, .int .i64 0]) ∧ Below w.heap.size w w' := by
  have hb := Lib.hid (pte_below false r g w)
  have C := Lib.hid (fits_any false r g true h)
  have HP := Lib.hid (pte_at false r g w)
  clear h
  go_enter Try.func7, Try.ntmps7
  go_wp2_with fail
  refine (C.out _).mono ?_
  rintro e w1 ⟨rfl, hb1⟩
  obtain ⟨r0, r1, r2⟩ := (HP.out.more hb1).cells
  have HB1 := Lib.hid (hb.out.trans (hb1.mono hb.out.size))
  clear hb1
  go_wp2
  go_ret2
  exact ⟨rfl, HB1.out⟩
theorem put_on (r g : Int) (h : fitsB true r g = true) (w : World) :
    Calls Try.prog 7 #[pteV true r g] w fun e w' => e = .returned (.tuple #[.int .u32 (wordN r g : Nat), .int .i64 0]) ∧ Below w.heap.size w w' := by
  have hb := Lib.hid (pte_below true r g w)
  have C := Lib.hid (fits_any true r g true h)
  have HP := Lib.hid (pte_at true r g w)
  obtain ⟨a, b, rfl, rfl, h1, h2⟩ := fits_in h
  have HW := Lib.hid (word_or a b h1 h2)
  clear h
  go_enter Try.func7, Try.ntmps7
  go_wp2_with fail
  refine (C.out _).mono ?_
  rintro e w1 ⟨rfl, hb1⟩
  obtain ⟨r0, r1, r2⟩ := (HP.out.more hb1).cells
  have HB1 := Lib.hid (hb.out.trans (hb1.mono hb.out.size))
  clear hb1
  go_wp2
  go_ret2
  exact ⟨by rw [HW.out]; rfl, HB1.out⟩
theorem put_any (o : Bool) (r g : Int) (z : Nat) (c : Int) (hz : putZ o r g = z) (hc : putE o r g = c) (w : World) :
    Calls Try.prog 7 #[pteV o r g] w fun e w' => e = .returned (.tuple #[.int .u32 z, .int .i64 c]) ∧ Below w.heap.size w w' := by
  subst hz hc
  unfold putZ putE
  by_cases h : fitsB o r g = true
  · cases o
    · simp only [h]
      exact put_off r g h w
    · simp only [h]
      exact put_on r g h w
  · have hf : fitsB o r g = false := by simpa using h
    simp only [hf]
    exact put_bad o r g hf w
end Go.Proofs.Ytfifflepgfpjiaa.Pe
