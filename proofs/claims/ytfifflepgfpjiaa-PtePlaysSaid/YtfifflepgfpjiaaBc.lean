/- Package pte: the document's Put. -/
import Derived.Test.YtfifflepgfpjiaaBb
namespace Go.Proofs.Ytfifflepgfpjiaa.Pe
open Go.RowKit Ut
set_option linter.unusedVariables false
set_option maxRecDepth 100000
set_option maxHeartbeats 4000000

theorem refPut_any (o : Bool) (r g : Int) (z : Nat) (c : Int) (hz : putZ o r g = z) (hc : putE o r g = c) (w : World) :
    Calls Try.prog 8 #[pteV o r g] w fun e w' => e = .returned (.tuple #[.int .u32 z, .int .i64 c]) ∧ Below w.heap.size w w' := by
  subst hz hc
  have hb := Lib.hid (pte_below o r g w)
  by_cases h1 : r < 0
  · have e1 : fitsB o r g = false := by unfold fitsB; cases o <;> simp <;> omega
    have E1 : Hid (putZ o r g = 0) := Lib.hid (by simp [putZ, e1])
    have E2 : Hid (putE o r g = 6) := Lib.hid (by simp [putE, e1])
    clear e1
    go_enter Try.func8, Try.ntmps8
    go_wp2
    go_ret2
    exact ⟨by rw [E1.out, E2.out]; rfl, hb.out⟩
  by_cases h2 : 15 < r
  · have e1 : fitsB o r g = false := by unfold fitsB; cases o <;> simp <;> omega
    have E1 : Hid (putZ o r g = 0) := Lib.hid (by simp [putZ, e1])
    have E2 : Hid (putE o r g = 6) := Lib.hid (by simp [putE, e1])
    clear e1
    go_enter Try.func8, Try.ntmps8
    go_wp2
    go_ret2
    exact ⟨by rw [E1.out, E2.out]; rfl, hb.out⟩
  by_cases h3 : g < 0
  · have e1 : fitsB o r g = false := by unfold fitsB; cases o <;> simp <;> omega
    have E1 : Hid (putZ o r g = 0) := Lib.hid (by simp [putZ, e1])
    have E2 : Hid (putE o r g = 6) := Lib.hid (by simp [putE, e1])
    clear e1
    go_enter Try.func8, Try.ntmps8
    go_wp2
    go_ret2
    exact ⟨by rw [E1.out, E2.out]; rfl, hb.out⟩
  by_cases h4 : 31 < g
  · have e1 : fitsB o r g = false := by unfold fitsB; cases o <;> simp <;> omega
    have E1 : Hid (putZ o r g = 0) := Lib.hid (by simp [putZ, e1])
    have E2 : Hid (putE o r g = 6) := Lib.hid (by simp [putE, e1])
    clear e1
    go_enter Try.func8, Try.ntmps8
    go_wp2
    go_ret2
    exact ⟨by rw [E1.out, E2.out]; rfl, hb.out⟩
  obtain ⟨a, rfl⟩ : ∃ a : Nat, r = a := ⟨r.toNat, by omega⟩
  obtain ⟨b, rfl⟩ : ∃ b : Nat, g = b := ⟨g.toNat, by omega⟩
  cases o
  · by_cases h5 : (a : Int) = 0
    · obtain rfl : a = 0 := by omega
      by_cases h6 : (b : Int) = 0
      · obtain rfl : b = 0 := by omega
        go_enter Try.func8, Try.ntmps8
        go_wp2
        go_ret2
        exact ⟨rfl, hb.out⟩
      · have e1 : fitsB false 0 b = false := by unfold fitsB; simp; omega
        have E1 : Hid (putZ false 0 b = 0) := Lib.hid (by simp [putZ])
        have E2 : Hid (putE false 0 b = 6) := Lib.hid (by unfold putE; rw [e1]; rfl)
        have h7 : ¬ b = 0 := by omega
        clear e1
        go_enter Try.func8, Try.ntmps8
        go_wp2
        go_ret2
        exact ⟨by rw [E1.out, E2.out]; rfl, hb.out⟩
    · have e1 : fitsB false a b = false := by unfold fitsB; simp; omega
      have E1 : Hid (putZ false a b = 0) := Lib.hid (by simp [putZ])
      have E2 : Hid (putE false a b = 6) := Lib.hid (by unfold putE; rw [e1]; rfl)
      have h7 : ¬ a = 0 := by omega
      clear e1
      go_enter Try.func8, Try.ntmps8
      go_wp2
      go_ret2
      exact ⟨by rw [E1.out, E2.out]; rfl, hb.out⟩
  · have e1 : fitsB true a b = true := by unfold fitsB; simp; omega
    have E1 : Hid (putZ true a b = wordN a b) := Lib.hid (by unfold putZ; rw [e1]; rfl)
    have E2 : Hid (putE true a b = 0) := Lib.hid (by unfold putE; rw [e1]; rfl)
    clear e1
    go_enter Try.func8, Try.ntmps8
    go_wp2
    go_ret2
    exact ⟨by rw [E1.out, E2.out]; unfold wordN; simp <;> omega, hb.out⟩
end Go.Proofs.Ytfifflepgfpjiaa.Pe
