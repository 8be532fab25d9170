/- Package pte: hasAny, of a slice of words. -/
import Derived.Test.YtfifflepgfpjiaaBa
namespace Go.Proofs.Ytfifflepgfpjiaa.Pe
open Go.RowKit Ut
set_option linter.unusedVariables false
set_option maxRecDepth 100000
set_option maxHeartbeats 4000000

theorem any_step (x k z : Nat) (zs : List Nat) (hzk : zs[k]? = some z) (hf : ((zs.take k).any fun z => decide (x &&& z ≠ 0)) = false) (h0 : x &&& z = 0) : ((zs.take (k + 1)).any fun z => decide (x &&& z ≠ 0)) = false := by
  rw [List.take_add_one, hzk, List.any_append, hf]
  simp [h0]
theorem any_here (x k z : Nat) (zs : List Nat) (hzk : zs[k]? = some z) (h0 : ¬ x &&& z = 0) : (zs.any fun z => decide (x &&& z ≠ 0)) = true :=
  List.any_eq_true.2 ⟨z, List.mem_of_getElem? hzk, by simpa using h0⟩
/-- the slice at a of n words reads as zs -/
def WordsAt (w : World) (a : Option Addr) (n : Nat) (zs : List Nat) : Prop := zs.length = n ∧ n ≤ 9223372036854775807 ∧ ∀ k, k < n → ∃ y z, a = some y ∧ zs[k]? = some z ∧ z < 4294967296 ∧ w.cell? (y.add k) = some (.int .u32 (z : Int))
theorem hasAny_any (x : Nat) (hx : x < 4294967296) (a : Option Addr) (n cap : Nat) (zs : List Nat) (w : World) (hr : WordsAt w a n zs) (t : Bool) (ht : (zs.any fun z => decide (x &&& z ≠ 0)) = t) :
    Calls Try.prog 19 #[.int .u32 x, .slice a n cap] w fun e w' => e = .returned (.bool t) ∧ w = w' := by
  have hm := hr.2.1
  have HT := Lib.hid ht
  have HR := Lib.hid hr
  clear ht hr
  go_enter Try.func19, Try.ntmps19
  go_wp2
  go_loop [9] (fun i => ∃ k : Nat, k ≤ n ∧ i = .int .i64 k ∧ ((zs.take k).any fun z => decide (x &&& z ≠ 0)) = false) (fun i => n - (intOf i).toNat)
  case atStart => exact ⟨0, Nat.zero_le _, rfl, rfl⟩
  case round =>
    obtain ⟨k, hk, rfl, hf⟩ := hrel
    have HF := Lib.hid hf
    clear hf
    by_cases hlt : k < n
    · obtain ⟨y, z, rfl, hzk, hzl, hc⟩ := HR.out.2.2 k hlt
      have hand := u32_and_nat x z hx hzl
      have HK := Lib.hid hzk
      clear hzk
      by_cases h0 : x &&& z = 0
      · have htest : bits .and .u32 (x : Int) (z : Int) = 0 := by rw [hand, h0]; rfl
        have HS := Lib.hid (any_step x k z zs HK.out HF.out h0)
        clear hand h0
        go_wp2
        go_round
        case rel => exact ⟨k + 1, by omega, by go_num, HS.out⟩
        case measure => simp [intOf]; omega
      · have htest : ¬ bits .and .u32 (x : Int) (z : Int) = 0 := by rw [hand]; omega
        have HS := Lib.hid (HT.out.symm.trans (any_here x k z zs HK.out h0))
        clear hand h0
        go_wp2
        go_ret
        exact ⟨by rw [HS.out]; rfl, rfl⟩
    · have HS : Hid (t = false) := Lib.hid (by have h1 := HF.out; rw [List.take_of_length_le (by have := HR.out.1; omega)] at h1; exact HT.out.symm.trans h1)
      go_wp2
      go_ret
      exact ⟨by rw [HS.out]; rfl, rfl⟩
end Go.Proofs.Ytfifflepgfpjiaa.Pe
