/- The walks of package label's Join, Meet, Minus, Flows: what each returns, for every argument; nothing in memory that was there turns. -/
import Derived.Test.YtmekoanobicddaaLa
namespace Go.Proofs.Ytmekoanobicddaa.La
open Go.RowKit

theorem minus_raw (a b : Int) (w : World) :
    Calls Try.prog 62 #[.int .i64 a, .int .i64 b] w fun e w' => e = .returned (.int .i64 (orNo (togP .andNot a [b]))) ∧ Below w.heap.size w w' := by
  go_enter Try.func62, Try.ntmps62
  go_wp2_with (first | (go_at_call 91; refine (together_any .andNot _ minus1_enters minus1_any a _ 1 1 [b] _ rfl (by omega) ?_).mono ?_; rotate_left 1; rintro e w' ⟨rfl, rfl⟩; unfold togV) | (go_at_call 90; refine (orNo_any _ _ _).mono ?_; rintro e w' ⟨rfl, rfl⟩))
  · go_ret
    exact ⟨rfl, (Below.refl _ _).alloc (Nat.le_refl _) _⟩
  · intro i hi
    obtain rfl : i = 0 := by omega
    exact ⟨_, rfl, by simp [go_sem]⟩

theorem flows_raw (a b : Int) (w : World) :
    Calls Try.prog 35 #[.int .i64 a, .int .i64 b] w fun e w' => e = .returned (.bool (orNo (togP .andNot a [b]) == 0)) ∧ Below w.heap.size w w' := by
  go_enter Try.func35, Try.ntmps35
  go_wp2_with (first | (go_at_call 62; refine (minus_raw _ _ _).mono ?_; rintro e w' ⟨rfl, hb⟩))
  go_ret
  exact ⟨rfl, hb⟩

end Go.Proofs.Ytmekoanobicddaa.La
