/- The walks of package label's Join, Meet, Minus, Flows: what each returns, for every argument; nothing in memory that was there turns. -/
import Derived.Test.YtiocojhkpgdjcaaLa
namespace Go.Proofs.Ytiocojhkpgdjcaa.La
open Go.RowKit

theorem minus_raw (a b : Int) (w : World) :
    Calls Try.prog 12 #[.int .i64 a, .int .i64 b] w fun e w' => e = .returned (.int .i64 (orNo (togP .andNot a [b]))) ∧ Below w.heap.size w w' := by
  go_enter Try.func12, Try.ntmps12
  go_wp2_with (first | (go_at_call 31; refine (together_any .andNot _ minus1_enters minus1_any a _ 1 1 [b] _ rfl (by omega) ?_).mono ?_; rotate_left 1; rintro e w' ⟨rfl, rfl⟩; unfold togV) | (go_at_call 30; refine (orNo_any _ _ _).mono ?_; rintro e w' ⟨rfl, rfl⟩))
  · go_ret
    exact ⟨rfl, (Below.refl _ _).alloc (Nat.le_refl _) _⟩
  · intro i hi
    obtain rfl : i = 0 := by omega
    exact ⟨_, rfl, by simp [go_sem]⟩

theorem flows_raw (a b : Int) (w : World) :
    Calls Try.prog 10 #[.int .i64 a, .int .i64 b] w fun e w' => e = .returned (.bool (orNo (togP .andNot a [b]) == 0)) ∧ Below w.heap.size w w' := by
  go_enter Try.func10, Try.ntmps10
  go_wp2_with (first | (go_at_call 12; refine (minus_raw _ _ _).mono ?_; rintro e w' ⟨rfl, hb⟩))
  go_ret
  exact ⟨rfl, hb⟩

theorem join_raw (a : Option Addr) (len cap : Nat) (zs : List Int) (w : World) (hl : zs.length = len) (hm : len ≤ 9223372036854775807)
    (hc : ∀ i, i < len → ∃ x, a = some x ∧ w.cell? (x.add i) = some (.int .i64 (zs.getD i 0))) :
    Calls Try.prog 16 #[.slice a len cap] w fun e w' => e = .returned (.int .i64 (orNo (togP .or 0 zs))) ∧ w = w' := by
  have HL := Lib.hid hl
  have HM := Lib.hid hm
  have HC := Lib.hid hc
  clear hl hm hc
  go_enter Try.func16, Try.ntmps16
  go_wp2_with (first | (go_at_call 31; refine (together_any .or _ join1_enters join1_any 0 _ _ _ zs _ HL.out HM.out HC.out).mono ?_; rintro e w' ⟨rfl, rfl⟩; unfold togV) | (go_at_call 30; refine (orNo_any _ _ _).mono ?_; rintro e w' ⟨rfl, rfl⟩))
  go_ret
  exact ⟨rfl, rfl⟩

theorem meet_raw (a : Option Addr) (len cap : Nat) (zs : List Int) (w : World) (hl : zs.length = len) (hm : len ≤ 9223372036854775807)
    (hc : ∀ i, i < len → ∃ x, a = some x ∧ w.cell? (x.add i) = some (.int .i64 (zs.getD i 0))) :
    Calls Try.prog 18 #[.slice a len cap] w fun e w' => e = .returned (.int .i64 (orNo (togP .and 255 zs))) ∧ w = w' := by
  have HL := Lib.hid hl
  have HM := Lib.hid hm
  have HC := Lib.hid hc
  clear hl hm hc
  go_enter Try.func18, Try.ntmps18
  go_wp2_with (first | (go_at_call 31; refine (together_any .and _ meet1_enters meet1_any 255 _ _ _ zs _ HL.out HM.out HC.out).mono ?_; rintro e w' ⟨rfl, rfl⟩; unfold togV) | (go_at_call 30; refine (orNo_any _ _ _).mono ?_; rintro e w' ⟨rfl, rfl⟩))
  go_ret
  exact ⟨rfl, rfl⟩
end Go.Proofs.Ytiocojhkpgdjcaa.La
