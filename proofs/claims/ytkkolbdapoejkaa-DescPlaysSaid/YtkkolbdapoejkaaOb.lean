/- The walks of package octet's Get, Put and Sign: what each returns, for every argument. -/
import Derived.Test.YtkkolbdapoejkaaOa
import Derived.Laws.CopyOwn
namespace Go.Proofs.Ytkkolbdapoejkaa.Oc
open Go.RowKit Ut
set_option maxRecDepth 100000
set_option linter.unusedVariables false

theorem info_byte : (Try.prog.info? 5).map (fun i => (i.zero, i.size, i.bytes)) = some (some (.int .u8 0), 1, 1) := by kernel_rfl
theorem size_byte : (Try.prog.info? 5).map (·.size) = some 1 := by kernel_rfl

theorem hold_nat {n i m : Nat} (hm : isW m = true) (hi : i + m ≤ n) : hold n i m = true := by
  unfold hold; rw [hm]; simp; omega
theorem hold_yes {n : Nat} {i m : Int} (h : hold n i m = true) : ∃ j k : Nat, i = j ∧ m = k ∧ isW (k : Int) = true ∧ j + k ≤ n ∧ 0 < k ∧ k ≤ 4 := by
  unfold hold at h
  simp at h
  obtain ⟨⟨h1, h2⟩, h3⟩ := h
  obtain ⟨m1, m4⟩ := isW_le h1
  obtain ⟨j, rfl⟩ := Int.eq_ofNat_of_zero_le h2
  obtain ⟨k, rfl⟩ := Int.eq_ofNat_of_zero_le (show 0 ≤ m by omega)
  exact ⟨j, k, rfl, rfl, h1, by omega, by omega, by omega⟩

theorem cut_own (g n cap i m : Nat) (w : World) (hm : 0 < m) (hi : i + m ≤ n) (hn : n ≤ cap) (hc : cap ≤ 9223372036854775807) :
    Calls Try.prog 27 #[.slice (some ⟨g, 0, none⟩) n cap, .int .i64 i, .int .i64 m] w fun e w' => e = .returned (.slice (some ⟨g, i, none⟩) m m) ∧ w = w' := by
  have := cut_any ⟨g, 0, none⟩ n cap i m w hm hi hn hc
  rwa [add_plain] at this

end Go.Proofs.Ytkkolbdapoejkaa.Oc
