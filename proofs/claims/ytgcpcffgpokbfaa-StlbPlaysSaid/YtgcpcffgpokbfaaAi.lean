/- hermitagelaw18: same: two rows of translations that read alike. -/
import Derived.Test.YtgcpcffgpokbfaaAb
namespace Go.Proofs.Ytgcpcffgpokbfaa.Sb
open Go.RowKit Ut
set_option maxRecDepth 100000
set_option linter.unusedVariables false
set_option maxHeartbeats 4000000

theorem same18_true (a b : Option Addr) (ca cb n : Nat) (xs : List Rc) (w : World) (hl : xs.length = n) (hn : n ≤ 100000) (h1 : RcRow w a xs) (h2 : RcRow w b xs) :
    Calls Try.prog 23 #[.slice a n ca, .slice b n cb] w fun e w' => e = .returned (.bool true) ∧ Below w.heap.size w w' := by
  have H1 := Lib.hid h1
  have H2 := Lib.hid h2
  have HL := Lib.hid hl
  have hn0 : (n : Int) ≤ 100000 := by omega
  clear h1 h2 hl
  go_enter Try.func23, Try.ntmps23
  go_wp2
  go_loopw [5] (fun i wr => ∃ k : Nat, k ≤ n ∧ i = .int .i64 k ∧ Hid (Below w.heap.size w wr)) (fun i _ => n - (intOf i).toNat)
  case atStart => exact ⟨0, Nat.zero_le _, rfl, Lib.hid (Below.refl _ _)⟩
  case round =>
    obtain ⟨k, hk, rfl, HB⟩ := hrel
    by_cases hlt : k < n
    · have hx : xs[k]? = some (xs[k]'(by rw [HL.out]; exact hlt)) := List.getElem?_eq_getElem _
      obtain ⟨x, hxx⟩ : ∃ x, xs[k]'(by rw [HL.out]; exact hlt) = x := ⟨_, rfl⟩
      rw [hxx] at hx
      obtain ⟨y1, rfl, hy1, c0, c1, c2, c3, c4⟩ := (H1.out.more HB.out).at_ hx
      obtain ⟨y2, rfl, hy2, d0, d1, d2, d3, d4⟩ := (H2.out.more HB.out).at_ hx
      have H3 := Lib.hid hlt
      have b0 : (0 : Int) ≤ (k : Int) := by omega
      have b1 : (k : Int) < (n : Int) := by omega
      clear hx hxx hk hlt
      obtain ⟨kr, kp, ep, ef, er⟩ := x
      dsimp only at c0 c1 c2 c3 c4 d0 d1 d2 d3 d4
      go_wp2
      go_quiet (fail)
      go_wp2
      go_roundw
      case rel => exact ⟨k + 1, H3.out, by go_num, Lib.hid (below_drewN HB.out _)⟩
      case measure => have := H3.out; simp [intOf]; omega
    · obtain rfl : k = n := by omega
      have b1 : ¬ (k : Int) < (k : Int) := by omega
      go_wp2
      go_ret
      exact ⟨rfl, HB.out⟩
end Go.Proofs.Ytgcpcffgpokbfaa.Sb
