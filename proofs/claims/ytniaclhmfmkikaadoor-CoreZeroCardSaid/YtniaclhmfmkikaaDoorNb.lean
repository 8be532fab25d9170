/- Package isa: Kernel, cut; the document's reg, Has, Kernel. -/
import Derived.Test.YtniaclhmfmkikaaDoorNa
namespace Go.Proofs.YtniaclhmfmkikaaDoor.Is
open Go.RowKit Ut
set_option linter.unusedVariables false
set_option maxRecDepth 100000
set_option maxHeartbeats 4000000

theorem kernel_any (o : Int) (t : Bool) (ht : kernB o = t) (w : World) :
    Calls Tryd.prog 17 #[.int .i64 o] w fun e w' => e = .returned (.bool t) ∧ w = w' := by
  subst ht
  by_cases h : o = 35 ∨ o = 36 ∨ o = 37 ∨ o = 38 ∨ o = 39 ∨ o = 40
  · rcases h with rfl | rfl | rfl | rfl | rfl | rfl
    all_goals
      go_enter Tryd.func17, Tryd.ntmps17
      go_wp2
      go_ret
      exact ⟨rfl, rfl⟩
  · have e : kernB o = false := by unfold kernB; simp; omega
    rw [e]
    have h35 : (o == 35) = false := by rw [beq_eq_false_iff_ne]; omega
    have h36 : (o == 36) = false := by rw [beq_eq_false_iff_ne]; omega
    have h37 : (o == 37) = false := by rw [beq_eq_false_iff_ne]; omega
    have h38 : (o == 38) = false := by rw [beq_eq_false_iff_ne]; omega
    have h39 : (o == 39) = false := by rw [beq_eq_false_iff_ne]; omega
    have h40 : (o == 40) = false := by rw [beq_eq_false_iff_ne]; omega
    clear h e
    go_enter Tryd.func17, Tryd.ntmps17
    go_wp2
    go_ret
    exact ⟨rfl, rfl⟩
/-- the document's reg -/
def regB (t : Bool) (n : Int) : Bool := n == 0 || (t && decide (0 < n) && decide (n < 16))
/-- what the document's Has says of an operation -/
def hD (n : Nat) : Bool := hasN n &&& 1 != 0
def hA (n : Nat) : Bool := hasN n &&& 2 != 0
def hB (n : Nat) : Bool := hasN n &&& 4 != 0
def hI (n : Nat) : Bool := hasN n &&& 56 != 0
end Go.Proofs.YtniaclhmfmkikaaDoor.Is
