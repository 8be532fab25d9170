/- Package isa: Kernel, cut; the document's reg, Has, Kernel. -/
import Derived.Test.YtfdekfobcohcjaaDoorNa
namespace Go.Proofs.YtfdekfobcohcjaaDoor.Is
open Go.RowKit Ut
set_option linter.unusedVariables false
set_option maxRecDepth 100000
set_option maxHeartbeats 4000000

/-- the document's reg -/
def regB (t : Bool) (n : Int) : Bool := n == 0 || (t && decide (0 < n) && decide (n < 16))
theorem reg_any (h : Bool) (n : Int) (t : Bool) (ht : regB h n = t) (w : World) :
    Calls Tryd.prog 40 #[.bool h, .int .i64 n] w fun e w' => e = .returned (.bool t) ∧ w = w' := by
  subst ht
  by_cases h0 : n = 0
  · subst h0
    go_enter Tryd.func40, Tryd.ntmps40
    go_wp2
    go_ret
    exact ⟨rfl, rfl⟩
  · have e0 : (n == 0) = false := by rw [beq_eq_false_iff_ne]; omega
    cases h
    · go_enter Tryd.func40, Tryd.ntmps40
      go_wp2
      go_ret
      exact ⟨by simp [regB, e0], rfl⟩
    · by_cases h1 : 0 < n
      · go_enter Tryd.func40, Tryd.ntmps40
        go_wp2
        go_ret
        exact ⟨by first | (simp [regB, e0]; omega) | (simp [regB, e0]; done), rfl⟩
      · go_enter Tryd.func40, Tryd.ntmps40
        go_wp2
        go_ret
        exact ⟨by first | (simp [regB, e0]; omega) | (simp [regB, e0]; done), rfl⟩
/-- what the document's Has says of an operation -/
def hD (n : Nat) : Bool := hasN n &&& 1 != 0
def hA (n : Nat) : Bool := hasN n &&& 2 != 0
def hB (n : Nat) : Bool := hasN n &&& 4 != 0
def hI (n : Nat) : Bool := hasN n &&& 56 != 0
theorem refHas_any (n : Nat) (h1 : 1 ≤ n) (h2 : n ≤ 41) (w : World) :
    Calls Tryd.prog 22 #[.int .i64 n] w fun e w' => e = .returned (.tuple #[.bool (hD n), .bool (hA n), .bool (hB n), .bool (hI n)]) ∧ w = w' := by
  rcases (show n = 1 ∨ n = 2 ∨ n = 3 ∨ n = 4 ∨ n = 5 ∨ n = 6 ∨ n = 7 ∨ n = 8 ∨ n = 9 ∨ n = 10 ∨ n = 11 ∨ n = 12 ∨ n = 13 ∨ n = 14 ∨ n = 15 ∨ n = 16 ∨ n = 17 ∨ n = 18 ∨ n = 19 ∨ n = 20 ∨ n = 21 ∨ n = 22 ∨ n = 23 ∨ n = 24 ∨ n = 25 ∨ n = 26 ∨ n = 27 ∨ n = 28 ∨ n = 29 ∨ n = 30 ∨ n = 31 ∨ n = 32 ∨ n = 33 ∨ n = 34 ∨ n = 35 ∨ n = 36 ∨ n = 37 ∨ n = 38 ∨ n = 39 ∨ n = 40 ∨ n = 41 by omega) with rfl | rfl | rfl | rfl | rfl | rfl | rfl | rfl | rfl | rfl | rfl | rfl | rfl | rfl | rfl | rfl | rfl | rfl | rfl | rfl | rfl | rfl | rfl | rfl | rfl | rfl | rfl | rfl | rfl | rfl | rfl | rfl | rfl | rfl | rfl | rfl | rfl | rfl | rfl | rfl | rfl
  all_goals
    clear h1 h2
    go_enter Tryd.func22, Tryd.ntmps22
    go_wp2
    first
      | exact bodyPost_ret (v := .tuple #[.bool true, .bool true, .bool true, .bool false]) (by simp [results, Tryd.results22, go_sem]) rfl ⟨rfl, rfl⟩
      | exact bodyPost_ret (v := .tuple #[.bool true, .bool true, .bool false, .bool true]) (by simp [results, Tryd.results22, go_sem]) rfl ⟨rfl, rfl⟩
      | exact bodyPost_ret (v := .tuple #[.bool true, .bool false, .bool false, .bool true]) (by simp [results, Tryd.results22, go_sem]) rfl ⟨rfl, rfl⟩
      | exact bodyPost_ret (v := .tuple #[.bool false, .bool true, .bool true, .bool true]) (by simp [results, Tryd.results22, go_sem]) rfl ⟨rfl, rfl⟩
      | exact bodyPost_ret (v := .tuple #[.bool false, .bool true, .bool false, .bool true]) (by simp [results, Tryd.results22, go_sem]) rfl ⟨rfl, rfl⟩
      | exact bodyPost_ret (v := .tuple #[.bool false, .bool false, .bool false, .bool false]) (by simp [results, Tryd.results22, go_sem]) rfl ⟨rfl, rfl⟩
end Go.Proofs.YtfdekfobcohcjaaDoor.Is
