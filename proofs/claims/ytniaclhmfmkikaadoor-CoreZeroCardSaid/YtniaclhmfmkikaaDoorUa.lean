/- Package csr: plain facts on the status' bits and on how addresses are meant. -/
import Derived.Test.YtniaclhmfmkikaaDoorTa
import Derived.Laws.BitsAllLaws
namespace Go.Proofs.YtniaclhmfmkikaaDoor.Cs
open Go.RowKit Ut
set_option maxRecDepth 100000
set_option linter.unusedVariables false

/-- has the status that bit? -/
def hasB (s k : Nat) : Bool := s &&& k != 0
/-- a bit of the status turned on or off -/
def putS (s k : Nat) (on : Bool) : Nat := if on then (s &&& (4294967295 - k)) ||| k else s &&& (4294967295 - k)
/-- the status behind a trap, and behind the way back -/
def enterS (s : Nat) : Nat := 4 ||| (if hasB s 1 then 2 else 0) ||| (if hasB s 4 then 8 else 0)
def leaveS (s : Nat) : Nat := (s &&& 10) ||| (if hasB s 2 then 1 else 0) ||| (if hasB s 8 then 4 else 0)
/-- what a register may have of what is written -/
def maskN (n : Nat) : Nat := if n = 0 then 7937 else if n = 5 then 15 else 4294967295

theorem putS_lt {s k : Nat} {on : Bool} (hs : s < 16) (hk : k < 16) : putS s k on < 16 := by
  have h : s &&& (4294967295 - k) < 2 ^ 4 := Nat.lt_of_le_of_lt Nat.and_le_left hs
  unfold putS
  split
  · exact Nat.or_lt_two_pow (n := 4) h hk
  · exact h
theorem enter_fin : ((List.range 16).all fun s => putS (putS (putS (putS s 2 (hasB s 1)) 8 (hasB (putS s 2 (hasB s 1)) 4)) 1 false) 4 true == enterS s) = true := by decide +kernel
theorem enter_is {s : Nat} (hs : s < 16) : putS (putS (putS (putS s 2 (hasB s 1)) 8 (hasB (putS s 2 (hasB s 1)) 4)) 1 false) 4 true = enterS s := by
  have := List.all_eq_true.1 enter_fin s (by simpa using hs)
  simpa using this
theorem leave_fin : ((List.range 16).all fun s => putS (putS s 1 (hasB s 2)) 4 (hasB (putS s 1 (hasB s 2)) 8) == leaveS s) = true := by decide +kernel
theorem leave_is {s : Nat} (hs : s < 16) : putS (putS s 1 (hasB s 2)) 4 (hasB (putS s 1 (hasB s 2)) 8) = leaveS s := by
  have := List.all_eq_true.1 leave_fin s (by simpa using hs)
  simpa using this
theorem enterS_fin : ((List.range 16).all fun s => decide (enterS s < 16) && decide (leaveS s < 16)) = true := by decide +kernel
theorem enterS_lt {s : Nat} (hs : s < 16) : enterS s < 16 := by
  have := List.all_eq_true.1 enterS_fin s (by simpa using hs)
  simp at this
  exact this.1
theorem leaveS_lt {s : Nat} (hs : s < 16) : leaveS s < 16 := by
  have := List.all_eq_true.1 enterS_fin s (by simpa using hs)
  simp at this
  exact this.2
theorem back_fin : ((List.range 16).all fun s => hasB (leaveS (enterS s)) 1 == hasB s 1 && (hasB (leaveS (enterS s)) 4 == hasB s 4) && (hasB (enterS s) 4 && !hasB (enterS s) 1)) = true := by decide +kernel
theorem back_is {s : Nat} (hs : s < 16) : hasB (leaveS (enterS s)) 1 = hasB s 1 ∧ hasB (leaveS (enterS s)) 4 = hasB s 4 ∧ hasB (enterS s) 4 = true ∧ hasB (enterS s) 1 = false := by
  have := List.all_eq_true.1 back_fin s (by simpa using hs)
  simp at this
  exact ⟨this.1.1, this.1.2, this.2.1, this.2.2⟩

/-- the document's way to ask for a bit -/
theorem has_fin : ((List.range 16).all fun s => ([1, 2, 4, 8].all fun k => ((s &&& k == k) == hasB s k))) = true := by decide +kernel
theorem has_is {s : Nat} (hs : s < 16) {k : Nat} (hk : k = 1 ∨ k = 2 ∨ k = 4 ∨ k = 8) : (s &&& k == k) = hasB s k := by
  have := List.all_eq_true.1 has_fin s (by simpa using hs)
  have := List.all_eq_true.1 this k (by rcases hk with rfl | rfl | rfl | rfl <;> simp)
  simpa using this

/-- of the root's page -/
def rootN (a : Nat) : Nat := a / 256 % 32
theorem root_is (a : Nat) : (a &&& 7936) / 256 = rootN a := by
  have h1 : (a &&& 7936) / 256 = (a &&& 7936) >>> 8 := by rw [Nat.shiftRight_eq_div_pow]
  have h2 : a / 256 = a >>> 8 := by rw [Nat.shiftRight_eq_div_pow]
  unfold rootN
  rw [h1, h2, Nat.shiftRight_and_distrib, show 7936 >>> 8 = 2 ^ 5 - 1 from rfl, Nat.and_two_pow_sub_one_eq_mod]
theorem on_is (a : Nat) : (a % 2 == 1) = hasB a 1 := by
  unfold hasB
  rw [show (1 : Nat) = 2 ^ 1 - 1 from rfl, Nat.and_two_pow_sub_one_eq_mod]
  have : a % 2 < 2 := Nat.mod_lt _ (by decide)
  simp only [Nat.pow_one, Nat.add_one_sub_one]
  rcases Nat.mod_two_eq_zero_or_one a with h | h <;> rw [h] <;> rfl
theorem mask_lt (n v : Nat) (hv : v < 4294967296) : v &&& maskN n < 4294967296 := Nat.lt_of_le_of_lt Nat.and_le_left hv
theorem mask_five (v : Nat) : v &&& maskN 5 < 16 := Nat.and_lt_two_pow (n := 4) v (by decide)
theorem mask_all {n v : Nat} (h0 : n ≠ 0) (h5 : n ≠ 5) (hv : v < 4294967296) : v &&& maskN n = v := by
  unfold maskN
  rw [if_neg h0, if_neg h5, show (4294967295 : Nat) = 2 ^ 32 - 1 from rfl, Nat.and_two_pow_sub_one_eq_mod]
  exact Nat.mod_eq_of_lt hv
theorem maskN_lt (n : Nat) : maskN n < 4294967296 := by
  unfold maskN
  split
  · decide
  · split <;> decide
end Go.Proofs.YtniaclhmfmkikaaDoor.Cs
