/- The contracts of label's calls in their plain names, Count, and 'awake'. -/
import Derived.Test.YtiocojhkpgdjcaaLc
import Derived.Test.YtiocojhkpgdjcaaLd
import Derived.Test.YtiocojhkpgdjcaaLm
namespace Go.Proofs.Ytiocojhkpgdjcaa.La
open Go.RowKit Ut

theorem minus_any (a b : Int) (B : Nat) (w : World) (hB : B ≤ w.heap.size) :
    Calls Try.prog 12 #[.int .i64 a, .int .i64 b] w fun e w' => e = .returned (.int .i64 (minusZ a b)) ∧ Below B w w' :=
  (minus_raw a b w).mono fun _ _ ⟨he, hb⟩ => ⟨he, hb.mono hB⟩
theorem flows_any (a b : Int) (B : Nat) (w : World) (hB : B ≤ w.heap.size) :
    Calls Try.prog 10 #[.int .i64 a, .int .i64 b] w fun e w' => e = .returned (.bool (flowsZ a b)) ∧ Below B w w' :=
  (flows_raw a b w).mono fun _ _ ⟨he, hb⟩ => ⟨he, hb.mono hB⟩

theorem lets_five : strOfNums (lets 5 8) = ⟨#[97, 99]⟩ := by decide +kernel
theorem text_five (B : Nat) (w : World) (hB : B ≤ w.heap.size) :
    Calls Try.prog 24 #[.int .i64 5] w fun e w' => e = .returned (.tuple #[.string ⟨#[97, 99]⟩, .int .i64 0]) ∧ Below B w w' :=
  (text_good 5 rfl rfl B w hB).mono fun _ _ ⟨he, hb⟩ => ⟨he.trans (by rw [lets_five]), hb⟩

theorem flows_15 : flowsZ 1 5 = true := by decide +kernel
theorem flows_25 : flowsZ 2 5 = false := by decide +kernel

theorem awake_any (B : Nat) (w : World) (hB : B ≤ w.heap.size) :
    Calls Try.prog 23 #[] w fun e w' => e = .returned (.bool true) ∧ Below B w w' := by
  go_enter Try.func23, Try.ntmps23
  go_wp2_with fail
  refine (text_five B _ hB).mono ?_
  rintro e w1 ⟨rfl, hb1⟩
  have s1 := Nat.le_trans hB hb1.size
  go_wp2_with fail
  refine (flows_any 1 5 B _ s1).mono ?_
  rw [flows_15]
  rintro e w2 ⟨rfl, hb2⟩
  have s2 := Nat.le_trans s1 hb2.size
  go_wp2_with fail
  refine (flows_any 2 5 B _ s2).mono ?_
  rw [flows_25]
  rintro e w3 ⟨rfl, hb3⟩
  go_wp2
  go_ret
  exact ⟨rfl, hb1.trans (hb2.trans hb3)⟩

/-! The same, carried on from a world 'w0' in which the walk began: for walks with many calls. -/
theorem flows_keep (a b : Int) {B : Nat} {w0 w : World} (hB : B ≤ w0.heap.size) (h : Below B w0 w) :
    Calls Try.prog 10 #[.int .i64 a, .int .i64 b] w fun e w' => e = .returned (.bool (flowsZ a b)) ∧ Below B w0 w' :=
  (flows_any a b B w (Nat.le_trans hB h.size)).mono fun _ _ ⟨he, hb⟩ => ⟨he, h.trans hb⟩
theorem minus_keep (a b : Int) {B : Nat} {w0 w : World} (hB : B ≤ w0.heap.size) (h : Below B w0 w) :
    Calls Try.prog 12 #[.int .i64 a, .int .i64 b] w fun e w' => e = .returned (.int .i64 (minusZ a b)) ∧ Below B w0 w' :=
  (minus_any a b B w (Nat.le_trans hB h.size)).mono fun _ _ ⟨he, hb⟩ => ⟨he, h.trans hb⟩
theorem awake_keep {B : Nat} {w0 w : World} (hB : B ≤ w0.heap.size) (h : Below B w0 w) :
    Calls Try.prog 23 #[] w fun e w' => e = .returned (.bool true) ∧ Below B w0 w' :=
  (awake_any B w (Nat.le_trans hB h.size)).mono fun _ _ ⟨he, hb⟩ => ⟨he, h.trans hb⟩
end Go.Proofs.Ytiocojhkpgdjcaa.La
