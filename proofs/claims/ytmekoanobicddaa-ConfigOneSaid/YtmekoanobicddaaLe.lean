/- The contracts of label's calls in their plain names, Count, and 'awake'. -/
import Derived.Test.YtmekoanobicddaaLc
import Derived.Test.YtmekoanobicddaaLd
import Derived.Test.YtmekoanobicddaaLm
namespace Go.Proofs.Ytmekoanobicddaa.La
open Go.RowKit Ut

theorem minus_any (a b : Int) (B : Nat) (w : World) (hB : B ≤ w.heap.size) :
    Calls Try.prog 62 #[.int .i64 a, .int .i64 b] w fun e w' => e = .returned (.int .i64 (minusZ a b)) ∧ Below B w w' :=
  (minus_raw a b w).mono fun _ _ ⟨he, hb⟩ => ⟨he, hb.mono hB⟩
theorem flows_any (a b : Int) (B : Nat) (w : World) (hB : B ≤ w.heap.size) :
    Calls Try.prog 35 #[.int .i64 a, .int .i64 b] w fun e w' => e = .returned (.bool (flowsZ a b)) ∧ Below B w w' :=
  (flows_raw a b w).mono fun _ _ ⟨he, hb⟩ => ⟨he, hb.mono hB⟩

theorem lets_five : strOfNums (lets 5 8) = ⟨#[97, 99]⟩ := by decide +kernel
theorem flows_15 : flowsZ 1 5 = true := by decide +kernel
theorem flows_25 : flowsZ 2 5 = false := by decide +kernel

/-! The same, carried on from a world 'w0' in which the walk began: for walks with many calls. -/
theorem flows_keep (a b : Int) {B : Nat} {w0 w : World} (hB : B ≤ w0.heap.size) (h : Below B w0 w) :
    Calls Try.prog 35 #[.int .i64 a, .int .i64 b] w fun e w' => e = .returned (.bool (flowsZ a b)) ∧ Below B w0 w' :=
  (flows_any a b B w (Nat.le_trans hB h.size)).mono fun _ _ ⟨he, hb⟩ => ⟨he, h.trans hb⟩
theorem minus_keep (a b : Int) {B : Nat} {w0 w : World} (hB : B ≤ w0.heap.size) (h : Below B w0 w) :
    Calls Try.prog 62 #[.int .i64 a, .int .i64 b] w fun e w' => e = .returned (.int .i64 (minusZ a b)) ∧ Below B w0 w' :=
  (minus_any a b B w (Nat.le_trans hB h.size)).mono fun _ _ ⟨he, hb⟩ => ⟨he, h.trans hb⟩
end Go.Proofs.Ytmekoanobicddaa.La
