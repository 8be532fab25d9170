/- The walk of label.Count and of math/bits.OnesCount, for labels; the walk of hermitagelaw01.LabelLeast. -/
import Derived.Test.YtmekoanobicddaaLe
namespace Go.Proofs.Ytmekoanobicddaa.La
open Go.RowKit Ut

/-- what OnesCount64 reckons, step by step -/
def o1 (x : Int) : Int := IntKind.u64.wrap (bits .and .u64 (x / 2) 6148914691236517205 + bits .and .u64 x 6148914691236517205)
def o2 (x : Int) : Int := IntKind.u64.wrap (bits .and .u64 (x / 4) 3689348814741910323 + bits .and .u64 x 3689348814741910323)
def o3 (x : Int) : Int := bits .and .u64 (IntKind.u64.wrap (x / 16 + x)) 1085102592571150095
def o4 (x : Int) : Int := IntKind.u64.wrap (x + x / 256)
def o5 (x : Int) : Int := IntKind.u64.wrap (x + x / 65536)
def o6 (x : Int) : Int := IntKind.u64.wrap (x + x / 4294967296)
def ones (x : Int) : Int := bits .and .i64 (wrap64 (o6 (o5 (o4 (o3 (o2 (o1 x))))))) 127

theorem ones_all : (List.range 256).all (fun n => ones (n : Int) == (pop n : Int)) = true := by decide +kernel
theorem ones_pop (n : Nat) (h : n < 256) : ones n = pop n := by
  have := List.all_eq_true.1 ones_all n (List.mem_range.2 h)
  simpa using this

theorem two_cells (x y : Int) (w : World) : ∀ i, i < 2 → ∃ q, (some ⟨w.heap.size, 0, none⟩ : Option Addr) = some q ∧ (w.alloc (.cells #[.int .i64 x, .int .i64 y] 3)).cell? (q.add i) = some (.int .i64 ([x, y].getD i 0)) := by
  intro i hi
  rcases (show i = 0 ∨ i = 1 by omega) with rfl | rfl
  · exact ⟨_, rfl, by simp [go_sem]⟩
  · exact ⟨_, rfl, by simp [go_sem]⟩

theorem minus2_keep (x y d : Nat) (hx : x < 256) (hy : y < 256) (hd : andN x y = d) {B : Nat} {w0 w : World} (hB : B ≤ w0.heap.size) (hb : Below B w0 w) :
    Calls Try.prog 62 #[.int .i64 x, .int .i64 y] w fun e w' => e = .returned (.int .i64 d) ∧ Below B w0 w' := by
  refine (minus_keep x y hB hb).mono fun e w' ⟨he, hw⟩ => ⟨he.trans ?_, hw⟩
  rw [minusZ_nat x y hx hy, hd]
end Go.Proofs.Ytmekoanobicddaa.La
