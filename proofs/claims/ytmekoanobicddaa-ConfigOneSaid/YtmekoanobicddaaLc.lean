/- The walk of label.Text: the letters of a label, for every number. -/
import Derived.Test.YtmekoanobicddaaLb
import Derived.Test.YtmekoanobicddaaUt
namespace Go.Proofs.Ytmekoanobicddaa.La
open Go.RowKit Ut

theorem info_u8 : (Try.prog.info? 5).map (fun i => (i.zero, i.size, i.bytes)) = some (some (.int .u8 0), 1, 1) := by kernel_rfl

/-- the letters of the first k categories of l -/
def lets (l : Int) : Nat → List Int
  | 0 => []
  | k + 1 => if (bits .and .i64 (l / 2 ^ k) 1 == 1) then lets l k ++ [97 + (k : Int)] else lets l k

theorem lets_le (l : Int) : ∀ k, (lets l k).length ≤ k
  | 0 => Nat.le_refl _
  | k + 1 => by
    unfold lets
    have := lets_le l k
    split <;> simp <;> omega

end Go.Proofs.Ytmekoanobicddaa.La
