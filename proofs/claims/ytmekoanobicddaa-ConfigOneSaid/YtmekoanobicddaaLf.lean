/- Text and Parse together: every label's text is read as that label; plain facts and contracts. -/
import Derived.Test.YtmekoanobicddaaLe
namespace Go.Proofs.Ytmekoanobicddaa.La
open Go.RowKit Ut

/-- the text of a label -/
def textB (l : Int) : ByteArray := if l == 0 then ⟨#[45]⟩ else strOfNums (lets l 8)
/-- what Parse returns of any text -/
def parseF (l : List UInt8) : Int × Int := if l == [45] then (0, 0) else parseP l

/-- every label's text is read as that label -/
theorem parse_text_all : (List.range 256).all (fun n => parseF (textB n).data.toList == ((n : Int), 0)) = true := by decide +kernel
theorem parse_text (n : Nat) (h : n < 256) : parseF (textB n).data.toList = ((n : Int), 0) := by
  have := List.all_eq_true.1 parse_text_all n (List.mem_range.2 h)
  simpa using this
theorem textB_inj (n m : Nat) (hn : n < 256) (hm : m < 256) (h : (textB n).data.toList = (textB m).data.toList) : n = m := by
  have h1 := parse_text n hn
  rw [h, parse_text m hm] at h1
  have := congrArg Prod.fst h1
  simp at this
  omega
theorem textB_size (l : Int) : (textB l).size ≤ 8 := by
  unfold textB
  split
  · decide
  · rw [strOfNums_size]; exact lets_le l 8

end Go.Proofs.Ytmekoanobicddaa.La
