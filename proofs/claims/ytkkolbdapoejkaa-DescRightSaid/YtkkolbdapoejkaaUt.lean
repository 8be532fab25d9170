/- Small laws that the walks of several packages share: a slice of bytes of the call's own, made a string; a block below. -/
import Derived.Test.YtkkolbdapoejkaaProg
import Derived.WalkKit
import Derived.Handy
import Derived.Lib.Hide
import Derived.Laws.BytesArg
import Derived.Maps.AppendAt
namespace Go.Proofs.Ytkkolbdapoejkaa.Ut
open Go.RowKit

theorem strOfNums_nil : strOfNums [] = ByteArray.empty := rfl

/-- string(b), where b is a slice of bytes that the call owns. -/
theorem run_convert_own {P : Program} {w : World} {B src e dst : Nat} {v : Value} {n : Nat} {xs : List Int} (hs : P.underlying src = some (.slice e)) (he : P.underlying e = some (.int .u8)) (hd : P.underlying dst = some .string)
    (hown : w.ownsRow B e 1 v n (xs.map (Value.int .u8))) : (convert src dst v).run P w = .ok (.string (strOfNums xs)) w := by
  have hl : xs.length = n := by have := hown.1; simpa using this
  rcases hown.2 with ⟨rfl, rfl⟩ | ⟨g, cap, cur, rfl, hb, hg, hn, hm, hsz, hcur⟩
  · obtain rfl : xs = [] := List.length_eq_zero_iff.1 hl
    exact run_convert_bytes_nil w src e hs he 0 0 dst hd
  · refine run_convert_bytes_arg w src e hs he g 0 n cap xs hl (fun i hi => ?_) dst hd
    rw [Nat.zero_add, World.ownsRow.cellAt hown i (by omega)]
    simp [List.getD, show i < xs.length by omega]

/-- What the call owns stays owned behind a call that writes nothing that was there. -/
theorem ownsRow_below {w w' : World} {B e n : Nat} {v : Value} {xs : List Value} (h : w.ownsRow B e 1 v n xs) (hb : Below w.heap.size w w') : w'.ownsRow B e 1 v n xs :=
  h.kept (row := none) ⟨hb.os, hb.tape, hb.output, hb.size, fun q hq _ => hb.block q hq⟩ (Classical.em _)
end Go.Proofs.Ytkkolbdapoejkaa.Ut
