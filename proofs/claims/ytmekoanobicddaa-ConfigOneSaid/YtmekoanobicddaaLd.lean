/- The walk of label.Parse: for every text. -/
import Derived.Test.YtmekoanobicddaaLb
import Derived.Test.YtmekoanobicddaaUt
namespace Go.Proofs.Ytmekoanobicddaa.La
open Go.RowKit Ut

/-- the category of a byte, as the code reckons it -/
def catOf (b : UInt8) : Int := wrap64 (wrap64 (b.toNat : Int) - 97)
/-- the label of a text, as the code reads it on from v -/
def pz : Int → List UInt8 → Option Int
  | v, [] => some v
  | v, b :: r => if catOf b < 0 ∨ 8 ≤ catOf b then none else if wrap64 (2 ^ (catOf b).toNat) ≤ v then none else pz (bits .or .i64 v (wrap64 (2 ^ (catOf b).toNat))) r

theorem pz_low (v : Int) (b : UInt8) (r : List UInt8) (h : catOf b < 0) : pz v (b :: r) = none := by
  unfold pz; rw [if_pos (Or.inl h)]
theorem pz_high (v : Int) (b : UInt8) (r : List UInt8) (h : 8 ≤ catOf b) : pz v (b :: r) = none := by
  unfold pz; rw [if_pos (Or.inr h)]
theorem pz_stop (v : Int) (b : UInt8) (r : List UInt8) (h : wrap64 (2 ^ (catOf b).toNat) ≤ v) : pz v (b :: r) = none := by
  unfold pz; rw [if_pos h]; split <;> rfl
theorem pz_on (v : Int) (b : UInt8) (r : List UInt8) (h0 : 0 ≤ catOf b) (h1 : catOf b < 8) (h : v < wrap64 (2 ^ (catOf b).toNat)) :
    pz v (b :: r) = pz (bits .or .i64 v (wrap64 (2 ^ (catOf b).toNat))) r := by
  rw [pz, if_neg (by omega), if_neg (by omega)]

/-- what Parse returns of a text that is not the dash -/
def parseP (l : List UInt8) : Int × Int :=
  match pz 0 l with
  | some v => if v == 0 then (0, 6) else (v, 0)
  | none => (0, 6)
def parseV (l : List UInt8) : Value := .tuple #[.int .i64 (parseP l).1, .int .i64 (parseP l).2]
theorem parseV_none (l : List UInt8) (h : pz 0 l = none) : parseV l = .tuple #[.int .i64 0, .int .i64 6] := by unfold parseV parseP; rw [h]
theorem parseV_zero (l : List UInt8) (v : Int) (h : pz 0 l = some v) (hv : (v == 0) = true) : parseV l = .tuple #[.int .i64 0, .int .i64 6] := by unfold parseV parseP; rw [h]; simp only [hv]; rfl
theorem parseV_some (l : List UInt8) (v : Int) (h : pz 0 l = some v) (hv : (v == 0) = false) : parseV l = .tuple #[.int .i64 v, .int .i64 0] := by unfold parseV parseP; rw [h]; simp only [hv]; rfl

theorem pz_drop (v : Int) (s : ByteArray) (k : Nat) (h : k < s.size) : pz v (s.data.toList.drop k) = pz v (s[k] :: s.data.toList.drop (k + 1)) := by
  rw [List.drop_eq_getElem_cons (by simpa using h)]
  rfl

theorem pz_end (v : Int) (s : ByteArray) : pz v (s.data.toList.drop s.size) = some v := by
  rw [List.drop_of_length_le (by simp)]
  rfl

end Go.Proofs.Ytmekoanobicddaa.La
