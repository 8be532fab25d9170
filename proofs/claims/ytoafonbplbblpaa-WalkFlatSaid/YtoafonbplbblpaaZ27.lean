/- Several texts in one: Ba Bb -/
import Derived.Test.YtoafonbplbblpaaZ01
import Derived.Laws.BitsAllLaws
import Derived.Laws.ShiftsVarLaws
section
/- Package pte: an entry as a block of three cells; what its calls answer, plainly; facts on bits. -/
namespace Go.Proofs.Ytoafonbplbblpaa.Pe
open Go.RowKit Ut
set_option linter.unusedVariables false
set_option maxRecDepth 100000
set_option maxHeartbeats 4000000

/-- an entry -/
abbrev pteV (o : Bool) (r g : Int) : Value := .agg #[.bool o, .int .i64 r, .int .i64 g]
abbrev pteW (o : Bool) (r g : Int) (w : World) : World := w.alloc (.cells #[.bool o, .int .i64 r, .int .i64 g] 38)
theorem pte_below (o : Bool) (r g : Int) (w : World) : Below w.heap.size w (pteW o r g w) := (Below.refl _ _).alloc (Nat.le_refl _) _
/-- an entry's block -/
def PteAt (w : World) (p : Nat) (o : Bool) (r g : Int) : Prop := w.heap[p]? = some (.cells #[.bool o, .int .i64 r, .int .i64 g] 38 (0, 0))
section
variable {w w' : World} {p B : Nat} {o : Bool} {r g : Int}
theorem PteAt.lt (h : PteAt w p o r g) : p < w.heap.size := (Array.getElem?_eq_some_iff.1 h).1
theorem PteAt.below (h : PteAt w p o r g) (hb : Below B w w') (hB : p < B) : PteAt w' p o r g := (hb.block _ hB).trans h
theorem PteAt.more (h : PteAt w p o r g) (hb : Below w.heap.size w w') : PteAt w' p o r g := h.below hb h.lt
theorem PteAt.cells (h : PteAt w p o r g) : w.cell? ⟨p, 0, none⟩ = some (.bool o) ∧ w.cell? ⟨p, 1, none⟩ = some (.int .i64 r) ∧ w.cell? ⟨p, 2, none⟩ = some (.int .i64 g) := by
  unfold PteAt at h
  refine ⟨?_, ?_, ?_⟩ <;> simp [World.cell?, h]
theorem PteAt.frozen (h : PteAt w p o r g) (j : Nat) : w.frozen? ⟨p, j, none⟩ = false := by
  unfold PteAt at h
  simp [World.frozen?, h]
end
theorem pte_at (o : Bool) (r g : Int) (w : World) : PteAt (pteW o r g w) w.heap.size o r g := by
  unfold PteAt
  simpa using heap_alloc_new w (.cells #[.bool o, .int .i64 r, .int .i64 g] 38)

/-- what has a word -/
def fitsB (o : Bool) (r g : Int) : Bool := if o then decide (0 ≤ r) && decide (r ≤ 15) && decide (0 ≤ g) && decide (g ≤ 31) else decide (r = 0) && decide (g = 0)
def wordN (r g : Int) : Nat := 1 + 2 * r.toNat + 256 * g.toNat
def putZ (o : Bool) (r g : Int) : Nat := if fitsB o r g && o then wordN r g else 0
def putE (o : Bool) (r g : Int) : Int := if fitsB o r g then 0 else 6
/-- what a word is -/
def rOf (x : Nat) : Nat := x / 2 % 16
def gOf (x : Nat) : Nat := x / 256 % 32
def getF (x : Nat) : Int := if x % 2 = 0 then 4 else if 1 + 2 * rOf x + 256 * gOf x = x then 0 else 5
def tabF (x : Nat) : Int := if getF x = 0 then (if rOf x = 0 then 0 else 5) else getF x
def leafF (x : Nat) : Int := if getF x = 0 then (if rOf x % 8 = 0 then 5 else 0) else getF x
/-- an entry, or none, by a fault -/
def oF (f : Int) : Bool := decide (f = 0)
def rF (f : Int) (x : Nat) : Int := if f = 0 then rOf x else 0
def gF (f : Int) (x : Nat) : Int := if f = 0 then gOf x else 0
/-- the right of a kind of access, as rights have it -/
def kindN (k : Int) : Nat := if k = 0 then 4 else if k = 1 then 1 else if k = 2 then 2 else 0
def bitB (r : Int) (z : Nat) : Bool := decide ((r % 16).toNat &&& z ≠ 0)
def alwB (o : Bool) (r k : Int) (u : Bool) : Bool := o && bitB r (kindN k) && (!u || bitB r 8)

theorem and_low (x z n : Nat) (hz : z < 2 ^ n) : x &&& z = (x % 2 ^ n) &&& z := by
  have h1 : x &&& z < 2 ^ n := Nat.and_lt_two_pow _ hz
  have h2 := Nat.and_mod_two_pow (a := x) (b := z) (n := n)
  rw [Nat.mod_eq_of_lt h1, Nat.mod_eq_of_lt hz] at h2
  exact h2
theorem i64_and_low (n : Int) (c : Nat) (hc : c < 16) : bits .and .i64 n (c : Int) = (((n % 16).toNat &&& c : Nat) : Int) := by
  have h1 : (BitVec.ofInt 64 (c : Int)).toNat = c := by rw [BitVec.ofInt_natCast, BitVec.toNat_ofNat]; exact Nat.mod_eq_of_lt (by omega)
  have hl := and_low (n % ((2 ^ 64 : Nat) : Int)).toNat c 4 (by omega)
  have e : (n % ((2 ^ 64 : Nat) : Int)).toNat % 2 ^ 4 = (n % 16).toNat := by omega
  rw [e] at hl
  have hlt : (n % 16).toNat &&& c < 2 ^ 4 := Nat.and_lt_two_pow _ (by omega)
  show IntKind.i64.wrap ((BitVec.ofInt 64 n &&& BitVec.ofInt 64 (c : Int)).toNat : Nat) = _
  rw [BitVec.toNat_and, BitVec.toNat_ofInt, h1, hl, IntKind.wrap_i64]
  omega
/-- a word's lowest bits -/
theorem and_one (x : Nat) (hx : x < 4294967296) : bits .and .u32 (x : Int) 1 = ((x % 2 : Nat) : Int) := by
  rw [show (1 : Int) = ((1 : Nat) : Int) from rfl, u32_and_nat x 1 hx (by omega), Nat.and_one_is_mod]
theorem bits_split (x : Nat) (hx : x < 4294967296) : x &&& 4294959328 = 32 * (x / 32 % 8 + 256 * (x / 8192)) := by
  have h1 : (x &&& 4294959328) % 32 = 0 := by
    have := Nat.and_mod_two_pow (a := x) (b := 4294959328) (n := 5)
    rw [show (4294959328 : Nat) % 2 ^ 5 = 0 from rfl, Nat.and_zero] at this
    exact this
  have h2 : (x &&& 4294959328) / 32 = x / 32 &&& 134217479 := Nat.and_div_two_pow (a := x) (b := 4294959328) (n := 5)
  have h3 : (x / 32 &&& 134217479) % 256 = x / 32 % 8 := by
    have := Nat.and_mod_two_pow (a := x / 32) (b := 134217479) (n := 8)
    rw [show (134217479 : Nat) % 2 ^ 8 = 2 ^ 3 - 1 from rfl, Nat.and_two_pow_sub_one_eq_mod] at this
    omega
  have h4 : (x / 32 &&& 134217479) / 256 = x / 8192 := by
    have := Nat.and_div_two_pow (a := x / 32) (b := 134217479) (n := 8)
    rw [show (134217479 : Nat) / 2 ^ 8 = 2 ^ 19 - 1 from rfl, Nat.and_two_pow_sub_one_eq_mod] at this
    omega
  omega
theorem and_not_all (x : Nat) (hx : x < 4294967296) : bits .andNot .u32 (x : Int) 7967 = ((32 * (x / 32 % 8 + 256 * (x / 8192)) : Nat) : Int) := by
  rw [show (7967 : Int) = ((7967 : Nat) : Int) from rfl, u32_andNot_nat x 7967 hx (by omega)]
  exact congrArg _ (bits_split x hx)
end Go.Proofs.Ytoafonbplbblpaa.Pe
end
section
/- Package pte: fits, needed, Put of both. -/
namespace Go.Proofs.Ytoafonbplbblpaa.Pe
open Go.RowKit Ut
set_option linter.unusedVariables false
set_option maxRecDepth 100000
set_option maxHeartbeats 4000000

theorem needed_any (k : Int) (w : World) :
    Calls Try.prog 54 #[.int .i64 k] w fun e w' => e = .returned (.int .u32 (2 * kindN k : Nat)) ∧ w = w' := by
  unfold kindN
  by_cases h0 : k = 0
  · subst h0
    go_enter Try.func54, Try.ntmps54
    go_wp2
    go_ret
    exact ⟨rfl, rfl⟩
  rw [if_neg h0]
  by_cases h1 : k = 1
  · subst h1
    go_enter Try.func54, Try.ntmps54
    go_wp2
    go_ret
    exact ⟨rfl, rfl⟩
  rw [if_neg h1]
  by_cases h2 : k = 2
  · subst h2
    go_enter Try.func54, Try.ntmps54
    go_wp2
    go_ret
    exact ⟨rfl, rfl⟩
  rw [if_neg h2]
  go_enter Try.func54, Try.ntmps54
  go_wp2
  go_ret
  exact ⟨rfl, rfl⟩

theorem fits_in {r g : Int} (h : fitsB true r g = true) : ∃ a b : Nat, r = a ∧ g = b ∧ a ≤ 15 ∧ b ≤ 31 := by
  unfold fitsB at h
  simp at h
  exact ⟨r.toNat, g.toNat, by omega, by omega, by omega, by omega⟩
theorem word_or (a b : Nat) (ha : a ≤ 15) (hb : b ≤ 31) : bits .or .u32 (bits .or .u32 1 ((a : Int) * 2)) ((b : Int) * 256) = (1 + 2 * a + 256 * b : Nat) := by
  have h : ((List.range 16).all fun a => (List.range 32).all fun b => bits .or .u32 (bits .or .u32 1 ((a : Int) * 2)) ((b : Int) * 256) == ((1 + 2 * a + 256 * b : Nat) : Int)) = true := by decide +kernel
  have h1 := List.all_eq_true.1 (List.all_eq_true.1 h a (by simp; omega)) b (by simp; omega)
  simpa using h1

end Go.Proofs.Ytoafonbplbblpaa.Pe
end
