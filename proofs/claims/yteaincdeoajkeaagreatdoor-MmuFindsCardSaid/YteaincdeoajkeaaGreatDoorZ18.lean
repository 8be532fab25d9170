/- Several texts in one: Ba Bb Bc Be -/
import Derived.Test.YteaincdeoajkeaaGreatDoorZ02
import Derived.Laws.BitsAllLaws
import Derived.Laws.ShiftsVarLaws
section
/- Package pte: an entry as a block of three cells; what its calls answer, plainly; facts on bits. -/
namespace Go.Proofs.YteaincdeoajkeaaGreatDoor.Pe
open Go.RowKit Ut
set_option linter.unusedVariables false
set_option maxRecDepth 100000
set_option maxHeartbeats 4000000

/-- an entry -/
abbrev pteV (o : Bool) (r g : Int) : Value := .agg #[.bool o, .int .i64 r, .int .i64 g]
abbrev pteW (o : Bool) (r g : Int) (w : World) : World := w.alloc (.cells #[.bool o, .int .i64 r, .int .i64 g] 112)
theorem pte_below (o : Bool) (r g : Int) (w : World) : Below w.heap.size w (pteW o r g w) := (Below.refl _ _).alloc (Nat.le_refl _) _
/-- an entry's block -/
def PteAt (w : World) (p : Nat) (o : Bool) (r g : Int) : Prop := w.heap[p]? = some (.cells #[.bool o, .int .i64 r, .int .i64 g] 112 (0, 0))
section
variable {w w' : World} {p B : Nat} {o : Bool} {r g : Int}
theorem PteAt.lt (h : PteAt w p o r g) : p < w.heap.size := (Array.getElem?_eq_some_iff.1 h).1
theorem PteAt.below (h : PteAt w p o r g) (hb : Below B w w') (hB : p < B) : PteAt w' p o r g := (hb.block _ hB).trans h
theorem PteAt.more (h : PteAt w p o r g) (hb : Below w.heap.size w w') : PteAt w' p o r g := h.below hb h.lt
theorem PteAt.cells (h : PteAt w p o r g) : w.cell? ⟨p, 0, none⟩ = some (.bool o) ∧ w.cell? ⟨p, 1, none⟩ = some (.int .i64 r) ∧ w.cell? ⟨p, 2, none⟩ = some (.int .i64 g) := by
 unfold PteAt at h
 refine ⟨?_, ?_, ?_⟩ <;> simp [World.cell?, h]
theorem PteAt.frozen (h : PteAt w p o r g) (j : Nat) : w.frozen? ⟨p, j, none⟩ = false := by
 unfold PteAt at h
 simp [World.frozen?, h]
end
theorem pte_at (o : Bool) (r g : Int) (w : World) : PteAt (pteW o r g w) w.heap.size o r g := by
 unfold PteAt
 simpa using heap_alloc_new w (.cells #[.bool o, .int .i64 r, .int .i64 g] 112)

/-- what has a word -/
def fitsB (o : Bool) (r g : Int) : Bool := if o then decide (0 ≤ r) && decide (r ≤ 15) && decide (0 ≤ g) && decide (g ≤ 31) else decide (r = 0) && decide (g = 0)
def wordN (r g : Int) : Nat := 1 + 2 * r.toNat + 256 * g.toNat
def putZ (o : Bool) (r g : Int) : Nat := if fitsB o r g && o then wordN r g else 0
def putE (o : Bool) (r g : Int) : Int := if fitsB o r g then 0 else 6
/-- what a word is -/
def rOf (x : Nat) : Nat := x / 2 % 16
def gOf (x : Nat) : Nat := x / 256 % 32
def getF (x : Nat) : Int := if x % 2 = 0 then 4 else if 1 + 2 * rOf x + 256 * gOf x = x then 0 else 5
def tabF (x : Nat) : Int := if getF x = 0 then (if rOf x = 0 then 0 else 5) else getF x
def leafF (x : Nat) : Int := if getF x = 0 then (if rOf x % 8 = 0 then 5 else 0) else getF x
/-- an entry, or none, by a fault -/
def oF (f : Int) : Bool := decide (f = 0)
def rF (f : Int) (x : Nat) : Int := if f = 0 then rOf x else 0
def gF (f : Int) (x : Nat) : Int := if f = 0 then gOf x else 0
/-- the right of a kind of access, as rights have it -/
def kindN (k : Int) : Nat := if k = 0 then 4 else if k = 1 then 1 else if k = 2 then 2 else 0
def bitB (r : Int) (z : Nat) : Bool := decide ((r % 16).toNat &&& z ≠ 0)
def alwB (o : Bool) (r k : Int) (u : Bool) : Bool := o && bitB r (kindN k) && (!u || bitB r 8)

theorem and_low (x z n : Nat) (hz : z < 2 ^ n) : x &&& z = (x % 2 ^ n) &&& z := by
 have h1 : x &&& z < 2 ^ n := Nat.and_lt_two_pow _ hz
 have h2 := Nat.and_mod_two_pow (a := x) (b := z) (n := n)
 rw [Nat.mod_eq_of_lt h1, Nat.mod_eq_of_lt hz] at h2
 exact h2
theorem i64_and_low (n : Int) (c : Nat) (hc : c < 16) : bits .and .i64 n (c : Int) = (((n % 16).toNat &&& c : Nat) : Int) := by
 have h1 : (BitVec.ofInt 64 (c : Int)).toNat = c := by rw [BitVec.ofInt_natCast, BitVec.toNat_ofNat]; exact Nat.mod_eq_of_lt (by omega)
 have hl := and_low (n % ((2 ^ 64 : Nat) : Int)).toNat c 4 (by omega)
 have e : (n % ((2 ^ 64 : Nat) : Int)).toNat % 2 ^ 4 = (n % 16).toNat := by omega
 rw [e] at hl
 have hlt : (n % 16).toNat &&& c < 2 ^ 4 := Nat.and_lt_two_pow _ (by omega)
 show IntKind.i64.wrap ((BitVec.ofInt 64 n &&& BitVec.ofInt 64 (c : Int)).toNat : Nat) = _
 rw [BitVec.toNat_and, BitVec.toNat_ofInt, h1, hl, IntKind.wrap_i64]
 omega
/-- a word's lowest bits -/
theorem and_one (x : Nat) (hx : x < 4294967296) : bits .and .u32 (x : Int) 1 = ((x % 2 : Nat) : Int) := by
 rw [show (1 : Int) = ((1 : Nat) : Int) from rfl, u32_and_nat x 1 hx (by omega), Nat.and_one_is_mod]
theorem bits_split (x : Nat) (hx : x < 4294967296) : x &&& 4294959328 = 32 * (x / 32 % 8 + 256 * (x / 8192)) := by
 have h1 : (x &&& 4294959328) % 32 = 0 := by
  have := Nat.and_mod_two_pow (a := x) (b := 4294959328) (n := 5)
  rw [show (4294959328 : Nat) % 2 ^ 5 = 0 from rfl, Nat.and_zero] at this
  exact this
 have h2 : (x &&& 4294959328) / 32 = x / 32 &&& 134217479 := Nat.and_div_two_pow (a := x) (b := 4294959328) (n := 5)
 have h3 : (x / 32 &&& 134217479) % 256 = x / 32 % 8 := by
  have := Nat.and_mod_two_pow (a := x / 32) (b := 134217479) (n := 8)
  rw [show (134217479 : Nat) % 2 ^ 8 = 2 ^ 3 - 1 from rfl, Nat.and_two_pow_sub_one_eq_mod] at this
  omega
 have h4 : (x / 32 &&& 134217479) / 256 = x / 8192 := by
  have := Nat.and_div_two_pow (a := x / 32) (b := 134217479) (n := 8)
  rw [show (134217479 : Nat) / 2 ^ 8 = 2 ^ 19 - 1 from rfl, Nat.and_two_pow_sub_one_eq_mod] at this
  omega
 omega
theorem and_not_all (x : Nat) (hx : x < 4294967296) : bits .andNot .u32 (x : Int) 7967 = ((32 * (x / 32 % 8 + 256 * (x / 8192)) : Nat) : Int) := by
 rw [show (7967 : Int) = ((7967 : Nat) : Int) from rfl, u32_andNot_nat x 7967 hx (by omega)]
 exact congrArg _ (bits_split x hx)
end Go.Proofs.YteaincdeoajkeaaGreatDoor.Pe
end
section
/- Package pte: fits, needed, Put of both. -/
namespace Go.Proofs.YteaincdeoajkeaaGreatDoor.Pe
open Go.RowKit Ut
set_option linter.unusedVariables false
set_option maxRecDepth 100000
set_option maxHeartbeats 4000000

theorem needed_any (k : Int) (w : World) :
  Calls Tryz.prog 111 #[.int .i64 k] w fun e w' => e = .returned (.int .u32 (2 * kindN k : Nat)) ∧ w = w' := by
 unfold kindN
 by_cases h0 : k = 0
 ·subst h0
  go_enter Tryz.func111, Tryz.ntmps111
  go_wp2
  go_ret
  exact ⟨rfl, rfl⟩
 rw [if_neg h0]
 by_cases h1 : k = 1
 ·subst h1
  go_enter Tryz.func111, Tryz.ntmps111
  go_wp2
  go_ret
  exact ⟨rfl, rfl⟩
 rw [if_neg h1]
 by_cases h2 : k = 2
 ·subst h2
  go_enter Tryz.func111, Tryz.ntmps111
  go_wp2
  go_ret
  exact ⟨rfl, rfl⟩
 rw [if_neg h2]
 go_enter Tryz.func111, Tryz.ntmps111
 go_wp2
 go_ret
 exact ⟨rfl, rfl⟩

end Go.Proofs.YteaincdeoajkeaaGreatDoor.Pe
end
section
/- Package pte: the document's Put. -/
namespace Go.Proofs.YteaincdeoajkeaaGreatDoor.Pe
open Go.RowKit Ut
set_option linter.unusedVariables false
set_option maxRecDepth 100000
set_option maxHeartbeats 4000000

theorem refPut_any (o : Bool) (r g : Int) (z : Nat) (c : Int) (hz : putZ o r g = z) (hc : putE o r g = c) (w : World) :
  Calls Tryz.prog 148 #[pteV o r g] w fun e w' => e = .returned (.tuple #[.int .u32 z, .int .i64 c]) ∧ Below w.heap.size w w' := by
 subst hz hc
 have hb := Lib.hid (pte_below o r g w)
 by_cases h1 : r < 0
 ·have e1 : fitsB o r g = false := by unfold fitsB; cases o <;> simp <;> omega
  have E1 : Hid (putZ o r g = 0) := Lib.hid (by simp [putZ, e1])
  have E2 : Hid (putE o r g = 6) := Lib.hid (by simp [putE, e1])
  clear e1
  go_enter Tryz.func148, Tryz.ntmps148
  go_wp2
  go_ret2
  exact ⟨by rw [E1.out, E2.out]; rfl, hb.out⟩
 by_cases h2 : 15 < r
 ·have e1 : fitsB o r g = false := by unfold fitsB; cases o <;> simp <;> omega
  have E1 : Hid (putZ o r g = 0) := Lib.hid (by simp [putZ, e1])
  have E2 : Hid (putE o r g = 6) := Lib.hid (by simp [putE, e1])
  clear e1
  go_enter Tryz.func148, Tryz.ntmps148
  go_wp2
  go_ret2
  exact ⟨by rw [E1.out, E2.out]; rfl, hb.out⟩
 by_cases h3 : g < 0
 ·have e1 : fitsB o r g = false := by unfold fitsB; cases o <;> simp <;> omega
  have E1 : Hid (putZ o r g = 0) := Lib.hid (by simp [putZ, e1])
  have E2 : Hid (putE o r g = 6) := Lib.hid (by simp [putE, e1])
  clear e1
  go_enter Tryz.func148, Tryz.ntmps148
  go_wp2
  go_ret2
  exact ⟨by rw [E1.out, E2.out]; rfl, hb.out⟩
 by_cases h4 : 31 < g
 ·have e1 : fitsB o r g = false := by unfold fitsB; cases o <;> simp <;> omega
  have E1 : Hid (putZ o r g = 0) := Lib.hid (by simp [putZ, e1])
  have E2 : Hid (putE o r g = 6) := Lib.hid (by simp [putE, e1])
  clear e1
  go_enter Tryz.func148, Tryz.ntmps148
  go_wp2
  go_ret2
  exact ⟨by rw [E1.out, E2.out]; rfl, hb.out⟩
 obtain ⟨a, rfl⟩ : ∃ a : Nat, r = a := ⟨r.toNat, by omega⟩
 obtain ⟨b, rfl⟩ : ∃ b : Nat, g = b := ⟨g.toNat, by omega⟩
 cases o
 ·by_cases h5 : (a : Int) = 0
  ·obtain rfl : a = 0 := by omega
   by_cases h6 : (b : Int) = 0
   ·obtain rfl : b = 0 := by omega
    go_enter Tryz.func148, Tryz.ntmps148
    go_wp2
    go_ret2
    exact ⟨rfl, hb.out⟩
   ·have e1 : fitsB false 0 b = false := by unfold fitsB; simp; omega
    have E1 : Hid (putZ false 0 b = 0) := Lib.hid (by simp [putZ])
    have E2 : Hid (putE false 0 b = 6) := Lib.hid (by unfold putE; rw [e1]; rfl)
    have h7 : ¬ b = 0 := by omega
    clear e1
    go_enter Tryz.func148, Tryz.ntmps148
    go_wp2
    go_ret2
    exact ⟨by rw [E1.out, E2.out]; rfl, hb.out⟩
  ·have e1 : fitsB false a b = false := by unfold fitsB; simp; omega
   have E1 : Hid (putZ false a b = 0) := Lib.hid (by simp [putZ])
   have E2 : Hid (putE false a b = 6) := Lib.hid (by unfold putE; rw [e1]; rfl)
   have h7 : ¬ a = 0 := by omega
   clear e1
   go_enter Tryz.func148, Tryz.ntmps148
   go_wp2
   go_ret2
   exact ⟨by rw [E1.out, E2.out]; rfl, hb.out⟩
 ·have e1 : fitsB true a b = true := by unfold fitsB; simp; omega
  have E1 : Hid (putZ true a b = wordN a b) := Lib.hid (by unfold putZ; rw [e1]; rfl)
  have E2 : Hid (putE true a b = 0) := Lib.hid (by unfold putE; rw [e1]; rfl)
  clear e1
  go_enter Tryz.func148, Tryz.ntmps148
  go_wp2
  go_ret2
  exact ⟨by rw [E1.out, E2.out]; unfold wordN; simp <;> omega, hb.out⟩
end Go.Proofs.YteaincdeoajkeaaGreatDoor.Pe
end
section
/- Package pte: Get of both. -/
namespace Go.Proofs.YteaincdeoajkeaaGreatDoor.Pe
open Go.RowKit Ut
set_option linter.unusedVariables false
set_option maxRecDepth 100000
set_option maxHeartbeats 4000000

theorem set_keep {w W : World} (j : Nat) (v : Value) (h : Below w.heap.size w W) : Below w.heap.size w (W.setCell ⟨w.heap.size, j, none⟩ v) := h.setCell (p := ⟨w.heap.size, j, none⟩) (by simp) _
theorem get_odd (x : Nat) (hx : x < 4294967296) (h : x % 2 = 1) : (1 + 2 * rOf x + 256 * gOf x = x) ↔ 32 * (x / 32 % 8 + 256 * (x / 8192)) = 0 := by unfold rOf gOf; omega
theorem r_bits (x : Nat) (hx : x < 4294967296) : bits .and .u32 ((x : Int) / 2) 15 = (rOf x : Nat) := by
 rw [show (x : Int) / 2 = ((x / 2 : Nat) : Int) by omega, show (15 : Int) = ((15 : Nat) : Int) from rfl, u32_and_nat (x / 2) 15 (by omega) (by omega)]
 exact congrArg _ (Nat.and_two_pow_sub_one_eq_mod (x / 2) 4)
theorem g_bits (x : Nat) (hx : x < 4294967296) : bits .and .u32 ((x : Int) / 256) 31 = (gOf x : Nat) := by
 rw [show (x : Int) / 256 = ((x / 256 : Nat) : Int) by omega, show (31 : Int) = ((31 : Nat) : Int) from rfl, u32_and_nat (x / 256) 31 (by omega) (by omega)]
 exact congrArg _ (Nat.and_two_pow_sub_one_eq_mod (x / 256) 5)
theorem get_even (x : Nat) (hx : x < 4294967296) (h : x % 2 = 0) (w : World) :
  Calls Tryz.prog 135 #[.int .u32 x] w fun e w' => e = .returned (.tuple #[pteV false 0 0, .int .i64 4]) ∧ Below w.heap.size w w' := by
 have HB := Lib.hid (pte_below false 0 0 w)
 have ht : bits .and .u32 (x : Int) 1 = 0 := by rw [and_one x hx, h]; rfl
 go_enter Tryz.func135, Tryz.ntmps135
 go_wp2
 exact bodyPost_ret (v := .tuple #[pteV false 0 0, .int .i64 4]) (by simp [results, Tryz.results135, go_sem]) rfl ⟨rfl, HB.out⟩
theorem get_form (x : Nat) (hx : x < 4294967296) (h : x % 2 = 1) (hf : ¬ 1 + 2 * rOf x + 256 * gOf x = x) (w : World) :
  Calls Tryz.prog 135 #[.int .u32 x] w fun e w' => e = .returned (.tuple #[pteV false 0 0, .int .i64 5]) ∧ Below w.heap.size w w' := by
 have HB := Lib.hid (pte_below false 0 0 w)
 have ht : ¬ bits .and .u32 (x : Int) 1 = 0 := by rw [and_one x hx, h]; decide
 have ht2 : ¬ bits .andNot .u32 (x : Int) 7967 = 0 := by rw [and_not_all x hx]; have := get_odd x hx h; omega
 clear h hf
 go_enter Tryz.func135, Tryz.ntmps135
 go_wp2
 exact bodyPost_ret (v := .tuple #[pteV false 0 0, .int .i64 5]) (by simp [results, Tryz.results135, go_sem]) rfl ⟨rfl, HB.out⟩
theorem get_ok (x : Nat) (hx : x < 4294967296) (h : x % 2 = 1) (hf : 1 + 2 * rOf x + 256 * gOf x = x) (w : World) :
  Calls Tryz.prog 135 #[.int .u32 x] w fun e w' => e = .returned (.tuple #[pteV true (rOf x : Nat) (gOf x : Nat), .int .i64 0]) ∧ Below w.heap.size w w' := by
 have ht : ¬ bits .and .u32 (x : Int) 1 = 0 := by rw [and_one x hx, h]; decide
 have ht2 : bits .andNot .u32 (x : Int) 7967 = 0 := by rw [and_not_all x hx]; have := get_odd x hx h; omega
 have h1 := r_bits x hx
 have h2 := g_bits x hx
 have b1 : rOf x < 16 := by unfold rOf; omega
 have b2 : gOf x < 32 := by unfold gOf; omega
 clear h hf
 generalize rOf x = R at h1 b1 ⊢
 generalize gOf x = G at h2 b2 ⊢
 have HB := Lib.hid (pte_below true R G w)
 go_enter Tryz.func135, Tryz.ntmps135
 go_wp2
 exact bodyPost_ret (v := .tuple #[pteV true (R : Nat) (G : Nat), .int .i64 0]) (by simp [results, Tryz.results135, go_sem]) rfl ⟨rfl, HB.out⟩
theorem get_any (x : Nat) (hx : x < 4294967296) (f : Int) (hf : getF x = f) (w : World) :
  Calls Tryz.prog 135 #[.int .u32 x] w fun e w' => e = .returned (.tuple #[pteV (oF f) (rF f x) (gF f x), .int .i64 f]) ∧ Below w.heap.size w w' := by
 subst hf
 unfold getF
 by_cases h : x % 2 = 0
 ·rw [if_pos h]; exact get_even x hx h w
 rw [if_neg h]
 by_cases h2 : 1 + 2 * rOf x + 256 * gOf x = x
 ·rw [if_pos h2]; exact get_ok x hx (by omega) h2 w
 ·rw [if_neg h2]; exact get_form x hx (by omega) h2 w
end Go.Proofs.YteaincdeoajkeaaGreatDoor.Pe
end
