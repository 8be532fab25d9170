/- Several texts in one: As At -/
import Derived.Test.YteaincdeoajkeaaGreatDoorV44
import Derived.Laws.Rows
section
/- Package stlb: Narrow. -/
namespace Go.Proofs.YteaincdeoajkeaaGreatDoor.Sb
open Go.RowKit Ut Hg
set_option maxRecDepth 100000
set_option linter.unusedVariables false
set_option maxHeartbeats 4000000

theorem clear_two (x : Nat) (hx : x < 18446744073709551616) : x &&& 18446744073709551613 = 4 * (x / 4) + x % 2 := by
 have h1 : (x &&& 18446744073709551613) % 4 = x % 2 := by
  have := Nat.and_mod_two_pow (a := x) (b := 18446744073709551613) (n := 2)
  rw [show (18446744073709551613 : Nat) % 2 ^ 2 = 2 ^ 1 - 1 from rfl, Nat.and_two_pow_sub_one_eq_mod] at this
  omega
 have h2 : (x &&& 18446744073709551613) / 4 = x / 4 := by
  have := Nat.and_div_two_pow (a := x) (b := 18446744073709551613) (n := 2)
  rw [show (18446744073709551613 : Nat) / 2 ^ 2 = 2 ^ 62 - 1 from rfl, Nat.and_two_pow_sub_one_eq_mod] at this
  omega
 omega
theorem and_two16 : ((List.range 16).all fun r => (r &&& 2) == (if r % 4 < 2 then 0 else 2)) = true := by decide +kernel
theorem low_two (x : Nat) : x &&& 2 = (if x % 4 < 2 then 0 else 2) := by
 have h1 : x &&& 2 < 2 ^ 4 := Nat.and_lt_two_pow _ (by decide)
 have h2 := Nat.and_mod_two_pow (a := x) (b := 2) (n := 4)
 rw [Nat.mod_eq_of_lt h1] at h2
 have h3 := List.all_eq_true.1 and_two16 (x % 16) (by rw [List.mem_range]; omega)
 rw [beq_iff_eq] at h3
 rw [show x % 16 % 4 = x % 4 by omega] at h3
 rw [h2]
 exact h3
theorem two_toNat : (BitVec.ofInt 64 2).toNat = 2 := by decide
/-- RWrite taken off by its bit, or by a subtraction: the same, where it is there -/
theorem narrowed (n : Int) (h : (bits .and .i64 n 2 == 0) = false) : bits .andNot .i64 n 2 = wrap64 (n - 2) := by
 have hx : (n % 18446744073709551616).toNat < 18446744073709551616 := by omega
 have e1 : bits .and .i64 n 2 = IntKind.i64.wrap (((n % 18446744073709551616).toNat &&& 2 : Nat) : Int) := by
  show IntKind.i64.wrap ((BitVec.ofInt 64 n &&& BitVec.ofInt 64 2).toNat : Nat) = _
  rw [BitVec.toNat_and, BitVec.toNat_ofInt, two_toNat]
  rfl
 have e2 : bits .andNot .i64 n 2 = IntKind.i64.wrap (((n % 18446744073709551616).toNat &&& 18446744073709551613 : Nat) : Int) := by
  show IntKind.i64.wrap ((BitVec.ofInt 64 n &&& ~~~ BitVec.ofInt 64 2).toNat : Nat) = _
  rw [BitVec.toNat_and, BitVec.toNat_ofInt, BitVec.toNat_not, two_toNat]
  rfl
 have hge : ¬ (n % 18446744073709551616).toNat % 4 < 2 := fun hlt => by
  rw [e1, low_two, if_pos hlt] at h
  simp [IntKind.wrap_i64] at h
 rw [e2, clear_two _ hx, IntKind.wrap_i64]
 generalize hm : (n % 18446744073709551616).toNat = m at hge hx ⊢
 rw [show ((4 * (m / 4) + m % 2 : Nat) : Int) = (m : Int) - 2 by omega]
 have : ∃ k : Int, n = (m : Int) + k * 18446744073709551616 := ⟨n / 18446744073709551616, by omega⟩
 obtain ⟨k, rfl⟩ := this
 unfold wrap64
 omega
section
variable {W W0 : World} {g : Nat} {room c : Int} {us : List Us} {l : List Rc}
/-- what has been narrowed so far -/
def NarJ (pg : Int) (us0 : List Us) (N : Nat) (us : List Us) (n : Nat) : Prop := (us.map fun u => (narX pg u.1, u.2)) = (us0.map fun u => (narX pg u.1, u.2)) ∧ n + us.countP (fun u => hadB u.1 pg) = N
theorem bits_off (n : Int) : bits .and .i64 (bits .andNot .i64 n 2) 2 = 0 := by
 have e2 : bits .andNot .i64 n 2 = IntKind.i64.wrap (((n % 18446744073709551616).toNat &&& 18446744073709551613 : Nat) : Int) := by
  show IntKind.i64.wrap ((BitVec.ofInt 64 n &&& ~~~ BitVec.ofInt 64 2).toNat : Nat) = _
  rw [BitVec.toNat_and, BitVec.toNat_ofInt, BitVec.toNat_not, two_toNat]
  rfl
 rw [e2, clear_two _ (by omega), IntKind.wrap_i64]
 generalize (n % 18446744073709551616).toNat = m
 generalize hz : (((4 * (m / 4) + m % 2 : Nat) : Int) + 9223372036854775808) % 18446744073709551616 - 9223372036854775808 = z
 have e1 : bits .and .i64 z 2 = IntKind.i64.wrap (((z % 18446744073709551616).toNat &&& 2 : Nat) : Int) := by
  show IntKind.i64.wrap ((BitVec.ofInt 64 z &&& BitVec.ofInt 64 2).toNat : Nat) = _
  rw [BitVec.toNat_and, BitVec.toNat_ofInt, two_toNat]
  rfl
 rw [e1, low_two, if_pos (by omega)]
 simp [IntKind.wrap_i64]
theorem nar_had {x : Rc} {pg : Int} (h : hadB x pg = true) : narX pg x = { x with er := bits .andNot .i64 x.er 2 } ∧ hadB (narX pg x) pg = false := by
 have hw : (bits .and .i64 x.er 2 == 0) = false := by
  unfold hadB at h
  simp at h
  simpa using h.2
 have e : narX pg x = { x with er := bits .andNot .i64 x.er 2 } := by
  unfold narX
  rw [if_pos h, narrowed _ hw]
 refine ⟨e, ?_⟩
 rw [e]
 unfold hadB
 rw [bits_off]
 simp
theorem nar_not {x : Rc} {pg : Int} (h : hadB x pg = false) : narX pg x = x := by
 unfold narX
 rw [if_neg (by rw [h]; decide)]
theorem NarJ.next {pg : Int} {us0 us : List Us} {N n i : Nat} {u : Us} (h : NarJ pg us0 N us n) (hu : us[i]? = some u) (hp : hadB u.1 pg = true) : NarJ pg us0 N (us.set i (narX pg u.1, u.2)) (n + 1) := by
 obtain ⟨hl, e⟩ := List.getElem?_eq_some_iff.1 hu
 obtain ⟨h1, h2⟩ := h
 refine ⟨?_, ?_⟩
 ·rw [← h1, List.map_set]
  have e3 : narX pg (narX pg u.1) = narX pg u.1 := nar_not (nar_had hp).2
  dsimp only
  rw [e3]
  apply List.ext_getElem?
  intro k
  rw [List.getElem?_set]
  by_cases hk : i = k
  ·subst hk
   rw [if_pos rfl, List.getElem?_map, hu, if_pos (by simpa using hl)]
   rfl
  ·rw [if_neg hk]
 ·rw [List.countP_set hl]
  have h3 : 0 < us.countP fun u => hadB u.1 pg := List.countP_pos_iff.2 ⟨u, List.mem_of_getElem? hu, hp⟩
  dsimp only
  rw [(nar_had hp).2, e, hp]
  simp
  omega
end
end Go.Proofs.YteaincdeoajkeaaGreatDoor.Sb
end
section
/- Package stlb: first. -/
namespace Go.Proofs.YteaincdeoajkeaaGreatDoor.Sb
open Go.RowKit Ut Hg
set_option maxRecDepth 100000
set_option linter.unusedVariables false
set_option maxHeartbeats 4000000

section
variable {W : World} {b o : Nat} {t : TypeId} {pre : List Value} {l : List Us}
end
end Go.Proofs.YteaincdeoajkeaaGreatDoor.Sb
end
