/- Package stlb: the heap's methods Len, Less, Push. -/
import Derived.Test.YtgcpcffgpokbfaaAl
import Derived.Test.YtgcpcffgpokbfaaHz
namespace Go.Proofs.Ytgcpcffgpokbfaa.Sb
open Go.RowKit Ut Hg
set_option maxRecDepth 100000
set_option linter.unusedVariables false
set_option maxHeartbeats 4000000

section
variable {W : World} {b o : Nat} {t : TypeId} {pre : List Value} {l : List Us}
theorem len18 (h : LB W b t pre l) (ho : pre.length = o) :
    Calls Try.prog 61 #[.pointer (some ⟨b, o, none⟩)] W fun e W' => e = .returned (.int .i64 (l.length : Nat)) ∧ W = W' := by
  have h0 := h.cell0 ho
  clear h
  go_enter Try.func61, Try.ntmps61
  go_wp2
  go_ret
  exact ⟨rfl, rfl⟩

theorem less18 (h : LB W b t pre l) (ho : pre.length = o) (i j : Nat) (hi : i < l.length) (hj : j < l.length) (r : Bool) (hr : decide (vl usK l i < vl usK l j) = r) :
    Calls Try.prog 62 #[.pointer (some ⟨b, o, none⟩), .int .i64 i, .int .i64 j] W fun e W' => e = .returned (.bool r) ∧ Below W.heap.size W W' := by
  have c1 := (h.cells ho i l[i] (List.getElem?_eq_getElem hi)).2.2.2.2.2
  have c2 := (h.cells ho j l[j] (List.getElem?_eq_getElem hj)).2.2.2.2.2
  have hl := h.len
  have d1 : (0 : Int) ≤ (i : Int) ∧ (i : Int) < 5 := by omega
  have d2 : (0 : Int) ≤ (j : Int) ∧ (j : Int) < 5 := by omega
  have HB := Lib.hid ((Below.refl W.heap.size W).drew)
  have e1 : vl usK l i = (l[i]).2 := by unfold vl usK; rw [List.getD_eq_getElem?_getD, List.getElem?_eq_getElem hi]; rfl
  have e2 : vl usK l j = (l[j]).2 := by unfold vl usK; rw [List.getD_eq_getElem?_getD, List.getElem?_eq_getElem hj]; rfl
  rw [e1, e2] at hr
  subst hr
  generalize (l[i]).2 = x at c1 ⊢
  generalize (l[j]).2 = y at c2 ⊢
  clear h hi hj hl e1 e2
  go_enter Try.func62, Try.ntmps62
  go_wp2
  go_region
  go_wp2
  go_ret
  exact ⟨rfl, HB.out⟩
end
end Go.Proofs.Ytgcpcffgpokbfaa.Sb
