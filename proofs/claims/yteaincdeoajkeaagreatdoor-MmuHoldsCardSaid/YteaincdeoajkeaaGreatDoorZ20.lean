/- Several texts in one: Bi -/
import Derived.Test.YteaincdeoajkeaaGreatDoorZ18
section
/- Package pte: the document's Allows; awake. -/
namespace Go.Proofs.YteaincdeoajkeaaGreatDoor.Pe
open Go.RowKit Ut
set_option linter.unusedVariables false
set_option maxRecDepth 100000
set_option maxHeartbeats 4000000

theorem and_zero (r : Int) (c : Nat) (hc : c < 16) (t : Bool) (ht : bitB r c = t) : (bits .and .i64 r (c : Int) == 0) = !t := by
 rw [i64_and_low r c hc, ← ht, Bool.eq_iff_iff]
 unfold bitB
 simp
theorem refAllows_none (r g k : Int) (u : Bool) (w : World) :
  Calls Tryz.prog 44 #[pteV false r g, .int .i64 k, .bool u] w fun e w' => e = .returned (.bool false) ∧ Below w.heap.size w w' := by
 have HB := Lib.hid (pte_below false r g w)
 go_enter Tryz.func44, Tryz.ntmps44
 go_wp2
 go_ret
 exact ⟨rfl, HB.out⟩
theorem refAllows_user (r g k : Int) (h : bitB r 8 = false) (w : World) :
  Calls Tryz.prog 44 #[pteV true r g, .int .i64 k, .bool true] w fun e w' => e = .returned (.bool false) ∧ Below w.heap.size w w' := by
 have HB := Lib.hid (pte_below true r g w)
 have h1 := and_zero r 8 (by omega) _ h
 have h2 : bits .and .i64 r 8 = 0 := by simpa using h1
 clear h h1
 go_enter Tryz.func44, Tryz.ntmps44
 go_wp2
 go_ret
 exact ⟨rfl, HB.out⟩
theorem refAllows_kind (r g k : Int) (u t : Bool) (h : u = true → bitB r 8 = true) (ht : bitB r (kindN k) = t) (w : World) :
  Calls Tryz.prog 44 #[pteV true r g, .int .i64 k, .bool u] w fun e w' => e = .returned (.bool t) ∧ Below w.heap.size w w' := by
 have HB := Lib.hid (pte_below true r g w)
 have h2 : u = true → ¬ bits .and .i64 r 8 = 0 := fun hu => by have h1 := and_zero r 8 (by omega) _ (h hu); simpa using h1
 clear h
 unfold kindN at ht
 by_cases k0 : k = 0
 ·subst k0
  rw [if_pos rfl] at ht
  have h1 := and_zero r 4 (by omega) _ ht
  clear ht
  cases u <;> cases t
  all_goals
   simp at h1 h2
   go_enter Tryz.func44, Tryz.ntmps44
   go_wp2
   go_ret
   exact ⟨by first | rfl | exact congrArg (fun b => Ending.returned (.bool b)) (bne_iff_ne.2 h1), HB.out⟩
 rw [if_neg k0] at ht
 by_cases k1 : k = 1
 ·subst k1
  rw [if_pos rfl] at ht
  have h1 := and_zero r 1 (by omega) _ ht
  clear ht
  cases u <;> cases t
  all_goals
   simp at h1 h2
   go_enter Tryz.func44, Tryz.ntmps44
   go_wp2
   go_ret
   exact ⟨by first | rfl | exact congrArg (fun b => Ending.returned (.bool b)) (bne_iff_ne.2 h1), HB.out⟩
 rw [if_neg k1] at ht
 by_cases k2 : k = 2
 ·subst k2
  rw [if_pos rfl] at ht
  have h1 := and_zero r 2 (by omega) _ ht
  clear ht
  cases u <;> cases t
  all_goals
   simp at h1 h2
   go_enter Tryz.func44, Tryz.ntmps44
   go_wp2
   go_ret
   exact ⟨by first | rfl | exact congrArg (fun b => Ending.returned (.bool b)) (bne_iff_ne.2 h1), HB.out⟩
 rw [if_neg k2] at ht
 obtain rfl : t = false := by rw [← ht]; unfold bitB; simp
 clear ht
 cases u
 all_goals
  simp at h2
  go_enter Tryz.func44, Tryz.ntmps44
  go_wp2
  go_ret
  exact ⟨rfl, HB.out⟩
theorem refAllows_any (o : Bool) (r g k : Int) (u t : Bool) (ht : alwB o r k u = t) (w : World) :
  Calls Tryz.prog 44 #[pteV o r g, .int .i64 k, .bool u] w fun e w' => e = .returned (.bool t) ∧ Below w.heap.size w w' := by
 subst ht
 unfold alwB
 cases o
 ·exact refAllows_none r g k u w
 ·cases u
  ·rw [show (true && bitB r (kindN k) && (!false || bitB r 8)) = bitB r (kindN k) by simp]
   exact refAllows_kind r g k false _ (fun h => by cases h) rfl w
  ·cases h8 : bitB r 8
   ·rw [show (true && bitB r (kindN k) && (!true || false)) = false by simp]
    exact refAllows_user r g k h8 w
   ·rw [show (true && bitB r (kindN k) && (!true || true)) = bitB r (kindN k) by simp]
    exact refAllows_kind r g k true _ (fun _ => h8) rfl w
/-- what goes on from the world in which a walk began -/
theorem keep {f : Nat} {args : Array Value} {v : Value} {w0 w : World} (hb : Below w0.heap.size w0 w) (h : Calls Tryz.prog f args w fun e w' => e = .returned v ∧ Below w.heap.size w w') : Calls Tryz.prog f args w fun e w' => e = .returned v ∧ Below w0.heap.size w0 w' :=
 h.mono fun e w' ⟨he, hb'⟩ => ⟨he, hb.trans (hb'.mono hb.size)⟩
end Go.Proofs.YteaincdeoajkeaaGreatDoor.Pe
end
