/- The library's heaps (container/heap), walked once for whatever is kept: a heap's methods are told by a structure of contracts; up. Serves all packages. -/
import Derived.Test.YtgcpcffgpokbfaaHu
import Derived.Test.YtgcpcffgpokbfaaUt
namespace Go.Proofs.Ytgcpcffgpokbfaa.Hg
open Go.RowKit Ut
set_option maxRecDepth 100000
set_option linter.unusedVariables false
set_option maxHeartbeats 4000000

/-- what a method of the heap p (of type T) does, asked by its name -/
def Asks (T : TypeId) (p : Value) (name : String) (W : World) (D : Nat → Value → Prop) : Prop :=
  ∃ f rv, (∀ m, (method (m + 1) T p name).run Try.prog W = .ok (f, rv) W) ∧ (∀ (args : Array Value) (w : World), (callFunc f args).run Try.prog w = .ok (.enter f args) w) ∧ D f rv
/-- a heap p of type T, whose elements are told by a list (St), in keys' order; K says what stays -/
structure Heaps {α : Type} [Inhabited α] (T : TypeId) (p : Value) (ky : α → Int) (St : World → List α → Prop) (K : World → World → Prop) : Prop where
  refl : ∀ w, K w w
  trans : ∀ a b c, K a b → K b c → K a c
  bd : ∀ W l, St W l → l.length ≤ 1000000
  len : ∀ W l, St W l → Asks T p "Len" W fun f rv => Calls Try.prog f #[rv] W fun e w' => e = .returned (.int .i64 (l.length : Nat)) ∧ St w' l ∧ K W w'
  less : ∀ W l (i j : Nat) (t : Bool), St W l → i < l.length → j < l.length → decide (vl ky l i < vl ky l j) = t → Asks T p "Less" W fun f rv => Calls Try.prog f #[rv, .int .i64 i, .int .i64 j] W fun e w' => e = .returned (.bool t) ∧ St w' l ∧ K W w'
  swap : ∀ W l (i j : Nat), St W l → i < l.length → j < l.length → Asks T p "Swap" W fun f rv => Calls Try.prog f #[rv, .int .i64 i, .int .i64 j] W fun e w' => e = .returned (.tuple #[]) ∧ St w' (swapL l i j) ∧ K W w'

section
variable {α : Type} [Inhabited α] {T : TypeId} {p : Value} {ky : α → Int} {St : World → List α → Prop} {K : World → World → Prop}
theorem upL_zero (l : List α) : upL ky l 0 = l := by unfold upL; simp
theorem upL_no {l : List α} {k : Nat} (h : ¬ vl ky l k < vl ky l ((k - 1) / 2)) : upL ky l k = l := by
  unfold upL
  split
  · rfl
  · first | rfl | rw [if_neg h]
theorem upL_yes {l : List α} {k : Nat} (hk : ¬ k = 0) (h : vl ky l k < vl ky l ((k - 1) / 2)) : upL ky l k = upL ky (swapL l ((k - 1) / 2) k) ((k - 1) / 2) := by
  conv => lhs; unfold upL
  rw [dif_neg hk, if_pos h]
theorem up_facts (k n : Nat) (hk0 : ¬ k = 0) (hk : k < n) : ∃ q : Nat, q = (k - 1) / 2 ∧ ((k : Int) - 1) / 2 = (q : Int) ∧ ((q : Int) == (k : Int)) = false ∧ (q == k) = false ∧ q < n ∧ q < k := by
  exact ⟨(k - 1) / 2, rfl, by omega, by simp; omega, by simp; omega, by omega, by omega⟩

theorem up_by (M : Heaps T p ky St K) (j n : Nat) (l : List α) (W : World) (h : St W l) (hn : l.length = n) (hj : j < n) :
    Calls Try.prog 41 #[.iface T p, .int .i64 j] W fun e W' => e = .returned (.tuple #[]) ∧ St W' (upL ky l j) ∧ K W W' := by
  have HH := Lib.hid h
  have HM := Lib.hid M
  have hc : n ≤ 1000000 := by have := M.bd W l h; omega
  have HR0 := Lib.hid (M.refl W)
  clear h M
  go_enter Try.func41, Try.ntmps41
  go_wp2
  go_loopw [1] (fun jj wr => ∃ (k : Nat) (l2 : List α), jj = .int .i64 k ∧ k < n ∧ l2.length = n ∧ Hid (St wr l2) ∧ Hid (upL ky l2 k = upL ky l j) ∧ Hid (K W wr)) (fun jj _ => (intOf jj).toNat)
  case atStart => exact ⟨j, l, rfl, hj, hn, HH, rfl, HR0⟩
  case round =>
    obtain ⟨k, l2, rfl, hk, hl2, H2, HU, HG⟩ := hrel
    by_cases hk0 : k = 0
    · subst hk0
      have HE := Lib.hid (show upL ky l j = l2 by rw [← HU.out, upL_zero])
      go_wp2
      go_end0
      exact ⟨rfl, by rw [HE.out]; exact H2.out, HG.out⟩
    · obtain ⟨q, hq, d0, d3, d4, hqn, hqk⟩ := up_facts k n hk0 hk
      have hkl : k < l2.length := by omega
      have hql : q < l2.length := by omega
      obtain ⟨t, ht⟩ : ∃ t, decide (vl ky l2 k < vl ky l2 q) = t := ⟨_, rfl⟩
      obtain ⟨fl, rl, hmL, henL, hcL⟩ := HM.out.less wr l2 k q t H2.out hkl hql ht
      have HCL := Lib.hid hcL
      cases t
      · have HE := Lib.hid (show upL ky l j = l2 by rw [← HU.out, upL_no (by rw [← hq]; simpa using ht)])
        clear ht hq HU hcL hkl hql
        go_wp2_with fail
        refine HCL.out.mono ?_
        rintro e w3 ⟨rfl, h3, hk3⟩
        have H3 := Lib.hid h3
        have HG3 := Lib.hid (HM.out.trans _ _ _ HG.out hk3)
        clear h3 hk3 hmL henL
        go_wp2
        go_end0
        exact ⟨rfl, by rw [HE.out]; exact H3.out, HG3.out⟩
      · have HU2 := Lib.hid (show upL ky (swapL l2 q k) q = upL ky l j by rw [← HU.out, upL_yes hk0 (by rw [← hq]; simpa using ht), ← hq])
        have HKL := Lib.hid (And.intro hkl hql)
        clear ht hq HU hcL hkl hql
        go_wp2_with fail
        refine HCL.out.mono ?_
        rintro e w3 ⟨rfl, h3, hk3⟩
        have H3 := Lib.hid h3
        have HG3 := Lib.hid (HM.out.trans _ _ _ HG.out hk3)
        obtain ⟨fs, rs, hmS, henS, hcS⟩ := HM.out.swap w3 l2 q k h3 HKL.out.2 HKL.out.1
        have HCS := Lib.hid hcS
        clear h3 hk3 hmL henL hcS
        go_wp2_with fail
        refine HCS.out.mono ?_
        rintro e w4 ⟨rfl, h4, hk4⟩
        have H4 := Lib.hid h4
        have HG4 := Lib.hid (HM.out.trans _ _ _ HG3.out hk4)
        clear h4 hk4 hmS henS
        go_wp2
        go_roundw
        case rel => exact ⟨q, swapL l2 q k, rfl, hqn, (length_swapL _ _ _).trans hl2, H4, HU2, HG4⟩
        case measure => simp [intOf]; exact hqk
end
end Go.Proofs.Ytgcpcffgpokbfaa.Hg
