/- Several texts in one: Xi Xj -/
import Derived.Test.YtoafonbplbblpaaZ11
import Derived.Test.YtoafonbplbblpaaZ12
import Derived.Test.YtoafonbplbblpaaZ13
section
/- The document's map (hermitageref15): Pages, Allows. -/
namespace Go.Proofs.Ytoafonbplbblpaa.Gm
open Go.RowKit Ut
set_option maxRecDepth 100000
set_option linter.unusedVariables false
set_option maxHeartbeats 4000000

/-- Allows by what Get says -/
theorem refAllows_no (a : Option Addr) (n k : Int) (w : World) (H : Calls Try.prog 56 #[.pointer a, .int .i64 n] w fun e w' => e = .returned (.tuple #[plV (0, 0), .bool false]) ∧ Below w.heap.size w w') :
    Calls Try.prog 55 #[.pointer a, .int .i64 n, .int .i64 k] w fun e w' => e = .returned (.int .i64 7) ∧ Below w.heap.size w w' := by
  have HG := Lib.hid H
  clear H
  go_enter Try.func55, Try.ntmps55
  go_wp2_with fail
  refine HG.out.mono ?_
  rintro e w1 ⟨rfl, hb1⟩
  have HB1 := Lib.hid (hb1.trans ((box_below w1 0 0).mono hb1.size))
  clear hb1
  unfold plV
  go_wp2
  go_ret
  exact ⟨rfl, HB1.out⟩
theorem refAllows_yes (a : Option Addr) (n f r : Nat) (k : Int) (c : Int) (hn : n < 12) (h0 : 0 < r) (h3 : r ≤ 3) (hc : alwF ((f : Int), (r : Int)) n k = c) (w : World) (H : Calls Try.prog 56 #[.pointer a, .int .i64 n] w fun e w' => e = .returned (.tuple #[plV ((f : Int), (r : Int)), .bool true]) ∧ Below w.heap.size w w') :
    Calls Try.prog 55 #[.pointer a, .int .i64 n, .int .i64 k] w fun e w' => e = .returned (.int .i64 c) ∧ Below w.heap.size w w' := by
  have HG := Lib.hid H
  have HBX : Hid (∀ (W : World) (x y : Int), Below w.heap.size w W → Below w.heap.size w (W.alloc (.cells #[.int .i64 x, .int .i64 y] 58))) := Lib.hid fun W x y h => h.alloc h.size _
  clear H
  have ht : thB ((f : Int), (r : Int)) = true := by unfold thB; simp; omega
  unfold alwF at hc
  rw [if_pos ht] at hc
  unfold mayB at hc
  clear ht
  by_cases k0 : k = 0
  · subst k0
    rw [if_pos rfl] at hc
    by_cases h8 : (n : Int) < 8
    · have f8 : decide ((n : Int) < 8) = true := by simpa using h8
      simp only [h8, decide_true, if_true] at hc
      have HC := Lib.hid hc
      clear hc h8
      go_enter Try.func55, Try.ntmps55
      go_wp2_with fail
      refine HG.out.mono ?_
      rintro e w1 ⟨rfl, hb1⟩
      have HB1 := Lib.hid hb1
      clear hb1
      unfold plV
      go_wp2
      go_ret
      exact ⟨by rw [← HC.out]; rfl, HBX.out _ _ _ HB1.out⟩
    · have f8 : decide ((n : Int) < 8) = false := by simpa using h8
      simp only [h8, decide_false, Bool.false_eq_true, if_false] at hc
      have HC := Lib.hid hc
      clear hc h8
      go_enter Try.func55, Try.ntmps55
      go_wp2_with fail
      refine HG.out.mono ?_
      rintro e w1 ⟨rfl, hb1⟩
      have HB1 := Lib.hid hb1
      clear hb1
      unfold plV
      go_wp2
      go_ret
      exact ⟨by rw [← HC.out]; rfl, HBX.out _ _ _ HB1.out⟩
  rw [if_neg k0] at hc
  have e0 : (k == 0) = false := by simpa using k0
  by_cases k1 : k = 1
  · subst k1
    rw [if_pos rfl] at hc
    obtain rfl | rfl | rfl : r = 1 ∨ r = 2 ∨ r = 3 := by omega
    all_goals
      have HC := Lib.hid hc
      clear hc
      go_enter Try.func55, Try.ntmps55
      go_wp2_with fail
      refine HG.out.mono ?_
      rintro e w1 ⟨rfl, hb1⟩
      have HB1 := Lib.hid hb1
      clear hb1
      unfold plV
      go_wp2
      go_ret
      exact ⟨by rw [← HC.out]; rfl, HBX.out _ _ _ HB1.out⟩
  rw [if_neg k1] at hc
  have e1 : (k == 1) = false := by simpa using k1
  by_cases k2 : k = 2
  · subst k2
    rw [if_pos rfl] at hc
    obtain rfl | rfl | rfl : r = 1 ∨ r = 2 ∨ r = 3 := by omega
    all_goals
      have HC := Lib.hid hc
      clear hc
      go_enter Try.func55, Try.ntmps55
      go_wp2_with fail
      refine HG.out.mono ?_
      rintro e w1 ⟨rfl, hb1⟩
      have HB1 := Lib.hid hb1
      clear hb1
      unfold plV
      go_wp2
      go_ret
      exact ⟨by rw [← HC.out]; rfl, HBX.out _ _ _ HB1.out⟩
  rw [if_neg k2] at hc
  have e2 : (k == 2) = false := by simpa using k2
  have HC := Lib.hid hc
  clear hc
  go_enter Try.func55, Try.ntmps55
  go_wp2_with fail
  refine HG.out.mono ?_
  rintro e w1 ⟨rfl, hb1⟩
  have HB1 := Lib.hid hb1
  clear hb1
  unfold plV
  go_wp2
  go_ret
  exact ⟨by rw [← HC.out]; rfl, HBX.out _ _ _ HB1.out⟩
theorem refAllows_any (b : Nat) (L : List Pl) (n k c : Int) (hc : alwF (atP L n) n k = c) (w : World) (h : RAt w b L) :
    Calls Try.prog 55 #[.pointer (some ⟨b, 0, none⟩), .int .i64 n, .int .i64 k] w fun e w' => e = .returned (.int .i64 c) ∧ Below w.heap.size w w' := by
  have G := refGet_any b L n _ _ rfl rfl w h
  rcases page_cases n with hn | ⟨j, rfl, hj⟩
  · rw [atP_no hn] at hc G
    obtain rfl : 7 = c := hc
    exact refAllows_no _ n k w G
  · rw [atP_is hj] at hc G
    rcases pl_cases h.2 j with hq | ⟨f, r, hq, _, hr, hr3, ht⟩
    · rw [hq] at hc G
      obtain rfl : 7 = c := hc
      exact refAllows_no _ j k w G
    · rw [hq] at hc G
      rw [ht] at G
      exact refAllows_yes _ j f r k c hj hr hr3 hc w G
end Go.Proofs.Ytoafonbplbblpaa.Gm
end
section
/- hermitagelaw15: ints, awake; what no call made; both maps side by side. -/
namespace Go.Proofs.Ytoafonbplbblpaa.Gm
open Go.RowKit Ut
set_option maxRecDepth 100000
set_option linter.unusedVariables false
set_option maxHeartbeats 4000000

theorem keep {f : Nat} {args : Array Value} {v : Value} {w0 w : World} (hb : Below w0.heap.size w0 w) (h : Calls Try.prog f args w fun e w' => e = .returned v ∧ Below w.heap.size w w') : Calls Try.prog f args w fun e w' => e = .returned v ∧ Below w0.heap.size w0 w' :=
  h.mono fun e w' ⟨he, hb'⟩ => ⟨he, hb.trans (hb'.mono hb.size)⟩

def L8 : List Pl := setL noP 8 (3, 1)
/-- of what no call made: each method by find's no -/
def NotMade (a : Option Addr) (w : World) : Prop := ∀ n, Calls Try.prog 47 #[.pointer a, .int .i64 n] w fun e w' => e = .returned (.tuple #[.pointer none, .int .i64 7]) ∧ w = w'
/-- .. in all worlds above w -/
def Unmade (w : World) (a : Option Addr) : Prop := ∀ W, Below w.heap.size w W → NotMade a W
section
variable {w : World} {a : Option Addr}
theorem Unmade.up (h : Unmade w a) {W : World} (hW : Below w.heap.size w W) : ∀ V, Below W.heap.size W V → NotMade a V := fun V hV => h V (hW.trans (hV.mono hW.size))
theorem Unmade.get (h : Unmade w a) (n : Int) (W : World) (hW : Below w.heap.size w W) : Calls Try.prog 20 #[.pointer a, .int .i64 n] W fun e w' => e = .returned (.tuple #[plV (0, 0), .bool false]) ∧ Below w.heap.size w w' :=
  keep hW (get_zero a n W fun V hV => h.up hW V hV n)
theorem Unmade.set (h : Unmade w a) (n : Int) (p : Pl) (W : World) (hW : Below w.heap.size w W) : Calls Try.prog 24 #[.pointer a, .int .i64 n, plV p] W fun e w' => e = .returned (.int .i64 7) ∧ Below w.heap.size w w' :=
  keep hW (set_zero a n p W fun V hV => h.up hW V hV n)
theorem Unmade.drop (h : Unmade w a) (n : Int) (W : World) (hW : Below w.heap.size w W) : Calls Try.prog 66 #[.pointer a, .int .i64 n] W fun e w' => e = .returned (.int .i64 7) ∧ Below w.heap.size w w' :=
  (drop_no a n 7 (.inr rfl) W (h W hW n)).mono fun e w' ⟨he, hw⟩ => ⟨he, hw ▸ hW⟩
theorem Unmade.allows (h : Unmade w a) (n k : Int) (W : World) (hW : Below w.heap.size w W) : Calls Try.prog 65 #[.pointer a, .int .i64 n, .int .i64 k] W fun e w' => e = .returned (.int .i64 7) ∧ Below w.heap.size w w' :=
  keep hW (allows_no a n k W (get_zero a n W fun V hV => h.up hW V hV n))
end
theorem unmade_nil (w : World) : Unmade w none := fun W _ n => find_nil n W
/-- the cells of a map that no call made -/
def unCells : List Value := .bool false :: flatP noP
theorem unmade_blk {w : World} {b : Nat} (h : Blk w b 118 unCells) : Unmade w (some ⟨b, 0, none⟩) := fun W hW n => find_unmade b n W ((h.below hW h.lt).cell rfl)
theorem run_un (ρ : Operand → Value) (o : Oper) (ho : o.op = .alloc 118) (w : World) : (execOp ρ o).run Try.prog w = .ok (.value (.pointer (some ⟨w.heap.size, 0, none⟩))) (w.alloc (.cells unCells.toArray 118)) := by
  unfold execOp
  rw [ho]
  kernel_rfl
end Go.Proofs.Ytoafonbplbblpaa.Gm
end
