/- The iterator of a table's runs: (*Table).each, and the function that it makes. -/
import Derived.Test.YtmekoanobicddaaPa
import Derived.RangeFuncNested
import Derived.RangeFuncBound
import Derived.RangeFuncCalls
import Derived.RangeFuncLeaves
import Derived.Shelf.Abstract
import Derived.Shelf.RegionOpen
import Derived.WalkKit
import Derived.OwnWalkIn
import Derived.TacticsInMore
import Derived.LoopNIn
import Derived.LoopIn
namespace Go.Proofs.Ytmekoanobicddaa.Pt
open Go.RowKit Go.Shelf Ut
set_option linter.unusedVariables false
attribute [local go_sem] Oper.semAt_some

theorem each_any (p : Option Addr) (w : World) :
    Calls Try.prog 38 #[.pointer p] w fun e w' => e = .returned (.func (.func 64) #[] #[.pointer (some ⟨w.heap.size, 0, none⟩)]) ∧ w' = w.alloc (.cells #[.pointer p] 23) := by
  go_enter Try.func38, Try.ntmps38
  go_wp2
  go_ret
  exact ⟨rfl, rfl⟩

/-- what a round is handed -/
def enc1 (x : BR) : Array Value := #[x.1.v]

set_option maxRecDepth 100000 in
set_option maxHeartbeats 1000000 in
theorem each1_some (l Bn n₀ bt g cap : Nat) (xs : List BR) (J Jx : List BR → World → Prop) (W : World) (hJ : AbidesFrom W.heap.size J)
    (hY : ∀ pre x W1, J pre W1 → pre.length < xs.length → YieldAt Fence.wide 100 Try.prog l (enc1 x) W1 fun e W' =>
      (e = .returned (.bool true) ∧ J (pre ++ [x]) W' ∧ Below n₀ W1 W') ∨ (e = .returned (.bool false) ∧ Jx (pre ++ [x]) W'))
    (hBn : W.cell? ⟨Bn, 0, none⟩ = some (.pointer (some ⟨bt, 0, none⟩))) (hbt : bt < n₀) (hc : W.cell? ⟨bt, 1, none⟩ = some (.slice (some ⟨g, 0, none⟩) xs.length cap))
    (hcap : xs.length ≤ cap) (hm : cap ≤ maxLen) (hg : g < n₀) (hcs : ∀ i, i < xs.length → CellsAt W g i ((xs.map (·.1)).getD i default)) (hn₀ : n₀ ≤ W.heap.size) (h0 : J [] W) :
    CallsIn Fence.wide 101 Try.prog 64 #[.func (.yield l) #[] #[], .pointer (some ⟨Bn, 0, none⟩)] W fun e W' => (∃ v, e = .returned v) ∧
      ((∃ ys, ys = xs ∧ J ys W') ∨ (∃ pre, pre <+: xs ∧ Jx pre W')) := by
  unfold maxLen at hm
  refine callsIn_of_wp Try.func64 rfl trivial ?_ rfl
  simp only [Try.ntmps64, List.size_toArray, List.length_cons, List.length_nil, Nat.reduceAdd, Nat.reduceSub, Array.replicate_succ, Array.replicate_zero, List.push_toArray, List.append_toArray, List.nil_append, List.cons_append]
  gi_wp2
  gi_loopw [12] (fun i wr => ∃ k : Nat, k ≤ xs.length ∧ i = .int .i64 k ∧ J (xs.take k) wr ∧ Below n₀ W wr) (fun i _ => xs.length - (intOf i).toNat)
  case atStart => exact ⟨0, Nat.zero_le _, rfl, h0, Below.refl _ _⟩
  case round =>
    obtain ⟨k, hk, rfl, hJs, hb⟩ := hrel
    by_cases hlt : k < xs.length
    · obtain ⟨x, hx⟩ : ∃ x, xs[k]? = some x := ⟨xs[k], by simp⟩
      have hr : (xs.map (·.1)).getD k default = x.1 := by simp [List.getD, hx]
      have htk : xs.take (k + 1) = xs.take k ++ [x] := by rw [List.take_add_one, hx]; rfl
      have hc' := (hcs k hlt).below hg hb
      rw [hr] at hc'
      obtain ⟨c1, c2, c3⟩ := hc'
      have HT := Lib.hid htk
      clear htk hr hx hcs hc
      have hJ1 : J (xs.take k) (wr.alloc (.cells #[.int .i64 x.1.f, .int .i64 x.1.n, .int .i64 x.1.w] 33)) := hJ _ _ _ none hJs (World.grownBy_alloc _ _ none) (fun r e => by cases e)
      have hb1 : Below n₀ wr (wr.alloc (.cells #[.int .i64 x.1.f, .int .i64 x.1.n, .int .i64 x.1.w] 33)) := (Below.refl _ _).alloc (Nat.le_trans hn₀ hb.size) _
      obtain ⟨fn, tmps, assign, body, hy, hR⟩ := hY _ x _ hJ1 (by simp; omega)
      dsimp only [enc1, R3.v] at hy
      gi_wp2
      refine hR.mono ?_
      rintro e W3 (⟨rfl, hJ3, hk3⟩ | ⟨rfl, hJx3⟩)
      · gi_wp2
        go_roundw
        case rel => exact ⟨k + 1, by omega, by simp, by rw [HT.out]; exact hJ3, hb.trans (hb1.trans hk3)⟩
        case measure => simp [intOf]; omega
      · gi_wp2
        refine bodyPost_ret (results_none rfl _ _ _) rfl ?_
        exact ⟨⟨_, rfl⟩, .inr ⟨xs.take (k + 1), List.take_prefix _ _, by rw [HT.out]; exact hJx3⟩⟩
    · obtain rfl : k = xs.length := by omega
      gi_wp2
      go_end0
      exact ⟨⟨_, rfl⟩, .inl ⟨xs, rfl, by rw [List.take_length] at hJs; exact hJs⟩⟩

set_option maxRecDepth 100000 in
set_option maxHeartbeats 1000000 in
/-- .. where there are no runs -/
theorem each1_none (l Bn : Nat) (p : Option Addr) (xs : List BR) (J : List BR → World → Prop) (W : World)
    (hBn : W.cell? ⟨Bn, 0, none⟩ = some (.pointer p)) (hp : p = none ∨ ∃ bt, p = some ⟨bt, 0, none⟩ ∧ W.cell? ⟨bt, 1, none⟩ = some (.slice none 0 0)) (h0 : J [] W) :
    CallsIn Fence.wide 101 Try.prog 64 #[.func (.yield l) #[] #[], .pointer (some ⟨Bn, 0, none⟩)] W fun e W' => (∃ v, e = .returned v) ∧ J [] W' := by
  rcases hp with rfl | ⟨bt, rfl, hc⟩
  · refine callsIn_of_wp Try.func64 rfl trivial ?_ rfl
    simp only [Try.ntmps64, List.size_toArray, List.length_cons, List.length_nil, Nat.reduceAdd, Nat.reduceSub, Array.replicate_succ, Array.replicate_zero, List.push_toArray, List.append_toArray, List.nil_append, List.cons_append]
    gi_wp2
    refine bodyPost_ret (results_none rfl _ _ _) rfl ?_
    exact ⟨⟨_, rfl⟩, h0⟩
  · refine callsIn_of_wp Try.func64 rfl trivial ?_ rfl
    simp only [Try.ntmps64, List.size_toArray, List.length_cons, List.length_nil, Nat.reduceAdd, Nat.reduceSub, Array.replicate_succ, Array.replicate_zero, List.push_toArray, List.append_toArray, List.nil_append, List.cons_append]
    gi_wp2
    gi_loopw [12] (fun i wr => i = .int .i64 0 ∧ J [] wr) (fun _ _ => 0)
    case atStart => exact ⟨rfl, h0⟩
    case round =>
      obtain ⟨rfl, hJs⟩ := hrel
      gi_wp2
      go_end0
      exact ⟨⟨_, rfl⟩, hJs⟩

/-- the function that each makes goes over the runs, in order -/
theorem each_stops (Bn n₀ : Nat) (p : Option Addr) (xs : List BR) (w : World) (hBn : Bn < w.heap.size) (hn₀ : n₀ ≤ w.heap.size) (hc : w.cell? ⟨Bn, 0, none⟩ = some (.pointer p)) (hT : Tbl w n₀ p xs) :
    SeqStopsK Fence.wide 101 Try.prog 64 #[.pointer (some ⟨Bn, 0, none⟩)] enc1 (Below n₀) (fun ys => ys = xs) (fun pre => pre <+: xs) xs.length w := fun l J Jx W hW hJ _ hY h0 => by
  have hc' := (hW.cell (p := ⟨Bn, 0, none⟩) hBn).trans hc
  have hsz := hW.size
  rcases hT.below (hW.mono hn₀) with ⟨rfl, rfl⟩ | ⟨bt, v, rfl, hbt, hv, hr⟩
  · exact (each1_none l Bn none [] J W hc' (.inl rfl) h0).mono fun e W' ⟨he, hj⟩ => ⟨he, .inl ⟨_, rfl, hj⟩⟩
  · rcases hr with ⟨rfl, hx⟩ | ⟨g, cap, rfl, hl, hm, hg, hcs⟩
    · obtain rfl : xs = [] := by simpa using hx
      exact (each1_none l Bn _ [] J W hc' (.inr ⟨bt, rfl, hv⟩) h0).mono fun e W' ⟨he, hj⟩ => ⟨he, .inl ⟨_, rfl, hj⟩⟩
    · simp only [List.length_map] at hl hcs hv
      exact each1_some l Bn n₀ bt g cap xs J Jx W hJ hY hc' hbt hv hl hm hg hcs (Nat.le_trans hn₀ hsz) h0
end Go.Proofs.Ytmekoanobicddaa.Pt
