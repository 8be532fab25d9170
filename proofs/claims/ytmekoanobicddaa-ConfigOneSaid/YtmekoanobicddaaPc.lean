/- (*Table).Len and Free: loops over a table's runs that add up. -/
import Derived.Test.YtmekoanobicddaaPb
namespace Go.Proofs.Ytmekoanobicddaa.Pt
open Go.RowKit Go.Shelf Ut
set_option linter.unusedVariables false
attribute [local go_sem] Oper.semAt_some

/-- how many places the runs have -/
def sumN (xs : List BR) : Int := (xs.map (·.1.n)).sum
theorem sumN_snoc (xs : List BR) (x : BR) : sumN (xs ++ [x]) = sumN xs + x.1.n := by simp [sumN]
theorem sumN_bd (xs : List BR) : 0 ≤ sumN xs ∧ sumN xs ≤ 64 * xs.length := by
  induction xs with
  | nil => simp [sumN]
  | cons x xs ih =>
    have h := x.2
    unfold Fine at h
    simp only [sumN, List.map_cons, List.sum_cons, List.length_cons] at ih ⊢
    omega
/-- .. that are nobody's -/
def sumF (xs : List BR) : Int := (xs.map fun x => if x.1.w = -1 then x.1.n else 0).sum
theorem sumF_snoc (xs : List BR) (x : BR) : sumF (xs ++ [x]) = sumF xs + if x.1.w = -1 then x.1.n else 0 := by simp [sumF]
theorem sumF_bd (xs : List BR) : 0 ≤ sumF xs ∧ sumF xs ≤ 64 * xs.length := by
  induction xs with
  | nil => simp [sumF]
  | cons x xs ih =>
    have h := x.2
    unfold Fine at h
    simp only [sumF, List.map_cons, List.sum_cons, List.length_cons] at ih ⊢
    split <;> omega

theorem run3_keep (B : Nat) (r : R3) : Own (fun (_ : Unit) W => Run3 W B r) := run3_own B (fun _ => r)

set_option maxRecDepth 100000 in
set_option maxHeartbeats 2000000 in
theorem len_any (p : Option Addr) (xs : List BR) (w : World) (hT : Tbl w w.heap.size p xs) (hl : xs.length ≤ 64) :
    Calls Try.prog 39 #[.pointer p] w fun e W' => e = .returned (.int .i64 (sumN xs)) ∧ Below w.heap.size w W' := by
  refine (callsIn_wide (n := 102)).1 ?_
  refine callsIn_of_wp_marks Try.func39 rfl trivial ?_ rfl
  simp only [Try.ntmps39, List.size_toArray, List.length_cons, List.length_nil, Nat.reduceAdd, Nat.reduceSub, Array.replicate_succ, Array.replicate_zero, List.push_toArray, List.append_toArray, List.nil_append, List.cons_append]
  gi_wp2_with (refine ⟨trivial, ?_⟩; gi_at_call 38; refine (callsIn_wide.2 (each_any _ _)).mono ?_; rintro e w' ⟨rfl, rfl⟩)
  have bS := (Boxed.new w 3 (.int .i64 0)).alloc (.cells #[.pointer p] 23)
  have bN := Boxed.new (w.alloc (.cells #[.int .i64 0] 3)) 23 (.pointer p)
  rw [World.size_alloc] at bN
  have hB0 : Below w.heap.size w ((w.alloc (.cells #[.int .i64 0] 3)).alloc (.cells #[.pointer p] 23)) := ((Below.refl _ w).alloc (Nat.le_refl _) _).alloc (by simp) _
  have hsz : ((w.alloc (.cells #[.int .i64 0] 3)).alloc (.cells #[.pointer p] 23)).heap.size = w.heap.size + 2 := by simp
  obtain ⟨W0, hW0⟩ : ∃ W0, (w.alloc (.cells #[.int .i64 0] 3)).alloc (.cells #[.pointer p] 23) = W0 := ⟨_, rfl⟩
  rw [hW0] at bN bS hB0 hsz ⊢
  clear hW0
  refine wpIn_rangeFunc_ownH rfl (by omega) (gf := 64) (lb := #[.pointer (some ⟨w.heap.size + 1, 0, none⟩)]) rfl trivial (enters_of Try.func64 (by kernel_rfl) rfl)
    (each_stops (w.heap.size + 1) w.heap.size p xs W0 (by omega) (by omega) bN.cell (hT.below hB0)) belowK_t (belowK_b (by omega)) (Below.refl _ _) (fun _ => rfl)
    (fun pre W => Boxed W w.heap.size 3 (.int .i64 (sumN pre)) ∧ Below w.heap.size w W)
    (fun _ _ _ => False)
    (OwnFrom.and (Own.from (boxed_own _ _ _) _) (ownFrom_below (Nat.le_refl _) (by omega)))
    (fun _ _ _ _ _ hs _ _ => hs)
    ⟨bS, hB0⟩
    (fun x a' W => ∃ Bx, w.heap.size < Bx ∧ Run3 W Bx x.1 ∧ a' = { tmps := #[.pointer p, undef, .int .i64 0, .pointer (some ⟨w.heap.size, 0, none⟩), .pointer (some ⟨Bx, 0, none⟩), .pointer p, .func (.func 64) #[] #[.pointer (some ⟨w.heap.size + 1, 0, none⟩)], x.1.v, undef, undef, undef, undef, undef], defers := [] })
    (fun x a' _ X Y row hs hg hr => by obtain ⟨Bx, h1, h2, h3⟩ := hs; exact ⟨Bx, h1, run3_keep Bx x.1 () X Y row h2 hg (fun r e => (hr r e).2), h3⟩)
    ?assign ?body ?done ?stop
  case assign =>
    rintro l pre x W K ⟨bS1, hB1⟩ hK
    have hlt := bS1.lt
    dsimp only [enc1, R3.v]
    gi_wp2
    exact hK _ _ ((KeepsOthers.alloc _ _).from _) ((Below.refl _ W).alloc hB1.size _) ⟨bS1.alloc _, hB1.alloc hB1.size _⟩ ⟨W.heap.size, hlt, Run3.new W _, rfl⟩
  case body =>
    rintro l pre x a' W hl ⟨r, hr⟩ ⟨bS1, hB1⟩ ⟨Bx, hBx, bX, rfl⟩ hlt
    have cB := bS1.cell
    have fB := bS1.frozen
    obtain ⟨c1, c2, c3⟩ := bX.cell
    have hbd := sumN_bd pre
    obtain ⟨_, _, x1, x2, _, _⟩ := x.2
    gi_wp2
    exact ⟨(KeepsOthers.setCell _ _ _).from _, (Below.refl _ W).setCell (p := ⟨w.heap.size, 0, none⟩) (Nat.le_refl _) _, by rw [sumN_snoc]; exact bS1.set _, hB1.setCell (p := ⟨w.heap.size, 0, none⟩) (Nat.le_refl _) _⟩
  case done =>
    rintro D zs W hD rfl ⟨bS1, hB1⟩ hK
    have cS := bS1.cell
    gi_wp2
    refine ⟨by simp, .inl ⟨_, _, rfl, run_takeDeferred hK, ?_⟩⟩
    exact ⟨_, results_tmp rfl _ _ _, rfl, hB1.trans (belowK_b (w := w) (Nat.le_refl _) W D _ _ (by omega) hK rfl rfl)⟩
  case stop =>
    rintro D c pre W _ _ h _
    exact h.elim
set_option maxRecDepth 100000 in
set_option maxHeartbeats 2000000 in
theorem free_any (p : Option Addr) (xs : List BR) (w : World) (hT : Tbl w w.heap.size p xs) (hl : xs.length ≤ 64) :
    Calls Try.prog 10 #[.pointer p] w fun e W' => e = .returned (.int .i64 (sumF xs)) ∧ Below w.heap.size w W' := by
  refine (callsIn_wide (n := 102)).1 ?_
  refine callsIn_of_wp_marks Try.func10 rfl trivial ?_ rfl
  simp only [Try.ntmps10, List.size_toArray, List.length_cons, List.length_nil, Nat.reduceAdd, Nat.reduceSub, Array.replicate_succ, Array.replicate_zero, List.push_toArray, List.append_toArray, List.nil_append, List.cons_append]
  gi_wp2_with (refine ⟨trivial, ?_⟩; gi_at_call 38; refine (callsIn_wide.2 (each_any _ _)).mono ?_; rintro e w' ⟨rfl, rfl⟩)
  have bS := (Boxed.new w 3 (.int .i64 0)).alloc (.cells #[.pointer p] 23)
  have bN := Boxed.new (w.alloc (.cells #[.int .i64 0] 3)) 23 (.pointer p)
  rw [World.size_alloc] at bN
  have hB0 : Below w.heap.size w ((w.alloc (.cells #[.int .i64 0] 3)).alloc (.cells #[.pointer p] 23)) := ((Below.refl _ w).alloc (Nat.le_refl _) _).alloc (by simp) _
  have hsz : ((w.alloc (.cells #[.int .i64 0] 3)).alloc (.cells #[.pointer p] 23)).heap.size = w.heap.size + 2 := by simp
  obtain ⟨W0, hW0⟩ : ∃ W0, (w.alloc (.cells #[.int .i64 0] 3)).alloc (.cells #[.pointer p] 23) = W0 := ⟨_, rfl⟩
  rw [hW0] at bN bS hB0 hsz ⊢
  clear hW0
  refine wpIn_rangeFunc_ownH rfl (by omega) (gf := 64) (lb := #[.pointer (some ⟨w.heap.size + 1, 0, none⟩)]) rfl trivial (enters_of Try.func64 (by kernel_rfl) rfl)
    (each_stops (w.heap.size + 1) w.heap.size p xs W0 (by omega) (by omega) bN.cell (hT.below hB0)) belowK_t (belowK_b (by omega)) (Below.refl _ _) (fun _ => rfl)
    (fun pre W => Boxed W w.heap.size 3 (.int .i64 (sumF pre)) ∧ Below w.heap.size w W)
    (fun _ _ _ => False)
    (OwnFrom.and (Own.from (boxed_own _ _ _) _) (ownFrom_below (Nat.le_refl _) (by omega)))
    (fun _ _ _ _ _ hs _ _ => hs)
    ⟨bS, hB0⟩
    (fun x a' W => ∃ Bx, w.heap.size < Bx ∧ Run3 W Bx x.1 ∧ a' = { tmps := #[.pointer p, undef, .int .i64 0, .pointer (some ⟨w.heap.size, 0, none⟩), .pointer (some ⟨Bx, 0, none⟩), .pointer p, .func (.func 64) #[] #[.pointer (some ⟨w.heap.size + 1, 0, none⟩)], x.1.v, undef, undef, undef, undef, undef, undef, undef, undef], defers := [] })
    (fun x a' _ X Y row hs hg hr => by obtain ⟨Bx, h1, h2, h3⟩ := hs; exact ⟨Bx, h1, run3_keep Bx x.1 () X Y row h2 hg (fun r e => (hr r e).2), h3⟩)
    ?assign ?body ?done ?stop
  case assign =>
    rintro l pre x W K ⟨bS1, hB1⟩ hK
    have hlt := bS1.lt
    dsimp only [enc1, R3.v]
    gi_wp2
    exact hK _ _ ((KeepsOthers.alloc _ _).from _) ((Below.refl _ W).alloc hB1.size _) ⟨bS1.alloc _, hB1.alloc hB1.size _⟩ ⟨W.heap.size, hlt, Run3.new W _, rfl⟩
  case body =>
    rintro l pre x a' W hl ⟨r, hr⟩ ⟨bS1, hB1⟩ ⟨Bx, hBx, bX, rfl⟩ hlt
    have cB := bS1.cell
    have fB := bS1.frozen
    obtain ⟨c1, c2, c3⟩ := bX.cell
    have hbd := sumF_bd pre
    obtain ⟨_, _, x1, x2, _, _⟩ := x.2
    by_cases h1 : x.1.w = -1
    · have hs : sumF (pre ++ [x]) = sumF pre + x.1.n := by rw [sumF_snoc, if_pos h1]
      have HS := Lib.hid hs
      clear hs
      have h1' : (x.1.w == -1) = true := by simpa using h1
      clear h1
      gi_wp2
      exact ⟨(KeepsOthers.setCell _ _ _).from _, (Below.refl _ W).setCell (p := ⟨w.heap.size, 0, none⟩) (Nat.le_refl _) _, by rw [HS.out]; exact bS1.set _, hB1.setCell (p := ⟨w.heap.size, 0, none⟩) (Nat.le_refl _) _⟩
    · have hs : sumF (pre ++ [x]) = sumF pre := by rw [sumF_snoc, if_neg h1]; omega
      have HS := Lib.hid hs
      clear hs
      have h1' : (x.1.w == -1) = false := by simpa using h1
      clear h1
      gi_wp2
      exact ⟨KeepsFrom.refl _ _, Below.refl _ _, by rw [HS.out]; exact bS1, hB1⟩
  case done =>
    rintro D zs W hD rfl ⟨bS1, hB1⟩ hK
    have cS := bS1.cell
    gi_wp2
    refine ⟨by simp, .inl ⟨_, _, rfl, run_takeDeferred hK, ?_⟩⟩
    exact ⟨_, results_tmp rfl _ _ _, rfl, hB1.trans (belowK_b (w := w) (Nat.le_refl _) W D _ _ (by omega) hK rfl rfl)⟩
  case stop =>
    rintro D c pre W _ _ h _
    exact h.elim
end Go.Proofs.Ytmekoanobicddaa.Pt
