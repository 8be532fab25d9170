/- slices.Collect of a table's runs; (*Table).Runs. -/
import Derived.Test.YtmekoanobicddaaPe
import Derived.Maps.OwnIn
namespace Go.Proofs.Ytmekoanobicddaa.Pt
open Go.RowKit Go.Shelf Ut
set_option linter.unusedVariables false
attribute [local go_sem] Oper.semAt_some

theorem cs3_snoc (xs : List BR) (x : BR) : cs3 ((xs ++ [x]).map (·.1)) = cs3 (xs.map (·.1)) ++ cs3 [x.1] := by simp [cs3]

/-- between two rounds of AppendSeq's loop -/
def CollI (w : World) (h : Nat) (pre : List BR) (W : World) : Prop := (∃ v, Boxed W h 27 v ∧ W.ownsRow h 33 3 v pre.length (cs3 (pre.map (·.1))) ∧ True) ∧ Below h w W

set_option maxRecDepth 100000 in
set_option maxHeartbeats 2000000 in
theorem appendSeq_any (Bn : Nat) (p : Option Addr) (xs : List BR) (w : World) (hBn : Bn < w.heap.size) (hc : w.cell? ⟨Bn, 0, none⟩ = some (.pointer p)) (hT : Tbl w w.heap.size p xs) (hl : xs.length ≤ 64) :
    Calls Try.prog 63 #[.slice none 0 0, .func (.func 64) #[] #[.pointer (some ⟨Bn, 0, none⟩)]] w fun e W' => ∃ v, e = .returned v ∧ OwnS W' w.heap.size v (xs.map (·.1)) ∧ Below w.heap.size w W' := by
  obtain ⟨i0, hi, hz0, hz1, hz2⟩ := info_parts A.info45
  have HI := Lib.hid hi
  clear hi
  refine (callsIn_wide (n := 102)).1 ?_
  refine callsIn_of_wp_marks Try.func63 rfl trivial ?_ rfl
  simp only [Try.ntmps63, List.size_toArray, List.length_cons, List.length_nil, Nat.reduceAdd, Nat.reduceSub, Array.replicate_succ, Array.replicate_zero, List.push_toArray, List.append_toArray, List.nil_append, List.cons_append]
  gi_wp2
  have bR := Boxed.new w 27 (.slice none 0 0)
  have hB0 := (Below.refl w.heap.size w).alloc (Nat.le_refl _) (.cells #[.slice none 0 0] 27)
  have hsz : (w.alloc (.cells #[.slice none 0 0] 27)).heap.size = w.heap.size + 1 := by simp
  obtain ⟨W0, hW0⟩ : ∃ W0, w.alloc (.cells #[.slice none 0 0] 27) = W0 := ⟨_, rfl⟩
  rw [hW0] at bR hB0 hsz ⊢
  clear hW0
  have hsz1 : w.heap.size + 1 ≤ W0.heap.size := by omega
  have hsz2 : W0.heap.size ≤ w.heap.size + 1 := by omega
  clear hsz
  refine wpIn_rangeFunc_ownH rfl (by omega) (gf := 64) (lb := #[.pointer (some ⟨Bn, 0, none⟩)]) rfl trivial (enters_of Try.func64 (by kernel_rfl) rfl)
    (each_stops Bn w.heap.size p xs W0 (by omega) (by omega) ((hB0.cell (p := ⟨Bn, 0, none⟩) hBn).trans hc) (hT.below hB0)) belowK_t (belowK_b (by omega)) (Below.refl _ _) (fun _ => rfl)
    (CollI w w.heap.size)
    (fun _ _ _ => False)
    (OwnFrom.and (Own.from (holdsRow_own _ _ _ _ 3 (fun pre : List BR => pre.length) (fun pre => cs3 (pre.map (·.1))) (fun _ _ => True)) _) (ownFrom_below (Nat.le_refl _) (by omega)))
    (fun _ _ _ _ _ hs _ _ => hs)
    ⟨⟨_, bR, World.ownsRow_nil _ _ _ _, trivial⟩, hB0⟩
    (fun x a' W => ∃ Bx, Run3 W Bx x.1 ∧ a' = { tmps := #[.slice none 0 0, .func (.func 64) #[] #[.pointer (some ⟨Bn, 0, none⟩)], .pointer (some ⟨w.heap.size, 0, none⟩), undef, .slice none 0 0, .pointer (some ⟨Bx, 0, none⟩), .func (.func 64) #[] #[.pointer (some ⟨Bn, 0, none⟩)], x.1.v, undef, undef, undef, undef, undef], defers := [] })
    (fun x a' s X Y row hs hg hr => by
      obtain ⟨Bx, h2, h3⟩ := hs
      exact ⟨Bx, run3_keep Bx x.1 () X Y row h2 hg (fun r e => (hr r e).2), h3⟩)
    ?assign ?body ?done ?stop
  case assign =>
    rintro l pre x W K ⟨⟨v, hv, hrow, _⟩, hB⟩ hK
    dsimp only [enc1, R3.v]
    gi_wp2
    exact hK _ _ ((KeepsOthers.alloc _ _).from _) ((Below.refl _ W).alloc hB.size _) ⟨⟨v, hv.alloc _, hrow.alloc _, trivial⟩, hB.alloc hB.size _⟩ ⟨W.heap.size, Run3.new W _, rfl⟩
  case body =>
    rintro l pre x a' W hl' ⟨r, hr⟩ ⟨⟨v, hv, hrow, _⟩, hB⟩ ⟨Bx, bX, rfl⟩ hlt
    have hc' := hv.cell
    obtain ⟨b1, b2, b3⟩ := bX.cell
    have hpl : pre.length ≤ 64 := by omega
    have hnw := cell_three_new W x.1 33
    have HN := Lib.hid hnw
    have hcs := cs3_snoc pre x
    have HC := Lib.hid hcs
    have HR := Lib.hid hr
    clear hnw hcs hr hT hc bR
    gi_wp2_with (gi_at_builtin; refine wpListIn_append_own _ rfl _ _ _ rfl w.heap.size 33 i0 _ 3 24 Try.underlying27 HI.out hz0 hz1 hz2 rfl (by decide) _ _ _ rfl (hrow.alloc _) ⟨W.heap.size, 0, none⟩ 1 1 (cs3 [x.1]) rfl rfl HN.out (cs3_one _) (by unfold maxLen; omega) (by omega) (by have := hB.size; simp; omega) ?_; intro v' w1 hown' hgrow _; obtain ⟨g', cap', rfl⟩ := ownsRow_succ hown'; obtain ⟨hv1, hv2, hr2, hk2, hb2⟩ := hv.appended (by decide) hrow hB.size (Nat.le_refl _) hown' hgrow; have hc1 := hv1.cell; have hf1 := hv1.frozen)
    exact ⟨hk2.from _, hb2, ⟨_, hv2, by rw [HC.out, List.length_append]; exact hr2, trivial⟩, hB.trans hb2⟩
  case done =>
    rintro D ys W hD rfl ⟨⟨v, hv, hrow, _⟩, hB⟩ hK
    have hc' := hv.cell
    have HO := Lib.hid hrow
    clear hrow hT
    gi_wp2
    refine ⟨by simp, .inl ⟨_, _, rfl, run_takeDeferred hK, ?_⟩⟩
    refine ⟨_, results_tmp rfl _ _ _, v, rfl, ?_,  hB.trans (belowK_b (w := w) (Nat.le_refl _) W D _ _ (by omega) hK rfl rfl)⟩
    unfold OwnS
    rw [List.length_map]
    exact ownsRow_putObj HO.out _ hK rfl
  case stop =>
    rintro D c pre W _ _ h _
    exact h.elim

theorem collect_any (Bn : Nat) (p : Option Addr) (xs : List BR) (w : World) (hBn : Bn < w.heap.size) (hc : w.cell? ⟨Bn, 0, none⟩ = some (.pointer p)) (hT : Tbl w w.heap.size p xs) (hl : xs.length ≤ 64) :
    Calls Try.prog 37 #[.func (.func 64) #[] #[.pointer (some ⟨Bn, 0, none⟩)]] w fun e W' => ∃ v, e = .returned v ∧ OwnS W' w.heap.size v (xs.map (·.1)) ∧ Below w.heap.size w W' := by
  have HA := Lib.hid (appendSeq_any Bn p xs w hBn hc hT hl)
  clear hT hc
  go_enter Try.func37, Try.ntmps37
  go_wp2_with fail
  refine HA.out.mono ?_
  rintro e W' ⟨v, rfl, ho, hb⟩
  have HO := Lib.hid ho
  clear ho
  go_wp2
  go_ret
  exact ⟨v, rfl, HO.out, hb⟩

theorem runs_any (p : Option Addr) (xs : List BR) (w : World) (hT : Tbl w w.heap.size p xs) (hl : xs.length ≤ 64) :
    Calls Try.prog 9 #[.pointer p] w fun e W' => ∃ v, e = .returned v ∧ OwnS W' w.heap.size v (xs.map (·.1)) ∧ Below w.heap.size w W' := by
  have hb0 := (Below.refl w.heap.size w).alloc (Nat.le_refl _) (.cells #[.pointer p] 23)
  have hT2 := (hT.below hb0).more hb0.size
  have hA := collect_any w.heap.size p xs (w.alloc (.cells #[.pointer p] 23)) (by simp) (Boxed.new w _ _).cell hT2 hl
  have HA := Lib.hid hA
  clear hT hT2 hA
  go_enter Try.func9, Try.ntmps9
  go_wp2_with (go_at_call 38; refine (each_any _ _).mono ?_; rintro e w' ⟨rfl, rfl⟩)
  refine HA.out.mono ?_
  rintro e W' ⟨v, rfl, ho, hb⟩
  have HO := Lib.hid ho
  clear ho
  have hb2 := hb0.trans (hb.mono hb0.size)
  go_wp2
  go_ret
  refine ⟨v, rfl, ?_, hb2⟩
  rcases HO.out.2 with h | ⟨q, cap, cur, h1, h2, h3⟩
  · exact ⟨HO.out.1, .inl h⟩
  · exact ⟨HO.out.1, .inr ⟨q, cap, cur, h1, by simp at h2; omega, h3⟩⟩
end Go.Proofs.Ytmekoanobicddaa.Pt
