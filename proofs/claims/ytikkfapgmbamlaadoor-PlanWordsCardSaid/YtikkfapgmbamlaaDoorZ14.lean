/- Several texts in one: Pe -/
import Derived.Test.YtikkfapgmbamlaaDoorZ13
import Derived.Deep.QuietTactic
import Derived.BigQuiet
section
/- put: a run behind the others. -/
namespace Go.Proofs.YtikkfapgmbamlaaDoor.Pt
open Go.RowKit Go.Shelf Ut
set_option linter.unusedVariables false

def putL (rs : List R3) (r : R3) : List R3 :=
  if r.n = 0 then rs else
  if rs = [] then [r] else
  if (rs.getD (rs.length - 1) default).w = r.w then rs.set (rs.length - 1) ⟨(rs.getD (rs.length - 1) default).f, wrap64 ((rs.getD (rs.length - 1) default).n + r.n), (rs.getD (rs.length - 1) default).w⟩
  else rs ++ [r]
theorem putL_length (rs : List R3) (r : R3) : (putL rs r).length ≤ rs.length + 1 := by
  unfold putL
  split
  · omega
  · split
    · simp
    · split <;> simp

theorem OwnS.cellAt {w : World} {B g cap : Nat} {rs : List R3} (h : OwnS w B (.slice (some ⟨g, 0, none⟩) rs.length cap) rs) (i : Nat) (hi : i < rs.length) : CellsAt w g i (rs.getD i default) := by
  obtain ⟨h1, h2, h3⟩ := cs3_get rs i hi
  exact ⟨by rw [World.ownsRow.cellAt h _ (by omega)]; exact h1, by rw [World.ownsRow.cellAt h _ (by omega)]; exact h2, by rw [World.ownsRow.cellAt h _ (by omega)]; exact h3⟩

theorem cs3_set (rs : List R3) : ∀ (i : Nat) (r : R3), i < rs.length → (cs3 rs).set (i * 3 + 1) (.int .i64 r.n) = cs3 (rs.set i ⟨(rs.getD i default).f, r.n, (rs.getD i default).w⟩) := by
  induction rs with
  | nil => intro i r hi; exact absurd hi (by simp)
  | cons x xs ih =>
    intro i r hi
    cases i with
    | zero => rfl
    | succ i =>
      have e : (i + 1) * 3 + 1 = i * 3 + 1 + 1 + 1 + 1 := by omega
      rw [e, cs3_cons]
      simp only [List.set_cons_succ, List.getD_cons_succ]
      rw [cs3_cons, ih i r (by simpa using hi)]

theorem A.info45 : (Tryd.prog.info? 126).map (fun i => (i.zero, i.size, i.bytes)) = some (some (.agg #[.int .i64 0, .int .i64 0, .int .i64 0]), 3, 24) := by kernel_rfl

/-- the new row, and what else has changed: nothing but the row -/
def PutPost (w : World) (n0 : Nat) (v : Value) (rs : List R3) (e : Ending) (w' : World) : Prop :=
  ∃ v', e = .returned v' ∧ OwnS w' n0 v' rs ∧ w.grownBy w' v.ownBlock ∧ (v'.ownBlock = v.ownBlock ∨ ∃ g, v'.ownBlock = some g ∧ w.heap.size ≤ g)

theorem cell_three_new (w : World) (r : R3) (t : TypeId) : ∀ j u, (cs3 [r])[j]? = some u → (w.alloc (.cells #[.int .i64 r.f, .int .i64 r.n, .int .i64 r.w] t)).cell? ((⟨w.heap.size, 0, none⟩ : Addr).add j) = some u := by
  intro j u hj
  rw [add_plain]
  have h := World.alloc_heap_new w (.cells #[.int .i64 r.f, .int .i64 r.n, .int .i64 r.w] t)
  have hj3 : j < 3 := by
    rcases Nat.lt_or_ge j 3 with h | h
    · exact h
    · rw [List.getElem?_eq_none (by rw [cs3_length]; simpa using h)] at hj; cases hj
  rcases (by omega : j = 0 ∨ j = 1 ∨ j = 2) with rfl | rfl | rfl
  · simp [cs3, R3.cs] at hj; subst hj; unfold World.cell?; rw [show (w.alloc _).heap[(⟨w.heap.size, _, none⟩ : Addr).block]? = _ from h]; rfl
  · simp [cs3, R3.cs] at hj; subst hj; unfold World.cell?; rw [show (w.alloc _).heap[(⟨w.heap.size, _, none⟩ : Addr).block]? = _ from h]; rfl
  · simp [cs3, R3.cs] at hj; subst hj; unfold World.cell?; rw [show (w.alloc _).heap[(⟨w.heap.size, _, none⟩ : Addr).block]? = _ from h]; rfl

theorem grownBy_trans {A B C : World} {row : Option Nat} (h : A.grownBy B row) (k : B.grownBy C row) : A.grownBy C row :=
  ⟨k.os.trans h.os, k.tape.trans h.tape, k.output.trans h.output, Nat.le_trans h.size k.size, fun i hi hne => (k.block i (Nat.lt_of_lt_of_le hi h.size) hne).trans (h.block i hi hne)⟩
theorem grownBy_of_below {A B : World} (row : Option Nat) (h : Below A.heap.size A B) : A.grownBy B row := ⟨h.os, h.tape, h.output, h.size, fun i hi _ => h.block i hi⟩

set_option maxRecDepth 100000 in
set_option maxHeartbeats 1000000 in
theorem put_any (v : Value) (rs : List R3) (r : R3) (n0 : Nat) (w : World) (hown : OwnS w n0 v rs) (hn0 : n0 ≤ w.heap.size) (hl : rs.length ≤ 1000) :
    Calls Tryd.prog 78 #[v, .agg #[.int .i64 r.f, .int .i64 r.n, .int .i64 r.w]] w (PutPost w n0 v (putL rs r)) := by
  have hv : ∃ a cap, v = .slice a rs.length cap := by
    rcases hown.2 with ⟨rfl, h0⟩ | ⟨g, cap, cur, rfl, _⟩
    · exact ⟨none, 0, by rw [h0]⟩
    · exact ⟨_, cap, rfl⟩
  obtain ⟨a, cap, rfl⟩ := hv
  have HO := Lib.hid hown
  clear hown
  have hb1 : Below w.heap.size w (w.alloc (.cells #[.int .i64 r.f, .int .i64 r.n, .int .i64 r.w] 126)) := (Below.refl _ _).alloc (Nat.le_refl _) _
  obtain ⟨i0, hi, hz0, hz1, hz2⟩ := info_parts A.info45
  have HI := Lib.hid hi
  clear hi
  obtain ⟨n, hln⟩ : ∃ n, n = rs.length := ⟨_, rfl⟩
  rw [← hln] at hl HO ⊢
  have HL := Lib.hid hln
  clear hln
  have hcap : n ≤ cap ∧ cap ≤ 9223372036854775807 := by
    have h := HO.out
    rcases h.2 with ⟨h, h0⟩ | ⟨g, cap', cur, h, _, _, h1, h2, _⟩
    · cases h; rw [HL.out]; omega
    · cases h; rw [HL.out]; unfold maxLen at h2; omega
  obtain ⟨hc1, hc2⟩ := hcap
  have HN : Hid (∀ (q j : Nat) (u : Value), (cs3 [r])[j]? = some u → (((w.alloc (.cells #[.int .i64 r.f, .int .i64 r.n, .int .i64 r.w] 126)).drewN q).alloc (.cells #[.int .i64 r.f, .int .i64 r.n, .int .i64 r.w] 126)).cell? ((⟨w.heap.size + 1, 0, none⟩ : Addr).add j) = some u) := Lib.hid fun q j u hj => by
    have h := cell_three_new ((w.alloc (.cells #[.int .i64 r.f, .int .i64 r.n, .int .i64 r.w] 126)).drewN q) r 126 j u hj
    have e : ((w.alloc (.cells #[.int .i64 r.f, .int .i64 r.n, .int .i64 r.w] 126)).drewN q).heap.size = w.heap.size + 1 := by simp
    rw [e] at h
    exact h
  have HB : Hid (∀ (q : Nat), Below w.heap.size w (((w.alloc (.cells #[.int .i64 r.f, .int .i64 r.n, .int .i64 r.w] 126)).drewN q).alloc (.cells #[.int .i64 r.f, .int .i64 r.n, .int .i64 r.w] 126))) := Lib.hid fun q =>
    Below.alloc (w := (w.alloc (.cells #[.int .i64 r.f, .int .i64 r.n, .int .i64 r.w] 126)).drewN q) ⟨hb1.os, hb1.tape, hb1.output, hb1.size, hb1.block⟩ (by simp) _
  have HP2 : Hid (∀ (q : Nat) (v' : Value) (w1 : World), w1.ownsRow n0 126 3 v' (n + 1) (cs3 rs ++ cs3 [r]) → (((w.alloc (.cells #[.int .i64 r.f, .int .i64 r.n, .int .i64 r.w] 126)).drewN q).alloc (.cells #[.int .i64 r.f, .int .i64 r.n, .int .i64 r.w] 126)).grownBy w1 (Value.slice a n cap).ownBlock →
      (v'.ownBlock = (Value.slice a n cap).ownBlock ∨ v'.ownBlock = some (((w.alloc (.cells #[.int .i64 r.f, .int .i64 r.n, .int .i64 r.w] 126)).drewN q).alloc (.cells #[.int .i64 r.f, .int .i64 r.n, .int .i64 r.w] 126)).heap.size) → PutPost w n0 (.slice a n cap) (rs ++ [r]) (.returned v') w1) := Lib.hid fun q v' w1 h1 h2 h3 => by
    refine ⟨v', rfl, ?_, grownBy_trans (grownBy_of_below _ (HB.out q)) h2, h3.imp id fun h => ⟨_, h, by simp; omega⟩⟩
    unfold OwnS
    rw [cs3_append, List.length_append, ← HL.out]
    exact h1
  by_cases h0 : r.n = 0
  · have hp : putL rs r = rs := by unfold putL; rw [if_pos h0]
    have HP := Lib.hid hp
    clear hp
    have h0' : (r.n == 0) = true := by simpa using h0
    clear h0
    go_enter Tryd.func78, Tryd.ntmps78
    go_wp2
    go_ret
    exact ⟨_, rfl, by rw [HP.out]; exact HO.out.below hb1, grownBy_of_below _ hb1, .inl rfl⟩
  · have h0' : (r.n == 0) = false := by simpa using h0
    have H0 := Lib.hid h0
    clear h0
    by_cases hn : n = 0
    · subst hn
      have hr : rs = [] := List.length_eq_zero_iff.1 HL.out.symm
      have hp : putL rs r = rs ++ [r] := by unfold putL; rw [if_neg H0.out, if_pos hr, hr]; rfl
      have HP := Lib.hid hp
      clear hp hr
      go_enter Tryd.func78, Tryd.ntmps78
      go_wp2
      go_quiet (fail)
      have HQ : ∀ q, (((w.alloc (.cells #[.int .i64 r.f, .int .i64 r.n, .int .i64 r.w] 126)).drewN q).alloc (.cells #[.int .i64 r.f, .int .i64 r.n, .int .i64 r.w] 126)).ownsRow n0 126 3 (.slice a 0 cap) 0 (cs3 rs) := fun q => by
        have h := HO.out.below (HB.out q)
        unfold OwnS at h
        rwa [← HL.out] at h
      go_wp2_with (at_builtin; refine wpList_append_own_at _ rfl _ _ _ rfl n0 126 i0 _ 3 24 Tryd.underlying123 HI.out hz0 hz1 hz2 rfl (by decide) (.slice a 0 cap) 0 (cs3 rs) rfl (HQ _) ⟨w.heap.size + 1, 0, none⟩ 1 1 (cs3 [r]) rfl rfl (HN.out _) (cs3_one _) (by unfold maxLen; omega) (by omega) (by simp; omega) ?_; intro v' w1 hown' hgrow _ hat; clear HQ)
      go_ret
      rw [HP.out]
      exact HP2.out _ _ _ hown' hgrow hat
    · obtain ⟨m, rfl⟩ : ∃ m, n = m + 1 := ⟨n - 1, by omega⟩
      obtain ⟨g, rfl, hgb, hgl⟩ : ∃ g, a = some ⟨g, 0, none⟩ ∧ n0 ≤ g ∧ g < w.heap.size := by
        rcases HO.out.2 with ⟨_, h0⟩ | ⟨g, cap', cur, h, h1, h2, _⟩
        · have := HL.out; omega
        · injection h with e1 e2 e3; exact ⟨g, e1, h1, (Array.getElem?_eq_some_iff.1 h2).1⟩
      have ho1 : OwnS (w.alloc (.cells #[.int .i64 r.f, .int .i64 r.n, .int .i64 r.w] 126)) n0 (.slice (some ⟨g, 0, none⟩) rs.length cap) rs := by
        have h := HO.out.below hb1
        rwa [HL.out] at h
      obtain ⟨c1, c2, c3⟩ := ho1.cellAt m (by have := HL.out; omega)
      have hf : (w.alloc (.cells #[.int .i64 r.f, .int .i64 r.n, .int .i64 r.w] 126)).frozen? ⟨g, m * 3 + 1, none⟩ = false := World.ownsRow.frozenAt ho1 _
      have hs := World.ownsRow.stored ho1 (m * 3 + 1) (.int .i64 (wrap64 ((rs.getD m default).n + r.n)))
      have HS := Lib.hid hs
      have hcs := cs3_set rs m ⟨0, wrap64 ((rs.getD m default).n + r.n), 0⟩ (by have := HL.out; omega)
      have HC := Lib.hid hcs
      clear hs hcs
      have hb0 : (0 : Int) ≤ (m : Int) := by omega
      have hb2 : (m : Int) < ((m + 1 : Nat) : Int) := by omega
      have hne : rs ≠ [] := by intro h; have := HL.out; rw [h] at this; cases this
      have HNe := Lib.hid hne
      clear hne
      by_cases hw : (rs.getD m default).w = r.w
      · have hp : putL rs r = rs.set m ⟨(rs.getD m default).f, wrap64 ((rs.getD m default).n + r.n), (rs.getD m default).w⟩ := by
          unfold putL
          rw [if_neg H0.out, if_neg HNe.out, ← HL.out, Nat.add_sub_cancel, if_pos hw]
        have HP := Lib.hid hp
        have hw' : ((rs.getD m default).w == r.w) = true := by simpa using hw
        clear hp hw
        obtain ⟨L, hLe⟩ : ∃ L, L = rs.getD m default := ⟨_, rfl⟩
        rw [← hLe] at c1 c2 c3 hw' HP HS HC
        clear hLe
        go_enter Tryd.func78, Tryd.ntmps78
        go_wp2
        go_quiet (fail)
        go_wp2
        go_region
        all_goals go_wp2
        all_goals
          go_ret
          rw [HP.out]
          refine ⟨_, rfl, ?_, ?_, .inl rfl⟩
          · unfold OwnS
            rw [List.length_set, ← HC.out, HL.out]
            exact HS.out.1
          · have h := grownBy_trans (grownBy_of_below (some g) hb1) HS.out.2
            exact ⟨h.os, h.tape, h.output, h.size, h.block⟩
      · have hp : putL rs r = rs ++ [r] := by
          unfold putL
          rw [if_neg H0.out, if_neg HNe.out, ← HL.out, Nat.add_sub_cancel, if_neg hw]
        have HP := Lib.hid hp
        have hw' : ((rs.getD m default).w == r.w) = false := by simpa using hw
        clear hp hw
        obtain ⟨L, hLe⟩ : ∃ L, L = rs.getD m default := ⟨_, rfl⟩
        rw [← hLe] at c1 c2 c3 hw' HS HC
        clear hLe
        go_enter Tryd.func78, Tryd.ntmps78
        go_wp2
        go_quiet (fail)
        have HQ : ∀ q, (((w.alloc (.cells #[.int .i64 r.f, .int .i64 r.n, .int .i64 r.w] 126)).drewN q).alloc (.cells #[.int .i64 r.f, .int .i64 r.n, .int .i64 r.w] 126)).ownsRow n0 126 3 (.slice (some ⟨g, 0, none⟩) (m + 1) cap) (m + 1) (cs3 rs) := fun q => by
          have h := HO.out.below (HB.out q)
          unfold OwnS at h
          rwa [← HL.out] at h
        go_wp2_with (at_builtin; refine wpList_append_own_at _ rfl _ _ _ rfl n0 126 i0 _ 3 24 Tryd.underlying123 HI.out hz0 hz1 hz2 rfl (by decide) (.slice (some ⟨g, 0, none⟩) (m + 1) cap) (m + 1) (cs3 rs) rfl (HQ _) ⟨w.heap.size + 1, 0, none⟩ 1 1 (cs3 [r]) rfl rfl (HN.out _) (cs3_one _) (by unfold maxLen; omega) (by omega) (by simp; omega) ?_; intro v' w1 hown' hgrow _ hat; clear HQ)
        go_ret
        rw [HP.out]
        exact HP2.out _ _ _ hown' hgrow hat
end Go.Proofs.YtikkfapgmbamlaaDoor.Pt
end
