/- Several texts in one: Kr -/
import Derived.Test.YteaincdeoajkeaaGreatDoorZ42
import Derived.BigQuiet
section
/- Package mmu: fast: what a remembered translation says of an access. -/
namespace Go.Proofs.YteaincdeoajkeaaGreatDoor.Mm
open Go.RowKit Go.Shelf Ut Oc Vw Wa
set_option linter.unusedVariables false
set_option maxRecDepth 100000
set_option maxHeartbeats 4000000

theorem alw_cases (ok : Bool) (er k : Int) (us : Bool) : (ok = false ∧ Pe.alwB ok er k us = false) ∨ (ok = true ∧ ¬ 0 ≤ k ∧ Pe.alwB ok er k us = false) ∨ (ok = true ∧ 0 ≤ k ∧ ¬ k < 3 ∧ Pe.alwB ok er k us = false) ∨
  (ok = true ∧ ∃ c : Int, (k = 0 ∧ c = 4 ∨ k = 1 ∧ c = 1 ∨ k = 2 ∧ c = 2) ∧ (((bits .and .i64 er c != 0) = false ∧ Pe.alwB ok er k us = false) ∨ ((bits .and .i64 er c != 0) = true ∧ us = false ∧ Pe.alwB ok er k us = true) ∨ ((bits .and .i64 er c != 0) = true ∧ us = true ∧ (bits .and .i64 er 8 == 0) = true ∧ Pe.alwB ok er k us = false) ∨ ((bits .and .i64 er c != 0) = true ∧ us = true ∧ (bits .and .i64 er 8 == 0) = false ∧ Pe.alwB ok er k us = true))) := by
 cases ok with
 | false => exact .inl ⟨rfl, rfl⟩
 | true =>
  unfold Pe.alwB
  have b8 := bit_and er 8 (by decide)
  by_cases h0 : k < 0
  ·refine .inr (.inl ⟨rfl, by omega, ?_⟩)
   rw [show Pe.kindN k = 0 from by unfold Pe.kindN; rw [if_neg (by omega), if_neg (by omega), if_neg (by omega)]]
   simp [Pe.bitB]
  ·by_cases h3 : k < 3
   ·refine .inr (.inr (.inr ⟨rfl, (Pe.kindN k : Nat), ?_, ?_⟩))
    ·rcases (show k = 0 ∨ k = 1 ∨ k = 2 by omega) with rfl | rfl | rfl
     ·exact .inl ⟨rfl, rfl⟩
     ·exact .inr (.inl ⟨rfl, rfl⟩)
     ·exact .inr (.inr ⟨rfl, rfl⟩)
    ·have bk := bit_and er (Pe.kindN k) (Pe.kind_lt k)
     have e : (bits .and .i64 er (Pe.kindN k : Nat) != 0) = Pe.bitB er (Pe.kindN k) := by
      show (!(bits .and .i64 er (Pe.kindN k : Nat) == 0)) = _
      rw [bk, Bool.not_not]
     rw [e]
     have e8 : (bits .and .i64 er 8 == 0) = !Pe.bitB er 8 := b8
     rw [e8]
     cases Pe.bitB er (Pe.kindN k) <;> cases us <;> cases Pe.bitB er 8 <;> simp
   ·refine .inr (.inr (.inl ⟨rfl, by omega, h3, ?_⟩))
    rw [show Pe.kindN k = 0 from by unfold Pe.kindN; rw [if_neg (by omega), if_neg (by omega), if_neg (by omega)]]
    simp [Pe.bitB]
/-- what it answers -/
def fstH (t : Bool) (ep ef z : Int) : Int × Int × Int := if t = true then (ep, ef, z % 64) else (0, 0, 0)
theorem fast20_any (on us ok : Bool) (rt z k ep ef er : Int) (t : Bool) (ht : Pe.alwB ok er k us = t) (h0 : 0 ≤ z) (h1 : z < 4294967296) (w : World) (hn : HasN w) : Calls Tryz.prog 73 #[accV on rt us z k, .agg #[.int .i64 ep, .int .i64 ef, .int .i64 er], .bool ok] w fun e w' => e = .returned (.tuple #[hitX (fstH t ep ef z) t, .bool t]) ∧ Below w.heap.size w w' := by
 obtain ⟨U, hU⟩ : ∃ U, U = ((w.alloc (.cells #[.bool on, .int .i64 rt, .bool us, .int .u32 z, .int .i64 k] 105)).alloc (.cells #[.int .i64 ep, .int .i64 ef, .int .i64 er] 50)).alloc (.cells #[.int .i64 0, .int .i64 0, .int .i64 0, .bool false] 36) := ⟨_, rfl⟩
 have hA := (Below.refl w.heap.size w).alloc (Nat.le_refl _) (.cells #[.bool on, .int .i64 rt, .bool us, .int .u32 z, .int .i64 k] 105)
 have hE := hA.alloc (by simp) (.cells #[.int .i64 ep, .int .i64 ef, .int .i64 er] 50)
 have hB : Below w.heap.size w U := by rw [hU]; exact hE.alloc (by simp; omega) _
 have bA : Blk U w.heap.size 105 [.bool on, .int .i64 rt, .bool us, .int .u32 z, .int .i64 k] := by rw [hU]; exact ((Blk.new w _ [.bool on, .int .i64 rt, .bool us, .int .u32 z, .int .i64 k]).more ((Below.refl _ _).alloc (Nat.le_refl _) _)).more ((Below.refl _ _).alloc (Nat.le_refl _) _)
 have bE : Blk U (w.heap.size + 1) 50 [.int .i64 ep, .int .i64 ef, .int .i64 er] := by
  have := (Blk.new (w.alloc (.cells #[.bool on, .int .i64 rt, .bool us, .int .u32 z, .int .i64 k] 105)) 50 [.int .i64 ep, .int .i64 ef, .int .i64 er]).more ((Below.refl _ _).alloc (Nat.le_refl _) (.cells #[.int .i64 0, .int .i64 0, .int .i64 0, .bool false] 36))
  rw [World.size_alloc] at this
  rw [hU]
  exact this
 have bH : Blk U (w.heap.size + 2) 36 [.int .i64 0, .int .i64 0, .int .i64 0, .bool false] := by
  have := Blk.new ((w.alloc (.cells #[.bool on, .int .i64 rt, .bool us, .int .u32 z, .int .i64 k] 105)).alloc (.cells #[.int .i64 ep, .int .i64 ef, .int .i64 er] 50)) 36 [.int .i64 0, .int .i64 0, .int .i64 0, .bool false]
  rw [World.size_alloc, World.size_alloc] at this
  rw [hU]
  exact this
 obtain ⟨n0, n1, n2⟩ := (hn.below hB hn.lt).at
 have nl := (hn.below hB hn.lt).lt
 have a1 := bA.cell (j := 2) rfl
 have a2 := bA.cell (j := 3) rfl
 have a3 := bA.cell (j := 4) rfl
 have al := bA.lt
 have q0 := bE.cell (j := 0) rfl
 have q1 := bE.cell (j := 1) rfl
 have q2 := bE.cell (j := 2) rfl
 have el := bE.lt
 have r0 := bH.cell (j := 0) rfl
 have r1 := bH.cell (j := 1) rfl
 have r2 := bH.cell (j := 2) rfl
 have r3 := bH.cell (j := 3) rfl
 have f0 := bH.frozen 0
 have f1 := bH.frozen 1
 have f2 := bH.frozen 2
 have f3 := bH.frozen 3
 have rl := bH.lt
 have HU := Lib.hid hU
 have HB := Lib.hid hB
 have HSet : Hid (∀ (X : World) (j : Nat) (v : Value), Below w.heap.size w X → Below w.heap.size w (X.setCell ⟨w.heap.size + 2, j, none⟩ v)) := Lib.hid fun X j v h => h.setCell (p := ⟨w.heap.size + 2, j, none⟩) (by simp) _
 have HD : Hid (∀ (X : World) (n : Nat), Below w.heap.size w X → Below w.heap.size w (X.drewN n)) := Lib.hid fun X n h => Sw.drewN_below h n
 have hc := alw_cases ok er k us
 rw [ht] at hc
 clear ht hU hA hE hB bA bE bH hn
 have hk : ∀ c : Int, (k = 0 ∧ c = 4 ∨ k = 1 ∧ c = 1 ∨ k = 2 ∧ c = 2) → ∃ j : Nat, k = j ∧ (j : Int) < 3 ∧ (0 : Int) ≤ j ∧ U.cell? ⟨0, j, none⟩ = some (.int .i64 c) := fun c h => by
  rcases h with ⟨rfl, rfl⟩ | ⟨rfl, rfl⟩ | ⟨rfl, rfl⟩
  ·exact ⟨0, rfl, by decide, by decide, n0⟩
  ·exact ⟨1, rfl, by decide, by decide, n1⟩
  ·exact ⟨2, rfl, by decide, by decide, n2⟩
 have hc : (ok = false ∧ t = false) ∨ (ok = true ∧ (¬ 0 ≤ k) ∧ decide (0 ≤ k) = false ∧ t = false) ∨ (ok = true ∧ 0 ≤ k ∧ decide (0 ≤ k) = true ∧ ¬ k < 3 ∧ decide (k < 3) = false ∧ t = false) ∨ (ok = true ∧ ∃ (c : Int) (j : Nat), k = j ∧ (j : Int) < 3 ∧ (0 : Int) ≤ j ∧ U.cell? ⟨0, j, none⟩ = some (.int .i64 c) ∧ (((bits .and .i64 er c != 0) = false ∧ t = false) ∨ ((bits .and .i64 er c != 0) = true ∧ us = false ∧ t = true) ∨ ((bits .and .i64 er c != 0) = true ∧ us = true ∧ (bits .and .i64 er 8 == 0) = true ∧ t = false) ∨ ((bits .and .i64 er c != 0) = true ∧ us = true ∧ (bits .and .i64 er 8 == 0) = false ∧ t = true))) := by
  rcases hc with h | ⟨h1, h2, h3⟩ | ⟨h1, h2, h3, h4⟩ | ⟨h1, c, h2, h3⟩
  ·exact .inl h
  ·exact .inr (.inl ⟨h1, h2, decide_eq_false h2, h3⟩)
  ·exact .inr (.inr (.inl ⟨h1, h2, decide_eq_true h2, h3, decide_eq_false h3, h4⟩))
  ·obtain ⟨j, q1, q2, q3, q4⟩ := hk c h2
   exact .inr (.inr (.inr ⟨h1, c, j, q1, q2, q3, q4, h3⟩))
 clear hk n0 n1 n2
 rcases hc with ⟨rfl, rfl⟩ | ⟨rfl, k0, d0, rfl⟩ | ⟨rfl, k0, d0, k3, d3, rfl⟩ | ⟨rfl, c, j, rfl, k3, k0, n0, (⟨hb, rfl⟩ | ⟨hb, rfl, rfl⟩ | ⟨hb, rfl, h8, rfl⟩ | ⟨hb, rfl, h8, rfl⟩)⟩
 all_goals
  unfold fstH
  simp only [if_true, Bool.false_eq_true, if_false]
  go_enter Tryz.func73, Tryz.ntmps73
  go_upto_region 1 with fail
  rw [← HU.out]
  clear HU
  apply wp_region_auto [9, 10, 11, 12, 13, 14, 15, 16, 17, 18, 19, 20, 21, 22, 23, 24, 25, 26, 27, 28, 29] [_, _, _, _, _, _, _, _, _, _, _, _, _, _, _, _, _, _, _, _, _] (fun W' => Below U.heap.size U W')
  case hm => kernel_rfl
  case hT => intro y; simp only [setAll, List.setIfInBounds_toArray, List.set_cons_succ, List.set_cons_zero]; exact rfl
  case hok => kernel_rfl
  case hn => decide
  case hw => exact (Below.refl _ _).drew
  case hs =>
   refine auto_op 9 [] (by kernel_rfl) (fun y w' HW hd K hK => ?_) ?_
   ·go_simp
    refine hK _ _ ?_ ?_ HW
    ·simp [upd]
    ·exact rfl
   refine auto_op 10 [0] (by kernel_rfl) (fun y w' HW hd K hK => ?_) ?_
   ·have e0 := hd_nth (hd 0 (by simp)) rfl
    go_simp
    refine hK _ _ ?_ ?_ HW
    ·simp [upd, e0]
    ·exact rfl
   refine auto_op 11 [1] (by kernel_rfl) (fun y w' HW hd K hK => ?_) ?_
   ·have e1 := hd_nth (hd 1 (by simp)) rfl
    go_simp
    refine hK _ _ ?_ ?_ HW
    ·simp [upd, e1]
    ·exact rfl
   refine auto_op 12 [2, 1] (by kernel_rfl) (fun y w' HW hd K hK => ?_) ?_
   ·have e1 := hd_nth (hd 1 (by simp)) rfl
    have e2 := hd_nth (hd 2 (by simp)) rfl
    have hcl : ∀ p : Addr, p.block < U.heap.size → w'.cell? p = U.cell? p := fun p hp => HW.cell hp
    go_simp
    refine hK _ _ ?_ ?_ HW
    ·simp [upd, e1, e2]
    ·exact rfl
   refine auto_op 13 [3, 1] (by kernel_rfl) (fun y w' HW hd K hK => ?_) ?_
   ·have e1 := hd_nth (hd 1 (by simp)) rfl
    have e3 := hd_nth (hd 3 (by simp)) rfl
    go_simp
    refine hK _ _ ?_ ?_ HW
    ·simp [upd, e1, e3]
    ·exact rfl
   refine auto_op 14 [1, 4] (by kernel_rfl) (fun y w' HW hd K hK => ?_) ?_
   ·have e1 := hd_nth (hd 1 (by simp)) rfl
    have e4 := hd_nth (hd 4 (by simp)) rfl
    go_simp
    refine hK _ _ ?_ ?_ HW
    ·simp [upd, e1, e4]
    ·exact rfl
   refine auto_op 15 [5, 1] (by kernel_rfl) (fun y w' HW hd K hK => ?_) ?_
   ·have e1 := hd_nth (hd 1 (by simp)) rfl
    have e5 := hd_nth (hd 5 (by simp)) rfl
    go_simp
    refine hK _ _ ?_ ?_ HW
    ·simp [upd, e1, e5]
    ·exact rfl
   refine auto_op 16 [6] (by kernel_rfl) (fun y w' HW hd K hK => ?_) ?_
   ·have e6 := hd_nth (hd 6 (by simp)) rfl
    go_simp
    refine hK _ _ ?_ ?_ HW
    ·simp [upd, e6]
    ·exact rfl
   refine auto_op 17 [7, 6] (by kernel_rfl) (fun y w' HW hd K hK => ?_) ?_
   ·have e6 := hd_nth (hd 6 (by simp)) rfl
    have e7 := hd_nth (hd 7 (by simp)) rfl
    have hcl : ∀ p : Addr, p.block < U.heap.size → w'.cell? p = U.cell? p := fun p hp => HW.cell hp
    go_simp
    refine hK _ _ ?_ ?_ HW
    ·simp [upd, e6, e7]
    ·exact rfl
   refine auto_op 18 [8, 6] (by kernel_rfl) (fun y w' HW hd K hK => ?_) ?_
   ·have e6 := hd_nth (hd 6 (by simp)) rfl
    have e8 := hd_nth (hd 8 (by simp)) rfl
    go_simp
    refine hK _ _ ?_ ?_ HW
    ·simp [upd, e6, e8]
    ·exact rfl
   refine auto_op 19 [6, 9] (by kernel_rfl) (fun y w' HW hd K hK => ?_) ?_
   ·have e6 := hd_nth (hd 6 (by simp)) rfl
    have e9 := hd_nth (hd 9 (by simp)) rfl
    go_simp
    refine hK _ _ ?_ ?_ HW
    ·simp [upd, e6, e9]
    ·exact rfl
   refine auto_op 20 [10, 6] (by kernel_rfl) (fun y w' HW hd K hK => ?_) ?_
   ·have e6 := hd_nth (hd 6 (by simp)) rfl
    have e10 := hd_nth (hd 10 (by simp)) rfl
    go_simp
    refine hK _ _ ?_ ?_ HW
    ·simp [upd, e6, e10]
    ·exact rfl
   refine auto_op 21 [11] (by kernel_rfl) (fun y w' HW hd K hK => ?_) ?_
   ·have e11 := hd_nth (hd 11 (by simp)) rfl
    go_simp
    refine hK _ _ ?_ ?_ HW
    ·simp [upd, e11]
    ·exact rfl
   refine auto_op 22 [12, 11] (by kernel_rfl) (fun y w' HW hd K hK => ?_) ?_
   ·have e11 := hd_nth (hd 11 (by simp)) rfl
    have e12 := hd_nth (hd 12 (by simp)) rfl
    have hcl : ∀ p : Addr, p.block < U.heap.size → w'.cell? p = U.cell? p := fun p hp => HW.cell hp
    go_simp
    refine hK _ _ ?_ ?_ HW
    ·simp [upd, e11, e12]
    ·exact rfl
   refine auto_op 23 [11] (by kernel_rfl) (fun y w' HW hd K hK => ?_) ?_
   ·have e11 := hd_nth (hd 11 (by simp)) rfl
    go_simp
    refine hK _ _ ?_ ?_ HW
    ·simp [upd, e11]
    ·exact rfl
   refine auto_op 24 [14, 11] (by kernel_rfl) (fun y w' HW hd K hK => ?_) ?_
   ·have e11 := hd_nth (hd 11 (by simp)) rfl
    have e14 := hd_nth (hd 14 (by simp)) rfl
    have hcl : ∀ p : Addr, p.block < U.heap.size → w'.cell? p = U.cell? p := fun p hp => HW.cell hp
    go_simp
    refine hK _ _ ?_ ?_ HW
    ·simp [upd, e11, e14]
    ·exact rfl
   refine auto_op 25 [15, 11] (by kernel_rfl) (fun y w' HW hd K hK => ?_) ?_
   ·have e11 := hd_nth (hd 11 (by simp)) rfl
    have e15 := hd_nth (hd 15 (by simp)) rfl
    go_simp
    refine hK _ _ ?_ ?_ HW
    ·simp [upd, e11, e15]
    ·exact rfl
   refine auto_op 26 [16, 11] (by kernel_rfl) (fun y w' HW hd K hK => ?_) ?_
   ·have e11 := hd_nth (hd 11 (by simp)) rfl
    have e16 := hd_nth (hd 16 (by simp)) rfl
    have hcl : ∀ p : Addr, p.block < U.heap.size → w'.cell? p = U.cell? p := fun p hp => HW.cell hp
    go_simp
    refine hK _ _ ?_ ?_ HW
    ·simp [upd, e11, e16]
    ·exact rfl
   refine auto_op 27 [13, 17, 11] (by kernel_rfl) (fun y w' HW hd K hK => ?_) ?_
   ·have e11 := hd_nth (hd 11 (by simp)) rfl
    have e13 := hd_nth (hd 13 (by simp)) rfl
    have e17 := hd_nth (hd 17 (by simp)) rfl
    go_simp
    refine hK _ _ ?_ ?_ HW
    ·simp [upd, e11, e13, e17]
    ·exact rfl
   refine auto_op 28 [18, 11] (by kernel_rfl) (fun y w' HW hd K hK => ?_) ?_
   ·have e11 := hd_nth (hd 11 (by simp)) rfl
    have e18 := hd_nth (hd 18 (by simp)) rfl
    go_simp
    refine hK _ _ ?_ ?_ HW
    ·simp [upd, e11, e18]
    ·exact rfl
   refine auto_op 29 [11, 19] (by kernel_rfl) (fun y w' HW hd K hK => ?_) ?_
   ·have e11 := hd_nth (hd 11 (by simp)) rfl
    have e19 := hd_nth (hd 19 (by simp)) rfl
    go_simp
    refine hK _ _ ?_ ?_ HW
    ·simp [upd, e11, e19]
    ·exact rfl
   refine auto_last fun y w' HW hd K hK => ?_
   have e0 := hd_nth (hd 0 (by omega)) rfl
   have e1 := hd_nth (hd 1 (by omega)) rfl
   have e2 := hd_nth (hd 2 (by omega)) rfl
   have e3 := hd_nth (hd 3 (by omega)) rfl
   have e4 := hd_nth (hd 4 (by omega)) rfl
   have e5 := hd_nth (hd 5 (by omega)) rfl
   have e6 := hd_nth (hd 6 (by omega)) rfl
   have e7 := hd_nth (hd 7 (by omega)) rfl
   have e8 := hd_nth (hd 8 (by omega)) rfl
   have e9 := hd_nth (hd 9 (by omega)) rfl
   have e10 := hd_nth (hd 10 (by omega)) rfl
   have e11 := hd_nth (hd 11 (by omega)) rfl
   have e12 := hd_nth (hd 12 (by omega)) rfl
   have e13 := hd_nth (hd 13 (by omega)) rfl
   have e14 := hd_nth (hd 14 (by omega)) rfl
   have e15 := hd_nth (hd 15 (by omega)) rfl
   have e16 := hd_nth (hd 16 (by omega)) rfl
   have e17 := hd_nth (hd 17 (by omega)) rfl
   have e18 := hd_nth (hd 18 (by omega)) rfl
   have e19 := hd_nth (hd 19 (by omega)) rfl
   have e20 := hd_nth (hd 20 (by omega)) rfl
   go_simp
   refine hK _ _ ?_
   clear hd hK K e0 e1 e2 e3 e4 e5 e6 e7 e8 e9 e10 e11 e12 e13 e14 e15 e16 e17 e18 e19 e20
   have HB9 := Lib.hid (HB.out.trans (HW.mono HB.out.size))
   have r0 := (HW.cell (p := ⟨w.heap.size + 2, 0, none⟩) rl).trans r0
   have r1 := (HW.cell (p := ⟨w.heap.size + 2, 1, none⟩) rl).trans r1
   have r2 := (HW.cell (p := ⟨w.heap.size + 2, 2, none⟩) rl).trans r2
   have r3 := (HW.cell (p := ⟨w.heap.size + 2, 3, none⟩) rl).trans r3
   have f0 := (HW.frozen (p := ⟨w.heap.size + 2, 0, none⟩) rl).trans f0
   have f1 := (HW.frozen (p := ⟨w.heap.size + 2, 1, none⟩) rl).trans f1
   have f2 := (HW.frozen (p := ⟨w.heap.size + 2, 2, none⟩) rl).trans f2
   have f3 := (HW.frozen (p := ⟨w.heap.size + 2, 3, none⟩) rl).trans f3
   have a1 := (HW.cell (p := ⟨w.heap.size, 2, none⟩) al).trans a1
   have a2 := (HW.cell (p := ⟨w.heap.size, 3, none⟩) al).trans a2
   have q0 := (HW.cell (p := ⟨w.heap.size + 1, 0, none⟩) el).trans q0
   have q1 := (HW.cell (p := ⟨w.heap.size + 1, 1, none⟩) el).trans q1
   have q2 := (HW.cell (p := ⟨w.heap.size + 1, 2, none⟩) el).trans q2
   have rl := Nat.lt_of_lt_of_le rl HW.size
   have al := Nat.lt_of_lt_of_le al HW.size
   have el := Nat.lt_of_lt_of_le el HW.size
   clear HW
   go_wp2
   exact bodyPost_ret (v := .tuple #[hitX _ _, .bool _]) (by simp [results, Tryz.results73, go_sem, r0, r1, r2, r3]) rfl ⟨rfl, by (repeat (first | refine HSet.out _ _ _ ?_)); exact HB9.out⟩
end Go.Proofs.YteaincdeoajkeaaGreatDoor.Mm
end
