/- Several texts in one: Re Is It Zd -/
import Derived.Test.YteaincdeoajkeaaGreatDoorZ04
import Derived.Test.YteaincdeoajkeaaGreatDoorZ20
import Derived.Deep.DeepCutAuto
import Derived.Test.YteaincdeoajkeaaGreatDoorZ16
import Derived.WalkMore
section
/- Drawn regions whose invariant looks at which operations are done, and whose operations are told that what they lean on is done; a store among them. Serves all packages. -/
namespace Go.Proofs.YteaincdeoajkeaaGreatDoor.Ut
open Go.RowKit
set_option linter.unusedVariables false

section
variable {P : Program} {ops : Array Oper} {Q : Exit → Act → World → Prop} {T : (Nat → Value) → Array Value} {d : List Deferred} {WI : (Nat → Bool) → World → Prop} {vals : List Value}
theorem autoC_op {k : Nat} {o o' : Oper} {l : List Oper} (s : Nat) (ds : List Nat) (hd : depsOf o = ds)
    (h : ∀ (L : Nat → Bool) (x : Nat → Value) (w : World), L k = false → Closed ops L → WI L w → (∀ j ∈ ds, RV vals j (x j) w) → ∀ K : Act → World → Prop, (∀ tm w', tm = T (upd x k (tm.getD s undef)) → tm.getD s undef = nth vals k → WI (fun j => if j = k then true else L j) w' → K { tmps := tm, defers := d } w') →
      if Region.wanted o (yielded ops (T x)) = true then Oper.wp P o { tmps := T x, defers := d } w K Q else K (Act.put { tmps := T x, defers := d } o.dst undef) w)
    (hs : AutoLFrom P ops Q T d vals WI (k + 1) (o' :: l)) : AutoLFrom P ops Q T d vals WI k (o :: o' :: l) := by
  refine steps_op ds hd (fun L x w hL hC hw hR K hK => h L x w hL hC hw hR K fun tm w' ht hv hw' => ?_) hs
  exact hK _ w' tm ht hv hw' trivial
/-- what leans on number i is not done, as long as i isn't -/
theorem Closed.not {L : Nat → Bool} (h : Closed ops L) (k i : Nat) (hd : ((ops[k]?).map fun o => (depsOf o).contains i).getD false = true) (hL : L i = false) : L k = false := by
  cases hk : L k with
  | false => rfl
  | true =>
    cases ho : ops[k]? with
    | none => rw [ho] at hd; cases hd
    | some o =>
      rw [ho] at hd
      have := h k o ho hk i (by simpa using hd)
      rw [hL] at this
      cases this
theorem wi_next {α : Sort _} (f : (Nat → Bool) → α) (L : Nat → Bool) (k : Nat) (h : L k = true) : f (fun j => if j = k then true else L j) = f L := by
  congr 1
  funext j
  by_cases e : j = k
  · rw [if_pos e, e, h]
  · rw [if_neg e]
end
end Go.Proofs.YteaincdeoajkeaaGreatDoor.Ut
end
section
/- hermitagelaw20: do: an act on both sides. -/
namespace Go.Proofs.YteaincdeoajkeaaGreatDoor.Mm
open Go.RowKit Go.Shelf Ut Oc Vw Wa
set_option maxRecDepth 100000
set_option linter.unusedVariables false
set_option maxHeartbeats 8000000

section
variable {PM : PMt} (C : MmuC PM) {V w0 : World} {X : List Nat} {J : BK} {S : List Int} {LM : List Gm.Pl}
include C
theorem do_save20 (rt va wd kn x : Int) (on us : Bool) (z0 : 0 ≤ va) (z1 : va < 4294967296) (x0 : 0 ≤ x) (x1 : x < 4294967296) (w : World) (h : MZ PM V X w0 w J S LM S LM) :
    Calls Tryz.prog 8 #[.pointer (some ⟨J.u, 0, none⟩), .pointer (some ⟨J.b, 0, none⟩), .pointer (some ⟨J.g, 0, none⟩), .agg #[.int .i64 0, .bool on, .int .i64 rt, .bool us, .int .u32 va, .int .i64 wd, .int .i64 kn, .int .u32 x]] w fun e w' => e = .returned (.bool true) ∧ Hid (MZ PM V X w0 w' J (ss20 12 S LM on rt us va wd x) LM (ss20 12 S LM on rt us va wd x) LM) := by
  obtain ⟨U, hU⟩ : ∃ U, U = w.alloc (.cells #[.int .i64 0, .bool on, .int .i64 rt, .bool us, .int .u32 va, .int .i64 wd, .int .i64 kn, .int .u32 x] 33) := ⟨_, rfl⟩
  have hB : Below w.heap.size w U := by rw [hU]; exact (Below.refl _ _).alloc (Nat.le_refl _) _
  have hA : Blk U w.heap.size 33 [.int .i64 0, .bool on, .int .i64 rt, .bool us, .int .u32 va, .int .i64 wd, .int .i64 kn, .int .u32 x] := by rw [hU]; exact Blk.new w _ _
  have HE := Lib.hid (h.enter C hB [w.heap.size] (fun y hy => by simp at hy; subst hy; exact ⟨Nat.le_refl _, hA.lt⟩))
  have HV : Hid (∀ (w' : World) (S1 : List Int) (L1 : List Gm.Pl), MZ PM U ([w.heap.size] ++ X) w0 w' J S1 L1 S1 L1 → MZ PM V X w0 w' J S1 L1 S1 L1) := Lib.hid fun w' S1 L1 h' => h.leave hB h'
  have HC := Lib.hid C
  have HU := Lib.hid hU
  have HA := Lib.hid hA
  clear hU hB hA h C
  go_enter Tryz.func8, Tryz.ntmps8
  go_upto_region 1 with fail
  rw [← HU.out]
  clear HU
  generalize w.heap.size = ab at HE HV HA ⊢
  have a0 := HA.out.cell (j := 0) rfl
  have a4 := HA.out.cell (j := 4) rfl
  have al := HA.out.lt
  obtain ⟨S2, hS2⟩ : ∃ S2, ss20 12 S LM on rt us va wd x = S2 := ⟨_, rfl⟩
  obtain ⟨c, hc⟩ : ∃ c, sc20 12 S LM on rt us va wd = c := ⟨_, rfl⟩
  have HSP : Hid (∀ (Sd : List Int) (W : World), MZ PM U ([ab] ++ X) w0 W J S LM Sd LM → Calls Tryz.prog 18 #[.pointer (some ⟨J.u, 0, none⟩), .agg #[.bool on, .int .i64 rt, .bool us], .int .u32 va, .int .i64 wd, .int .u32 x] W fun e w' => e = .returned (.int .i64 c) ∧ Hid (MZ PM U ([ab] ++ X) w0 w' J S2 LM Sd LM)) := Lib.hid fun Sd W hW => by
    have := mzSave HC.out hW on us rt va wd x z0 z1 x0 x1
    rw [hS2, hc] at this
    exact this
  have HSD : Hid (∀ (Sp : List Int) (W : World), MZ PM U ([ab] ++ X) w0 W J Sp LM S LM → Calls Tryz.prog 19 #[.pointer (some ⟨J.g, 0, none⟩), .agg #[.bool on, .int .i64 rt, .bool us], .int .u32 va, .int .i64 wd, .int .u32 x] W fun e w' => e = .returned (.int .i64 c) ∧ Hid (MZ PM U ([ab] ++ X) w0 w' J Sp LM S2 LM)) := Lib.hid fun Sp W hW => by
    have := dSave HC.out hW on us rt va wd x z0 z1 x0 x1
    rw [hS2, hc] at this
    exact this
  have HS2 := Lib.hid hS2
  clear hS2 hc
  go_upto_region 4 with fail
  clear a0 a4 al
  apply wp_region_autoL [20, 21, 22, 23, 24, 25, 26, 27, 28, 29, 30, 31, 32, 33, 34, 35, 36, 37, 38, 39, 40] [_, _, _, _, _, _, _, _, _, _, _, _, _, _, _, _, _, _, _, _, _] (fun L_ W' => MZ PM U ([ab] ++ X) w0 W' J (cond (L_ 9) S2 S) LM (cond (L_ 19) S2 S) LM)
  case hm => kernel_rfl
  case hT => intro y; simp only [setAll, List.setIfInBounds_toArray, List.set_cons_succ, List.set_cons_zero]; exact rfl
  case hok => kernel_rfl
  case hn => decide
  case hw => exact (fun L_ h0 => by simp only [h0 9 (by decide), h0 19 (by decide)]; exact HE.out.more HC.out ((Below.refl _ _).drew))
  case hs =>
    refine autoC_op 20 [] (by kernel_rfl) (fun L y w' hL hC HW hd K hK => ?_) ?_
    · go_simp
      refine hK _ _ ?_ ?_ HW
      · simp [upd]
      · exact rfl
    refine autoC_op 21 [] (by kernel_rfl) (fun L y w' hL hC HW hd K hK => ?_) ?_
    · go_simp
      refine hK _ _ ?_ ?_ HW
      · simp [upd]
      · exact rfl
    refine autoC_op 22 [1] (by kernel_rfl) (fun L y w' hL hC HW hd K hK => ?_) ?_
    · have e1 := hd_nth (hd 1 (by simp)) rfl
      have xb := HW.blk (x := ab) (by simp) HA.out
      have xl := xb.lt
      have a1 := xb.cell (j := 1) rfl
      have a2 := xb.cell (j := 2) rfl
      have a3 := xb.cell (j := 3) rfl
      go_simp
      refine hK _ _ ?_ ?_ HW
      · simp [upd, e1]
      · exact rfl
    refine autoC_op 23 [] (by kernel_rfl) (fun L y w' hL hC HW hd K hK => ?_) ?_
    · go_simp
      refine hK _ _ ?_ ?_ HW
      · simp [upd]
      · exact rfl
    refine autoC_op 24 [3] (by kernel_rfl) (fun L y w' hL hC HW hd K hK => ?_) ?_
    · have e3 := hd_nth (hd 3 (by simp)) rfl
      have xb := HW.blk (x := ab) (by simp) HA.out
      have xl := xb.lt
      have a4 := xb.cell (j := 4) rfl
      go_simp
      refine hK _ _ ?_ ?_ HW
      · simp [upd, e3]
      · exact rfl
    refine autoC_op 25 [] (by kernel_rfl) (fun L y w' hL hC HW hd K hK => ?_) ?_
    · go_simp
      refine hK _ _ ?_ ?_ HW
      · simp [upd]
      · exact rfl
    refine autoC_op 26 [5] (by kernel_rfl) (fun L y w' hL hC HW hd K hK => ?_) ?_
    · have e5 := hd_nth (hd 5 (by simp)) rfl
      have xb := HW.blk (x := ab) (by simp) HA.out
      have xl := xb.lt
      have a5 := xb.cell (j := 5) rfl
      go_simp
      refine hK _ _ ?_ ?_ HW
      · simp [upd, e5]
      · exact rfl
    refine autoC_op 27 [] (by kernel_rfl) (fun L y w' hL hC HW hd K hK => ?_) ?_
    · go_simp
      refine hK _ _ ?_ ?_ HW
      · simp [upd]
      · exact rfl
    refine autoC_op 28 [7] (by kernel_rfl) (fun L y w' hL hC HW hd K hK => ?_) ?_
    · have e7 := hd_nth (hd 7 (by simp)) rfl
      have xb := HW.blk (x := ab) (by simp) HA.out
      have xl := xb.lt
      have a7 := xb.cell (j := 7) rfl
      go_simp
      refine hK _ _ ?_ ?_ HW
      · simp [upd, e7]
      · exact rfl
    refine autoC_op 29 [0, 2, 4, 6, 8] (by kernel_rfl) (fun L y w' hL hC HW hd K hK => ?_) ?_
    · have e0 := hd_nth (hd 0 (by simp)) rfl
      have e2 := hd_nth (hd 2 (by simp)) rfl
      have e4 := hd_nth (hd 4 (by simp)) rfl
      have e6 := hd_nth (hd 6 (by simp)) rfl
      have e8 := hd_nth (hd 8 (by simp)) rfl
      go_simp
      have HW0 : MZ PM U ([ab] ++ X) w0 w' J S LM (cond (L 19) S2 S) LM := by have h := HW; simp only [hL] at h; exact h
      refine (HSP.out _ _ HW0).mono ?_
      rintro e w3 ⟨rfl, hz3⟩
      refine hK _ _ ?_ ?_ hz3.out
      · simp [upd, e0, e2, e4, e6, e8]
      · exact rfl
    refine autoC_op 30 [] (by kernel_rfl) (fun L y w' hL hC HW hd K hK => ?_) ?_
    · go_simp
      refine hK _ _ ?_ ?_ HW
      · simp [upd]
      · exact rfl
    refine autoC_op 31 [] (by kernel_rfl) (fun L y w' hL hC HW hd K hK => ?_) ?_
    · go_simp
      refine hK _ _ ?_ ?_ HW
      · simp [upd]
      · exact rfl
    refine autoC_op 32 [11] (by kernel_rfl) (fun L y w' hL hC HW hd K hK => ?_) ?_
    · have e11 := hd_nth (hd 11 (by simp)) rfl
      have xb := HW.blk (x := ab) (by simp) HA.out
      have xl := xb.lt
      have a1 := xb.cell (j := 1) rfl
      have a2 := xb.cell (j := 2) rfl
      have a3 := xb.cell (j := 3) rfl
      go_simp
      refine hK _ _ ?_ ?_ HW
      · simp [upd, e11]
      · exact rfl
    refine autoC_op 33 [] (by kernel_rfl) (fun L y w' hL hC HW hd K hK => ?_) ?_
    · go_simp
      refine hK _ _ ?_ ?_ HW
      · simp [upd]
      · exact rfl
    refine autoC_op 34 [13] (by kernel_rfl) (fun L y w' hL hC HW hd K hK => ?_) ?_
    · have e13 := hd_nth (hd 13 (by simp)) rfl
      have xb := HW.blk (x := ab) (by simp) HA.out
      have xl := xb.lt
      have a4 := xb.cell (j := 4) rfl
      go_simp
      refine hK _ _ ?_ ?_ HW
      · simp [upd, e13]
      · exact rfl
    refine autoC_op 35 [] (by kernel_rfl) (fun L y w' hL hC HW hd K hK => ?_) ?_
    · go_simp
      refine hK _ _ ?_ ?_ HW
      · simp [upd]
      · exact rfl
    refine autoC_op 36 [15] (by kernel_rfl) (fun L y w' hL hC HW hd K hK => ?_) ?_
    · have e15 := hd_nth (hd 15 (by simp)) rfl
      have xb := HW.blk (x := ab) (by simp) HA.out
      have xl := xb.lt
      have a5 := xb.cell (j := 5) rfl
      go_simp
      refine hK _ _ ?_ ?_ HW
      · simp [upd, e15]
      · exact rfl
    refine autoC_op 37 [] (by kernel_rfl) (fun L y w' hL hC HW hd K hK => ?_) ?_
    · go_simp
      refine hK _ _ ?_ ?_ HW
      · simp [upd]
      · exact rfl
    refine autoC_op 38 [17] (by kernel_rfl) (fun L y w' hL hC HW hd K hK => ?_) ?_
    · have e17 := hd_nth (hd 17 (by simp)) rfl
      have xb := HW.blk (x := ab) (by simp) HA.out
      have xl := xb.lt
      have a7 := xb.cell (j := 7) rfl
      go_simp
      refine hK _ _ ?_ ?_ HW
      · simp [upd, e17]
      · exact rfl
    refine autoC_op 39 [10, 12, 14, 16, 18, 9] (by kernel_rfl) (fun L y w' hL hC HW hd K hK => ?_) ?_
    · have e9 := hd_nth (hd 9 (by simp)) rfl
      have e10 := hd_nth (hd 10 (by simp)) rfl
      have e12 := hd_nth (hd 12 (by simp)) rfl
      have e14 := hd_nth (hd 14 (by simp)) rfl
      have e16 := hd_nth (hd 16 (by simp)) rfl
      have e18 := hd_nth (hd 18 (by simp)) rfl
      go_simp
      have HW0 : MZ PM U ([ab] ++ X) w0 w' J (cond (L 9) S2 S) LM S LM := by have h := HW; simp only [hL] at h; exact h
      refine (HSD.out _ _ HW0).mono ?_
      rintro e w3 ⟨rfl, hz3⟩
      refine hK _ _ ?_ ?_ hz3.out
      · simp [upd, e9, e10, e12, e14, e16, e18]
      · exact rfl
    refine autoC_op 40 [9, 19] (by kernel_rfl) (fun L y w' hL hC HW hd K hK => ?_) ?_
    · have e9 := hd_nth (hd 9 (by simp)) rfl
      have e19 := hd_nth (hd 19 (by simp)) rfl
      go_simp
      refine hK _ _ ?_ ?_ HW
      · simp [upd, e9, e19]
      · exact rfl
    refine autoL_last fun L y w' hLs HW hd K hK => ?_
    have e0 := hd_nth (hd 0 (by omega)) rfl
    have e1 := hd_nth (hd 1 (by omega)) rfl
    have e2 := hd_nth (hd 2 (by omega)) rfl
    have e3 := hd_nth (hd 3 (by omega)) rfl
    have e4 := hd_nth (hd 4 (by omega)) rfl
    have e5 := hd_nth (hd 5 (by omega)) rfl
    have e6 := hd_nth (hd 6 (by omega)) rfl
    have e7 := hd_nth (hd 7 (by omega)) rfl
    have e8 := hd_nth (hd 8 (by omega)) rfl
    have e9 := hd_nth (hd 9 (by omega)) rfl
    have e10 := hd_nth (hd 10 (by omega)) rfl
    have e11 := hd_nth (hd 11 (by omega)) rfl
    have e12 := hd_nth (hd 12 (by omega)) rfl
    have e13 := hd_nth (hd 13 (by omega)) rfl
    have e14 := hd_nth (hd 14 (by omega)) rfl
    have e15 := hd_nth (hd 15 (by omega)) rfl
    have e16 := hd_nth (hd 16 (by omega)) rfl
    have e17 := hd_nth (hd 17 (by omega)) rfl
    have e18 := hd_nth (hd 18 (by omega)) rfl
    have e19 := hd_nth (hd 19 (by omega)) rfl
    have e20 := hd_nth (hd 20 (by omega)) rfl
    have HWF := Lib.hid (show MZ PM U ([ab] ++ X) w0 w' J S2 LM S2 LM by have h := HW; simp only [hLs 9 (by omega), hLs 19 (by omega)] at h; exact h)
    go_simp
    refine hK _ _ ?_
    clear hd hK K hLs HW
    clear HE HSP HSD
    go_wp2
    go_ret
    exact ⟨rfl, Lib.hid (by rw [HS2.out]; exact HV.out _ _ _ HWF.out)⟩
theorem do_vsave20 (rt va wd kn x : Int) (on us : Bool) (z0 : 0 ≤ va) (z1 : va < 4294967296) (x0 : 0 ≤ x) (x1 : x < 4294967296) (w : World) (h : MZ PM V X w0 w J S LM S LM) :
    Calls Tryz.prog 8 #[.pointer (some ⟨J.u, 0, none⟩), .pointer (some ⟨J.b, 0, none⟩), .pointer (some ⟨J.g, 0, none⟩), .agg #[.int .i64 1, .bool on, .int .i64 rt, .bool us, .int .u32 va, .int .i64 wd, .int .i64 kn, .int .u32 x]] w fun e w' => e = .returned (.bool true) ∧ Hid (MZ PM V X w0 w' J (saveS 12 S LM va wd x) LM (saveS 12 S LM va wd x) LM) := by
  obtain ⟨U, hU⟩ : ∃ U, U = w.alloc (.cells #[.int .i64 1, .bool on, .int .i64 rt, .bool us, .int .u32 va, .int .i64 wd, .int .i64 kn, .int .u32 x] 33) := ⟨_, rfl⟩
  have hB : Below w.heap.size w U := by rw [hU]; exact (Below.refl _ _).alloc (Nat.le_refl _) _
  have hA : Blk U w.heap.size 33 [.int .i64 1, .bool on, .int .i64 rt, .bool us, .int .u32 va, .int .i64 wd, .int .i64 kn, .int .u32 x] := by rw [hU]; exact Blk.new w _ _
  have HE := Lib.hid (h.enter C hB [w.heap.size] (fun y hy => by simp at hy; subst hy; exact ⟨Nat.le_refl _, hA.lt⟩))
  have HV : Hid (∀ (w' : World) (S1 : List Int) (L1 : List Gm.Pl), MZ PM U ([w.heap.size] ++ X) w0 w' J S1 L1 S1 L1 → MZ PM V X w0 w' J S1 L1 S1 L1) := Lib.hid fun w' S1 L1 h' => h.leave hB h'
  have HC := Lib.hid C
  have HU := Lib.hid hU
  have HA := Lib.hid hA
  clear hU hB hA h C
  go_enter Tryz.func8, Tryz.ntmps8
  go_upto_region 1 with fail
  rw [← HU.out]
  clear HU
  generalize w.heap.size = ab at HE HV HA ⊢
  have a0 := HA.out.cell (j := 0) rfl
  have a4 := HA.out.cell (j := 4) rfl
  have al := HA.out.lt
  obtain ⟨S2, hS2⟩ : ∃ S2, saveS 12 S LM va wd x = S2 := ⟨_, rfl⟩
  obtain ⟨c, hc⟩ : ∃ c, findF 12 LM va wd 2 = c := ⟨_, rfl⟩
  have HSP : Hid (∀ (Sd : List Int) (W : World), MZ PM U ([ab] ++ X) w0 W J S LM Sd LM → Calls Tryz.prog 32 #[.pointer (some ⟨J.b, 0, none⟩), .int .u32 va, .int .i64 wd, .int .u32 x] W fun e w' => e = .returned (.int .i64 c) ∧ Hid (MZ PM U ([ab] ++ X) w0 w' J S2 LM Sd LM)) := Lib.hid fun Sd W hW => by
    have := mzVSave HC.out hW va wd x z0 z1 x0 x1
    rw [hS2, hc] at this
    exact this
  have HSD : Hid (∀ (Sp : List Int) (W : World), MZ PM U ([ab] ++ X) w0 W J Sp LM S LM → Calls Tryz.prog 33 #[.pointer (some ⟨J.g, 0, none⟩), .int .u32 va, .int .i64 wd, .int .u32 x] W fun e w' => e = .returned (.int .i64 c) ∧ Hid (MZ PM U ([ab] ++ X) w0 w' J Sp LM S2 LM)) := Lib.hid fun Sp W hW => by
    have := dVSave HC.out hW va wd x z0 z1 x0 x1
    rw [hS2, hc] at this
    exact this
  have HS2 := Lib.hid hS2
  clear hS2 hc
  go_upto_region 6 with fail
  clear a0 a4 al
  apply wp_region_autoL [43, 44, 45, 46, 47, 48, 49, 50, 51, 52, 53, 54, 55, 56, 57, 58, 59] [_, _, _, _, _, _, _, _, _, _, _, _, _, _, _, _, _] (fun L_ W' => MZ PM U ([ab] ++ X) w0 W' J (cond (L_ 7) S2 S) LM (cond (L_ 15) S2 S) LM)
  case hm => kernel_rfl
  case hT => intro y; simp only [setAll, List.setIfInBounds_toArray, List.set_cons_succ, List.set_cons_zero]; exact rfl
  case hok => kernel_rfl
  case hn => decide
  case hw => exact (fun L_ h0 => by simp only [h0 7 (by decide), h0 15 (by decide)]; exact HE.out.more HC.out ((Below.refl _ _).drew))
  case hs =>
    refine autoC_op 43 [] (by kernel_rfl) (fun L y w' hL hC HW hd K hK => ?_) ?_
    · go_simp
      refine hK _ _ ?_ ?_ HW
      · simp [upd]
      · exact rfl
    refine autoC_op 44 [] (by kernel_rfl) (fun L y w' hL hC HW hd K hK => ?_) ?_
    · go_simp
      refine hK _ _ ?_ ?_ HW
      · simp [upd]
      · exact rfl
    refine autoC_op 45 [1] (by kernel_rfl) (fun L y w' hL hC HW hd K hK => ?_) ?_
    · have e1 := hd_nth (hd 1 (by simp)) rfl
      have xb := HW.blk (x := ab) (by simp) HA.out
      have xl := xb.lt
      have a4 := xb.cell (j := 4) rfl
      go_simp
      refine hK _ _ ?_ ?_ HW
      · simp [upd, e1]
      · exact rfl
    refine autoC_op 46 [] (by kernel_rfl) (fun L y w' hL hC HW hd K hK => ?_) ?_
    · go_simp
      refine hK _ _ ?_ ?_ HW
      · simp [upd]
      · exact rfl
    refine autoC_op 47 [3] (by kernel_rfl) (fun L y w' hL hC HW hd K hK => ?_) ?_
    · have e3 := hd_nth (hd 3 (by simp)) rfl
      have xb := HW.blk (x := ab) (by simp) HA.out
      have xl := xb.lt
      have a5 := xb.cell (j := 5) rfl
      go_simp
      refine hK _ _ ?_ ?_ HW
      · simp [upd, e3]
      · exact rfl
    refine autoC_op 48 [] (by kernel_rfl) (fun L y w' hL hC HW hd K hK => ?_) ?_
    · go_simp
      refine hK _ _ ?_ ?_ HW
      · simp [upd]
      · exact rfl
    refine autoC_op 49 [5] (by kernel_rfl) (fun L y w' hL hC HW hd K hK => ?_) ?_
    · have e5 := hd_nth (hd 5 (by simp)) rfl
      have xb := HW.blk (x := ab) (by simp) HA.out
      have xl := xb.lt
      have a7 := xb.cell (j := 7) rfl
      go_simp
      refine hK _ _ ?_ ?_ HW
      · simp [upd, e5]
      · exact rfl
    refine autoC_op 50 [0, 2, 4, 6] (by kernel_rfl) (fun L y w' hL hC HW hd K hK => ?_) ?_
    · have e0 := hd_nth (hd 0 (by simp)) rfl
      have e2 := hd_nth (hd 2 (by simp)) rfl
      have e4 := hd_nth (hd 4 (by simp)) rfl
      have e6 := hd_nth (hd 6 (by simp)) rfl
      go_simp
      have HW0 : MZ PM U ([ab] ++ X) w0 w' J S LM (cond (L 15) S2 S) LM := by have h := HW; simp only [hL] at h; exact h
      refine (HSP.out _ _ HW0).mono ?_
      rintro e w3 ⟨rfl, hz3⟩
      refine hK _ _ ?_ ?_ hz3.out
      · simp [upd, e0, e2, e4, e6]
      · exact rfl
    refine autoC_op 51 [] (by kernel_rfl) (fun L y w' hL hC HW hd K hK => ?_) ?_
    · go_simp
      refine hK _ _ ?_ ?_ HW
      · simp [upd]
      · exact rfl
    refine autoC_op 52 [] (by kernel_rfl) (fun L y w' hL hC HW hd K hK => ?_) ?_
    · go_simp
      refine hK _ _ ?_ ?_ HW
      · simp [upd]
      · exact rfl
    refine autoC_op 53 [9] (by kernel_rfl) (fun L y w' hL hC HW hd K hK => ?_) ?_
    · have e9 := hd_nth (hd 9 (by simp)) rfl
      have xb := HW.blk (x := ab) (by simp) HA.out
      have xl := xb.lt
      have a4 := xb.cell (j := 4) rfl
      go_simp
      refine hK _ _ ?_ ?_ HW
      · simp [upd, e9]
      · exact rfl
    refine autoC_op 54 [] (by kernel_rfl) (fun L y w' hL hC HW hd K hK => ?_) ?_
    · go_simp
      refine hK _ _ ?_ ?_ HW
      · simp [upd]
      · exact rfl
    refine autoC_op 55 [11] (by kernel_rfl) (fun L y w' hL hC HW hd K hK => ?_) ?_
    · have e11 := hd_nth (hd 11 (by simp)) rfl
      have xb := HW.blk (x := ab) (by simp) HA.out
      have xl := xb.lt
      have a5 := xb.cell (j := 5) rfl
      go_simp
      refine hK _ _ ?_ ?_ HW
      · simp [upd, e11]
      · exact rfl
    refine autoC_op 56 [] (by kernel_rfl) (fun L y w' hL hC HW hd K hK => ?_) ?_
    · go_simp
      refine hK _ _ ?_ ?_ HW
      · simp [upd]
      · exact rfl
    refine autoC_op 57 [13] (by kernel_rfl) (fun L y w' hL hC HW hd K hK => ?_) ?_
    · have e13 := hd_nth (hd 13 (by simp)) rfl
      have xb := HW.blk (x := ab) (by simp) HA.out
      have xl := xb.lt
      have a7 := xb.cell (j := 7) rfl
      go_simp
      refine hK _ _ ?_ ?_ HW
      · simp [upd, e13]
      · exact rfl
    refine autoC_op 58 [8, 10, 12, 14, 7] (by kernel_rfl) (fun L y w' hL hC HW hd K hK => ?_) ?_
    · have e7 := hd_nth (hd 7 (by simp)) rfl
      have e8 := hd_nth (hd 8 (by simp)) rfl
      have e10 := hd_nth (hd 10 (by simp)) rfl
      have e12 := hd_nth (hd 12 (by simp)) rfl
      have e14 := hd_nth (hd 14 (by simp)) rfl
      go_simp
      have HW0 : MZ PM U ([ab] ++ X) w0 w' J (cond (L 7) S2 S) LM S LM := by have h := HW; simp only [hL] at h; exact h
      refine (HSD.out _ _ HW0).mono ?_
      rintro e w3 ⟨rfl, hz3⟩
      refine hK _ _ ?_ ?_ hz3.out
      · simp [upd, e7, e8, e10, e12, e14]
      · exact rfl
    refine autoC_op 59 [7, 15] (by kernel_rfl) (fun L y w' hL hC HW hd K hK => ?_) ?_
    · have e7 := hd_nth (hd 7 (by simp)) rfl
      have e15 := hd_nth (hd 15 (by simp)) rfl
      go_simp
      refine hK _ _ ?_ ?_ HW
      · simp [upd, e7, e15]
      · exact rfl
    refine autoL_last fun L y w' hLs HW hd K hK => ?_
    have e0 := hd_nth (hd 0 (by omega)) rfl
    have e1 := hd_nth (hd 1 (by omega)) rfl
    have e2 := hd_nth (hd 2 (by omega)) rfl
    have e3 := hd_nth (hd 3 (by omega)) rfl
    have e4 := hd_nth (hd 4 (by omega)) rfl
    have e5 := hd_nth (hd 5 (by omega)) rfl
    have e6 := hd_nth (hd 6 (by omega)) rfl
    have e7 := hd_nth (hd 7 (by omega)) rfl
    have e8 := hd_nth (hd 8 (by omega)) rfl
    have e9 := hd_nth (hd 9 (by omega)) rfl
    have e10 := hd_nth (hd 10 (by omega)) rfl
    have e11 := hd_nth (hd 11 (by omega)) rfl
    have e12 := hd_nth (hd 12 (by omega)) rfl
    have e13 := hd_nth (hd 13 (by omega)) rfl
    have e14 := hd_nth (hd 14 (by omega)) rfl
    have e15 := hd_nth (hd 15 (by omega)) rfl
    have e16 := hd_nth (hd 16 (by omega)) rfl
    have HWF := Lib.hid (show MZ PM U ([ab] ++ X) w0 w' J S2 LM S2 LM by have h := HW; simp only [hLs 7 (by omega), hLs 15 (by omega)] at h; exact h)
    go_simp
    refine hK _ _ ?_
    clear hd hK K hLs HW
    clear HE HSP HSD
    go_wp2
    go_ret
    exact ⟨rfl, Lib.hid (by rw [HS2.out]; exact HV.out _ _ _ HWF.out)⟩
theorem do_drop20 (rt va wd kn x : Int) (on us : Bool) (z0 : 0 ≤ va) (z1 : va < 4294967296) (x0 : 0 ≤ x) (x1 : x < 4294967296) (w : World) (h : MZ PM V X w0 w J S LM S LM) :
    Calls Tryz.prog 8 #[.pointer (some ⟨J.u, 0, none⟩), .pointer (some ⟨J.b, 0, none⟩), .pointer (some ⟨J.g, 0, none⟩), .agg #[.int .i64 2, .bool on, .int .i64 rt, .bool us, .int .u32 va, .int .i64 wd, .int .i64 kn, .int .u32 x]] w fun e w' => e = .returned (.bool true) ∧ Hid (MZ PM V X w0 w' J S (Gm.drL LM (va / 64 % 12)) S (Gm.drL LM (va / 64 % 12))) := by
  obtain ⟨U, hU⟩ : ∃ U, U = w.alloc (.cells #[.int .i64 2, .bool on, .int .i64 rt, .bool us, .int .u32 va, .int .i64 wd, .int .i64 kn, .int .u32 x] 33) := ⟨_, rfl⟩
  have hB : Below w.heap.size w U := by rw [hU]; exact (Below.refl _ _).alloc (Nat.le_refl _) _
  have hA : Blk U w.heap.size 33 [.int .i64 2, .bool on, .int .i64 rt, .bool us, .int .u32 va, .int .i64 wd, .int .i64 kn, .int .u32 x] := by rw [hU]; exact Blk.new w _ _
  have HE := Lib.hid (h.enter C hB [w.heap.size] (fun y hy => by simp at hy; subst hy; exact ⟨Nat.le_refl _, hA.lt⟩))
  have HV : Hid (∀ (w' : World) (S1 : List Int) (L1 : List Gm.Pl), MZ PM U ([w.heap.size] ++ X) w0 w' J S1 L1 S1 L1 → MZ PM V X w0 w' J S1 L1 S1 L1) := Lib.hid fun w' S1 L1 h' => h.leave hB h'
  have HC := Lib.hid C
  have HU := Lib.hid hU
  have HA := Lib.hid hA
  clear hU hB hA h C
  go_enter Tryz.func8, Tryz.ntmps8
  go_upto_region 1 with fail
  rw [← HU.out]
  clear HU
  generalize w.heap.size = ab at HE HV HA ⊢
  have a0 := HA.out.cell (j := 0) rfl
  have a4 := HA.out.cell (j := 4) rfl
  have al := HA.out.lt
  have p0 : 0 ≤ va / 64 % 12 := by omega
  have p1 : va / 64 % 12 < 12 := by omega
  obtain ⟨p, hp⟩ : ∃ p, va / 64 % 12 = p := ⟨_, rfl⟩
  rw [hp] at p0 p1
  have HPE := Lib.hid hp
  clear hp
  go_upto_region 8 with fail
  clear a0 a4 al
  rw [HPE.out]
  go_wp2_with fail
  refine (mzMap HC.out HE.out).mono ?_
  rintro e w1 ⟨rfl, rfl⟩
  go_wp2_with fail
  refine (mzDrop HC.out HE.out p).mono ?_
  rintro e w2 ⟨rfl, hd2⟩
  have c1 := hd2.out.dv.elim fun D hd => hd.cell1
  have b1 := hd2.out.dv.elim fun D hd => hd.lt
  go_wp2_with fail
  refine (dDrop p hd2.out).mono ?_
  rintro e w3 ⟨rfl, hd3⟩
  clear c1 b1
  have t1 : (Gm.drE LM p == Gm.drE LM p) = true := by simp
  go_wp2_with fail
  refine (mzGone HC.out p p0 p1 hd3.out).mono ?_
  rintro e w4 ⟨rfl, hz4⟩
  go_wp2
  go_ret
  exact ⟨rfl, Lib.hid (by rw [HPE.out]; exact HV.out _ _ _ hz4.out)⟩
theorem do_set20 (rt va wd kn x : Int) (on us : Bool) (z0 : 0 ≤ va) (z1 : va < 4294967296) (x0 : 0 ≤ x) (x1 : x < 4294967296) (w : World) (h : MZ PM V X w0 w J S LM S LM) :
    Calls Tryz.prog 8 #[.pointer (some ⟨J.u, 0, none⟩), .pointer (some ⟨J.b, 0, none⟩), .pointer (some ⟨J.g, 0, none⟩), .agg #[.int .i64 3, .bool on, .int .i64 rt, .bool us, .int .u32 va, .int .i64 wd, .int .i64 kn, .int .u32 x]] w fun e w' => e = .returned (.bool true) ∧ Hid (MZ PM V X w0 w' J S (Gm.setL LM (va / 64 % 12) (placeP (va / 64 % 12))) S (Gm.setL LM (va / 64 % 12) (placeP (va / 64 % 12)))) := by
  obtain ⟨U, hU⟩ : ∃ U, U = w.alloc (.cells #[.int .i64 3, .bool on, .int .i64 rt, .bool us, .int .u32 va, .int .i64 wd, .int .i64 kn, .int .u32 x] 33) := ⟨_, rfl⟩
  have hB : Below w.heap.size w U := by rw [hU]; exact (Below.refl _ _).alloc (Nat.le_refl _) _
  have hA : Blk U w.heap.size 33 [.int .i64 3, .bool on, .int .i64 rt, .bool us, .int .u32 va, .int .i64 wd, .int .i64 kn, .int .u32 x] := by rw [hU]; exact Blk.new w _ _
  have HE := Lib.hid (h.enter C hB [w.heap.size] (fun y hy => by simp at hy; subst hy; exact ⟨Nat.le_refl _, hA.lt⟩))
  have HV : Hid (∀ (w' : World) (S1 : List Int) (L1 : List Gm.Pl), MZ PM U ([w.heap.size] ++ X) w0 w' J S1 L1 S1 L1 → MZ PM V X w0 w' J S1 L1 S1 L1) := Lib.hid fun w' S1 L1 h' => h.leave hB h'
  have HC := Lib.hid C
  have HU := Lib.hid hU
  have HA := Lib.hid hA
  clear hU hB hA h C
  go_enter Tryz.func8, Tryz.ntmps8
  go_upto_region 1 with fail
  rw [← HU.out]
  clear HU
  generalize w.heap.size = ab at HE HV HA ⊢
  have a0 := HA.out.cell (j := 0) rfl
  have a4 := HA.out.cell (j := 4) rfl
  have al := HA.out.lt
  have p0 : 0 ≤ va / 64 % 12 := by omega
  have p1 : va / 64 % 12 < 12 := by omega
  obtain ⟨p, hp⟩ : ∃ p, va / 64 % 12 = p := ⟨_, rfl⟩
  rw [hp] at p0 p1
  have HPE := Lib.hid hp
  clear hp
  go_upto_region 11 with fail
  clear a0 a4 al
  rw [HPE.out]
  obtain ⟨L2, hL2⟩ : ∃ L2, Gm.setL LM p (placeP p) = L2 := ⟨_, rfl⟩
  obtain ⟨c, hc⟩ : ∃ c, Gm.setE LM p (placeP p) = c := ⟨_, rfl⟩
  have HPL : Hid (∀ W, Calls Tryz.prog 29 #[.int .i64 p] W fun e w' => e = .returned (Gm.plV (placeP p)) ∧ Below W.heap.size W w') := Lib.hid fun W => place20_any p p0 p1 W
  have HSP : Hid (∀ (Ld : List Gm.Pl) (W : World), MZ PM U ([ab] ++ X) w0 W J S LM S Ld → Calls Tryz.prog 28 #[.pointer (some ⟨J.m, 0, none⟩), .int .i64 p, Gm.plV (placeP p)] W fun e w' => e = .returned (.int .i64 c) ∧ Hid (MZ PM U ([ab] ++ X) w0 w' J S L2 S Ld)) := Lib.hid fun Ld W hW => by
    have := mzSet HC.out hW p p0 p1
    rw [hL2, hc] at this
    exact this
  have HSD : Hid (∀ (Lp : List Gm.Pl) (W : World), MZ PM U ([ab] ++ X) w0 W J S Lp S LM → Calls Tryz.prog 30 #[.pointer (some ⟨J.q, 0, none⟩), .int .i64 p, Gm.plV (placeP p)] W fun e w' => e = .returned (.int .i64 c) ∧ Hid (MZ PM U ([ab] ++ X) w0 w' J S Lp S L2)) := Lib.hid fun Lp W hW => by
    have := dSet HC.out hW p (placeP p)
    rw [hL2, hc] at this
    exact this
  have HL2 := Lib.hid hL2
  unfold Gm.plV at HPL HSP HSD
  generalize (placeP p).1 = pf at HPL HSP HSD
  generalize (placeP p).2 = pr at HPL HSP HSD
  clear hL2 hc
  apply wp_region_autoL [82, 83, 84, 85, 86, 87, 88, 89, 90, 91, 92, 93, 94, 95, 96] [_, _, _, _, _, _, _, _, _, _, _, _, _, _, _] (fun L_ W' => MZ PM U ([ab] ++ X) w0 W' J S (cond (L_ 5) L2 LM) S (cond (L_ 13) L2 LM))
  case hm => kernel_rfl
  case hT => intro y; simp only [setAll, List.setIfInBounds_toArray, List.set_cons_succ, List.set_cons_zero]; exact rfl
  case hok => kernel_rfl
  case hn => decide
  case hw => exact (fun L_ h0 => by simp only [h0 5 (by decide), h0 13 (by decide)]; exact HE.out.more HC.out ((Below.refl _ _).drew))
  case hs =>
    refine autoC_op 82 [] (by kernel_rfl) (fun L y w' hL hC HW hd K hK => ?_) ?_
    · go_simp
      refine hK _ _ ?_ ?_ HW
      · simp [upd]
      · exact rfl
    refine autoC_op 83 [0] (by kernel_rfl) (fun L y w' hL hC HW hd K hK => ?_) ?_
    · have e0 := hd_nth (hd 0 (by simp)) rfl
      go_simp
      refine (mzMap HC.out HW).mono ?_
      rintro e w3 ⟨rfl, rfl⟩
      refine hK _ _ ?_ ?_ HW
      · simp [upd, e0]
      · exact rfl
    refine autoC_op 84 [] (by kernel_rfl) (fun L y w' hL hC HW hd K hK => ?_) ?_
    · go_simp
      refine hK _ _ ?_ ?_ HW
      · simp [upd]
      · exact rfl
    refine autoC_op 85 [] (by kernel_rfl) (fun L y w' hL hC HW hd K hK => ?_) ?_
    · go_simp
      refine hK _ _ ?_ ?_ HW
      · simp [upd]
      · exact rfl
    refine autoC_op 86 [3, 1] (by kernel_rfl) (fun L y w' hL hC HW hd K hK => ?_) ?_
    · have e1 := hd_nth (hd 1 (by simp)) rfl
      have e3 := hd_nth (hd 3 (by simp)) rfl
      go_simp
      refine (HPL.out _).mono ?_
      rintro e w3 ⟨rfl, hb3⟩
      refine hK _ _ ?_ ?_ (HW.more HC.out hb3)
      · simp [upd, e1, e3]
      · exact rfl
    refine autoC_op 87 [1, 2, 4, 4] (by kernel_rfl) (fun L y w' hL hC HW hd K hK => ?_) ?_
    · have e1 := hd_nth (hd 1 (by simp)) rfl
      have e2 := hd_nth (hd 2 (by simp)) rfl
      have e4 := hd_nth (hd 4 (by simp)) rfl
      go_simp
      have HW0 : MZ PM U ([ab] ++ X) w0 w' J S LM S (cond (L 13) L2 LM) := by have h := HW; simp only [hL] at h; exact h
      refine (HSP.out _ _ HW0).mono ?_
      rintro e w3 ⟨rfl, hz3⟩
      refine hK _ _ ?_ ?_ hz3.out
      · simp [upd, e1, e2, e4]
      · exact rfl
    refine autoC_op 88 [] (by kernel_rfl) (fun L y w' hL hC HW hd K hK => ?_) ?_
    · go_simp
      refine hK _ _ ?_ ?_ HW
      · simp [upd]
      · exact rfl
    refine autoC_op 89 [6] (by kernel_rfl) (fun L y w' hL hC HW hd K hK => ?_) ?_
    · have e6 := hd_nth (hd 6 (by simp)) rfl
      go_simp
      refine hK _ _ ?_ ?_ HW
      · simp [upd, e6]
      · exact rfl
    refine autoC_op 90 [7] (by kernel_rfl) (fun L y w' hL hC HW hd K hK => ?_) ?_
    · have e7 := hd_nth (hd 7 (by simp)) rfl
      go_simp
      refine hK _ _ ?_ ?_ HW
      · simp [upd, e7]
      · exact rfl
    refine autoC_op 91 [8] (by kernel_rfl) (fun L y w' hL hC HW hd K hK => ?_) ?_
    · have e8 := hd_nth (hd 8 (by simp)) rfl
      have c1 := HW.dv.elim fun D hd => hd.cell1
      have b1 := HW.dv.elim fun D hd => hd.lt
      go_simp
      refine hK _ _ ?_ ?_ HW
      · simp [upd, e8]
      · exact rfl
    refine autoC_op 92 [] (by kernel_rfl) (fun L y w' hL hC HW hd K hK => ?_) ?_
    · go_simp
      refine hK _ _ ?_ ?_ HW
      · simp [upd]
      · exact rfl
    refine autoC_op 93 [] (by kernel_rfl) (fun L y w' hL hC HW hd K hK => ?_) ?_
    · go_simp
      refine hK _ _ ?_ ?_ HW
      · simp [upd]
      · exact rfl
    refine autoC_op 94 [11, 5] (by kernel_rfl) (fun L y w' hL hC HW hd K hK => ?_) ?_
    · have e5 := hd_nth (hd 5 (by simp)) rfl
      have e11 := hd_nth (hd 11 (by simp)) rfl
      go_simp
      refine (HPL.out _).mono ?_
      rintro e w3 ⟨rfl, hb3⟩
      refine hK _ _ ?_ ?_ (HW.more HC.out hb3)
      · simp [upd, e5, e11]
      · exact rfl
    refine autoC_op 95 [9, 10, 12, 12] (by kernel_rfl) (fun L y w' hL hC HW hd K hK => ?_) ?_
    · have e9 := hd_nth (hd 9 (by simp)) rfl
      have e10 := hd_nth (hd 10 (by simp)) rfl
      have e12 := hd_nth (hd 12 (by simp)) rfl
      go_simp
      have HW0 : MZ PM U ([ab] ++ X) w0 w' J S (cond (L 5) L2 LM) S LM := by have h := HW; simp only [hL] at h; exact h
      refine (HSD.out _ _ HW0).mono ?_
      rintro e w3 ⟨rfl, hz3⟩
      refine hK _ _ ?_ ?_ hz3.out
      · simp [upd, e9, e10, e12]
      · exact rfl
    refine autoC_op 96 [5, 13] (by kernel_rfl) (fun L y w' hL hC HW hd K hK => ?_) ?_
    · have e5 := hd_nth (hd 5 (by simp)) rfl
      have e13 := hd_nth (hd 13 (by simp)) rfl
      go_simp
      refine hK _ _ ?_ ?_ HW
      · simp [upd, e5, e13]
      · exact rfl
    refine autoL_last fun L y w' hLs HW hd K hK => ?_
    have e0 := hd_nth (hd 0 (by omega)) rfl
    have e1 := hd_nth (hd 1 (by omega)) rfl
    have e2 := hd_nth (hd 2 (by omega)) rfl
    have e3 := hd_nth (hd 3 (by omega)) rfl
    have e4 := hd_nth (hd 4 (by omega)) rfl
    have e5 := hd_nth (hd 5 (by omega)) rfl
    have e6 := hd_nth (hd 6 (by omega)) rfl
    have e7 := hd_nth (hd 7 (by omega)) rfl
    have e8 := hd_nth (hd 8 (by omega)) rfl
    have e9 := hd_nth (hd 9 (by omega)) rfl
    have e10 := hd_nth (hd 10 (by omega)) rfl
    have e11 := hd_nth (hd 11 (by omega)) rfl
    have e12 := hd_nth (hd 12 (by omega)) rfl
    have e13 := hd_nth (hd 13 (by omega)) rfl
    have e14 := hd_nth (hd 14 (by omega)) rfl
    have HWF := Lib.hid (show MZ PM U ([ab] ++ X) w0 w' J S L2 S L2 by have h := HW; simp only [hLs 5 (by omega), hLs 13 (by omega)] at h; exact h)
    go_simp
    refine hK _ _ ?_
    clear hd hK K hLs HW
    clear HE HSP HSD HPL
    go_wp2
    go_ret
    exact ⟨rfl, Lib.hid (by rw [HPE.out, HL2.out]; exact HV.out _ _ _ HWF.out)⟩
theorem do_flush20 (rt va wd kn x : Int) (on us : Bool) (z0 : 0 ≤ va) (z1 : va < 4294967296) (x0 : 0 ≤ x) (x1 : x < 4294967296) (w : World) (h : MZ PM V X w0 w J S LM S LM) :
    Calls Tryz.prog 8 #[.pointer (some ⟨J.u, 0, none⟩), .pointer (some ⟨J.b, 0, none⟩), .pointer (some ⟨J.g, 0, none⟩), .agg #[.int .i64 4, .bool on, .int .i64 rt, .bool us, .int .u32 va, .int .i64 wd, .int .i64 kn, .int .u32 x]] w fun e w' => e = .returned (.bool true) ∧ Hid (MZ PM V X w0 w' J S LM S LM) := by
  obtain ⟨U, hU⟩ : ∃ U, U = w.alloc (.cells #[.int .i64 4, .bool on, .int .i64 rt, .bool us, .int .u32 va, .int .i64 wd, .int .i64 kn, .int .u32 x] 33) := ⟨_, rfl⟩
  have hB : Below w.heap.size w U := by rw [hU]; exact (Below.refl _ _).alloc (Nat.le_refl _) _
  have hA : Blk U w.heap.size 33 [.int .i64 4, .bool on, .int .i64 rt, .bool us, .int .u32 va, .int .i64 wd, .int .i64 kn, .int .u32 x] := by rw [hU]; exact Blk.new w _ _
  have HE := Lib.hid (h.enter C hB [w.heap.size] (fun y hy => by simp at hy; subst hy; exact ⟨Nat.le_refl _, hA.lt⟩))
  have HV : Hid (∀ (w' : World) (S1 : List Int) (L1 : List Gm.Pl), MZ PM U ([w.heap.size] ++ X) w0 w' J S1 L1 S1 L1 → MZ PM V X w0 w' J S1 L1 S1 L1) := Lib.hid fun w' S1 L1 h' => h.leave hB h'
  have HC := Lib.hid C
  have HU := Lib.hid hU
  have HA := Lib.hid hA
  clear hU hB hA h C
  go_enter Tryz.func8, Tryz.ntmps8
  go_upto_region 1 with fail
  rw [← HU.out]
  clear HU
  generalize w.heap.size = ab at HE HV HA ⊢
  have a0 := HA.out.cell (j := 0) rfl
  have a4 := HA.out.cell (j := 4) rfl
  have al := HA.out.lt
  go_wp2_with fail
  refine (mzFlush HC.out HE.out).mono ?_
  rintro e w2 ⟨⟨n, rfl⟩, hz2⟩
  clear a0 a4 al
  go_wp2
  go_ret
  exact ⟨rfl, Lib.hid (HV.out _ _ _ hz2.out)⟩
theorem do_none20 (kd rt va wd kn x : Int) (on us : Bool) (hk : kd ≠ 0 ∧ kd ≠ 1 ∧ kd ≠ 2 ∧ kd ≠ 3 ∧ kd ≠ 4) (z0 : 0 ≤ va) (z1 : va < 4294967296) (x0 : 0 ≤ x) (x1 : x < 4294967296) (w : World) (h : MZ PM V X w0 w J S LM S LM) :
    Calls Tryz.prog 8 #[.pointer (some ⟨J.u, 0, none⟩), .pointer (some ⟨J.b, 0, none⟩), .pointer (some ⟨J.g, 0, none⟩), .agg #[.int .i64 kd, .bool on, .int .i64 rt, .bool us, .int .u32 va, .int .i64 wd, .int .i64 kn, .int .u32 x]] w fun e w' => e = .returned (.bool true) ∧ Hid (MZ PM V X w0 w' J S LM S LM) := by
  obtain ⟨U, hU⟩ : ∃ U, U = w.alloc (.cells #[.int .i64 kd, .bool on, .int .i64 rt, .bool us, .int .u32 va, .int .i64 wd, .int .i64 kn, .int .u32 x] 33) := ⟨_, rfl⟩
  have hB : Below w.heap.size w U := by rw [hU]; exact (Below.refl _ _).alloc (Nat.le_refl _) _
  have hA : Blk U w.heap.size 33 [.int .i64 kd, .bool on, .int .i64 rt, .bool us, .int .u32 va, .int .i64 wd, .int .i64 kn, .int .u32 x] := by rw [hU]; exact Blk.new w _ _
  have HE := Lib.hid (h.enter C hB [w.heap.size] (fun y hy => by simp at hy; subst hy; exact ⟨Nat.le_refl _, hA.lt⟩))
  have HV : Hid (∀ (w' : World) (S1 : List Int) (L1 : List Gm.Pl), MZ PM U ([w.heap.size] ++ X) w0 w' J S1 L1 S1 L1 → MZ PM V X w0 w' J S1 L1 S1 L1) := Lib.hid fun w' S1 L1 h' => h.leave hB h'
  have HC := Lib.hid C
  have HU := Lib.hid hU
  have HA := Lib.hid hA
  clear hU hB hA h C
  go_enter Tryz.func8, Tryz.ntmps8
  go_upto_region 1 with fail
  rw [← HU.out]
  clear HU
  generalize w.heap.size = ab at HE HV HA ⊢
  have a0 := HA.out.cell (j := 0) rfl
  have a4 := HA.out.cell (j := 4) rfl
  have al := HA.out.lt
  have k0 : (kd == 0) = false := by simpa using hk.1
  have k1 : (kd == 1) = false := by simpa using hk.2.1
  have k2 : (kd == 2) = false := by simpa using hk.2.2.1
  have k3 : (kd == 3) = false := by simpa using hk.2.2.2.1
  have k4 : (kd == 4) = false := by simpa using hk.2.2.2.2
  clear hk
  go_wp2
  go_ret
  exact ⟨rfl, Lib.hid (HV.out _ _ _ HE.out)⟩
/-- what an act leaves -/
def actS20 (S : List Int) (L : List Gm.Pl) (a : Am) : List Int := if a.kd = 0 then ss20 12 S L a.on a.rt a.us a.va a.wd a.x else if a.kd = 1 then saveS 12 S L a.va a.wd a.x else S
def actL20 (L : List Gm.Pl) (a : Am) : List Gm.Pl := if a.kd = 2 then Gm.drL L (a.va / 64 % 12) else if a.kd = 3 then Gm.setL L (a.va / 64 % 12) (placeP (a.va / 64 % 12)) else L
theorem do20_any (a : Am) (ha : AmW a) (w : World) (h : MZ PM V X w0 w J S LM S LM) :
    Calls Tryz.prog 8 #[.pointer (some ⟨J.u, 0, none⟩), .pointer (some ⟨J.b, 0, none⟩), .pointer (some ⟨J.g, 0, none⟩), a.v] w fun e w' => e = .returned (.bool true) ∧ Hid (MZ PM V X w0 w' J (actS20 S LM a) (actL20 LM a) (actS20 S LM a) (actL20 LM a)) := by
  have z0 := ha.l4
  have z1 := ha.u4
  have x0 := ha.l7
  have x1 := ha.u7
  obtain ⟨kd, on, rt, us, va, wd, kn, x⟩ := a
  unfold actS20 actL20
  dsimp only at z0 z1 x0 x1 ⊢
  by_cases h0 : kd = 0
  · subst h0
    exact do_save20 C rt va wd kn x on us z0 z1 x0 x1 w h
  by_cases h1 : kd = 1
  · subst h1
    exact do_vsave20 C rt va wd kn x on us z0 z1 x0 x1 w h
  by_cases h2 : kd = 2
  · subst h2
    exact do_drop20 C rt va wd kn x on us z0 z1 x0 x1 w h
  by_cases h3 : kd = 3
  · subst h3
    exact do_set20 C rt va wd kn x on us z0 z1 x0 x1 w h
  rw [if_neg h0, if_neg h1, if_neg h2, if_neg h3]
  by_cases h4 : kd = 4
  · subst h4
    exact do_flush20 C rt va wd kn x on us z0 z1 x0 x1 w h
  · exact do_none20 C kd rt va wd kn x on us ⟨h0, h1, h2, h3, h4⟩ z0 z1 x0 x1 w h
end
end Go.Proofs.YteaincdeoajkeaaGreatDoor.Mm
end
section
/- hermitagelaw20: the walk of MmuFinds, over what the program is to keep. -/
namespace Go.Proofs.YteaincdeoajkeaaGreatDoor.Mm
open Go.RowKit Go.Shelf Ut Oc Vw Wa
set_option maxRecDepth 100000
set_option linter.unusedVariables false
set_option maxHeartbeats 8000000

/-- an act's cells as the walk spells them -/
theorem AmRow.at_ {w W : World} {B : Nat} {a : Option Addr} {n : Nat} {Z : Nat → Am} (h : AmRow w B a n Z) (hb : Below B w W) (hB : B ≤ w.heap.size) {i : Nat} (hi : i < n) : ∃ y, a = some y ∧ (y.add (i * 8)).block < W.heap.size ∧ AmW (Z i) ∧ W.cell? (y.add (i * 8)) = some (.int .i64 (Z i).kd) ∧ W.cell? ⟨(y.add (i * 8)).block, (y.add (i * 8)).off + 1, none⟩ = some (.bool (Z i).on) ∧ W.cell? ⟨(y.add (i * 8)).block, (y.add (i * 8)).off + 2, none⟩ = some (.int .i64 (Z i).rt) ∧ W.cell? ⟨(y.add (i * 8)).block, (y.add (i * 8)).off + 3, none⟩ = some (.bool (Z i).us) ∧ W.cell? ⟨(y.add (i * 8)).block, (y.add (i * 8)).off + 4, none⟩ = some (.int .u32 (Z i).va) ∧ W.cell? ⟨(y.add (i * 8)).block, (y.add (i * 8)).off + 5, none⟩ = some (.int .i64 (Z i).wd) ∧ W.cell? ⟨(y.add (i * 8)).block, (y.add (i * 8)).off + 6, none⟩ = some (.int .i64 (Z i).kn) ∧ W.cell? ⟨(y.add (i * 8)).block, (y.add (i * 8)).off + 7, none⟩ = some (.int .u32 (Z i).x) := by
  obtain ⟨y, e, hy, hw, c0, c1, c2, c3, c4, c5, c6, c7⟩ := h.more hb i hi
  refine ⟨y, e, ?_, hw, c0, ?_, ?_, ?_, ?_, ?_, ?_, ?_⟩
  · rw [block_of_add]
    have := hb.size
    omega
  · rw [← add_past y (i * 8) 1 (by decide)]; exact c1
  · rw [← add_past y (i * 8) 2 (by decide)]; exact c2
  · rw [← add_past y (i * 8) 3 (by decide)]; exact c3
  · rw [← add_past y (i * 8) 4 (by decide)]; exact c4
  · rw [← add_past y (i * 8) 5 (by decide)]; exact c5
  · rw [← add_past y (i * 8) 6 (by decide)]; exact c6
  · rw [← add_past y (i * 8) 7 (by decide)]; exact c7
def cntB (n m : Nat) : Nat := min n m
theorem cntB_in {n m k : Nat} (h1 : k < n) (h2 : k < m) : k + 1 ≤ cntB n m := by unfold cntB; omega

theorem finds20_any {PM : PMt} (C : MmuC PM) (room : Nat) (hroom : room < 256) (al aa : Option Addr) (ll cl la ca : Nat) (Zp : Nat → Int × Int) (Z : Nat → Am) (w : World) (hll : ll ≤ 9223372036854775807) (hla : la ≤ 9223372036854775807) (hl : PutRow w w.heap.size al ll Zp) (ha : AmRow w w.heap.size aa la Z) (hG : PM.G w) (hnb : PM.nb ≤ w.heap.size) :
    Calls Tryz.prog 3 #[.int .u8 room, .slice al ll cl, .slice aa la ca] w fun e w' => e = .returned (.bool true) ∧ Below w.heap.size w w' := by
  have HMK := Lib.hid (fun r h0 h1 => made20_any C r h0 h1 al ll cl w.heap.size Zp w hll hl (Nat.le_refl _) hG hnb)
  have HGW : Hid (∀ W, Below w.heap.size w W → PM.G W ∧ PM.nb ≤ W.heap.size) := Lib.hid fun W hb => ⟨C.gb hG (hb.mono hnb), Nat.le_trans hnb hb.size⟩
  have HC := Lib.hid C
  have HAR := Lib.hid ha
  have r0 : (0 : Int) ≤ (room : Int) := by omega
  have r1 : (room : Int) < 256 := by omega
  clear C hl ha hroom hG hnb
  go_enter Tryz.func3, Tryz.ntmps3
  go_wp2_with fail
  refine (HMK.out _ (by omega) (by omega)).mono ?_
  rintro e w1 ⟨u, b, g, rfl, hmd⟩
  have hmz : ∃ J : BK, J.u = u ∧ J.b = b ∧ J.g = g ∧ ∃ S L, MZ PM w1 [] w w1 J S L S L := by
    obtain ⟨J, T, tb, e1, e2, e3, h⟩ := hmd.out
    exact ⟨J, e1, e2, e3, _, _, T, [], tb, h⟩
  obtain ⟨J, rfl, rfl, rfl, S0, L0, hz⟩ := hmz
  have HZ0 := Lib.hid hz
  clear hmd hz HMK
  go_wp2
  go_loopw [10] (fun j wr => ∃ (k : Nat) (S : List Int) (L : List Gm.Pl), k ≤ cntB la 60 ∧ j = .int .i64 k ∧ Hid (MZ PM w1 [] w wr J S L S L)) (fun j _ => cntB la 60 - (intOf j).toNat)
  case atStart => exact ⟨0, S0, L0, Nat.zero_le _, rfl, HZ0⟩
  case round =>
    clear HZ0
    obtain ⟨k, S, L, hk, rfl, HZ⟩ := hrel
    by_cases hin : k < la ∧ k < 60
    · have f1 : (k : Int) < (la : Int) := by omega
      have f2 : (k : Int) < 60 := by omega
      have f0 : (0 : Int) ≤ (k : Int) := by omega
      have H1 := Lib.hid (cntB_in hin.1 hin.2)
      obtain ⟨y, rfl, hyb, hx, c0, c1, c2, c3, c4, c5, c6, c7⟩ := HAR.out.at_ HZ.out.b (Nat.le_refl _) hin.1
      generalize Z k = a at hx c0 c1 c2 c3 c4 c5 c6 c7
      obtain ⟨U, hU⟩ : ∃ U, U = wr.alloc (.cells #[.int .i64 a.kd, .bool a.on, .int .i64 a.rt, .bool a.us, .int .u32 a.va, .int .i64 a.wd, .int .i64 a.kn, .int .u32 a.x] 33) := ⟨_, rfl⟩
      have hB : Below wr.heap.size wr U := by rw [hU]; exact (Below.refl _ _).alloc (Nat.le_refl _) _
      have hA : Blk U wr.heap.size 33 [.int .i64 a.kd, .bool a.on, .int .i64 a.rt, .bool a.us, .int .u32 a.va, .int .i64 a.wd, .int .i64 a.kn, .int .u32 a.x] := by rw [hU]; exact Blk.new wr _ _
      have hE := HZ.out.enter HC.out hB [wr.heap.size] (fun y hy => by simp at hy; subst hy; exact ⟨Nat.le_refl _, hA.lt⟩)
      have HV : Hid (∀ (w' : World) (S1 : List Int) (L1 : List Gm.Pl), MZ PM U ([wr.heap.size] ++ []) w w' J S1 L1 S1 L1 → MZ PM w1 [] w w' J S1 L1 S1 L1) := Lib.hid fun w' S1 L1 h' => HZ.out.leave hB h'
      have HDO := Lib.hid (do20_any HC.out a hx U hE)
      have HA := Lib.hid hA
      have HU := Lib.hid hU
      have HW := Lib.hid hx
      clear hU hB hA hE hx hin hk HZ
      obtain ⟨kd, on, rt, us, va, wd, kn, x⟩ := a
      dsimp only at HU HA HDO c0 c1 c2 c3 c4 c5 c6 c7
      have z0 : 0 ≤ va := HW.out.l4
      have z1 : va < 4294967296 := HW.out.u4
      generalize actS20 S L ⟨kd, on, rt, us, va, wd, kn, x⟩ = S2 at HDO
      generalize actL20 L ⟨kd, on, rt, us, va, wd, kn, x⟩ = L2 at HDO
      obtain ⟨lc, hlc⟩ : ∃ lc, locF 12 S2 L2 on rt us va kn = lc := ⟨_, rfl⟩
      obtain ⟨ld, hld⟩ : ∃ ld, ld20 12 S2 L2 on rt us va wd kn = ld := ⟨_, rfl⟩
      have HFP : Hid (∀ W, MZ PM U ([wr.heap.size] ++ []) w W J S2 L2 S2 L2 → Calls Tryz.prog 9 #[.pointer (some ⟨J.u, 0, none⟩), .agg #[.bool on, .int .i64 rt, .bool us], .int .u32 va, .int .i64 kn] W fun e w' => (∃ fast, e = .returned (.tuple #[hitX lc.1 fast, .int .i64 lc.2]) ∧ (fast = true → on = true ∧ lc.2 = 0)) ∧ Hid (MZ PM U ([wr.heap.size] ++ []) w w' J S2 L2 S2 L2)) := Lib.hid fun W hW => by
        have := mzFind HC.out hW on us rt va kn z0 z1
        rw [hlc] at this
        exact this
      have HFD : Hid (∀ W, MZ PM U ([wr.heap.size] ++ []) w W J S2 L2 S2 L2 → Calls Tryz.prog 10 #[.pointer (some ⟨J.g, 0, none⟩), .agg #[.bool on, .int .i64 rt, .bool us], .int .u32 va, .int .i64 kn] W fun e w' => e = .returned (.tuple #[hitX lc.1 false, .int .i64 lc.2]) ∧ Below W.heap.size W w') := Lib.hid fun W hW => by
        have := dFind hW on us rt va kn z0 z1
        rw [hlc] at this
        exact this
      have HLP : Hid (∀ W, MZ PM U ([wr.heap.size] ++ []) w W J S2 L2 S2 L2 → Calls Tryz.prog 11 #[.pointer (some ⟨J.u, 0, none⟩), .agg #[.bool on, .int .i64 rt, .bool us], .int .u32 va, .int .i64 wd, .int .i64 kn] W fun e w' => e = .returned (.tuple #[.int .u32 ld.1, .int .i64 ld.2]) ∧ Hid (MZ PM U ([wr.heap.size] ++ []) w w' J S2 L2 S2 L2)) := Lib.hid fun W hW => by
        have := mzLoad HC.out hW on us rt va wd kn z0 z1
        rw [hld] at this
        exact this
      have HLD : Hid (∀ W, MZ PM U ([wr.heap.size] ++ []) w W J S2 L2 S2 L2 → Calls Tryz.prog 12 #[.pointer (some ⟨J.g, 0, none⟩), .agg #[.bool on, .int .i64 rt, .bool us], .int .u32 va, .int .i64 wd, .int .i64 kn] W fun e w' => e = .returned (.tuple #[.int .u32 ld.1, .int .i64 ld.2]) ∧ Below W.heap.size W w') := Lib.hid fun W hW => by
        have := dLoad hW on us rt va wd kn z0 z1
        rw [hld] at this
        exact this
      clear hlc hld
      obtain ⟨⟨ha, hb, hd⟩, c⟩ := lc
      obtain ⟨lu, lc⟩ := ld
      dsimp only [hitX] at HFP HFD HLP HLD
      go_upto_region 8 with fail
      rw [← HU.out]
      clear HU c0 c1 c2 c3 c4 c5 c6 c7 hyb
      generalize wr.heap.size = ab at HA HV HDO HFP HFD HLP HLD ⊢
      have a0 := HA.out.cell (j := 0) rfl
      have a1 := HA.out.cell (j := 1) rfl
      have a2 := HA.out.cell (j := 2) rfl
      have a3 := HA.out.cell (j := 3) rfl
      have a4 := HA.out.cell (j := 4) rfl
      have a5 := HA.out.cell (j := 5) rfl
      have a6 := HA.out.cell (j := 6) rfl
      have a7 := HA.out.cell (j := 7) rfl
      have al := HA.out.lt
      go_wp2_with fail
      refine HDO.out.mono ?_
      rintro e w2 ⟨rfl, HZ2⟩
      clear a0 a1 a2 a3 a4 a5 a6 a7 al HDO
      have q0 := HZ2.out.blk (x := ab) (by simp) HA.out
      have a1 := q0.cell (j := 1) rfl
      have a2 := q0.cell (j := 2) rfl
      have a3 := q0.cell (j := 3) rfl
      have a4 := q0.cell (j := 4) rfl
      have a6 := q0.cell (j := 6) rfl
      have al := q0.lt
      clear q0
      go_wp2_with fail
      refine (HFP.out w2 HZ2.out).mono ?_
      rintro e w3 ⟨⟨fast, rfl, hfast⟩, HZ3⟩
      have HFA := Lib.hid hfast
      clear hfast HFP HZ2 a1 a2 a3 a4 a6 al
      have hb3 : Below w3.heap.size w3 (w3.alloc (.cells #[.int .i64 ha, .int .i64 hb, .int .i64 hd, .bool fast] 36)) := (Below.refl _ _).alloc (Nat.le_refl _) _
      have HZ4 := Lib.hid (HZ3.out.more HC.out hb3)
      have HH : Hid (Blk (w3.alloc (.cells #[.int .i64 ha, .int .i64 hb, .int .i64 hd, .bool fast] 36)) w3.heap.size 36 [.int .i64 ha, .int .i64 hb, .int .i64 hd, .bool fast]) := Lib.hid (Blk.new w3 _ _)
      clear hb3 HZ3
      go_upto_region 11 with fail
      generalize w3.alloc (.cells #[.int .i64 ha, .int .i64 hb, .int .i64 hd, .bool fast] 36) = V4 at HZ4 HH ⊢
      generalize w3.heap.size = hh at HH ⊢
      have q0 := HZ4.out.blk (x := ab) (by simp) HA.out
      have a1 := q0.cell (j := 1) rfl
      have a2 := q0.cell (j := 2) rfl
      have a3 := q0.cell (j := 3) rfl
      have a4 := q0.cell (j := 4) rfl
      have a6 := q0.cell (j := 6) rfl
      have al := q0.lt
      clear q0
      go_wp2_with fail
      refine (HFD.out V4 HZ4.out).mono ?_
      rintro e w5 ⟨rfl, hb5⟩
      have HZ5 := Lib.hid (HZ4.out.more HC.out hb5)
      have HH5 := Lib.hid (HH.out.more hb5)
      clear hb5 HFD HZ4 HH a1 a2 a3 a4 a6 al
      have hb6 : Below w5.heap.size w5 (w5.alloc (.cells #[.int .i64 ha, .int .i64 hb, .int .i64 hd, .bool false] 36)) := (Below.refl _ _).alloc (Nat.le_refl _) _
      have HZ6 := Lib.hid (HZ5.out.more HC.out hb6)
      have HH6 := Lib.hid (HH5.out.more hb6)
      have HG6 : Hid (Blk (w5.alloc (.cells #[.int .i64 ha, .int .i64 hb, .int .i64 hd, .bool false] 36)) w5.heap.size 36 [.int .i64 ha, .int .i64 hb, .int .i64 hd, .bool false]) := Lib.hid (Blk.new w5 _ _)
      clear hb6 HZ5 HH5
      go_upto_region 12 with fail
      generalize w5.alloc (.cells #[.int .i64 ha, .int .i64 hb, .int .i64 hd, .bool false] 36) = V6 at HZ6 HH6 HG6 ⊢
      generalize w5.heap.size = hg at HG6 ⊢
      have h0 := HH6.out.cell (j := 0) rfl
      have h1 := HH6.out.cell (j := 1) rfl
      have h2 := HH6.out.cell (j := 2) rfl
      have h3 := HH6.out.cell (j := 3) rfl
      have hl := HH6.out.lt
      have g0 := HG6.out.cell (j := 0) rfl
      have g1 := HG6.out.cell (j := 1) rfl
      have g2 := HG6.out.cell (j := 2) rfl
      have gl := HG6.out.lt
      have q0 := HZ6.out.blk (x := ab) (by simp) HA.out
      have a1 := q0.cell (j := 1) rfl
      have a2 := q0.cell (j := 2) rfl
      have a3 := q0.cell (j := 3) rfl
      have a4 := q0.cell (j := 4) rfl
      have a5 := q0.cell (j := 5) rfl
      have a6 := q0.cell (j := 6) rfl
      have al := q0.lt
      clear q0
      cases fast
      · clear HFA
        go_wp2_with fail
        refine (HLP.out V6 HZ6.out).mono ?_
        rintro e w7 ⟨rfl, HZ7⟩
        clear HLP HZ6 HH6 HG6 h0 h1 h2 h3 hl g0 g1 g2 gl a1 a2 a3 a4 a5 a6 al
        have q0 := HZ7.out.blk (x := ab) (by simp) HA.out
        have a1 := q0.cell (j := 1) rfl
        have a2 := q0.cell (j := 2) rfl
        have a3 := q0.cell (j := 3) rfl
        have a4 := q0.cell (j := 4) rfl
        have a5 := q0.cell (j := 5) rfl
        have a6 := q0.cell (j := 6) rfl
        have al := q0.lt
        clear q0
        go_wp2_with fail
        refine (HLD.out w7 HZ7.out).mono ?_
        rintro e w8 ⟨rfl, hb8⟩
        have HZ8 := Lib.hid (HV.out _ _ _ (HZ7.out.more HC.out hb8))
        clear hb8 HLD HZ7 HV a1 a2 a3 a4 a5 a6 al
        go_wp2
        go_roundw
        case rel => exact ⟨k + 1, S2, L2, H1.out, by go_num, HZ8⟩
        case measure => have := H1.out; simp [intOf]; omega
      · obtain ⟨rfl, rfl⟩ := HFA.out rfl
        clear HFA
        go_wp2_with fail
        refine (HLP.out V6 HZ6.out).mono ?_
        rintro e w7 ⟨rfl, HZ7⟩
        clear HLP HZ6 HH6 HG6 h0 h1 h2 h3 hl g0 g1 g2 gl a1 a2 a3 a4 a5 a6 al
        have q0 := HZ7.out.blk (x := ab) (by simp) HA.out
        have a1 := q0.cell (j := 1) rfl
        have a2 := q0.cell (j := 2) rfl
        have a3 := q0.cell (j := 3) rfl
        have a4 := q0.cell (j := 4) rfl
        have a5 := q0.cell (j := 5) rfl
        have a6 := q0.cell (j := 6) rfl
        have al := q0.lt
        clear q0
        go_wp2_with fail
        refine (HLD.out w7 HZ7.out).mono ?_
        rintro e w8 ⟨rfl, hb8⟩
        have HZ8 := Lib.hid (HV.out _ _ _ (HZ7.out.more HC.out hb8))
        clear hb8 HLD HZ7 HV a1 a2 a3 a4 a5 a6 al
        go_wp2
        go_roundw
        case rel => exact ⟨k + 1, S2, L2, H1.out, by go_num, HZ8⟩
        case measure => have := H1.out; simp [intOf]; omega
    · have hout : (¬ (k : Int) < (la : Int)) ∨ ((k : Int) < (la : Int) ∧ ¬ (k : Int) < 60) := by omega
      clear hin hk
      rcases hout with f1 | ⟨f1, f2⟩
      all_goals
        go_wp2_with fail
        refine (awake20_any HC.out _ (HGW.out _ HZ.out.b).1 (HGW.out _ HZ.out.b).2).mono ?_
        rintro e w6 ⟨rfl, hb6⟩
        have HB6 := Lib.hid (HZ.out.b.trans (hb6.mono HZ.out.b.size))
        clear hb6 HZ
        go_wp2
        go_ret
        exact ⟨rfl, HB6.out⟩
end Go.Proofs.YteaincdeoajkeaaGreatDoor.Mm
end
section
/- Package walk: Walk of the program. -/
namespace Go.Proofs.YteaincdeoajkeaaGreatDoor.Wa
open Go.RowKit Go.Shelf Ut Oc Vw
set_option maxRecDepth 100000
set_option linter.unusedVariables false
set_option maxHeartbeats 4000000

/-- the world in which the tables' and the steps' slices are made -/
structure WE (U : World) (b s m n : Nat) (S : List Int) (L : List Gm.Pl) (D : List Bool) (q bp : Nat) (A0 A1 : Int) : Prop where
  pv : PV U b s m n S L D
  bq : b < q
  qp : bp = q + 3
  sz : U.heap.size = q + 7
  vb : Blk U q 25 [.pointer (some ⟨b, 0, none⟩)]
  rb : Blk U (q + 1) 114 stz.cs
  tb : Blk U (bp + 1 + 1) 197 [.int .i64 A0, .pointer (some ⟨q + 2, 4, none⟩), .func (.func 103) #[] #[.pointer (some ⟨bp, 0, none⟩)], .int .i64 A1, .pointer (some ⟨q + 2, 5, none⟩), .func (.func 105) #[] #[.pointer (some ⟨q + 2, 0, none⟩)]]
  fb : Blk U (bp + 1 + 1 + 1) 200 [.func (.func 107) #[] #[.pointer (some ⟨q, 0, none⟩), .pointer (some ⟨bp, 0, none⟩), .pointer (some ⟨bp + 1, 0, none⟩)], .func (.func 109) #[] #[.pointer (some ⟨bp, 0, none⟩), .pointer (some ⟨bp + 1, 0, none⟩)]]
/-- .. in which a walk stands somewhere -/
structure WS (U W : World) (q bp : Nat) (t : Stp) (pg : Int) (u : Nat) : Prop where
  k : Kq [q + 2, bp, bp + 1] U W
  sb : Blk W (q + 2) 114 t.cs
  pb : Blk W bp 3 [.int .i64 pg]
  wb : Blk W (bp + 1) 31 [.int .u32 (u : Int)]

section
variable {U W W' : World} {b s m n q bp : Nat} {S : List Int} {L : List Gm.Pl} {D : List Bool} {A0 A1 : Int} {t : Stp} {pg : Int} {u : Nat}
theorem WS.more (h : WS U W q bp t pg u) (hb : Below W.heap.size W W') : WS U W' q bp t pg u :=
  ⟨h.k.trans (Kq.of_below hb), h.sb.more hb, h.pb.more hb, h.wb.more hb⟩
theorem WS.fault (h : WS U W q bp t pg u) (E : WE U b s m n S L D q bp A0 A1) (f : Int) : WS U (W.setCell ⟨q + 2, 3, none⟩ (.int .i64 f)) q bp ⟨t.o, t.r, t.g, f, t.rt, t.lf⟩ pg u := by
  have e := E.qp
  exact ⟨h.k.setCell (q + 2) 3 _ (.inl (by simp)), h.sb.set 3 (.int .i64 f), h.pb.of_block (Below.heap_setCell _ _ _ _ (by simp; omega)), h.wb.of_block (Below.heap_setCell _ _ _ _ (by simp; omega))⟩
theorem WS.pv (h : WS U W q bp t pg u) (E : WE U b s m n S L D q bp A0 A1) : PV W b s m n S L D := by
  have e := E.qp
  have h1 := E.bq
  have h2 := E.pv.sm
  have h3 := E.pv.mb
  exact E.pv.kq h.k (by simp; omega) (by simp; omega) (by simp; omega)
theorem WS.vb (h : WS U W q bp t pg u) (E : WE U b s m n S L D q bp A0 A1) : Blk W q 25 [.pointer (some ⟨b, 0, none⟩)] := E.vb.kq h.k (by have := E.qp; simp; omega)
theorem WS.rb (h : WS U W q bp t pg u) (E : WE U b s m n S L D q bp A0 A1) : Blk W (q + 1) 114 stz.cs := E.rb.kq h.k (by have := E.qp; simp; omega)
theorem WS.tb (h : WS U W q bp t pg u) (E : WE U b s m n S L D q bp A0 A1) : Blk W (bp + 1 + 1) 197 [.int .i64 A0, .pointer (some ⟨q + 2, 4, none⟩), .func (.func 103) #[] #[.pointer (some ⟨bp, 0, none⟩)], .int .i64 A1, .pointer (some ⟨q + 2, 5, none⟩), .func (.func 105) #[] #[.pointer (some ⟨q + 2, 0, none⟩)]] := E.tb.kq h.k (by have := E.qp; simp; omega)
theorem WS.fb (h : WS U W q bp t pg u) (E : WE U b s m n S L D q bp A0 A1) : Blk W (bp + 1 + 1 + 1) 200 [.func (.func 107) #[] #[.pointer (some ⟨q, 0, none⟩), .pointer (some ⟨bp, 0, none⟩), .pointer (some ⟨bp + 1, 0, none⟩)], .func (.func 109) #[] #[.pointer (some ⟨bp, 0, none⟩), .pointer (some ⟨bp + 1, 0, none⟩)]] := E.fb.kq h.k (by have := E.qp; simp; omega)
theorem WS.blk (h : WS U W q bp t pg u) (E : WE U b s m n S L D q bp A0 A1) {x : Nat} {ty : TypeId} {cs : List Value} (hx : U.heap.size ≤ x) (k : Kq [q + 2, bp, bp + 1] W W') (hb : Blk W x ty cs) : Blk W' x ty cs := hb.kq k (by have := E.qp; have := E.sz; simp; omega)

theorem c_entry (E : WE U b s m n S L D q bp A0 A1) (H : WS U W q bp t pg u) (a : Int) (i x : Nat) (f : Int) (ha : (i : Int) = a) (hi : i < 16) (hf : noneF n L pg = f) (hx : wordT n S L pg i = x) (tq : Addr) (fn : Nat) (cs : Array Value) :
    Calls Tryz.prog 107 #[.agg #[.int .i64 a, .pointer (some tq), .func (.func fn) #[] cs], .pointer (some ⟨q, 0, none⟩), .pointer (some ⟨bp, 0, none⟩), .pointer (some ⟨bp + 1, 0, none⟩)] W fun e w' => e = .returned (.int .i64 f) ∧ WS U w' q bp t pg x ∧ Kq [q + 2, bp, bp + 1] W w' := by
  subst ha
  have e := E.qp
  exact (step_entry pg f i x _ _ _ hi hf hx (H.pv E) (H.vb E) H.pb H.wb tq rfl fn cs rfl).mono fun e w' ⟨he, hw, hk⟩ => ⟨he, ⟨H.k.trans (hk.more (by simp)), H.sb.kq hk (by simp; omega), H.pb.kq hk (by simp), hw⟩, hk.more (by simp)⟩
theorem c_root (E : WE U b s m n S L D q bp A0 A1) (H : WS U W q bp t pg u) (a f z : Int) (i : Nat) (ha : (i : Int) = a) (hu : u < 4294967296) (hf : Pe.tabF u = f) (hz : Pe.gF (Pe.tabF u) u = z) :
    Calls Tryz.prog 109 #[.agg #[.int .i64 a, .pointer (some ⟨q + 2, 4, none⟩), .func (.func 103) #[] #[.pointer (some ⟨bp, 0, none⟩)]], .pointer (some ⟨bp, 0, none⟩), .pointer (some ⟨bp + 1, 0, none⟩)] W fun e w' => e = .returned (.int .i64 f) ∧ WS U w' q bp ⟨t.o, t.r, t.g, t.f, pg, t.lf⟩ z u ∧ Kq [q + 2, bp, bp + 1] W w' := by
  subst ha
  have e := E.qp
  refine step_take pg f i 4 u _ _ t (fun _ _ => rfl) H.sb H.pb H.wb (by omega) (by omega) t.rt rfl (fun w' => WS U w' q bp ⟨t.o, t.r, t.g, t.f, pg, t.lf⟩ z u ∧ Kq [q + 2, bp, bp + 1] W w') fun X hs hp hk => ?_
  exact (take_root u z f pg hu hz hf hp).mono fun e w' ⟨he, hp', hk'⟩ => ⟨he, ⟨(H.k.trans (hk.more (by simp))).trans (hk'.more (by simp)), hs.kq hk' (by simp; omega), hp', (H.wb.kq hk (by simp; omega)).kq hk' (by simp)⟩, (hk.more (by simp)).trans (hk'.more (by simp))⟩
theorem c_leaf (E : WE U b s m n S L D q bp A0 A1) (H : WS U W q bp t pg u) (a f : Int) (i : Nat) (ha : (i : Int) = a) (hu : u < 4294967296) (hf : Pe.leafF u = f) :
    Calls Tryz.prog 109 #[.agg #[.int .i64 a, .pointer (some ⟨q + 2, 5, none⟩), .func (.func 105) #[] #[.pointer (some ⟨q + 2, 0, none⟩)]], .pointer (some ⟨bp, 0, none⟩), .pointer (some ⟨bp + 1, 0, none⟩)] W fun e w' => e = .returned (.int .i64 f) ∧ WS U w' q bp ⟨Pe.oF f, Pe.rF f u, Pe.gF f u, t.f, t.rt, pg⟩ pg u ∧ Kq [q + 2, bp, bp + 1] W w' := by
  subst ha
  have e := E.qp
  refine step_take pg f i 5 u _ _ t (fun _ _ => rfl) H.sb H.pb H.wb (by omega) (by omega) t.lf rfl (fun w' => WS U w' q bp ⟨Pe.oF f, Pe.rF f u, Pe.gF f u, t.f, t.rt, pg⟩ pg u ∧ Kq [q + 2, bp, bp + 1] W w') fun X hs hp hk => ?_
  exact (take_leaf (t := ⟨t.o, t.r, t.g, t.f, t.rt, pg⟩) u f hu hf hs).mono fun e w' ⟨he, hs', hk'⟩ => ⟨he, ⟨(H.k.trans (hk.more (by simp))).trans (hk'.more (by simp)), hs', hp.kq hk' (by simp; omega), (H.wb.kq hk (by simp; omega)).kq hk' (by simp; omega)⟩, (hk.more (by simp)).trans (hk'.more (by simp))⟩
end

/-- how it begins -/
theorem walk_env (b s m n : Nat) (S : List Int) (L : List Gm.Pl) (D : List Bool) (p z : Int) (w V : World) (hP : PV w b s m n S L D) (hB : Below w.heap.size w V) (hs : V.heap.size = w.heap.size + 3) (hv : Blk V w.heap.size 25 [.pointer (some ⟨b, 0, none⟩)]) (hr : Blk V (w.heap.size + 1) 114 stz.cs) (hn : Blk V (w.heap.size + 2) 114 st0.cs) :
    ∃ U, U = (((V.alloc (.cells #[.int .i64 p] 3)).alloc (.cells #[.int .u32 0] 31)).alloc (.cells #[.int .i64 (z / 1024), .pointer (some ⟨w.heap.size + 2, 4, none⟩), .func (.func 103) #[] #[.pointer (some ⟨V.heap.size, 0, none⟩)], .int .i64 (z % 1024 / 64), .pointer (some ⟨w.heap.size + 2, 5, none⟩), .func (.func 105) #[] #[.pointer (some ⟨w.heap.size + 2, 0, none⟩)]] 197)).alloc (.cells #[.func (.func 107) #[] #[.pointer (some ⟨w.heap.size, 0, none⟩), .pointer (some ⟨V.heap.size, 0, none⟩), .pointer (some ⟨V.heap.size + 1, 0, none⟩)], .func (.func 109) #[] #[.pointer (some ⟨V.heap.size, 0, none⟩), .pointer (some ⟨V.heap.size + 1, 0, none⟩)]] 200) ∧
      WE U b s m n S L D w.heap.size V.heap.size (z / 1024) (z % 1024 / 64) ∧ WS U U w.heap.size V.heap.size st0 p 0 := by
  obtain ⟨V1, e1⟩ : ∃ X, X = V.alloc (.cells #[.int .i64 p] 3) := ⟨_, rfl⟩
  obtain ⟨V2, e2⟩ : ∃ X, X = V1.alloc (.cells #[.int .u32 0] 31) := ⟨_, rfl⟩
  have b1 : Below V.heap.size V V1 := by rw [e1]; exact (Below.refl _ _).alloc (Nat.le_refl _) _
  have b2 : Below V1.heap.size V1 V2 := by rw [e2]; exact (Below.refl _ _).alloc (Nat.le_refl _) _
  have n1 : Blk V1 V.heap.size 3 [.int .i64 p] := by rw [e1]; exact Blk.new _ _ _
  have n2 : Blk V2 V1.heap.size 31 [.int .u32 0] := by rw [e2]; exact Blk.new _ _ _
  have z1 : V1.heap.size = V.heap.size + 1 := by rw [e1]; simp
  have z2 : V2.heap.size = V.heap.size + 1 + 1 := by rw [e2]; simp; omega
  rw [z1] at n2
  refine ⟨_, rfl, ?_, ?_⟩
  all_goals
    rw [← e1, ← e2]
    generalize hc3 : (#[.int .i64 (z / 1024), .pointer (some ⟨w.heap.size + 2, 4, none⟩), .func (.func 103) #[] #[.pointer (some ⟨V.heap.size, 0, none⟩)], .int .i64 (z % 1024 / 64), .pointer (some ⟨w.heap.size + 2, 5, none⟩), .func (.func 105) #[] #[.pointer (some ⟨w.heap.size + 2, 0, none⟩)]] : Array Value) = c3
    generalize hc4 : (#[.func (.func 107) #[] #[.pointer (some ⟨w.heap.size, 0, none⟩), .pointer (some ⟨V.heap.size, 0, none⟩), .pointer (some ⟨V.heap.size + 1, 0, none⟩)], .func (.func 109) #[] #[.pointer (some ⟨V.heap.size, 0, none⟩), .pointer (some ⟨V.heap.size + 1, 0, none⟩)]] : Array Value) = c4
    obtain ⟨V3, e3⟩ : ∃ X, X = V2.alloc (.cells c3 197) := ⟨_, rfl⟩
    rw [← e3]
    have b3 : Below V2.heap.size V2 V3 := by rw [e3]; exact (Below.refl _ _).alloc (Nat.le_refl _) _
    have n3 : V3.heap[V2.heap.size]? = some (.cells c3 197 (0, 0)) := by rw [e3]; exact heap_alloc_new _ _
    have z3 : V3.heap.size = V.heap.size + 1 + 1 + 1 := by rw [e3]; simp; omega
    obtain ⟨V4, e4⟩ : ∃ X, X = V3.alloc (.cells c4 200) := ⟨_, rfl⟩
    rw [← e4]
    have b4 : Below V3.heap.size V3 V4 := by rw [e4]; exact (Below.refl _ _).alloc (Nat.le_refl _) _
    have n4 : V4.heap[V3.heap.size]? = some (.cells c4 200 (0, 0)) := by rw [e4]; exact heap_alloc_new _ _
    have z4 : V4.heap.size = V.heap.size + 1 + 1 + 1 + 1 := by rw [e4]; simp; omega
    have b12 : Below V.heap.size V V4 := ((b1.trans (b2.mono b1.size)).trans (b3.mono (by omega))).trans (b4.mono (by omega))
    have b24 : Below V1.heap.size V1 V4 := (b2.trans (b3.mono (by omega))).trans (b4.mono (by omega))
    have b34 : Below V2.heap.size V2 V4 := b3.trans (b4.mono (by omega))
    rw [z2] at n3
    rw [z3] at n4
    subst hc3 hc4
  · exact ⟨hP.more (hB.trans (b12.mono (by omega))), hP.lt, hs, by omega, hv.more b12, hr.more b12, (b4.block _ (by omega)).trans n3, n4⟩
  · exact ⟨Kq.refl _ _, hn.more b12, n1.more b24, n2.more b34⟩
end Go.Proofs.YteaincdeoajkeaaGreatDoor.Wa
end
