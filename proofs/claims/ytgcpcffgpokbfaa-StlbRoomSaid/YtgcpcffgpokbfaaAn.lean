/- Package stlb: the heap's method Swap. -/
import Derived.Test.YtgcpcffgpokbfaaAm
import Derived.Test.YtgcpcffgpokbfaaRe
namespace Go.Proofs.Ytgcpcffgpokbfaa.Sb
open Go.RowKit Ut Hg
set_option maxRecDepth 100000
set_option linter.unusedVariables false
set_option maxHeartbeats 4000000

theorem size_used : (Try.prog.info? 57).map (·.size) = some 6 := by kernel_rfl
theorem usC_one (u : Us) : ∀ v ∈ usC u, v.oneCell' = true := by
  intro v hv
  simp only [usC, List.mem_cons, List.not_mem_nil, or_false] at hv
  rcases hv with rfl | rfl | rfl | rfl | rfl | rfl <;> rfl
/-- place i is written whole -/
def setU (W : World) (b : Nat) (pre : List Value) (n : Int) (L : List Us) : World := W.setRow b (pre ++ .int .i64 n :: flatU L).toArray
theorem flatU_splice (l : List Us) : ∀ k (u : Us), k < l.length → splice (flatU l) (k * 6) (usC u) = flatU (l.set k u) := by
  induction l with
  | nil => intro k u hk; simp at hk
  | cons q l ih =>
    intro k u hk
    cases k with
    | zero => rfl
    | succ k =>
      have h := ih k u (by simpa using hk)
      have e6 : (k + 1) * 6 = k * 6 + 1 + 1 + 1 + 1 + 1 + 1 := by omega
      unfold splice at h ⊢
      rw [e6, List.set_cons_succ]
      have e7 : k * 6 + 1 + 1 + 1 + 1 + 1 + 1 + (usC u).length = k * 6 + (usC u).length + 1 + 1 + 1 + 1 + 1 + 1 := by omega
      rw [e7]
      simp only [flatU, List.take_succ_cons, List.drop_succ_cons, List.cons_append, h]
theorem splice_pre (pre : List Value) (x : Value) (f cs : List Value) (o k : Nat) (ho : pre.length = o) : splice (pre ++ x :: f) (o + 1 + k) cs = pre ++ x :: splice f k cs := by
  subst ho
  unfold splice
  have h1 : ∀ m, (pre ++ x :: f).take (pre.length + 1 + m) = pre ++ x :: f.take m := fun m => by
    rw [List.take_append, List.take_of_length_le (by omega), show pre.length + 1 + m - pre.length = m + 1 by omega, List.take_succ_cons]
  have h2 : ∀ m, (pre ++ x :: f).drop (pre.length + 1 + m) = f.drop m := fun m => by
    rw [List.drop_append, List.drop_of_length_le (by omega), show pre.length + 1 + m - pre.length = m + 1 by omega, List.drop_succ_cons]
    rfl
  rw [h1, show pre.length + 1 + k + cs.length = pre.length + 1 + (k + cs.length) by omega, h2, List.append_assoc]
  rfl
section
variable {W : World} {b o : Nat} {t : TypeId} {pre : List Value} {n : Int} {l L : List Us}
theorem RB.row (h : RB W b t pre n L) (L2 : List Us) (h2 : L2.length = 5) : RB (setU W b pre n L2) b t pre n L2 := ⟨h2, h.2.row _⟩
theorem setU_kq (T : List Nat) (W : World) (b : Nat) (pre : List Value) (n : Int) (L : List Us) (hb : b ∈ T) : Kq T W (setU W b pre n L) := ⟨rfl, rfl, rfl, by unfold setU; rw [size_setRow]; exact Nat.le_refl _, fun q hq hn => setRow_other _ _ _ _ (fun e => hn (by rw [e]; exact hb))⟩
theorem usV_toArray (u : Us) : usV u = .agg (usC u).toArray := rfl

/-- what stands while two places are exchanged: a first, then b -/
def SwI (W : World) (b : Nat) (t : TypeId) (pre : List Value) (n : Int) (L L1 : List Us) (L0 : Bool) (W' : World) : Prop := Kq [b] W W' ∧ RB W' b t pre n (cond L0 L1 L)
theorem swap18 (h : LB W b t pre l) (ho : pre.length = o) (i j : Nat) (hi : i < l.length) (hj : j < l.length) :
    Calls Try.prog 65 #[.pointer (some ⟨b, o, none⟩), .int .i64 i, .int .i64 j] W fun e W' => e = .returned (.tuple #[]) ∧ LB W' b t pre (swapL l i j) ∧ Kq [b] W W' := by
  have hl := h.len
  have d1 : (0 : Int) ≤ (i : Int) ∧ (i : Int) < 5 := by omega
  have d2 : (0 : Int) ≤ (j : Int) ∧ (j : Int) < 5 := by omega
  obtain ⟨z, hr⟩ := h
  have h5 := hr.1
  obtain ⟨x, hx⟩ : ∃ x, l[i] = x := ⟨_, rfl⟩
  obtain ⟨y0, hy⟩ : ∃ x, l[j] = x := ⟨_, rfl⟩
  have hxi : (l ++ z)[i]? = some x := by rw [List.getElem?_append_left hi, List.getElem?_eq_getElem hi, hx]
  have hyj : (l ++ z)[j]? = some y0 := by rw [List.getElem?_append_left hj, List.getElem?_eq_getElem hj, hy]
  have HS : Hid (swapL l i j ++ z = ((l ++ z).set i y0).set j x) := Lib.hid (by
    unfold swapL
    have e1 : l.getD j default = y0 := by rw [List.getD_eq_getElem?_getD, List.getElem?_eq_getElem hj]; exact hy
    have e2 : l.getD i default = x := by rw [List.getD_eq_getElem?_getD, List.getElem?_eq_getElem hi]; exact hx
    rw [e1, e2, List.set_append_left _ _ hi, List.set_append_left _ _ (by rw [List.length_set]; exact hj)])
  have HLN : Hid ((swapL l i j).length = l.length) := Lib.hid (length_swapL l i j)
  have hiL : i < (l ++ z).length := by rw [List.length_append]; omega
  have hjL : j < (l ++ z).length := by rw [List.length_append]; omega
  generalize hn : ((l.length : Nat) : Int) = n at hr
  have HN := Lib.hid hn
  clear hn
  generalize hLL : l ++ z = LM at hr hxi hyj HS hiL hjL h5
  have hi5 : i < 5 := by omega
  have hj5 : j < 5 := by omega
  have HR := Lib.hid hr
  have HXI := Lib.hid hxi
  have HYJ := Lib.hid hyj
  have HI := Lib.hid hi5
  have HJ := Lib.hid hj5
  have H5 := Lib.hid h5
  have HO := Lib.hid ho
  clear hr hxi hyj hLL hx hy hi hj hl hiL hjL h5 hi5 hj5 ho
  have hlt := HR.out.lt
  have HS1 : Hid (splice (pre ++ .int .i64 n :: flatU LM) (o + 1 + i * 6) (usC y0) = pre ++ .int .i64 n :: flatU (LM.set i y0)) := Lib.hid (by rw [splice_pre _ _ _ _ o _ HO.out, flatU_splice LM i y0 (by rw [H5.out]; exact HI.out)])
  have HS2 : Hid (splice (pre ++ .int .i64 n :: flatU (LM.set i y0)) (o + 1 + j * 6) (usC x) = pre ++ .int .i64 n :: flatU ((LM.set i y0).set j x)) := Lib.hid (by rw [splice_pre _ _ _ _ o _ HO.out, flatU_splice _ j x (by rw [List.length_set, H5.out]; exact HJ.out)])
  have HF : Hid (∀ (M : List Us) (k : Nat), M.length = 5 → k < 5 → o + 1 + k * 6 + 6 ≤ (pre ++ .int .i64 n :: flatU M).length) := Lib.hid fun M k h1 h2 => by rw [List.length_append, List.length_cons, length_flatU, h1, HO.out]; omega
  go_enter Try.func65, Try.ntmps65
  go_upto_region 0 with fail
  apply wp_region_autoL [6, 7, 8, 9, 10, 11, 12, 13, 14, 15, 16, 17, 18, 19, 20, 21, 22, 23, 24, 28, 25, 26, 27] [_, _, _, _, _, _, _, _, _, _, _, _, _, _, _, _, _, _, _, undef, _, _, _] (fun L' W' => SwI W b t pre n LM (LM.set i y0) (L' 19) W')
  case hm => kernel_rfl
  case hT => intro y; simp only [setAll, List.setIfInBounds_toArray, List.set_cons_succ, List.set_cons_zero, List.set_nil]; exact rfl
  case hok => kernel_rfl
  case hn => decide
  case hw => exact (fun L' h0 => ⟨kq_drew (Kq.refl _ _), by rw [h0 19 (by decide)]; exact ⟨HR.out.1, HR.out.2⟩⟩)
  case hs =>
    refine autoC_op 6 [] (by kernel_rfl) (fun L y w' hL hC HW hd K hK => ?_) ?_
    · go_simp
      refine hK _ _ ?_ ?_ HW
      · simp [upd]
      · exact rfl
    refine autoC_op 7 [] (by kernel_rfl) (fun L y w' hL hC HW hd K hK => ?_) ?_
    · go_simp
      refine hK _ _ ?_ ?_ HW
      · simp [upd]
      · exact rfl
    refine autoC_op 8 [] (by kernel_rfl) (fun L y w' hL hC HW hd K hK => ?_) ?_
    · go_simp
      refine hK _ _ ?_ ?_ HW
      · simp [upd]
      · exact rfl
    refine autoC_op 9 [] (by kernel_rfl) (fun L y w' hL hC HW hd K hK => ?_) ?_
    · go_simp
      refine hK _ _ ?_ ?_ HW
      · simp [upd]
      · exact rfl
    refine autoC_op 10 [] (by kernel_rfl) (fun L y w' hL hC HW hd K hK => ?_) ?_
    · go_simp
      refine hK _ _ ?_ ?_ HW
      · simp [upd]
      · exact rfl
    refine autoC_op 11 [] (by kernel_rfl) (fun L y w' hL hC HW hd K hK => ?_) ?_
    · go_simp
      refine hK _ _ ?_ ?_ HW
      · simp [upd]
      · exact rfl
    refine autoC_op 12 [4] (by kernel_rfl) (fun L y w' hL hC HW hd K hK => ?_) ?_
    · have e4 := hd_nth (hd 4 (by simp)) rfl
      go_simp
      refine hK _ _ ?_ ?_ HW
      · simp [upd, e4]
      · exact rfl
    refine autoC_op 13 [6] (by kernel_rfl) (fun L y w' hL hC HW hd K hK => ?_) ?_
    · have e6 := hd_nth (hd 6 (by simp)) rfl
      go_simp
      refine hK _ _ ?_ ?_ HW
      · simp [upd, e6]
      · exact rfl
    refine autoC_op 14 [7, 5] (by kernel_rfl) (fun L y w' hL hC HW hd K hK => ?_) ?_
    · have e5 := hd_nth (hd 5 (by simp)) rfl
      have e7 := hd_nth (hd 7 (by simp)) rfl
      go_simp
      refine hK _ _ ?_ ?_ HW
      · simp [upd, e5, e7]
      · exact rfl
    refine autoC_op 15 [8] (by kernel_rfl) (fun L y w' hL hC HW hd K hK => ?_) ?_
    · have e8 := hd_nth (hd 8 (by simp)) rfl
      have hno : L 19 = false := Closed.not hC 19 9 (by kernel_rfl) hL
      have hq := HW.2
      rw [hno] at hq
      obtain ⟨c0, c1, c2, c3, c4, c5⟩ := RB.cells hq HO.out j y0 HYJ.out
      have cb := RB.lt hq
      go_simp
      refine hK _ _ ?_ ?_ HW
      · simp [upd, e8]
      · exact rfl
    refine autoC_op 16 [] (by kernel_rfl) (fun L y w' hL hC HW hd K hK => ?_) ?_
    · go_simp
      refine hK _ _ ?_ ?_ HW
      · simp [upd]
      · exact rfl
    refine autoC_op 17 [] (by kernel_rfl) (fun L y w' hL hC HW hd K hK => ?_) ?_
    · go_simp
      refine hK _ _ ?_ ?_ HW
      · simp [upd]
      · exact rfl
    refine autoC_op 18 [10] (by kernel_rfl) (fun L y w' hL hC HW hd K hK => ?_) ?_
    · have e10 := hd_nth (hd 10 (by simp)) rfl
      go_simp
      refine hK _ _ ?_ ?_ HW
      · simp [upd, e10]
      · exact rfl
    refine autoC_op 19 [12] (by kernel_rfl) (fun L y w' hL hC HW hd K hK => ?_) ?_
    · have e12 := hd_nth (hd 12 (by simp)) rfl
      go_simp
      refine hK _ _ ?_ ?_ HW
      · simp [upd, e12]
      · exact rfl
    refine autoC_op 20 [13, 11] (by kernel_rfl) (fun L y w' hL hC HW hd K hK => ?_) ?_
    · have e11 := hd_nth (hd 11 (by simp)) rfl
      have e13 := hd_nth (hd 13 (by simp)) rfl
      go_simp
      refine hK _ _ ?_ ?_ HW
      · simp [upd, e11, e13]
      · exact rfl
    refine autoC_op 21 [14] (by kernel_rfl) (fun L y w' hL hC HW hd K hK => ?_) ?_
    · have e14 := hd_nth (hd 14 (by simp)) rfl
      have hno : L 19 = false := Closed.not hC 19 15 (by kernel_rfl) hL
      have hq := HW.2
      rw [hno] at hq
      obtain ⟨c0, c1, c2, c3, c4, c5⟩ := RB.cells hq HO.out i x HXI.out
      have cb := RB.lt hq
      go_simp
      refine hK _ _ ?_ ?_ HW
      · simp [upd, e14]
      · exact rfl
    refine autoC_op 22 [0] (by kernel_rfl) (fun L y w' hL hC HW hd K hK => ?_) ?_
    · have e0 := hd_nth (hd 0 (by simp)) rfl
      go_simp
      refine hK _ _ ?_ ?_ HW
      · simp [upd, e0]
      · exact rfl
    refine autoC_op 23 [16] (by kernel_rfl) (fun L y w' hL hC HW hd K hK => ?_) ?_
    · have e16 := hd_nth (hd 16 (by simp)) rfl
      go_simp
      refine hK _ _ ?_ ?_ HW
      · simp [upd, e16]
      · exact rfl
    refine autoC_op 24 [17, 1, 0, 1, 4, 5, 6, 7, 8, 9, 15] (by kernel_rfl) (fun L y w' hL hC HW hd K hK => ?_) ?_
    · have e0 := hd_nth (hd 0 (by simp)) rfl
      have e1 := hd_nth (hd 1 (by simp)) rfl
      have e4 := hd_nth (hd 4 (by simp)) rfl
      have e5 := hd_nth (hd 5 (by simp)) rfl
      have e6 := hd_nth (hd 6 (by simp)) rfl
      have e7 := hd_nth (hd 7 (by simp)) rfl
      have e8 := hd_nth (hd 8 (by simp)) rfl
      have e9 := hd_nth (hd 9 (by simp)) rfl
      have e15 := hd_nth (hd 15 (by simp)) rfl
      have e17 := hd_nth (hd 17 (by simp)) rfl
      go_simp
      refine hK _ _ ?_ ?_ HW
      · simp [upd, e0, e1, e4, e5, e6, e7, e8, e9, e15, e17]
      · exact rfl
    refine autoC_op 28 [18, 9, 0, 1, 4, 5, 6, 7, 8, 9, 15] (by kernel_rfl) (fun L y w' hL hC HW hd K hK => ?_) ?_
    · have e0 := hd_nth (hd 0 (by simp)) rfl
      have e1 := hd_nth (hd 1 (by simp)) rfl
      have e4 := hd_nth (hd 4 (by simp)) rfl
      have e5 := hd_nth (hd 5 (by simp)) rfl
      have e6 := hd_nth (hd 6 (by simp)) rfl
      have e7 := hd_nth (hd 7 (by simp)) rfl
      have e8 := hd_nth (hd 8 (by simp)) rfl
      have e9 := hd_nth (hd 9 (by simp)) rfl
      have e15 := hd_nth (hd 15 (by simp)) rfl
      have e18 := hd_nth (hd 18 (by simp)) rfl
      have hq : RB w' b t pre n LM := by have q := HW.2; rw [hL] at q; exact q
      refine step_store_blk (a := ⟨_, _⟩) (by kernel_rfl) 57 (.tmp 24) (.tmp 15) (by exact rfl) b (o + 1 + i * 6) t _ (usC y0) (by exact e18) (by exact e9) hq.2 (by rw [size_used]; rfl) (HF.out _ _ H5.out HI.out) (usC_one _) ?_
      rw [show splice (pre ++ .int .i64 n :: flatU LM) (o + 1 + i * 6) (usC y0) = _ from HS1.out]
      refine hK _ _ ?_ ?_ ⟨HW.1.trans (setU_kq [b] _ b pre n _ (by simp)), RB.row hq _ (by rw [List.length_set]; exact H5.out)⟩
      · simp [upd, e0, e1, e4, e5, e6, e7, e8, e9, e15, e18]
      · exact rfl
    refine autoC_op 25 [2] (by kernel_rfl) (fun L y w' hL hC HW hd K hK => ?_) ?_
    · have e2 := hd_nth (hd 2 (by simp)) rfl
      go_simp
      refine hK _ _ ?_ ?_ HW
      · simp [upd, e2]
      · exact rfl
    refine autoC_op 26 [20] (by kernel_rfl) (fun L y w' hL hC HW hd K hK => ?_) ?_
    · have e20 := hd_nth (hd 20 (by simp)) rfl
      go_simp
      refine hK _ _ ?_ ?_ HW
      · simp [upd, e20]
      · exact rfl
    refine autoC_op 27 [21, 3, 0, 1, 2, 3, 4, 5, 6, 7, 8, 9, 10, 11, 12, 13, 14, 15, 16, 17, 18, 19] (by kernel_rfl) (fun L y w' hL hC HW hd K hK => ?_) ?_
    · have e0 := hd_nth (hd 0 (by simp)) rfl
      have e1 := hd_nth (hd 1 (by simp)) rfl
      have e2 := hd_nth (hd 2 (by simp)) rfl
      have e3 := hd_nth (hd 3 (by simp)) rfl
      have e4 := hd_nth (hd 4 (by simp)) rfl
      have e5 := hd_nth (hd 5 (by simp)) rfl
      have e6 := hd_nth (hd 6 (by simp)) rfl
      have e7 := hd_nth (hd 7 (by simp)) rfl
      have e8 := hd_nth (hd 8 (by simp)) rfl
      have e9 := hd_nth (hd 9 (by simp)) rfl
      have e10 := hd_nth (hd 10 (by simp)) rfl
      have e11 := hd_nth (hd 11 (by simp)) rfl
      have e12 := hd_nth (hd 12 (by simp)) rfl
      have e13 := hd_nth (hd 13 (by simp)) rfl
      have e14 := hd_nth (hd 14 (by simp)) rfl
      have e15 := hd_nth (hd 15 (by simp)) rfl
      have e16 := hd_nth (hd 16 (by simp)) rfl
      have e17 := hd_nth (hd 17 (by simp)) rfl
      have e18 := hd_nth (hd 18 (by simp)) rfl
      have e21 := hd_nth (hd 21 (by simp)) rfl
      go_simp
      refine hK _ _ ?_ ?_ HW
      · simp [upd, e0, e1, e2, e3, e4, e5, e6, e7, e8, e9, e10, e11, e12, e13, e14, e15, e16, e17, e18, e21]
      · exact rfl
    refine autoL_last fun L y w' hLs HW hd K hK => ?_
    have e0 := hd_nth (hd 0 (by omega)) rfl
    have e1 := hd_nth (hd 1 (by omega)) rfl
    have e2 := hd_nth (hd 2 (by omega)) rfl
    have e3 := hd_nth (hd 3 (by omega)) rfl
    have e4 := hd_nth (hd 4 (by omega)) rfl
    have e5 := hd_nth (hd 5 (by omega)) rfl
    have e6 := hd_nth (hd 6 (by omega)) rfl
    have e7 := hd_nth (hd 7 (by omega)) rfl
    have e8 := hd_nth (hd 8 (by omega)) rfl
    have e9 := hd_nth (hd 9 (by omega)) rfl
    have e10 := hd_nth (hd 10 (by omega)) rfl
    have e11 := hd_nth (hd 11 (by omega)) rfl
    have e12 := hd_nth (hd 12 (by omega)) rfl
    have e13 := hd_nth (hd 13 (by omega)) rfl
    have e14 := hd_nth (hd 14 (by omega)) rfl
    have e15 := hd_nth (hd 15 (by omega)) rfl
    have e16 := hd_nth (hd 16 (by omega)) rfl
    have e17 := hd_nth (hd 17 (by omega)) rfl
    have e18 := hd_nth (hd 18 (by omega)) rfl
    have e20 := hd_nth (hd 20 (by omega)) rfl
    have e21 := hd_nth (hd 21 (by omega)) rfl
    have e22 := hd_nth (hd 22 (by omega)) rfl
    have hq : RB w' b t pre n (LM.set i y0) := by
      have q := HW.2
      rw [hLs 19 (by decide)] at q
      exact q
    refine step_store_blk (a := ⟨_, _⟩) (by kernel_rfl) 57 (.tmp 27) (.tmp 21) (by exact rfl) b (o + 1 + j * 6) t _ (usC x) (by exact e22) (by exact e15) hq.2 (by rw [size_used]; rfl) (HF.out _ _ (by rw [List.length_set]; exact H5.out) HJ.out) (usC_one _) ?_
    rw [show splice (pre ++ .int .i64 n :: flatU (LM.set i y0)) (o + 1 + j * 6) (usC x) = _ from HS2.out]
    have HR9 := Lib.hid (RB.row hq ((LM.set i y0).set j x) (by rw [List.length_set, List.length_set]; exact H5.out))
    have HK9 := Lib.hid (HW.1.trans (setU_kq [b] _ b pre n ((LM.set i y0).set j x) (by simp)))
    refine hK _ _ ?_
    change Hid (RB (w'.setRow b _) _ _ _ _ _) at HR9
    change Hid (Kq _ _ (w'.setRow b _)) at HK9
    generalize w'.setRow b (pre ++ .int .i64 n :: flatU ((LM.set i y0).set j x)).toArray = W9 at HR9 HK9 ⊢
    clear hd hK K hq HW
    go_wp2
    go_end0
    exact ⟨rfl, ⟨z, by rw [HLN.out, HN.out, HS.out]; exact HR9.out⟩, HK9.out⟩
end
end Go.Proofs.Ytgcpcffgpokbfaa.Sb
