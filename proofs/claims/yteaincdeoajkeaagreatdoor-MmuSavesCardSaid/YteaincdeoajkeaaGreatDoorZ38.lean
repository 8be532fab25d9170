/- Several texts in one: Hz Am An Ao -/
import Derived.Test.YteaincdeoajkeaaGreatDoorZ36
import Derived.Test.YteaincdeoajkeaaGreatDoorZ37
import Derived.Test.YteaincdeoajkeaaGreatDoorZ28
section
/- The library's heaps: which method is meant, where the heap is a pointer and its methods have pointer receivers. Serves all packages. -/
namespace Go.Proofs.YteaincdeoajkeaaGreatDoor.Hg
open Go.RowKit Ut
set_option linter.unusedVariables false

theorem asked_ptr {P : Program} (n t elem f : Nat) (name : String) (a : Addr) (W : World)
  (hm : ((P.info? t).bind fun i => i.methods.find? (·.name == name)).map (fun m => (m.path.toList, m.func)) = some ([], some (f, true))) (hu : P.underlying t = some (.pointer elem)) :
  (method (n + 1) t (.pointer (some a)) name).run P W = .ok (f, .pointer (some a)) W := by
 cases hi : P.info? t with
 | none => rw [hi] at hm; cases hm
 | some i =>
  rw [hi] at hm
  simp only [Option.bind_some] at hm
  cases hf : i.methods.find? (·.name == name) with
  | none => rw [hf] at hm; cases hm
  | some m =>
   rw [hf] at hm
   simp only [Option.map_some, Option.some.injEq, Prod.mk.injEq] at hm
   obtain ⟨hp, hfn⟩ := hm
   have hpe : m.path = #[] := by
    cases hq : m.path with
    | mk l => rw [hq] at hp; simp at hp; rw [hp]
   unfold method
   simp [typeInfo, hi, hf, hpe, follow, hfn, receiverAt, run_underlying hu, Place.get]
/-- a heap behind a pointer, its method f: what f does is what is asked of it -/
theorem Asks.ptr (T elem f : Nat) (name : String) (a : Addr) (W : World) (D : Nat → Value → Prop)
  (hm : ((Tryz.prog.info? T).bind fun i => i.methods.find? (·.name == name)).map (fun m => (m.path.toList, m.func)) = some ([], some (f, true))) (hu : Tryz.prog.underlying T = some (.pointer elem))
  (hen : ∀ (args : Array Value) (w : World), (callFunc f args).run Tryz.prog w = .ok (.enter f args) w) (h : D f (.pointer (some a))) : Asks T (.pointer (some a)) name W D :=
 ⟨f, .pointer (some a), fun m => asked_ptr m T elem f name a W hm hu, hen, h⟩
end Go.Proofs.YteaincdeoajkeaaGreatDoor.Hg
end
section
/- Package stlb: the heap's methods Len, Less, Push. -/
namespace Go.Proofs.YteaincdeoajkeaaGreatDoor.Sb
open Go.RowKit Ut Hg
set_option maxRecDepth 100000
set_option linter.unusedVariables false
set_option maxHeartbeats 4000000

section
variable {W : World} {b o : Nat} {t : TypeId} {pre : List Value} {l : List Us}
theorem len18 (h : LB W b t pre l) (ho : pre.length = o) :
  Calls Tryz.prog 175 #[.pointer (some ⟨b, o, none⟩)] W fun e W' => e = .returned (.int .i64 (l.length : Nat)) ∧ W = W' := by
 have h0 := h.cell0 ho
 clear h
 go_enter Tryz.func175, Tryz.ntmps175
 go_wp2
 go_ret
 exact ⟨rfl, rfl⟩

theorem less18 (h : LB W b t pre l) (ho : pre.length = o) (i j : Nat) (hi : i < l.length) (hj : j < l.length) (r : Bool) (hr : decide (vl usK l i < vl usK l j) = r) :
  Calls Tryz.prog 176 #[.pointer (some ⟨b, o, none⟩), .int .i64 i, .int .i64 j] W fun e W' => e = .returned (.bool r) ∧ Below W.heap.size W W' := by
 have c1 := (h.cells ho i l[i] (List.getElem?_eq_getElem hi)).2.2.2.2.2
 have c2 := (h.cells ho j l[j] (List.getElem?_eq_getElem hj)).2.2.2.2.2
 have hl := h.len
 have d1 : (0 : Int) ≤ (i : Int) ∧ (i : Int) < 5 := by omega
 have d2 : (0 : Int) ≤ (j : Int) ∧ (j : Int) < 5 := by omega
 have HB := Lib.hid ((Below.refl W.heap.size W).drew)
 have e1 : vl usK l i = (l[i]).2 := by unfold vl usK; rw [List.getD_eq_getElem?_getD, List.getElem?_eq_getElem hi]; rfl
 have e2 : vl usK l j = (l[j]).2 := by unfold vl usK; rw [List.getD_eq_getElem?_getD, List.getElem?_eq_getElem hj]; rfl
 rw [e1, e2] at hr
 subst hr
 generalize (l[i]).2 = x at c1 ⊢
 generalize (l[j]).2 = y at c2 ⊢
 clear h hi hj hl e1 e2
 go_enter Tryz.func176, Tryz.ntmps176
 go_wp2
 go_region
 go_wp2
 go_ret
 exact ⟨rfl, HB.out⟩
end
end Go.Proofs.YteaincdeoajkeaaGreatDoor.Sb
end
section
/- Package stlb: the heap's method Swap. -/
namespace Go.Proofs.YteaincdeoajkeaaGreatDoor.Sb
open Go.RowKit Ut Hg
set_option maxRecDepth 100000
set_option linter.unusedVariables false
set_option maxHeartbeats 4000000

theorem size_used : (Tryz.prog.info? 170).map (·.size) = some 6 := by kernel_rfl
theorem usC_one (u : Us) : ∀ v ∈ usC u, v.oneCell' = true := by
 intro v hv
 simp only [usC, List.mem_cons, List.not_mem_nil, or_false] at hv
 rcases hv with rfl | rfl | rfl | rfl | rfl | rfl <;> rfl
/-- place i is written whole -/
def setU (W : World) (b : Nat) (pre : List Value) (n : Int) (L : List Us) : World := W.setRow b (pre ++ .int .i64 n :: flatU L).toArray
theorem flatU_splice (l : List Us) : ∀ k (u : Us), k < l.length → splice (flatU l) (k * 6) (usC u) = flatU (l.set k u) := by
 induction l with
 | nil => intro k u hk; simp at hk
 | cons q l ih =>
  intro k u hk
  cases k with
  | zero => rfl
  | succ k =>
   have h := ih k u (by simpa using hk)
   have e6 : (k + 1) * 6 = k * 6 + 1 + 1 + 1 + 1 + 1 + 1 := by omega
   unfold splice at h ⊢
   rw [e6, List.set_cons_succ]
   have e7 : k * 6 + 1 + 1 + 1 + 1 + 1 + 1 + (usC u).length = k * 6 + (usC u).length + 1 + 1 + 1 + 1 + 1 + 1 := by omega
   rw [e7]
   simp only [flatU, List.take_succ_cons, List.drop_succ_cons, List.cons_append, h]
theorem splice_pre (pre : List Value) (x : Value) (f cs : List Value) (o k : Nat) (ho : pre.length = o) : splice (pre ++ x :: f) (o + 1 + k) cs = pre ++ x :: splice f k cs := by
 subst ho
 unfold splice
 have h1 : ∀ m, (pre ++ x :: f).take (pre.length + 1 + m) = pre ++ x :: f.take m := fun m => by
  rw [List.take_append, List.take_of_length_le (by omega), show pre.length + 1 + m - pre.length = m + 1 by omega, List.take_succ_cons]
 have h2 : ∀ m, (pre ++ x :: f).drop (pre.length + 1 + m) = f.drop m := fun m => by
  rw [List.drop_append, List.drop_of_length_le (by omega), show pre.length + 1 + m - pre.length = m + 1 by omega, List.drop_succ_cons]
  rfl
 rw [h1, show pre.length + 1 + k + cs.length = pre.length + 1 + (k + cs.length) by omega, h2, List.append_assoc]
 rfl
section
variable {W : World} {b o : Nat} {t : TypeId} {pre : List Value} {n : Int} {l L : List Us}
theorem RB.row (h : RB W b t pre n L) (L2 : List Us) (h2 : L2.length = 5) : RB (setU W b pre n L2) b t pre n L2 := ⟨h2, h.2.row _⟩
theorem setU_kq (T : List Nat) (W : World) (b : Nat) (pre : List Value) (n : Int) (L : List Us) (hb : b ∈ T) : Kq T W (setU W b pre n L) := ⟨rfl, rfl, rfl, by unfold setU; rw [size_setRow]; exact Nat.le_refl _, fun q hq hn => setRow_other _ _ _ _ (fun e => hn (by rw [e]; exact hb))⟩
theorem usV_toArray (u : Us) : usV u = .agg (usC u).toArray := rfl

/-- what stands while two places are exchanged: a first, then b -/
def SwI (W : World) (b : Nat) (t : TypeId) (pre : List Value) (n : Int) (L L1 : List Us) (L0 : Bool) (W' : World) : Prop := Kq [b] W W' ∧ RB W' b t pre n (cond L0 L1 L)
theorem swap18 (h : LB W b t pre l) (ho : pre.length = o) (i j : Nat) (hi : i < l.length) (hj : j < l.length) :
  Calls Tryz.prog 179 #[.pointer (some ⟨b, o, none⟩), .int .i64 i, .int .i64 j] W fun e W' => e = .returned (.tuple #[]) ∧ LB W' b t pre (swapL l i j) ∧ Kq [b] W W' := by
 have hl := h.len
 have d1 : (0 : Int) ≤ (i : Int) ∧ (i : Int) < 5 := by omega
 have d2 : (0 : Int) ≤ (j : Int) ∧ (j : Int) < 5 := by omega
 obtain ⟨z, hr⟩ := h
 have h5 := hr.1
 obtain ⟨x, hx⟩ : ∃ x, l[i] = x := ⟨_, rfl⟩
 obtain ⟨y0, hy⟩ : ∃ x, l[j] = x := ⟨_, rfl⟩
 have hxi : (l ++ z)[i]? = some x := by rw [List.getElem?_append_left hi, List.getElem?_eq_getElem hi, hx]
 have hyj : (l ++ z)[j]? = some y0 := by rw [List.getElem?_append_left hj, List.getElem?_eq_getElem hj, hy]
 have HS : Hid (swapL l i j ++ z = ((l ++ z).set i y0).set j x) := Lib.hid (by
  unfold swapL
  have e1 : l.getD j default = y0 := by rw [List.getD_eq_getElem?_getD, List.getElem?_eq_getElem hj]; exact hy
  have e2 : l.getD i default = x := by rw [List.getD_eq_getElem?_getD, List.getElem?_eq_getElem hi]; exact hx
  rw [e1, e2, List.set_append_left _ _ hi, List.set_append_left _ _ (by rw [List.length_set]; exact hj)])
 have HLN : Hid ((swapL l i j).length = l.length) := Lib.hid (length_swapL l i j)
 have hiL : i < (l ++ z).length := by rw [List.length_append]; omega
 have hjL : j < (l ++ z).length := by rw [List.length_append]; omega
 generalize hn : ((l.length : Nat) : Int) = n at hr
 have HN := Lib.hid hn
 clear hn
 generalize hLL : l ++ z = LM at hr hxi hyj HS hiL hjL h5
 have hi5 : i < 5 := by omega
 have hj5 : j < 5 := by omega
 have HR := Lib.hid hr
 have HXI := Lib.hid hxi
 have HYJ := Lib.hid hyj
 have HI := Lib.hid hi5
 have HJ := Lib.hid hj5
 have H5 := Lib.hid h5
 have HO := Lib.hid ho
 clear hr hxi hyj hLL hx hy hi hj hl hiL hjL h5 hi5 hj5 ho
 have hlt := HR.out.lt
 have HS1 : Hid (splice (pre ++ .int .i64 n :: flatU LM) (o + 1 + i * 6) (usC y0) = pre ++ .int .i64 n :: flatU (LM.set i y0)) := Lib.hid (by rw [splice_pre _ _ _ _ o _ HO.out, flatU_splice LM i y0 (by rw [H5.out]; exact HI.out)])
 have HS2 : Hid (splice (pre ++ .int .i64 n :: flatU (LM.set i y0)) (o + 1 + j * 6) (usC x) = pre ++ .int .i64 n :: flatU ((LM.set i y0).set j x)) := Lib.hid (by rw [splice_pre _ _ _ _ o _ HO.out, flatU_splice _ j x (by rw [List.length_set, H5.out]; exact HJ.out)])
 have HF : Hid (∀ (M : List Us) (k : Nat), M.length = 5 → k < 5 → o + 1 + k * 6 + 6 ≤ (pre ++ .int .i64 n :: flatU M).length) := Lib.hid fun M k h1 h2 => by rw [List.length_append, List.length_cons, length_flatU, h1, HO.out]; omega
 go_enter Tryz.func179, Tryz.ntmps179
 go_upto_region 0 with fail
 apply wp_region_autoL [6, 7, 8, 9, 10, 11, 12, 13, 14, 15, 16, 17, 18, 19, 20, 21, 22, 23, 24, 28, 25, 26, 27] [_, _, _, _, _, _, _, _, _, _, _, _, _, _, _, _, _, _, _, undef, _, _, _] (fun L' W' => SwI W b t pre n LM (LM.set i y0) (L' 19) W')
 case hm => kernel_rfl
 case hT => intro y; simp only [setAll, List.setIfInBounds_toArray, List.set_cons_succ, List.set_cons_zero, List.set_nil]; exact rfl
 case hok => kernel_rfl
 case hn => decide
 case hw => exact (fun L' h0 => ⟨kq_drew (Kq.refl _ _), by rw [h0 19 (by decide)]; exact ⟨HR.out.1, HR.out.2⟩⟩)
 case hs =>
  refine autoC_op 6 [] (by kernel_rfl) (fun L y w' hL hC HW hd K hK => ?_) ?_
  ·go_simp
   refine hK _ _ ?_ ?_ HW
   ·simp [upd]
   ·exact rfl
  refine autoC_op 7 [] (by kernel_rfl) (fun L y w' hL hC HW hd K hK => ?_) ?_
  ·go_simp
   refine hK _ _ ?_ ?_ HW
   ·simp [upd]
   ·exact rfl
  refine autoC_op 8 [] (by kernel_rfl) (fun L y w' hL hC HW hd K hK => ?_) ?_
  ·go_simp
   refine hK _ _ ?_ ?_ HW
   ·simp [upd]
   ·exact rfl
  refine autoC_op 9 [] (by kernel_rfl) (fun L y w' hL hC HW hd K hK => ?_) ?_
  ·go_simp
   refine hK _ _ ?_ ?_ HW
   ·simp [upd]
   ·exact rfl
  refine autoC_op 10 [] (by kernel_rfl) (fun L y w' hL hC HW hd K hK => ?_) ?_
  ·go_simp
   refine hK _ _ ?_ ?_ HW
   ·simp [upd]
   ·exact rfl
  refine autoC_op 11 [] (by kernel_rfl) (fun L y w' hL hC HW hd K hK => ?_) ?_
  ·go_simp
   refine hK _ _ ?_ ?_ HW
   ·simp [upd]
   ·exact rfl
  refine autoC_op 12 [4] (by kernel_rfl) (fun L y w' hL hC HW hd K hK => ?_) ?_
  ·have e4 := hd_nth (hd 4 (by simp)) rfl
   go_simp
   refine hK _ _ ?_ ?_ HW
   ·simp [upd, e4]
   ·exact rfl
  refine autoC_op 13 [6] (by kernel_rfl) (fun L y w' hL hC HW hd K hK => ?_) ?_
  ·have e6 := hd_nth (hd 6 (by simp)) rfl
   go_simp
   refine hK _ _ ?_ ?_ HW
   ·simp [upd, e6]
   ·exact rfl
  refine autoC_op 14 [7, 5] (by kernel_rfl) (fun L y w' hL hC HW hd K hK => ?_) ?_
  ·have e5 := hd_nth (hd 5 (by simp)) rfl
   have e7 := hd_nth (hd 7 (by simp)) rfl
   go_simp
   refine hK _ _ ?_ ?_ HW
   ·simp [upd, e5, e7]
   ·exact rfl
  refine autoC_op 15 [8] (by kernel_rfl) (fun L y w' hL hC HW hd K hK => ?_) ?_
  ·have e8 := hd_nth (hd 8 (by simp)) rfl
   have hno : L 19 = false := Closed.not hC 19 9 (by kernel_rfl) hL
   have hq := HW.2
   rw [hno] at hq
   obtain ⟨c0, c1, c2, c3, c4, c5⟩ := RB.cells hq HO.out j y0 HYJ.out
   have cb := RB.lt hq
   go_simp
   refine hK _ _ ?_ ?_ HW
   ·simp [upd, e8]
   ·exact rfl
  refine autoC_op 16 [] (by kernel_rfl) (fun L y w' hL hC HW hd K hK => ?_) ?_
  ·go_simp
   refine hK _ _ ?_ ?_ HW
   ·simp [upd]
   ·exact rfl
  refine autoC_op 17 [] (by kernel_rfl) (fun L y w' hL hC HW hd K hK => ?_) ?_
  ·go_simp
   refine hK _ _ ?_ ?_ HW
   ·simp [upd]
   ·exact rfl
  refine autoC_op 18 [10] (by kernel_rfl) (fun L y w' hL hC HW hd K hK => ?_) ?_
  ·have e10 := hd_nth (hd 10 (by simp)) rfl
   go_simp
   refine hK _ _ ?_ ?_ HW
   ·simp [upd, e10]
   ·exact rfl
  refine autoC_op 19 [12] (by kernel_rfl) (fun L y w' hL hC HW hd K hK => ?_) ?_
  ·have e12 := hd_nth (hd 12 (by simp)) rfl
   go_simp
   refine hK _ _ ?_ ?_ HW
   ·simp [upd, e12]
   ·exact rfl
  refine autoC_op 20 [13, 11] (by kernel_rfl) (fun L y w' hL hC HW hd K hK => ?_) ?_
  ·have e11 := hd_nth (hd 11 (by simp)) rfl
   have e13 := hd_nth (hd 13 (by simp)) rfl
   go_simp
   refine hK _ _ ?_ ?_ HW
   ·simp [upd, e11, e13]
   ·exact rfl
  refine autoC_op 21 [14] (by kernel_rfl) (fun L y w' hL hC HW hd K hK => ?_) ?_
  ·have e14 := hd_nth (hd 14 (by simp)) rfl
   have hno : L 19 = false := Closed.not hC 19 15 (by kernel_rfl) hL
   have hq := HW.2
   rw [hno] at hq
   obtain ⟨c0, c1, c2, c3, c4, c5⟩ := RB.cells hq HO.out i x HXI.out
   have cb := RB.lt hq
   go_simp
   refine hK _ _ ?_ ?_ HW
   ·simp [upd, e14]
   ·exact rfl
  refine autoC_op 22 [0] (by kernel_rfl) (fun L y w' hL hC HW hd K hK => ?_) ?_
  ·have e0 := hd_nth (hd 0 (by simp)) rfl
   go_simp
   refine hK _ _ ?_ ?_ HW
   ·simp [upd, e0]
   ·exact rfl
  refine autoC_op 23 [16] (by kernel_rfl) (fun L y w' hL hC HW hd K hK => ?_) ?_
  ·have e16 := hd_nth (hd 16 (by simp)) rfl
   go_simp
   refine hK _ _ ?_ ?_ HW
   ·simp [upd, e16]
   ·exact rfl
  refine autoC_op 24 [17, 1, 0, 1, 4, 5, 6, 7, 8, 9, 15] (by kernel_rfl) (fun L y w' hL hC HW hd K hK => ?_) ?_
  ·have e0 := hd_nth (hd 0 (by simp)) rfl
   have e1 := hd_nth (hd 1 (by simp)) rfl
   have e4 := hd_nth (hd 4 (by simp)) rfl
   have e5 := hd_nth (hd 5 (by simp)) rfl
   have e6 := hd_nth (hd 6 (by simp)) rfl
   have e7 := hd_nth (hd 7 (by simp)) rfl
   have e8 := hd_nth (hd 8 (by simp)) rfl
   have e9 := hd_nth (hd 9 (by simp)) rfl
   have e15 := hd_nth (hd 15 (by simp)) rfl
   have e17 := hd_nth (hd 17 (by simp)) rfl
   go_simp
   refine hK _ _ ?_ ?_ HW
   ·simp [upd, e0, e1, e4, e5, e6, e7, e8, e9, e15, e17]
   ·exact rfl
  refine autoC_op 28 [18, 9, 0, 1, 4, 5, 6, 7, 8, 9, 15] (by kernel_rfl) (fun L y w' hL hC HW hd K hK => ?_) ?_
  ·have e0 := hd_nth (hd 0 (by simp)) rfl
   have e1 := hd_nth (hd 1 (by simp)) rfl
   have e4 := hd_nth (hd 4 (by simp)) rfl
   have e5 := hd_nth (hd 5 (by simp)) rfl
   have e6 := hd_nth (hd 6 (by simp)) rfl
   have e7 := hd_nth (hd 7 (by simp)) rfl
   have e8 := hd_nth (hd 8 (by simp)) rfl
   have e9 := hd_nth (hd 9 (by simp)) rfl
   have e15 := hd_nth (hd 15 (by simp)) rfl
   have e18 := hd_nth (hd 18 (by simp)) rfl
   have hq : RB w' b t pre n LM := by have q := HW.2; rw [hL] at q; exact q
   refine step_store_blk (a := ⟨_, _⟩) (by kernel_rfl) 170 (.tmp 24) (.tmp 15) (by exact rfl) b (o + 1 + i * 6) t _ (usC y0) (by exact e18) (by exact e9) hq.2 (by rw [size_used]; rfl) (HF.out _ _ H5.out HI.out) (usC_one _) ?_
   rw [show splice (pre ++ .int .i64 n :: flatU LM) (o + 1 + i * 6) (usC y0) = _ from HS1.out]
   refine hK _ _ ?_ ?_ ⟨HW.1.trans (setU_kq [b] _ b pre n _ (by simp)), RB.row hq _ (by rw [List.length_set]; exact H5.out)⟩
   ·simp [upd, e0, e1, e4, e5, e6, e7, e8, e9, e15, e18]
   ·exact rfl
  refine autoC_op 25 [2] (by kernel_rfl) (fun L y w' hL hC HW hd K hK => ?_) ?_
  ·have e2 := hd_nth (hd 2 (by simp)) rfl
   go_simp
   refine hK _ _ ?_ ?_ HW
   ·simp [upd, e2]
   ·exact rfl
  refine autoC_op 26 [20] (by kernel_rfl) (fun L y w' hL hC HW hd K hK => ?_) ?_
  ·have e20 := hd_nth (hd 20 (by simp)) rfl
   go_simp
   refine hK _ _ ?_ ?_ HW
   ·simp [upd, e20]
   ·exact rfl
  refine autoC_op 27 [21, 3, 0, 1, 2, 3, 4, 5, 6, 7, 8, 9, 10, 11, 12, 13, 14, 15, 16, 17, 18, 19] (by kernel_rfl) (fun L y w' hL hC HW hd K hK => ?_) ?_
  ·have e0 := hd_nth (hd 0 (by simp)) rfl
   have e1 := hd_nth (hd 1 (by simp)) rfl
   have e2 := hd_nth (hd 2 (by simp)) rfl
   have e3 := hd_nth (hd 3 (by simp)) rfl
   have e4 := hd_nth (hd 4 (by simp)) rfl
   have e5 := hd_nth (hd 5 (by simp)) rfl
   have e6 := hd_nth (hd 6 (by simp)) rfl
   have e7 := hd_nth (hd 7 (by simp)) rfl
   have e8 := hd_nth (hd 8 (by simp)) rfl
   have e9 := hd_nth (hd 9 (by simp)) rfl
   have e10 := hd_nth (hd 10 (by simp)) rfl
   have e11 := hd_nth (hd 11 (by simp)) rfl
   have e12 := hd_nth (hd 12 (by simp)) rfl
   have e13 := hd_nth (hd 13 (by simp)) rfl
   have e14 := hd_nth (hd 14 (by simp)) rfl
   have e15 := hd_nth (hd 15 (by simp)) rfl
   have e16 := hd_nth (hd 16 (by simp)) rfl
   have e17 := hd_nth (hd 17 (by simp)) rfl
   have e18 := hd_nth (hd 18 (by simp)) rfl
   have e21 := hd_nth (hd 21 (by simp)) rfl
   go_simp
   refine hK _ _ ?_ ?_ HW
   ·simp [upd, e0, e1, e2, e3, e4, e5, e6, e7, e8, e9, e10, e11, e12, e13, e14, e15, e16, e17, e18, e21]
   ·exact rfl
  refine autoL_last fun L y w' hLs HW hd K hK => ?_
  have e0 := hd_nth (hd 0 (by omega)) rfl
  have e1 := hd_nth (hd 1 (by omega)) rfl
  have e2 := hd_nth (hd 2 (by omega)) rfl
  have e3 := hd_nth (hd 3 (by omega)) rfl
  have e4 := hd_nth (hd 4 (by omega)) rfl
  have e5 := hd_nth (hd 5 (by omega)) rfl
  have e6 := hd_nth (hd 6 (by omega)) rfl
  have e7 := hd_nth (hd 7 (by omega)) rfl
  have e8 := hd_nth (hd 8 (by omega)) rfl
  have e9 := hd_nth (hd 9 (by omega)) rfl
  have e10 := hd_nth (hd 10 (by omega)) rfl
  have e11 := hd_nth (hd 11 (by omega)) rfl
  have e12 := hd_nth (hd 12 (by omega)) rfl
  have e13 := hd_nth (hd 13 (by omega)) rfl
  have e14 := hd_nth (hd 14 (by omega)) rfl
  have e15 := hd_nth (hd 15 (by omega)) rfl
  have e16 := hd_nth (hd 16 (by omega)) rfl
  have e17 := hd_nth (hd 17 (by omega)) rfl
  have e18 := hd_nth (hd 18 (by omega)) rfl
  have e20 := hd_nth (hd 20 (by omega)) rfl
  have e21 := hd_nth (hd 21 (by omega)) rfl
  have e22 := hd_nth (hd 22 (by omega)) rfl
  have hq : RB w' b t pre n (LM.set i y0) := by
   have q := HW.2
   rw [hLs 19 (by decide)] at q
   exact q
  refine step_store_blk (a := ⟨_, _⟩) (by kernel_rfl) 170 (.tmp 27) (.tmp 21) (by exact rfl) b (o + 1 + j * 6) t _ (usC x) (by exact e22) (by exact e15) hq.2 (by rw [size_used]; rfl) (HF.out _ _ (by rw [List.length_set]; exact H5.out) HJ.out) (usC_one _) ?_
  rw [show splice (pre ++ .int .i64 n :: flatU (LM.set i y0)) (o + 1 + j * 6) (usC x) = _ from HS2.out]
  have HR9 := Lib.hid (RB.row hq ((LM.set i y0).set j x) (by rw [List.length_set, List.length_set]; exact H5.out))
  have HK9 := Lib.hid (HW.1.trans (setU_kq [b] _ b pre n ((LM.set i y0).set j x) (by simp)))
  refine hK _ _ ?_
  change Hid (RB (w'.setRow b _) _ _ _ _ _) at HR9
  change Hid (Kq _ _ (w'.setRow b _)) at HK9
  generalize w'.setRow b (pre ++ .int .i64 n :: flatU ((LM.set i y0).set j x)).toArray = W9 at HR9 HK9 ⊢
  clear hd hK K hq HW
  go_wp2
  go_end0
  exact ⟨rfl, ⟨z, by rw [HLN.out, HN.out, HS.out]; exact HR9.out⟩, HK9.out⟩
end
end Go.Proofs.YteaincdeoajkeaaGreatDoor.Sb
end
section
/- Package stlb: the heap's methods Push and Pop; the heap as the library sees it. -/
namespace Go.Proofs.YteaincdeoajkeaaGreatDoor.Sb
open Go.RowKit Ut Hg
set_option maxRecDepth 100000
set_option linter.unusedVariables false
set_option maxHeartbeats 4000000

theorem assert_used (u : Us) (W : World) : (Instr.typeAssert (.iface 170 (usV u)) 20 170 true).run Tryz.prog W = .ok (.tuple #[usV u, .bool true]) W := by kernel_rfl

section
variable {W : World} {b o : Nat} {t : TypeId} {pre : List Value} {l : List Us}
theorem push18 (h : LB W b t pre l) (ho : pre.length = o) (u : Us) (hl : l.length < 5) :
  Calls Tryz.prog 178 #[.pointer (some ⟨b, o, none⟩), .iface 170 (usV u)] W fun e W' => e = .returned (.tuple #[]) ∧ LB W' b t pre (l ++ [u]) ∧ Kq [b] W W' := by
 obtain ⟨U, hU⟩ : ∃ U, U = W.alloc (.cells #[.int .i64 u.1.kr, .int .i64 u.1.kp, .int .i64 u.1.ep, .int .i64 u.1.ef, .int .i64 u.1.er, .int .u64 u.2] 170) := ⟨_, rfl⟩
 have hB : Below W.heap.size W U := by rw [hU]; exact (Below.refl _ _).alloc (Nat.le_refl _) _
 have hN : Blk U W.heap.size 170 (usC u) := by rw [hU]; exact Blk.new W _ (usC u)
 have hbl := h.lt
 obtain ⟨z, hr⟩ := h.more hB
 have h5 := hr.1
 obtain ⟨n, hn⟩ : ∃ n : Nat, l.length = n := ⟨_, rfl⟩
 have HL2 : Hid ((l ++ [u]).length = n + 1) := Lib.hid (by rw [List.length_append, hn]; rfl)
 have HZ : Hid (∃ z', (l ++ z).set n u = (l ++ [u]) ++ z') := Lib.hid (by
  rw [List.length_append] at h5
  match z, h5 with
  | [], h5 => simp at h5; omega
  | c :: z, _ => exact ⟨z, by rw [List.set_append_right _ _ (by omega), hn, Nat.sub_self, List.set_cons_zero, List.append_assoc]; rfl⟩)
 rw [hn] at hr hl
 generalize hLL : l ++ z = LM at hr HZ h5
 have HU := Lib.hid hU
 have HBU := Lib.hid hB
 have HN := Lib.hid hN
 have HR := Lib.hid hr
 have H5 := Lib.hid h5
 have HO := Lib.hid ho
 have d1 : (0 : Int) ≤ (n : Int) ∧ (n : Int) < 5 := by omega
 have d0 : wrap64 ((n : Int) + 1) = (n : Int) + 1 := IntWalk.wrap64_in _ (by omega)
 have HS1 : Hid (splice (pre ++ .int .i64 n :: flatU LM) (o + 1 + n * 6) (usC u) = pre ++ .int .i64 n :: flatU (LM.set n u)) := Lib.hid (by rw [splice_pre _ _ _ _ o _ ho, flatU_splice LM n u (by omega)])
 have HF : Hid (o + 1 + n * 6 + 6 ≤ (pre ++ .int .i64 n :: flatU LM).length) := Lib.hid (by rw [List.length_append, List.length_cons, length_flatU, h5, ho]; omega)
 have hlt := hr.lt
 have c0 := hr.cell0 ho
 have hgl := hN.lt
 have k0 := hN.cell (j := 0) rfl
 have k1 := hN.cell (j := 1) rfl
 have k2 := hN.cell (j := 2) rfl
 have k3 := hN.cell (j := 3) rfl
 have k4 := hN.cell (j := 4) rfl
 have k5 := hN.cell (j := 5) rfl
 have hta := assert_used u W
 have HVE := Lib.hid (usV_toArray u)
 clear h hr hB hN hU hLL hn hl h5 ho
 obtain ⟨⟨kr, kp, ep, ef, er⟩, s⟩ := u
 unfold usV at hta
 dsimp only at k0 k1 k2 k3 k4 k5 HU hta ⊢
 go_enter Tryz.func178, Tryz.ntmps178
 go_upto_region 2 with fail
 rw [← HU.out]
 clear HU hta
 apply wp_region_auto [12, 13, 14, 15, 16, 17, 18, 19, 20] [_, _, _, _, _, _, _, _, _] (fun W' => Below U.heap.size U W')
 case hm => kernel_rfl
 case hT => intro y; simp only [setAll, List.setIfInBounds_toArray, List.set_cons_succ, List.set_cons_zero]; exact rfl
 case hok => kernel_rfl
 case hn => decide
 case hw => exact (Below.refl _ _).drew
 case hs =>
  refine auto_op 12 [] (by kernel_rfl) (fun y w' HW hd K hK => ?_) ?_
  ·go_simp
   refine hK _ _ ?_ ?_ HW
   ·simp [upd]
   ·exact rfl
  refine auto_op 13 [] (by kernel_rfl) (fun y w' HW hd K hK => ?_) ?_
  ·go_simp
   refine hK _ _ ?_ ?_ HW
   ·simp [upd]
   ·exact rfl
  refine auto_op 14 [1] (by kernel_rfl) (fun y w' HW hd K hK => ?_) ?_
  ·have e1 := hd_nth (hd 1 (by simp)) rfl
   go_simp
   refine hK _ _ ?_ ?_ HW
   ·simp [upd, e1]
   ·exact rfl
  refine auto_op 15 [2] (by kernel_rfl) (fun y w' HW hd K hK => ?_) ?_
  ·have e2 := hd_nth (hd 2 (by simp)) rfl
   go_simp
   refine hK _ _ ?_ ?_ HW
   ·simp [upd, e2]
   ·exact rfl
  refine auto_op 16 [3] (by kernel_rfl) (fun y w' HW hd K hK => ?_) ?_
  ·have e3 := hd_nth (hd 3 (by simp)) rfl
   have hcl : ∀ p : Addr, p.block < U.heap.size → w'.cell? p = U.cell? p := fun p hp => HW.cell hp
   go_simp
   refine hK _ _ ?_ ?_ HW
   ·simp [upd, e3]
   ·exact rfl
  refine auto_op 17 [] (by kernel_rfl) (fun y w' HW hd K hK => ?_) ?_
  ·have hcl : ∀ p : Addr, p.block < U.heap.size → w'.cell? p = U.cell? p := fun p hp => HW.cell hp
   go_simp
   refine hK _ _ ?_ ?_ HW
   ·simp [upd]
   ·exact rfl
  refine auto_op 18 [0] (by kernel_rfl) (fun y w' HW hd K hK => ?_) ?_
  ·have e0 := hd_nth (hd 0 (by simp)) rfl
   go_simp
   refine hK _ _ ?_ ?_ HW
   ·simp [upd, e0]
   ·exact rfl
  refine auto_op 19 [6] (by kernel_rfl) (fun y w' HW hd K hK => ?_) ?_
  ·have e6 := hd_nth (hd 6 (by simp)) rfl
   go_simp
   refine hK _ _ ?_ ?_ HW
   ·simp [upd, e6]
   ·exact rfl
  refine auto_op 20 [7, 4, 0, 1, 2, 3, 4, 5] (by kernel_rfl) (fun y w' HW hd K hK => ?_) ?_
  ·have e0 := hd_nth (hd 0 (by simp)) rfl
   have e1 := hd_nth (hd 1 (by simp)) rfl
   have e2 := hd_nth (hd 2 (by simp)) rfl
   have e3 := hd_nth (hd 3 (by simp)) rfl
   have e4 := hd_nth (hd 4 (by simp)) rfl
   have e5 := hd_nth (hd 5 (by simp)) rfl
   have e7 := hd_nth (hd 7 (by simp)) rfl
   go_simp
   refine hK _ _ ?_ ?_ HW
   ·simp [upd, e0, e1, e2, e3, e4, e5, e7]
   ·exact rfl
  refine auto_last fun y w' HW hd K hK => ?_
  have e0 := hd_nth (hd 0 (by omega)) rfl
  have e1 := hd_nth (hd 1 (by omega)) rfl
  have e2 := hd_nth (hd 2 (by omega)) rfl
  have e3 := hd_nth (hd 3 (by omega)) rfl
  have e4 := hd_nth (hd 4 (by omega)) rfl
  have e5 := hd_nth (hd 5 (by omega)) rfl
  have e6 := hd_nth (hd 6 (by omega)) rfl
  have e7 := hd_nth (hd 7 (by omega)) rfl
  have e8 := hd_nth (hd 8 (by omega)) rfl
  have hq := HR.out.2.below HW hlt
  refine step_store_blk (a := ⟨_, _⟩) (by kernel_rfl) 170 (.tmp 20) (.tmp 17) (by exact rfl) b (o + 1 + n * 6) t _ (usC (⟨kr, kp, ep, ef, er⟩, s)) (by exact e8) (by exact e5) hq (by rw [size_used]; rfl) HF.out (usC_one _) ?_
  rw [show splice (pre ++ .int .i64 n :: flatU LM) (o + 1 + n * 6) (usC (⟨kr, kp, ep, ef, er⟩, s)) = _ from HS1.out]
  have hr9 : RB (setU w' b pre n (LM.set n (⟨kr, kp, ep, ef, er⟩, s))) b t pre n (LM.set n (⟨kr, kp, ep, ef, er⟩, s)) := RB.row ⟨H5.out, hq⟩ _ (by rw [List.length_set]; exact H5.out)
  have HR9 := Lib.hid hr9
  have HK9 := Lib.hid (((Kq.of_below (T := [b]) HBU.out).trans (Kq.of_below HW)).trans (setU_kq [b] w' b pre n (LM.set n (⟨kr, kp, ep, ef, er⟩, s)) (by simp)))
  refine hK _ _ ?_
  change Hid (RB (w'.setRow b _) _ _ _ _ _) at HR9
  change Hid (Kq _ _ (w'.setRow b _)) at HK9
  generalize w'.setRow b (pre ++ .int .i64 n :: flatU (LM.set n (⟨kr, kp, ep, ef, er⟩, s))).toArray = W9 at HR9 HK9 ⊢
  clear hd hK K hq HW hr9 c0 k0 k1 k2 k3 k4 k5 hlt hgl
  have c9 := HR9.out.cell0 HO.out
  have f9 := HR9.out.2.frozen o
  have l9 := HR9.out.lt
  have HE : Hid (LB (W9.setCell ⟨b, o, none⟩ (.int .i64 ((n : Int) + 1))) b t pre (l ++ [(⟨kr, kp, ep, ef, er⟩, s)])) := Lib.hid (by
   obtain ⟨z', hz'⟩ := HZ.out
   refine ⟨z', ?_⟩
   have := HR9.out.count HO.out ((n : Int) + 1)
   rw [hz'] at this
   rw [HL2.out]
   exact this)
  have HKE := Lib.hid (HK9.out.setCell b o (.int .i64 ((n : Int) + 1)) (.inl (by simp)))
  go_wp2
  go_end0
  exact ⟨rfl, HE.out, HKE.out⟩

theorem pop18 (u : Us) (h : LB W b t pre (l ++ [u])) (ho : pre.length = o) :
  Calls Tryz.prog 177 #[.pointer (some ⟨b, o, none⟩)] W fun e W' => e = .returned (.iface 170 (usV u)) ∧ LB W' b t pre l ∧ Kq [b] W W' := by
 obtain ⟨n, hn⟩ : ∃ n : Nat, l.length = n := ⟨_, rfl⟩
 have hl5 := h.len
 rw [List.length_append, List.length_singleton, hn] at hl5
 have c0 := h.cell0 ho
 rw [List.length_append, List.length_singleton, hn] at c0
 have f0 := h.frz o
 have hlt := h.lt
 obtain ⟨z, hr⟩ := h
 have h5 := hr.1
 have hx : ((l ++ [u]) ++ z)[n]? = some u := by rw [List.append_assoc, List.getElem?_append_right (by omega), hn, Nat.sub_self]; rfl
 have HZ : Hid (((l ++ [u]) ++ z).set n noU = l ++ (noU :: z)) := Lib.hid (by rw [List.append_assoc, List.set_append_right _ _ (by omega), hn, Nat.sub_self]; rfl)
 generalize (l ++ [u]) ++ z = LM at hr hx h5 HZ
 have hr1 := hr.count ho (n : Nat)
 have HK1 := Lib.hid ((Kq.refl [b] W).setCell b o (.int .i64 (n : Nat)) (.inl (by simp)))
 have HR1 := Lib.hid hr1
 have H5 := Lib.hid h5
 have HO := Lib.hid ho
 have HX := Lib.hid hx
 have HNN := Lib.hid hn
 have e0 : ((n + 1 : Nat) : Int) - 1 = (n : Int) := by omega
 have d0 : wrap64 (n : Int) = (n : Int) := IntWalk.wrap64_in _ (by omega)
 have d1 : (0 : Int) ≤ (n : Int) ∧ (n : Int) < 5 := by omega
 have HS1 : Hid (splice (pre ++ .int .i64 n :: flatU LM) (o + 1 + n * 6) (usC noU) = pre ++ .int .i64 n :: flatU (LM.set n noU)) := Lib.hid (by rw [splice_pre _ _ _ _ o _ ho, flatU_splice LM n noU (by omega)])
 have HF : Hid (o + 1 + n * 6 + 6 ≤ (pre ++ .int .i64 n :: flatU LM).length) := Lib.hid (by rw [List.length_append, List.length_cons, length_flatU, h5, ho]; omega)
 have HB0 : Hid (((Tryz.prog.built 170 [])) = some (usC noU).toArray) := Lib.hid (by kernel_rfl)
 clear hr hr1 h5 ho hx hn hl5
 go_enter Tryz.func177, Tryz.ntmps177
 go_upto_region 2 with fail
 generalize W.setCell ⟨b, o, none⟩ (.int .i64 (n : Nat)) = W1 at HK1 HR1 ⊢
 have hl1 := HR1.out.lt
 have c1 := HR1.out.cell0 HO.out
 obtain ⟨k0, k1, k2, k3, k4, k5⟩ := HR1.out.cells HO.out n u HX.out
 have HBA : Hid (Below W1.heap.size W1 (W1.alloc (.cells #[.int .i64 u.1.kr, .int .i64 u.1.kp, .int .i64 u.1.ep, .int .i64 u.1.ef, .int .i64 u.1.er, .int .u64 u.2] 170)).drew) := Lib.hid (((Below.refl _ _).alloc (Nat.le_refl _) _).drew)
 have HNA : Hid (Blk (W1.alloc (.cells #[.int .i64 u.1.kr, .int .i64 u.1.kp, .int .i64 u.1.ep, .int .i64 u.1.ef, .int .i64 u.1.er, .int .u64 u.2] 170)).drew W1.heap.size 170 (usC u)) := Lib.hid (Blk.new W1 _ (usC u))
 clear c0 f0 hlt
 obtain ⟨⟨kr, kp, ep, ef, er⟩, s⟩ := u
 dsimp only at k0 k1 k2 k3 k4 k5 HBA HNA ⊢
 go_region
 go_upto_region 3 with fail
 generalize (W1.alloc (.cells #[.int .i64 kr, .int .i64 kp, .int .i64 ep, .int .i64 ef, .int .i64 er, .int .u64 s] 170)).drew = U at HBA HNA ⊢
 have hr2 : RB U b t pre n LM := ⟨H5.out, HR1.out.2.more HBA.out⟩
 have HR2 := Lib.hid hr2
 have c2 := hr2.cell0 HO.out
 have hl2 := hr2.lt
 clear k0 k1 k2 k3 k4 k5 c1 hl1 hr2
 apply wp_region_auto [20, 21, 22, 23, 24, 25, 26, 27, 28] [_, _, _, _, _, _, _, _, _] (fun W' => Below U.heap.size U W')
 case hm => kernel_rfl
 case hT => intro y; simp only [setAll, List.setIfInBounds_toArray, List.set_cons_succ, List.set_cons_zero]; exact rfl
 case hok => kernel_rfl
 case hn => decide
 case hw => exact (Below.refl _ _).drew
 case hs =>
  refine auto_op 20 [] (by kernel_rfl) (fun y w' HW hd K hK => ?_) ?_
  ·go_simp
   refine hK _ _ ?_ ?_ HW
   ·simp [upd]
   ·exact rfl
  refine auto_op 21 [] (by kernel_rfl) (fun y w' HW hd K hK => ?_) ?_
  ·go_simp
   refine hK _ _ ?_ ?_ HW
   ·simp [upd]
   ·exact rfl
  refine auto_op 22 [1] (by kernel_rfl) (fun y w' HW hd K hK => ?_) ?_
  ·have e1 := hd_nth (hd 1 (by simp)) rfl
   go_simp
   refine hK _ _ ?_ ?_ HW
   ·simp [upd, e1]
   ·exact rfl
  refine auto_op 23 [2] (by kernel_rfl) (fun y w' HW hd K hK => ?_) ?_
  ·have e2 := hd_nth (hd 2 (by simp)) rfl
   go_simp
   refine hK _ _ ?_ ?_ HW
   ·simp [upd, e2]
   ·exact rfl
  refine auto_op 24 [3] (by kernel_rfl) (fun y w' HW hd K hK => ?_) ?_
  ·have e3 := hd_nth (hd 3 (by simp)) rfl
   have hcl : ∀ p : Addr, p.block < U.heap.size → w'.cell? p = U.cell? p := fun p hp => HW.cell hp
   go_simp
   refine hK _ _ ?_ ?_ HW
   ·simp [upd, e3]
   ·exact rfl
  refine auto_op 25 [] (by kernel_rfl) (fun y w' HW hd K hK => ?_) ?_
  ·go_simp
   refine hK _ _ ?_ ?_ HW
   ·simp [upd]
   ·exact rfl
  refine auto_op 26 [0] (by kernel_rfl) (fun y w' HW hd K hK => ?_) ?_
  ·have e0 := hd_nth (hd 0 (by simp)) rfl
   go_simp
   refine hK _ _ ?_ ?_ HW
   ·simp [upd, e0]
   ·exact rfl
  refine auto_op 27 [6] (by kernel_rfl) (fun y w' HW hd K hK => ?_) ?_
  ·have e6 := hd_nth (hd 6 (by simp)) rfl
   go_simp
   refine hK _ _ ?_ ?_ HW
   ·simp [upd, e6]
   ·exact rfl
  refine auto_op 28 [7, 4, 0, 1, 2, 3, 4, 5] (by kernel_rfl) (fun y w' HW hd K hK => ?_) ?_
  ·have e0 := hd_nth (hd 0 (by simp)) rfl
   have e1 := hd_nth (hd 1 (by simp)) rfl
   have e2 := hd_nth (hd 2 (by simp)) rfl
   have e3 := hd_nth (hd 3 (by simp)) rfl
   have e4 := hd_nth (hd 4 (by simp)) rfl
   have e5 := hd_nth (hd 5 (by simp)) rfl
   have e7 := hd_nth (hd 7 (by simp)) rfl
   go_simp
   refine hK _ _ ?_ ?_ HW
   ·simp [upd, e0, e1, e2, e3, e4, e5, e7]
   ·exact rfl
  refine auto_last fun y w' HW hd K hK => ?_
  have e0 := hd_nth (hd 0 (by omega)) rfl
  have e1 := hd_nth (hd 1 (by omega)) rfl
  have e2 := hd_nth (hd 2 (by omega)) rfl
  have e3 := hd_nth (hd 3 (by omega)) rfl
  have e4 := hd_nth (hd 4 (by omega)) rfl
  have e5 := hd_nth (hd 5 (by omega)) rfl
  have e6 := hd_nth (hd 6 (by omega)) rfl
  have e7 := hd_nth (hd 7 (by omega)) rfl
  have e8 := hd_nth (hd 8 (by omega)) rfl
  have hq := HR2.out.2.below HW hl2
  refine step_store_blk (a := ⟨_, _⟩) (by kernel_rfl) 170 (.tmp 28) (.tmp 25) (by exact rfl) b (o + 1 + n * 6) t _ (usC noU) (by exact e8) (by exact e5) hq (by rw [size_used]; rfl) HF.out (usC_one _) ?_
  rw [show splice (pre ++ .int .i64 n :: flatU LM) (o + 1 + n * 6) (usC noU) = _ from HS1.out]
  have hr9 : RB (setU w' b pre n (LM.set n noU)) b t pre n (LM.set n noU) := RB.row ⟨H5.out, hq⟩ _ (by rw [List.length_set]; exact H5.out)
  have HR9 := Lib.hid hr9
  have HN9 : Hid (Blk (setU w' b pre n (LM.set n noU)) W1.heap.size 170 (usC (⟨kr, kp, ep, ef, er⟩, s))) := Lib.hid ((HNA.out.below HW HNA.out.lt).of_block (setRow_other _ _ _ _ (fun e => by have := HR1.out.lt; omega)))
  have HK9 := Lib.hid ((HK1.out.trans ((Kq.of_below (T := [b]) HBA.out).trans (Kq.of_below HW))).trans (setU_kq [b] w' b pre n (LM.set n noU) (by simp)))
  refine hK _ _ ?_
  change Hid (RB (w'.setRow b _) _ _ _ _ _) at HR9
  change Hid (Kq _ _ (w'.setRow b _)) at HK9
  change Hid (Blk (w'.setRow b _) _ _ _) at HN9
  generalize w'.setRow b (pre ++ .int .i64 n :: flatU (LM.set n noU)).toArray = W9 at HR9 HK9 HN9 ⊢
  clear hd hK K hq HW hr9 c2 hl2
  have k0 := HN9.out.cell (j := 0) rfl
  have k1 := HN9.out.cell (j := 1) rfl
  have k2 := HN9.out.cell (j := 2) rfl
  have k3 := HN9.out.cell (j := 3) rfl
  have k4 := HN9.out.cell (j := 4) rfl
  have k5 := HN9.out.cell (j := 5) rfl
  have hgl := HN9.out.lt
  go_wp2
  go_ret
  exact ⟨rfl, ⟨noU :: z, by rw [HNN.out, ← HZ.out]; exact HR9.out⟩, HK9.out⟩

/-- the heap at ⟨b, o⟩, as the library sees it -/
theorem heaps18 (b o : Nat) (t : TypeId) (pre : List Value) (ho : pre.length = o) : Heaps 209 (.pointer (some ⟨b, o, none⟩)) usK (fun w (l : List Us) => LB w b t pre l) (fun w w' => Kq [b] w w') where
 refl w := Kq.refl _ w
 trans a b c h k := h.trans k
 bd W l h := by have := h.len; omega
 len W l h := Asks.ptr _ _ 175 _ _ _ _ (by kernel_rfl) Tryz.underlying209 (fun _ _ => rfl) ((len18 h ho).mono fun e w' ⟨h1, h2⟩ => by subst h2; exact ⟨h1, h, Kq.refl _ _⟩)
 less W l i j r h hi hj hr := Asks.ptr _ _ 176 _ _ _ _ (by kernel_rfl) Tryz.underlying209 (fun _ _ => rfl) ((less18 h ho i j hi hj r hr).mono fun e w' ⟨h1, h2⟩ => ⟨h1, h.more h2, Kq.of_below h2⟩)
 swap W l i j h hi hj := Asks.ptr _ _ 179 _ _ _ _ (by kernel_rfl) Tryz.underlying209 (fun _ _ => rfl) (swap18 h ho i j hi hj)
theorem asks_push18 (h : LB W b t pre l) (ho : pre.length = o) (u : Us) (hl : l.length < 5) : Asks 209 (.pointer (some ⟨b, o, none⟩)) "Push" W fun f rv => Calls Tryz.prog f #[rv, .iface 170 (usV u)] W fun e w' => e = .returned (.tuple #[]) ∧ LB w' b t pre (l ++ [u]) ∧ Kq [b] W w' :=
 Asks.ptr _ _ 178 _ _ _ _ (by kernel_rfl) Tryz.underlying209 (fun _ _ => rfl) (push18 h ho u hl)
theorem asks_pop18 (ho : pre.length = o) (r : List Us) (c : Us) (w : World) (h : LB w b t pre (r ++ [c])) : Asks 209 (.pointer (some ⟨b, o, none⟩)) "Pop" w fun f rv => Calls Tryz.prog f #[rv] w fun e w' => e = .returned ((fun u : Us => Value.iface 170 (usV u)) c) ∧ LB w' b t pre r ∧ Kq [b] w w' :=
 Asks.ptr _ _ 177 _ _ _ _ (by kernel_rfl) Tryz.underlying209 (fun _ _ => rfl) (pop18 c h ho)

/-- a heap of translations: in a heap's order -/
def HP (W : World) (b : Nat) (t : TypeId) (pre : List Value) (l : List Us) : Prop := LB W b t pre l ∧ HeapL usK l l.length
theorem hpush18 (h : HP W b t pre l) (ho : pre.length = o) (u : Us) (hl : l.length < 5) :
  Calls Tryz.prog 118 #[.iface 209 (.pointer (some ⟨b, o, none⟩)), .iface 170 (usV u)] W fun e W' => e = .returned (.tuple #[]) ∧ (∃ l', HP W' b t pre l' ∧ l'.Perm (u :: l)) ∧ Kq [b] W W' :=
 (push_by (heaps18 b o t pre ho) _ u l.length l W h.1 rfl (asks_push18 h.1 ho u hl)).mono fun e w' ⟨h1, h2, h3⟩ => by
  obtain ⟨q1, q2, q3⟩ := push_parts (ky := usK) u h.2
  exact ⟨h1, ⟨_, ⟨h2, q2⟩, q3⟩, h3⟩
theorem hpop18 (h : HP W b t pre l) (ho : pre.length = o) (hl : 0 < l.length) :
  Calls Tryz.prog 128 #[.iface 209 (.pointer (some ⟨b, o, none⟩))] W fun e W' => ∃ c r, e = .returned (.iface 170 (usV c)) ∧ HP W' b t pre r ∧ (c :: r).Perm l ∧ (∀ y ∈ l, c.2 ≤ y.2) ∧ Kq [b] W W' := by
 obtain ⟨r, q1, q2, q3, q4, q5⟩ := pop_parts (ky := usK) hl h.2
 exact (pop_by (heaps18 b o t pre ho) (fun u : Us => Value.iface 170 (usV u)) l.length l r _ W h.1 rfl hl q1 (fun w hw => asks_pop18 ho r _ w hw)).mono fun e w' ⟨h1, h2, h3⟩ => ⟨_, r, h1, ⟨h2, q3⟩, q4, q5, h3⟩
theorem hfix18 (u : Us) (i : Nat) (h : LB W b t pre (l.set i u)) (hh : HeapL usK l l.length) (ho : pre.length = o) (hi : i < l.length) :
  Calls Tryz.prog 115 #[.iface 209 (.pointer (some ⟨b, o, none⟩)), .int .i64 i] W fun e W' => e = .returned (.tuple #[]) ∧ (∃ l', HP W' b t pre l' ∧ l'.Perm (l.set i u)) ∧ Kq [b] W W' :=
 (fix_by (heaps18 b o t pre ho) i l.length _ W h (by rw [List.length_set]) hi).mono fun e w' ⟨h1, h2, h3⟩ => by
  obtain ⟨q1, q2, q3⟩ := fix_parts (ky := usK) u hi hh
  exact ⟨h1, ⟨_, ⟨h2, by rw [q3]; exact q1⟩, q2⟩, h3⟩
theorem hremove18 (i : Nat) (h : HP W b t pre l) (ho : pre.length = o) (hi : i < l.length) :
  Calls Tryz.prog 132 #[.iface 209 (.pointer (some ⟨b, o, none⟩)), .int .i64 i] W fun e W' => ∃ c r, e = .returned (.iface 170 (usV c)) ∧ c = l.getD i default ∧ HP W' b t pre r ∧ (c :: r).Perm l ∧ Kq [b] W W' := by
 obtain ⟨r, q1, q2, q3, q4⟩ := rem_parts (ky := usK) hi h.2
 exact (remove_by (heaps18 b o t pre ho) (fun u : Us => Value.iface 170 (usV u)) i l.length l r _ W h.1 rfl hi q1 (fun w hw => asks_pop18 ho r _ w hw)).mono fun e w' ⟨h1, h2, h3⟩ => ⟨_, r, h1, rfl, ⟨h2, q3⟩, q4, h3⟩
end
end Go.Proofs.YteaincdeoajkeaaGreatDoor.Sb
end
