/- Package shadow: Get. -/
import Derived.Test.YtcdiigdbjncpeaaJt
import Derived.Test.YtcdiigdbjncpeaaRf
namespace Go.Proofs.Ytcdiigdbjncpeaa.Sw
open Go.RowKit Ut
set_option maxRecDepth 100000
set_option linter.unusedVariables false
set_option maxHeartbeats 4000000

/-- a key's closure -/
def ClK (p q : Int) (v : Value) (W : World) : Prop := ∃ k, v = .func (.func 39) #[] #[.pointer (some ⟨k, 0, none⟩)] ∧ Blk W k 30 [.int .i64 p, .int .i64 q]
theorem ClK.more {p q : Int} {v : Value} {W W' : World} (h : ClK p q v W) (hb : Below W.heap.size W W') : ClK p q v W' := h.elim fun k h => ⟨k, h.1, h.2.more hb⟩
section
variable {W : World} {g : Nat} {m : Bool} {l : List Ln}
/-- what Get is to do behind the search -/
theorem shGet_any {v : Value} (p q : Int) (h : ThP W v l) (hv : l = [] ∨ ∃ g m, v = .pointer (some ⟨g, 0, none⟩) ∧ LS19 W g m l) :
    Calls Try.prog 14 #[v, .agg #[.int .i64 p, .int .i64 q]] W fun e w' => e = .returned (.tuple #[entW (entS (findS l p q)), .bool (findS l p q).isSome]) ∧ Below W.heap.size W w' := by
  obtain ⟨U, hU⟩ : ∃ U, U = (W.alloc (.cells #[.int .i64 p, .int .i64 q] 30)).alloc (.cells #[.int .i64 0, .int .i64 0, .int .i64 0] 32) := ⟨_, rfl⟩
  have hB : Below W.heap.size W U := by rw [hU]; exact ((Below.refl _ _).alloc (Nat.le_refl _) _).alloc (by simp) _
  have hk : Blk U W.heap.size 30 [.int .i64 p, .int .i64 q] := by rw [hU]; exact (Blk.new W _ [.int .i64 p, .int .i64 q]).more ((Below.refl _ _).alloc (Nat.le_refl _) _)
  have he : Blk U (W.heap.size + 1) 32 (entD (0, 0, 0)) := by
    have := Blk.new (W.alloc (.cells #[.int .i64 p, .int .i64 q] 30)) 32 (entD (0, 0, 0))
    rw [World.size_alloc] at this
    rw [hU]
    exact this
  obtain ⟨h32, a, c, hth, hrow⟩ := h.more hB
  obtain ⟨z, hz⟩ := idx_ex (fun x => x.is p q) l
  have HU := Lib.hid hU
  have HB := Lib.hid hB
  have HK := Lib.hid hk
  have HE := Lib.hid he
  have HTH := Lib.hid hth
  have HV : Hid (l = [] ∨ ∃ g m, v = .pointer (some ⟨g, 0, none⟩) ∧ LS19 U g m l) := Lib.hid (hv.imp_right fun ⟨g, m, h1, h2⟩ => ⟨g, m, h1, h2.more hB⟩)
  have HIX : Hid (∀ V (k : Nat), Below U.heap.size U V → Blk V k 30 [.int .i64 p, .int .i64 q] → Calls Try.prog 28 #[.slice a l.length c, .func (.func 39) #[] #[.pointer (some ⟨k, 0, none⟩)]] V fun e w' => e = .returned (.int .i64 z) ∧ Below V.heap.size V w') := Lib.hid fun V k hb hk =>
    (indexFunc19 a c (IRow.more hrow hb) (by omega) (isL_key p q k hk (by simp))).mono fun e w' ⟨⟨z', h1, h2⟩, h3⟩ => ⟨by rw [idx_one hz h2]; exact h1, h3⟩
  have HZ := Lib.hid hz
  have HSet : Hid (∀ (X : World) (j : Nat) (v : Value), Below W.heap.size W X → Below W.heap.size W (X.setCell ⟨W.heap.size + 1, j, none⟩ v)) := Lib.hid fun X j v h => h.setCell (p := ⟨W.heap.size + 1, j, none⟩) (by simp) _
  have k0 := hk.cell (j := 0) rfl
  have k1 := hk.cell (j := 1) rfl
  have kl := hk.lt
  clear hU hB hk he h hth hrow hz h32 hv
  generalize l.length = n at HTH HIX
  go_enter Try.func14, Try.ntmps14
  go_upto_region 1 with fail
  rw [← HU.out]
  clear HU
  apply wp_region_ex [7, 8, 9, 10, 11] [_, _, _, undef, _] 3 (ClK p q) (fun v W1 W2 hb h => h.more hb)
  case hm => kernel_rfl
  case hT => intro y; simp only [setAll, List.setIfInBounds_toArray, List.set_cons_succ, List.set_cons_zero]; exact rfl
  case hok => kernel_rfl
  case hn => decide
  case hs =>
    refine ex_op 7 [] (by kernel_rfl) (by decide) (fun y w' HW hd K hK => ?_) ?_
    · go_simp
      refine hK _ _ ?_ ?_ (Below.refl _ _)
      · simp [upd]
      · exact rfl
    refine ex_op 8 [0] (by kernel_rfl) (by decide) (fun y w' HW hd K hK => ?_) ?_
    · have e0 := exR_nth (hd 0 (by simp)) (by decide) rfl
      go_simp
      refine (HTH.out _ HW).mono ?_
      rintro e w3 ⟨rfl, hb3⟩
      refine hK _ _ ?_ ?_ hb3
      · simp [upd, e0]
      · exact rfl
    refine ex_op 9 [] (by kernel_rfl) (by decide) (fun y w' HW hd K hK => ?_) ?_
    · have hcl : ∀ p : Addr, p.block < U.heap.size → w'.cell? p = U.cell? p := fun p hp => HW.cell hp
      go_simp
      refine hK _ _ ?_ ?_ (Below.refl _ _)
      · simp [upd]
      · exact rfl
    refine ex_one 10 [2, 1] (by kernel_rfl) rfl (fun y w' HW hd K hK => ?_) ?_
    · have e1 := exR_nth (hd 1 (by simp)) (by decide) rfl
      have e2 := exR_nth (hd 2 (by simp)) (by decide) rfl
      go_simp
      refine (hasKey19_any p q _).mono ?_
      rintro e w3 ⟨rfl, hk3, hb3⟩
      have hP : ClK p q (.func (.func 39) #[] #[.pointer (some ⟨w'.heap.size, 0, none⟩)]) w3 := ⟨_, rfl, hk3⟩
      refine hK _ _ ?_ ?_ hb3
      · simp [upd, e1, e2]
      · exact hP
    refine ex_op 11 [1, 3, 3] (by kernel_rfl) (by decide) (fun y w' HW hd K hK => ?_) ?_
    · have e1 := exR_nth (hd 1 (by simp)) (by decide) rfl
      have eP := exR_b (hd 3 (by simp))
      obtain ⟨k9, e3, hr5⟩ := eP
      go_simp
      refine (HIX.out _ k9 HW hr5).mono ?_
      rintro e w3 ⟨rfl, hb3⟩
      refine hK _ _ ?_ ?_ hb3
      · simp [upd, e1, e3]
      · exact rfl
    refine ex_last fun y w' HW hd K hK => ?_
    have e0 := exR_nth (hd 0 (by omega)) (by decide) rfl
    have e1 := exR_nth (hd 1 (by omega)) (by decide) rfl
    have e2 := exR_nth (hd 2 (by omega)) (by decide) rfl
    have e4 := exR_nth (hd 4 (by omega)) (by decide) rfl
    go_simp
    refine hK _ _ ?_
    clear hd hK K e0 e1 e2 e4
    have HW9 := Lib.hid HW
    have HB9 := Lib.hid (HB.out.trans (HW.mono HB.out.size))
    clear HW HTH HIX k0 k1 kl
    have q0 := HE.out.more HW9.out
    have r0 := q0.cell (j := 0) rfl
    have r1 := q0.cell (j := 1) rfl
    have r2 := q0.cell (j := 2) rfl
    have f3 := q0.frozen 0
    have f4 := q0.frozen 1
    have f5 := q0.frozen 2
    have hlt := q0.lt
    clear q0
    rcases HZ.out with ⟨i, x, rfl, hx, hp, hno⟩ | ⟨rfl, hno⟩
    · have HF := Lib.hid (foundS hno hx hp)
      have hil := (List.getElem?_eq_some_iff.1 hx).1
      rcases HV.out with rfl | ⟨g, m, rfl, hl⟩
      · simp at hx
      have h32 := hl.len
      have t0 : (0 : Int) ≤ (i : Int) := by omega
      have t1 : ¬ (i : Int) < 0 := by omega
      have t2 : (i : Int) < 32 := by omega
      obtain ⟨zz, hrs⟩ := hl.more HW9.out
      obtain ⟨c0, c1, c2, c3, c4, c5, c6⟩ := hrs.cells (i := i) (x := x) (by rw [List.getElem?_append_left hil]; exact hx)
      have gl := hrs.lt
      clear hno hx hp hil hl h32 hrs HV HZ c0 c1 c5 c6
      obtain ⟨kr, kp, ep, ef, er, rt, lf⟩ := x
      dsimp only at c2 c3 c4
      go_wp2
      exact bodyPost_ret (v := .tuple #[entW (ep, ef, er), .bool true]) (by simp [results, Try.results14, go_sem, r0, r1, r2, entW]) rfl ⟨by rw [HF.out]; rfl, by (repeat (first | refine HSet.out _ _ _ ?_)); exact HB9.out⟩
    · have HF := Lib.hid (absentS hno)
      clear hno HV HZ
      go_wp2
      exact bodyPost_ret (v := .tuple #[entW (0, 0, 0), .bool false]) (by simp [results, Try.results14, go_sem, r0, r1, r2, entW]) rfl ⟨by rw [HF.out]; rfl, by (repeat (first | refine HSet.out _ _ _ ?_)); exact HB9.out⟩
end
end Go.Proofs.Ytcdiigdbjncpeaa.Sw
