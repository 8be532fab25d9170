/- The walk of config.Check. -/
import Derived.Test.YtmekoanobicddaaCj
import Derived.WalkMore
import Derived.Laws.EntriesVeiled
namespace Go.Proofs.Ytmekoanobicddaa.Cf
open Go.RowKit Ut
set_option linter.unusedVariables false

theorem cells3 {W : World} {b : Nat} {x y z : Value} {t : TypeId} {f : Nat × Nat} (h : W.heap[b]? = some (.cells #[x, y, z] t f)) : W.cell? ⟨b, 0, none⟩ = some x ∧ W.cell? ⟨b, 1, none⟩ = some y ∧ W.cell? ⟨b, 2, none⟩ = some z := by
  refine ⟨?_, ?_, ?_⟩ <;> simp [World.cell?, h]
theorem more_false {p : Nat → Bool} {k : Nat} (h : ∀ j, j < k → p j = false) (hk : p k = false) : ∀ j, j < k + 1 → p j = false := fun j hj => by
  by_cases e : j = k
  · rw [e]; exact hk
  · exact h j (by omega)

set_option maxRecDepth 100000 in
set_option maxHeartbeats 2000000 in
theorem check_any (c : Cfg) (B : Nat) (w : World) (hB : B ≤ w.heap.size) (hc : c.At w B) :
    Calls Try.prog 16 #[c.v] w fun e w' => e = .returned (.tuple #[.int .i64 (check c).1, .int .i64 (check c).2]) ∧ Below w.heap.size w w' := by
  have hcn : ∀ j, cntR c j ≤ 140737488355328 := cntR_bd hc
  have HCN := Lib.hid hcn
  have HC := Lib.hid hc
  have hb0 : ∀ o : Obj, Below w.heap.size w (w.alloc o) := fun o => (Below.refl _ _).alloc (Nat.le_refl _) _
  have HB0 := Lib.hid hb0
  obtain ⟨PQ, hPQ⟩ : ∃ PQ : Int × Int → World → Prop, PQ = fun q w' => Below w.heap.size w w' ∧ q = check c := ⟨_, rfl⟩
  have HPQ : Hid (∀ q w', Below w.heap.size w w' → check c = q → PQ q w') := Lib.hid fun q w' h1 h2 => by rw [hPQ]; exact ⟨h1, h2.symm⟩
  suffices hh : Calls Try.prog 16 #[c.v] w fun e w' => ∃ q : Int × Int, e = .returned (.tuple #[.int .i64 q.1, .int .i64 q.2]) ∧ PQ q w' from hh.mono fun e w' ⟨q, h1, h2⟩ => by
    rw [hPQ] at h2
    obtain ⟨h2, rfl⟩ := h2
    exact ⟨h1, h2⟩
  obtain ⟨PE, hPE⟩ : ∃ PE : Ending → World → Prop, PE = fun e w' => ∃ q : Int × Int, e = .returned (.tuple #[.int .i64 q.1, .int .i64 q.2]) ∧ PQ q w' := ⟨_, rfl⟩
  have HPE : Hid (∀ (a b : Int) w', PQ (a, b) w' → PE (.returned (.tuple #[.int .i64 a, .int .i64 b])) w') := Lib.hid fun a b w' h => by rw [hPE]; exact ⟨(a, b), rfl, h⟩
  rw [← hPE]
  clear hc hcn hb0 hPQ hPE
  go_enter Try.func16, Try.ntmps16
  go_wp2
  go_step3
  go_wp2
  go_step3
  go_wp2_with fail
  refine (rules_any c _).mono ?_
  rintro e W1 hp
  obtain ⟨g, bc, bs, bt, rfl, hR, hx, hs, hT, o1, o2, o3, o4, n1, n2, n3, hb⟩ := hp.all
  clear hp
  have hb1 : Below w.heap.size w W1 := (HB0.out _).trans (hb.mono (by simp))
  have hbt : w.heap.size ≤ bt := by simp at o3; omega
  have HR := Lib.hid hR
  have HX := Lib.hid hx
  have HS := Lib.hid hs
  have h0 : CkAt c bt W1 W1 0 0 := ⟨World.grownBy.refl _ _, hT⟩
  have H0 := Lib.hid h0
  clear hR hx hs hT h0 hb o1 o2 o3 o4
  go_wp2
  go_loopw [4, 5, 12] (fun e p i wr => ∃ j : Nat, j ≤ 13 ∧ e = .int .i64 0 ∧ p = .int .i64 0 ∧ i = .int .i64 j ∧ Hid (Passed c j) ∧ Hid (CkAt c bt W1 wr j 0)) (fun _ _ i _ => 13 - (intOf i).toNat)
  case atStart => exact ⟨0, by omega, rfl, rfl, rfl, fun j' h => absurd h (by omega), H0.out⟩
  case round =>
    obtain ⟨j, hj, rfl, rfl, rfl, HP, HI⟩ := hrel
    by_cases hlt : j < 13
    · obtain ⟨c0, c1, c2⟩ := rules_cells (HR.out.kept HI.out.grown n3) j hlt
      obtain ⟨fn, hfn⟩ : ∃ fn, fn = fnR j := ⟨_, rfl⟩
      obtain ⟨cap, hcap⟩ : ∃ cap, cap = capR bc bs j := ⟨_, rfl⟩
      obtain ⟨cnt, hcnt⟩ : ∃ cnt, cnt = cntR c j := ⟨_, rfl⟩
      obtain ⟨er, her⟩ : ∃ er, er = errR j := ⟨_, rfl⟩
      have hcb : cnt ≤ 140737488355328 := by rw [hcnt]; exact HCN.out j
      have hen : ∀ (args : Array Value) (w : World), (callFunc fn args).run Try.prog w = .ok (.enter fn args) w := by rw [hfn]; exact fnR_enters j
      have HA : Hid (∀ (i : Nat) W, i < cnt → CkAt c bt W1 W j i → Calls Try.prog fn (#[.int .i64 i] ++ cap) W fun e W' => e = .returned (.bool (wrR c j i)) ∧ Hid (W.grownBy W' (some bt)) ∧ Hid (wrR c j i = false → CkAt c bt W1 W' j (i + 1))) := Lib.hid fun i W hi hI => by
        rw [hfn, hcap]
        rw [hcnt] at hi
        exact ask_any (B := w.heap.size) hb1.size ((HC.out.more_at hB).below hb1) HX.out HS.out n1 n2 hbt hI hlt hi HP.out
      have HCnt := Lib.hid hcnt
      have HEr := Lib.hid her
      rw [← hfn, ← hcap] at c2
      rw [← hcnt] at c1
      rw [← her] at c0
      clear hfn hcap hcnt her
      have b0 : (0 : Int) ≤ (j : Int) := by omega
      have b1 : (j : Int) < 13 := by omega
      have hbl : bt < wr.heap.size := by obtain ⟨q, hq⟩ := HI.out.tab.block; exact (Array.getElem?_eq_some_iff.1 hq).1
      go_wp2
      go_loopw [4, 5, 18] (fun e p q W => ∃ i : Nat, i ≤ cnt ∧ e = .int .i64 0 ∧ p = .int .i64 0 ∧ q = .int .i64 i ∧ Hid (∀ i', i' < i → wrR c j i' = false) ∧ Hid (CkAt c bt W1 W j i) ∧ Hid (W.heap[wr.heap.size]? = some (.cells #[.int .i64 er, .int .i64 cnt, .func (.func fn) #[] cap] 81 (0, 0)))) (fun _ _ q _ => cnt - (intOf q).toNat)
      case atStart => exact ⟨0, Nat.zero_le _, rfl, rfl, rfl, fun i' h => absurd h (by omega), Lib.hid (HI.out.below ((Below.refl _ _).alloc (Nat.le_refl _) _)), Lib.hid (by rw [heap_alloc_new])⟩
      case round =>
        obtain ⟨i, hi, rfl, rfl, rfl, hno, HJ, HRb⟩ := hrel
        by_cases hli : i < cnt
        · obtain ⟨d0, d1, d2⟩ := cells3 HRb.out
          have HK := Lib.hid (HA.out i wr hli HJ.out)
          have i0 : (0 : Int) ≤ (i : Int) := by omega
          have i1 : (i : Int) < (cnt : Int) := by omega
          obtain ⟨b, hbw⟩ : ∃ b, b = wrR c j i := ⟨_, rfl⟩
          rw [← hbw] at HK
          have HBw := Lib.hid hbw
          clear hbw
          cases b
          · go_wp2_with fail
            refine HK.out.mono ?_
            rintro e W3 ⟨rfl, hg3, hI3⟩
            have HRb3 : Hid (W3.heap[_]? = _) := Lib.hid ((hg3.out.block _ (Array.getElem?_eq_some_iff.1 HRb.out).1 (fun e => by injection e with e; omega)).trans HRb.out)
            clear d0 d1 d2
            go_wp2
            go_roundw
            case rel => exact ⟨i + 1, by omega, rfl, rfl, by go_num, Lib.hid (more_false hno.out HBw.out.symm), Lib.hid (by first | exact hI3.out rfl | exact hI3.out trivial | exact hI3.out), HRb3⟩
            case measure => simp [intOf]; omega
          · go_wp2_with fail
            refine HK.out.mono ?_
            rintro e W3 ⟨rfl, hg3, hI3⟩
            obtain ⟨d0, d1, d2⟩ := cells3 ((hg3.out.block _ (Array.getElem?_eq_some_iff.1 HRb.out).1 (fun e => by injection e with e; omega)).trans HRb.out)
            have hck := HPE.out er (i : Int) W3 (HPQ.out (er, (i : Int)) W3 (hb1.grown (Pt.grownBy_trans HJ.out.grown hg3.out) hb1.size (fun q e => by injection e with e; omega)) (by rw [HEr.out]; exact check_at hlt HP.out (by rw [← HCnt.out]; exact hli) HBw.out.symm hno.out))
            have HCk := Lib.hid hck
            clear hck
            go_wp2
            exact HCk.out
        · have hic : i = cnt := by omega
          subst hic
          have i1 : ¬ (i : Int) < (i : Int) := by omega
          go_wp2
          go_roundw
          case rel => exact ⟨j + 1, by omega, rfl, rfl, by go_num, Lib.hid (HP.out.next (by rw [← HCnt.out]; exact hno.out)), Lib.hid (CkAt.next (by rw [← HCnt.out]; exact HJ.out))⟩
          case measure => simp [intOf]; omega
    · have hj13 : j = 13 := by omega
      subst hj13
      have hck := HPE.out 0 0 wr (HPQ.out (0, 0) wr (hb1.grown HI.out.grown hb1.size (fun q e => by injection e with e; omega)) (check_ok HP.out))
      have HCk := Lib.hid hck
      clear hck
      go_wp2
      exact HCk.out
end Go.Proofs.Ytmekoanobicddaa.Cf
