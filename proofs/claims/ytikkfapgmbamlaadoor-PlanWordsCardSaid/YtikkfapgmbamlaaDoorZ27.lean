/- Several texts in one: Cj Ck -/
import Derived.Test.YtikkfapgmbamlaaDoorZ26
import Derived.Deep.DeepCutAuto
import Derived.Deep.CutBlock
import Derived.WalkMore
import Derived.Laws.EntriesVeiled
section
/- config.Check. -/
namespace Go.Proofs.YtikkfapgmbamlaaDoor.Cf
open Go.RowKit Ut
set_option maxRecDepth 100000
set_option linter.unusedVariables false

/-- what is wrong first, and where -/
def check (c : Cfg) : Int × Int := match firstI 13 fun j => (firstI (cntR c j) (wrR c j)).isSome with
  | none => (0, 0)
  | some j => (errR j, atI (firstI (cntR c j) (wrR c j)))
def Passed (c : Cfg) (j : Nat) : Prop := ∀ j', j' < j → ∀ i, i < cntR c j' → wrR c j' i = false
theorem passed_none {c : Cfg} {j : Nat} (h : Passed c j) (j' : Nat) (hj : j' < j) : (firstI (cntR c j') (wrR c j')).isSome = false := by
  rw [firstI_none (h j' hj)]; rfl
theorem check_ok {c : Cfg} (h : Passed c 13) : check c = (0, 0) := by
  unfold check
  rw [firstI_none (passed_none h)]
theorem check_at {c : Cfg} {j i : Nat} (hj : j < 13) (h : Passed c j) (hi : i < cntR c j) (hw : wrR c j i = true) (hno : ∀ i', i' < i → wrR c j i' = false) : check c = (errR j, (i : Int)) := by
  have e : firstI (cntR c j) (wrR c j) = some i := firstI_some hi hw hno
  unfold check
  rw [firstI_some (k := j) hj (by rw [e]; rfl) (passed_none h)]
  simp only [e]
  rfl
theorem Passed.next {c : Cfg} {j : Nat} (h : Passed c j) (hn : ∀ i, i < cntR c j → wrR c j i = false) : Passed c (j + 1) := fun j' hj => by
  by_cases e : j' = j
  · rw [e]; exact hn
  · exact h j' (by omega)
theorem check_cases (c : Cfg) : (check c = (0, 0) ∧ Passed c 13) ∨ ∃ j i, j < 13 ∧ Passed c j ∧ i < cntR c j ∧ wrR c j i = true ∧ (∀ i', i' < i → wrR c j i' = false) ∧ check c = (errR j, (i : Int)) := by
  rcases firstI_cases 13 fun j => (firstI (cntR c j) (wrR c j)).isSome with ⟨h, hn⟩ | ⟨j, h, hj, hp, hn⟩
  · have : Passed c 13 := fun j hj i hi => by
      have := hn j hj
      rcases firstI_cases (cntR c j) (wrR c j) with ⟨_, h2⟩ | ⟨k, h2, _⟩
      · exact h2 i hi
      · rw [h2] at this; cases this
    exact .inl ⟨check_ok this, this⟩
  · have hpj : Passed c j := fun j' hj' i hi => by
      have := hn j' hj'
      rcases firstI_cases (cntR c j') (wrR c j') with ⟨_, h2⟩ | ⟨k, h2, _⟩
      · exact h2 i hi
      · rw [h2] at this; cases this
    rcases firstI_cases (cntR c j) (wrR c j) with ⟨h2, _⟩ | ⟨i, h2, hi, hw, hno⟩
    · rw [h2] at hp; cases hp
    · exact .inr ⟨j, i, hj, hpj, hi, hw, hno, check_at hj hpj hi hw hno⟩
theorem passed_small {c : Cfg} (h : Passed c 3) : c.gn ≤ 4 ∧ 1 ≤ c.gn ∧ Small c.G c.gn := by
  have h1 := h 1 (by omega) 0 (by simp [cntR])
  have h1' : inB c.gn 1 4 = true := by simpa [wrR] using h1
  unfold inB at h1'
  simp at h1'
  refine ⟨by omega, by omega, fun i hi => ?_⟩
  have h2 : wrongG c i = false := h 2 (by omega) i (by simpa [cntR] using hi)
  unfold wrongG inB at h2
  simp at h2
  omega

/-- how many ranges have been asked about -/
def secAt (c : Cfg) (j i : Nat) : Nat := if j < 4 then 0 else if j = 4 then i else c.rn
structure CkAt (c : Cfg) (bt : Nat) (W1 W : World) (j i : Nat) : Prop where
  grown : W1.grownBy W (some bt)
  tab : Pt.Tab W bt (secs c (secAt c j i))
theorem CkAt.below {c : Cfg} {bt j i : Nat} {W1 W W' : World} (h : CkAt c bt W1 W j i) (hb : Below W.heap.size W W') : CkAt c bt W1 W' j i :=
  ⟨Pt.grownBy_trans h.grown (Pt.grownBy_of_below _ hb), h.tab.below hb⟩
theorem CkAt.step {c : Cfg} {bt j i : Nat} {W1 W W' : World} (h : CkAt c bt W1 W j i) (hb : Below W.heap.size W W') (hj : j ≠ 4) : CkAt c bt W1 W' j (i + 1) :=
  ⟨(h.below hb).grown, by have e : secAt c j (i + 1) = secAt c j i := by unfold secAt; simp [hj]
                          rw [e]; exact (h.below hb).tab⟩
theorem CkAt.next {c : Cfg} {bt j : Nat} {W1 W : World} (h : CkAt c bt W1 W j (cntR c j)) : CkAt c bt W1 W (j + 1) 0 :=
  ⟨h.grown, by
    have e : secAt c (j + 1) 0 = secAt c j (cntR c j) := by
      unfold secAt
      by_cases h1 : j < 3
      · rw [if_pos (by omega), if_pos (by omega)]
      · by_cases h2 : j = 3
        · subst h2; rfl
        · by_cases h3 : j = 4
          · subst h3; rfl
          · rw [if_neg (by omega), if_neg (by omega), if_neg (by omega), if_neg (by omega)]
    rw [e]; exact h.tab⟩

theorem fnR_enters (j : Nat) (args : Array Value) (w : World) : (callFunc (fnR j) args).run Tryd.prog w = .ok (.enter (fnR j) args) w := by
  unfold fnR
  split <;> rfl

/-- what rule j answers of place i -/
theorem ask_any {c : Cfg} {bc bs bt B j i : Nat} {W1 W : World} (hB : B ≤ W1.heap.size) (hc : c.At W1 B) (hx : BoxC W1 bc c) (hs : W1.heap[bs]? = some (.cells #[.pointer (some ⟨bt, 0, none⟩)] 103 (0, 0)))
    (n1 : bt ≠ bc) (n2 : bt ≠ bs) (n3 : B ≤ bt) (hI : CkAt c bt W1 W j i) (hj : j < 13) (hi : i < cntR c j) (hp : Passed c j) :
    Calls Tryd.prog (fnR j) (#[.int .i64 i] ++ capR bc bs j) W fun e W' => e = .returned (.bool (wrR c j i)) ∧ Hid (W.grownBy W' (some bt)) ∧ Hid (wrR c j i = false → CkAt c bt W1 W' j (i + 1)) := by
  have hB2 : B ≤ W.heap.size := Nat.le_trans hB hI.grown.size
  have hc2 : c.At W B := hc.below ((Below.refl _ _).grown hI.grown hB (fun q e => by injection e with e; omega))
  have hx2 : BoxC W bc c := hx.kept hI.grown (fun q e => by injection e with e; omega)
  have hs2 : W.heap[bs]? = some (.cells #[.pointer (some ⟨bt, 0, none⟩)] 103 (0, 0)) := (hI.grown.block _ (Array.getElem?_eq_some_iff.1 hs).1 (fun e => by injection e with e; omega)).trans hs
  have fin : ∀ {j : Nat}, j ≠ 4 → CkAt c bt W1 W j i → ∀ {e : Ending} {W' : World}, e = .returned (.bool (wrR c j i)) ∧ Below W.heap.size W W' → e = .returned (.bool (wrR c j i)) ∧ Hid (W.grownBy W' (some bt)) ∧ Hid (wrR c j i = false → CkAt c bt W1 W' j (i + 1)) :=
    fun hj4 hI e W' h => ⟨h.1, Lib.hid (Pt.grownBy_of_below _ h.2), Lib.hid fun _ => hI.step h.2 hj4⟩
  match j, hj with
  | 0, _ => exact (clos0_any c i bc B W hB2 hc2 hx2).mono fun e W' h => fin (by omega) hI h
  | 1, _ => exact (clos1_any c i bc B W hB2 hc2 hx2).mono fun e W' h => fin (by omega) hI h
  | 2, _ => exact (clos2_any c i bc B W hB2 hc2 hx2 hi).mono fun e W' h => fin (by omega) hI h
  | 3, _ => exact (clos3_any c i bc B W hB2 hc2 hx2).mono fun e W' h => fin (by omega) hI h
  | 4, _ =>
    refine (clos4_any c i bc bs bt B W hB2 hc2 hx2 hi (by simp [World.cell?, hs2]) hI.tab).mono fun e W' h => ⟨h.1, Lib.hid h.2.1, Lib.hid fun hw => ⟨Pt.grownBy_trans hI.grown h.2.1, h.2.2 hw⟩⟩
  | 5, _ => exact (clos5_any c i bc B W hB2 hc2 hx2).mono fun e W' h => fin (by omega) hI h
  | 6, _ => exact (clos6_any c i bc B W hB2 hc2 hx2 hi).mono fun e W' h => fin (by omega) hI h
  | 7, _ => exact (clos7_any c i bc B W hB2 hc2 hx2).mono fun e W' h => fin (by omega) hI h
  | 8, _ => exact (clos8_any c i bc B W hB2 hc2 hx2 hi).mono fun e W' h => fin (by omega) hI h
  | 9, _ => exact (clos9_any c i bc B W hB2 hc2 hx2).mono fun e W' h => fin (by omega) hI h
  | 10, _ => exact (clos10_any c i bc B W hB2 hc2 hx2 hi).mono fun e W' h => fin (by omega) hI h
  | 11, _ => exact (clos11_any c i bc B W hB2 hc2 hx2).mono fun e W' h => fin (by omega) hI h
  | 12, _ =>
    obtain ⟨q1, _, q2⟩ := passed_small (c := c) (fun j' hj' => hp j' (by omega))
    exact (clos12_any c i bc B W hB2 hc2 hx2 q1 q2).mono fun e W' h => fin (by omega) hI h
  | j + 13, hj => omega

theorem rules_cells {W : World} {g bc bs : Nat} {c : Cfg} (h : RulesAt W g c bc bs) (j : Nat) (hj : j < 13) :
    W.cell? ⟨g, j * 3, none⟩ = some (.int .i64 (errR j)) ∧ W.cell? ⟨g, j * 3 + 1, none⟩ = some (.int .i64 (cntR c j)) ∧ W.cell? ⟨g, j * 3 + 2, none⟩ = some (.func (.func (fnR j)) #[] (capR bc bs j)) := by
  obtain ⟨t, ht⟩ := h
  have key : ∀ o, W.cell? ⟨g, o, none⟩ = ((List.range 13).flatMap fun j => [Value.int .i64 (errR j), .int .i64 (cntR c j), valR bc bs j])[o]? := fun o => by simp [World.cell?, ht]
  rw [key, key, key]
  match j, hj with
  | 0, _ => exact ⟨rfl, rfl, rfl⟩
  | 1, _ => exact ⟨rfl, rfl, rfl⟩
  | 2, _ => exact ⟨rfl, rfl, rfl⟩
  | 3, _ => exact ⟨rfl, rfl, rfl⟩
  | 4, _ => exact ⟨rfl, rfl, rfl⟩
  | 5, _ => exact ⟨rfl, rfl, rfl⟩
  | 6, _ => exact ⟨rfl, rfl, rfl⟩
  | 7, _ => exact ⟨rfl, rfl, rfl⟩
  | 8, _ => exact ⟨rfl, rfl, rfl⟩
  | 9, _ => exact ⟨rfl, rfl, rfl⟩
  | 10, _ => exact ⟨rfl, rfl, rfl⟩
  | 11, _ => exact ⟨rfl, rfl, rfl⟩
  | 12, _ => exact ⟨rfl, rfl, rfl⟩
  | j + 13, hj => omega
theorem RulesAt.kept {W W' : World} {g bc bs bt : Nat} {c : Cfg} (h : RulesAt W g c bc bs) (hg : W.grownBy W' (some bt)) (hr : bt ≠ g) : RulesAt W' g c bc bs := by
  obtain ⟨t, ht⟩ := h
  exact ⟨t, (hg.block _ (Array.getElem?_eq_some_iff.1 ht).1 (fun e => by injection e with e; omega)).trans ht⟩
theorem cntR_bd {c : Cfg} {w : World} {B : Nat} (h : c.At w B) (j : Nat) : cntR c j ≤ 140737488355328 := by
  have h1 := h.lg
  have h2 := h.lr
  have h3 := h.lp
  have h4 := h.ln
  have h5 := h.ls
  unfold cntR
  split <;> omega
end Go.Proofs.YtikkfapgmbamlaaDoor.Cf
end
section
/- The walk of config.Check. -/
namespace Go.Proofs.YtikkfapgmbamlaaDoor.Cf
open Go.RowKit Ut
set_option maxRecDepth 100000
set_option linter.unusedVariables false

theorem cells3 {W : World} {b : Nat} {x y z : Value} {t : TypeId} {f : Nat × Nat} (h : W.heap[b]? = some (.cells #[x, y, z] t f)) : W.cell? ⟨b, 0, none⟩ = some x ∧ W.cell? ⟨b, 1, none⟩ = some y ∧ W.cell? ⟨b, 2, none⟩ = some z := by
  refine ⟨?_, ?_, ?_⟩ <;> simp [World.cell?, h]
theorem more_false {p : Nat → Bool} {k : Nat} (h : ∀ j, j < k → p j = false) (hk : p k = false) : ∀ j, j < k + 1 → p j = false := fun j hj => by
  by_cases e : j = k
  · rw [e]; exact hk
  · exact h j (by omega)

set_option maxRecDepth 100000 in
set_option maxHeartbeats 2000000 in
theorem check_any (c : Cfg) (B : Nat) (w : World) (hB : B ≤ w.heap.size) (hc : c.At w B) :
    Calls Tryd.prog 18 #[c.v] w fun e w' => e = .returned (.tuple #[.int .i64 (check c).1, .int .i64 (check c).2]) ∧ Below w.heap.size w w' := by
  have hcn : ∀ j, cntR c j ≤ 140737488355328 := cntR_bd hc
  have HCN := Lib.hid hcn
  have HC := Lib.hid hc
  have hb0 : ∀ o : Obj, Below w.heap.size w (w.alloc o) := fun o => (Below.refl _ _).alloc (Nat.le_refl _) _
  have HB0 := Lib.hid hb0
  obtain ⟨PQ, hPQ⟩ : ∃ PQ : Int × Int → World → Prop, PQ = fun q w' => Below w.heap.size w w' ∧ q = check c := ⟨_, rfl⟩
  have HPQ : Hid (∀ q w', Below w.heap.size w w' → check c = q → PQ q w') := Lib.hid fun q w' h1 h2 => by rw [hPQ]; exact ⟨h1, h2.symm⟩
  suffices hh : Calls Tryd.prog 18 #[c.v] w fun e w' => ∃ q : Int × Int, e = .returned (.tuple #[.int .i64 q.1, .int .i64 q.2]) ∧ PQ q w' from hh.mono fun e w' ⟨q, h1, h2⟩ => by
    rw [hPQ] at h2
    obtain ⟨h2, rfl⟩ := h2
    exact ⟨h1, h2⟩
  obtain ⟨PE, hPE⟩ : ∃ PE : Ending → World → Prop, PE = fun e w' => ∃ q : Int × Int, e = .returned (.tuple #[.int .i64 q.1, .int .i64 q.2]) ∧ PQ q w' := ⟨_, rfl⟩
  have HPE : Hid (∀ (a b : Int) w', PQ (a, b) w' → PE (.returned (.tuple #[.int .i64 a, .int .i64 b])) w') := Lib.hid fun a b w' h => by rw [hPE]; exact ⟨(a, b), rfl, h⟩
  rw [← hPE]
  clear hc hcn hb0 hPQ hPE
  go_enter Tryd.func18, Tryd.ntmps18
  go_wp2
  go_step3
  go_wp2
  go_step3
  go_wp2_with fail
  refine (rules_any c _).mono ?_
  rintro e W1 hp
  obtain ⟨g, bc, bs, bt, rfl, hR, hx, hs, hT, o1, o2, o3, o4, n1, n2, n3, hb⟩ := hp.all
  clear hp
  have hb1 : Below w.heap.size w W1 := (HB0.out _).trans (hb.mono (by simp))
  have hbt : w.heap.size ≤ bt := by simp at o3; omega
  have HR := Lib.hid hR
  have HX := Lib.hid hx
  have HS := Lib.hid hs
  have h0 : CkAt c bt W1 W1 0 0 := ⟨World.grownBy.refl _ _, hT⟩
  have H0 := Lib.hid h0
  clear hR hx hs hT h0 hb o1 o2 o3 o4
  go_wp2
  go_loopw [4, 5, 12] (fun e p i wr => ∃ j : Nat, j ≤ 13 ∧ e = .int .i64 0 ∧ p = .int .i64 0 ∧ i = .int .i64 j ∧ Hid (Passed c j) ∧ Hid (CkAt c bt W1 wr j 0)) (fun _ _ i _ => 13 - (intOf i).toNat)
  case atStart => exact ⟨0, by omega, rfl, rfl, rfl, fun j' h => absurd h (by omega), H0.out⟩
  case round =>
    obtain ⟨j, hj, rfl, rfl, rfl, HP, HI⟩ := hrel
    by_cases hlt : j < 13
    · obtain ⟨c0, c1, c2⟩ := rules_cells (HR.out.kept HI.out.grown n3) j hlt
      obtain ⟨fn, hfn⟩ : ∃ fn, fn = fnR j := ⟨_, rfl⟩
      obtain ⟨cap, hcap⟩ : ∃ cap, cap = capR bc bs j := ⟨_, rfl⟩
      obtain ⟨cnt, hcnt⟩ : ∃ cnt, cnt = cntR c j := ⟨_, rfl⟩
      obtain ⟨er, her⟩ : ∃ er, er = errR j := ⟨_, rfl⟩
      have hcb : cnt ≤ 140737488355328 := by rw [hcnt]; exact HCN.out j
      have hen : ∀ (args : Array Value) (w : World), (callFunc fn args).run Tryd.prog w = .ok (.enter fn args) w := by rw [hfn]; exact fnR_enters j
      have HA : Hid (∀ (i : Nat) W, i < cnt → CkAt c bt W1 W j i → Calls Tryd.prog fn (#[.int .i64 i] ++ cap) W fun e W' => e = .returned (.bool (wrR c j i)) ∧ Hid (W.grownBy W' (some bt)) ∧ Hid (wrR c j i = false → CkAt c bt W1 W' j (i + 1))) := Lib.hid fun i W hi hI => by
        rw [hfn, hcap]
        rw [hcnt] at hi
        exact ask_any (B := w.heap.size) hb1.size ((HC.out.more_at hB).below hb1) HX.out HS.out n1 n2 hbt hI hlt hi HP.out
      have HCnt := Lib.hid hcnt
      have HEr := Lib.hid her
      rw [← hfn, ← hcap] at c2
      rw [← hcnt] at c1
      rw [← her] at c0
      clear hfn hcap hcnt her
      have b0 : (0 : Int) ≤ (j : Int) := by omega
      have b1 : (j : Int) < 13 := by omega
      have hbl : bt < wr.heap.size := by obtain ⟨q, hq⟩ := HI.out.tab.block; exact (Array.getElem?_eq_some_iff.1 hq).1
      go_wp2
      go_loopw [4, 5, 18] (fun e p q W => ∃ i : Nat, i ≤ cnt ∧ e = .int .i64 0 ∧ p = .int .i64 0 ∧ q = .int .i64 i ∧ Hid (∀ i', i' < i → wrR c j i' = false) ∧ Hid (CkAt c bt W1 W j i) ∧ Hid (W.heap[wr.heap.size]? = some (.cells #[.int .i64 er, .int .i64 cnt, .func (.func fn) #[] cap] 84 (0, 0)))) (fun _ _ q _ => cnt - (intOf q).toNat)
      case atStart => exact ⟨0, Nat.zero_le _, rfl, rfl, rfl, fun i' h => absurd h (by omega), Lib.hid (HI.out.below ((Below.refl _ _).alloc (Nat.le_refl _) _)), Lib.hid (by rw [heap_alloc_new])⟩
      case round =>
        obtain ⟨i, hi, rfl, rfl, rfl, hno, HJ, HRb⟩ := hrel
        by_cases hli : i < cnt
        · obtain ⟨d0, d1, d2⟩ := cells3 HRb.out
          have HK := Lib.hid (HA.out i wr hli HJ.out)
          have i0 : (0 : Int) ≤ (i : Int) := by omega
          have i1 : (i : Int) < (cnt : Int) := by omega
          obtain ⟨b, hbw⟩ : ∃ b, b = wrR c j i := ⟨_, rfl⟩
          rw [← hbw] at HK
          have HBw := Lib.hid hbw
          clear hbw
          cases b
          · go_wp2_with fail
            refine HK.out.mono ?_
            rintro e W3 ⟨rfl, hg3, hI3⟩
            have HRb3 : Hid (W3.heap[_]? = _) := Lib.hid ((hg3.out.block _ (Array.getElem?_eq_some_iff.1 HRb.out).1 (fun e => by injection e with e; omega)).trans HRb.out)
            clear d0 d1 d2
            go_wp2
            go_roundw
            case rel => exact ⟨i + 1, by omega, rfl, rfl, by go_num, Lib.hid (more_false hno.out HBw.out.symm), Lib.hid (by first | exact hI3.out rfl | exact hI3.out trivial | exact hI3.out), HRb3⟩
            case measure => simp [intOf]; omega
          · go_wp2_with fail
            refine HK.out.mono ?_
            rintro e W3 ⟨rfl, hg3, hI3⟩
            obtain ⟨d0, d1, d2⟩ := cells3 ((hg3.out.block _ (Array.getElem?_eq_some_iff.1 HRb.out).1 (fun e => by injection e with e; omega)).trans HRb.out)
            have hck := HPE.out er (i : Int) W3 (HPQ.out (er, (i : Int)) W3 (hb1.grown (Pt.grownBy_trans HJ.out.grown hg3.out) hb1.size (fun q e => by injection e with e; omega)) (by rw [HEr.out]; exact check_at hlt HP.out (by rw [← HCnt.out]; exact hli) HBw.out.symm hno.out))
            have HCk := Lib.hid hck
            clear hck
            go_wp2
            exact HCk.out
        · have hic : i = cnt := by omega
          subst hic
          have i1 : ¬ (i : Int) < (i : Int) := by omega
          go_wp2
          go_roundw
          case rel => exact ⟨j + 1, by omega, rfl, rfl, by go_num, Lib.hid (HP.out.next (by rw [← HCnt.out]; exact hno.out)), Lib.hid (CkAt.next (by rw [← HCnt.out]; exact HJ.out))⟩
          case measure => simp [intOf]; omega
    · have hj13 : j = 13 := by omega
      subst hj13
      have hck := HPE.out 0 0 wr (HPQ.out (0, 0) wr (hb1.grown HI.out.grown hb1.size (fun q e => by injection e with e; omega)) (check_ok HP.out))
      have HCk := Lib.hid hck
      clear hck
      go_wp2
      exact HCk.out
end Go.Proofs.YtikkfapgmbamlaaDoor.Cf
end
