/- Several texts in one: Ci Cj -/
import Derived.Test.YtikkfapgmbamlaaGreatDoorZ24
import Derived.Deep.DeepCutAuto
import Derived.Deep.CutBlock
section
/- config.rules: the row of rules. -/
namespace Go.Proofs.YtikkfapgmbamlaaGreatDoor.Cf
open Go.RowKit Ut
set_option maxRecDepth 100000
set_option linter.unusedVariables false

def fnR (j : Nat) : Nat := match j with
  | 0 => 30
  | 1 => 32
  | 2 => 33
  | 3 => 35
  | 4 => 36
  | 5 => 38
  | 6 => 39
  | 7 => 41
  | 8 => 42
  | 9 => 44
  | 10 => 45
  | 11 => 47
  | _ => 49
def capR (bc bs j : Nat) : Array Value := match j with
  | 4 => #[.pointer (some ⟨bc, 0, none⟩), .pointer (some ⟨bs, 0, none⟩)]
  | _ => #[.pointer (some ⟨bc, 0, none⟩)]
def valR (bc bs j : Nat) : Value := .func (.func (fnR j)) #[] (capR bc bs j)
/-- the rules lie in block g -/
def RulesAt (W : World) (g : Nat) (c : Cfg) (bc bs : Nat) : Prop := ∃ t, W.heap[g]? = some (.cells ((List.range 13).flatMap fun j => [Value.int .i64 (errR j), .int .i64 (cntR c j), valR bc bs j]).toArray t (0, 0))
structure RulesPost (c : Cfg) (w : World) (e : Ending) (W : World) : Prop where
  all : ∃ g bc bs bt, e = .returned (.slice (some ⟨g, 0, none⟩) 13 13) ∧ RulesAt W g c bc bs ∧ BoxC W bc c ∧ W.heap[bs]? = some (.cells #[.pointer (some ⟨bt, 0, none⟩)] 86 (0, 0)) ∧ Pt.Tab W bt (secs c 0) ∧ w.heap.size ≤ bc ∧ w.heap.size ≤ bs ∧ w.heap.size ≤ bt ∧ w.heap.size ≤ g ∧ bt ≠ bc ∧ bt ≠ bs ∧ bt ≠ g ∧ Below w.heap.size w W

theorem two_new (w : World) (A B : Obj) : ((w.alloc A).alloc B).heap[w.heap.size + 1]? = some B ∧ ((w.alloc A).alloc B).heap[w.heap.size]? = some A ∧ Below w.heap.size w ((w.alloc A).alloc B) := by
  refine ⟨?_, ?_, ((Below.refl _ _).alloc (Nat.le_refl _) _).alloc (by simp) _⟩
  · have := heap_alloc_new (w.alloc A) B
    simpa using this
  · have h := ((Below.refl (w.alloc A).heap.size (w.alloc A)).alloc (Nat.le_refl _) B).block w.heap.size (by simp)
    rw [h]
    exact heap_alloc_new w A

set_option maxRecDepth 100000 in
set_option maxHeartbeats 2000000 in
theorem rules_any (c : Cfg) (w : World) : Calls Tryz.prog 17 #[c.v] w (RulesPost c w) := by
  obtain ⟨PR, hPR⟩ : ∃ PR, PR = RulesPost c w := ⟨_, rfl⟩
  have HPR : Hid (∀ e W, RulesPost c w e W → PR e W) := Lib.hid fun e W h => by rw [hPR]; exact h
  rw [← hPR]
  clear hPR
  have hb1 : ∀ o : Obj, Below w.heap.size w (w.alloc o) := fun o => (Below.refl _ _).alloc (Nat.le_refl _) _
  have HB := Lib.hid hb1
  clear hb1
  go_enter Tryz.func17, Tryz.ntmps17
  go_wp2_with fail
  refine (Pt.tab_new 32 _ (by omega)).mono ?_
  rintro e w1 ⟨bt, rfl, hT, hbt, hb⟩
  have HT := Lib.hid hT
  have hq := old_cells hb
  have hs : w.heap.size < w1.heap.size := by have := hb.size; simp at this; omega
  clear hT
  go_wp2
  obtain ⟨t1, t2, t3⟩ := two_new w1 (.cells #[.pointer (some ⟨bt, 0, none⟩)] 86) (.cells ((List.range 13).flatMap fun j => [Value.int .i64 (errR j), .int .i64 (cntR c j), valR w.heap.size w1.heap.size j]).toArray 72)
  obtain ⟨W, hW⟩ : ∃ W, W = (w1.alloc (.cells #[.pointer (some ⟨bt, 0, none⟩)] 86)).alloc (.cells ((List.range 13).flatMap fun j => [Value.int .i64 (errR j), .int .i64 (cntR c j), valR w.heap.size w1.heap.size j]).toArray 72) := ⟨_, rfl⟩
  rw [← hW] at t1 t2 t3
  have hl : bt < w1.heap.size := by obtain ⟨q, hq⟩ := HT.out.block; exact (Array.getElem?_eq_some_iff.1 hq).1
  have hx : BoxC W w.heap.size c := (t3.block _ hs).trans ((hb.block _ (by simp)).trans (heap_alloc_new w _))
  have hbb : Below w.heap.size w W := ((HB.out _).trans (hb.mono (by simp))).trans (t3.mono (Nat.le_of_lt hs))
  have hbt2 : w.heap.size + 1 ≤ bt := by simpa using hbt
  have key : PR (.returned (.slice (some ⟨w1.heap.size + 1, 0, none⟩) 13 13)) W := HPR.out _ _ ⟨_, _, _, _, rfl, ⟨_, t1⟩, hx, t2, HT.out.below t3, Nat.le_refl _, Nat.le_of_lt hs, by omega, by omega, by omega, by omega, by omega, hbb⟩
  rw [hW] at key
  exact key
end Go.Proofs.YtikkfapgmbamlaaGreatDoor.Cf
end
section
/- config.Check. -/
namespace Go.Proofs.YtikkfapgmbamlaaGreatDoor.Cf
open Go.RowKit Ut
set_option maxRecDepth 100000
set_option linter.unusedVariables false

/-- what is wrong first, and where -/
def check (c : Cfg) : Int × Int := match firstI 13 fun j => (firstI (cntR c j) (wrR c j)).isSome with
  | none => (0, 0)
  | some j => (errR j, atI (firstI (cntR c j) (wrR c j)))
def Passed (c : Cfg) (j : Nat) : Prop := ∀ j', j' < j → ∀ i, i < cntR c j' → wrR c j' i = false
theorem passed_none {c : Cfg} {j : Nat} (h : Passed c j) (j' : Nat) (hj : j' < j) : (firstI (cntR c j') (wrR c j')).isSome = false := by
  rw [firstI_none (h j' hj)]; rfl
theorem check_ok {c : Cfg} (h : Passed c 13) : check c = (0, 0) := by
  unfold check
  rw [firstI_none (passed_none h)]
theorem check_at {c : Cfg} {j i : Nat} (hj : j < 13) (h : Passed c j) (hi : i < cntR c j) (hw : wrR c j i = true) (hno : ∀ i', i' < i → wrR c j i' = false) : check c = (errR j, (i : Int)) := by
  have e : firstI (cntR c j) (wrR c j) = some i := firstI_some hi hw hno
  unfold check
  rw [firstI_some (k := j) hj (by rw [e]; rfl) (passed_none h)]
  simp only [e]
  rfl
theorem Passed.next {c : Cfg} {j : Nat} (h : Passed c j) (hn : ∀ i, i < cntR c j → wrR c j i = false) : Passed c (j + 1) := fun j' hj => by
  by_cases e : j' = j
  · rw [e]; exact hn
  · exact h j' (by omega)
theorem check_cases (c : Cfg) : (check c = (0, 0) ∧ Passed c 13) ∨ ∃ j i, j < 13 ∧ Passed c j ∧ i < cntR c j ∧ wrR c j i = true ∧ (∀ i', i' < i → wrR c j i' = false) ∧ check c = (errR j, (i : Int)) := by
  rcases firstI_cases 13 fun j => (firstI (cntR c j) (wrR c j)).isSome with ⟨h, hn⟩ | ⟨j, h, hj, hp, hn⟩
  · have : Passed c 13 := fun j hj i hi => by
      have := hn j hj
      rcases firstI_cases (cntR c j) (wrR c j) with ⟨_, h2⟩ | ⟨k, h2, _⟩
      · exact h2 i hi
      · rw [h2] at this; cases this
    exact .inl ⟨check_ok this, this⟩
  · have hpj : Passed c j := fun j' hj' i hi => by
      have := hn j' hj'
      rcases firstI_cases (cntR c j') (wrR c j') with ⟨_, h2⟩ | ⟨k, h2, _⟩
      · exact h2 i hi
      · rw [h2] at this; cases this
    rcases firstI_cases (cntR c j) (wrR c j) with ⟨h2, _⟩ | ⟨i, h2, hi, hw, hno⟩
    · rw [h2] at hp; cases hp
    · exact .inr ⟨j, i, hj, hpj, hi, hw, hno, check_at hj hpj hi hw hno⟩
theorem passed_small {c : Cfg} (h : Passed c 3) : c.gn ≤ 4 ∧ 1 ≤ c.gn ∧ Small c.G c.gn := by
  have h1 := h 1 (by omega) 0 (by simp [cntR])
  have h1' : inB c.gn 1 4 = true := by simpa [wrR] using h1
  unfold inB at h1'
  simp at h1'
  refine ⟨by omega, by omega, fun i hi => ?_⟩
  have h2 : wrongG c i = false := h 2 (by omega) i (by simpa [cntR] using hi)
  unfold wrongG inB at h2
  simp at h2
  omega

/-- how many ranges have been asked about -/
def secAt (c : Cfg) (j i : Nat) : Nat := if j < 4 then 0 else if j = 4 then i else c.rn
structure CkAt (c : Cfg) (bt : Nat) (W1 W : World) (j i : Nat) : Prop where
  grown : W1.grownBy W (some bt)
  tab : Pt.Tab W bt (secs c (secAt c j i))
theorem CkAt.below {c : Cfg} {bt j i : Nat} {W1 W W' : World} (h : CkAt c bt W1 W j i) (hb : Below W.heap.size W W') : CkAt c bt W1 W' j i :=
  ⟨Pt.grownBy_trans h.grown (Pt.grownBy_of_below _ hb), h.tab.below hb⟩
theorem CkAt.step {c : Cfg} {bt j i : Nat} {W1 W W' : World} (h : CkAt c bt W1 W j i) (hb : Below W.heap.size W W') (hj : j ≠ 4) : CkAt c bt W1 W' j (i + 1) :=
  ⟨(h.below hb).grown, by have e : secAt c j (i + 1) = secAt c j i := by unfold secAt; simp [hj]
                          rw [e]; exact (h.below hb).tab⟩
theorem CkAt.next {c : Cfg} {bt j : Nat} {W1 W : World} (h : CkAt c bt W1 W j (cntR c j)) : CkAt c bt W1 W (j + 1) 0 :=
  ⟨h.grown, by
    have e : secAt c (j + 1) 0 = secAt c j (cntR c j) := by
      unfold secAt
      by_cases h1 : j < 3
      · rw [if_pos (by omega), if_pos (by omega)]
      · by_cases h2 : j = 3
        · subst h2; rfl
        · by_cases h3 : j = 4
          · subst h3; rfl
          · rw [if_neg (by omega), if_neg (by omega), if_neg (by omega), if_neg (by omega)]
    rw [e]; exact h.tab⟩

theorem fnR_enters (j : Nat) (args : Array Value) (w : World) : (callFunc (fnR j) args).run Tryz.prog w = .ok (.enter (fnR j) args) w := by
  unfold fnR
  split <;> rfl

/-- what rule j answers of place i -/
theorem ask_any {c : Cfg} {bc bs bt B j i : Nat} {W1 W : World} (hB : B ≤ W1.heap.size) (hc : c.At W1 B) (hx : BoxC W1 bc c) (hs : W1.heap[bs]? = some (.cells #[.pointer (some ⟨bt, 0, none⟩)] 86 (0, 0)))
    (n1 : bt ≠ bc) (n2 : bt ≠ bs) (n3 : B ≤ bt) (hI : CkAt c bt W1 W j i) (hj : j < 13) (hi : i < cntR c j) (hp : Passed c j) :
    Calls Tryz.prog (fnR j) (#[.int .i64 i] ++ capR bc bs j) W fun e W' => e = .returned (.bool (wrR c j i)) ∧ Hid (W.grownBy W' (some bt)) ∧ Hid (wrR c j i = false → CkAt c bt W1 W' j (i + 1)) := by
  have hB2 : B ≤ W.heap.size := Nat.le_trans hB hI.grown.size
  have hc2 : c.At W B := hc.below ((Below.refl _ _).grown hI.grown hB (fun q e => by injection e with e; omega))
  have hx2 : BoxC W bc c := hx.kept hI.grown (fun q e => by injection e with e; omega)
  have hs2 : W.heap[bs]? = some (.cells #[.pointer (some ⟨bt, 0, none⟩)] 86 (0, 0)) := (hI.grown.block _ (Array.getElem?_eq_some_iff.1 hs).1 (fun e => by injection e with e; omega)).trans hs
  have fin : ∀ {j : Nat}, j ≠ 4 → CkAt c bt W1 W j i → ∀ {e : Ending} {W' : World}, e = .returned (.bool (wrR c j i)) ∧ Below W.heap.size W W' → e = .returned (.bool (wrR c j i)) ∧ Hid (W.grownBy W' (some bt)) ∧ Hid (wrR c j i = false → CkAt c bt W1 W' j (i + 1)) :=
    fun hj4 hI e W' h => ⟨h.1, Lib.hid (Pt.grownBy_of_below _ h.2), Lib.hid fun _ => hI.step h.2 hj4⟩
  match j, hj with
  | 0, _ => exact (clos0_any c i bc B W hB2 hc2 hx2).mono fun e W' h => fin (by omega) hI h
  | 1, _ => exact (clos1_any c i bc B W hB2 hc2 hx2).mono fun e W' h => fin (by omega) hI h
  | 2, _ => exact (clos2_any c i bc B W hB2 hc2 hx2 hi).mono fun e W' h => fin (by omega) hI h
  | 3, _ => exact (clos3_any c i bc B W hB2 hc2 hx2).mono fun e W' h => fin (by omega) hI h
  | 4, _ =>
    refine (clos4_any c i bc bs bt B W hB2 hc2 hx2 hi (by simp [World.cell?, hs2]) hI.tab).mono fun e W' h => ⟨h.1, Lib.hid h.2.1, Lib.hid fun hw => ⟨Pt.grownBy_trans hI.grown h.2.1, h.2.2 hw⟩⟩
  | 5, _ => exact (clos5_any c i bc B W hB2 hc2 hx2).mono fun e W' h => fin (by omega) hI h
  | 6, _ => exact (clos6_any c i bc B W hB2 hc2 hx2 hi).mono fun e W' h => fin (by omega) hI h
  | 7, _ => exact (clos7_any c i bc B W hB2 hc2 hx2).mono fun e W' h => fin (by omega) hI h
  | 8, _ => exact (clos8_any c i bc B W hB2 hc2 hx2 hi).mono fun e W' h => fin (by omega) hI h
  | 9, _ => exact (clos9_any c i bc B W hB2 hc2 hx2).mono fun e W' h => fin (by omega) hI h
  | 10, _ => exact (clos10_any c i bc B W hB2 hc2 hx2 hi).mono fun e W' h => fin (by omega) hI h
  | 11, _ => exact (clos11_any c i bc B W hB2 hc2 hx2).mono fun e W' h => fin (by omega) hI h
  | 12, _ =>
    obtain ⟨q1, _, q2⟩ := passed_small (c := c) (fun j' hj' => hp j' (by omega))
    exact (clos12_any c i bc B W hB2 hc2 hx2 q1 q2).mono fun e W' h => fin (by omega) hI h
  | j + 13, hj => omega

theorem rules_cells {W : World} {g bc bs : Nat} {c : Cfg} (h : RulesAt W g c bc bs) (j : Nat) (hj : j < 13) :
    W.cell? ⟨g, j * 3, none⟩ = some (.int .i64 (errR j)) ∧ W.cell? ⟨g, j * 3 + 1, none⟩ = some (.int .i64 (cntR c j)) ∧ W.cell? ⟨g, j * 3 + 2, none⟩ = some (.func (.func (fnR j)) #[] (capR bc bs j)) := by
  obtain ⟨t, ht⟩ := h
  have key : ∀ o, W.cell? ⟨g, o, none⟩ = ((List.range 13).flatMap fun j => [Value.int .i64 (errR j), .int .i64 (cntR c j), valR bc bs j])[o]? := fun o => by simp [World.cell?, ht]
  rw [key, key, key]
  match j, hj with
  | 0, _ => exact ⟨rfl, rfl, rfl⟩
  | 1, _ => exact ⟨rfl, rfl, rfl⟩
  | 2, _ => exact ⟨rfl, rfl, rfl⟩
  | 3, _ => exact ⟨rfl, rfl, rfl⟩
  | 4, _ => exact ⟨rfl, rfl, rfl⟩
  | 5, _ => exact ⟨rfl, rfl, rfl⟩
  | 6, _ => exact ⟨rfl, rfl, rfl⟩
  | 7, _ => exact ⟨rfl, rfl, rfl⟩
  | 8, _ => exact ⟨rfl, rfl, rfl⟩
  | 9, _ => exact ⟨rfl, rfl, rfl⟩
  | 10, _ => exact ⟨rfl, rfl, rfl⟩
  | 11, _ => exact ⟨rfl, rfl, rfl⟩
  | 12, _ => exact ⟨rfl, rfl, rfl⟩
  | j + 13, hj => omega
theorem RulesAt.kept {W W' : World} {g bc bs bt : Nat} {c : Cfg} (h : RulesAt W g c bc bs) (hg : W.grownBy W' (some bt)) (hr : bt ≠ g) : RulesAt W' g c bc bs := by
  obtain ⟨t, ht⟩ := h
  exact ⟨t, (hg.block _ (Array.getElem?_eq_some_iff.1 ht).1 (fun e => by injection e with e; omega)).trans ht⟩
theorem cntR_bd {c : Cfg} {w : World} {B : Nat} (h : c.At w B) (j : Nat) : cntR c j ≤ 140737488355328 := by
  have h1 := h.lg
  have h2 := h.lr
  have h3 := h.lp
  have h4 := h.ln
  have h5 := h.ls
  unfold cntR
  split <;> omega
end Go.Proofs.YtikkfapgmbamlaaGreatDoor.Cf
end
