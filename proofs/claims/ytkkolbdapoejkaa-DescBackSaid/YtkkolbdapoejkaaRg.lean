/- A region that draws its order of evaluation, by what each operation yields and what all of them keep: one case for each operation, whatever the order; the same in a round of a range over a function. -/
import Derived.Test.YtkkolbdapoejkaaUt
import Derived.RangeFuncNested
import Derived.RegionTactic
import Derived.OrdersIn
namespace Go.Proofs.Ytkkolbdapoejkaa.Ut
open Go.RowKit

/-- the operations that must come ahead of o -/
def depsOf (o : Oper) : List Nat := (o.after.toList.filter fun e => Region.binds .any e).map (·.on)
/-- all that comes ahead lies ahead; all but the last one is wanted by one behind it -/
def goodOrder (ops : Array Oper) : Bool :=
  ((List.range ops.size).all fun i => ((ops[i]?).map fun o => (depsOf o).all fun j => decide (j < i)).getD true) &&
  ((List.range (ops.size - 1)).all fun j => (List.range ops.size).any fun k => decide (j < k) && ((ops[k]?).map fun o => (depsOf o).contains j).getD false)

/-- whatever is listed, so is what comes ahead of it -/
def Closed (ops : Array Oper) (L : Nat → Bool) : Prop := ∀ k o, ops[k]? = some o → L k = true → ∀ j ∈ depsOf o, L j = true
/-- all that stands ahead of number k must come ahead of it -/
def allBefore (ops : Array Oper) (k : Nat) : Bool := (List.range k).all fun j => (List.range (k + 1)).any fun m => decide (j < m) && ((ops[m]?).map fun o => (depsOf o).contains j).getD false
theorem Closed.all {ops : Array Oper} {L : Nat → Bool} (h : Closed ops L) {k : Nat} (hk : allBefore ops k = true) (hL : L k = true) : ∀ j, j < k → L j = true := by
  unfold allBefore at hk
  simp only [List.all_eq_true, List.mem_range, List.any_eq_true, Bool.and_eq_true, decide_eq_true_eq] at hk
  have key : ∀ m j, k - j = m → j < k → L j = true := by
    intro m
    induction m using Nat.strongRecOn with
    | _ m ihm =>
      intro j hjm hj
      obtain ⟨q, hq, hjq, hc⟩ := hk j hj
      cases ho : ops[q]? with
      | none => rw [ho] at hc; cases hc
      | some o =>
        have hmem : j ∈ depsOf o := by simpa [ho] using hc
        by_cases e : q = k
        · subst e; exact h q o ho hL j hmem
        · exact h q o ho (ihm (k - q) (by omega) q rfl (by omega)) j hmem
  exact fun j hj => key _ j rfl hj
theorem Closed.none {ops : Array Oper} {L : Nat → Bool} (h : Closed ops L) {k i : Nat} (hk : allBefore ops k = true) (hi : i < k) (hL : L i = false) : L k = false := by
  cases e : L k with
  | false => rfl
  | true => rw [h.all hk e i hi] at hL; cases hL

def upd (x : Nat → Value) (i : Nat) (v : Value) : Nat → Value := fun j => if j = i then v else x j

section
variable {P : Program} {ops : Array Oper} {Q : Exit → Act → World → Prop} {T : (Nat → Value) → Array Value} {d : List Deferred} {R : Nat → Value → World → Prop} {WI : (Nat → Bool) → World → Prop} {Le : Nat → World → World → Prop}

/-- what is asked of operation o, number i -/
def StepOk (P : Program) (ops : Array Oper) (Q : Exit → Act → World → Prop) (T : (Nat → Value) → Array Value) (d : List Deferred) (R : Nat → Value → World → Prop) (WI : (Nat → Bool) → World → Prop) (Le : Nat → World → World → Prop) (i : Nat) (o : Oper) : Prop :=
  ∀ (L : Nat → Bool) (x : Nat → Value) (w : World), L i = false → Closed ops L → WI L w → (∀ j ∈ depsOf o, R j (x j) w) → ∀ K : Act → World → Prop, (∀ v w' tm, tm = T (upd x i v) → R i v w' → WI (fun j => if j = i then true else L j) w' → Le i w w' → K { tmps := tm, defers := d } w') →
    if Region.wanted o (yielded ops (T x)) = true then Oper.wp P o { tmps := T x, defers := d } w K Q else K (Act.put { tmps := T x, defers := d } o.dst undef) w
/-- .. of the last one -/
def LastOk (P : Program) (ops : Array Oper) (Q : Exit → Act → World → Prop) (T : (Nat → Value) → Array Value) (d : List Deferred) (R : Nat → Value → World → Prop) (WI : (Nat → Bool) → World → Prop) (i : Nat) (o : Oper) : Prop :=
  ∀ (L : Nat → Bool) (x : Nat → Value) (w : World), L i = false → (∀ j, j < i → L j = true) → WI L w → (∀ j, j < i → R j (x j) w) → ∀ K : Act → World → Prop, (∀ a' w', Q .normal a' w' → K a' w') →
    if Region.wanted o (yielded ops (T x)) = true then Oper.wp P o { tmps := T x, defers := d } w K Q else K (Act.put { tmps := T x, defers := d } o.dst undef) w

/-- the operations from number k on -/
def StepsFrom (P : Program) (ops : Array Oper) (Q : Exit → Act → World → Prop) (T : (Nat → Value) → Array Value) (d : List Deferred) (R : Nat → Value → World → Prop) (WI : (Nat → Bool) → World → Prop) (Le : Nat → World → World → Prop) (k : Nat) (l : List Oper) : Prop :=
  ∀ j o, l[j]? = some o → if j + 1 = l.length then LastOk P ops Q T d R WI (k + j) o else StepOk P ops Q T d R WI Le (k + j) o

theorem steps_last {k : Nat} {o : Oper} (h : LastOk P ops Q T d R WI k o) : StepsFrom P ops Q T d R WI Le k [o] := fun j o' hj => by
  cases j with
  | zero => simp at hj; subst hj; simpa using h
  | succ j => simp at hj
theorem steps_cons {k : Nat} {o o' : Oper} {l : List Oper} (h : StepOk P ops Q T d R WI Le k o) (hs : StepsFrom P ops Q T d R WI Le (k + 1) (o' :: l)) : StepsFrom P ops Q T d R WI Le k (o :: o' :: l) := fun j p hj => by
  cases j with
  | zero =>
    simp at hj
    subst hj
    simpa using h
  | succ j =>
    have := hs j p (by simpa using hj)
    simp only [List.length_cons] at this ⊢
    have e : k + (j + 1) = k + 1 + j := by omega
    rw [e]
    by_cases hl : j + 1 = l.length + 1
    · rw [if_pos (by omega)]; rwa [if_pos hl] at this
    · rw [if_neg (by omega)]; rwa [if_neg hl] at this

/-- .. with what comes ahead written out -/
theorem steps_op {k : Nat} {o o' : Oper} {l : List Oper} (ds : List Nat) (hd : depsOf o = ds)
    (h : ∀ (L : Nat → Bool) (x : Nat → Value) (w : World), L k = false → Closed ops L → WI L w → (∀ j ∈ ds, R j (x j) w) → ∀ K : Act → World → Prop, (∀ v w' tm, tm = T (upd x k v) → R k v w' → WI (fun j => if j = k then true else L j) w' → Le k w w' → K { tmps := tm, defers := d } w') →
      if Region.wanted o (yielded ops (T x)) = true then Oper.wp P o { tmps := T x, defers := d } w K Q else K (Act.put { tmps := T x, defers := d } o.dst undef) w)
    (hs : StepsFrom P ops Q T d R WI Le (k + 1) (o' :: l)) : StepsFrom P ops Q T d R WI Le k (o :: o' :: l) := steps_cons (by subst hd; exact h) hs

theorem count_set (l : Array Bool) (i : Nat) (hi : l.getD i true = false) : (l.setIfInBounds i true).toList.count false + 1 = l.toList.count false := by
  obtain ⟨l⟩ := l
  have hlt : i < l.length := by
    rcases Nat.lt_or_ge i l.length with h | h
    · exact h
    · rw [Array.getD, dif_neg (by simpa using h)] at hi; cases hi
  have he : l[i] = false := by simpa [Array.getD, hlt] using hi
  simp only [List.setIfInBounds_toArray]
  rw [List.count_set hlt]
  have hp : 0 < l.count false := List.count_pos_iff.2 (by rw [← he]; exact List.getElem_mem hlt)
  simp [he]
  omega

theorem getD_set (l : Array Bool) (i j : Nat) : (l.setIfInBounds i true).getD j true = if j = i then true else l.getD j true := by
  obtain ⟨l⟩ := l
  simp only [List.setIfInBounds_toArray]
  by_cases h : j < l.length
  · by_cases e : j = i
    · subst e; simp [Array.getD, h]
    · simp [Array.getD, h, e, Ne.symm e]
  · by_cases e : j = i <;> simp [Array.getD, h, e]

theorem wpAny_by (hok : goodOrder ops = true) (hLe : ∀ i j L v w w', i ≠ j → Closed ops L → L i = false → L j = true → Le i w w' → R j v w → R j v w') (hs : StepsFrom P ops Q T d R WI Le 0 ops.toList) :
    ∀ (fuel : Nat) (L : Array Bool) (x : Nat → Value) (w : World), L.size = ops.size → L.toList.count false ≤ fuel → L.getD (ops.size - 1) true = false →
      (∀ k o, ops[k]? = some o → L.getD k true = true → ∀ j ∈ depsOf o, L.getD j true = true) → WI (fun j => L.getD j true) w → (∀ j, j < ops.size → L.getD j true = true → R j (x j) w) →
      wpAny P .any ops Q fuel L { tmps := T x, defers := d } w := by
  unfold goodOrder at hok
  simp only [Bool.and_eq_true, List.all_eq_true, List.mem_range, List.any_eq_true, decide_eq_true_eq] at hok
  obtain ⟨ho1, ho2⟩ := hok
  have hdep : ∀ k o, ops[k]? = some o → ∀ j ∈ depsOf o, j < k := fun k o hk j hj => by
    have hlt : k < ops.size := (Array.getElem?_eq_some_iff.1 hk).1
    have := ho1 k hlt
    simp only [hk, Option.map_some, Option.getD_some, List.all_eq_true, decide_eq_true_eq] at this
    exact this j hj
  have hnext : ∀ j, j < ops.size - 1 → ∃ k o, ops[k]? = some o ∧ j < k ∧ j ∈ depsOf o := fun j hj => by
    obtain ⟨k, hk, hjk, hc⟩ := ho2 j hj
    refine ⟨k, ops[k], by simp [hk], hjk, ?_⟩
    simpa [hk] using hc
  intro fuel
  induction fuel with
  | zero =>
    intro L x w hsz hc hlast _ _ _
    exfalso
    have h2 : false ∈ L.toList := by
      have hlt : ops.size - 1 < L.size := by
        rcases Nat.lt_or_ge (ops.size - 1) L.size with h | h
        · exact h
        · rw [Array.getD, dif_neg (by omega)] at hlast; cases hlast
      rw [Array.getD, dif_pos hlt] at hlast
      rw [← hlast]; exact Array.mem_toList_iff.2 (Array.getElem_mem hlt)
    have := List.count_pos_iff.2 h2
    omega
  | succ fuel ih =>
    intro L x w hsz hc hlast hcl hw hR
    have hlt : ops.size - 1 < ops.size := by
      rcases Nat.lt_or_ge (ops.size - 1) L.size with h | h
      · omega
      · rw [Array.getD, dif_neg (by omega)] at hlast; cases hlast
    have hready : ∀ i, i ∈ Region.ready .any ops L ↔ ∃ o, ops[i]? = some o ∧ L.getD i true = false ∧ ∀ j ∈ depsOf o, L.getD j true = true := fun i => by
      unfold Region.ready
      simp only [List.mem_filter, List.mem_range, Bool.and_eq_true, Bool.not_eq_true']
      constructor
      · rintro ⟨hi, hn, hd⟩
        refine ⟨ops[i], by simp [hi], hn, fun j hj => ?_⟩
        have hj' := hdep i ops[i] (by simp [hi]) j hj
        simp only [depsOf, List.mem_map, List.mem_filter, Array.mem_toList_iff] at hj
        obtain ⟨e, ⟨he, hb⟩, rfl⟩ := hj
        simp only [Array.getElem?_eq_getElem hi, Option.map_some, Option.getD_some, Array.all_eq_true'] at hd
        have := hd e he
        simp only [hb, Bool.not_true, Bool.false_or] at this
        rw [Array.getD, dif_pos (by omega)] at this ⊢
        exact this
      · rintro ⟨o, ho, hn, hd⟩
        have hi : i < ops.size := (Array.getElem?_eq_some_iff.1 ho).1
        refine ⟨hi, hn, ?_⟩
        simp only [ho, Option.map_some, Option.getD_some, Array.all_eq_true']
        intro e he
        cases hb : Region.binds .any e with
        | false => rfl
        | true =>
          have hmem : e.on ∈ depsOf o := by
            simp only [depsOf, List.mem_map, List.mem_filter, Array.mem_toList_iff]
            exact ⟨e, ⟨he, hb⟩, rfl⟩
          have h1 := hd _ hmem
          have h2 := hdep i o ho _ hmem
          simp only [Bool.not_true, Bool.false_or]
          rw [Array.getD, dif_pos (by omega)] at h1 ⊢
          exact h1
    refine ⟨fun h0 => ?_, fun i hi => ?_⟩
    · -- the least one that is not listed may come up
      exfalso
      have key : ∀ i, i < ops.size → L.getD i true = true := by
        intro i
        induction i using Nat.strongRecOn with
        | _ i ihi =>
          intro hi
          cases hLi : L.getD i true with
          | true => rfl
          | false =>
            have : i ∈ Region.ready .any ops L := (hready i).2 ⟨ops[i], by simp [hi], hLi, fun j hj => by
              have hj' := hdep i ops[i] (by simp [hi]) j hj
              exact ihi j hj' (by omega)⟩
            rw [h0] at this; cases this
      rw [key _ hlt] at hlast; cases hlast
    · obtain ⟨o, ho, hn, hd⟩ := (hready i).1 hi
      have hil : i < ops.size := (Array.getElem?_eq_some_iff.1 ho).1
      have hstep := hs i o (by simpa using ho)
      simp only [Array.length_toList, Nat.zero_add] at hstep
      by_cases hlst : i + 1 = ops.size
      · rw [if_pos hlst] at hstep
        obtain rfl : i = ops.size - 1 := by omega
        have hall : ∀ m j, ops.size - 1 - j = m → j < ops.size - 1 → L.getD j true = true := by
          intro m
          induction m using Nat.strongRecOn with
          | _ m ihm =>
            intro j hjm hj
            obtain ⟨k, p, hk, hjk, hmem⟩ := hnext j hj
            have hkl : k < ops.size := (Array.getElem?_eq_some_iff.1 hk).1
            by_cases hkl' : k = ops.size - 1
            · subst hkl'
              rw [ho] at hk; cases hk
              exact hd j hmem
            · exact hcl k p hk (ihm (ops.size - 1 - k) (by omega) k rfl (by omega)) j hmem
        refine wpOp_step ho fun K hK => hstep (fun j => L.getD j true) x w hn (fun j hj => hall _ j rfl hj) hw (fun j hj => hR j (by omega) (hall _ j rfl hj)) K fun a' w' hq => hK _ _ ?_
        refine wpAny_done ?_ hq _
        unfold Region.ready
        rw [List.filter_eq_nil_iff]
        intro j hj
        simp only [List.mem_range] at hj
        rw [getD_set]
        by_cases e : j = ops.size - 1
        · simp [e]
        · simp [e, hall _ j rfl (by omega)]
      · rw [if_neg hlst] at hstep
        refine wpOp_step ho fun K hK => hstep (fun j => L.getD j true) x w hn hcl hw (fun j hj => hR j (by have := hdep i o ho j hj; omega) (hd j hj)) K fun v w' tm htm hv hw' hle => hK _ _ ?_
        subst htm
        have hcnt := count_set L i hn
        refine ih _ _ _ (by simpa using hsz) (by omega) ?_ ?_ (by rw [show (fun j => (L.setIfInBounds i true).getD j true) = fun j => if j = i then true else L.getD j true from funext fun j => getD_set L i j]; exact hw') ?_
        · rw [getD_set, if_neg (by omega)]; exact hlast
        · intro k p hk hk2 j hj
          rw [getD_set] at hk2 ⊢
          split
          · rfl
          · by_cases e : k = i
            · subst e
              rw [ho] at hk; cases hk
              exact hd j hj
            · rw [if_neg e] at hk2
              exact hcl k p hk hk2 j hj
        · intro j hj hlj
          rw [getD_set] at hlj
          unfold upd
          by_cases e : j = i
          · subst e; rw [if_pos rfl]; exact hv
          · rw [if_neg e] at hlj ⊢
            exact hLe i j (fun j => L.getD j true) _ _ _ (fun h => e h.symm) hcl hn hlj hle (hR j hj hlj)

/-- THE REGION, whatever the order -/
theorem wp_region_by {id : Nat} {a : Act} {w : World} (hm : P.follows .mixedOrders = true) (T : (Nat → Value) → Array Value) (R : Nat → Value → World → Prop) (WI : (Nat → Bool) → World → Prop) (Le : Nat → World → World → Prop)
    (hok : goodOrder ops = true) (hn : 0 < ops.size) (hLe : ∀ i j L v w w', i ≠ j → Closed ops L → L i = false → L j = true → Le i w w' → R j v w → R j v w') (x : Nat → Value) (ha : a = { tmps := T x, defers := a.defers }) (hw : ∀ L, (∀ j, j < ops.size → L j = false) → WI L w.drew)
    (hs : StepsFrom P ops Q T a.defers R WI Le 0 ops.toList) : (Code.region id ops true).wp P Q a w := by
  refine wp_region_any hm ?_
  rw [ha]
  refine wpAny_by hok hLe hs ops.size _ x _ (by simp) (by simp) (by simp [Array.getD]; omega) (fun k o hk h => ?_) (hw _ fun j hj => by simp [Array.getD, hj]) (fun j hj h => ?_)
  · have hkl : k < ops.size := (Array.getElem?_eq_some_iff.1 hk).1
    simp [Array.getD, hkl] at h
  · simp [Array.getD, hj] at h

/-! ### In a round -/
theorem opIn_of {F : Fence} {n : Nat} {o : Oper} {a : Act} {w : World} {K : Act → World → Prop} (hF : F = Fence.wide ∨ ∃ l, F = Fence.wide.inRound l) (hd : ∀ c, o.op ≠ .defer c) (h : o.wp P a w K Q) : o.wpIn F n P a w K Q := by
  have hsem : o.semAt F.round a.eval = execOp a.eval o := Oper.semAt_eq _ _ _ hd
  have hfn : ∀ f, F.fn f := by rcases hF with rfl | ⟨l, rfl⟩ <;> exact fun _ => trivial
  have hdp : F.depth.isSome = true → 1 ≤ n := by rcases hF with rfl | ⟨l, rfl⟩ <;> (intro hh; cases hh)
  refine ⟨fun f _ => hfn f, ?_⟩
  rw [hsem]
  unfold Oper.wp at h
  generalize (execOp a.eval o).run P w = r at h
  have hcalls : ∀ f args w' R, Calls P f args w' R → CallsIn F (n - 1) P f args w' R := fun f args w' R hc => by
    rcases hF with rfl | ⟨l, rfl⟩
    · exact callsIn_wide.2 hc
    · exact CallsIn.inRound l (callsIn_wide.2 hc)
  cases r with
  | ok x w' =>
    cases x with
    | value v => exact h
    | skip => exact h
    | defer _ => exact h
    | enter f args => exact ⟨hdp, hcalls _ _ _ _ h⟩
    | row row args =>
      refine ⟨hdp, fun c cs _ => ?_⟩
      obtain ⟨v, w'', r, s⟩ := h c cs
      refine ⟨v, w'', r, ?_⟩
      rcases hF with rfl | ⟨l, rfl⟩
      · exact stepsIn_wide.2 s
      · exact stepsIn_wide.2 s
    | _ => exact h.elim
  | halt x w' => cases x <;> exact h

theorem wpAnyIn_of {F : Fence} {n : Nat} (hF : F = Fence.wide ∨ ∃ l, F = Fence.wide.inRound l) (hd : ∀ (i : Nat) (o : Oper), ops[i]? = some o → ∀ c, o.op ≠ .defer c) (hQ : ¬ LetsOut Q) :
    ∀ (fuel : Nat) (L : Array Bool) (a : Act) (w : World), wpAny P .any ops Q fuel L a w → wpAnyIn F n P .any ops Q fuel L a w := by
  have hfn : ∀ f, F.fn f := by rcases hF with rfl | ⟨l, rfl⟩ <;> exact fun _ => trivial
  intro fuel
  induction fuel with
  | zero => exact fun L a w h => h
  | succ fuel ih =>
    intro L a w h
    refine ⟨h.1, fun i hi => ?_⟩
    have hop := h.2 i hi
    unfold wpOpIn
    unfold wpOp at hop
    cases ho : ops[i]? with
    | none => simp only [ho] at hop ⊢; exact ih _ _ _ hop
    | some o =>
      simp only [ho] at hop ⊢
      split
      · rename_i hw
        rw [if_pos hw] at hop
        rcases hop with hop | ⟨_, hl⟩
        · exact opIn_of hF (hd i o ho) (Oper.wp_mono (fun a w h => ih _ a w h) hop)
        · exact absurd hl hQ
      · rename_i hw
        rw [if_neg hw] at hop
        exact ⟨fun f _ => hfn f, ih _ _ _ hop⟩

/-- THE REGION, whatever the order, in a round too -/
theorem wpIn_region_by {F : Fence} {n : Nat} {id : Nat} {a : Act} {w : World} (hF : F = Fence.wide ∨ ∃ l, F = Fence.wide.inRound l) (hd : (ops.all fun (o : Oper) => match o.op with | .defer _ => false | _ => true) = true) (hQ : ¬ LetsOut Q)
    (hm : P.follows .mixedOrders = true) (T : (Nat → Value) → Array Value) (R : Nat → Value → World → Prop) (WI : (Nat → Bool) → World → Prop) (Le : Nat → World → World → Prop)
    (hok : goodOrder ops = true) (hn : 0 < ops.size) (hLe : ∀ i j L v w w', i ≠ j → Closed ops L → L i = false → L j = true → Le i w w' → R j v w → R j v w') (x : Nat → Value) (ha : a = { tmps := T x, defers := a.defers }) (hw : ∀ L, (∀ j, j < ops.size → L j = false) → WI L w.drew)
    (hs : StepsFrom P ops Q T a.defers R WI Le 0 ops.toList) : (Code.region id ops true).wpIn F n P Q a w := by
  refine wpIn_region_any hm (wpAnyIn_of hF (fun i o ho c e => ?_) hQ _ _ _ _ ?_)
  · rw [Array.all_eq_true] at hd
    obtain ⟨hi, rfl⟩ := Array.getElem?_eq_some_iff.1 ho
    have := hd i hi
    rw [e] at this
    cases this
  · rw [ha]
    refine wpAny_by hok hLe hs ops.size _ x _ (by simp) (by simp) (by simp [Array.getD]; omega) (fun k o hk h => ?_) (hw _ fun j hj => by simp [Array.getD, hj]) (fun j hj h => ?_)
    · have hkl : k < ops.size := (Array.getElem?_eq_some_iff.1 hk).1
      simp [Array.getD, hkl] at h
    · simp [Array.getD, hj] at h
end
end Go.Proofs.Ytkkolbdapoejkaa.Ut
