/- Drawn regions whose invariant looks at which operations are done and at what they yielded: blocks made in them, whose numbers hang on the order drawn, calls that write, stores in the middle. Serves all packages. -/
import Derived.Test.YtkkolbdapoejkaaRa
import Derived.Test.YtkkolbdapoejkaaWb
namespace Go.Proofs.Ytkkolbdapoejkaa.Ut
open Go.RowKit
set_option linter.unusedVariables false

section
variable {P : Program} {ops : Array Oper} {Q : Exit → Act → World → Prop} {T : (Nat → Value) → Array Value} {d : List Deferred} {R : Nat → Value → Prop} {WI : (Nat → Bool) → (Nat → Value) → World → Prop}
/-- what is asked of operation o, number i -/
def StepX (P : Program) (ops : Array Oper) (Q : Exit → Act → World → Prop) (T : (Nat → Value) → Array Value) (d : List Deferred) (R : Nat → Value → Prop) (WI : (Nat → Bool) → (Nat → Value) → World → Prop) (i : Nat) (o : Oper) : Prop :=
  ∀ (L : Nat → Bool) (x : Nat → Value) (w : World), L i = false → Closed ops L → WI L x w → (∀ j ∈ depsOf o, L j = true ∧ R j (x j)) → ∀ K : Act → World → Prop, (∀ v w' tm, tm = T (upd x i v) → R i v → WI (fun j => if j = i then true else L j) (upd x i v) w' → K { tmps := tm, defers := d } w') →
    if Region.wanted o (yielded ops (T x)) = true then Oper.wp P o { tmps := T x, defers := d } w K Q else K (Act.put { tmps := T x, defers := d } o.dst undef) w
/-- .. of the last one -/
def LastX (P : Program) (ops : Array Oper) (Q : Exit → Act → World → Prop) (T : (Nat → Value) → Array Value) (d : List Deferred) (R : Nat → Value → Prop) (WI : (Nat → Bool) → (Nat → Value) → World → Prop) (i : Nat) (o : Oper) : Prop :=
  ∀ (L : Nat → Bool) (x : Nat → Value) (w : World), L i = false → (∀ j, j < i → L j = true) → WI L x w → (∀ j, j < i → R j (x j)) → ∀ K : Act → World → Prop, (∀ a' w', Q .normal a' w' → K a' w') →
    if Region.wanted o (yielded ops (T x)) = true then Oper.wp P o { tmps := T x, defers := d } w K Q else K (Act.put { tmps := T x, defers := d } o.dst undef) w
/-- the operations from number k on -/
def StepsX (P : Program) (ops : Array Oper) (Q : Exit → Act → World → Prop) (T : (Nat → Value) → Array Value) (d : List Deferred) (R : Nat → Value → Prop) (WI : (Nat → Bool) → (Nat → Value) → World → Prop) (k : Nat) (l : List Oper) : Prop :=
  ∀ j o, l[j]? = some o → if j + 1 = l.length then LastX P ops Q T d R WI (k + j) o else StepX P ops Q T d R WI (k + j) o
theorem x_steps_last {k : Nat} {o : Oper} (h : LastX P ops Q T d R WI k o) : StepsX P ops Q T d R WI k [o] := fun j o' hj => by
  cases j with
  | zero => simp at hj; subst hj; simpa using h
  | succ j => simp at hj
theorem x_steps_cons {k : Nat} {o o' : Oper} {l : List Oper} (h : StepX P ops Q T d R WI k o) (hs : StepsX P ops Q T d R WI (k + 1) (o' :: l)) : StepsX P ops Q T d R WI k (o :: o' :: l) := fun j p hj => by
  cases j with
  | zero =>
    simp at hj
    subst hj
    simpa using h
  | succ j =>
    have := hs j p (by simpa using hj)
    simp only [List.length_cons] at this ⊢
    have e : k + (j + 1) = k + 1 + j := by omega
    rw [e]
    by_cases hl : j + 1 = l.length + 1
    · rw [if_pos (by omega)]; rwa [if_pos hl] at this
    · rw [if_neg (by omega)]; rwa [if_neg hl] at this
theorem wpAny_x (hok : goodOrder ops = true) (hs : StepsX P ops Q T d R WI 0 ops.toList) :
    ∀ (fuel : Nat) (L : Array Bool) (x : Nat → Value) (w : World), L.size = ops.size → L.toList.count false ≤ fuel → L.getD (ops.size - 1) true = false →
      (∀ k o, ops[k]? = some o → L.getD k true = true → ∀ j ∈ depsOf o, L.getD j true = true) → WI (fun j => L.getD j true) x w → (∀ j, j < ops.size → L.getD j true = true → R j (x j)) →
      wpAny P .any ops Q fuel L { tmps := T x, defers := d } w := by
  unfold goodOrder at hok
  simp only [Bool.and_eq_true, List.all_eq_true, List.mem_range, List.any_eq_true, decide_eq_true_eq] at hok
  obtain ⟨ho1, ho2⟩ := hok
  have hdep : ∀ k o, ops[k]? = some o → ∀ j ∈ depsOf o, j < k := fun k o hk j hj => by
    have hlt : k < ops.size := (Array.getElem?_eq_some_iff.1 hk).1
    have := ho1 k hlt
    simp only [hk, Option.map_some, Option.getD_some, List.all_eq_true, decide_eq_true_eq] at this
    exact this j hj
  have hnext : ∀ j, j < ops.size - 1 → ∃ k o, ops[k]? = some o ∧ j < k ∧ j ∈ depsOf o := fun j hj => by
    obtain ⟨k, hk, hjk, hc⟩ := ho2 j hj
    refine ⟨k, ops[k], by simp [hk], hjk, ?_⟩
    simpa [hk] using hc
  intro fuel
  induction fuel with
  | zero =>
    intro L x w hsz hc hlast _ _ _
    exfalso
    have h2 : false ∈ L.toList := by
      have hlt : ops.size - 1 < L.size := by
        rcases Nat.lt_or_ge (ops.size - 1) L.size with h | h
        · exact h
        · rw [Array.getD, dif_neg (by omega)] at hlast; cases hlast
      rw [Array.getD, dif_pos hlt] at hlast
      rw [← hlast]; exact Array.mem_toList_iff.2 (Array.getElem_mem hlt)
    have := List.count_pos_iff.2 h2
    omega
  | succ fuel ih =>
    intro L x w hsz hc hlast hcl hw hR
    have hlt : ops.size - 1 < ops.size := by
      rcases Nat.lt_or_ge (ops.size - 1) L.size with h | h
      · omega
      · rw [Array.getD, dif_neg (by omega)] at hlast; cases hlast
    have hready : ∀ i, i ∈ Region.ready .any ops L ↔ ∃ o, ops[i]? = some o ∧ L.getD i true = false ∧ ∀ j ∈ depsOf o, L.getD j true = true := fun i => by
      unfold Region.ready
      simp only [List.mem_filter, List.mem_range, Bool.and_eq_true, Bool.not_eq_true']
      constructor
      · rintro ⟨hi, hn, hd⟩
        refine ⟨ops[i], by simp [hi], hn, fun j hj => ?_⟩
        have hj' := hdep i ops[i] (by simp [hi]) j hj
        simp only [depsOf, List.mem_map, List.mem_filter, Array.mem_toList_iff] at hj
        obtain ⟨e, ⟨he, hb⟩, rfl⟩ := hj
        simp only [Array.getElem?_eq_getElem hi, Option.map_some, Option.getD_some, Array.all_eq_true'] at hd
        have := hd e he
        simp only [hb, Bool.not_true, Bool.false_or] at this
        rw [Array.getD, dif_pos (by omega)] at this ⊢
        exact this
      · rintro ⟨o, ho, hn, hd⟩
        have hi : i < ops.size := (Array.getElem?_eq_some_iff.1 ho).1
        refine ⟨hi, hn, ?_⟩
        simp only [ho, Option.map_some, Option.getD_some, Array.all_eq_true']
        intro e he
        cases hb : Region.binds .any e with
        | false => rfl
        | true =>
          have hmem : e.on ∈ depsOf o := by
            simp only [depsOf, List.mem_map, List.mem_filter, Array.mem_toList_iff]
            exact ⟨e, ⟨he, hb⟩, rfl⟩
          have h1 := hd _ hmem
          have h2 := hdep i o ho _ hmem
          simp only [Bool.not_true, Bool.false_or]
          rw [Array.getD, dif_pos (by omega)] at h1 ⊢
          exact h1
    refine ⟨fun h0 => ?_, fun i hi => ?_⟩
    · -- the least one that is not listed may come up
      exfalso
      have key : ∀ i, i < ops.size → L.getD i true = true := by
        intro i
        induction i using Nat.strongRecOn with
        | _ i ihi =>
          intro hi
          cases hLi : L.getD i true with
          | true => rfl
          | false =>
            have : i ∈ Region.ready .any ops L := (hready i).2 ⟨ops[i], by simp [hi], hLi, fun j hj => by
              have hj' := hdep i ops[i] (by simp [hi]) j hj
              exact ihi j hj' (by omega)⟩
            rw [h0] at this; cases this
      rw [key _ hlt] at hlast; cases hlast
    · obtain ⟨o, ho, hn, hd⟩ := (hready i).1 hi
      have hil : i < ops.size := (Array.getElem?_eq_some_iff.1 ho).1
      have hstep := hs i o (by simpa using ho)
      simp only [Array.length_toList, Nat.zero_add] at hstep
      by_cases hlst : i + 1 = ops.size
      · rw [if_pos hlst] at hstep
        obtain rfl : i = ops.size - 1 := by omega
        have hall : ∀ m j, ops.size - 1 - j = m → j < ops.size - 1 → L.getD j true = true := by
          intro m
          induction m using Nat.strongRecOn with
          | _ m ihm =>
            intro j hjm hj
            obtain ⟨k, p, hk, hjk, hmem⟩ := hnext j hj
            have hkl : k < ops.size := (Array.getElem?_eq_some_iff.1 hk).1
            by_cases hkl' : k = ops.size - 1
            · subst hkl'
              rw [ho] at hk; cases hk
              exact hd j hmem
            · exact hcl k p hk (ihm (ops.size - 1 - k) (by omega) k rfl (by omega)) j hmem
        refine wpOp_step ho fun K hK => hstep (fun j => L.getD j true) x w hn (fun j hj => hall _ j rfl hj) hw (fun j hj => hR j (by omega) (hall _ j rfl hj)) K fun a' w' hq => hK _ _ ?_
        refine wpAny_done ?_ hq _
        unfold Region.ready
        rw [List.filter_eq_nil_iff]
        intro j hj
        simp only [List.mem_range] at hj
        rw [getD_set]
        by_cases e : j = ops.size - 1
        · simp [e]
        · simp [e, hall _ j rfl (by omega)]
      · rw [if_neg hlst] at hstep
        refine wpOp_step ho fun K hK => hstep (fun j => L.getD j true) x w hn hcl hw (fun j hj => ⟨hd j hj, hR j (by have := hdep i o ho j hj; omega) (hd j hj)⟩) K fun v w' tm htm hv hw' => hK _ _ ?_
        subst htm
        have hcnt := count_set L i hn
        refine ih _ _ _ (by simpa using hsz) (by omega) ?_ ?_ (by rw [show (fun j => (L.setIfInBounds i true).getD j true) = fun j => if j = i then true else L.getD j true from funext fun j => getD_set L i j]; exact hw') ?_
        · rw [getD_set, if_neg (by omega)]; exact hlast
        · intro k p hk hk2 j hj
          rw [getD_set] at hk2 ⊢
          split
          · rfl
          · by_cases e : k = i
            · subst e
              rw [ho] at hk; cases hk
              exact hd j hj
            · rw [if_neg e] at hk2
              exact hcl k p hk hk2 j hj
        · intro j hj hlj
          rw [getD_set] at hlj
          unfold upd
          by_cases e : j = i
          · subst e; rw [if_pos rfl]; exact hv
          · rw [if_neg e] at hlj ⊢
            exact hR j hj hlj


/-- all that comes ahead lies ahead -/
def aheadAll (ops : Array Oper) : Bool := (List.range ops.size).all fun i => ((ops[i]?).map fun o => (depsOf o).all fun j => decide (j < i)).getD true
theorem wpAny_xa (hok : aheadAll ops = true) (hs : ∀ i o, ops[i]? = some o → StepX P ops Q T d R WI i o) (he : ∀ (L : Nat → Bool) (x : Nat → Value) (w : World), (∀ j, j < ops.size → L j = true) → WI L x w → (∀ j, j < ops.size → R j (x j)) → Q .normal { tmps := T x, defers := d } w) :
    ∀ (fuel : Nat) (L : Array Bool) (x : Nat → Value) (w : World), L.size = ops.size → L.toList.count false ≤ fuel → 
      (∀ k o, ops[k]? = some o → L.getD k true = true → ∀ j ∈ depsOf o, L.getD j true = true) → WI (fun j => L.getD j true) x w → (∀ j, j < ops.size → L.getD j true = true → R j (x j)) →
      wpAny P .any ops Q fuel L { tmps := T x, defers := d } w := by
  unfold aheadAll at hok
  simp only [List.all_eq_true, List.mem_range] at hok
  have ho1 := hok
  have hdep : ∀ k o, ops[k]? = some o → ∀ j ∈ depsOf o, j < k := fun k o hk j hj => by
    have hlt : k < ops.size := (Array.getElem?_eq_some_iff.1 hk).1
    have := ho1 k hlt
    simp only [hk, Option.map_some, Option.getD_some, List.all_eq_true, decide_eq_true_eq] at this
    exact this j hj
  intro fuel
  induction fuel with
  | zero =>
    intro L x w hsz hc hcl hw hR
    have hall : ∀ j, j < ops.size → L.getD j true = true := fun j hj => by
      cases hLj : L.getD j true with
      | true => rfl
      | false =>
        have h2 : false ∈ L.toList := by
          rw [Array.getD, dif_pos (by omega)] at hLj
          rw [← hLj]; exact Array.mem_toList_iff.2 (Array.getElem_mem (by omega))
        have := List.count_pos_iff.2 h2
        omega
    refine wpAny_done ?_ (he _ _ _ hall hw (fun j hj => hR j hj (hall j hj))) _
    unfold Region.ready
    rw [List.filter_eq_nil_iff]
    intro j hj
    simp only [List.mem_range] at hj
    simp [hall j hj]
  | succ fuel ih =>
    intro L x w hsz hc hcl hw hR
    have hready : ∀ i, i ∈ Region.ready .any ops L ↔ ∃ o, ops[i]? = some o ∧ L.getD i true = false ∧ ∀ j ∈ depsOf o, L.getD j true = true := fun i => by
      unfold Region.ready
      simp only [List.mem_filter, List.mem_range, Bool.and_eq_true, Bool.not_eq_true']
      constructor
      · rintro ⟨hi, hn, hd⟩
        refine ⟨ops[i], by simp [hi], hn, fun j hj => ?_⟩
        have hj' := hdep i ops[i] (by simp [hi]) j hj
        simp only [depsOf, List.mem_map, List.mem_filter, Array.mem_toList_iff] at hj
        obtain ⟨e, ⟨he, hb⟩, rfl⟩ := hj
        simp only [Array.getElem?_eq_getElem hi, Option.map_some, Option.getD_some, Array.all_eq_true'] at hd
        have := hd e he
        simp only [hb, Bool.not_true, Bool.false_or] at this
        rw [Array.getD, dif_pos (by omega)] at this ⊢
        exact this
      · rintro ⟨o, ho, hn, hd⟩
        have hi : i < ops.size := (Array.getElem?_eq_some_iff.1 ho).1
        refine ⟨hi, hn, ?_⟩
        simp only [ho, Option.map_some, Option.getD_some, Array.all_eq_true']
        intro e he
        cases hb : Region.binds .any e with
        | false => rfl
        | true =>
          have hmem : e.on ∈ depsOf o := by
            simp only [depsOf, List.mem_map, List.mem_filter, Array.mem_toList_iff]
            exact ⟨e, ⟨he, hb⟩, rfl⟩
          have h1 := hd _ hmem
          have h2 := hdep i o ho _ hmem
          simp only [Bool.not_true, Bool.false_or]
          rw [Array.getD, dif_pos (by omega)] at h1 ⊢
          exact h1
    refine ⟨fun h0 => ?_, fun i hi => ?_⟩
    · -- the least one that is not listed may come up
      have key : ∀ i, i < ops.size → L.getD i true = true := by
        intro i
        induction i using Nat.strongRecOn with
        | _ i ihi =>
          intro hi
          cases hLi : L.getD i true with
          | true => rfl
          | false =>
            have : i ∈ Region.ready .any ops L := (hready i).2 ⟨ops[i], by simp [hi], hLi, fun j hj => by
              have hj' := hdep i ops[i] (by simp [hi]) j hj
              exact ihi j hj' (by omega)⟩
            rw [h0] at this; cases this
      exact he _ _ _ key hw (fun j hj => hR j hj (key j hj))
    · obtain ⟨o, ho, hn, hd⟩ := (hready i).1 hi
      have hil : i < ops.size := (Array.getElem?_eq_some_iff.1 ho).1
      have hstep := hs i o ho
      · refine wpOp_step ho fun K hK => hstep (fun j => L.getD j true) x w hn hcl hw (fun j hj => ⟨hd j hj, hR j (by have := hdep i o ho j hj; omega) (hd j hj)⟩) K fun v w' tm htm hv hw' => hK _ _ ?_
        subst htm
        have hcnt := count_set L i hn
        refine ih _ _ _ (by simpa using hsz) (by omega) ?_ (by rw [show (fun j => (L.setIfInBounds i true).getD j true) = fun j => if j = i then true else L.getD j true from funext fun j => getD_set L i j]; exact hw') ?_
        · intro k p hk hk2 j hj
          rw [getD_set] at hk2 ⊢
          split
          · rfl
          · by_cases e : k = i
            · subst e
              rw [ho] at hk; cases hk
              exact hd j hj
            · rw [if_neg e] at hk2
              exact hcl k p hk hk2 j hj
        · intro j hj hlj
          rw [getD_set] at hlj
          unfold upd
          by_cases e : j = i
          · subst e; rw [if_pos rfl]; exact hv
          · rw [if_neg e] at hlj ⊢
            exact hR j hj hlj


/-- what each operation yields, but those of ns, of which the invariant alone speaks -/
def XR (ns : List Nat) (vals : List Value) (j : Nat) (v : Value) : Prop := ns.contains j = true ∨ v = nth vals j
variable {ns : List Nat} {vals : List Value}
theorem xR_nth {j : Nat} {v u : Value} (h : XR ns vals j v) (hb : ns.contains j = false) (hu : vals[j]? = some u) : v = u := by
  rcases h with h | h
  · rw [hb] at h; cases h
  · exact hd_nth' h hu
theorem x_op {k : Nat} {o o' : Oper} {l : List Oper} (s : Nat) (ds : List Nat) (hd : depsOf o = ds)
    (h : ∀ (L : Nat → Bool) (x : Nat → Value) (w : World), L k = false → Closed ops L → WI L x w → (∀ j ∈ ds, L j = true ∧ XR ns vals j (x j)) → ∀ K : Act → World → Prop, (∀ tm w', tm = T (upd x k (tm.getD s undef)) → tm.getD s undef = nth vals k → WI (fun j => if j = k then true else L j) (upd x k (tm.getD s undef)) w' → K { tmps := tm, defers := d } w') →
      if Region.wanted o (yielded ops (T x)) = true then Oper.wp P o { tmps := T x, defers := d } w K Q else K (Act.put { tmps := T x, defers := d } o.dst undef) w)
    (hs : StepsX P ops Q T d (XR ns vals) WI (k + 1) (o' :: l)) : StepsX P ops Q T d (XR ns vals) WI k (o :: o' :: l) := by
  subst hd
  refine x_steps_cons (fun L x w hL hC hw hR K hK => h L x w hL hC hw hR K fun tm w' ht hv hw' => ?_) hs
  exact hK _ w' tm ht (.inr hv) hw'
/-- an operation whose value is not known ahead -/
theorem x_one {k : Nat} {o o' : Oper} {l : List Oper} (s : Nat) (ds : List Nat) (hd : depsOf o = ds) (hk : ns.contains k = true)
    (h : ∀ (L : Nat → Bool) (x : Nat → Value) (w : World), L k = false → Closed ops L → WI L x w → (∀ j ∈ ds, L j = true ∧ XR ns vals j (x j)) → ∀ K : Act → World → Prop, (∀ tm w', tm = T (upd x k (tm.getD s undef)) → WI (fun j => if j = k then true else L j) (upd x k (tm.getD s undef)) w' → K { tmps := tm, defers := d } w') →
      if Region.wanted o (yielded ops (T x)) = true then Oper.wp P o { tmps := T x, defers := d } w K Q else K (Act.put { tmps := T x, defers := d } o.dst undef) w)
    (hs : StepsX P ops Q T d (XR ns vals) WI (k + 1) (o' :: l)) : StepsX P ops Q T d (XR ns vals) WI k (o :: o' :: l) := by
  subst hd
  refine x_steps_cons (fun L x w hL hC hw hR K hK => h L x w hL hC hw hR K fun tm w' ht hw' => ?_) hs
  exact hK _ w' tm ht (.inl hk) hw'
theorem x_last {k : Nat} {o : Oper}
    (h : ∀ (L : Nat → Bool) (x : Nat → Value) (w : World), (∀ j, j < k → L j = true) → WI L x w → (∀ j, j < k → XR ns vals j (x j)) → ∀ K : Act → World → Prop, (∀ a' w', Q .normal a' w' → K a' w') →
      if Region.wanted o (yielded ops (T x)) = true then Oper.wp P o { tmps := T x, defers := d } w K Q else K (Act.put { tmps := T x, defers := d } o.dst undef) w) : StepsX P ops Q T d (XR ns vals) WI k [o] :=
  x_steps_last fun L x w _ hall hw hR K hK => h L x w hall hw hR K hK
/-- THE REGION: apply it; T and the values come by unification -/
theorem wp_region_x {id : Nat} {a : Act} {w : World} (slots : List Nat) (vals : List Value) (ns : List Nat) (WI : (Nat → Bool) → (Nat → Value) → World → Prop) (hm : P.follows .mixedOrders = true) (hT : ∀ y, setAll a.tmps slots 0 y = T y) (hok : goodOrder ops = true) (hn : 0 < ops.size)
    (hw : ∀ (L : Nat → Bool) (x : Nat → Value), (∀ j, j < ops.size → L j = false) → WI L x w.drew)
    (hs : StepsX P ops Q T a.defers (XR ns vals) WI 0 ops.toList) : (Code.region id ops true).wp P Q a w := by
  refine wp_region_any hm ?_
  have hx : a = { tmps := T (fun j => a.tmps.getD (slots.getD j 0) undef), defers := a.defers } := by
    rw [← hT, setAll_self]
    intro j s hj
    simp [List.getD, hj]
  rw [hx]
  refine wpAny_x hok hs ops.size _ _ _ (by simp) (by simp) (by simp [Array.getD]; omega) (fun k o hk h => ?_) (hw _ _ fun j hj => by simp [Array.getD, hj]) (fun j hj h => ?_)
  · have hkl : k < ops.size := (Array.getElem?_eq_some_iff.1 hk).1
    simp [Array.getD, hkl] at h
  · simp [Array.getD, hj] at h
/-- .. where an operation may be left behind the last one: each is asked alike, and what follows when all are done -/
def StepsXA (P : Program) (ops : Array Oper) (Q : Exit → Act → World → Prop) (T : (Nat → Value) → Array Value) (d : List Deferred) (R : Nat → Value → Prop) (WI : (Nat → Bool) → (Nat → Value) → World → Prop) (k : Nat) (l : List Oper) : Prop :=
  ∀ j o, l[j]? = some o → StepX P ops Q T d R WI (k + j) o
theorem xa_nil {k : Nat} : StepsXA P ops Q T d R WI k [] := fun j o h => by simp at h
theorem xa_cons {k : Nat} {o : Oper} {l : List Oper} (h : StepX P ops Q T d R WI k o) (hs : StepsXA P ops Q T d R WI (k + 1) l) : StepsXA P ops Q T d R WI k (o :: l) := fun j p hj => by
  cases j with
  | zero =>
    simp at hj
    subst hj
    simpa using h
  | succ j =>
    have := hs j p (by simpa using hj)
    rw [show k + (j + 1) = k + 1 + j by omega]
    exact this
theorem xa_op {k : Nat} {o : Oper} {l : List Oper} (s : Nat) (ds : List Nat) (hd : depsOf o = ds)
    (h : ∀ (L : Nat → Bool) (x : Nat → Value) (w : World), L k = false → Closed ops L → WI L x w → (∀ j ∈ ds, L j = true ∧ XR ns vals j (x j)) → ∀ K : Act → World → Prop, (∀ tm w', tm = T (upd x k (tm.getD s undef)) → tm.getD s undef = nth vals k → WI (fun j => if j = k then true else L j) (upd x k (tm.getD s undef)) w' → K { tmps := tm, defers := d } w') →
      if Region.wanted o (yielded ops (T x)) = true then Oper.wp P o { tmps := T x, defers := d } w K Q else K (Act.put { tmps := T x, defers := d } o.dst undef) w)
    (hs : StepsXA P ops Q T d (XR ns vals) WI (k + 1) l) : StepsXA P ops Q T d (XR ns vals) WI k (o :: l) := by
  subst hd
  refine xa_cons (fun L x w hL hC hw hR K hK => h L x w hL hC hw hR K fun tm w' ht hv hw' => ?_) hs
  exact hK _ w' tm ht (.inr hv) hw'
theorem xa_one {k : Nat} {o : Oper} {l : List Oper} (s : Nat) (ds : List Nat) (hd : depsOf o = ds) (hk : ns.contains k = true)
    (h : ∀ (L : Nat → Bool) (x : Nat → Value) (w : World), L k = false → Closed ops L → WI L x w → (∀ j ∈ ds, L j = true ∧ XR ns vals j (x j)) → ∀ K : Act → World → Prop, (∀ tm w', tm = T (upd x k (tm.getD s undef)) → WI (fun j => if j = k then true else L j) (upd x k (tm.getD s undef)) w' → K { tmps := tm, defers := d } w') →
      if Region.wanted o (yielded ops (T x)) = true then Oper.wp P o { tmps := T x, defers := d } w K Q else K (Act.put { tmps := T x, defers := d } o.dst undef) w)
    (hs : StepsXA P ops Q T d (XR ns vals) WI (k + 1) l) : StepsXA P ops Q T d (XR ns vals) WI k (o :: l) := by
  subst hd
  refine xa_cons (fun L x w hL hC hw hR K hK => h L x w hL hC hw hR K fun tm w' ht hw' => ?_) hs
  exact hK _ w' tm ht (.inl hk) hw'
theorem wp_region_xa {id : Nat} {a : Act} {w : World} (slots : List Nat) (vals : List Value) (ns : List Nat) (WI : (Nat → Bool) → (Nat → Value) → World → Prop) (hm : P.follows .mixedOrders = true) (hT : ∀ y, setAll a.tmps slots 0 y = T y) (hok : aheadAll ops = true)
    (hw : ∀ (L : Nat → Bool) (x : Nat → Value), (∀ j, j < ops.size → L j = false) → WI L x w.drew)
    (hs : StepsXA P ops Q T a.defers (XR ns vals) WI 0 ops.toList)
    (he : ∀ (L : Nat → Bool) (y : Nat → Value) (w' : World), (∀ j, j < ops.size → L j = true) → WI L y w' → (∀ j, j < ops.size → XR ns vals j (y j)) → Q .normal { tmps := T y, defers := a.defers } w') : (Code.region id ops true).wp P Q a w := by
  refine wp_region_any hm ?_
  have hx : a = { tmps := T (fun j => a.tmps.getD (slots.getD j 0) undef), defers := a.defers } := by
    rw [← hT, setAll_self]
    intro j s hj
    simp [List.getD, hj]
  rw [hx]
  refine wpAny_xa hok (fun i o ho => ?_) he ops.size _ _ _ (by simp) (by simp) (fun k o hk h => ?_) (hw _ _ fun j hj => by simp [Array.getD, hj]) (fun j hj h => ?_)
  · have := hs i o (by simpa using ho)
    rw [Nat.zero_add] at this
    exact this
  · have hkl : k < ops.size := (Array.getElem?_eq_some_iff.1 hk).1
    simp [Array.getD, hkl] at h
  · simp [Array.getD, hj] at h
/-- what leans on number i is not done, as long as i isn't -/
theorem Closed.not' {L : Nat → Bool} (h : Closed ops L) (k i : Nat) (hd : ((ops[k]?).map fun o => (depsOf o).contains i).getD false = true) (hL : L i = false) : L k = false := by
  cases hk : L k with
  | false => rfl
  | true =>
    cases ho : ops[k]? with
    | none => rw [ho] at hd; cases hd
    | some o =>
      rw [ho] at hd
      have := h k o ho hk i (by simpa using hd)
      rw [hL] at this
      cases this

/-- operation a makes a block, operation s stores c1 there -/
def NewB (n0 a s : Nat) (t : TypeId) (c0 c1 : List Value) (L : Nat → Bool) (x : Nat → Value) (w : World) : Prop :=
  L a = true → ∃ p, x a = .pointer (some ⟨p, 0, none⟩) ∧ n0 ≤ p ∧ Blk w p t (cond (L s) c1 c0)
section
variable {n0 a s : Nat} {t : TypeId} {c0 c1 : List Value} {L L' : Nat → Bool} {x x' : Nat → Value} {w w' : World}
theorem NewB.no (h : L a = false) : NewB n0 a s t c0 c1 L x w := fun e => by rw [h] at e; cases e
theorem NewB.kq {S : List Nat} (h : NewB n0 a s t c0 c1 L x w) (k : Kq S w w') (hS : ∀ q ∈ S, q < n0) (h1 : L' a = L a) (h2 : L' s = L s) (h3 : x' a = x a) : NewB n0 a s t c0 c1 L' x' w' := fun e => by
  rw [h1] at e
  obtain ⟨p, q1, q2, q3⟩ := h e
  refine ⟨p, h3.trans q1, q2, ?_⟩
  rw [h2]
  exact q3.kq k (fun hm => by have := hS p hm; omega)
theorem NewB.made (hs : L' s = false) (hx : x' a = .pointer (some ⟨w.heap.size, 0, none⟩)) (hn : n0 ≤ w.heap.size) (hw : w' = w.alloc (.cells c0.toArray t)) : NewB n0 a s t c0 c1 L' x' w' := fun _ => by
  refine ⟨_, hx, hn, ?_⟩
  rw [hs, hw]
  exact Blk.new w t c0
theorem NewB.put {p : Nat} (hs : L' s = true) (hx : x' a = .pointer (some ⟨p, 0, none⟩)) (hn : n0 ≤ p) (hb : Blk w' p t c1) : NewB n0 a s t c0 c1 L' x' w' := fun _ => by
  refine ⟨_, hx, hn, ?_⟩
  rw [hs]
  exact hb
end
end
end Go.Proofs.Ytkkolbdapoejkaa.Ut
