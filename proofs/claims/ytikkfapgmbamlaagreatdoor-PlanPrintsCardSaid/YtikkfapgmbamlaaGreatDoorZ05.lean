/- Several texts in one: Eg Rg Ra Rb Sh -/
import Derived.Test.YtikkfapgmbamlaaGreatDoorZ02
import Derived.Test.YtikkfapgmbamlaaGreatDoorZ04
import Derived.Test.YtikkfapgmbamlaaGreatDoorZ01
import Derived.RangeFuncNested
import Derived.RegionTactic
import Derived.OrdersIn
import Derived.Shelf.Strings.Builder1
import Derived.Shelf.Strings.BuilderF
import Derived.Shelf.Strings.BuilderK
import Derived.Shelf.Strconv.Itoa0
import Derived.Shelf.Strconv.Itoa1
import Derived.Shelf.LaysM
import Derived.Shelf.Strconv.Itoa2
import Derived.Shelf.Strconv.Itoa3
import Derived.Shelf.Slices.Turned
import Derived.Test.YtikkfapgmbamlaaGreatDoorProg
section
/- plan: what a word says in a field; a word's rank; which lines follow. -/
namespace Go.Proofs.YtikkfapgmbamlaaGreatDoor.Pl
open Go.RowKit Ut
set_option linter.unusedVariables false

def kcells : List Value := (List.range 7).flatMap fun r => [.string (tb (kw r)), .string (tb (kf r)), .bool (manyL r)]
/-- the table of the kinds of lines, as it lies in its variable -/
def Kinds (w : World) : Prop := ∃ t fr, w.heap[0]? = some (.cells kcells.toArray t fr)
theorem Kinds.lt {w : World} (h : Kinds w) : 0 < w.heap.size := by
  obtain ⟨t, fr, h⟩ := h
  exact (Array.getElem?_eq_some_iff.1 h).1
theorem Kinds.below {w w' : World} {B : Nat} (h : Kinds w) (hb : Below B w w') (hB : 0 < B) : Kinds w' := by
  obtain ⟨t, fr, h⟩ := h
  exact ⟨t, fr, (hb.block _ hB).trans h⟩
theorem Kinds.at {w : World} (h : Kinds w) (r : Nat) (hr : r < 7) : w.cell? ⟨0, r * 3, none⟩ = some (.string (tb (kw r))) ∧ w.cell? ⟨0, r * 3 + 1, none⟩ = some (.string (tb (kf r))) ∧ w.cell? ⟨0, r * 3 + 2, none⟩ = some (.bool (manyL r)) := by
  obtain ⟨t, fr, h⟩ := h
  simp only [World.cell?, h]
  match r, hr with
  | 0, _ => exact ⟨rfl, rfl, rfl⟩
  | 1, _ => exact ⟨rfl, rfl, rfl⟩
  | 2, _ => exact ⟨rfl, rfl, rfl⟩
  | 3, _ => exact ⟨rfl, rfl, rfl⟩
  | 4, _ => exact ⟨rfl, rfl, rfl⟩
  | 5, _ => exact ⟨rfl, rfl, rfl⟩
  | 6, _ => exact ⟨rfl, rfl, rfl⟩
  | r + 7, h => omega

def optV (o : Option Int) : Value := .tuple #[.int .i64 (o.getD 0), .bool o.isSome]
theorem parseF_zero {w : List UInt8} (h : ¬ (La.parseF w).2 = 0) : La.parseF w = (0, (La.parseF w).2) := by
  rcases La.parseF_text w with e | ⟨n, hn, e⟩
  · rw [e]
  · exact absurd (by rw [← e, La.parse_text n hn]) h
theorem numV_opt (l : List UInt8) : numV l = optV ((numL l).map Int.ofNat) := by
  unfold numV optV
  cases numL l <;> rfl
theorem out_eq (s : ByteArray) : (s.toList == [111, 117, 116]) = decide (s.data.toList = [111, 117, 116]) := by
  rw [ByteArray.toList_eq]
  cases h : decide (s.data.toList = [111, 117, 116])
  · simpa using h
  · simpa using h
set_option maxRecDepth 100000 in
theorem value_any (s : ByteArray) (f : UInt8) (hs : s.size ≤ maxLen) (B : Nat) (w : World) (hB : B ≤ w.heap.size) :
    Calls Tryz.prog 75 #[.string s, .int .u8 f.toNat] w fun e w' => e = .returned (optV (valL f s.data.toList)) ∧ Below B w w' := by
  by_cases hl : f = 108
  · subst hl
    have hx := La.parse_any s hs w
    have HE : Hid (optV (valL 108 s.data.toList) = .tuple #[.int .i64 (La.parseF s.data.toList).1, .bool ((La.parseF s.data.toList).2 == 0)]) := Lib.hid (by
      unfold valL optV
      rw [if_pos rfl]
      by_cases h : (La.parseF s.data.toList).2 = 0
      · rw [if_pos h, h]; rfl
      · rw [if_neg h, parseF_zero h]
        have : ((La.parseF s.data.toList).2 == 0) = false := by simpa using h
        simp [this])
    generalize La.parseF s.data.toList = q at hx HE
    obtain ⟨q1, q2⟩ := q
    have HF : Hid (optV (valL 108 s.data.toList) = .tuple #[.int .i64 q1, .bool (q2 == 0)]) := HE
    clear HE
    go_enter Tryz.func75, Tryz.ntmps75
    go_wp2_with (go_at_call 86; refine hx.mono ?_; rintro e w1 ⟨rfl, rfl⟩)
    all_goals
      go_ret2
      exact ⟨HF.out.symm ▸ rfl, Below.refl _ _⟩
  · have hf : ¬ ((f.toNat : Nat) : Int) = 108 := fun h => hl (UInt8.toNat_inj.1 (by simp; omega))
    have hnum := number_any s B w hB
    rw [numV_opt] at hnum
    by_cases hp : f = 112
    · subst hp
      by_cases ho : s.data.toList = [111, 117, 116]
      · have ht : (s.toList == [111, 117, 116]) = true := by rw [out_eq]; simp [ho]
        have HF : Hid (optV (valL 112 s.data.toList) = .tuple #[.int .i64 (-1), .bool true]) := Lib.hid (by
          unfold valL
          rw [if_neg (by decide), if_pos ⟨rfl, ho⟩]; rfl)
        clear ho hnum
        go_enter Tryz.func75, Tryz.ntmps75
        go_wp2
        go_ret2
        exact ⟨HF.out.symm ▸ rfl, Below.refl _ _⟩
      · have ht : (s.toList == [111, 117, 116]) = false := by rw [out_eq]; simp [ho]
        have HF : Hid (valL 112 s.data.toList = (numL s.data.toList).map Int.ofNat) := Lib.hid (by
          unfold valL
          rw [if_neg (by decide), if_neg (fun h => ho h.2)])
        rw [HF.out]
        generalize (numL s.data.toList).map Int.ofNat = o at hnum ⊢
        clear ho HF
        unfold optV at hnum
        go_enter Tryz.func75, Tryz.ntmps75
        go_wp2_with (go_at_call 87; refine hnum.mono ?_; rintro e w1 ⟨rfl, hb1⟩)
        go_ret2
        exact ⟨rfl, hb1⟩
    · have hf2 : ¬ ((f.toNat : Nat) : Int) = 112 := fun h => hp (UInt8.toNat_inj.1 (by simp; omega))
      have HF : Hid (valL f s.data.toList = (numL s.data.toList).map Int.ofNat) := Lib.hid (by
        unfold valL
        rw [if_neg hl, if_neg (fun h => hp h.1)])
      rw [HF.out]
      generalize (numL s.data.toList).map Int.ofNat = o at hnum ⊢
      clear HF hl hp
      unfold optV at hnum
      go_enter Tryz.func75, Tryz.ntmps75
      go_wp2_with (go_at_call 87; refine hnum.mono ?_; rintro e w1 ⟨rfl, hb1⟩)
      go_ret2
      exact ⟨rfl, hb1⟩

set_option maxRecDepth 100000 in
theorem follows_any (r : Nat) (hr : r < 7) (last : Int) (h1 : -1 ≤ last) (h2 : last < 7) (w : World) (hK : Kinds w) :
    Calls Tryz.prog 56 #[.int .i64 r, .int .i64 last] w fun e w' => e = .returned (.bool (folL r last)) ∧ w = w' := by
  obtain ⟨_, _, hm⟩ := hK.at r hr
  clear hK
  by_cases hl : last = -1
  · subst hl
    have HF : Hid (folL r (-1) = (r == 0)) := Lib.hid (by unfold folL; rw [if_pos rfl])
    go_enter Tryz.func56, Tryz.ntmps56
    go_wp2
    go_ret
    refine ⟨?_, rfl⟩
    rw [HF.out]
    show Ending.returned (.bool (((r : Nat) : Int) == 0)) = _
    congr 2
    by_cases h : r = 0
    · subst h; rfl
    · have h2 : (r == 0) = false := by simpa using h
      have h3 : (((r : Nat) : Int) == 0) = false := by simp; omega
      rw [h2, h3]
  · by_cases he : (r : Int) = last
    · subst he
      have HF : Hid (folL r r = manyL r) := Lib.hid (by unfold folL; rw [if_neg (by omega), if_pos rfl])
      generalize manyL r = b at hm HF
      go_enter Tryz.func56, Tryz.ntmps56
      go_wp2
      go_ret
      refine ⟨?_, rfl⟩
      rw [HF.out]
      rfl
    · have HF : Hid (folL r last = decide (last < r)) := Lib.hid (by unfold folL; rw [if_neg hl, if_neg he])
      go_enter Tryz.func56, Tryz.ntmps56
      go_wp2
      go_ret
      refine ⟨?_, rfl⟩
      rw [HF.out]
      rfl

/-- a word's rank as a number, -1 if it has none -/
def rankZ (w : List UInt8) : Int := match rankL w with | some r => (r : Int) | none => -1
theorem rank_hit {w : List UInt8} {k : Nat} (hk : k < 7) (he : kw k = w) (hno : ∀ j, j < k → kw j ≠ w) : rankL w = some k := by
  have h1 : ∀ j, j < k → (kw j == w) = false := fun j hj => by simpa using hno j hj
  have h2 : (kw k == w) = true := by simpa using he
  have e : List.range 7 = [0, 1, 2, 3, 4, 5, 6] := rfl
  unfold rankL
  rw [e]
  clear he hno e
  match k, hk with
  | 0, _ => simp only [List.find?, h2]
  | 1, _ => simp only [List.find?, h1 0 (by omega), h2]
  | 2, _ => simp only [List.find?, h1 0 (by omega), h1 1 (by omega), h2]
  | 3, _ => simp only [List.find?, h1 0 (by omega), h1 1 (by omega), h1 2 (by omega), h2]
  | 4, _ => simp only [List.find?, h1 0 (by omega), h1 1 (by omega), h1 2 (by omega), h1 3 (by omega), h2]
  | 5, _ => simp only [List.find?, h1 0 (by omega), h1 1 (by omega), h1 2 (by omega), h1 3 (by omega), h1 4 (by omega), h2]
  | 6, _ => simp only [List.find?, h1 0 (by omega), h1 1 (by omega), h1 2 (by omega), h1 3 (by omega), h1 4 (by omega), h1 5 (by omega), h2]
  | k + 7, h => omega
theorem rank_miss {w : List UInt8} (hno : ∀ j, j < 7 → kw j ≠ w) : rankL w = none := by
  unfold rankL
  rw [List.find?_eq_none]
  intro j hj
  simpa using hno j (by simpa using hj)
theorem word_eq (a : List UInt8) (s : ByteArray) : ((tb a).toList == s.toList) = decide (a = s.data.toList) := by
  rw [ByteArray.toList_eq, ByteArray.toList_eq, tb_list]
  cases h : decide (a = s.data.toList)
  · simpa using h
  · simpa using h
end Go.Proofs.YtikkfapgmbamlaaGreatDoor.Pl
end
section
/- A region that draws its order of evaluation, by what each operation yields and what all of them keep: one case for each operation, whatever the order; the same in a round of a range over a function. -/
namespace Go.Proofs.YtikkfapgmbamlaaGreatDoor.Ut
open Go.RowKit

/-- the operations that must come ahead of o -/
def depsOf (o : Oper) : List Nat := (o.after.toList.filter fun e => Region.binds .any e).map (·.on)
/-- all that comes ahead lies ahead; all but the last one is wanted by one behind it -/
def goodOrder (ops : Array Oper) : Bool :=
  ((List.range ops.size).all fun i => ((ops[i]?).map fun o => (depsOf o).all fun j => decide (j < i)).getD true) &&
  ((List.range (ops.size - 1)).all fun j => (List.range ops.size).any fun k => decide (j < k) && ((ops[k]?).map fun o => (depsOf o).contains j).getD false)

/-- whatever is listed, so is what comes ahead of it -/
def Closed (ops : Array Oper) (L : Nat → Bool) : Prop := ∀ k o, ops[k]? = some o → L k = true → ∀ j ∈ depsOf o, L j = true
/-- all that stands ahead of number k must come ahead of it -/
def allBefore (ops : Array Oper) (k : Nat) : Bool := (List.range k).all fun j => (List.range (k + 1)).any fun m => decide (j < m) && ((ops[m]?).map fun o => (depsOf o).contains j).getD false
theorem Closed.all {ops : Array Oper} {L : Nat → Bool} (h : Closed ops L) {k : Nat} (hk : allBefore ops k = true) (hL : L k = true) : ∀ j, j < k → L j = true := by
  unfold allBefore at hk
  simp only [List.all_eq_true, List.mem_range, List.any_eq_true, Bool.and_eq_true, decide_eq_true_eq] at hk
  have key : ∀ m j, k - j = m → j < k → L j = true := by
    intro m
    induction m using Nat.strongRecOn with
    | _ m ihm =>
      intro j hjm hj
      obtain ⟨q, hq, hjq, hc⟩ := hk j hj
      cases ho : ops[q]? with
      | none => rw [ho] at hc; cases hc
      | some o =>
        have hmem : j ∈ depsOf o := by simpa [ho] using hc
        by_cases e : q = k
        · subst e; exact h q o ho hL j hmem
        · exact h q o ho (ihm (k - q) (by omega) q rfl (by omega)) j hmem
  exact fun j hj => key _ j rfl hj
theorem Closed.none {ops : Array Oper} {L : Nat → Bool} (h : Closed ops L) {k i : Nat} (hk : allBefore ops k = true) (hi : i < k) (hL : L i = false) : L k = false := by
  cases e : L k with
  | false => rfl
  | true => rw [h.all hk e i hi] at hL; cases hL

def upd (x : Nat → Value) (i : Nat) (v : Value) : Nat → Value := fun j => if j = i then v else x j

section
variable {P : Program} {ops : Array Oper} {Q : Exit → Act → World → Prop} {T : (Nat → Value) → Array Value} {d : List Deferred} {R : Nat → Value → World → Prop} {WI : (Nat → Bool) → World → Prop} {Le : Nat → World → World → Prop}

/-- what is asked of operation o, number i -/
def StepOk (P : Program) (ops : Array Oper) (Q : Exit → Act → World → Prop) (T : (Nat → Value) → Array Value) (d : List Deferred) (R : Nat → Value → World → Prop) (WI : (Nat → Bool) → World → Prop) (Le : Nat → World → World → Prop) (i : Nat) (o : Oper) : Prop :=
  ∀ (L : Nat → Bool) (x : Nat → Value) (w : World), L i = false → Closed ops L → WI L w → (∀ j ∈ depsOf o, R j (x j) w) → ∀ K : Act → World → Prop, (∀ v w' tm, tm = T (upd x i v) → R i v w' → WI (fun j => if j = i then true else L j) w' → Le i w w' → K { tmps := tm, defers := d } w') →
    if Region.wanted o (yielded ops (T x)) = true then Oper.wp P o { tmps := T x, defers := d } w K Q else K (Act.put { tmps := T x, defers := d } o.dst undef) w
/-- .. of the last one -/
def LastOk (P : Program) (ops : Array Oper) (Q : Exit → Act → World → Prop) (T : (Nat → Value) → Array Value) (d : List Deferred) (R : Nat → Value → World → Prop) (WI : (Nat → Bool) → World → Prop) (i : Nat) (o : Oper) : Prop :=
  ∀ (L : Nat → Bool) (x : Nat → Value) (w : World), L i = false → (∀ j, j < i → L j = true) → WI L w → (∀ j, j < i → R j (x j) w) → ∀ K : Act → World → Prop, (∀ a' w', Q .normal a' w' → K a' w') →
    if Region.wanted o (yielded ops (T x)) = true then Oper.wp P o { tmps := T x, defers := d } w K Q else K (Act.put { tmps := T x, defers := d } o.dst undef) w

/-- the operations from number k on -/
def StepsFrom (P : Program) (ops : Array Oper) (Q : Exit → Act → World → Prop) (T : (Nat → Value) → Array Value) (d : List Deferred) (R : Nat → Value → World → Prop) (WI : (Nat → Bool) → World → Prop) (Le : Nat → World → World → Prop) (k : Nat) (l : List Oper) : Prop :=
  ∀ j o, l[j]? = some o → if j + 1 = l.length then LastOk P ops Q T d R WI (k + j) o else StepOk P ops Q T d R WI Le (k + j) o

theorem steps_last {k : Nat} {o : Oper} (h : LastOk P ops Q T d R WI k o) : StepsFrom P ops Q T d R WI Le k [o] := fun j o' hj => by
  cases j with
  | zero => simp at hj; subst hj; simpa using h
  | succ j => simp at hj
theorem steps_cons {k : Nat} {o o' : Oper} {l : List Oper} (h : StepOk P ops Q T d R WI Le k o) (hs : StepsFrom P ops Q T d R WI Le (k + 1) (o' :: l)) : StepsFrom P ops Q T d R WI Le k (o :: o' :: l) := fun j p hj => by
  cases j with
  | zero =>
    simp at hj
    subst hj
    simpa using h
  | succ j =>
    have := hs j p (by simpa using hj)
    simp only [List.length_cons] at this ⊢
    have e : k + (j + 1) = k + 1 + j := by omega
    rw [e]
    by_cases hl : j + 1 = l.length + 1
    · rw [if_pos (by omega)]; rwa [if_pos hl] at this
    · rw [if_neg (by omega)]; rwa [if_neg hl] at this

/-- .. with what comes ahead written out -/
theorem steps_op {k : Nat} {o o' : Oper} {l : List Oper} (ds : List Nat) (hd : depsOf o = ds)
    (h : ∀ (L : Nat → Bool) (x : Nat → Value) (w : World), L k = false → Closed ops L → WI L w → (∀ j ∈ ds, R j (x j) w) → ∀ K : Act → World → Prop, (∀ v w' tm, tm = T (upd x k v) → R k v w' → WI (fun j => if j = k then true else L j) w' → Le k w w' → K { tmps := tm, defers := d } w') →
      if Region.wanted o (yielded ops (T x)) = true then Oper.wp P o { tmps := T x, defers := d } w K Q else K (Act.put { tmps := T x, defers := d } o.dst undef) w)
    (hs : StepsFrom P ops Q T d R WI Le (k + 1) (o' :: l)) : StepsFrom P ops Q T d R WI Le k (o :: o' :: l) := steps_cons (by subst hd; exact h) hs

theorem count_set (l : Array Bool) (i : Nat) (hi : l.getD i true = false) : (l.setIfInBounds i true).toList.count false + 1 = l.toList.count false := by
  obtain ⟨l⟩ := l
  have hlt : i < l.length := by
    rcases Nat.lt_or_ge i l.length with h | h
    · exact h
    · rw [Array.getD, dif_neg (by simpa using h)] at hi; cases hi
  have he : l[i] = false := by simpa [Array.getD, hlt] using hi
  simp only [List.setIfInBounds_toArray]
  rw [List.count_set hlt]
  have hp : 0 < l.count false := List.count_pos_iff.2 (by rw [← he]; exact List.getElem_mem hlt)
  simp [he]
  omega

theorem getD_set (l : Array Bool) (i j : Nat) : (l.setIfInBounds i true).getD j true = if j = i then true else l.getD j true := by
  obtain ⟨l⟩ := l
  simp only [List.setIfInBounds_toArray]
  by_cases h : j < l.length
  · by_cases e : j = i
    · subst e; simp [Array.getD, h]
    · simp [Array.getD, h, e, Ne.symm e]
  · by_cases e : j = i <;> simp [Array.getD, h, e]

theorem wpAny_by (hok : goodOrder ops = true) (hLe : ∀ i j L v w w', i ≠ j → Closed ops L → L i = false → L j = true → Le i w w' → R j v w → R j v w') (hs : StepsFrom P ops Q T d R WI Le 0 ops.toList) :
    ∀ (fuel : Nat) (L : Array Bool) (x : Nat → Value) (w : World), L.size = ops.size → L.toList.count false ≤ fuel → L.getD (ops.size - 1) true = false →
      (∀ k o, ops[k]? = some o → L.getD k true = true → ∀ j ∈ depsOf o, L.getD j true = true) → WI (fun j => L.getD j true) w → (∀ j, j < ops.size → L.getD j true = true → R j (x j) w) →
      wpAny P .any ops Q fuel L { tmps := T x, defers := d } w := by
  unfold goodOrder at hok
  simp only [Bool.and_eq_true, List.all_eq_true, List.mem_range, List.any_eq_true, decide_eq_true_eq] at hok
  obtain ⟨ho1, ho2⟩ := hok
  have hdep : ∀ k o, ops[k]? = some o → ∀ j ∈ depsOf o, j < k := fun k o hk j hj => by
    have hlt : k < ops.size := (Array.getElem?_eq_some_iff.1 hk).1
    have := ho1 k hlt
    simp only [hk, Option.map_some, Option.getD_some, List.all_eq_true, decide_eq_true_eq] at this
    exact this j hj
  have hnext : ∀ j, j < ops.size - 1 → ∃ k o, ops[k]? = some o ∧ j < k ∧ j ∈ depsOf o := fun j hj => by
    obtain ⟨k, hk, hjk, hc⟩ := ho2 j hj
    refine ⟨k, ops[k], by simp [hk], hjk, ?_⟩
    simpa [hk] using hc
  intro fuel
  induction fuel with
  | zero =>
    intro L x w hsz hc hlast _ _ _
    exfalso
    have h2 : false ∈ L.toList := by
      have hlt : ops.size - 1 < L.size := by
        rcases Nat.lt_or_ge (ops.size - 1) L.size with h | h
        · exact h
        · rw [Array.getD, dif_neg (by omega)] at hlast; cases hlast
      rw [Array.getD, dif_pos hlt] at hlast
      rw [← hlast]; exact Array.mem_toList_iff.2 (Array.getElem_mem hlt)
    have := List.count_pos_iff.2 h2
    omega
  | succ fuel ih =>
    intro L x w hsz hc hlast hcl hw hR
    have hlt : ops.size - 1 < ops.size := by
      rcases Nat.lt_or_ge (ops.size - 1) L.size with h | h
      · omega
      · rw [Array.getD, dif_neg (by omega)] at hlast; cases hlast
    have hready : ∀ i, i ∈ Region.ready .any ops L ↔ ∃ o, ops[i]? = some o ∧ L.getD i true = false ∧ ∀ j ∈ depsOf o, L.getD j true = true := fun i => by
      unfold Region.ready
      simp only [List.mem_filter, List.mem_range, Bool.and_eq_true, Bool.not_eq_true']
      constructor
      · rintro ⟨hi, hn, hd⟩
        refine ⟨ops[i], by simp [hi], hn, fun j hj => ?_⟩
        have hj' := hdep i ops[i] (by simp [hi]) j hj
        simp only [depsOf, List.mem_map, List.mem_filter, Array.mem_toList_iff] at hj
        obtain ⟨e, ⟨he, hb⟩, rfl⟩ := hj
        simp only [Array.getElem?_eq_getElem hi, Option.map_some, Option.getD_some, Array.all_eq_true'] at hd
        have := hd e he
        simp only [hb, Bool.not_true, Bool.false_or] at this
        rw [Array.getD, dif_pos (by omega)] at this ⊢
        exact this
      · rintro ⟨o, ho, hn, hd⟩
        have hi : i < ops.size := (Array.getElem?_eq_some_iff.1 ho).1
        refine ⟨hi, hn, ?_⟩
        simp only [ho, Option.map_some, Option.getD_some, Array.all_eq_true']
        intro e he
        cases hb : Region.binds .any e with
        | false => rfl
        | true =>
          have hmem : e.on ∈ depsOf o := by
            simp only [depsOf, List.mem_map, List.mem_filter, Array.mem_toList_iff]
            exact ⟨e, ⟨he, hb⟩, rfl⟩
          have h1 := hd _ hmem
          have h2 := hdep i o ho _ hmem
          simp only [Bool.not_true, Bool.false_or]
          rw [Array.getD, dif_pos (by omega)] at h1 ⊢
          exact h1
    refine ⟨fun h0 => ?_, fun i hi => ?_⟩
    · -- the least one that is not listed may come up
      exfalso
      have key : ∀ i, i < ops.size → L.getD i true = true := by
        intro i
        induction i using Nat.strongRecOn with
        | _ i ihi =>
          intro hi
          cases hLi : L.getD i true with
          | true => rfl
          | false =>
            have : i ∈ Region.ready .any ops L := (hready i).2 ⟨ops[i], by simp [hi], hLi, fun j hj => by
              have hj' := hdep i ops[i] (by simp [hi]) j hj
              exact ihi j hj' (by omega)⟩
            rw [h0] at this; cases this
      rw [key _ hlt] at hlast; cases hlast
    · obtain ⟨o, ho, hn, hd⟩ := (hready i).1 hi
      have hil : i < ops.size := (Array.getElem?_eq_some_iff.1 ho).1
      have hstep := hs i o (by simpa using ho)
      simp only [Array.length_toList, Nat.zero_add] at hstep
      by_cases hlst : i + 1 = ops.size
      · rw [if_pos hlst] at hstep
        obtain rfl : i = ops.size - 1 := by omega
        have hall : ∀ m j, ops.size - 1 - j = m → j < ops.size - 1 → L.getD j true = true := by
          intro m
          induction m using Nat.strongRecOn with
          | _ m ihm =>
            intro j hjm hj
            obtain ⟨k, p, hk, hjk, hmem⟩ := hnext j hj
            have hkl : k < ops.size := (Array.getElem?_eq_some_iff.1 hk).1
            by_cases hkl' : k = ops.size - 1
            · subst hkl'
              rw [ho] at hk; cases hk
              exact hd j hmem
            · exact hcl k p hk (ihm (ops.size - 1 - k) (by omega) k rfl (by omega)) j hmem
        refine wpOp_step ho fun K hK => hstep (fun j => L.getD j true) x w hn (fun j hj => hall _ j rfl hj) hw (fun j hj => hR j (by omega) (hall _ j rfl hj)) K fun a' w' hq => hK _ _ ?_
        refine wpAny_done ?_ hq _
        unfold Region.ready
        rw [List.filter_eq_nil_iff]
        intro j hj
        simp only [List.mem_range] at hj
        rw [getD_set]
        by_cases e : j = ops.size - 1
        · simp [e]
        · simp [e, hall _ j rfl (by omega)]
      · rw [if_neg hlst] at hstep
        refine wpOp_step ho fun K hK => hstep (fun j => L.getD j true) x w hn hcl hw (fun j hj => hR j (by have := hdep i o ho j hj; omega) (hd j hj)) K fun v w' tm htm hv hw' hle => hK _ _ ?_
        subst htm
        have hcnt := count_set L i hn
        refine ih _ _ _ (by simpa using hsz) (by omega) ?_ ?_ (by rw [show (fun j => (L.setIfInBounds i true).getD j true) = fun j => if j = i then true else L.getD j true from funext fun j => getD_set L i j]; exact hw') ?_
        · rw [getD_set, if_neg (by omega)]; exact hlast
        · intro k p hk hk2 j hj
          rw [getD_set] at hk2 ⊢
          split
          · rfl
          · by_cases e : k = i
            · subst e
              rw [ho] at hk; cases hk
              exact hd j hj
            · rw [if_neg e] at hk2
              exact hcl k p hk hk2 j hj
        · intro j hj hlj
          rw [getD_set] at hlj
          unfold upd
          by_cases e : j = i
          · subst e; rw [if_pos rfl]; exact hv
          · rw [if_neg e] at hlj ⊢
            exact hLe i j (fun j => L.getD j true) _ _ _ (fun h => e h.symm) hcl hn hlj hle (hR j hj hlj)

/-- THE REGION, whatever the order -/
theorem wp_region_by {id : Nat} {a : Act} {w : World} (hm : P.follows .mixedOrders = true) (T : (Nat → Value) → Array Value) (R : Nat → Value → World → Prop) (WI : (Nat → Bool) → World → Prop) (Le : Nat → World → World → Prop)
    (hok : goodOrder ops = true) (hn : 0 < ops.size) (hLe : ∀ i j L v w w', i ≠ j → Closed ops L → L i = false → L j = true → Le i w w' → R j v w → R j v w') (x : Nat → Value) (ha : a = { tmps := T x, defers := a.defers }) (hw : ∀ L, (∀ j, j < ops.size → L j = false) → WI L w.drew)
    (hs : StepsFrom P ops Q T a.defers R WI Le 0 ops.toList) : (Code.region id ops true).wp P Q a w := by
  refine wp_region_any hm ?_
  rw [ha]
  refine wpAny_by hok hLe hs ops.size _ x _ (by simp) (by simp) (by simp [Array.getD]; omega) (fun k o hk h => ?_) (hw _ fun j hj => by simp [Array.getD, hj]) (fun j hj h => ?_)
  · have hkl : k < ops.size := (Array.getElem?_eq_some_iff.1 hk).1
    simp [Array.getD, hkl] at h
  · simp [Array.getD, hj] at h

/-! ### In a round -/
theorem opIn_of {F : Fence} {n : Nat} {o : Oper} {a : Act} {w : World} {K : Act → World → Prop} (hF : F = Fence.wide ∨ ∃ l, F = Fence.wide.inRound l) (hd : ∀ c, o.op ≠ .defer c) (h : o.wp P a w K Q) : o.wpIn F n P a w K Q := by
  have hsem : o.semAt F.round a.eval = execOp a.eval o := Oper.semAt_eq _ _ _ hd
  have hfn : ∀ f, F.fn f := by rcases hF with rfl | ⟨l, rfl⟩ <;> exact fun _ => trivial
  have hdp : F.depth.isSome = true → 1 ≤ n := by rcases hF with rfl | ⟨l, rfl⟩ <;> (intro hh; cases hh)
  refine ⟨fun f _ => hfn f, ?_⟩
  rw [hsem]
  unfold Oper.wp at h
  generalize (execOp a.eval o).run P w = r at h
  have hcalls : ∀ f args w' R, Calls P f args w' R → CallsIn F (n - 1) P f args w' R := fun f args w' R hc => by
    rcases hF with rfl | ⟨l, rfl⟩
    · exact callsIn_wide.2 hc
    · exact CallsIn.inRound l (callsIn_wide.2 hc)
  cases r with
  | ok x w' =>
    cases x with
    | value v => exact h
    | skip => exact h
    | defer _ => exact h
    | enter f args => exact ⟨hdp, hcalls _ _ _ _ h⟩
    | row row args =>
      refine ⟨hdp, fun c cs _ => ?_⟩
      obtain ⟨v, w'', r, s⟩ := h c cs
      refine ⟨v, w'', r, ?_⟩
      rcases hF with rfl | ⟨l, rfl⟩
      · exact stepsIn_wide.2 s
      · exact stepsIn_wide.2 s
    | _ => exact h.elim
  | halt x w' => cases x <;> exact h

theorem wpAnyIn_of {F : Fence} {n : Nat} (hF : F = Fence.wide ∨ ∃ l, F = Fence.wide.inRound l) (hd : ∀ (i : Nat) (o : Oper), ops[i]? = some o → ∀ c, o.op ≠ .defer c) (hQ : ¬ LetsOut Q) :
    ∀ (fuel : Nat) (L : Array Bool) (a : Act) (w : World), wpAny P .any ops Q fuel L a w → wpAnyIn F n P .any ops Q fuel L a w := by
  have hfn : ∀ f, F.fn f := by rcases hF with rfl | ⟨l, rfl⟩ <;> exact fun _ => trivial
  intro fuel
  induction fuel with
  | zero => exact fun L a w h => h
  | succ fuel ih =>
    intro L a w h
    refine ⟨h.1, fun i hi => ?_⟩
    have hop := h.2 i hi
    unfold wpOpIn
    unfold wpOp at hop
    cases ho : ops[i]? with
    | none => simp only [ho] at hop ⊢; exact ih _ _ _ hop
    | some o =>
      simp only [ho] at hop ⊢
      split
      · rename_i hw
        rw [if_pos hw] at hop
        rcases hop with hop | ⟨_, hl⟩
        · exact opIn_of hF (hd i o ho) (Oper.wp_mono (fun a w h => ih _ a w h) hop)
        · exact absurd hl hQ
      · rename_i hw
        rw [if_neg hw] at hop
        exact ⟨fun f _ => hfn f, ih _ _ _ hop⟩

/-- THE REGION, whatever the order, in a round too -/
theorem wpIn_region_by {F : Fence} {n : Nat} {id : Nat} {a : Act} {w : World} (hF : F = Fence.wide ∨ ∃ l, F = Fence.wide.inRound l) (hd : (ops.all fun (o : Oper) => match o.op with | .defer _ => false | _ => true) = true) (hQ : ¬ LetsOut Q)
    (hm : P.follows .mixedOrders = true) (T : (Nat → Value) → Array Value) (R : Nat → Value → World → Prop) (WI : (Nat → Bool) → World → Prop) (Le : Nat → World → World → Prop)
    (hok : goodOrder ops = true) (hn : 0 < ops.size) (hLe : ∀ i j L v w w', i ≠ j → Closed ops L → L i = false → L j = true → Le i w w' → R j v w → R j v w') (x : Nat → Value) (ha : a = { tmps := T x, defers := a.defers }) (hw : ∀ L, (∀ j, j < ops.size → L j = false) → WI L w.drew)
    (hs : StepsFrom P ops Q T a.defers R WI Le 0 ops.toList) : (Code.region id ops true).wpIn F n P Q a w := by
  refine wpIn_region_any hm (wpAnyIn_of hF (fun i o ho c e => ?_) hQ _ _ _ _ ?_)
  · rw [Array.all_eq_true] at hd
    obtain ⟨hi, rfl⟩ := Array.getElem?_eq_some_iff.1 ho
    have := hd i hi
    rw [e] at this
    cases this
  · rw [ha]
    refine wpAny_by hok hLe hs ops.size _ x _ (by simp) (by simp) (by simp [Array.getD]; omega) (fun k o hk h => ?_) (hw _ fun j hj => by simp [Array.getD, hj]) (fun j hj h => ?_)
    · have hkl : k < ops.size := (Array.getElem?_eq_some_iff.1 hk).1
      simp [Array.getD, hkl] at h
    · simp [Array.getD, hj] at h
end
end Go.Proofs.YtikkfapgmbamlaaGreatDoor.Ut
end
section
/- Drawn regions with neither the frame nor the operations' values written out: both are found as the walk goes. -/
namespace Go.Proofs.YtikkfapgmbamlaaGreatDoor.Ut
open Go.RowKit

def nth : List Value → Nat → Value
  | [], _ => undef
  | v :: _, 0 => v
  | _ :: l, n + 1 => nth l n
theorem hd_nth' : ∀ {vals : List Value} {j : Nat} {v u : Value}, v = nth vals j → vals[j]? = some u → v = u
  | [], j, _, _, _, hu => by simp at hu
  | a :: l, 0, _, _, h, hu => by
    simp at hu
    rw [h, ← hu]
    rfl
  | a :: l, j + 1, _, _, h, hu => hd_nth' (vals := l) (j := j) h (by simpa using hu)

def RV (vals : List Value) : Nat → Value → World → Prop := fun j v _ => v = nth vals j
theorem hd_nth {vals : List Value} {j : Nat} {v u : Value} {w : World} (h : RV vals j v w) (hu : vals[j]? = some u) : v = u := hd_nth' h hu
/-- the frame F with y k, y (k + 1), .. in the slots -/
def setAll (F : Array Value) : List Nat → Nat → (Nat → Value) → Array Value
  | [], _, _ => F
  | s :: l, k, y => setAll (F.setIfInBounds s (y k)) l (k + 1) y
theorem set_self (F : Array Value) (s : Nat) : F.setIfInBounds s (F.getD s undef) = F := by
  obtain ⟨l⟩ := F
  by_cases h : s < l.length
  · simp [Array.getD, h]
  · simp only [List.setIfInBounds_toArray]
    rw [List.set_eq_of_length_le (by omega)]
theorem setAll_self (F : Array Value) : ∀ (l : List Nat) (k : Nat) (y : Nat → Value), (∀ j s, l[j]? = some s → y (k + j) = F.getD s undef) → setAll F l k y = F
  | [], _, _, _ => rfl
  | s :: l, k, y, h => by
    have h0 := h 0 s rfl
    rw [Nat.add_zero] at h0
    unfold setAll
    rw [h0, set_self]
    exact setAll_self F l (k + 1) y fun j s hj => by
      have := h (j + 1) s (by simpa using hj)
      rwa [show k + 1 + j = k + (j + 1) by omega]

section
variable {P : Program} {ops : Array Oper} {Q : Exit → Act → World → Prop} {T : (Nat → Value) → Array Value} {d : List Deferred} {WI : World → Prop} {vals : List Value}

/-- what the operations from number k on are asked, by values alone -/
def AutoFrom (P : Program) (ops : Array Oper) (Q : Exit → Act → World → Prop) (T : (Nat → Value) → Array Value) (d : List Deferred) (vals : List Value) (WI : World → Prop) (k : Nat) (l : List Oper) : Prop :=
  StepsFrom P ops Q T d (RV vals) (fun _ W => WI W) (fun _ _ _ => True) k l

theorem auto_op {k : Nat} {o o' : Oper} {l : List Oper} (s : Nat) (ds : List Nat) (hd : depsOf o = ds)
    (h : ∀ (x : Nat → Value) (w : World), WI w → (∀ j ∈ ds, RV vals j (x j) w) → ∀ K : Act → World → Prop, (∀ tm w', tm = T (upd x k (tm.getD s undef)) → tm.getD s undef = nth vals k → WI w' → K { tmps := tm, defers := d } w') →
      if Region.wanted o (yielded ops (T x)) = true then Oper.wp P o { tmps := T x, defers := d } w K Q else K (Act.put { tmps := T x, defers := d } o.dst undef) w)
    (hs : AutoFrom P ops Q T d vals WI (k + 1) (o' :: l)) : AutoFrom P ops Q T d vals WI k (o :: o' :: l) := by
  refine steps_op ds hd (fun L x w _ _ hw hR K hK => h x w hw hR K fun tm w' ht hv hw' => ?_) hs
  exact hK _ w' tm ht hv hw' trivial
theorem auto_last {k : Nat} {o : Oper}
    (h : ∀ (x : Nat → Value) (w : World), WI w → (∀ j, j < k → RV vals j (x j) w) → ∀ K : Act → World → Prop, (∀ a' w', Q .normal a' w' → K a' w') →
      if Region.wanted o (yielded ops (T x)) = true then Oper.wp P o { tmps := T x, defers := d } w K Q else K (Act.put { tmps := T x, defers := d } o.dst undef) w) : AutoFrom P ops Q T d vals WI k [o] :=
  steps_last fun _ x w _ _ hw hR K hK => h x w hw hR K hK

/-- THE REGION: apply it; T and the values come by unification -/
theorem wp_region_auto {id : Nat} {a : Act} {w : World} (slots : List Nat) (vals : List Value) (WI : World → Prop) (hm : P.follows .mixedOrders = true) (hT : ∀ y, setAll a.tmps slots 0 y = T y) (hok : goodOrder ops = true) (hn : 0 < ops.size) (hw : WI w.drew)
    (hs : AutoFrom P ops Q T a.defers vals WI 0 ops.toList) : (Code.region id ops true).wp P Q a w := by
  refine wp_region_by hm T (RV vals) (fun _ W => WI W) (fun _ _ _ => True) hok hn (fun _ _ _ _ _ _ _ _ _ _ _ h => h) (fun j => a.tmps.getD (slots.getD j 0) undef) ?_ (fun _ _ => hw) hs
  rw [← hT, setAll_self]
  intro j s hj
  simp [List.getD, hj]
end
end Go.Proofs.YtikkfapgmbamlaaGreatDoor.Ut
end
section
/- Rows of records that the call owns, and drawn regions in which one record is appended to such a row. Serves all packages. -/
namespace Go.Proofs.YtikkfapgmbamlaaGreatDoor.Ut
open Go.RowKit
set_option linter.unusedVariables false

def encI (x : List Int) : List Value := x.map (Value.int .i64)
def encR (xs : List (List Int)) : List Value := (xs.map encI).flatten
theorem encR_snoc (xs : List (List Int)) (y : List Int) : encR (xs ++ [y]) = encR xs ++ encI y := by simp [encR]
theorem encR_one (xs : List (List Int)) : ∀ u ∈ encR xs, u.oneCell' = true := fun u hu => by
  obtain ⟨l, hl, hu⟩ := List.mem_flatten.1 hu
  obtain ⟨x, _, rfl⟩ := List.mem_map.1 hl
  obtain ⟨z, _, rfl⟩ := List.mem_map.1 hu
  rfl
/-- what the call owns, as a list of records of k integers -/
def OwnT (k : Nat) (w : World) (B : Nat) (e : TypeId) (v : Value) (xs : List (List Int)) : Prop := w.ownsRow B e k v xs.length (encR xs) ∧ ∀ x ∈ xs, x.length = k
theorem OwnT.nil (k : Nat) (w : World) (B : Nat) (e : TypeId) : OwnT k w B e (.slice none 0 0) [] := ⟨World.ownsRow_nil _ _ _ _, fun x h => by cases h⟩
theorem ownsRow_belowK {w w' : World} {B n k : Nat} {e : TypeId} {v : Value} {xs : List Value} (h : w.ownsRow B e k v n xs) (hb : Below w.heap.size w w') : w'.ownsRow B e k v n xs := by
  refine ⟨h.1, ?_⟩
  rcases h.2 with h0 | ⟨g, cap, cur, rfl, hB, hg', r⟩
  · exact .inl h0
  · exact .inr ⟨g, cap, cur, rfl, hB, (hb.block g (Array.getElem?_eq_some_iff.1 hg').1).trans hg', r⟩
theorem OwnT.below {k : Nat} {w w' : World} {B : Nat} {e : TypeId} {v : Value} {xs : List (List Int)} (h : OwnT k w B e v xs) (hb : Below w.heap.size w w') : OwnT k w' B e v xs := ⟨ownsRow_belowK h.1 hb, h.2⟩
theorem OwnT.alloc {k : Nat} {w : World} {B : Nat} {e : TypeId} {v : Value} {xs : List (List Int)} (h : OwnT k w B e v xs) (o : Obj) : OwnT k (w.alloc o) B e v xs := ⟨World.ownsRow.alloc h.1 o, h.2⟩
/-- it stays while another block grows -/
theorem ownsRow_other {w w' : World} {B n k : Nat} {e : TypeId} {v : Value} {xs : List Value} {row : Option Nat} (h : w.ownsRow B e k v n xs) (hg : w.grownBy w' row) (hr : ∀ q cs e' f, row = some q → w.heap[q]? = some (.cells cs e' f) → e' ≠ e) : w'.ownsRow B e k v n xs := by
  refine ⟨h.1, ?_⟩
  rcases h.2 with h0 | ⟨g, cap, cur, rfl, hB, hg', r⟩
  · exact .inl h0
  · refine .inr ⟨g, cap, cur, rfl, hB, ?_, r⟩
    rw [hg.block g (Array.getElem?_eq_some_iff.1 hg').1 (fun e => hr g _ _ _ e.symm hg' rfl)]
    exact hg'
/-- its own block's tag -/
theorem own_tag {w : World} {B n k : Nat} {e : TypeId} {v : Value} {xs : List Value} (h : w.ownsRow B e k v n xs) : ∀ q cs e' f, v.ownBlock = some q → w.heap[q]? = some (.cells cs e' f) → e' = e := by
  intro q cs e' f hq hc
  rcases h.2 with ⟨rfl, _⟩ | ⟨g, cap, cur, rfl, hB, hg', r⟩
  · simp [Value.ownBlock] at hq
  · simp [Value.ownBlock] at hq
    subst hq
    rw [hg'] at hc
    injection hc with hc
    injection hc with _ h2
    exact h2.symm
/-- one record more -/
theorem step_append_rec {P : Program} {w : World} {ops : Array Oper} {o : Oper} {a : Act} {K : Act → World → Prop} {Q : Exit → Act → World → Prop} {E : Prop} (hgd : o.guard = none) (s x : Operand) (t : TypeId)
    (ho : o.op = .call { callee := .builtin .append, args := #[s, x], argTypes := #[t, t] })
    (k base : Nat) (e : TypeId) (i : TypeInfo) (z : Value) (bytes : Nat) (ht : P.underlying t = some (.slice e)) (hi : P.info? e = some i) (hz : i.zero = some z) (hs : i.size = k) (hb : i.bytes = bytes) (hzs : z.cells.size = k) (hk : 0 < k)
    (v : Value) (xs : List (List Int)) (hv : a.eval s = v) (hown : OwnT k w base e v xs) (ad : Addr) (c : Nat) (y : List Int) (hx : a.eval x = .slice (some ad) 1 c) (hy : y.length = k)
    (hc : ∀ j u, (encI y)[j]? = some u → w.cell? (ad.add j) = some u) (h63 : xs.length + 1 ≤ 1099511627776) (hbytes : bytes ≤ 64) (hbase : base ≤ w.heap.size)
    (h : ∀ v' w', Hid (OwnT k w' base e v' (xs ++ [y])) → Hid (w.grownBy w' v.ownBlock) → K (a.put o.dst v') w') :
    if Region.wanted o (yielded ops a.tmps) = true then Oper.wp P o a w K Q else E := by
  have hw : Region.wanted o (yielded ops a.tmps) = true := by simp [Region.wanted, hgd]
  rw [if_pos hw]
  have hby : (xs.length + 1) * bytes ≤ 140737488355328 := Nat.le_trans (Nat.mul_le_mul h63 hbytes) (by omega)
  obtain ⟨v', w', hrun, h2, h3, _, _⟩ := run_append_own_at (P := P) w base t o.type e i z k bytes ht hi hz hs hb hzs hk v xs.length _ hown.1 ad 1 c (encI y) (by simp [encI, hy]) hc
    (fun u hu => by obtain ⟨z, _, rfl⟩ := List.mem_map.1 hu; rfl) (by unfold maxLen; omega) hby hbase
  unfold Oper.wp execOp
  simp only [ho, resolve, invoke, builtin, Sem.run_bind, Sem.run_pure, Result.andThen_ok, List.map_toArray, List.map_cons, List.map_nil, hv, hx, hrun]
  refine h v' w' (Lib.hid ⟨?_, fun q hq => ?_⟩) (Lib.hid h3)
  · rw [encR_snoc, List.length_append]; exact h2
  · rcases List.mem_append.1 hq with hq | hq
    · exact hown.2 q hq
    · simp at hq; rw [hq]; exact hy

theorem cells_new (w : World) (l : List Value) (t : TypeId) (j : Nat) (u : Value) (h : l[j]? = some u) : (w.alloc (.cells l.toArray t)).cell? ((⟨w.heap.size, 0, none⟩ : Addr).add j) = some u := by
  rw [add_plain]
  unfold World.cell?
  simp only [heap_alloc_new]
  simpa using h
theorem box_cell {w : World} {b : Nat} {cs : List Value} {t : TypeId} (h : w.heap[b]? = some (.cells cs.toArray t (0, 0))) (i : Nat) (u : Value) (hi : cs[i]? = some u) : w.cell? ⟨b, i, none⟩ = some u ∧ w.frozen? ⟨b, i, none⟩ = false := by
  constructor
  · simp [World.cell?, h, hi]
  · simp [World.frozen?, h]
theorem tag_ne {w : World} {B n k : Nat} {e e2 : TypeId} {v : Value} {xs : List Value} (h : w.ownsRow B e k v n xs) (hne : e ≠ e2) : ∀ (q : Nat) (cs : Array Value) (e' : TypeId) (f : Nat × Nat), v.ownBlock = some q → w.heap[q]? = some (.cells cs e' f) → e' ≠ e2 := fun q cs e' f h1 h2 h3 => hne ((own_tag h q cs e' f h1 h2).symm.trans h3)
theorem box_kept {w w' : World} {b : Nat} {o : Obj} {row : Option Nat} (h : w.heap[b]? = some o) (hg : w.grownBy w' row) (hr : row ≠ some b) : w'.heap[b]? = some o := (hg.block b (Array.getElem?_eq_some_iff.1 h).1 hr.symm).trans h
theorem own_ne_box {w : World} {B n k b : Nat} {e e2 : TypeId} {v : Value} {xs : List Value} {cs : Array Value} {f : Nat × Nat} (h : w.ownsRow B e k v n xs) (hb : w.heap[b]? = some (.cells cs e2 f)) (hne : e ≠ e2) : v.ownBlock ≠ some b := fun hq => hne (own_tag h b cs e2 f hq hb).symm

theorem OwnT.form {k : Nat} {w : World} {B : Nat} {e : TypeId} {v : Value} {xs : List (List Int)} {y : List Int} (h : OwnT k w B e v (xs ++ [y])) : ∃ g cap, v = .slice (some ⟨g, 0, none⟩) (xs.length + 1) cap := by
  rcases h.1.2 with ⟨_, h0⟩ | ⟨g, cap, cur, hv, _⟩
  · simp at h0
  · exact ⟨g, cap, by rw [hv]; simp⟩


/-- every block with another tag than e is as it was -/
def Kept (e : TypeId) (w w' : World) : Prop := w.heap.size ≤ w'.heap.size ∧ ∀ (g : Nat) (cs : Array Value) (e' : TypeId) (f : Nat × Nat), e' ≠ e → w.heap[g]? = some (Obj.cells cs e' f) → w'.heap[g]? = some (Obj.cells cs e' f)
theorem Kept.refl (e : TypeId) (w : World) : Kept e w w := ⟨Nat.le_refl _, fun _ _ _ _ _ h => h⟩
theorem Kept.of_below {e : TypeId} {w w' : World} (h : Below w.heap.size w w') : Kept e w w' := ⟨h.size, fun g cs e' f _ hc => (h.block g (Array.getElem?_eq_some_iff.1 hc).1).trans hc⟩
theorem Kept.trans {e : TypeId} {a b c : World} (h : Kept e a b) (k : Kept e b c) : Kept e a c := ⟨Nat.le_trans h.1 k.1, fun g cs e' f he hc => k.2 g cs e' f he (h.2 g cs e' f he hc)⟩
theorem Kept.grown {e : TypeId} {w w' : World} {row : Option Nat} (hg : w.grownBy w' row) (hr : ∀ (q : Nat) (cs : Array Value) (e' : TypeId) (f : Nat × Nat), row = some q → w.heap[q]? = some (Obj.cells cs e' f) → e' = e) : Kept e w w' :=
  ⟨hg.size, fun g cs e' f he hc => (hg.block g (Array.getElem?_eq_some_iff.1 hc).1 (fun h => he (hr g cs e' f h.symm hc))).trans hc⟩
theorem Kept.own {e e2 : TypeId} {w w' : World} {B n k : Nat} {v : Value} {xs : List Value} (h : w.ownsRow B e2 k v n xs) (hk : Kept e w w') (hne : e2 ≠ e) : w'.ownsRow B e2 k v n xs := by
  refine ⟨h.1, ?_⟩
  rcases h.2 with h0 | ⟨g, cap, cur, rfl, hB, hg', r⟩
  · exact .inl h0
  · exact .inr ⟨g, cap, cur, rfl, hB, hk.2 _ _ _ _ hne hg', r⟩
theorem Kept.ownT {e e2 : TypeId} {w w' : World} {B k : Nat} {v : Value} {xs : List (List Int)} (h : OwnT k w B e2 v xs) (hk : Kept e w w') (hne : e2 ≠ e) : OwnT k w' B e2 v xs := ⟨Kept.own h.1 hk hne, h.2⟩
theorem Kept.drew {e : TypeId} {w w' : World} (h : Kept e w w') : Kept e w w'.drew := h

section
variable {P : Program} {ops : Array Oper} {Q : Exit → Act → World → Prop} {T : (Nat → Value) → Array Value} {d : List Deferred}
/-- what the region is about: block base, tag, cells a record, the row ahead of it, the record; the world at its beginning -/
structure AppOf where
  W : World
  B : Nat
  e : TypeId
  k : Nat
  v : Value
  xs : List (List Int)
  y : List Int
/-- what each operation yields: number a is the append, the one ahead of it makes the record's own slice -/
def AppR (X : AppOf) (vals : List Value) (a : Nat) (j : Nat) (v : Value) (w : World) : Prop :=
  if j = a then OwnT X.k w X.B X.e v (X.xs ++ [X.y])
  else if j + 1 = a then ∃ g, v = .slice (some ⟨g, 0, none⟩) 1 1 ∧ X.W.heap.size ≤ g ∧ g < w.heap.size ∧ ∀ j u, (encI X.y)[j]? = some u → w.cell? ((⟨g, 0, none⟩ : Addr).add j) = some u
  else v = nth vals j
def AppW (X : AppOf) (p : Bool) (w : World) : Prop := Below X.B X.W w ∧ Kept X.e X.W w ∧ (p = false → OwnT X.k w X.B X.e X.v X.xs)
def AppL (X : AppOf) (a : Nat) (i : Nat) (w w' : World) : Prop := if i = a then w.grownBy w' X.v.ownBlock else Below w.heap.size w w'
def AppFrom (X : AppOf) (a : Nat) (P : Program) (ops : Array Oper) (Q : Exit → Act → World → Prop) (T : (Nat → Value) → Array Value) (d : List Deferred) (vals : List Value) (k : Nat) (l : List Oper) : Prop :=
  StepsFrom P ops Q T d (AppR X vals a) (fun L w => AppW X (L a) w) (AppL X a) k l
variable {X : AppOf} {vals : List Value} {a : Nat}
theorem appR_nth {j : Nat} {v u : Value} {w : World} (h : AppR X vals a j v w) (ha : j ≠ a) (hb : j + 1 ≠ a) (hu : vals[j]? = some u) : v = u := by
  unfold AppR at h
  rw [if_neg ha, if_neg hb] at h
  exact hd_nth' h hu
/-- an operation that leaves the world as it is -/
theorem app_op {k : Nat} {o o' : Oper} {l : List Oper} (s : Nat) (ds : List Nat) (hd : depsOf o = ds) (ka : k ≠ a) (kb : k + 1 ≠ a)
    (h : ∀ (p : Bool) (x : Nat → Value) (w : World), AppW X p w → (∀ j ∈ ds, AppR X vals a j (x j) w) → ∀ K : Act → World → Prop, (∀ tm, tm = T (upd x k (tm.getD s undef)) → tm.getD s undef = nth vals k → K { tmps := tm, defers := d } w) →
      if Region.wanted o (yielded ops (T x)) = true then Oper.wp P o { tmps := T x, defers := d } w K Q else K (Act.put { tmps := T x, defers := d } o.dst undef) w)
    (hs : AppFrom X a P ops Q T d vals (k + 1) (o' :: l)) : AppFrom X a P ops Q T d vals k (o :: o' :: l) := by
  refine steps_op ds hd (fun L x w hL _ hw hR K hK => h (L a) x w hw hR K fun tm ht hv => ?_) hs
  refine hK (tm.getD s undef) w tm ht ?_ ?_ ?_
  · unfold AppR; rw [if_neg ka, if_neg kb]; exact hv
  · show AppW X (if a = k then true else L a) w
    rw [if_neg (Ne.symm ka)]; exact hw
  · unfold AppL; rw [if_neg ka]; exact Below.refl _ _
/-- the record's own slice is made -/
theorem app_build {k : Nat} {o o' : Oper} {l : List Oper} (s : Nat) (ds : List Nat) (hd : depsOf o = ds) (ka : k + 1 = a) (obj : Obj) (ty : TypeId) (hobj : obj = .cells (encI X.y).toArray ty (0, 0)) (hBW : X.B ≤ X.W.heap.size)
    (h : ∀ (p : Bool) (x : Nat → Value) (w : World), AppW X p w → (∀ j ∈ ds, AppR X vals a j (x j) w) → ∀ K : Act → World → Prop, (∀ tm, tm = T (upd x k (tm.getD s undef)) → tm.getD s undef = .slice (some ⟨w.heap.size, 0, none⟩) 1 1 → K { tmps := tm, defers := d } (w.alloc obj)) →
      if Region.wanted o (yielded ops (T x)) = true then Oper.wp P o { tmps := T x, defers := d } w K Q else K (Act.put { tmps := T x, defers := d } o.dst undef) w)
    (hs : AppFrom X a P ops Q T d vals (k + 1) (o' :: l)) : AppFrom X a P ops Q T d vals k (o :: o' :: l) := by
  refine steps_op ds hd (fun L x w hL _ hw hR K hK => h (L a) x w hw hR K fun tm ht hv => ?_) hs
  have hne : k ≠ a := by omega
  refine hK (tm.getD s undef) _ tm ht ?_ ?_ ?_
  · unfold AppR; rw [if_neg hne, if_pos ka]
    subst hobj
    exact ⟨_, hv, hw.1.size, by simp, fun j u hj => cells_new w _ _ j u hj⟩
  · show AppW X (if a = k then true else L a) (w.alloc obj)
    rw [if_neg (Ne.symm hne)]
    refine ⟨hw.1.alloc (Nat.le_trans hBW hw.1.size) _, hw.2.1.trans (Kept.of_below ((Below.refl _ _).alloc (Nat.le_refl _) _)), fun hp => (hw.2.2 hp).alloc _⟩
  · unfold AppL; rw [if_neg hne]; exact (Below.refl _ _).alloc (Nat.le_refl _) _
/-- the append -/
theorem app_append {o o' : Oper} {l : List Oper} (ss sx : Nat) (t : TypeId) (i : TypeInfo) (z : Value) (bytes js jx : Nat) (hd : depsOf o = [js, jx]) (hgd : o.guard = none)
    (ho : o.op = .call { callee := .builtin .append, args := #[.tmp ss, .tmp sx], argTypes := #[t, t] })
    (ht : P.underlying t = some (.slice X.e)) (hi : P.info? X.e = some i) (hz : i.zero = some z) (hs : i.size = X.k) (hb : i.bytes = bytes) (hzs : z.cells.size = X.k) (hk : 0 < X.k) (hy : X.y.length = X.k)
    (ejs : js ≠ a ∧ js + 1 ≠ a) (ejx : jx + 1 = a) (hv : vals[js]? = some X.v) (hT1 : ∀ x, (T x).getD ss undef = x js) (hT2 : ∀ x, (T x).getD sx undef = x jx) (hT3 : ∀ x v, Act.put { tmps := T x, defers := d } o.dst v = { tmps := T (upd x a v), defers := d })
    (h63 : X.xs.length + 1 ≤ 1099511627776) (hbytes : bytes ≤ 64) (hBW : X.B ≤ X.W.heap.size) (hlt : ∀ q, X.v.ownBlock = some q → X.B ≤ q ∧ q < X.W.heap.size)
    (hs' : AppFrom X a P ops Q T d vals (a + 1) (o' :: l)) : AppFrom X a P ops Q T d vals a (o :: o' :: l) := by
  refine steps_op [js, jx] hd (fun L x w hL _ hw hR K hK => ?_) hs'
  have e1 := appR_nth (hR js (by simp)) ejs.1 ejs.2 hv
  have e2 := hR jx (by simp)
  unfold AppR at e2
  rw [if_neg (by omega), if_pos ejx] at e2
  obtain ⟨g, eg, hgW, hgw, hgc⟩ := e2
  have hBw := Nat.le_trans hBW hw.1.size
  have hown := hw.2.2 hL
  refine step_append_rec (a := { tmps := T x, defers := d }) hgd (.tmp ss) (.tmp sx) t ho X.k X.B X.e i z bytes ht hi hz hs hb hzs hk X.v X.xs (by show (T x).getD ss undef = _; rw [hT1 x]; exact e1) hown ⟨g, 0, none⟩ 1 X.y (by show (T x).getD sx undef = _; rw [hT2 x]; exact eg) hy hgc h63 hbytes hBw fun v' w' h1 h2 => ?_
  rw [hT3]
  refine hK v' w' _ rfl ?_ ?_ ?_
  · unfold AppR; rw [if_pos rfl]; exact h1.out
  · show AppW X (if a = a then true else L a) w'
    rw [if_pos rfl]
    refine ⟨hw.1.grown h2.out hBw fun q hq => (hlt q hq).1, hw.2.1.trans (Kept.grown h2.out fun q cs e' f hq hc => own_tag hown.1 q cs e' f hq hc), fun hp => by cases hp⟩
  · unfold AppL; rw [if_pos rfl]; exact h2.out
theorem app_last {k : Nat} {o : Oper}
    (h : ∀ (x : Nat → Value) (w : World), AppW X true w → (∀ j, j < k → AppR X vals a j (x j) w) → ∀ K : Act → World → Prop, (∀ a' w', Q .normal a' w' → K a' w') →
      if Region.wanted o (yielded ops (T x)) = true then Oper.wp P o { tmps := T x, defers := d } w K Q else K (Act.put { tmps := T x, defers := d } o.dst undef) w) (ha : a < k) : AppFrom X a P ops Q T d vals k [o] :=
  steps_last fun L x w _ hall hw hR K hK => h x w (by rw [hall a ha] at hw; exact hw) hR K hK

/-- THE REGION: apply it; T and the values come by unification -/
theorem wp_region_app {id : Nat} {act : Act} {w : World} (slots : List Nat) (vals : List Value) (X : AppOf) (a : Nat) (hXW : X.W = w) (hBW : X.B ≤ X.W.heap.size) (hown : OwnT X.k w X.B X.e X.v X.xs) (hm : P.follows .mixedOrders = true) (hT : ∀ y, setAll act.tmps slots 0 y = T y) (hok : goodOrder ops = true) (hn : 0 < ops.size)
    (hs : AppFrom X a P ops Q T act.defers vals 0 ops.toList) : (Code.region id ops true).wp P Q act w := by
  subst hXW
  refine wp_region_by hm T (AppR X vals a) (fun L w => AppW X (L a) w) (AppL X a) hok hn ?_ (fun j => act.tmps.getD (slots.getD j 0) undef) ?_ (fun _ _ => ⟨(Below.refl _ _).drew, Kept.refl _ _, fun _ => hown⟩) hs
  · intro i j L v w w' hij _ _ _ hle hR
    unfold AppL at hle
    unfold AppR at hR ⊢
    by_cases hi : i = a
    · rw [if_pos hi] at hle
      rw [if_neg (by omega)] at hR ⊢
      split at hR
      · rename_i hj
        obtain ⟨g, e1, e2, e3, e4⟩ := hR
        rw [if_pos hj]
        refine ⟨g, e1, e2, Nat.lt_of_lt_of_le e3 hle.size, fun j u hu => ?_⟩
        rw [← e4 j u hu, add_plain]
        have hb := hle.block g e3 (fun h => by have := (World.ownsRow.lt hown.1 g h.symm).2; omega)
        simp only [World.cell?, hb]
      · rename_i hj
        rw [if_neg hj]; exact hR
    · rw [if_neg hi] at hle
      split at hR
      · rename_i hj
        rw [if_pos hj]; exact hR.below hle
      · rename_i hj
        rw [if_neg hj]
        split at hR
        · rename_i hj2
          rw [if_pos hj2]
          obtain ⟨g, e1, e2, e3, e4⟩ := hR
          exact ⟨g, e1, e2, Nat.lt_of_lt_of_le e3 hle.size, fun j u hu => (hle.cell (p := (⟨g, 0, none⟩ : Addr).add j) (by rw [add_plain]; exact e3)).trans (e4 j u hu)⟩
        · rename_i hj2
          rw [if_neg hj2]; exact hR
  · rw [← hT, setAll_self]
    intro j s hj
    simp [List.getD, hj]
end
end Go.Proofs.YtikkfapgmbamlaaGreatDoor.Ut
end
section
/- Contracts of Go's library at this program, laid by the kit's command in plain words: strconv_Itoa_small Builder_String_any_k -/
namespace Go.Proofs.YtikkfapgmbamlaaGreatDoor.Sh
open Go.Proofs
set_option linter.unusedVariables false
set_option maxRecDepth 100000
def lays169_ren : Go.Shelf.Ren := ⟨fun | 169 => 11 | n => n, fun | 70 => 38 | 9 => 9 | 0 => 0 | 72 => 41 | 37 => 39 | 127 => 77 | 3 => 3 | 5 => 5 | n => n, fun | n => n⟩
theorem lays169 : Go.Proofs.Lays.n169 Tryz.prog lays169_ren := {
  mixed := by kernel_rfl
  f169 := Tryz.func11.trans (congrArg some (by kernel_rfl))
  t0 := Tryz.underlying0
  a0 := Tryz.isAgg0
  z0 := Tryz.sizeOf0
  v0 := Tryz.zeroValue0
  t3 := Tryz.underlying3
  a3 := Tryz.isAgg3
  z3 := Tryz.sizeOf3
  v3 := Tryz.zeroValue3
  t9 := Tryz.underlying9
  a9 := Tryz.isAgg9
  z9 := Tryz.sizeOf9
  v9 := Tryz.zeroValue9
  t37 := Tryz.underlying39
  a37 := Tryz.isAgg39
  z37 := Tryz.sizeOf39
  v37 := Tryz.zeroValue39
  t70 := Tryz.underlying38
  a70 := Tryz.isAgg38
  z70 := Tryz.sizeOf38
  v70 := Tryz.zeroValue38
  t72 := Tryz.underlying41
  a72 := Tryz.isAgg41
  z72 := Tryz.sizeOf41
  v72 := Tryz.zeroValue41
  t127 := Tryz.underlying77
  a127 := Tryz.isAgg77
  z127 := Tryz.sizeOf77
  v127 := Tryz.zeroValue77 }
theorem Builder_Extra_169 : Builder.Extra Tryz.prog lays169_ren := {
  sizeBuilder := by kernel_rfl
  liesBuilder := by kernel_rfl
  t5 := Tryz.underlying5
  a5 := Tryz.isAgg5
  z5 := Tryz.sizeOf5
  v5 := Tryz.zeroValue5
  infoByte := by kernel_rfl
  cellsByte := by kernel_rfl
  sizeByte := by kernel_rfl
  neB5 := by decide }
open Go.RowKit in
theorem Builder_String_any_k (B b : Nat) (l : List UInt8) (w : World) (h : Lib.IsBuilderF 41 5 B b (Lib.byteCells l) w) (hBw : B ≤ w.heap.size) :
    Calls Tryz.prog 11 #[.pointer (some ⟨b, 0, none⟩)] w fun e w' => e = .returned (.string ⟨l.toArray⟩) ∧ (Lib.IsBuilderF 41 5 B b (Lib.byteCells l) w' ∧ Below B w w' ∧ Lib.OthersKept 5 (some b) w w') := Any.Builder_String_any_k lays169 Builder_Extra_169 B b l w h hBw
def lays171_ren : Go.Shelf.Ren := ⟨fun | 171 => 53 | 243 => 72 | 246 => 84 | 283 => 92 | 284 => 93 | 285 => 94 | 286 => 95 | 129 => 99 | 317 => 98 | 318 => 100 | 319 => 101 | 320 => 102 | 337 => 103 | 338 => 104 | n => n, fun | 3 => 3 | 9 => 9 | 2 => 2 | 4 => 4 | 171 => 140 | 0 => 0 | 53 => 141 | 37 => 39 | 5 => 5 | 173 => 144 | 212 => 150 | 51 => 151 | 20 => 20 | 213 => 152 | 46 => 153 | 232 => 156 | 233 => 157 | n => n, fun | 17 => 1 | 18 => 2 | 19 => 3 | n => n⟩
theorem lays171 : Go.Proofs.Lays.n171 Tryz.prog lays171_ren := {
  mixed := by kernel_rfl
  f129 := Tryz.func99.trans (congrArg some (by kernel_rfl))
  f171 := Tryz.func53.trans (congrArg some (by kernel_rfl))
  f243 := Tryz.func72.trans (congrArg some (by kernel_rfl))
  f246 := Tryz.func84.trans (congrArg some (by kernel_rfl))
  f283 := Tryz.func92.trans (congrArg some (by kernel_rfl))
  f284 := Tryz.func93.trans (congrArg some (by kernel_rfl))
  f285 := Tryz.func94.trans (congrArg some (by kernel_rfl))
  f286 := Tryz.func95.trans (congrArg some (by kernel_rfl))
  f317 := Tryz.func98.trans (congrArg some (by kernel_rfl))
  f318 := Tryz.func100.trans (congrArg some (by kernel_rfl))
  f319 := Tryz.func101.trans (congrArg some (by kernel_rfl))
  f320 := Tryz.func102.trans (congrArg some (by kernel_rfl))
  f337 := Tryz.func103.trans (congrArg some (by kernel_rfl))
  f338 := Tryz.func104.trans (congrArg some (by kernel_rfl))
  t0 := Tryz.underlying0
  a0 := Tryz.isAgg0
  z0 := Tryz.sizeOf0
  v0 := Tryz.zeroValue0
  t2 := Tryz.underlying2
  a2 := Tryz.isAgg2
  z2 := Tryz.sizeOf2
  v2 := Tryz.zeroValue2
  t3 := Tryz.underlying3
  a3 := Tryz.isAgg3
  z3 := Tryz.sizeOf3
  v3 := Tryz.zeroValue3
  t4 := Tryz.underlying4
  a4 := Tryz.isAgg4
  z4 := Tryz.sizeOf4
  v4 := Tryz.zeroValue4
  t5 := Tryz.underlying5
  a5 := Tryz.isAgg5
  z5 := Tryz.sizeOf5
  v5 := Tryz.zeroValue5
  t9 := Tryz.underlying9
  a9 := Tryz.isAgg9
  z9 := Tryz.sizeOf9
  v9 := Tryz.zeroValue9
  t20 := Tryz.underlying20
  a20 := Tryz.isAgg20
  z20 := Tryz.sizeOf20
  v20 := Tryz.zeroValue20
  t37 := Tryz.underlying39
  a37 := Tryz.isAgg39
  z37 := Tryz.sizeOf39
  v37 := Tryz.zeroValue39
  t46 := Tryz.underlying153
  a46 := Tryz.isAgg153
  z46 := Tryz.sizeOf153
  v46 := Tryz.zeroValue153
  t51 := Tryz.underlying151
  a51 := Tryz.isAgg151
  z51 := Tryz.sizeOf151
  v51 := Tryz.zeroValue151
  t53 := Tryz.underlying141
  a53 := Tryz.isAgg141
  z53 := Tryz.sizeOf141
  v53 := Tryz.zeroValue141
  t171 := Tryz.underlying140
  a171 := Tryz.isAgg140
  z171 := Tryz.sizeOf140
  v171 := Tryz.zeroValue140
  t173 := Tryz.underlying144
  a173 := Tryz.isAgg144
  z173 := Tryz.sizeOf144
  v173 := Tryz.zeroValue144
  t212 := Tryz.underlying150
  a212 := Tryz.isAgg150
  z212 := Tryz.sizeOf150
  v212 := Tryz.zeroValue150
  t213 := Tryz.underlying152
  a213 := Tryz.isAgg152
  z213 := Tryz.sizeOf152
  t232 := Tryz.underlying156
  a232 := Tryz.isAgg156
  z232 := Tryz.sizeOf156
  v232 := Tryz.zeroValue156
  t233 := Tryz.underlying157
  a233 := Tryz.isAgg157
  z233 := Tryz.sizeOf157
  v233 := Tryz.zeroValue157
  g17 := by kernel_rfl
  g18 := by kernel_rfl
  g19 := by kernel_rfl }
open Go.RowKit Go.Sort Go.Lib in
theorem strconv_Itoa_small (i : Nat) (hi : i < 100) (w : World) :
    Calls Tryz.prog 53 #[.int .i64 i] w fun e w' => e = .returned (.string ⟨(Lib.decDigits i).toArray⟩) ∧ w' = w := Any.strconv_Itoa_small lays171 i hi w
end Go.Proofs.YtikkfapgmbamlaaGreatDoor.Sh
end
