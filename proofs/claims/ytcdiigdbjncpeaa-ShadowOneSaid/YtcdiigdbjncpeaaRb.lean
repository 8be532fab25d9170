/- Rows of records that the call owns, and drawn regions in which one record is appended to such a row. Serves all packages. -/
import Derived.Test.YtcdiigdbjncpeaaRa
import Derived.Test.YtcdiigdbjncpeaaEa
namespace Go.Proofs.Ytcdiigdbjncpeaa.Ut
open Go.RowKit
set_option linter.unusedVariables false

def encI (x : List Int) : List Value := x.map (Value.int .i64)
def encR (xs : List (List Int)) : List Value := (xs.map encI).flatten
theorem encR_snoc (xs : List (List Int)) (y : List Int) : encR (xs ++ [y]) = encR xs ++ encI y := by simp [encR]
theorem encR_one (xs : List (List Int)) : ∀ u ∈ encR xs, u.oneCell' = true := fun u hu => by
  obtain ⟨l, hl, hu⟩ := List.mem_flatten.1 hu
  obtain ⟨x, _, rfl⟩ := List.mem_map.1 hl
  obtain ⟨z, _, rfl⟩ := List.mem_map.1 hu
  rfl
/-- what the call owns, as a list of records of k integers -/
def OwnT (k : Nat) (w : World) (B : Nat) (e : TypeId) (v : Value) (xs : List (List Int)) : Prop := w.ownsRow B e k v xs.length (encR xs) ∧ ∀ x ∈ xs, x.length = k
theorem OwnT.nil (k : Nat) (w : World) (B : Nat) (e : TypeId) : OwnT k w B e (.slice none 0 0) [] := ⟨World.ownsRow_nil _ _ _ _, fun x h => by cases h⟩
theorem ownsRow_belowK {w w' : World} {B n k : Nat} {e : TypeId} {v : Value} {xs : List Value} (h : w.ownsRow B e k v n xs) (hb : Below w.heap.size w w') : w'.ownsRow B e k v n xs := by
  refine ⟨h.1, ?_⟩
  rcases h.2 with h0 | ⟨g, cap, cur, rfl, hB, hg', r⟩
  · exact .inl h0
  · exact .inr ⟨g, cap, cur, rfl, hB, (hb.block g (Array.getElem?_eq_some_iff.1 hg').1).trans hg', r⟩
theorem OwnT.below {k : Nat} {w w' : World} {B : Nat} {e : TypeId} {v : Value} {xs : List (List Int)} (h : OwnT k w B e v xs) (hb : Below w.heap.size w w') : OwnT k w' B e v xs := ⟨ownsRow_belowK h.1 hb, h.2⟩
theorem OwnT.alloc {k : Nat} {w : World} {B : Nat} {e : TypeId} {v : Value} {xs : List (List Int)} (h : OwnT k w B e v xs) (o : Obj) : OwnT k (w.alloc o) B e v xs := ⟨World.ownsRow.alloc h.1 o, h.2⟩
/-- it stays while another block grows -/
theorem ownsRow_other {w w' : World} {B n k : Nat} {e : TypeId} {v : Value} {xs : List Value} {row : Option Nat} (h : w.ownsRow B e k v n xs) (hg : w.grownBy w' row) (hr : ∀ q cs e' f, row = some q → w.heap[q]? = some (.cells cs e' f) → e' ≠ e) : w'.ownsRow B e k v n xs := by
  refine ⟨h.1, ?_⟩
  rcases h.2 with h0 | ⟨g, cap, cur, rfl, hB, hg', r⟩
  · exact .inl h0
  · refine .inr ⟨g, cap, cur, rfl, hB, ?_, r⟩
    rw [hg.block g (Array.getElem?_eq_some_iff.1 hg').1 (fun e => hr g _ _ _ e.symm hg' rfl)]
    exact hg'
/-- its own block's tag -/
theorem own_tag {w : World} {B n k : Nat} {e : TypeId} {v : Value} {xs : List Value} (h : w.ownsRow B e k v n xs) : ∀ q cs e' f, v.ownBlock = some q → w.heap[q]? = some (.cells cs e' f) → e' = e := by
  intro q cs e' f hq hc
  rcases h.2 with ⟨rfl, _⟩ | ⟨g, cap, cur, rfl, hB, hg', r⟩
  · simp [Value.ownBlock] at hq
  · simp [Value.ownBlock] at hq
    subst hq
    rw [hg'] at hc
    injection hc with hc
    injection hc with _ h2
    exact h2.symm
/-- one record more -/
theorem step_append_rec {P : Program} {w : World} {ops : Array Oper} {o : Oper} {a : Act} {K : Act → World → Prop} {Q : Exit → Act → World → Prop} {E : Prop} (hgd : o.guard = none) (s x : Operand) (t : TypeId)
    (ho : o.op = .call { callee := .builtin .append, args := #[s, x], argTypes := #[t, t] })
    (k base : Nat) (e : TypeId) (i : TypeInfo) (z : Value) (bytes : Nat) (ht : P.underlying t = some (.slice e)) (hi : P.info? e = some i) (hz : i.zero = some z) (hs : i.size = k) (hb : i.bytes = bytes) (hzs : z.cells.size = k) (hk : 0 < k)
    (v : Value) (xs : List (List Int)) (hv : a.eval s = v) (hown : OwnT k w base e v xs) (ad : Addr) (c : Nat) (y : List Int) (hx : a.eval x = .slice (some ad) 1 c) (hy : y.length = k)
    (hc : ∀ j u, (encI y)[j]? = some u → w.cell? (ad.add j) = some u) (h63 : xs.length + 1 ≤ 1099511627776) (hbytes : bytes ≤ 64) (hbase : base ≤ w.heap.size)
    (h : ∀ v' w', Hid (OwnT k w' base e v' (xs ++ [y])) → Hid (w.grownBy w' v.ownBlock) → K (a.put o.dst v') w') :
    if Region.wanted o (yielded ops a.tmps) = true then Oper.wp P o a w K Q else E := by
  have hw : Region.wanted o (yielded ops a.tmps) = true := by simp [Region.wanted, hgd]
  rw [if_pos hw]
  have hby : (xs.length + 1) * bytes ≤ 140737488355328 := Nat.le_trans (Nat.mul_le_mul h63 hbytes) (by omega)
  obtain ⟨v', w', hrun, h2, h3, _, _⟩ := run_append_own_at (P := P) w base t o.type e i z k bytes ht hi hz hs hb hzs hk v xs.length _ hown.1 ad 1 c (encI y) (by simp [encI, hy]) hc
    (fun u hu => by obtain ⟨z, _, rfl⟩ := List.mem_map.1 hu; rfl) (by unfold maxLen; omega) hby hbase
  unfold Oper.wp execOp
  simp only [ho, resolve, invoke, builtin, Sem.run_bind, Sem.run_pure, Result.andThen_ok, List.map_toArray, List.map_cons, List.map_nil, hv, hx, hrun]
  refine h v' w' (Lib.hid ⟨?_, fun q hq => ?_⟩) (Lib.hid h3)
  · rw [encR_snoc, List.length_append]; exact h2
  · rcases List.mem_append.1 hq with hq | hq
    · exact hown.2 q hq
    · simp at hq; rw [hq]; exact hy

theorem cells_new (w : World) (l : List Value) (t : TypeId) (j : Nat) (u : Value) (h : l[j]? = some u) : (w.alloc (.cells l.toArray t)).cell? ((⟨w.heap.size, 0, none⟩ : Addr).add j) = some u := by
  rw [add_plain]
  unfold World.cell?
  simp only [heap_alloc_new]
  simpa using h
theorem box_cell {w : World} {b : Nat} {cs : List Value} {t : TypeId} (h : w.heap[b]? = some (.cells cs.toArray t (0, 0))) (i : Nat) (u : Value) (hi : cs[i]? = some u) : w.cell? ⟨b, i, none⟩ = some u ∧ w.frozen? ⟨b, i, none⟩ = false := by
  constructor
  · simp [World.cell?, h, hi]
  · simp [World.frozen?, h]
theorem tag_ne {w : World} {B n k : Nat} {e e2 : TypeId} {v : Value} {xs : List Value} (h : w.ownsRow B e k v n xs) (hne : e ≠ e2) : ∀ (q : Nat) (cs : Array Value) (e' : TypeId) (f : Nat × Nat), v.ownBlock = some q → w.heap[q]? = some (.cells cs e' f) → e' ≠ e2 := fun q cs e' f h1 h2 h3 => hne ((own_tag h q cs e' f h1 h2).symm.trans h3)
theorem box_kept {w w' : World} {b : Nat} {o : Obj} {row : Option Nat} (h : w.heap[b]? = some o) (hg : w.grownBy w' row) (hr : row ≠ some b) : w'.heap[b]? = some o := (hg.block b (Array.getElem?_eq_some_iff.1 h).1 hr.symm).trans h
theorem own_ne_box {w : World} {B n k b : Nat} {e e2 : TypeId} {v : Value} {xs : List Value} {cs : Array Value} {f : Nat × Nat} (h : w.ownsRow B e k v n xs) (hb : w.heap[b]? = some (.cells cs e2 f)) (hne : e ≠ e2) : v.ownBlock ≠ some b := fun hq => hne (own_tag h b cs e2 f hq hb).symm

theorem OwnT.form {k : Nat} {w : World} {B : Nat} {e : TypeId} {v : Value} {xs : List (List Int)} {y : List Int} (h : OwnT k w B e v (xs ++ [y])) : ∃ g cap, v = .slice (some ⟨g, 0, none⟩) (xs.length + 1) cap := by
  rcases h.1.2 with ⟨_, h0⟩ | ⟨g, cap, cur, hv, _⟩
  · simp at h0
  · exact ⟨g, cap, by rw [hv]; simp⟩


/-- every block with another tag than e is as it was -/
def Kept (e : TypeId) (w w' : World) : Prop := w.heap.size ≤ w'.heap.size ∧ ∀ (g : Nat) (cs : Array Value) (e' : TypeId) (f : Nat × Nat), e' ≠ e → w.heap[g]? = some (Obj.cells cs e' f) → w'.heap[g]? = some (Obj.cells cs e' f)
theorem Kept.refl (e : TypeId) (w : World) : Kept e w w := ⟨Nat.le_refl _, fun _ _ _ _ _ h => h⟩
theorem Kept.of_below {e : TypeId} {w w' : World} (h : Below w.heap.size w w') : Kept e w w' := ⟨h.size, fun g cs e' f _ hc => (h.block g (Array.getElem?_eq_some_iff.1 hc).1).trans hc⟩
theorem Kept.trans {e : TypeId} {a b c : World} (h : Kept e a b) (k : Kept e b c) : Kept e a c := ⟨Nat.le_trans h.1 k.1, fun g cs e' f he hc => k.2 g cs e' f he (h.2 g cs e' f he hc)⟩
theorem Kept.grown {e : TypeId} {w w' : World} {row : Option Nat} (hg : w.grownBy w' row) (hr : ∀ (q : Nat) (cs : Array Value) (e' : TypeId) (f : Nat × Nat), row = some q → w.heap[q]? = some (Obj.cells cs e' f) → e' = e) : Kept e w w' :=
  ⟨hg.size, fun g cs e' f he hc => (hg.block g (Array.getElem?_eq_some_iff.1 hc).1 (fun h => he (hr g cs e' f h.symm hc))).trans hc⟩
theorem Kept.own {e e2 : TypeId} {w w' : World} {B n k : Nat} {v : Value} {xs : List Value} (h : w.ownsRow B e2 k v n xs) (hk : Kept e w w') (hne : e2 ≠ e) : w'.ownsRow B e2 k v n xs := by
  refine ⟨h.1, ?_⟩
  rcases h.2 with h0 | ⟨g, cap, cur, rfl, hB, hg', r⟩
  · exact .inl h0
  · exact .inr ⟨g, cap, cur, rfl, hB, hk.2 _ _ _ _ hne hg', r⟩
theorem Kept.ownT {e e2 : TypeId} {w w' : World} {B k : Nat} {v : Value} {xs : List (List Int)} (h : OwnT k w B e2 v xs) (hk : Kept e w w') (hne : e2 ≠ e) : OwnT k w' B e2 v xs := ⟨Kept.own h.1 hk hne, h.2⟩
theorem Kept.drew {e : TypeId} {w w' : World} (h : Kept e w w') : Kept e w w'.drew := h

section
variable {P : Program} {ops : Array Oper} {Q : Exit → Act → World → Prop} {T : (Nat → Value) → Array Value} {d : List Deferred}
/-- what the region is about: block base, tag, cells a record, the row ahead of it, the record; the world at its beginning -/
structure AppOf where
  W : World
  B : Nat
  e : TypeId
  k : Nat
  v : Value
  xs : List (List Int)
  y : List Int
/-- what each operation yields: number a is the append, the one ahead of it makes the record's own slice -/
def AppR (X : AppOf) (vals : List Value) (a : Nat) (j : Nat) (v : Value) (w : World) : Prop :=
  if j = a then OwnT X.k w X.B X.e v (X.xs ++ [X.y])
  else if j + 1 = a then ∃ g, v = .slice (some ⟨g, 0, none⟩) 1 1 ∧ X.W.heap.size ≤ g ∧ g < w.heap.size ∧ ∀ j u, (encI X.y)[j]? = some u → w.cell? ((⟨g, 0, none⟩ : Addr).add j) = some u
  else v = nth vals j
def AppW (X : AppOf) (p : Bool) (w : World) : Prop := Below X.B X.W w ∧ Kept X.e X.W w ∧ (p = false → OwnT X.k w X.B X.e X.v X.xs)
def AppL (X : AppOf) (a : Nat) (i : Nat) (w w' : World) : Prop := if i = a then w.grownBy w' X.v.ownBlock else Below w.heap.size w w'
def AppFrom (X : AppOf) (a : Nat) (P : Program) (ops : Array Oper) (Q : Exit → Act → World → Prop) (T : (Nat → Value) → Array Value) (d : List Deferred) (vals : List Value) (k : Nat) (l : List Oper) : Prop :=
  StepsFrom P ops Q T d (AppR X vals a) (fun L w => AppW X (L a) w) (AppL X a) k l
variable {X : AppOf} {vals : List Value} {a : Nat}
theorem appR_nth {j : Nat} {v u : Value} {w : World} (h : AppR X vals a j v w) (ha : j ≠ a) (hb : j + 1 ≠ a) (hu : vals[j]? = some u) : v = u := by
  unfold AppR at h
  rw [if_neg ha, if_neg hb] at h
  exact hd_nth' h hu
/-- an operation that leaves the world as it is -/
theorem app_op {k : Nat} {o o' : Oper} {l : List Oper} (s : Nat) (ds : List Nat) (hd : depsOf o = ds) (ka : k ≠ a) (kb : k + 1 ≠ a)
    (h : ∀ (p : Bool) (x : Nat → Value) (w : World), AppW X p w → (∀ j ∈ ds, AppR X vals a j (x j) w) → ∀ K : Act → World → Prop, (∀ tm, tm = T (upd x k (tm.getD s undef)) → tm.getD s undef = nth vals k → K { tmps := tm, defers := d } w) →
      if Region.wanted o (yielded ops (T x)) = true then Oper.wp P o { tmps := T x, defers := d } w K Q else K (Act.put { tmps := T x, defers := d } o.dst undef) w)
    (hs : AppFrom X a P ops Q T d vals (k + 1) (o' :: l)) : AppFrom X a P ops Q T d vals k (o :: o' :: l) := by
  refine steps_op ds hd (fun L x w hL _ hw hR K hK => h (L a) x w hw hR K fun tm ht hv => ?_) hs
  refine hK (tm.getD s undef) w tm ht ?_ ?_ ?_
  · unfold AppR; rw [if_neg ka, if_neg kb]; exact hv
  · show AppW X (if a = k then true else L a) w
    rw [if_neg (Ne.symm ka)]; exact hw
  · unfold AppL; rw [if_neg ka]; exact Below.refl _ _
/-- the record's own slice is made -/
theorem app_build {k : Nat} {o o' : Oper} {l : List Oper} (s : Nat) (ds : List Nat) (hd : depsOf o = ds) (ka : k + 1 = a) (obj : Obj) (ty : TypeId) (hobj : obj = .cells (encI X.y).toArray ty (0, 0)) (hBW : X.B ≤ X.W.heap.size)
    (h : ∀ (p : Bool) (x : Nat → Value) (w : World), AppW X p w → (∀ j ∈ ds, AppR X vals a j (x j) w) → ∀ K : Act → World → Prop, (∀ tm, tm = T (upd x k (tm.getD s undef)) → tm.getD s undef = .slice (some ⟨w.heap.size, 0, none⟩) 1 1 → K { tmps := tm, defers := d } (w.alloc obj)) →
      if Region.wanted o (yielded ops (T x)) = true then Oper.wp P o { tmps := T x, defers := d } w K Q else K (Act.put { tmps := T x, defers := d } o.dst undef) w)
    (hs : AppFrom X a P ops Q T d vals (k + 1) (o' :: l)) : AppFrom X a P ops Q T d vals k (o :: o' :: l) := by
  refine steps_op ds hd (fun L x w hL _ hw hR K hK => h (L a) x w hw hR K fun tm ht hv => ?_) hs
  have hne : k ≠ a := by omega
  refine hK (tm.getD s undef) _ tm ht ?_ ?_ ?_
  · unfold AppR; rw [if_neg hne, if_pos ka]
    subst hobj
    exact ⟨_, hv, hw.1.size, by simp, fun j u hj => cells_new w _ _ j u hj⟩
  · show AppW X (if a = k then true else L a) (w.alloc obj)
    rw [if_neg (Ne.symm hne)]
    refine ⟨hw.1.alloc (Nat.le_trans hBW hw.1.size) _, hw.2.1.trans (Kept.of_below ((Below.refl _ _).alloc (Nat.le_refl _) _)), fun hp => (hw.2.2 hp).alloc _⟩
  · unfold AppL; rw [if_neg hne]; exact (Below.refl _ _).alloc (Nat.le_refl _) _
/-- the append -/
theorem app_append {o o' : Oper} {l : List Oper} (ss sx : Nat) (t : TypeId) (i : TypeInfo) (z : Value) (bytes js jx : Nat) (hd : depsOf o = [js, jx]) (hgd : o.guard = none)
    (ho : o.op = .call { callee := .builtin .append, args := #[.tmp ss, .tmp sx], argTypes := #[t, t] })
    (ht : P.underlying t = some (.slice X.e)) (hi : P.info? X.e = some i) (hz : i.zero = some z) (hs : i.size = X.k) (hb : i.bytes = bytes) (hzs : z.cells.size = X.k) (hk : 0 < X.k) (hy : X.y.length = X.k)
    (ejs : js ≠ a ∧ js + 1 ≠ a) (ejx : jx + 1 = a) (hv : vals[js]? = some X.v) (hT1 : ∀ x, (T x).getD ss undef = x js) (hT2 : ∀ x, (T x).getD sx undef = x jx) (hT3 : ∀ x v, Act.put { tmps := T x, defers := d } o.dst v = { tmps := T (upd x a v), defers := d })
    (h63 : X.xs.length + 1 ≤ 1099511627776) (hbytes : bytes ≤ 64) (hBW : X.B ≤ X.W.heap.size) (hlt : ∀ q, X.v.ownBlock = some q → X.B ≤ q ∧ q < X.W.heap.size)
    (hs' : AppFrom X a P ops Q T d vals (a + 1) (o' :: l)) : AppFrom X a P ops Q T d vals a (o :: o' :: l) := by
  refine steps_op [js, jx] hd (fun L x w hL _ hw hR K hK => ?_) hs'
  have e1 := appR_nth (hR js (by simp)) ejs.1 ejs.2 hv
  have e2 := hR jx (by simp)
  unfold AppR at e2
  rw [if_neg (by omega), if_pos ejx] at e2
  obtain ⟨g, eg, hgW, hgw, hgc⟩ := e2
  have hBw := Nat.le_trans hBW hw.1.size
  have hown := hw.2.2 hL
  refine step_append_rec (a := { tmps := T x, defers := d }) hgd (.tmp ss) (.tmp sx) t ho X.k X.B X.e i z bytes ht hi hz hs hb hzs hk X.v X.xs (by show (T x).getD ss undef = _; rw [hT1 x]; exact e1) hown ⟨g, 0, none⟩ 1 X.y (by show (T x).getD sx undef = _; rw [hT2 x]; exact eg) hy hgc h63 hbytes hBw fun v' w' h1 h2 => ?_
  rw [hT3]
  refine hK v' w' _ rfl ?_ ?_ ?_
  · unfold AppR; rw [if_pos rfl]; exact h1.out
  · show AppW X (if a = a then true else L a) w'
    rw [if_pos rfl]
    refine ⟨hw.1.grown h2.out hBw fun q hq => (hlt q hq).1, hw.2.1.trans (Kept.grown h2.out fun q cs e' f hq hc => own_tag hown.1 q cs e' f hq hc), fun hp => by cases hp⟩
  · unfold AppL; rw [if_pos rfl]; exact h2.out
theorem app_last {k : Nat} {o : Oper}
    (h : ∀ (x : Nat → Value) (w : World), AppW X true w → (∀ j, j < k → AppR X vals a j (x j) w) → ∀ K : Act → World → Prop, (∀ a' w', Q .normal a' w' → K a' w') →
      if Region.wanted o (yielded ops (T x)) = true then Oper.wp P o { tmps := T x, defers := d } w K Q else K (Act.put { tmps := T x, defers := d } o.dst undef) w) (ha : a < k) : AppFrom X a P ops Q T d vals k [o] :=
  steps_last fun L x w _ hall hw hR K hK => h x w (by rw [hall a ha] at hw; exact hw) hR K hK

/-- THE REGION: apply it; T and the values come by unification -/
theorem wp_region_app {id : Nat} {act : Act} {w : World} (slots : List Nat) (vals : List Value) (X : AppOf) (a : Nat) (hXW : X.W = w) (hBW : X.B ≤ X.W.heap.size) (hown : OwnT X.k w X.B X.e X.v X.xs) (hm : P.follows .mixedOrders = true) (hT : ∀ y, setAll act.tmps slots 0 y = T y) (hok : goodOrder ops = true) (hn : 0 < ops.size)
    (hs : AppFrom X a P ops Q T act.defers vals 0 ops.toList) : (Code.region id ops true).wp P Q act w := by
  subst hXW
  refine wp_region_by hm T (AppR X vals a) (fun L w => AppW X (L a) w) (AppL X a) hok hn ?_ (fun j => act.tmps.getD (slots.getD j 0) undef) ?_ (fun _ _ => ⟨(Below.refl _ _).drew, Kept.refl _ _, fun _ => hown⟩) hs
  · intro i j L v w w' hij _ _ _ hle hR
    unfold AppL at hle
    unfold AppR at hR ⊢
    by_cases hi : i = a
    · rw [if_pos hi] at hle
      rw [if_neg (by omega)] at hR ⊢
      split at hR
      · rename_i hj
        obtain ⟨g, e1, e2, e3, e4⟩ := hR
        rw [if_pos hj]
        refine ⟨g, e1, e2, Nat.lt_of_lt_of_le e3 hle.size, fun j u hu => ?_⟩
        rw [← e4 j u hu, add_plain]
        have hb := hle.block g e3 (fun h => by have := (World.ownsRow.lt hown.1 g h.symm).2; omega)
        simp only [World.cell?, hb]
      · rename_i hj
        rw [if_neg hj]; exact hR
    · rw [if_neg hi] at hle
      split at hR
      · rename_i hj
        rw [if_pos hj]; exact hR.below hle
      · rename_i hj
        rw [if_neg hj]
        split at hR
        · rename_i hj2
          rw [if_pos hj2]
          obtain ⟨g, e1, e2, e3, e4⟩ := hR
          exact ⟨g, e1, e2, Nat.lt_of_lt_of_le e3 hle.size, fun j u hu => (hle.cell (p := (⟨g, 0, none⟩ : Addr).add j) (by rw [add_plain]; exact e3)).trans (e4 j u hu)⟩
        · rename_i hj2
          rw [if_neg hj2]; exact hR
  · rw [← hT, setAll_self]
    intro j s hj
    simp [List.getD, hj]
end
end Go.Proofs.Ytcdiigdbjncpeaa.Ut
