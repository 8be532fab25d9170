/- Several texts in one: Pc Pd Pe -/
import Derived.Test.YtikkfapgmbamlaaGreatDoorZ14
import Derived.Scope
import Derived.Deep.QuietTactic
import Derived.BigQuiet
section
/- (*Table).Len and Free: loops over a table's runs that add up. -/
namespace Go.Proofs.YtikkfapgmbamlaaGreatDoor.Pt
open Go.RowKit Go.Shelf Ut
set_option linter.unusedVariables false
attribute [local go_sem] Oper.semAt_some

/-- how many places the runs have -/
def sumN (xs : List BR) : Int := (xs.map (·.1.n)).sum
theorem sumN_snoc (xs : List BR) (x : BR) : sumN (xs ++ [x]) = sumN xs + x.1.n := by simp [sumN]
theorem sumN_bd (xs : List BR) : 0 ≤ sumN xs ∧ sumN xs ≤ 64 * xs.length := by
  induction xs with
  | nil => simp [sumN]
  | cons x xs ih =>
    have h := x.2
    unfold Fine at h
    simp only [sumN, List.map_cons, List.sum_cons, List.length_cons] at ih ⊢
    omega
/-- .. that are nobody's -/
def sumF (xs : List BR) : Int := (xs.map fun x => if x.1.w = -1 then x.1.n else 0).sum
theorem sumF_snoc (xs : List BR) (x : BR) : sumF (xs ++ [x]) = sumF xs + if x.1.w = -1 then x.1.n else 0 := by simp [sumF]
theorem sumF_bd (xs : List BR) : 0 ≤ sumF xs ∧ sumF xs ≤ 64 * xs.length := by
  induction xs with
  | nil => simp [sumF]
  | cons x xs ih =>
    have h := x.2
    unfold Fine at h
    simp only [sumF, List.map_cons, List.sum_cons, List.length_cons] at ih ⊢
    split <;> omega

theorem run3_keep (B : Nat) (r : R3) : Own (fun (_ : Unit) W => Run3 W B r) := run3_own B (fun _ => r)

set_option maxRecDepth 100000 in
set_option maxHeartbeats 2000000 in
theorem len_any (p : Option Addr) (xs : List BR) (w : World) (hT : Tbl w w.heap.size p xs) (hl : xs.length ≤ 64) :
    Calls Tryz.prog 76 #[.pointer p] w fun e W' => e = .returned (.int .i64 (sumN xs)) ∧ Below w.heap.size w W' := by
  refine (callsIn_wide (n := 102)).1 ?_
  refine callsIn_of_wp_marks Tryz.func76 rfl trivial ?_ rfl
  simp only [Tryz.ntmps76, List.size_toArray, List.length_cons, List.length_nil, Nat.reduceAdd, Nat.reduceSub, Array.replicate_succ, Array.replicate_zero, List.push_toArray, List.append_toArray, List.nil_append, List.cons_append]
  gi_wp2_with (refine ⟨trivial, ?_⟩; gi_at_call 88; refine (callsIn_wide.2 (each_any _ _)).mono ?_; rintro e w' ⟨rfl, rfl⟩)
  have bS := (Boxed.new w 3 (.int .i64 0)).alloc (.cells #[.pointer p] 86)
  have bN := Boxed.new (w.alloc (.cells #[.int .i64 0] 3)) 86 (.pointer p)
  rw [World.size_alloc] at bN
  have hB0 : Below w.heap.size w ((w.alloc (.cells #[.int .i64 0] 3)).alloc (.cells #[.pointer p] 86)) := ((Below.refl _ w).alloc (Nat.le_refl _) _).alloc (by simp) _
  have hsz : ((w.alloc (.cells #[.int .i64 0] 3)).alloc (.cells #[.pointer p] 86)).heap.size = w.heap.size + 2 := by simp
  obtain ⟨W0, hW0⟩ : ∃ W0, (w.alloc (.cells #[.int .i64 0] 3)).alloc (.cells #[.pointer p] 86) = W0 := ⟨_, rfl⟩
  rw [hW0] at bN bS hB0 hsz ⊢
  clear hW0
  refine wpIn_rangeFunc_ownH rfl (by omega) (gf := 97) (lb := #[.pointer (some ⟨w.heap.size + 1, 0, none⟩)]) rfl trivial (enters_of Tryz.func97 (by kernel_rfl) rfl)
    (each_stops (w.heap.size + 1) w.heap.size p xs W0 (by omega) (by omega) bN.cell (hT.below hB0)) belowK_t (belowK_b (by omega)) (Below.refl _ _) (fun _ => rfl)
    (fun pre W => Boxed W w.heap.size 3 (.int .i64 (sumN pre)) ∧ Below w.heap.size w W)
    (fun _ _ _ => False)
    (OwnFrom.and (Own.from (boxed_own _ _ _) _) (ownFrom_below (Nat.le_refl _) (by omega)))
    (fun _ _ _ _ _ hs _ _ => hs)
    ⟨bS, hB0⟩
    (fun x a' W => ∃ Bx, w.heap.size < Bx ∧ Run3 W Bx x.1 ∧ a' = { tmps := #[.pointer p, undef, .int .i64 0, .pointer (some ⟨w.heap.size, 0, none⟩), .pointer (some ⟨Bx, 0, none⟩), .pointer p, .func (.func 97) #[] #[.pointer (some ⟨w.heap.size + 1, 0, none⟩)], x.1.v, undef, undef, undef, undef, undef], defers := [] })
    (fun x a' _ X Y row hs hg hr => by obtain ⟨Bx, h1, h2, h3⟩ := hs; exact ⟨Bx, h1, run3_keep Bx x.1 () X Y row h2 hg (fun r e => (hr r e).2), h3⟩)
    ?assign ?body ?done ?stop
  case assign =>
    rintro l pre x W K ⟨bS1, hB1⟩ hK
    have hlt := bS1.lt
    dsimp only [enc1, R3.v]
    gi_wp2
    exact hK _ _ ((KeepsOthers.alloc _ _).from _) ((Below.refl _ W).alloc hB1.size _) ⟨bS1.alloc _, hB1.alloc hB1.size _⟩ ⟨W.heap.size, hlt, Run3.new W _, rfl⟩
  case body =>
    rintro l pre x a' W hl ⟨r, hr⟩ ⟨bS1, hB1⟩ ⟨Bx, hBx, bX, rfl⟩ hlt
    have cB := bS1.cell
    have fB := bS1.frozen
    obtain ⟨c1, c2, c3⟩ := bX.cell
    have hbd := sumN_bd pre
    obtain ⟨_, _, x1, x2, _, _⟩ := x.2
    gi_wp2
    exact ⟨(KeepsOthers.setCell _ _ _).from _, (Below.refl _ W).setCell (p := ⟨w.heap.size, 0, none⟩) (Nat.le_refl _) _, by rw [sumN_snoc]; exact bS1.set _, hB1.setCell (p := ⟨w.heap.size, 0, none⟩) (Nat.le_refl _) _⟩
  case done =>
    rintro D zs W hD rfl ⟨bS1, hB1⟩ hK
    have cS := bS1.cell
    gi_wp2
    refine ⟨by simp, .inl ⟨_, _, rfl, run_takeDeferred hK, ?_⟩⟩
    exact ⟨_, results_tmp rfl _ _ _, rfl, hB1.trans (belowK_b (w := w) (Nat.le_refl _) W D _ _ (by omega) hK rfl rfl)⟩
  case stop =>
    rintro D c pre W _ _ h _
    exact h.elim
end Go.Proofs.YtikkfapgmbamlaaGreatDoor.Pt
end
section
/- isOwner, end; (*Table).at: the run that a place is in. -/
namespace Go.Proofs.YtikkfapgmbamlaaGreatDoor.Pt
open Go.RowKit Go.Shelf Ut
set_option linter.unusedVariables false
attribute [local go_sem] Oper.semAt_some

/-- may who be an owner -/
def isOwn (k : Int) : Bool := decide (0 ≤ k) && decide (k < 64)
theorem isOwner_any (k : Int) (w : World) :
    Calls Tryz.prog 77 #[.int .i64 k] w fun e w' => e = .returned (.bool (isOwn k)) ∧ w = w' := by
  by_cases h1 : 0 ≤ k
  · by_cases h2 : k < 64
    · go_enter Tryz.func77, Tryz.ntmps77
      go_wp2
      go_ret
      exact ⟨congrArg (fun b => Ending.returned (.bool b)) (by unfold isOwn; simp; omega), rfl⟩
    · go_enter Tryz.func77, Tryz.ntmps77
      go_wp2
      go_ret
      exact ⟨congrArg (fun b => Ending.returned (.bool b)) (by unfold isOwn; simp; omega), rfl⟩
  · go_enter Tryz.func77, Tryz.ntmps77
    go_wp2
    go_ret
    exact ⟨congrArg (fun b => Ending.returned (.bool b)) (by unfold isOwn; simp; omega), rfl⟩

theorem end_any (r : R3) (w : World) :
    Calls Tryz.prog 79 #[.agg #[.int .i64 r.f, .int .i64 r.n, .int .i64 r.w]] w fun e w' => e = .returned (.int .i64 (wrap64 (r.f + r.n))) ∧ w' = w.alloc (.cells #[.int .i64 r.f, .int .i64 r.n, .int .i64 r.w] 108) := by
  go_enter Tryz.func79, Tryz.ntmps79
  go_wp2
  go_ret
  exact ⟨rfl, rfl⟩

/-- place i lies behind run r -/
def Past (i : Int) (r : R3) : Prop := ¬ i < r.f ∧ ¬ i < r.f + r.n
/-- the run that place i is in: none, where one begins behind it -/
def seek (i : Int) : List BR → Option BR
  | [] => none
  | x :: xs => if i < x.1.f then none else if i < x.1.f + x.1.n then some x else seek i xs
def seekR (i : Int) (xs : List BR) : R3 := match seek i xs with | some x => x.1 | none => R3.zero
theorem seek_past (i : Int) (pre rest : List BR) (h : ∀ y ∈ pre, Past i y.1) : seek i (pre ++ rest) = seek i rest := by
  induction pre with
  | nil => rfl
  | cons x xs ih =>
    obtain ⟨h1, h2⟩ := h x (by simp)
    rw [List.cons_append, seek, if_neg h1, if_neg h2]
    exact ih fun y hy => h y (by simp [hy])

/-- how the loop of 'at' has stopped -/
def AtEnd (i : Int) (pre : List BR) (r : R3) (ok : Bool) : Prop :=
  ∃ pre0 x, pre = pre0 ++ [x] ∧ (∀ y ∈ pre0, Past i y.1) ∧ ((i < x.1.f ∧ r = R3.zero ∧ ok = false) ∨ (¬ i < x.1.f ∧ i < x.1.f + x.1.n ∧ r = x.1 ∧ ok = true))
theorem AtEnd.seek {i : Int} {pre xs : List BR} {r : R3} {ok : Bool} (h : AtEnd i pre r ok) (hp : pre <+: xs) : seekR i xs = r ∧ (Pt.seek i xs).isSome = ok := by
  obtain ⟨pre0, x, rfl, hpast, h⟩ := h
  obtain ⟨rest, rfl⟩ := hp
  unfold seekR
  rw [List.append_assoc, seek_past i _ _ hpast]
  rcases h with ⟨h1, rfl, rfl⟩ | ⟨h1, h2, rfl, rfl⟩
  · simp [Pt.seek, h1]
  · simp [Pt.seek, h1, h2]

theorem ownFrom_size {β : Type} (B N : Nat) : OwnFrom B (fun (_ : β) W => N ≤ W.heap.size) := fun _ _ _ _ hs hg _ => Nat.le_trans hs hg.size

theorem heap_set {w : World} {b : Nat} {c : Array Value} {t : TypeId} {fr : Nat × Nat} (h : w.heap[b]? = some (.cells c t fr)) (j : Nat) (v : Value) :
    (w.setCell ⟨b, j, none⟩ v).heap[b]? = some (.cells (c.setIfInBounds j v) t fr) := by
  obtain ⟨hlt, hk⟩ := Array.getElem?_eq_some_iff.1 h
  show (w.heap.modify b _)[b]? = _
  rw [Array.getElem?_eq_getElem (by rw [Array.size_modify]; exact hlt), Array.getElem_modify_self, hk]
  rfl
theorem Run3.set3 {w : World} {b : Nat} {r : R3} (h : Run3 w b r) (s : R3) : Run3 (((w.setCell ⟨b, 0, none⟩ (.int .i64 s.f)).setCell ⟨b, 1, none⟩ (.int .i64 s.n)).setCell ⟨b, 2, none⟩ (.int .i64 s.w)) b s :=
  heap_set (heap_set (heap_set h 0 _) 1 _) 2 _
theorem Run3.other {w : World} {b b' : Nat} {r : R3} (h : Run3 w b r) (hne : b ≠ b') (j : Nat) (u : Value) : Run3 (w.setCell ⟨b', j, none⟩ u) b r :=
  (Below.heap_setCell w ⟨b', j, none⟩ u b hne).trans h
theorem Run3.alloc {w : World} {b : Nat} {r : R3} (h : Run3 w b r) (o : Obj) : Run3 (w.alloc o) b r := h.kept (World.grownBy_alloc w o none) (by simp)
theorem Run3.frozen {w : World} {b : Nat} {r : R3} (h : Run3 w b r) (j : Nat) : w.frozen? ⟨b, j, none⟩ = false := by simp [World.frozen?, show w.heap[b]? = _ from h]
theorem Boxed.far {w : World} {b b' : Nat} {t : TypeId} {v : Value} (h : Boxed w b t v) (hne : b ≠ b') (j : Nat) (u : Value) : Boxed (w.setCell ⟨b', j, none⟩ u) b t v :=
  (Below.heap_setCell w ⟨b', j, none⟩ u b hne).trans h

theorem Run3.putObj {W : World} {b D : Nat} {r : R3} {o : Obj} (h : Run3 W b r) (hK : W.heap[D]? = some o) (ho : o.isCells = false) (o' : Obj) : Run3 (W.putObj D o') b r :=
  h.kept (grownBy_putObj' W D o') (fun e => by
    obtain rfl : b = D := by simpa using e
    rw [show W.heap[b]? = _ from h] at hK
    cases hK
    cases ho)
/-- at's return: the run is read out of its variable -/
theorem at_leave {R : Ending → World → Prop} {W : World} {D h : Nat} {r : R3} {b : Bool} {tmps : Array Value} (hK : W.heap[D]? = some (.deferred (some []))) (hR : Run3 W h r) (h4 : tmps.getD 4 undef = .pointer (some ⟨h, 0, none⟩)) (h5 : tmps.getD 5 undef = .bool b)
    (hp : R (.returned (.tuple #[r.v, .bool b])) (W.putObj D (.deferred none))) : LeavesInM Fence.wide 102 Tryz.prog Tryz.f78 tmps R [{ target := .collected D, args := #[] }] .returning W := by
  have h2 := hR.putObj hK rfl (.deferred none)
  obtain ⟨c1, c2, c3⟩ := h2.cell
  simp only [Array.getD_eq_getD_getElem?] at h4 h5
  refine ⟨by simp, .inl ⟨_, _, rfl, run_takeDeferred hK, ?_⟩⟩
  exact ⟨.tuple #[r.v, .bool b], by simp [results, Tryz.results78, go_sem, h4, h5, c1, c2, c3, R3.v], hp⟩

/-- between two rounds of at's loop -/
def AtI (w : World) (h N : Nat) (i : Int) (pre : List BR) (W : World) : Prop :=
  (((((Boxed W h 3 (.int .i64 i) ∧ Run3 W (h + 1) ⟨0, 0, 0⟩) ∧ Run3 W (h + 1 + 1) ⟨0, 0, 0⟩) ∧ Boxed W (h + 1 + 1 + 1) 4 (.bool false)) ∧ ∀ y ∈ pre, Past i y.1) ∧ N ≤ W.heap.size) ∧ Below h w W
/-- where it has stopped -/
def AtX (w : World) (h : Nat) (i : Int) (c : Code) (pre : List BR) (W : World) : Prop :=
  c = .exit 0 ∧ ∃ r ok, (((Run3 W (h + 1) ⟨0, 0, 0⟩ ∧ Run3 W (h + 1 + 1) r) ∧ Boxed W (h + 1 + 1 + 1) 4 (.bool ok)) ∧ AtEnd i pre r ok) ∧ Below h w W

set_option maxRecDepth 100000 in
set_option maxHeartbeats 4000000 in
theorem at_any (p : Option Addr) (i : Int) (xs : List BR) (w : World) (hT : Tbl w w.heap.size p xs) :
    Calls Tryz.prog 78 #[.pointer p, .int .i64 i] w fun e W' => e = .returned (.tuple #[(seekR i xs).v, .bool (seek i xs).isSome]) ∧ Below w.heap.size w W' := by
  refine (callsIn_wide (n := 102)).1 ?_
  refine callsIn_of_wp_marks Tryz.func78 rfl trivial ?_ rfl
  simp only [Tryz.ntmps78, List.size_toArray, List.length_cons, List.length_nil, Nat.reduceAdd, Nat.reduceSub, Array.replicate_succ, Array.replicate_zero, List.push_toArray, List.append_toArray, List.nil_append, List.cons_append]
  gi_wp2_with (refine ⟨trivial, ?_⟩; gi_at_call 88; refine (callsIn_wide.2 (each_any _ _)).mono ?_; rintro e w' ⟨rfl, rfl⟩)
  refine (wpIn_wide (n := 102)).2 (wp_scope_straight ((wpIn_wide (n := 102)).1 ?_))
  gi_wp2
  refine wpIn_label ?_
  gi_wp2_with (refine ⟨trivial, ?_⟩; gi_at_call 88; refine (callsIn_wide.2 (each_any _ _)).mono ?_; rintro e w' ⟨rfl, rfl⟩)
  have bI := ((((Boxed.new w 3 (.int .i64 i)).alloc (.cells #[.int .i64 0, .int .i64 0, .int .i64 0] 108)).alloc (.cells #[.int .i64 0, .int .i64 0, .int .i64 0] 108)).alloc (.cells #[.bool false] 4)).alloc (.cells #[.pointer p] 86)
  have bR := (((Run3.new (w.alloc (.cells #[.int .i64 i] 3)) R3.zero).alloc (.cells #[.int .i64 0, .int .i64 0, .int .i64 0] 108)).alloc (.cells #[.bool false] 4)).alloc (.cells #[.pointer p] 86)
  have bF := ((Run3.new ((w.alloc (.cells #[.int .i64 i] 3)).alloc (.cells #[.int .i64 0, .int .i64 0, .int .i64 0] 108)) R3.zero).alloc (.cells #[.bool false] 4)).alloc (.cells #[.pointer p] 86)
  have bO := (Boxed.new (((w.alloc (.cells #[.int .i64 i] 3)).alloc (.cells #[.int .i64 0, .int .i64 0, .int .i64 0] 108)).alloc (.cells #[.int .i64 0, .int .i64 0, .int .i64 0] 108)) 4 (.bool false)).alloc (.cells #[.pointer p] 86)
  have bN := Boxed.new ((((w.alloc (.cells #[.int .i64 i] 3)).alloc (.cells #[.int .i64 0, .int .i64 0, .int .i64 0] 108)).alloc (.cells #[.int .i64 0, .int .i64 0, .int .i64 0] 108)).alloc (.cells #[.bool false] 4)) 86 (.pointer p)
  dsimp only [R3.zero] at bR bF
  simp only [World.size_alloc] at bR bF bO bN
  have hB0 := ((((((Below.refl w.heap.size w).alloc (Nat.le_refl _) (.cells #[.int .i64 i] 3)).alloc (by simp) (.cells #[.int .i64 0, .int .i64 0, .int .i64 0] 108)).alloc (by simp; omega) (.cells #[.int .i64 0, .int .i64 0, .int .i64 0] 108)).alloc (by simp; omega) (.cells #[.bool false] 4)).alloc (by simp; omega) (.cells #[.pointer p] 86))
  have hsz : (((((w.alloc (.cells #[.int .i64 i] 3)).alloc (.cells #[.int .i64 0, .int .i64 0, .int .i64 0] 108)).alloc (.cells #[.int .i64 0, .int .i64 0, .int .i64 0] 108)).alloc (.cells #[.bool false] 4)).alloc (.cells #[.pointer p] 86)).heap.size = w.heap.size + 5 := by simp
  obtain ⟨W0, hW0⟩ : ∃ W0, ((((w.alloc (.cells #[.int .i64 i] 3)).alloc (.cells #[.int .i64 0, .int .i64 0, .int .i64 0] 108)).alloc (.cells #[.int .i64 0, .int .i64 0, .int .i64 0] 108)).alloc (.cells #[.bool false] 4)).alloc (.cells #[.pointer p] 86) = W0 := ⟨_, rfl⟩
  rw [hW0] at bI bR bF bO bN hB0 hsz ⊢
  clear hW0
  have hsz1 : w.heap.size + 5 ≤ W0.heap.size := by omega
  have hsz2 : W0.heap.size ≤ w.heap.size + 5 := by omega
  clear hsz
  refine wpIn_rangeFunc_ownH rfl (by omega) (gf := 97) (lb := #[.pointer (some ⟨w.heap.size + 1 + 1 + 1 + 1, 0, none⟩)]) rfl trivial (enters_of Tryz.func97 (by kernel_rfl) rfl)
    (each_stops (w.heap.size + 1 + 1 + 1 + 1) w.heap.size p xs W0 (by omega) (by omega) bN.cell (hT.below hB0)) belowK_t (belowK_b (by omega)) (Below.refl _ _) (fun _ => rfl)
    (AtI w w.heap.size (w.heap.size + 5) i)
    (AtX w w.heap.size i)
    (OwnFrom.and (OwnFrom.and (OwnFrom.and (OwnFrom.and (OwnFrom.and (OwnFrom.and (Own.from (boxed_own _ _ _) _) (Own.from (run3_own _ _) _)) (Own.from (run3_own _ _) _)) (Own.from (boxed_own _ _ _) _)) (ownFrom_pure _ _)) (ownFrom_size _ _)) (ownFrom_below (Nat.le_refl _) (by omega)))
    (fun c s X Y row hs hg hr => by
      obtain ⟨rfl, r, ok, h⟩ := hs
      exact ⟨rfl, r, ok, (OwnFrom.and (B := W0.heap.size) (OwnFrom.and (OwnFrom.and (OwnFrom.and (Own.from (run3_own _ fun _ => (⟨0, 0, 0⟩ : R3)) _) (Own.from (run3_own _ fun _ => r) _)) (Own.from (boxed_own _ _ fun _ => Value.bool ok) _)) (ownFrom_pure _ (fun s => AtEnd i s r ok))) (ownFrom_below (Nat.le_refl _) (by omega))) s X Y row h hg hr⟩)
    ⟨⟨⟨⟨⟨⟨bI, bR⟩, bF⟩, bO⟩, fun y hy => by cases hy⟩, hsz1⟩, hB0⟩
    (fun x a' W => ∃ Bx, w.heap.size + 4 < Bx ∧ Run3 W Bx x.1 ∧ a' = { tmps := #[.pointer p, .int .i64 i, undef, .pointer (some ⟨w.heap.size, 0, none⟩), .pointer (some ⟨w.heap.size + 1, 0, none⟩), .bool false, .pointer (some ⟨w.heap.size + 1 + 1, 0, none⟩), .pointer (some ⟨w.heap.size + 1 + 1 + 1, 0, none⟩), .pointer (some ⟨Bx, 0, none⟩), .pointer p, .func (.func 97) #[] #[.pointer (some ⟨w.heap.size + 1 + 1 + 1 + 1, 0, none⟩)], x.1.v, undef, undef, undef, undef, undef, undef, undef, undef, undef, undef, undef, undef, undef], defers := [] })
    (fun x a' _ X Y row hs hg hr => by obtain ⟨Bx, h1, h2, h3⟩ := hs; exact ⟨Bx, h1, run3_keep Bx x.1 () X Y row h2 hg (fun r e => (hr r e).2), h3⟩)
    ?assign ?body ?done ?stop
  case assign =>
    rintro l pre x W K ⟨⟨⟨⟨⟨⟨bI1, bR1⟩, bF1⟩, bO1⟩, hp1⟩, hz1⟩, hB1⟩ hK
    dsimp only [enc1, R3.v]
    gi_wp2
    exact hK _ _ ((KeepsOthers.alloc _ _).from _) ((Below.refl _ W).alloc hB1.size _) ⟨⟨⟨⟨⟨⟨bI1.alloc _, bR1.alloc _⟩, bF1.alloc _⟩, bO1.alloc _⟩, hp1⟩, by simp; omega⟩, hB1.alloc hB1.size _⟩ ⟨W.heap.size, by omega, Run3.new W _, rfl⟩
  case body =>
    rintro l pre x a' W hl ⟨r, hr⟩ ⟨⟨⟨⟨⟨⟨bI1, bR1⟩, bF1⟩, bO1⟩, hp1⟩, hz1⟩, hB1⟩ ⟨Bx, hBx, bX, rfl⟩ hlt
    have hmx : Tryz.prog.follows .mixedOrders = true := by kernel_rfl
    have cI := bI1.cell
    obtain ⟨c1, c2, c3⟩ := bX.cell
    obtain ⟨r1, r2, r3⟩ := bF1.cell
    have f0 := bF1.frozen 0
    have f1 := bF1.frozen 1
    have f2 := bF1.frozen 2
    have cO := bO1.cell
    have fO := bO1.frozen
    obtain ⟨x1, x2, x3, x4, _, _⟩ := x.2
    have HR := Lib.hid hr
    clear hr hT
    have bI' := Lib.hid bI1
    have bR' := Lib.hid bR1
    have bF' := Lib.hid bF1
    have bO' := Lib.hid bO1
    have HP := Lib.hid hp1
    clear bI bR bF bO bN hp1
    by_cases h1 : i < x.1.f
    · gi_wp2
      exact ⟨KeepsFrom.refl _ _, rfl, R3.zero, false, ⟨⟨⟨bR'.out, bF'.out⟩, bO'.out⟩, pre, x, rfl, HP.out, .inl ⟨h1, rfl, rfl⟩⟩, hB1⟩
    · have h1' : decide (i < x.1.f) = false := by simpa using h1
      have hsum : IntKind.i64.wrap (x.1.f + x.1.n) = x.1.f + x.1.n := IntWalk.i64_in _ (by omega)
      have hsum' : wrap64 (x.1.f + x.1.n) = x.1.f + x.1.n := IntWalk.wrap64_in _ ⟨by omega, by omega⟩
      have HS := Lib.hid hsum'
      clear hsum'
      gi_wp2
      refine wpIn_region_by (.inr ⟨l, rfl⟩) (by kernel_rfl) (fun ⟨_, _, h⟩ => h) hmx
        (fun y => #[.pointer p, .int .i64 i, undef, .pointer (some ⟨w.heap.size, 0, none⟩), .pointer (some ⟨w.heap.size + 1, 0, none⟩), .bool false, .pointer (some ⟨w.heap.size + 1 + 1, 0, none⟩), .pointer (some ⟨w.heap.size + 1 + 1 + 1, 0, none⟩), .pointer (some ⟨Bx, 0, none⟩), .pointer p, .func (.func 97) #[] #[.pointer (some ⟨w.heap.size + 1 + 1 + 1 + 1, 0, none⟩)], x.1.v, .bool false, .int .i64 i, .pointer (some ⟨Bx, 0, none⟩), .int .i64 x.1.f, .bool false, undef, y 0, y 1, y 2, y 3, undef, undef, undef])
        (fun j v _ => match j with | 0 => v = .int .i64 i | 1 => v = x.1.v | 2 => v = .int .i64 (x.1.f + x.1.n) | 3 => v = .bool (decide (i < x.1.f + x.1.n)) | _ => True)
        (fun _ W' => Below W.heap.size W W' ∧ KeepsFrom W0.heap.size W W') (fun _ _ _ => True) (by kernel_rfl) (by decide) (fun _ _ _ _ _ _ _ _ _ _ _ h => h) (fun _ => undef) rfl (fun _ _ => ⟨(Below.refl _ _).drew, (KeepsOthers.drew _).from _⟩) ?_
      have lI := bI'.out.lt
      have lX := bX.lt
      refine steps_op [] (by kernel_rfl) (fun _ y w' _ _ ⟨hw, hk⟩ hd K hK => ?_) ?_
      · have e := (hw.cell (p := ⟨w.heap.size, 0, none⟩) lI).trans cI
        go_simp
        exact hK (.int .i64 i) _ _ (by simp [upd]) rfl ⟨hw, hk⟩ trivial
      refine steps_op [] (by kernel_rfl) (fun _ y w' _ _ ⟨hw, hk⟩ hd K hK => ?_) ?_
      · have e1 := (hw.cell (p := ⟨Bx, 0, none⟩) lX).trans c1
        have e2 := (hw.cell (p := ⟨Bx, 1, none⟩) lX).trans c2
        have e3 := (hw.cell (p := ⟨Bx, 2, none⟩) lX).trans c3
        go_simp
        exact hK x.1.v _ _ (by simp [upd, R3.v]) rfl ⟨hw, hk⟩ trivial
      refine steps_op [1] (by kernel_rfl) (fun _ y w' _ _ ⟨hw, hk⟩ hd K hK => ?_) ?_
      · have e1 : y 1 = .agg #[.int .i64 x.1.f, .int .i64 x.1.n, .int .i64 x.1.w] := hd 1 (by simp)
        go_simp
        refine (end_any x.1 _).mono ?_
        rintro e w1 ⟨rfl, rfl⟩
        exact hK (.int .i64 (x.1.f + x.1.n)) _ _ (by simp [upd, HS.out, e1]) rfl ⟨hw.alloc hw.size _, hk.trans ((KeepsOthers.alloc _ _).from _)⟩ trivial
      refine steps_op [0, 2] (by kernel_rfl) (fun _ y w' _ _ ⟨hw, hk⟩ hd K hK => ?_) ?_
      · have e1 : y 0 = .int .i64 i := hd 0 (by simp)
        have e2 : y 2 = .int .i64 (x.1.f + x.1.n) := hd 2 (by simp)
        go_simp
        exact hK (.bool (decide (i < x.1.f + x.1.n))) _ _ (by simp [upd, e1, e2]) rfl ⟨hw, hk⟩ trivial
      refine steps_last fun _ y w' _ _ ⟨hw, hk⟩ hd K hK => ?_
      have e1 : y 0 = .int .i64 i := hd 0 (by omega)
      have e2 : y 1 = x.1.v := hd 1 (by omega)
      have e3 : y 2 = .int .i64 (x.1.f + x.1.n) := hd 2 (by omega)
      have e4 : y 3 = .bool (decide (i < x.1.f + x.1.n)) := hd 3 (by omega)
      go_simp
      refine hK _ _ ?_
      clear e1 e2 e3 e4 hd hsum h1'
      have hB2 : Below w.heap.size w w' := hB1.trans (hw.mono hB1.size)
      have bX2 := bX.below hw lX
      have bR2 := bR'.out.below hw bR'.out.lt
      have bF2 := bF'.out.below hw bF'.out.lt
      have bO2 : Boxed w' (w.heap.size + 1 + 1 + 1) 4 (.bool false) := (hw.block _ bO'.out.lt).trans bO'.out
      have bI2 : Boxed w' w.heap.size 3 (.int .i64 i) := (hw.block _ bI'.out.lt).trans bI'.out
      have hz2 := hw.size
      by_cases h2 : i < x.1.f + x.1.n
      · have h2' : decide (i < x.1.f + x.1.n) = true := by simpa using h2
        obtain ⟨d1, d2, d3⟩ := bX2.cell
        obtain ⟨s1, s2, s3⟩ := bF2.cell
        have g0 := bF2.frozen 0
        have g1 := bF2.frozen 1
        have g2 := bF2.frozen 2
        have sO := bO2.cell
        have gO := bO2.frozen
        have HR2 := Lib.hid bR2
        have HF2 := Lib.hid bF2
        have HO2 := Lib.hid bO2
        clear bR2 bF2 bO2 bI2 bX2
        gi_wp2
        refine ⟨?_, rfl, x.1, true, ⟨⟨⟨?_, ?_⟩, ?_⟩, pre, x, rfl, HP.out, .inr ⟨by omega, h2, rfl, rfl⟩⟩, ?_⟩
        · exact hk.trans (((((KeepsOthers.setCell _ _ _).trans (KeepsOthers.setCell _ _ _)).trans (KeepsOthers.setCell _ _ _)).trans (KeepsOthers.setCell _ _ _)).from _)
        · exact (((HR2.out.other (by omega) _ _).other (by omega) _ _).other (by omega) _ _).other (by omega) _ _
        · exact (HF2.out.set3 x.1).other (by omega) _ _
        · exact (Boxed.far (Boxed.far (Boxed.far HO2.out (by omega) _ _) (by omega) _ _) (by omega) _ _).set _
        · exact (((hB2.setCell (by simp; omega) _).setCell (by simp; omega) _).setCell (by simp; omega) _).setCell (by simp; omega) _
      · have h2' : decide (i < x.1.f + x.1.n) = false := by simpa using h2
        gi_wp2
        refine ⟨hk, hw.mono (by omega), ⟨⟨⟨⟨⟨⟨bI2, bR2⟩, bF2⟩, bO2⟩, fun y hy => ?_⟩, by omega⟩, hB2⟩⟩
        rcases List.mem_append.1 hy with hy | hy
        · exact HP.out y hy
        · obtain rfl : y = x := by simpa using hy
          exact ⟨by omega, by omega⟩
  case done =>
    rintro D zs W hD rfl ⟨⟨⟨⟨⟨⟨bI1, bR1⟩, bF1⟩, bO1⟩, hp1⟩, hz1⟩, hB1⟩ hK
    have hs : seekR i zs = R3.zero ∧ (seek i zs).isSome = false := by
      have := seek_past i zs [] hp1
      rw [List.append_nil] at this
      unfold seekR
      rw [this]
      exact ⟨rfl, rfl⟩
    have HS := Lib.hid hs
    clear hs
    have HK := Lib.hid hK
    obtain ⟨s1, s2, s3⟩ := bF1.cell
    obtain ⟨q1, q2, q3⟩ := bR1.cell
    have g0 := bR1.frozen 0
    have g1 := bR1.frozen 1
    have g2 := bR1.frozen 2
    have sO := bO1.cell
    have HR := Lib.hid bR1
    clear bI bR bF bO bN hp1 hK bI1 bR1 bF1
    gi_wp2
    gi_region
    all_goals gi_wp2
    all_goals
      refine at_leave ((((KeepsOthers.drew W).trans (KeepsOthers.setCell _ _ _)).trans ((KeepsOthers.setCell _ _ _).trans (KeepsOthers.setCell _ _ _))).same D _ HK.out rfl) (Run3.set3 (w := W.drew) HR.out ⟨0, 0, 0⟩) rfl rfl ?_
      refine ⟨by rw [HS.out.1, HS.out.2]; rfl, ?_⟩
      exact (((hB1.drew.setCell (by simp) _).setCell (by simp) _).setCell (by simp) _).trans (belowK_b (w := w) (Nat.le_refl _) _ D _ _ (by omega) ((((KeepsOthers.drew W).trans (KeepsOthers.setCell _ _ _)).trans ((KeepsOthers.setCell _ _ _).trans (KeepsOthers.setCell _ _ _))).same D _ HK.out rfl) rfl rfl)
  case stop =>
    rintro D c pre W hD hpre ⟨rfl, r, ok, ⟨⟨⟨bR1, bF1⟩, bO1⟩, he⟩, hB1⟩ hK
    have HS := Lib.hid (he.seek hpre)
    have HK := Lib.hid hK
    obtain ⟨s1, s2, s3⟩ := bF1.cell
    obtain ⟨q1, q2, q3⟩ := bR1.cell
    have g0 := bR1.frozen 0
    have g1 := bR1.frozen 1
    have g2 := bR1.frozen 2
    have sO := bO1.cell
    have HR := Lib.hid bR1
    clear bI bR bF bO bN hK bR1 bF1 bO1 he
    gi_wp2
    gi_region
    all_goals gi_wp2
    all_goals
      refine at_leave ((((KeepsOthers.drew W).trans (KeepsOthers.setCell _ _ _)).trans ((KeepsOthers.setCell _ _ _).trans (KeepsOthers.setCell _ _ _))).same D _ HK.out rfl) (Run3.set3 (w := W.drew) HR.out r) rfl rfl ?_
      refine ⟨by rw [HS.out.1, HS.out.2], ?_⟩
      exact (((hB1.drew.setCell (by simp) _).setCell (by simp) _).setCell (by simp) _).trans (belowK_b (w := w) (Nat.le_refl _) _ D _ _ (by omega) ((((KeepsOthers.drew W).trans (KeepsOthers.setCell _ _ _)).trans ((KeepsOthers.setCell _ _ _).trans (KeepsOthers.setCell _ _ _))).same D _ HK.out rfl) rfl rfl)
end Go.Proofs.YtikkfapgmbamlaaGreatDoor.Pt
end
section
/- put: a run behind the others. -/
namespace Go.Proofs.YtikkfapgmbamlaaGreatDoor.Pt
open Go.RowKit Go.Shelf Ut
set_option linter.unusedVariables false

def putL (rs : List R3) (r : R3) : List R3 :=
  if r.n = 0 then rs else
  if rs = [] then [r] else
  if (rs.getD (rs.length - 1) default).w = r.w then rs.set (rs.length - 1) ⟨(rs.getD (rs.length - 1) default).f, wrap64 ((rs.getD (rs.length - 1) default).n + r.n), (rs.getD (rs.length - 1) default).w⟩
  else rs ++ [r]
theorem putL_length (rs : List R3) (r : R3) : (putL rs r).length ≤ rs.length + 1 := by
  unfold putL
  split
  · omega
  · split
    · simp
    · split <;> simp

theorem OwnS.cellAt {w : World} {B g cap : Nat} {rs : List R3} (h : OwnS w B (.slice (some ⟨g, 0, none⟩) rs.length cap) rs) (i : Nat) (hi : i < rs.length) : CellsAt w g i (rs.getD i default) := by
  obtain ⟨h1, h2, h3⟩ := cs3_get rs i hi
  exact ⟨by rw [World.ownsRow.cellAt h _ (by omega)]; exact h1, by rw [World.ownsRow.cellAt h _ (by omega)]; exact h2, by rw [World.ownsRow.cellAt h _ (by omega)]; exact h3⟩

theorem cs3_set (rs : List R3) : ∀ (i : Nat) (r : R3), i < rs.length → (cs3 rs).set (i * 3 + 1) (.int .i64 r.n) = cs3 (rs.set i ⟨(rs.getD i default).f, r.n, (rs.getD i default).w⟩) := by
  induction rs with
  | nil => intro i r hi; exact absurd hi (by simp)
  | cons x xs ih =>
    intro i r hi
    cases i with
    | zero => rfl
    | succ i =>
      have e : (i + 1) * 3 + 1 = i * 3 + 1 + 1 + 1 + 1 := by omega
      rw [e, cs3_cons]
      simp only [List.set_cons_succ, List.getD_cons_succ]
      rw [cs3_cons, ih i r (by simpa using hi)]

theorem A.info45 : (Tryz.prog.info? 108).map (fun i => (i.zero, i.size, i.bytes)) = some (some (.agg #[.int .i64 0, .int .i64 0, .int .i64 0]), 3, 24) := by kernel_rfl

/-- the new row, and what else has changed: nothing but the row -/
def PutPost (w : World) (n0 : Nat) (v : Value) (rs : List R3) (e : Ending) (w' : World) : Prop :=
  ∃ v', e = .returned v' ∧ OwnS w' n0 v' rs ∧ w.grownBy w' v.ownBlock ∧ (v'.ownBlock = v.ownBlock ∨ ∃ g, v'.ownBlock = some g ∧ w.heap.size ≤ g)

theorem cell_three_new (w : World) (r : R3) (t : TypeId) : ∀ j u, (cs3 [r])[j]? = some u → (w.alloc (.cells #[.int .i64 r.f, .int .i64 r.n, .int .i64 r.w] t)).cell? ((⟨w.heap.size, 0, none⟩ : Addr).add j) = some u := by
  intro j u hj
  rw [add_plain]
  have h := World.alloc_heap_new w (.cells #[.int .i64 r.f, .int .i64 r.n, .int .i64 r.w] t)
  have hj3 : j < 3 := by
    rcases Nat.lt_or_ge j 3 with h | h
    · exact h
    · rw [List.getElem?_eq_none (by rw [cs3_length]; simpa using h)] at hj; cases hj
  rcases (by omega : j = 0 ∨ j = 1 ∨ j = 2) with rfl | rfl | rfl
  · simp [cs3, R3.cs] at hj; subst hj; unfold World.cell?; rw [show (w.alloc _).heap[(⟨w.heap.size, _, none⟩ : Addr).block]? = _ from h]; rfl
  · simp [cs3, R3.cs] at hj; subst hj; unfold World.cell?; rw [show (w.alloc _).heap[(⟨w.heap.size, _, none⟩ : Addr).block]? = _ from h]; rfl
  · simp [cs3, R3.cs] at hj; subst hj; unfold World.cell?; rw [show (w.alloc _).heap[(⟨w.heap.size, _, none⟩ : Addr).block]? = _ from h]; rfl

theorem grownBy_trans {A B C : World} {row : Option Nat} (h : A.grownBy B row) (k : B.grownBy C row) : A.grownBy C row :=
  ⟨k.os.trans h.os, k.tape.trans h.tape, k.output.trans h.output, Nat.le_trans h.size k.size, fun i hi hne => (k.block i (Nat.lt_of_lt_of_le hi h.size) hne).trans (h.block i hi hne)⟩
theorem grownBy_of_below {A B : World} (row : Option Nat) (h : Below A.heap.size A B) : A.grownBy B row := ⟨h.os, h.tape, h.output, h.size, fun i hi _ => h.block i hi⟩

set_option maxRecDepth 100000 in
set_option maxHeartbeats 1000000 in
theorem put_any (v : Value) (rs : List R3) (r : R3) (n0 : Nat) (w : World) (hown : OwnS w n0 v rs) (hn0 : n0 ≤ w.heap.size) (hl : rs.length ≤ 1000) :
    Calls Tryz.prog 64 #[v, .agg #[.int .i64 r.f, .int .i64 r.n, .int .i64 r.w]] w (PutPost w n0 v (putL rs r)) := by
  have hv : ∃ a cap, v = .slice a rs.length cap := by
    rcases hown.2 with ⟨rfl, h0⟩ | ⟨g, cap, cur, rfl, _⟩
    · exact ⟨none, 0, by rw [h0]⟩
    · exact ⟨_, cap, rfl⟩
  obtain ⟨a, cap, rfl⟩ := hv
  have HO := Lib.hid hown
  clear hown
  have hb1 : Below w.heap.size w (w.alloc (.cells #[.int .i64 r.f, .int .i64 r.n, .int .i64 r.w] 108)) := (Below.refl _ _).alloc (Nat.le_refl _) _
  obtain ⟨i0, hi, hz0, hz1, hz2⟩ := info_parts A.info45
  have HI := Lib.hid hi
  clear hi
  obtain ⟨n, hln⟩ : ∃ n, n = rs.length := ⟨_, rfl⟩
  rw [← hln] at hl HO ⊢
  have HL := Lib.hid hln
  clear hln
  have hcap : n ≤ cap ∧ cap ≤ 9223372036854775807 := by
    have h := HO.out
    rcases h.2 with ⟨h, h0⟩ | ⟨g, cap', cur, h, _, _, h1, h2, _⟩
    · cases h; rw [HL.out]; omega
    · cases h; rw [HL.out]; unfold maxLen at h2; omega
  obtain ⟨hc1, hc2⟩ := hcap
  have HN : Hid (∀ (q j : Nat) (u : Value), (cs3 [r])[j]? = some u → (((w.alloc (.cells #[.int .i64 r.f, .int .i64 r.n, .int .i64 r.w] 108)).drewN q).alloc (.cells #[.int .i64 r.f, .int .i64 r.n, .int .i64 r.w] 108)).cell? ((⟨w.heap.size + 1, 0, none⟩ : Addr).add j) = some u) := Lib.hid fun q j u hj => by
    have h := cell_three_new ((w.alloc (.cells #[.int .i64 r.f, .int .i64 r.n, .int .i64 r.w] 108)).drewN q) r 108 j u hj
    have e : ((w.alloc (.cells #[.int .i64 r.f, .int .i64 r.n, .int .i64 r.w] 108)).drewN q).heap.size = w.heap.size + 1 := by simp
    rw [e] at h
    exact h
  have HB : Hid (∀ (q : Nat), Below w.heap.size w (((w.alloc (.cells #[.int .i64 r.f, .int .i64 r.n, .int .i64 r.w] 108)).drewN q).alloc (.cells #[.int .i64 r.f, .int .i64 r.n, .int .i64 r.w] 108))) := Lib.hid fun q =>
    Below.alloc (w := (w.alloc (.cells #[.int .i64 r.f, .int .i64 r.n, .int .i64 r.w] 108)).drewN q) ⟨hb1.os, hb1.tape, hb1.output, hb1.size, hb1.block⟩ (by simp) _
  have HP2 : Hid (∀ (q : Nat) (v' : Value) (w1 : World), w1.ownsRow n0 108 3 v' (n + 1) (cs3 rs ++ cs3 [r]) → (((w.alloc (.cells #[.int .i64 r.f, .int .i64 r.n, .int .i64 r.w] 108)).drewN q).alloc (.cells #[.int .i64 r.f, .int .i64 r.n, .int .i64 r.w] 108)).grownBy w1 (Value.slice a n cap).ownBlock →
      (v'.ownBlock = (Value.slice a n cap).ownBlock ∨ v'.ownBlock = some (((w.alloc (.cells #[.int .i64 r.f, .int .i64 r.n, .int .i64 r.w] 108)).drewN q).alloc (.cells #[.int .i64 r.f, .int .i64 r.n, .int .i64 r.w] 108)).heap.size) → PutPost w n0 (.slice a n cap) (rs ++ [r]) (.returned v') w1) := Lib.hid fun q v' w1 h1 h2 h3 => by
    refine ⟨v', rfl, ?_, grownBy_trans (grownBy_of_below _ (HB.out q)) h2, h3.imp id fun h => ⟨_, h, by simp; omega⟩⟩
    unfold OwnS
    rw [cs3_append, List.length_append, ← HL.out]
    exact h1
  by_cases h0 : r.n = 0
  · have hp : putL rs r = rs := by unfold putL; rw [if_pos h0]
    have HP := Lib.hid hp
    clear hp
    have h0' : (r.n == 0) = true := by simpa using h0
    clear h0
    go_enter Tryz.func64, Tryz.ntmps64
    go_wp2
    go_ret
    exact ⟨_, rfl, by rw [HP.out]; exact HO.out.below hb1, grownBy_of_below _ hb1, .inl rfl⟩
  · have h0' : (r.n == 0) = false := by simpa using h0
    have H0 := Lib.hid h0
    clear h0
    by_cases hn : n = 0
    · subst hn
      have hr : rs = [] := List.length_eq_zero_iff.1 HL.out.symm
      have hp : putL rs r = rs ++ [r] := by unfold putL; rw [if_neg H0.out, if_pos hr, hr]; rfl
      have HP := Lib.hid hp
      clear hp hr
      go_enter Tryz.func64, Tryz.ntmps64
      go_wp2
      go_quiet (fail)
      have HQ : ∀ q, (((w.alloc (.cells #[.int .i64 r.f, .int .i64 r.n, .int .i64 r.w] 108)).drewN q).alloc (.cells #[.int .i64 r.f, .int .i64 r.n, .int .i64 r.w] 108)).ownsRow n0 108 3 (.slice a 0 cap) 0 (cs3 rs) := fun q => by
        have h := HO.out.below (HB.out q)
        unfold OwnS at h
        rwa [← HL.out] at h
      go_wp2_with (at_builtin; refine wpList_append_own_at _ rfl _ _ _ rfl n0 108 i0 _ 3 24 Tryz.underlying105 HI.out hz0 hz1 hz2 rfl (by decide) (.slice a 0 cap) 0 (cs3 rs) rfl (HQ _) ⟨w.heap.size + 1, 0, none⟩ 1 1 (cs3 [r]) rfl rfl (HN.out _) (cs3_one _) (by unfold maxLen; omega) (by omega) (by simp; omega) ?_; intro v' w1 hown' hgrow _ hat; clear HQ)
      go_ret
      rw [HP.out]
      exact HP2.out _ _ _ hown' hgrow hat
    · obtain ⟨m, rfl⟩ : ∃ m, n = m + 1 := ⟨n - 1, by omega⟩
      obtain ⟨g, rfl, hgb, hgl⟩ : ∃ g, a = some ⟨g, 0, none⟩ ∧ n0 ≤ g ∧ g < w.heap.size := by
        rcases HO.out.2 with ⟨_, h0⟩ | ⟨g, cap', cur, h, h1, h2, _⟩
        · have := HL.out; omega
        · injection h with e1 e2 e3; exact ⟨g, e1, h1, (Array.getElem?_eq_some_iff.1 h2).1⟩
      have ho1 : OwnS (w.alloc (.cells #[.int .i64 r.f, .int .i64 r.n, .int .i64 r.w] 108)) n0 (.slice (some ⟨g, 0, none⟩) rs.length cap) rs := by
        have h := HO.out.below hb1
        rwa [HL.out] at h
      obtain ⟨c1, c2, c3⟩ := ho1.cellAt m (by have := HL.out; omega)
      have hf : (w.alloc (.cells #[.int .i64 r.f, .int .i64 r.n, .int .i64 r.w] 108)).frozen? ⟨g, m * 3 + 1, none⟩ = false := World.ownsRow.frozenAt ho1 _
      have hs := World.ownsRow.stored ho1 (m * 3 + 1) (.int .i64 (wrap64 ((rs.getD m default).n + r.n)))
      have HS := Lib.hid hs
      have hcs := cs3_set rs m ⟨0, wrap64 ((rs.getD m default).n + r.n), 0⟩ (by have := HL.out; omega)
      have HC := Lib.hid hcs
      clear hs hcs
      have hb0 : (0 : Int) ≤ (m : Int) := by omega
      have hb2 : (m : Int) < ((m + 1 : Nat) : Int) := by omega
      have hne : rs ≠ [] := by intro h; have := HL.out; rw [h] at this; cases this
      have HNe := Lib.hid hne
      clear hne
      by_cases hw : (rs.getD m default).w = r.w
      · have hp : putL rs r = rs.set m ⟨(rs.getD m default).f, wrap64 ((rs.getD m default).n + r.n), (rs.getD m default).w⟩ := by
          unfold putL
          rw [if_neg H0.out, if_neg HNe.out, ← HL.out, Nat.add_sub_cancel, if_pos hw]
        have HP := Lib.hid hp
        have hw' : ((rs.getD m default).w == r.w) = true := by simpa using hw
        clear hp hw
        obtain ⟨L, hLe⟩ : ∃ L, L = rs.getD m default := ⟨_, rfl⟩
        rw [← hLe] at c1 c2 c3 hw' HP HS HC
        clear hLe
        go_enter Tryz.func64, Tryz.ntmps64
        go_wp2
        go_quiet (fail)
        go_wp2
        go_region
        all_goals go_wp2
        all_goals
          go_ret
          rw [HP.out]
          refine ⟨_, rfl, ?_, ?_, .inl rfl⟩
          · unfold OwnS
            rw [List.length_set, ← HC.out, HL.out]
            exact HS.out.1
          · have h := grownBy_trans (grownBy_of_below (some g) hb1) HS.out.2
            exact ⟨h.os, h.tape, h.output, h.size, h.block⟩
      · have hp : putL rs r = rs ++ [r] := by
          unfold putL
          rw [if_neg H0.out, if_neg HNe.out, ← HL.out, Nat.add_sub_cancel, if_neg hw]
        have HP := Lib.hid hp
        have hw' : ((rs.getD m default).w == r.w) = false := by simpa using hw
        clear hp hw
        obtain ⟨L, hLe⟩ : ∃ L, L = rs.getD m default := ⟨_, rfl⟩
        rw [← hLe] at c1 c2 c3 hw' HS HC
        clear hLe
        go_enter Tryz.func64, Tryz.ntmps64
        go_wp2
        go_quiet (fail)
        have HQ : ∀ q, (((w.alloc (.cells #[.int .i64 r.f, .int .i64 r.n, .int .i64 r.w] 108)).drewN q).alloc (.cells #[.int .i64 r.f, .int .i64 r.n, .int .i64 r.w] 108)).ownsRow n0 108 3 (.slice (some ⟨g, 0, none⟩) (m + 1) cap) (m + 1) (cs3 rs) := fun q => by
          have h := HO.out.below (HB.out q)
          unfold OwnS at h
          rwa [← HL.out] at h
        go_wp2_with (at_builtin; refine wpList_append_own_at _ rfl _ _ _ rfl n0 108 i0 _ 3 24 Tryz.underlying105 HI.out hz0 hz1 hz2 rfl (by decide) (.slice (some ⟨g, 0, none⟩) (m + 1) cap) (m + 1) (cs3 rs) rfl (HQ _) ⟨w.heap.size + 1, 0, none⟩ 1 1 (cs3 [r]) rfl rfl (HN.out _) (cs3_one _) (by unfold maxLen; omega) (by omega) (by simp; omega) ?_; intro v' w1 hown' hgrow _ hat; clear HQ)
        go_ret
        rw [HP.out]
        exact HP2.out _ _ _ hown' hgrow hat
end Go.Proofs.YtikkfapgmbamlaaGreatDoor.Pt
end
