/- Several texts in one: Rd Ik -/
import Derived.Test.YtoafonbplbblpaaZ06
import Derived.Test.YtoafonbplbblpaaZ07
section
/- Drawn regions with neither the frame nor the operations' values written out, whose invariant looks at which operations are done (calls that write among them). Serves all packages. -/
namespace Go.Proofs.Ytoafonbplbblpaa.Ut
open Go.RowKit
set_option linter.unusedVariables false

section
variable {P : Program} {ops : Array Oper} {Q : Exit → Act → World → Prop} {T : (Nat → Value) → Array Value} {d : List Deferred} {WI : (Nat → Bool) → World → Prop} {vals : List Value}

/-- what the operations from number k on are asked -/
def AutoLFrom (P : Program) (ops : Array Oper) (Q : Exit → Act → World → Prop) (T : (Nat → Value) → Array Value) (d : List Deferred) (vals : List Value) (WI : (Nat → Bool) → World → Prop) (k : Nat) (l : List Oper) : Prop :=
  StepsFrom P ops Q T d (RV vals) WI (fun _ _ _ => True) k l
theorem autoL_op {k : Nat} {o o' : Oper} {l : List Oper} (s : Nat) (ds : List Nat) (hd : depsOf o = ds)
    (h : ∀ (L : Nat → Bool) (x : Nat → Value) (w : World), L k = false → WI L w → (∀ j ∈ ds, RV vals j (x j) w) → ∀ K : Act → World → Prop, (∀ tm w', tm = T (upd x k (tm.getD s undef)) → tm.getD s undef = nth vals k → WI (fun j => if j = k then true else L j) w' → K { tmps := tm, defers := d } w') →
      if Region.wanted o (yielded ops (T x)) = true then Oper.wp P o { tmps := T x, defers := d } w K Q else K (Act.put { tmps := T x, defers := d } o.dst undef) w)
    (hs : AutoLFrom P ops Q T d vals WI (k + 1) (o' :: l)) : AutoLFrom P ops Q T d vals WI k (o :: o' :: l) := by
  refine steps_op ds hd (fun L x w hL _ hw hR K hK => h L x w hL hw hR K fun tm w' ht hv hw' => ?_) hs
  exact hK _ w' tm ht hv hw' trivial
theorem autoL_last {k : Nat} {o : Oper}
    (h : ∀ (L : Nat → Bool) (x : Nat → Value) (w : World), (∀ j, j < k → L j = true) → WI L w → (∀ j, j < k → RV vals j (x j) w) → ∀ K : Act → World → Prop, (∀ a' w', Q .normal a' w' → K a' w') →
      if Region.wanted o (yielded ops (T x)) = true then Oper.wp P o { tmps := T x, defers := d } w K Q else K (Act.put { tmps := T x, defers := d } o.dst undef) w) : AutoLFrom P ops Q T d vals WI k [o] :=
  steps_last fun L x w _ hall hw hR K hK => h L x w hall hw hR K hK

/-- THE REGION: apply it; T and the values come by unification -/
theorem wp_region_autoL {id : Nat} {a : Act} {w : World} (slots : List Nat) (vals : List Value) (WI : (Nat → Bool) → World → Prop) (hm : P.follows .mixedOrders = true) (hT : ∀ y, setAll a.tmps slots 0 y = T y) (hok : goodOrder ops = true) (hn : 0 < ops.size)
    (hw : ∀ L : Nat → Bool, (∀ j, j < ops.size → L j = false) → WI L w.drew)
    (hs : AutoLFrom P ops Q T a.defers vals WI 0 ops.toList) : (Code.region id ops true).wp P Q a w := by
  refine wp_region_by hm T (RV vals) WI (fun _ _ _ => True) hok hn (fun _ _ _ _ _ _ _ _ _ _ _ h => h) (fun j => a.tmps.getD (slots.getD j 0) undef) ?_ hw hs
  rw [← hT, setAll_self]
  intro j s hj
  simp [List.getD, hj]
end
end Go.Proofs.Ytoafonbplbblpaa.Ut
end
section
/- Both stores of frames side by side: each act answers alike, and leaves like frames. -/
namespace Go.Proofs.Ytoafonbplbblpaa.Fr
open Go.RowKit Ut Oc
set_option linter.unusedVariables false

/-- the frames that flat bytes say -/
def fr (n : Nat) (L : List Int) : List (List Int) := (List.range n).map (frameL L)
theorem fr_at {n : Nat} (L : List Int) {f : Nat} (hf : f < n) : (fr n L).getD f [] = frameL L f := by simp [fr, List.getD, hf]
theorem fr_lay {n : Nat} {L xs : List Int} (hL : L.length = 2048) {f : Nat} (hf : f < n) (hn : n ≤ 32) (hx : xs.length = 64) : (fr n L).set f xs = fr n (layF L f xs) := by
  apply List.ext_getElem?
  intro i
  simp only [fr, List.getElem?_set, List.length_map, List.length_range, List.getElem?_map]
  by_cases e : f = i
  · subst e
    rw [if_pos rfl, if_pos hf, List.getElem?_range hf]
    simp [frameL_lay hL (by omega : f < 32) hx]
  · rw [if_neg e]
    by_cases hi : i < n
    · rw [List.getElem?_range hi]
      simp [frameL_other hL (by omega : f < 32) (by omega : i < 32) hx (fun q => e q.symm)]
    · rw [List.getElem?_eq_none (by simp; omega)]
      rfl
theorem fr_zeros (n : Nat) (hn : n ≤ 32) : fr n zeros = List.replicate n zer := by
  apply List.ext_getElem?
  intro i
  simp only [fr, List.getElem?_map, List.getElem?_replicate]
  by_cases hi : i < n
  · rw [if_pos hi, List.getElem?_range hi]
    simp [zeros_zer i (by omega)]
  · rw [if_neg hi, List.getElem?_eq_none (by simp; omega)]
    rfl

/-- the document's store, wherever its slices lie -/
def RF (w : World) (bt B n : Nat) (L : List Int) : Prop := ∃ v vs, RT w bt B n (fr n L) v vs
theorem RF.kept {w w' : World} {bt B n : Nat} {L : List Int} {row : Option Nat} (h : RF w bt B n L) (hg : w.grownBy w' row) (hr : ∀ k, row = some k → k < B) : RF w' bt B n L := by
  obtain ⟨v, vs, h⟩ := h
  exact ⟨v, vs, h.kept hg hr⟩
theorem RF.below {w w' : World} {bt B n : Nat} {L : List Int} (h : RF w bt B n L) (hb : Below w.heap.size w w') : RF w' bt B n L := by
  obtain ⟨v, vs, h⟩ := h
  exact ⟨v, vs, h.below hb⟩

theorem grown_refl (w : World) (row : Option Nat) : w.grownBy w row := ⟨rfl, rfl, rfl, Nat.le_refl _, fun _ _ _ => rfl⟩

/-- an act on the program's store: code z, bytes L' -/
def PAct (fn : FuncId) (args : List Value) (b n : Nat) (L : List Int) (z : Int) (L' : List Int) : Prop :=
  ∀ W, St W b n L → Calls Try.prog fn (.pointer (some ⟨b, 0, none⟩) :: args).toArray W fun e W' => e = .returned (.int .i64 z) ∧ St W' b n L' ∧ W.grownBy W' (some b)
/-- .. on the document's -/
def RAct (fn : FuncId) (args : List Value) (bt B n : Nat) (L : List Int) (z : Int) (L' : List Int) : Prop :=
  ∀ W, RF W bt B n L → B ≤ W.heap.size → Calls Try.prog fn (.pointer (some ⟨bt, 0, none⟩) :: args).toArray W fun e W' => e = .returned (.int .i64 z) ∧ RF W' bt B n L' ∧ Below B W W'

theorem save_both (b bt B n : Nat) (f o m x : Int) (L : List Int) (hL : L.length = 2048) (hB : AreBytes L) (hn : n ≤ 32) (hx0 : 0 ≤ x) (hx1 : x < 4294967296) : ∃ z L',
    PAct 52 [.int .i64 f, .int .i64 o, .int .i64 m, .int .u32 x] b n L z L' ∧ RAct 53 [.int .i64 f, .int .i64 o, .int .i64 m, .int .u32 x] bt B n L z L' ∧ L'.length = 2048 ∧ AreBytes L' := by
  rcases place_cases n f o m with h | ⟨F, rfl, hF, h | ⟨O, M, rfl, rfl, h1, h2, _⟩⟩
  · refine ⟨1, L, fun W hS => ?_, fun W hR _ => ?_, hL, hB⟩
    · exact (save_no _ f o m x 1 W (.inl rfl) (find_out b n f L W hS h)).mono fun e W' ⟨he, hw⟩ => by subst hw; exact ⟨he, hS, grown_refl _ _⟩
    · obtain ⟨v, vs, hT⟩ := hR
      exact (refSave_no o m x hT h).mono fun e W' ⟨he, hw⟩ => by subst hw; exact ⟨he, ⟨v, vs, hT⟩, Below.refl _ _⟩
  · refine ⟨1, L, fun W hS => ?_, fun W hR _ => ?_, hL, hB⟩
    · exact (save_out b n F o m x L W hS hF h).mono fun e W' ⟨he, hw⟩ => by subst hw; exact ⟨he, hS, grown_refl _ _⟩
    · obtain ⟨v, vs, hT⟩ := hR
      exact (refSave_out x hT hF h).mono fun e W' ⟨he, hw⟩ => by subst hw; exact ⟨he, ⟨v, vs, hT⟩, Below.refl _ _⟩
  · have hfl := length_frameL hL (f := F) (by omega)
    have hpl : (putZ (frameL L F) O M x).length = 64 := by rw [length_putZ _ _ _ _ (by omega), hfl]
    refine ⟨0, layF L F (putZ (frameL L F) O M x), fun W hS => save_in b n F O M x L W hS hF h1 h2 hx0 hx1, fun W hR hBW => ?_, length_layF hL (by omega) hpl, layF_bytes hB F (putZ_bytes (frameL_bytes hB F) O M x)⟩
    obtain ⟨v, vs, hT⟩ := hR
    refine (refSave_in hT hF h1 h2 hx0 hx1 hBW).mono ?_
    rintro e W' ⟨he, ⟨v', vs', hT'⟩, hb⟩
    rw [fr_at L hF, fr_lay hL hF hn hpl] at hT'
    exact ⟨he, ⟨v', vs', hT'⟩, hb⟩

theorem load_both (b bt B n : Nat) (f o m : Int) (L : List Int) (hn : n ≤ 32) : ∃ u z : Int,
    (∀ W, St W b n L → Calls Try.prog 43 #[.pointer (some ⟨b, 0, none⟩), .int .i64 f, .int .i64 o, .int .i64 m] W fun e W' => e = .returned (.tuple #[.int .u32 u, .int .i64 z]) ∧ W = W') ∧
    (∀ W, RF W bt B n L → Calls Try.prog 83 #[.pointer (some ⟨bt, 0, none⟩), .int .i64 f, .int .i64 o, .int .i64 m] W fun e W' => e = .returned (.tuple #[.int .u32 u, .int .i64 z]) ∧ W = W') := by
  rcases place_cases n f o m with h | ⟨F, rfl, hF, h | ⟨O, M, rfl, rfl, h1, h2, _⟩⟩
  · exact ⟨0, 1, fun W hS => load_no _ f o m 1 W (.inl rfl) (find_out b n f L W hS h), fun W ⟨v, vs, hT⟩ => refLoad_no o m hT h⟩
  · exact ⟨0, 1, fun W hS => load_out b n F o m L W hS hF h, fun W ⟨v, vs, hT⟩ => refLoad_out hT hF h⟩
  · refine ⟨num (((frameL L F).drop O).take M), 0, fun W hS => load_in b n F O M L W hS hF h1 h2, fun W ⟨v, vs, hT⟩ => ?_⟩
    have := refLoad_in hT hF h1 h2
    rwa [fr_at L hF] at this

end Go.Proofs.Ytoafonbplbblpaa.Fr
end
