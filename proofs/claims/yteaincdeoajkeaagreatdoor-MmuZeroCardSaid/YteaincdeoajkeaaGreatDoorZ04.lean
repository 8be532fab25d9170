/- Several texts in one: If Ig Rd Ik -/
import Derived.Test.YteaincdeoajkeaaGreatDoorZ03
import Derived.Maps.AppendAt
section
/- The document's store of frames: Clear, Clean of a frame that is there; New. -/
namespace Go.Proofs.YteaincdeoajkeaaGreatDoor.Fr
open Go.RowKit Ut Oc
set_option linter.unusedVariables false

/-- a new row of zeros -/
def zc : List Value := zer.map (Value.int .u8)
theorem made_zc : madeCells #[.int .u8 0] 64 = zc.toArray := by kernel_rfl
theorem mk64 (W : World) : (Instr.makeSlice 70 (.int .i64 64) (.int .i64 64)).run Tryz.prog W = .ok (.slice (some ⟨W.heap.size, 0, none⟩) 64 64) (W.alloc (.cells zc.toArray 5)) := by
  rw [← made_zc]
  exact run_make_row' (P := Tryz.prog) 70 5 (.int .u8 0) 1 Tryz.underlying70 info_byte rfl .i64 .i64 64 (by omega) (by omega) W
theorem row64_new (w : World) (B : Nat) (hB : B ≤ w.heap.size) : Row64 (w.alloc (.cells zc.toArray 5)) B (.slice (some ⟨w.heap.size, 0, none⟩) 64 64) zer := by
  refine ⟨_, 64, rfl, hB, Nat.le_refl _, by omega, zer_len, fun i hi => ⟨_, rfl, by simp, ?_⟩⟩
  rw [add_plain]
  have h : (w.alloc (.cells zc.toArray 5)).heap[w.heap.size]? = some (.cells zc.toArray 5 (0, 0)) := heap_alloc_new w _
  have hl := zer_len
  unfold World.cell?
  simp only [h]
  simp [zc, List.getD, show i < zer.length by omega]

theorem setCell_alloc_comm (w : World) (a : Addr) (u : Value) (o : Obj) (h : a.block < w.heap.size) : (w.setCell a u).alloc o = (w.alloc o).setCell a u := by
  unfold World.setCell World.alloc
  simp only
  congr 1
  apply Array.ext_getElem?
  intro i
  simp only [Array.getElem?_push, Array.getElem?_modify, Array.size_modify]
  by_cases e1 : i = w.heap.size
  · rw [if_pos e1, if_neg (by omega), if_pos e1]
  · rw [if_neg e1, if_neg e1]
theorem zer_at (i : Nat) : zer.getD i 0 = 0 := by
  unfold zer
  generalize 64 = m
  by_cases h : i < m
  · simp [List.getD, h]
  · simp [List.getD, List.getElem?_eq_none (show (List.replicate m (0 : Int)).length ≤ i by simp; omega)]
theorem all_zero {xs : List Int} (hl : xs.length = 64) (h : ∀ i, i < 64 → xs.getD i 0 = 0) : xs = zer := by
  refine ext_getD (hl.trans zer_len.symm) fun j hj => ?_
  rw [h j (by omega), zer_at]
theorem not_zero {xs : List Int} {i : Nat} (hi : i < 64) (h : ¬ xs.getD i 0 = 0) : (xs == zer) = false := by
  rw [beq_eq_false_iff_ne]
  rintro rfl
  exact h (zer_at i)

theorem refNew_bad (n : Int) (w : World) (h : n < 0 ∨ 32 < n) :
    Calls Tryz.prog 27 #[.int .i64 n] w fun e w' => e = .returned (.tuple #[.pointer none, .int .i64 1]) ∧ w = w' := by
  rcases Int.lt_or_le n 0 with f0 | f0
  · have f1 : decide (n < 0) = true := by simpa using f0
    go_enter Tryz.func27, Tryz.ntmps27
    go_wp2
    go_ret2
    exact ⟨rfl, rfl⟩
  · have f1 : decide (n < 0) = false := by simpa using f0
    have f2 : decide (32 < n) = true := by simp; omega
    go_enter Tryz.func27, Tryz.ntmps27
    go_wp2
    go_ret2
    exact ⟨rfl, rfl⟩

theorem info_row : (Tryz.prog.info? 70).map (fun i => (i.zero, i.size, i.bytes)) = some (some (.slice none 0 0), 1, 24) := by kernel_rfl

/-- one frame more -/
theorem RT.more {w : World} {bt B k : Nat} {R : List (List Int)} {v : Value} {vs : List Value} (h : RT w bt B k R v vs) (hB : B ≤ w.heap.size) (hk : k < 32) (W2 : World)
    (hW2 : W2 = (w.alloc (.cells zc.toArray 5)).alloc (.cells #[.slice (some ⟨w.heap.size, 0, none⟩) 64 64] 70)) (ty : TypeId) :
    ∃ v' w', (Builtin.append_ #[62, 62] ty #[v, .slice (some ⟨w.heap.size + 1, 0, none⟩) 1 1]).run Tryz.prog W2 = .ok v' w' ∧ w'.cell? ⟨bt, 0, none⟩ = some v ∧ w'.frozen? ⟨bt, 0, none⟩ = false ∧
      RT (w'.setCell ⟨bt, 0, none⟩ v') bt B (k + 1) (R ++ [zer]) v' (vs ++ [.slice (some ⟨w.heap.size, 0, none⟩) 64 64]) ∧ Below B w (w'.setCell ⟨bt, 0, none⟩ v') := by
  have hA : Below w.heap.size w W2 := by subst hW2; exact ((Below.refl _ _).alloc (Nat.le_refl _) _).alloc (by simp) _
  have hR1 := (row64_new w B hB)
  have hR2 : Row64 W2 B (.slice (some ⟨w.heap.size, 0, none⟩) 64 64) zer := by subst hW2; exact hR1.kept (World.grownBy_alloc _ _ none) (fun g hg e => by cases e)
  have h2 := h.below hA
  have hsz := hA.size
  cases hq : Tryz.prog.info? 70 with
  | none => have := info_row; simp [hq] at this
  | some i =>
    have hin := info_row
    simp only [hq, Option.map_some, Option.some.injEq, Prod.mk.injEq] at hin
    obtain ⟨hz, hs, hb⟩ := hin
    have hnc : ∀ j u, [Value.slice (some ⟨w.heap.size, 0, none⟩) 64 64][j]? = some u → W2.cell? ((⟨w.heap.size + 1, 0, none⟩ : Addr).add j) = some u := by
      intro j u hj
      cases j with
      | succ j => simp at hj
      | zero =>
        simp at hj
        subst hj hW2
        rw [add_plain]
        have e := heap_alloc_new (w.alloc (.cells zc.toArray 5)) (.cells #[.slice (some ⟨w.heap.size, 0, none⟩) 64 64] 70)
        have es : (w.alloc (.cells zc.toArray 5)).heap.size = w.heap.size + 1 := by simp
        rw [es] at e
        unfold World.cell?
        simp only [e]
        rfl
    obtain ⟨v', w', hrun, ho, hg, _, hob⟩ := run_append_own_at (P := Tryz.prog) W2 B 62 ty 70 i (.slice none 0 0) 1 24 Tryz.underlying62 hq hz hs hb rfl (by omega) v k vs h2.own ⟨w.heap.size + 1, 0, none⟩ 1 1 [.slice (some ⟨w.heap.size, 0, none⟩) 64 64] rfl hnc (fun u hu => by simp at hu; subst hu; rfl) (by unfold maxLen; omega) (by omega) (by omega)
    have hvb : v.ownBlock ≠ some bt := by
      rcases h2.own.2 with ⟨rfl, _⟩ | ⟨g2, cap2, cur, rfl, _, hg2, _⟩
      · simp [Value.ownBlock]
      · simp only [Value.ownBlock]
        intro e
        simp at e
        subst e
        have hb2 := h2.box
        rw [hb2] at hg2
        injection hg2 with hg2
        injection hg2 with _ hg2
        cases hg2
    have hbox : w'.heap[bt]? = some (.cells #[v] 64 (0, 0)) := (hg.block bt h2.lt (fun e => hvb e.symm)).trans h2.box
    have hbl : bt < w'.heap.size := (Array.getElem?_eq_some_iff.1 hbox).1
    have hvb2 : v'.ownBlock ≠ some bt := by
      rcases hob with e | e
      · rw [e]; exact hvb
      · rw [e]
        have := h2.lt
        intro q
        injection q with q
        omega
    have hgs : w'.grownBy (w'.setCell ⟨bt, 0, none⟩ v') (some bt) := ⟨rfl, rfl, rfl, by simp [World.setCell], fun q _ hne => Below.heap_setCell _ _ _ _ (fun e => hne (by rw [e]))⟩
    -- a byte row's block is neither the box nor the outer row's
    have hrow : ∀ (y : Value) (ys : List Int), Row64 W2 B y ys → Row64 (w'.setCell ⟨bt, 0, none⟩ v') B y ys := by
      intro y ys hy
      obtain ⟨g', c, rfl, hB', q1, q2, q3⟩ := id hy
      obtain ⟨x, e, hxl, hc⟩ := q3.2 0 (by omega)
      injection e with e
      subst e
      rw [add_plain] at hc
      refine (hy.kept hg fun g hyg e => ?_).kept hgs fun g hyg e => ?_
      · simp [Value.ownBlock] at hyg
        subst hyg
        rcases h2.own.2 with ⟨hq2, _⟩ | ⟨g2, cap2, cur, hq2, _, hg2, hcap, _, hcs, htk⟩
        · rw [hq2] at e; simp [Value.ownBlock] at e
        · rw [hq2] at e
          simp [Value.ownBlock] at e
          subst e
          by_cases hk0 : k = 0
          · have := h2.nil0 hk0
            rw [hq2] at this
            cases this
          · have h20 := h2
            rw [hq2] at h20
            obtain ⟨q4, q5, hq6, _⟩ := h20.at_ 0 (by omega)
            rw [hq6] at hc
            cases hc
      · simp [Value.ownBlock] at hyg
        injection e with e
        subst hyg e
        simp [World.cell?, h2.box] at hc
        have := h2.own
        rw [hc] at this
        rcases this.2 with ⟨hq2, _⟩ | ⟨_, _, _, hq2, _⟩ <;> cases hq2
    refine ⟨v', w', hrun, by simp [World.cell?, hbox], by simp [World.frozen?, hbox], ⟨?_, h.lo, ?_, by simp [h.len], ?_, ?_, fun e => by omega⟩, ?_⟩
    · have := heap_setCell_same w' bt 0 #[v] 64 v' hbox
      simpa using this
    · exact ho.kept hgs (.inr hvb2)
    · intro i hi
      by_cases e : i = k
      · subst e
        have e1 : (vs ++ [Value.slice (some ⟨w.heap.size, 0, none⟩) 64 64]).getD i undef = .slice (some ⟨w.heap.size, 0, none⟩) 64 64 := by simp [List.getD, h.vlen]
        have e2 : (R ++ [zer]).getD i [] = zer := by simp [List.getD, h.len]
        rw [e1, e2]
        exact hrow _ _ hR2
      · have hik : i < k := by omega
        have e1 : (vs ++ [Value.slice (some ⟨w.heap.size, 0, none⟩) 64 64]).getD i undef = vs.getD i undef := by simp only [List.getD]; rw [List.getElem?_append_left (by rw [h.vlen]; exact hik)]
        have e2 : (R ++ [zer]).getD i [] = R.getD i [] := by simp only [List.getD]; rw [List.getElem?_append_left (by rw [h.len]; exact hik)]
        rw [e1, e2]
        exact hrow _ _ (h2.rows i hik)
    · intro i hi
      by_cases e : i = k
      · subst e
        have e2 : (R ++ [zer]).getD i [] = zer := by simp [List.getD, h.len]
        rw [e2]; exact zer_bytes
      · have e2 : (R ++ [zer]).getD i [] = R.getD i [] := by simp only [List.getD]; rw [List.getElem?_append_left (by rw [h.len]; omega)]
        rw [e2]; exact h.bytes i (by omega)
    · refine ((hA.mono hB).grown hg (by omega) fun q hq => ?_).setCell (p := ⟨bt, 0, none⟩) h.lo v'
      exact (h2.own.lt q hq).1

set_option maxRecDepth 100000 in
theorem refNew_ok (n : Nat) (w : World) (h : n ≤ 32) :
    Calls Tryz.prog 27 #[.int .i64 n] w fun e w' =>
      e = .returned (.tuple #[.pointer (some ⟨w.heap.size, 0, none⟩), .int .i64 0]) ∧ (∃ v vs, RT w' w.heap.size w.heap.size n (List.replicate n zer) v vs) ∧ Below w.heap.size w w' := by
  have f1 : decide ((n : Int) < 0) = false := by simp
  have f2 : decide ((32 : Int) < (n : Int)) = false := by simp; omega
  have hn1 : (n : Int) ≤ 32 := by omega
  have HH := Lib.hid h
  have hT0 : RT (w.alloc (.cells #[.slice none 0 0] 64)) w.heap.size w.heap.size 0 [] (.slice none 0 0) [] :=
    ⟨heap_alloc_new w _, Nat.le_refl _, World.ownsRow_nil _ _ _ _, rfl, fun i hi => absurd hi (Nat.not_lt_zero i), fun i hi => absurd hi (Nat.not_lt_zero i), fun _ => rfl⟩
  have HT0 := Lib.hid hT0
  have HB0 := (Below.refl w.heap.size w).alloc (Nat.le_refl _) (.cells #[.slice none 0 0] 64)
  have hmk := mk64
  clear h hT0
  go_enter Tryz.func27, Tryz.ntmps27
  go_wp2
  go_loopw [5] (fun j wr => ∃ (k : Nat) (v : Value) (vs : List Value), k ≤ n ∧ j = .int .i64 k ∧ Hid (RT wr w.heap.size w.heap.size k (List.replicate k zer) v vs) ∧ Below w.heap.size w wr) (fun j _ => n - (intOf j).toNat)
  case atStart => exact ⟨0, _, _, Nat.zero_le _, rfl, HT0, HB0⟩
  case round =>
    obtain ⟨k, v, vs, hk, rfl, HT, hbw⟩ := hrel
    by_cases hlt : k < n
    · have hsz := hbw.size
      have hg32 := HH.out
      have hle : w.heap.size ≤ wr.heap.size := by have := HT.out.lt; omega
      obtain ⟨v', w', hrun, hc, hfz, hT', hb'⟩ := (HT.out.below (Below.refl _ _).drew).more hle (by omega) ((wr.alloc (.cells zc.toArray 5)).alloc (.cells #[.slice (some ⟨wr.heap.size, 0, none⟩) 64 64] 70)).drew rfl 62
      have h0 : (((wr.alloc (.cells zc.toArray 5)).alloc (.cells #[.slice (some ⟨wr.heap.size, 0, none⟩) 64 64] 70)).drew).cell? ⟨w.heap.size, 0, none⟩ = some v :=
        ((((Below.refl wr.heap.size wr).alloc (Nat.le_refl _) _).alloc (by simp) _).cell (p := ⟨w.heap.size, 0, none⟩) HT.out.lt).trans HT.out.cell0
      obtain ⟨g', cap', rfl, _⟩ := hT'.form (by omega)
      have h0a := HT.out.cell0
      have h0b : (wr.alloc (.cells zc.toArray 5)).cell? ⟨w.heap.size, 0, none⟩ = some v := (((Below.refl wr.heap.size wr).alloc (Nat.le_refl _) _).cell (p := ⟨w.heap.size, 0, none⟩) HT.out.lt).trans HT.out.cell0
      have HTn : Hid (RT (w'.setCell ⟨w.heap.size, 0, none⟩ (.slice (some ⟨g', 0, none⟩) (k + 1) cap')) w.heap.size w.heap.size (k + 1) (List.replicate (k + 1) zer) (.slice (some ⟨g', 0, none⟩) (k + 1) cap') (vs ++ [.slice (some ⟨wr.heap.size, 0, none⟩) 64 64])) := by rw [List.replicate_succ']; exact hT'
      have HBn := hbw.trans (((Below.refl _ _).drew).trans hb')
      change (Builtin.append_ #[62, 62] 62 #[v, .slice (some ⟨wr.heap.size + 1, 0, none⟩) 1 1]).run Tryz.prog _ = _ at hrun
      clear hT' hb' hg32 hle hsz HT
      generalize zc.toArray = Z at hrun hmk h0 h0b
      have HRUN := Lib.hid hrun
      clear hrun
      go_wp2
      go_region_law (refine step_append_run rfl (.tmp 23) (.tmp 25) 62 rfl _ _ rfl rfl _ w' HRUN.out ?_)
      all_goals (go_wp2; go_roundw)
      all_goals first | exact ⟨k + 1, _, _, by omega, by go_num, HTn, HBn⟩ | (simp [intOf]; omega)
    · obtain rfl : k = n := by omega
      go_wp2
      go_ret2
      exact ⟨rfl, ⟨_, _, HT.out⟩, hbw⟩
end Go.Proofs.YteaincdeoajkeaaGreatDoor.Fr
end
section
/- The statements' own helpers on frames: awake, all; what all tells of two stores. -/
namespace Go.Proofs.YteaincdeoajkeaaGreatDoor.Fr
open Go.RowKit Ut Oc
set_option linter.unusedVariables false

/-- either there is no such place, or it is one of frame F from O on -/
theorem place_cases (n : Nat) (f o m : Int) : (f < 0 ∨ (n : Int) ≤ f) ∨ (∃ F : Nat, f = F ∧ F < n ∧ (hold 64 o m = false ∨ ∃ O M : Nat, o = O ∧ m = M ∧ isW (M : Int) = true ∧ O + M ≤ 64 ∧ 0 < M ∧ M ≤ 4)) := by
  rcases Int.lt_or_le f 0 with h | h
  · exact .inl (.inl h)
  · rcases Int.lt_or_le f n with h2 | h2
    · obtain ⟨F, rfl⟩ := Int.eq_ofNat_of_zero_le h
      refine .inr ⟨F, rfl, by omega, ?_⟩
      cases hh : hold 64 o m with
      | false => exact .inl rfl
      | true =>
        obtain ⟨O, M, h1, h2, h3, h4, h5, h6⟩ := hold_yes hh
        exact .inr ⟨O, M, h1, h2, h3, h4, h5, h6⟩
    · exact .inl (.inr h2)
theorem save_cases (b n : Nat) (f o m v : Int) (L : List Int) (w : World) (hS : St w b n L) :
    Calls Tryz.prog 67 #[.pointer (some ⟨b, 0, none⟩), .int .i64 f, .int .i64 o, .int .i64 m, .int .u32 v] w (fun e w' => e = .returned (.int .i64 1) ∧ w = w') ∨
      ∃ F O M : Nat, f = F ∧ o = O ∧ m = M ∧ F < n ∧ isW (M : Int) = true ∧ O + M ≤ 64 := by
  rcases place_cases n f o m with h | ⟨F, rfl, hF, h | ⟨O, M, rfl, rfl, h1, h2, _⟩⟩
  · exact .inl (save_no _ f o m v 1 w (.inl rfl) (find_out b n f L w hS h))
  · exact .inl (save_out b n F o m v L w hS hF h)
  · exact .inr ⟨F, O, M, rfl, rfl, rfl, hF, h1, h2⟩

theorem zeros_zer (f : Nat) (hf : f < 32) : frameL zeros f = zer := zeros_frame f hf
theorem put1 : (putZ zer 60 4 1 == zer) = false := by decide +kernel

theorem str_append (xs ys : List Int) : strOfNums xs ++ strOfNums ys = strOfNums (xs ++ ys) := by
  unfold strOfNums
  rw [List.map_append]
  apply ByteArray.ext
  simp
theorem take_frame (L : List Int) (k : Nat) : L.take (64 * k) ++ frameL L k = L.take (64 * (k + 1)) := by
  unfold frameL
  rw [Nat.mul_add, Nat.mul_one, List.take_add]

end Go.Proofs.YteaincdeoajkeaaGreatDoor.Fr
end
section
/- Drawn regions with neither the frame nor the operations' values written out, whose invariant looks at which operations are done (calls that write among them). Serves all packages. -/
namespace Go.Proofs.YteaincdeoajkeaaGreatDoor.Ut
open Go.RowKit
set_option linter.unusedVariables false

section
variable {P : Program} {ops : Array Oper} {Q : Exit → Act → World → Prop} {T : (Nat → Value) → Array Value} {d : List Deferred} {WI : (Nat → Bool) → World → Prop} {vals : List Value}

/-- what the operations from number k on are asked -/
def AutoLFrom (P : Program) (ops : Array Oper) (Q : Exit → Act → World → Prop) (T : (Nat → Value) → Array Value) (d : List Deferred) (vals : List Value) (WI : (Nat → Bool) → World → Prop) (k : Nat) (l : List Oper) : Prop :=
  StepsFrom P ops Q T d (RV vals) WI (fun _ _ _ => True) k l
theorem autoL_op {k : Nat} {o o' : Oper} {l : List Oper} (s : Nat) (ds : List Nat) (hd : depsOf o = ds)
    (h : ∀ (L : Nat → Bool) (x : Nat → Value) (w : World), L k = false → WI L w → (∀ j ∈ ds, RV vals j (x j) w) → ∀ K : Act → World → Prop, (∀ tm w', tm = T (upd x k (tm.getD s undef)) → tm.getD s undef = nth vals k → WI (fun j => if j = k then true else L j) w' → K { tmps := tm, defers := d } w') →
      if Region.wanted o (yielded ops (T x)) = true then Oper.wp P o { tmps := T x, defers := d } w K Q else K (Act.put { tmps := T x, defers := d } o.dst undef) w)
    (hs : AutoLFrom P ops Q T d vals WI (k + 1) (o' :: l)) : AutoLFrom P ops Q T d vals WI k (o :: o' :: l) := by
  refine steps_op ds hd (fun L x w hL _ hw hR K hK => h L x w hL hw hR K fun tm w' ht hv hw' => ?_) hs
  exact hK _ w' tm ht hv hw' trivial
theorem autoL_last {k : Nat} {o : Oper}
    (h : ∀ (L : Nat → Bool) (x : Nat → Value) (w : World), (∀ j, j < k → L j = true) → WI L w → (∀ j, j < k → RV vals j (x j) w) → ∀ K : Act → World → Prop, (∀ a' w', Q .normal a' w' → K a' w') →
      if Region.wanted o (yielded ops (T x)) = true then Oper.wp P o { tmps := T x, defers := d } w K Q else K (Act.put { tmps := T x, defers := d } o.dst undef) w) : AutoLFrom P ops Q T d vals WI k [o] :=
  steps_last fun L x w _ hall hw hR K hK => h L x w hall hw hR K hK

/-- THE REGION: apply it; T and the values come by unification -/
theorem wp_region_autoL {id : Nat} {a : Act} {w : World} (slots : List Nat) (vals : List Value) (WI : (Nat → Bool) → World → Prop) (hm : P.follows .mixedOrders = true) (hT : ∀ y, setAll a.tmps slots 0 y = T y) (hok : goodOrder ops = true) (hn : 0 < ops.size)
    (hw : ∀ L : Nat → Bool, (∀ j, j < ops.size → L j = false) → WI L w.drew)
    (hs : AutoLFrom P ops Q T a.defers vals WI 0 ops.toList) : (Code.region id ops true).wp P Q a w := by
  refine wp_region_by hm T (RV vals) WI (fun _ _ _ => True) hok hn (fun _ _ _ _ _ _ _ _ _ _ _ h => h) (fun j => a.tmps.getD (slots.getD j 0) undef) ?_ hw hs
  rw [← hT, setAll_self]
  intro j s hj
  simp [List.getD, hj]
end
end Go.Proofs.YteaincdeoajkeaaGreatDoor.Ut
end
section
/- Both stores of frames side by side: each act answers alike, and leaves like frames. -/
namespace Go.Proofs.YteaincdeoajkeaaGreatDoor.Fr
open Go.RowKit Ut Oc
set_option linter.unusedVariables false

/-- the frames that flat bytes say -/
def fr (n : Nat) (L : List Int) : List (List Int) := (List.range n).map (frameL L)
theorem fr_at {n : Nat} (L : List Int) {f : Nat} (hf : f < n) : (fr n L).getD f [] = frameL L f := by simp [fr, List.getD, hf]
theorem fr_lay {n : Nat} {L xs : List Int} (hL : L.length = 2048) {f : Nat} (hf : f < n) (hn : n ≤ 32) (hx : xs.length = 64) : (fr n L).set f xs = fr n (layF L f xs) := by
  apply List.ext_getElem?
  intro i
  simp only [fr, List.getElem?_set, List.length_map, List.length_range, List.getElem?_map]
  by_cases e : f = i
  · subst e
    rw [if_pos rfl, if_pos hf, List.getElem?_range hf]
    simp [frameL_lay hL (by omega : f < 32) hx]
  · rw [if_neg e]
    by_cases hi : i < n
    · rw [List.getElem?_range hi]
      simp [frameL_other hL (by omega : f < 32) (by omega : i < 32) hx (fun q => e q.symm)]
    · rw [List.getElem?_eq_none (by simp; omega)]
      rfl
theorem fr_zeros (n : Nat) (hn : n ≤ 32) : fr n zeros = List.replicate n zer := by
  apply List.ext_getElem?
  intro i
  simp only [fr, List.getElem?_map, List.getElem?_replicate]
  by_cases hi : i < n
  · rw [if_pos hi, List.getElem?_range hi]
    simp [zeros_zer i (by omega)]
  · rw [if_neg hi, List.getElem?_eq_none (by simp; omega)]
    rfl

/-- the document's store, wherever its slices lie -/
def RF (w : World) (bt B n : Nat) (L : List Int) : Prop := ∃ v vs, RT w bt B n (fr n L) v vs
theorem RF.kept {w w' : World} {bt B n : Nat} {L : List Int} {row : Option Nat} (h : RF w bt B n L) (hg : w.grownBy w' row) (hr : ∀ k, row = some k → k < B) : RF w' bt B n L := by
  obtain ⟨v, vs, h⟩ := h
  exact ⟨v, vs, h.kept hg hr⟩
theorem RF.below {w w' : World} {bt B n : Nat} {L : List Int} (h : RF w bt B n L) (hb : Below w.heap.size w w') : RF w' bt B n L := by
  obtain ⟨v, vs, h⟩ := h
  exact ⟨v, vs, h.below hb⟩

theorem grown_refl (w : World) (row : Option Nat) : w.grownBy w row := ⟨rfl, rfl, rfl, Nat.le_refl _, fun _ _ _ => rfl⟩

/-- an act on the program's store: code z, bytes L' -/
def PAct (fn : FuncId) (args : List Value) (b n : Nat) (L : List Int) (z : Int) (L' : List Int) : Prop :=
  ∀ W, St W b n L → Calls Tryz.prog fn (.pointer (some ⟨b, 0, none⟩) :: args).toArray W fun e W' => e = .returned (.int .i64 z) ∧ St W' b n L' ∧ W.grownBy W' (some b)
/-- .. on the document's -/
def RAct (fn : FuncId) (args : List Value) (bt B n : Nat) (L : List Int) (z : Int) (L' : List Int) : Prop :=
  ∀ W, RF W bt B n L → B ≤ W.heap.size → Calls Tryz.prog fn (.pointer (some ⟨bt, 0, none⟩) :: args).toArray W fun e W' => e = .returned (.int .i64 z) ∧ RF W' bt B n L' ∧ Below B W W'

theorem save_both (b bt B n : Nat) (f o m x : Int) (L : List Int) (hL : L.length = 2048) (hB : AreBytes L) (hn : n ≤ 32) (hx0 : 0 ≤ x) (hx1 : x < 4294967296) : ∃ z L',
    PAct 67 [.int .i64 f, .int .i64 o, .int .i64 m, .int .u32 x] b n L z L' ∧ RAct 54 [.int .i64 f, .int .i64 o, .int .i64 m, .int .u32 x] bt B n L z L' ∧ L'.length = 2048 ∧ AreBytes L' := by
  rcases place_cases n f o m with h | ⟨F, rfl, hF, h | ⟨O, M, rfl, rfl, h1, h2, _⟩⟩
  · refine ⟨1, L, fun W hS => ?_, fun W hR _ => ?_, hL, hB⟩
    · exact (save_no _ f o m x 1 W (.inl rfl) (find_out b n f L W hS h)).mono fun e W' ⟨he, hw⟩ => by subst hw; exact ⟨he, hS, grown_refl _ _⟩
    · obtain ⟨v, vs, hT⟩ := hR
      exact (refSave_no o m x hT h).mono fun e W' ⟨he, hw⟩ => by subst hw; exact ⟨he, ⟨v, vs, hT⟩, Below.refl _ _⟩
  · refine ⟨1, L, fun W hS => ?_, fun W hR _ => ?_, hL, hB⟩
    · exact (save_out b n F o m x L W hS hF h).mono fun e W' ⟨he, hw⟩ => by subst hw; exact ⟨he, hS, grown_refl _ _⟩
    · obtain ⟨v, vs, hT⟩ := hR
      exact (refSave_out x hT hF h).mono fun e W' ⟨he, hw⟩ => by subst hw; exact ⟨he, ⟨v, vs, hT⟩, Below.refl _ _⟩
  · have hfl := length_frameL hL (f := F) (by omega)
    have hpl : (putZ (frameL L F) O M x).length = 64 := by rw [length_putZ _ _ _ _ (by omega), hfl]
    refine ⟨0, layF L F (putZ (frameL L F) O M x), fun W hS => save_in b n F O M x L W hS hF h1 h2 hx0 hx1, fun W hR hBW => ?_, length_layF hL (by omega) hpl, layF_bytes hB F (putZ_bytes (frameL_bytes hB F) O M x)⟩
    obtain ⟨v, vs, hT⟩ := hR
    refine (refSave_in hT hF h1 h2 hx0 hx1 hBW).mono ?_
    rintro e W' ⟨he, ⟨v', vs', hT'⟩, hb⟩
    rw [fr_at L hF, fr_lay hL hF hn hpl] at hT'
    exact ⟨he, ⟨v', vs', hT'⟩, hb⟩

theorem load_both (b bt B n : Nat) (f o m : Int) (L : List Int) (hn : n ≤ 32) : ∃ u z : Int,
    (∀ W, St W b n L → Calls Tryz.prog 46 #[.pointer (some ⟨b, 0, none⟩), .int .i64 f, .int .i64 o, .int .i64 m] W fun e W' => e = .returned (.tuple #[.int .u32 u, .int .i64 z]) ∧ W = W') ∧
    (∀ W, RF W bt B n L → Calls Tryz.prog 47 #[.pointer (some ⟨bt, 0, none⟩), .int .i64 f, .int .i64 o, .int .i64 m] W fun e W' => e = .returned (.tuple #[.int .u32 u, .int .i64 z]) ∧ W = W') := by
  rcases place_cases n f o m with h | ⟨F, rfl, hF, h | ⟨O, M, rfl, rfl, h1, h2, _⟩⟩
  · exact ⟨0, 1, fun W hS => load_no _ f o m 1 W (.inl rfl) (find_out b n f L W hS h), fun W ⟨v, vs, hT⟩ => refLoad_no o m hT h⟩
  · exact ⟨0, 1, fun W hS => load_out b n F o m L W hS hF h, fun W ⟨v, vs, hT⟩ => refLoad_out hT hF h⟩
  · refine ⟨num (((frameL L F).drop O).take M), 0, fun W hS => load_in b n F O M L W hS hF h1 h2, fun W ⟨v, vs, hT⟩ => ?_⟩
    have := refLoad_in hT hF h1 h2
    rwa [fr_at L hF] at this

end Go.Proofs.YteaincdeoajkeaaGreatDoor.Fr
end
