/- Several texts in one: If Ig -/
import Derived.Test.YtoafonbplbblpaaZ05
import Derived.Test.YtoafonbplbblpaaZ06
import Derived.Maps.AppendAt
section
/- The document's store of frames: Clear, Clean of a frame that is there; New. -/
namespace Go.Proofs.Ytoafonbplbblpaa.Fr
open Go.RowKit Ut Oc
set_option linter.unusedVariables false

/-- a new row of zeros -/
def zc : List Value := zer.map (Value.int .u8)
theorem made_zc : madeCells #[.int .u8 0] 64 = zc.toArray := by kernel_rfl
theorem mk64 (W : World) : (Instr.makeSlice 122 (.int .i64 64) (.int .i64 64)).run Try.prog W = .ok (.slice (some ⟨W.heap.size, 0, none⟩) 64 64) (W.alloc (.cells zc.toArray 5)) := by
  rw [← made_zc]
  exact run_make_row' (P := Try.prog) 122 5 (.int .u8 0) 1 Try.underlying122 info_byte rfl .i64 .i64 64 (by omega) (by omega) W
theorem row64_new (w : World) (B : Nat) (hB : B ≤ w.heap.size) : Row64 (w.alloc (.cells zc.toArray 5)) B (.slice (some ⟨w.heap.size, 0, none⟩) 64 64) zer := by
  refine ⟨_, 64, rfl, hB, Nat.le_refl _, by omega, zer_len, fun i hi => ⟨_, rfl, by simp, ?_⟩⟩
  rw [add_plain]
  have h : (w.alloc (.cells zc.toArray 5)).heap[w.heap.size]? = some (.cells zc.toArray 5 (0, 0)) := heap_alloc_new w _
  have hl := zer_len
  unfold World.cell?
  simp only [h]
  simp [zc, List.getD, show i < zer.length by omega]

theorem setCell_alloc_comm (w : World) (a : Addr) (u : Value) (o : Obj) (h : a.block < w.heap.size) : (w.setCell a u).alloc o = (w.alloc o).setCell a u := by
  unfold World.setCell World.alloc
  simp only
  congr 1
  apply Array.ext_getElem?
  intro i
  simp only [Array.getElem?_push, Array.getElem?_modify, Array.size_modify]
  by_cases e1 : i = w.heap.size
  · rw [if_pos e1, if_neg (by omega), if_pos e1]
  · rw [if_neg e1, if_neg e1]
theorem zer_at (i : Nat) : zer.getD i 0 = 0 := by
  unfold zer
  generalize 64 = m
  by_cases h : i < m
  · simp [List.getD, h]
  · simp [List.getD, List.getElem?_eq_none (show (List.replicate m (0 : Int)).length ≤ i by simp; omega)]
theorem all_zero {xs : List Int} (hl : xs.length = 64) (h : ∀ i, i < 64 → xs.getD i 0 = 0) : xs = zer := by
  refine ext_getD (hl.trans zer_len.symm) fun j hj => ?_
  rw [h j (by omega), zer_at]
theorem not_zero {xs : List Int} {i : Nat} (hi : i < 64) (h : ¬ xs.getD i 0 = 0) : (xs == zer) = false := by
  rw [beq_eq_false_iff_ne]
  rintro rfl
  exact h (zer_at i)

theorem refNew_bad (n : Int) (w : World) (h : n < 0 ∨ 32 < n) :
    Calls Try.prog 23 #[.int .i64 n] w fun e w' => e = .returned (.tuple #[.pointer none, .int .i64 1]) ∧ w = w' := by
  rcases Int.lt_or_le n 0 with f0 | f0
  · have f1 : decide (n < 0) = true := by simpa using f0
    go_enter Try.func23, Try.ntmps23
    go_wp2
    go_ret2
    exact ⟨rfl, rfl⟩
  · have f1 : decide (n < 0) = false := by simpa using f0
    have f2 : decide (32 < n) = true := by simp; omega
    go_enter Try.func23, Try.ntmps23
    go_wp2
    go_ret2
    exact ⟨rfl, rfl⟩

theorem info_row : (Try.prog.info? 122).map (fun i => (i.zero, i.size, i.bytes)) = some (some (.slice none 0 0), 1, 24) := by kernel_rfl

/-- one frame more -/
theorem RT.more {w : World} {bt B k : Nat} {R : List (List Int)} {v : Value} {vs : List Value} (h : RT w bt B k R v vs) (hB : B ≤ w.heap.size) (hk : k < 32) (W2 : World)
    (hW2 : W2 = (w.alloc (.cells zc.toArray 5)).alloc (.cells #[.slice (some ⟨w.heap.size, 0, none⟩) 64 64] 122)) (ty : TypeId) :
    ∃ v' w', (Builtin.append_ #[119, 119] ty #[v, .slice (some ⟨w.heap.size + 1, 0, none⟩) 1 1]).run Try.prog W2 = .ok v' w' ∧ w'.cell? ⟨bt, 0, none⟩ = some v ∧ w'.frozen? ⟨bt, 0, none⟩ = false ∧
      RT (w'.setCell ⟨bt, 0, none⟩ v') bt B (k + 1) (R ++ [zer]) v' (vs ++ [.slice (some ⟨w.heap.size, 0, none⟩) 64 64]) ∧ Below B w (w'.setCell ⟨bt, 0, none⟩ v') := by
  have hA : Below w.heap.size w W2 := by subst hW2; exact ((Below.refl _ _).alloc (Nat.le_refl _) _).alloc (by simp) _
  have hR1 := (row64_new w B hB)
  have hR2 : Row64 W2 B (.slice (some ⟨w.heap.size, 0, none⟩) 64 64) zer := by subst hW2; exact hR1.kept (World.grownBy_alloc _ _ none) (fun g hg e => by cases e)
  have h2 := h.below hA
  have hsz := hA.size
  cases hq : Try.prog.info? 122 with
  | none => have := info_row; simp [hq] at this
  | some i =>
    have hin := info_row
    simp only [hq, Option.map_some, Option.some.injEq, Prod.mk.injEq] at hin
    obtain ⟨hz, hs, hb⟩ := hin
    have hnc : ∀ j u, [Value.slice (some ⟨w.heap.size, 0, none⟩) 64 64][j]? = some u → W2.cell? ((⟨w.heap.size + 1, 0, none⟩ : Addr).add j) = some u := by
      intro j u hj
      cases j with
      | succ j => simp at hj
      | zero =>
        simp at hj
        subst hj hW2
        rw [add_plain]
        have e := heap_alloc_new (w.alloc (.cells zc.toArray 5)) (.cells #[.slice (some ⟨w.heap.size, 0, none⟩) 64 64] 122)
        have es : (w.alloc (.cells zc.toArray 5)).heap.size = w.heap.size + 1 := by simp
        rw [es] at e
        unfold World.cell?
        simp only [e]
        rfl
    obtain ⟨v', w', hrun, ho, hg, _, hob⟩ := run_append_own_at (P := Try.prog) W2 B 119 ty 122 i (.slice none 0 0) 1 24 Try.underlying119 hq hz hs hb rfl (by omega) v k vs h2.own ⟨w.heap.size + 1, 0, none⟩ 1 1 [.slice (some ⟨w.heap.size, 0, none⟩) 64 64] rfl hnc (fun u hu => by simp at hu; subst hu; rfl) (by unfold maxLen; omega) (by omega) (by omega)
    have hvb : v.ownBlock ≠ some bt := by
      rcases h2.own.2 with ⟨rfl, _⟩ | ⟨g2, cap2, cur, rfl, _, hg2, _⟩
      · simp [Value.ownBlock]
      · simp only [Value.ownBlock]
        intro e
        simp at e
        subst e
        have hb2 := h2.box
        rw [hb2] at hg2
        injection hg2 with hg2
        injection hg2 with _ hg2
        cases hg2
    have hbox : w'.heap[bt]? = some (.cells #[v] 121 (0, 0)) := (hg.block bt h2.lt (fun e => hvb e.symm)).trans h2.box
    have hbl : bt < w'.heap.size := (Array.getElem?_eq_some_iff.1 hbox).1
    have hvb2 : v'.ownBlock ≠ some bt := by
      rcases hob with e | e
      · rw [e]; exact hvb
      · rw [e]
        have := h2.lt
        intro q
        injection q with q
        omega
    have hgs : w'.grownBy (w'.setCell ⟨bt, 0, none⟩ v') (some bt) := ⟨rfl, rfl, rfl, by simp [World.setCell], fun q _ hne => Below.heap_setCell _ _ _ _ (fun e => hne (by rw [e]))⟩
    -- a byte row's block is neither the box nor the outer row's
    have hrow : ∀ (y : Value) (ys : List Int), Row64 W2 B y ys → Row64 (w'.setCell ⟨bt, 0, none⟩ v') B y ys := by
      intro y ys hy
      obtain ⟨g', c, rfl, hB', q1, q2, q3⟩ := id hy
      obtain ⟨x, e, hxl, hc⟩ := q3.2 0 (by omega)
      injection e with e
      subst e
      rw [add_plain] at hc
      refine (hy.kept hg fun g hyg e => ?_).kept hgs fun g hyg e => ?_
      · simp [Value.ownBlock] at hyg
        subst hyg
        rcases h2.own.2 with ⟨hq2, _⟩ | ⟨g2, cap2, cur, hq2, _, hg2, hcap, _, hcs, htk⟩
        · rw [hq2] at e; simp [Value.ownBlock] at e
        · rw [hq2] at e
          simp [Value.ownBlock] at e
          subst e
          by_cases hk0 : k = 0
          · have := h2.nil0 hk0
            rw [hq2] at this
            cases this
          · have h20 := h2
            rw [hq2] at h20
            obtain ⟨q4, q5, hq6, _⟩ := h20.at_ 0 (by omega)
            rw [hq6] at hc
            cases hc
      · simp [Value.ownBlock] at hyg
        injection e with e
        subst hyg e
        simp [World.cell?, h2.box] at hc
        have := h2.own
        rw [hc] at this
        rcases this.2 with ⟨hq2, _⟩ | ⟨_, _, _, hq2, _⟩ <;> cases hq2
    refine ⟨v', w', hrun, by simp [World.cell?, hbox], by simp [World.frozen?, hbox], ⟨?_, h.lo, ?_, by simp [h.len], ?_, ?_, fun e => by omega⟩, ?_⟩
    · have := heap_setCell_same w' bt 0 #[v] 121 v' hbox
      simpa using this
    · exact ho.kept hgs (.inr hvb2)
    · intro i hi
      by_cases e : i = k
      · subst e
        have e1 : (vs ++ [Value.slice (some ⟨w.heap.size, 0, none⟩) 64 64]).getD i undef = .slice (some ⟨w.heap.size, 0, none⟩) 64 64 := by simp [List.getD, h.vlen]
        have e2 : (R ++ [zer]).getD i [] = zer := by simp [List.getD, h.len]
        rw [e1, e2]
        exact hrow _ _ hR2
      · have hik : i < k := by omega
        have e1 : (vs ++ [Value.slice (some ⟨w.heap.size, 0, none⟩) 64 64]).getD i undef = vs.getD i undef := by simp only [List.getD]; rw [List.getElem?_append_left (by rw [h.vlen]; exact hik)]
        have e2 : (R ++ [zer]).getD i [] = R.getD i [] := by simp only [List.getD]; rw [List.getElem?_append_left (by rw [h.len]; exact hik)]
        rw [e1, e2]
        exact hrow _ _ (h2.rows i hik)
    · intro i hi
      by_cases e : i = k
      · subst e
        have e2 : (R ++ [zer]).getD i [] = zer := by simp [List.getD, h.len]
        rw [e2]; exact zer_bytes
      · have e2 : (R ++ [zer]).getD i [] = R.getD i [] := by simp only [List.getD]; rw [List.getElem?_append_left (by rw [h.len]; omega)]
        rw [e2]; exact h.bytes i (by omega)
    · refine ((hA.mono hB).grown hg (by omega) fun q hq => ?_).setCell (p := ⟨bt, 0, none⟩) h.lo v'
      exact (h2.own.lt q hq).1

set_option maxRecDepth 100000 in
theorem refNew_ok (n : Nat) (w : World) (h : n ≤ 32) :
    Calls Try.prog 23 #[.int .i64 n] w fun e w' =>
      e = .returned (.tuple #[.pointer (some ⟨w.heap.size, 0, none⟩), .int .i64 0]) ∧ (∃ v vs, RT w' w.heap.size w.heap.size n (List.replicate n zer) v vs) ∧ Below w.heap.size w w' := by
  have f1 : decide ((n : Int) < 0) = false := by simp
  have f2 : decide ((32 : Int) < (n : Int)) = false := by simp; omega
  have hn1 : (n : Int) ≤ 32 := by omega
  have HH := Lib.hid h
  have hT0 : RT (w.alloc (.cells #[.slice none 0 0] 121)) w.heap.size w.heap.size 0 [] (.slice none 0 0) [] :=
    ⟨heap_alloc_new w _, Nat.le_refl _, World.ownsRow_nil _ _ _ _, rfl, fun i hi => absurd hi (Nat.not_lt_zero i), fun i hi => absurd hi (Nat.not_lt_zero i), fun _ => rfl⟩
  have HT0 := Lib.hid hT0
  have HB0 := (Below.refl w.heap.size w).alloc (Nat.le_refl _) (.cells #[.slice none 0 0] 121)
  have hmk := mk64
  clear h hT0
  go_enter Try.func23, Try.ntmps23
  go_wp2
  go_loopw [5] (fun j wr => ∃ (k : Nat) (v : Value) (vs : List Value), k ≤ n ∧ j = .int .i64 k ∧ Hid (RT wr w.heap.size w.heap.size k (List.replicate k zer) v vs) ∧ Below w.heap.size w wr) (fun j _ => n - (intOf j).toNat)
  case atStart => exact ⟨0, _, _, Nat.zero_le _, rfl, HT0, HB0⟩
  case round =>
    obtain ⟨k, v, vs, hk, rfl, HT, hbw⟩ := hrel
    by_cases hlt : k < n
    · have hsz := hbw.size
      have hg32 := HH.out
      have hle : w.heap.size ≤ wr.heap.size := by have := HT.out.lt; omega
      obtain ⟨v', w', hrun, hc, hfz, hT', hb'⟩ := (HT.out.below (Below.refl _ _).drew).more hle (by omega) ((wr.alloc (.cells zc.toArray 5)).alloc (.cells #[.slice (some ⟨wr.heap.size, 0, none⟩) 64 64] 122)).drew rfl 119
      have h0 : (((wr.alloc (.cells zc.toArray 5)).alloc (.cells #[.slice (some ⟨wr.heap.size, 0, none⟩) 64 64] 122)).drew).cell? ⟨w.heap.size, 0, none⟩ = some v :=
        ((((Below.refl wr.heap.size wr).alloc (Nat.le_refl _) _).alloc (by simp) _).cell (p := ⟨w.heap.size, 0, none⟩) HT.out.lt).trans HT.out.cell0
      obtain ⟨g', cap', rfl, _⟩ := hT'.form (by omega)
      have h0a := HT.out.cell0
      have h0b : (wr.alloc (.cells zc.toArray 5)).cell? ⟨w.heap.size, 0, none⟩ = some v := (((Below.refl wr.heap.size wr).alloc (Nat.le_refl _) _).cell (p := ⟨w.heap.size, 0, none⟩) HT.out.lt).trans HT.out.cell0
      have HTn : Hid (RT (w'.setCell ⟨w.heap.size, 0, none⟩ (.slice (some ⟨g', 0, none⟩) (k + 1) cap')) w.heap.size w.heap.size (k + 1) (List.replicate (k + 1) zer) (.slice (some ⟨g', 0, none⟩) (k + 1) cap') (vs ++ [.slice (some ⟨wr.heap.size, 0, none⟩) 64 64])) := by rw [List.replicate_succ']; exact hT'
      have HBn := hbw.trans (((Below.refl _ _).drew).trans hb')
      change (Builtin.append_ #[119, 119] 119 #[v, .slice (some ⟨wr.heap.size + 1, 0, none⟩) 1 1]).run Try.prog _ = _ at hrun
      clear hT' hb' hg32 hle hsz HT
      generalize zc.toArray = Z at hrun hmk h0 h0b
      have HRUN := Lib.hid hrun
      clear hrun
      go_wp2
      go_region_law (refine step_append_run rfl (.tmp 23) (.tmp 25) 119 rfl _ _ rfl rfl _ w' HRUN.out ?_)
      all_goals (go_wp2; go_roundw)
      all_goals first | exact ⟨k + 1, _, _, by omega, by go_num, HTn, HBn⟩ | (simp [intOf]; omega)
    · obtain rfl : k = n := by omega
      go_wp2
      go_ret2
      exact ⟨rfl, ⟨_, _, HT.out⟩, hbw⟩
end Go.Proofs.Ytoafonbplbblpaa.Fr
end
section
/- The statements' own helpers on frames: awake, all; what all tells of two stores. -/
namespace Go.Proofs.Ytoafonbplbblpaa.Fr
open Go.RowKit Ut Oc
set_option linter.unusedVariables false

/-- either there is no such place, or it is one of frame F from O on -/
theorem place_cases (n : Nat) (f o m : Int) : (f < 0 ∨ (n : Int) ≤ f) ∨ (∃ F : Nat, f = F ∧ F < n ∧ (hold 64 o m = false ∨ ∃ O M : Nat, o = O ∧ m = M ∧ isW (M : Int) = true ∧ O + M ≤ 64 ∧ 0 < M ∧ M ≤ 4)) := by
  rcases Int.lt_or_le f 0 with h | h
  · exact .inl (.inl h)
  · rcases Int.lt_or_le f n with h2 | h2
    · obtain ⟨F, rfl⟩ := Int.eq_ofNat_of_zero_le h
      refine .inr ⟨F, rfl, by omega, ?_⟩
      cases hh : hold 64 o m with
      | false => exact .inl rfl
      | true =>
        obtain ⟨O, M, h1, h2, h3, h4, h5, h6⟩ := hold_yes hh
        exact .inr ⟨O, M, h1, h2, h3, h4, h5, h6⟩
    · exact .inl (.inr h2)
theorem save_cases (b n : Nat) (f o m v : Int) (L : List Int) (w : World) (hS : St w b n L) :
    Calls Try.prog 52 #[.pointer (some ⟨b, 0, none⟩), .int .i64 f, .int .i64 o, .int .i64 m, .int .u32 v] w (fun e w' => e = .returned (.int .i64 1) ∧ w = w') ∨
      ∃ F O M : Nat, f = F ∧ o = O ∧ m = M ∧ F < n ∧ isW (M : Int) = true ∧ O + M ≤ 64 := by
  rcases place_cases n f o m with h | ⟨F, rfl, hF, h | ⟨O, M, rfl, rfl, h1, h2, _⟩⟩
  · exact .inl (save_no _ f o m v 1 w (.inl rfl) (find_out b n f L w hS h))
  · exact .inl (save_out b n F o m v L w hS hF h)
  · exact .inr ⟨F, O, M, rfl, rfl, rfl, hF, h1, h2⟩

theorem zeros_zer (f : Nat) (hf : f < 32) : frameL zeros f = zer := zeros_frame f hf
theorem put1 : (putZ zer 60 4 1 == zer) = false := by decide +kernel

theorem str_append (xs ys : List Int) : strOfNums xs ++ strOfNums ys = strOfNums (xs ++ ys) := by
  unfold strOfNums
  rw [List.map_append]
  apply ByteArray.ext
  simp
theorem take_frame (L : List Int) (k : Nat) : L.take (64 * k) ++ frameL L k = L.take (64 * (k + 1)) := by
  unfold frameL
  rw [Nat.mul_add, Nat.mul_one, List.take_add]

end Go.Proofs.Ytoafonbplbblpaa.Fr
end
