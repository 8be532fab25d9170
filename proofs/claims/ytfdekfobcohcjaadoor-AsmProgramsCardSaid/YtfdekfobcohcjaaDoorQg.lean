/- Package asm: said: what a text tells, right or not. -/
import Derived.Test.YtfdekfobcohcjaaDoorQf
import Derived.Test.YtfdekfobcohcjaaDoorQe
import Derived.Test.YtfdekfobcohcjaaDoorEb
import Derived.Great.Walk
namespace Go.Proofs.YtfdekfobcohcjaaDoor.As
open Go.RowKit Ut Is Pl
set_option linter.unusedVariables false
set_option maxRecDepth 100000
set_option maxHeartbeats 8000000

/-- what said answers -/
def sayT (l : List UInt8) : Bool := decide (l.length ≤ 16384) && saidT l
def sayV (l : List UInt8) : Value := if sayT l = true then insV (saidO l) (saidF l 1) (saidF l 2) (saidF l 3) (saidF l 4) else insV 0 0 0 0 0
theorem say_no {l : List UInt8} (h : sayT l = false) : sayV l = insV 0 0 0 0 0 := by unfold sayV; rw [h]; rfl
theorem said_long (s : ByteArray) (hs : 16384 < s.size) (hs2 : s.size ≤ 140737488355328) (w : World) :
    Calls Tryd.prog 26 #[.string s] w fun e w' => e = .returned (.tuple #[insV 0 0 0 0 0, .bool false]) ∧ Below w.heap.size w w' := by
  have hb := Lib.hid (ins_below 0 0 0 0 0 w)
  have hq0 := ins_at 0 0 0 0 0 w
  obtain ⟨r0, r1, r2, r3, r4⟩ := hq0.cells
  have h1 : (16384 : Int) < (s.size : Int) := by omega
  have HSet : Hid (∀ (W : World) (j : Nat) (v : Value), Below w.heap.size w W → Below w.heap.size w (W.setCell ⟨w.heap.size, j, none⟩ v)) := Lib.hid fun W j v h => h.setCell (p := ⟨w.heap.size, j, none⟩) (by simp) _
  clear hq0
  go_enter Tryd.func26, Tryd.ntmps26
  go_wp2
  exact bodyPost_ret (v := .tuple #[insV 0 0 0 0 0, .bool false]) (by simp [results, Tryd.results26, go_sem]) rfl ⟨rfl, hb.out⟩
theorem said_none (s : ByteArray) (hs : s.size ≤ 16384) (h : wordsL s.data.toList = none) (w : World) :
    Calls Tryd.prog 26 #[.string s] w fun e w' => e = .returned (.tuple #[insV 0 0 0 0 0, .bool false]) ∧ Below w.heap.size w w' := by
  have hb := Lib.hid (ins_below 0 0 0 0 0 w)
  have HQ0 := Lib.hid (ins_at 0 0 0 0 0 w)
  have HS := Lib.hid (fun W => split_any s (by omega) W.heap.size W (Nat.le_refl _))
  rw [h] at HS
  have h1 : (s.size : Int) ≤ 16384 := by omega
  have HSet : Hid (∀ (W : World) (j : Nat) (v : Value), Below w.heap.size w W → Below w.heap.size w (W.setCell ⟨w.heap.size, j, none⟩ v)) := Lib.hid fun W j v h => h.setCell (p := ⟨w.heap.size, j, none⟩) (by simp) _
  go_enter Tryd.func26, Tryd.ntmps26
  go_wp2_with fail
  refine (HS.out _).mono ?_
  rintro e w1 ⟨v, rfl, _, _, hb1⟩
  have hq := HQ0.out.more hb1
  obtain ⟨r0, r1, r2, r3, r4⟩ := hq.cells
  have f0 := hq.frozen 0 (by omega)
  have f1 := hq.frozen 1 (by omega)
  have f2 := hq.frozen 2 (by omega)
  have f3 := hq.frozen 3 (by omega)
  have f4 := hq.frozen 4 (by omega)
  have hz := hq.lt
  have HB1 := Lib.hid (hb.out.trans (hb1.mono hb.out.size))
  clear hb1 hq
  go_wp2
  exact bodyPost_ret (v := .tuple #[insV 0 0 0 0 0, .bool false]) (by simp [results, Tryd.results26, go_sem, r0, r1, r2, r3, r4]) rfl ⟨rfl, HSet.out _ _ _ (HSet.out _ _ _ (HSet.out _ _ _ (HSet.out _ _ _ (HSet.out _ _ _ HB1.out))))⟩
/-! ### the plain side -/
theorem size_list (s : ByteArray) : s.data.toList.length = s.size := rfl
theorem say_eq {l : List UInt8} {x : List UInt8} {xs : List (List UInt8)} (h : wordsL l = some (x :: xs)) (hl : l.length ≤ 16384) :
    saidO l = idxL x nameL 0 ∧ saidP l = partsN (idxL x nameL 0).toNat ∧ (∀ j, saidF l j = fldF (partsN (idxL x nameL 0).toNat) xs j) ∧ sayT l = (decide (xs.length = (partsN (idxL x nameL 0).toNat).length) && goodF (partsN (idxL x nameL 0).toNat) xs) := by
  have hs : saidW l = x :: xs := by unfold saidW; rw [h]; rfl
  have h1 : saidO l = idxL x nameL 0 := by unfold saidO; rw [hs]; rfl
  have h2 : saidP l = partsN (idxL x nameL 0).toNat := by unfold saidP; rw [h1]
  refine ⟨h1, h2, fun j => by unfold saidF; rw [h2, hs]; rfl, ?_⟩
  unfold sayT saidT
  rw [h, h2, hs]
  simp [hl]
theorem zip_take {α β : Type} (a0 : α) (b0 : β) : ∀ (P : List α) (xs : List β) (k : Nat), k < P.length → k < xs.length → (P.take (k + 1)).zip (xs.take (k + 1)) = (P.take k).zip (xs.take k) ++ [(P.getD k a0, xs.getD k b0)]
  | [], _, _, h, _ => absurd h (by simp)
  | _ :: _, [], _, _, h => absurd h (by simp)
  | p :: P, x :: xs, 0, _, _ => by simp
  | p :: P, x :: xs, k + 1, h1, h2 => by
    have := zip_take a0 b0 P xs k (by simpa using h1) (by simpa using h2)
    simpa using this
theorem good_succ {P : List (Nat × List UInt8)} {xs : List (List UInt8)} {k : Nat} (h1 : k < P.length) (h2 : k < xs.length) :
    goodF (P.take (k + 1)) (xs.take (k + 1)) = (goodF (P.take k) (xs.take k) && rdB (P.getD k (0, [])).2 (xs.getD k [])) ∧ fldF (P.take (k + 1)) (xs.take (k + 1)) = setF (fldF (P.take k) (xs.take k)) (P.getD k (0, []), xs.getD k []) := by
  unfold goodF fldF
  rw [zip_take (0, []) [] P xs k h1 h2]
  exact ⟨by simp [List.all_append], by rw [List.foldl_append]; rfl⟩
theorem good_not {P : List (Nat × List UInt8)} {xs : List (List UInt8)} {k : Nat} (h1 : k < P.length) (h2 : k < xs.length) (h : rdB (P.getD k (0, [])).2 (xs.getD k []) = false) : goodF P xs = false := by
  cases hg : goodF P xs with
  | false => rfl
  | true =>
    exfalso
    unfold goodF at hg
    rw [List.all_eq_true] at hg
    have hm : (P.getD k (0, []), xs.getD k []) ∈ P.zip xs := by
      have hlt : k < (P.zip xs).length := by simp; omega
      have := List.getElem_mem hlt
      simpa [List.getD, h1, h2] using this
    have := hg _ hm
    simp only at this
    rw [h] at this
    cases this
theorem idx_bounds (x : List UInt8) : -1 ≤ idxL x nameL 0 ∧ idxL x nameL 0 ≤ 41 := by
  rcases idxL_spec x nameL 0 with h | ⟨k, hk, e, _⟩
  · omega
  · rw [name_len] at hk; omega
theorem addr_zero (x : Addr) : x.add 0 = x := by
  obtain ⟨b, o, p⟩ := x
  cases p <;> simp [Addr.add]
/-! ### regions' worlds -/
abbrev zero5 : List Value := [.int .i64 0, .int .i64 0, .int .i64 0, .int .i64 0, .int .i64 0]
def PS (V W : World) (t : Bool) : Prop := Below V.heap.size V W ∧ (if t then W.heap[V.heap.size]? = some (.cells zero5.toArray 23 (0, 0)) else W.heap.size = V.heap.size)
theorem ps_alloc {V W : World} (h : Below V.heap.size V W) (hz : W.heap.size = V.heap.size) : PS V (W.alloc (.cells zero5.toArray 23 (0, 0))) true := by
  refine ⟨h.alloc (by omega) _, ?_⟩
  have := heap_alloc_new W (.cells zero5.toArray 23 (0, 0))
  rw [hz] at this
  exact this
/-- the names as a row -/
theorem names_row {W : World} {g B : Nat} (h : W.heap[g]? = some (.cells (nameL.map encS).toArray 46 (0, 0))) (hB : g < B) : RowS W B (some ⟨g, 0, none⟩) 42 nameL := by
  refine ⟨name_len, fun i hi => ⟨⟨g, 0, none⟩, rfl, hB, ?_⟩⟩
  rw [add_plain]
  refine cell_of h i _ ?_
  have hl : i < nameL.length := by rw [name_len]; exact hi
  simp [List.getD, hl]
/-- the region in which a word is read -/
structure RI (V W : World) (b cp : Nat) (o : Int) (f : Nat → Int) : Prop where
  below : Below b V W
  copy : W.heap[cp]? = V.heap[cp]?
  grown : V.grownBy W (some b)
  ins : InsF W b o f
theorem grown_trans {a w w' : World} {row : Option Nat} (h : a.grownBy w row) (g : w.grownBy w' row) : a.grownBy w' row :=
  ⟨g.os.trans h.os, g.tape.trans h.tape, g.output.trans h.output, Nat.le_trans h.size g.size, fun k hk hne => (g.block k (Nat.lt_of_lt_of_le hk h.size) hne).trans (h.block k hk hne)⟩
theorem ri_call {V W W2 : World} {b cp : Nat} {o : Int} {f f2 : Nat → Int} (h : RI V W b cp o f) (hg : W.grownBy W2 (some b)) (hi : InsF W2 b o f2) (hcb : cp ≠ b) (hcp : cp < V.heap.size) (hbV : b ≤ V.heap.size) : RI V W2 b cp o f2 := by
  have hs := h.grown.size
  refine ⟨⟨hg.os.trans h.below.os, hg.tape.trans h.below.tape, hg.output.trans h.below.output, Nat.le_trans hs hg.size, fun k hk => ?_⟩, ?_, grown_trans h.grown hg, hi⟩
  · exact (hg.block k (by omega) (fun e => by injection e with e; omega)).trans (h.below.block k hk)
  · exact (hg.block cp (by omega) (fun e => hcb (by injection e))).trans h.copy
theorem own_row_base {w : World} {B p : Nat} {v : Value} {l : List (Nat × List UInt8)} (h : OwnP w B p v l) : ∃ a cap, v = .slice a l.length cap ∧ l.length ≤ cap ∧ cap ≤ maxLen ∧ ∀ k, k < l.length → ∃ g, a = some ⟨g, 0, none⟩ ∧ B ≤ g ∧ g < w.heap.size ∧ w.cell? ⟨g, k * 2, none⟩ = some (.pointer (some ⟨p, (l.getD k (0, [])).1, none⟩)) ∧ w.cell? ⟨g, k * 2 + 1, none⟩ = some (.string (tb (l.getD k (0, [])).2)) := by
  obtain ⟨a, cap, rfl, h1, h2, h3⟩ := h.row
  refine ⟨a, cap, rfl, h1, h2, fun k hk => ?_⟩
  obtain ⟨g, rfl, r⟩ := h3 k hk
  refine ⟨g, rfl, ?_, r⟩
  rcases h.2 with ⟨e, _⟩ | ⟨g', cap', cur, e, hb, _⟩
  · cases e
  · injection e with e _ _
    injection e with e
    injection e with e _ _
    rw [e]; exact hb
theorem said_some (s : ByteArray) (hs : s.size ≤ 16384) (x : List UInt8) (xs : List (List UInt8)) (h : wordsL s.data.toList = some (x :: xs)) (w : World) (hw : Held w) :
    Calls Tryd.prog 26 #[.string s] w fun e w' => e = .returned (.tuple #[sayV s.data.toList, .bool (sayT s.data.toList)]) ∧ Below w.heap.size w w' := by
  have hb := Lib.hid (ins_below 0 0 0 0 0 w)
  have HQ0 := Lib.hid (ins_at 0 0 0 0 0 w)
  have HD0 := Lib.hid (hw.more hb.out)
  have HS := Lib.hid (fun W => split_any s (by omega) W.heap.size W (Nat.le_refl _))
  rw [h] at HS
  simp only [Option.isSome_some, Option.getD_some] at HS
  have h1 : (s.size : Int) ≤ 16384 := by omega
  obtain ⟨NV, hNV⟩ : ∃ NV, NV = (nameL.map encS).toArray := ⟨_, rfl⟩
  have HN : Hid (∀ W, Calls Tryd.prog 18 #[] W fun e w' => e = .returned (.agg NV) ∧ Below W.heap.size W w') := Lib.hid (by rw [hNV]; exact names_any)
  have HNV := Lib.hid hNV
  have HH := Lib.hid h
  clear hNV h hw
  go_enter Tryd.func26, Tryd.ntmps26
  go_wp2_with fail
  refine (HS.out _).mono ?_
  rintro e w1 ⟨v, rfl, hown, hlen, hb1⟩
  obtain ⟨ga, cap, rfl, hcap1, hcap2, hrow⟩ := hown.row
  have HOW := Lib.hid hown
  have HRW := Lib.hid hrow
  have HQ1 := Lib.hid (HQ0.out.more hb1)
  have HD1 := Lib.hid (HD0.out.more hb1)
  have HB1 := Lib.hid (hb.out.trans (hb1.mono hb.out.size))
  have HSZ1 := Lib.hid (hb1.size)
  obtain ⟨NW, hNW⟩ : ∃ NW, (x :: xs).length = NW := ⟨_, rfl⟩
  have HNW := Lib.hid hNW
  rw [hNW] at hcap1 hlen
  rw [hNW]
  clear hown hrow hb1 HQ0 HD0 hNW
  go_wp2_with fail
  refine (HN.out _).mono ?_
  rintro e w2 ⟨rfl, hb2⟩
  rename_i K6 h6
  refine h6 _ _ ?_
  refine Great.wpList_allocTo rfl (some 6) rfl (.pointer (some ⟨w2.heap.size, 0, none⟩)) (.cells (List.replicate 42 (Value.string ⟨#[]⟩)).toArray 46 (0, 0)) (by kernel_rfl) ?_
  have hz42 := heap_alloc_new w2 (.cells (List.replicate 42 (Value.string ⟨#[]⟩)).toArray 46 (0, 0))
  have hb42 : Below w2.heap.size w2 (w2.alloc (.cells (List.replicate 42 (Value.string ⟨#[]⟩)).toArray 46 (0, 0))) := (Below.refl _ _).alloc (Nat.le_refl _) _
  refine wpList_store_row rfl 46 (.tmp 6) (.tmp 23) rfl w2.heap.size NV rfl rfl 46 _ hz42 (by rw [HNV.out]; kernel_rfl) (by rw [HNV.out]; rfl) (by rw [HNV.out]; kernel_rfl) ?_
  have hg3 := setRow_heap _ w2.heap.size _ NV _ _ hz42
  have hb3 := below_setRow hb42 (Nat.le_refl _) NV
  obtain ⟨V, hV⟩ : ∃ V, V = (w2.alloc (.cells (List.replicate 42 (Value.string ⟨#[]⟩)).toArray 46 (0, 0))).setRow w2.heap.size NV := ⟨_, rfl⟩
  rw [← hV] at hg3 hb3 ⊢
  rw [HNV.out] at hg3
  have hlt3 := (Array.getElem?_eq_some_iff.1 hg3).1
  have hb13 : Below w1.heap.size w1 V := hb2.trans (hb3.mono hb2.size)
  have HG3 := Lib.hid hg3
  have HB13 := Lib.hid hb13
  have HB3 := Lib.hid (HB1.out.trans (hb13.mono HB1.out.size))
  have HD3 := Lib.hid (HD1.out.more hb13)
  have HQ3 := Lib.hid (HQ1.out.more hb13)
  have hrw3 : RowS V w1.heap.size ga NW (x :: xs) := HNW.out ▸ HRW.out.below hb13
  have HRW3 := Lib.hid hrw3
  have hnw1 : 1 ≤ NW := by have : (x :: xs).length = NW := HNW.out; simp at this; omega
  obtain ⟨xa, rfl, hxa, hxc⟩ := hrw3.at 0 (by omega)
  have hxc2 : V.cell? xa = some (.string (tb x)) := (congrArg V.cell? (addr_zero xa).symm).trans hxc
  have hnw0 : 0 < NW := by omega
  have hxl : xa.block < V.heap.size := Nat.lt_of_lt_of_le hxa hb13.size
  have hnw2 : NW ≤ 16385 := by omega
  obtain ⟨o, ho⟩ : ∃ o, o = idxL x nameL 0 := ⟨_, rfl⟩
  have hob := idx_bounds x
  rw [← ho] at hob
  have HO := Lib.hid ho
  have HOB := Lib.hid hob
  have HIX : Hid (∀ W, Below V.heap.size V W → Calls Tryd.prog 42 #[.slice (some ⟨w2.heap.size, 0, none⟩) 42 42, .string (tb x)] W fun e w' => e = .returned (.int .i64 o) ∧ W = w') := Lib.hid fun W hW => by
    rw [HO.out]
    exact index_any _ 42 42 nameL V.heap.size W (names_row ((hW.block _ hlt3).trans HG3.out) hlt3) (by unfold maxLen; omega) x
  have HP0 : Hid (PS V V.drew false) := Lib.hid ⟨(Below.refl _ _).drew, rfl⟩
  generalize hXT : tb x = xt at hxc2 HIX
  have HXT := Lib.hid hXT
  unfold maxLen at hcap2
  clear hV hz42 hb42 hb2 hb3 hb13 hg3 hrw3 hxc ho hob hXT HRW HN K6 h6
  go_wp2
  go_simp
  apply wp_region_autoL [24, 25, 26, 27, 28, 29, 7] [_, _, _, _, _, _, _] (fun L W' => PS V W' (L 6))
  case hm => kernel_rfl
  case hT => intro y; simp only [setAll, List.setIfInBounds_toArray, List.set_cons_succ, List.set_cons_zero]; exact rfl
  case hok => kernel_rfl
  case hn => decide
  case hw => exact fun L hL => (by simp only [hL 6 (by decide)]; exact HP0.out)
  case hs =>
    refine autoL_op 24 [] (by kernel_rfl) (fun L y w' hL HW hd K hK => ?_) ?_
    · go_simp
      refine hK _ _ ?_ ?_ HW
      · simp [upd]
      · exact rfl
    refine autoL_op 25 [] (by kernel_rfl) (fun L y w' hL HW hd K hK => ?_) ?_
    · go_simp
      refine hK _ _ ?_ ?_ HW
      · simp [upd]
      · exact rfl
    refine autoL_op 26 [1] (by kernel_rfl) (fun L y w' hL HW hd K hK => ?_) ?_
    · have e1 := hd_nth (hd 1 (by simp)) rfl
      go_simp
      refine hK _ _ ?_ ?_ HW
      · simp [upd, e1]
      · exact rfl
    refine autoL_op 27 [2] (by kernel_rfl) (fun L y w' hL HW hd K hK => ?_) ?_
    · have e2 := hd_nth (hd 2 (by simp)) rfl
      have hcl : ∀ p : Addr, p.block < V.heap.size → w'.cell? p = V.cell? p := fun p hp => HW.1.cell hp
      go_simp
      refine hK _ _ ?_ ?_ HW
      · simp [upd, e2]
      · exact rfl
    refine autoL_op 28 [0, 3] (by kernel_rfl) (fun L y w' hL HW hd K hK => ?_) ?_
    · have e0 := hd_nth (hd 0 (by simp)) rfl
      have e3 := hd_nth (hd 3 (by simp)) rfl
      go_simp
      refine (HIX.out _ HW.1).mono ?_
      rintro e w3 ⟨rfl, rfl⟩
      refine hK _ _ ?_ ?_ HW
      · simp [upd, e0, e3]
      · exact rfl
    refine autoL_op 29 [4] (by kernel_rfl) (fun L y w' hL HW hd K hK => ?_) ?_
    · have e4 := hd_nth (hd 4 (by simp)) rfl
      go_simp
      refine hK _ _ ?_ ?_ HW
      · simp [upd, e4]
      · exact rfl
    refine autoL_op 7 [] (by kernel_rfl) (fun L y w' hL HW hd K hK => ?_) ?_
    · have HW0 : PS V w' false := by have h := HW; simp only [hL] at h; exact h
      obtain ⟨hbl, hz⟩ := HW0
      go_simp
      rw [hz]
      refine hK _ _ ?_ ?_ (ps_alloc hbl hz)
      · simp [upd]
      · exact rfl
    refine autoL_last fun L y w' hLs HW hd K hK => ?_
    have e0 := hd_nth (hd 0 (by omega)) rfl
    have e1 := hd_nth (hd 1 (by omega)) rfl
    have e2 := hd_nth (hd 2 (by omega)) rfl
    have e3 := hd_nth (hd 3 (by omega)) rfl
    have e4 := hd_nth (hd 4 (by omega)) rfl
    have e5 := hd_nth (hd 5 (by omega)) rfl
    have e6 := hd_nth (hd 6 (by omega)) rfl
    have HW1 : PS V w' true := by have h := HW; rw [hLs 6 (by omega)] at h; exact h
    rw [if_pos (by simp [Region.wanted])]
    refine wp_store_row 23 (.tmp 7) (.tmp 29) rfl V.heap.size #[.int .i64 o, .int .i64 0, .int .i64 0, .int .i64 0, .int .i64 0] (by exact e6) (by exact e5) 23 zero5.toArray HW1.2 (by kernel_rfl) rfl (by simp [Value.oneCell']) ?_
    go_simp
    refine hK _ _ ?_
    clear hd hK K e0 e1 e2 e3 e4 e5 e6
    have hi4 : InsF (w'.setRow V.heap.size #[.int .i64 o, .int .i64 0, .int .i64 0, .int .i64 0, .int .i64 0]) V.heap.size o (fun _ => 0) := setRow_heap w' V.heap.size _ #[.int .i64 o, .int .i64 0, .int .i64 0, .int .i64 0, .int .i64 0] _ _ HW1.2
    have hb4 := below_setRow HW1.1 (Nat.le_refl _) #[.int .i64 o, .int .i64 0, .int .i64 0, .int .i64 0, .int .i64 0]
    obtain ⟨b, hbq⟩ : ∃ b, b = V.heap.size := ⟨_, rfl⟩
    obtain ⟨V4, hV4⟩ : ∃ V4, V4 = w'.setRow V.heap.size #[.int .i64 o, .int .i64 0, .int .i64 0, .int .i64 0, .int .i64 0] := ⟨_, rfl⟩
    rw [← hV4] at hi4 hb4 ⊢
    have HBQ := Lib.hid hbq
    have hlb4 : b < V4.heap.size := by rw [hbq]; exact InsAt.lt hi4
    have hw1b : w1.heap.size ≤ b := by rw [hbq]; exact HB13.out.size
    have hww1 : w.heap.size < w1.heap.size := InsAt.lt HQ1.out
    have hpar := parts_any o 0 0 0 0 HOB.out.1 HOB.out.2 V.heap.size V4 (HD3.out.more hb4).has hi4
    obtain ⟨P, hP⟩ : ∃ P, P = partsN o.toNat := ⟨_, rfl⟩
    rw [← hP] at hpar
    rw [← hbq] at hi4 hpar ⊢
    have HP := Lib.hid hP
    have HI4 := Lib.hid hi4
    have HB4 := Lib.hid hb4
    have HBW4 := Lib.hid (HB3.out.trans (hb4.mono HB3.out.size))
    have HD4 := Lib.hid (HD3.out.more hb4)
    have HQ4 := Lib.hid (HQ3.out.more hb4)
    have HRW4 := Lib.hid (HRW3.out.below (hb4.mono HB13.out.size))
    clear hV4 HW HW1 hLs hi4 hb4 hP hbq hxc2 HIX HP0
    go_wp2_with fail
    refine hpar.mono ?_
    rintro e w5 ⟨v, rfl, hown, hb5⟩
    clear hpar
    obtain ⟨pa, pcap, rfl, hp1, hp2, hprow⟩ := own_row_base hown
    have HPR := Lib.hid hprow
    have HI5 := Lib.hid (show InsF w5 b o (fun _ => 0) from InsAt.more HI4.out hb5)
    have hq5 := HQ4.out.more hb5
    have HQ5 := Lib.hid hq5
    have hb45 : Below b V4 w5 := hb5.mono (by omega)
    have HRW5 := Lib.hid (HRW4.out.below (hb45.mono hw1b))
    have HB5 := Lib.hid (HBW4.out.trans (hb5.mono HBW4.out.size))
    have HS5 := Lib.hid hb5.size
    have hlb5 : b < w5.heap.size := Nat.lt_of_lt_of_le hlb4 hb5.size
    have hSE := say_eq HH.out (by rw [size_list]; exact hs)
    rw [← HO.out, ← HP.out] at hSE
    obtain ⟨se1, se2, se3, se4⟩ := hSE
    have HSet : Hid (∀ (W : World) (j : Nat) (v : Value), Below w.heap.size w W → Below w.heap.size w (W.setCell ⟨w.heap.size, j, none⟩ v)) := Lib.hid fun W j v h => h.setCell (p := ⟨w.heap.size, j, none⟩) (by simp) _
    have hnx : xs.length + 1 = NW := HNW.out
    have hpl : P.length ≤ 3 := by rw [HP.out]; exact parts_len _ (by have := HOB.out; omega)
    obtain ⟨PL, hPL⟩ : ∃ PL, PL = P.length := ⟨_, rfl⟩
    have HPL := Lib.hid hPL
    rw [← hPL] at hp1 hpl se4 ⊢
    have hpl1 : (PL : Int) ≤ 3 := by omega
    unfold maxLen at hp2
    clear hown hprow hb5 hb45 hPL
    by_cases hne : xs.length = PL
    · have h9 : (((NW : Int) - 1) == (PL : Int)) = true := by rw [beq_iff_eq]; omega
      have h9' : (((NW : Int) - 1) != (PL : Int)) = false := by rw [bne_eq_false_iff_eq]; omega
      have hNP : NW = PL + 1 := by omega
      have HNP := Lib.hid hNP
      have HXL := Lib.hid hne
      have HSE1 := Lib.hid se1
      have HSE3 := Lib.hid se3
      have HSE4 := Lib.hid se4
      clear se1 se2 se3 se4 hne hnx hq5 hNP
      have hnw4 : NW ≤ 4 := by have := HNP.out; omega
      go_wp2
      go_loopw [40] (fun i wr => ∃ k : Nat, k ≤ PL ∧ i = .int .i64 k ∧ goodF (P.take k) (xs.take k) = true ∧ InsF wr b o (fldF (P.take k) (xs.take k)) ∧ w5.grownBy wr (some b)) (fun i _ => PL - (intOf i).toNat)
      case atStart => exact ⟨0, Nat.zero_le _, rfl, rfl, HI5.out, grown_of_below (Below.refl _ _) _⟩
      case round =>
        obtain ⟨k, hk, rfl, hgood, hins, hgr⟩ := hrel
        by_cases hlt : k < PL
        · have hkP : k < P.length := by have := HPL.out; omega
          have hkx : k < xs.length := by have := HXL.out; omega
          obtain ⟨g1, g2⟩ := good_succ hkP hkx
          have gn := good_not hkP hkx
          obtain ⟨j1, j4, _⟩ := (show 1 ≤ (P.getD k (0, [])).1 ∧ (P.getD k (0, [])).1 ≤ 4 ∧ _ by rw [HP.out]; exact parts_at o.toNat (by have := HOB.out; omega) k (by rw [← HP.out]; exact hkP))
          obtain ⟨pg, rfl, pg1, pg2, pq1, pq2⟩ := HPR.out k hkP
          generalize P.getD k (0, []) = q at g1 g2 gn j1 j4 pq1 pq2
          obtain ⟨j, mk⟩ := q
          simp only at g1 g2 gn j1 j4 pq1 pq2
          obtain ⟨ya, hya, hyb, hyc⟩ := HRW5.out.at (k + 1) (by have := HNP.out; omega)
          obtain rfl : xa = ya := by injection hya
          have hyd : (x :: xs).getD (k + 1) [] = xs.getD k [] := rfl
          rw [hyd] at hyc
          generalize xs.getD k [] = wd at g1 g2 gn hyc
          have hpgb : pg ≠ b := by omega
          have r1 := (World.cell?_of_block (a := ⟨pg, k * 2, none⟩) (hgr.block pg pg2 (fun e => hpgb (by injection e)))).trans pq1
          have r2 := (World.cell?_of_block (a := ⟨pg, k * 2 + 1, none⟩) (hgr.block pg pg2 (fun e => hpgb (by injection e)))).trans pq2
          have hpl5 : pg < wr.heap.size := Nat.lt_of_lt_of_le pg2 hgr.size
          have hcpb : wr.heap.size ≠ b := by have := hgr.size; omega
          have hbwr : b < wr.heap.size := Nat.lt_of_lt_of_le hlb5 hgr.size
          obtain ⟨rv, hrv⟩ : ∃ rv, rv = rdB mk wd := ⟨_, rfl⟩
          obtain ⟨z, hz⟩ : ∃ z, z = rdZ mk wd := ⟨_, rfl⟩
          obtain ⟨f, hf⟩ : ∃ f, f = fldF (P.take k) (xs.take k) := ⟨_, rfl⟩
          rw [← hf] at hins
          obtain ⟨wt, hwt⟩ : ∃ wt, wt = tb wd := ⟨_, rfl⟩
          obtain ⟨mt, hmt⟩ : ∃ mt, mt = tb mk := ⟨_, rfl⟩
          have HRDC : Hid (∀ W, InsF W b o f → Calls Tryd.prog 43 #[.agg #[.pointer (some ⟨b, j, none⟩), .string mt], .string wt] W fun e w' => e = .returned (.bool rv) ∧ W.grownBy w' (some b) ∧ InsF w' b o (fun i => if i = j then z else f i)) := Lib.hid fun W hW => by
            rw [hmt]
            exact read_any b j j1 j4 mk wt z rv (by rw [hwt, hz]; rfl) (by rw [hwt, hrv]; rfl) o f W hW
          rw [← hwt] at hyc
          rw [← hmt] at r2
          rw [← hf] at g2
          have HG1 := Lib.hid g1
          have HG2 := Lib.hid g2
          have HGN := Lib.hid gn
          have HRV := Lib.hid hrv
          have HZ := Lib.hid hz
          have HGOOD := Lib.hid hgood
          have HGR := Lib.hid hgr
          obtain ⟨V6, hV6⟩ : ∃ V6, V6 = wr.alloc (.cells [Value.pointer (some ⟨b, j, none⟩), .string mt].toArray 53) := ⟨_, rfl⟩
          have hnew : V6.heap[wr.heap.size]? = some (.cells [Value.pointer (some ⟨b, j, none⟩), .string mt].toArray 53 (0, 0)) := by rw [hV6]; exact heap_alloc_new _ _
          have hb6 : Below wr.heap.size wr V6 := by rw [hV6]; exact (Below.refl _ _).alloc (Nat.le_refl _) _
          have hxw : xa.block < w5.heap.size := by omega
          have y6 : V6.cell? (xa.add (k + 1)) = some (.string wt) := by
            refine (hb6.cell (p := xa.add (k + 1)) (by rw [block_of_add]; omega)).trans ?_
            refine (World.cell?_of_block (hgr.block _ (by rw [block_of_add]; exact hxw) (fun e => ?_))).trans hyc
            rw [block_of_add] at e
            injection e with e
            omega
          have y7 : V6.cell? ⟨xa.block, xa.off + (k + 1), none⟩ = some (.string wt) := by
            have e : xa.add (k + 1) = ⟨xa.block, xa.off + (k + 1), none⟩ := by unfold Addr.add; rw [if_neg (by omega)]
            rw [← e]; exact y6
          clear y6
          have hg56 : w5.grownBy V6 (some b) := grown_trans hgr (grown_of_below hb6 _)
          have hi6 : InsF V6 b o f := InsAt.more hins hb6
          have HRI0 : Hid (RI V6 V6.drew b wr.heap.size o f) := Lib.hid ⟨(Below.refl _ _).drew, rfl, grown_of_below (Below.refl _ _).drew _, hi6⟩
          have HNEW := Lib.hid hnew
          have HG56 := Lib.hid hg56
          have HV6 := Lib.hid hV6
          have hcp6 : wr.heap.size < V6.heap.size := (Array.getElem?_eq_some_iff.1 hnew).1
          have hbV6 : b ≤ V6.heap.size := by omega
          have hxa6 : xa.block < b := by omega
          have hxi : decide ((k : Int) + 1 < (NW : Int)) = true := decide_eq_true (by have := HNP.out; omega)
          have hxi2 : ¬ (NW : Int) ≤ (k : Int) + 1 := by have := HNP.out; omega
          have hxw1 : IntKind.i64.wrap ((k : Int) + 1) = (k : Int) + 1 := IntWalk.i64_in _ (by omega)
          have hxn : k + 1 < NW := by have := HNP.out; omega
          clear g1 g2 gn hrv hz hf hwt hmt hins hyc hgood hgr hnew hb6 hg56 hi6 hV6 pq1 pq2 hyb
          go_wp2
          rw [show wr.alloc (.cells #[Value.pointer (some ⟨b, j, none⟩), .string mt] 53) = V6 from HV6.out.symm]
          clear r1 r2
          apply wp_region_autoL [45, 46, 47, 48, 49, 50, 51] [_, _, _, _, _, _, _] (fun L W' => RI V6 W' b wr.heap.size o (if L 6 = true then (fun i => if i = j then z else f i) else f))
          case hm => kernel_rfl
          case hT => intro y; simp only [setAll, List.setIfInBounds_toArray, List.set_cons_succ, List.set_cons_zero]; exact rfl
          case hok => kernel_rfl
          case hn => decide
          case hw => exact fun L hL => (by simp only [hL 6 (by decide)]; exact HRI0.out)
          case hs =>
            refine autoL_op 45 [] (by kernel_rfl) (fun L y w' hL HW hd K hK => ?_) ?_
            · have hcl : ∀ p : Addr, p.block < b → w'.cell? p = V6.cell? p := fun p hp => HW.1.cell hp
              have hk0 := cell_of (HW.copy.trans HNEW.out) 0 _ rfl
              have hk1 := cell_of (HW.copy.trans HNEW.out) 1 _ rfl
              go_simp
              refine hK _ _ ?_ ?_ HW
              · simp [upd]
              · exact rfl
            refine autoL_op 46 [] (by kernel_rfl) (fun L y w' hL HW hd K hK => ?_) ?_
            · go_simp
              refine hK _ _ ?_ ?_ HW
              · simp [upd]
              · exact rfl
            refine autoL_op 47 [] (by kernel_rfl) (fun L y w' hL HW hd K hK => ?_) ?_
            · go_simp
              refine hK _ _ ?_ ?_ HW
              · simp [upd]
              · exact rfl
            refine autoL_op 48 [2] (by kernel_rfl) (fun L y w' hL HW hd K hK => ?_) ?_
            · have e2 := hd_nth (hd 2 (by simp)) rfl
              go_simp
              refine hK _ _ ?_ ?_ HW
              · simp [upd, e2]
              · exact rfl
            refine autoL_op 49 [1, 3] (by kernel_rfl) (fun L y w' hL HW hd K hK => ?_) ?_
            · have e1 := hd_nth (hd 1 (by simp)) rfl
              have e3 := hd_nth (hd 3 (by simp)) rfl
              go_simp
              refine hK _ _ ?_ ?_ HW
              · simp [upd, e1, e3]
              · exact rfl
            refine autoL_op 50 [4] (by kernel_rfl) (fun L y w' hL HW hd K hK => ?_) ?_
            · have e4 := hd_nth (hd 4 (by simp)) rfl
              have hcl : ∀ p : Addr, p.block < b → w'.cell? p = V6.cell? p := fun p hp => HW.1.cell hp
              go_simp
              refine hK _ _ ?_ ?_ HW
              · simp [upd, e4]
              · exact rfl
            refine autoL_op 51 [0, 5] (by kernel_rfl) (fun L y w' hL HW hd K hK => ?_) ?_
            · have e0 := hd_nth (hd 0 (by simp)) rfl
              have e5 := hd_nth (hd 5 (by simp)) rfl
              go_simp
              have HWi : InsF w' b o f := by have h := HW.ins; simp only [hL] at h; exact h
              refine (HRDC.out _ HWi).mono ?_
              rintro e w7 ⟨rfl, hg7, hi7⟩
              refine hK _ _ ?_ ?_ (ri_call HW hg7 hi7 hcpb hcp6 hbV6)
              · simp [upd, e0, e5]
              · exact rfl
            refine autoL_last fun L y w' hLs HW hd K hK => ?_
            have e0 := hd_nth (hd 0 (by omega)) rfl
            have e1 := hd_nth (hd 1 (by omega)) rfl
            have e2 := hd_nth (hd 2 (by omega)) rfl
            have e3 := hd_nth (hd 3 (by omega)) rfl
            have e4 := hd_nth (hd 4 (by omega)) rfl
            have e5 := hd_nth (hd 5 (by omega)) rfl
            have e6 := hd_nth (hd 6 (by omega)) rfl
            go_simp
            refine hK _ _ ?_
            clear hd hK K e0 e1 e2 e3 e4 e5 e6
            have hI7 : InsF w' b o (fun i => if i = j then z else f i) := by have h := HW.ins; rw [hLs 6 (by omega)] at h; exact h
            have HG7 := Lib.hid (grown_trans HG56.out HW.grown)
            have HI7 := Lib.hid hI7
            clear HW hLs hI7 y7
            cases rv
            · have hT : sayT s.data.toList = false := by rw [HSE4.out, HGN.out HRV.out.symm, Bool.and_false]
              have HT := Lib.hid hT
              have hq7 : InsAt w' w.heap.size 0 0 0 0 0 := (HG7.out.block _ (InsAt.lt HQ5.out) (fun e => by injection e with e; omega)).trans HQ5.out
              obtain ⟨r0, r1, r2, r3, r4⟩ := hq7.cells
              have f0 := hq7.frozen 0 (by omega)
              have f1 := hq7.frozen 1 (by omega)
              have f2 := hq7.frozen 2 (by omega)
              have f3 := hq7.frozen 3 (by omega)
              have f4 := hq7.frozen 4 (by omega)
              have hz := hq7.lt
              have HB7 := Lib.hid (HB5.out.grown HG7.out HB5.out.size (fun i hi => by injection hi with hi; omega))
              clear hT hq7
              go_wp2
              exact bodyPost_ret (v := .tuple #[insV 0 0 0 0 0, .bool false]) (by simp [results, Tryd.results26, go_sem, r0, r1, r2, r3, r4]) rfl ⟨by rw [say_no HT.out, HT.out], HSet.out _ _ _ (HSet.out _ _ _ (HSet.out _ _ _ (HSet.out _ _ _ (HSet.out _ _ _ HB7.out))))⟩
            · have HRV2 := Lib.hid HRV.out
              go_wp2
              go_roundw
              case rel => exact ⟨k + 1, by omega, by go_num, by rw [HG1.out, HGOOD.out, ← HRV2.out]; rfl, by rw [HG2.out]; unfold setF; simp only [← HZ.out]; exact HI7.out, HG7.out⟩
              case measure => simp [intOf]; omega
        · obtain rfl : k = PL := by omega
          have hTk : P.take k = P := List.take_of_length_le (by have := HPL.out; omega)
          have hXk : xs.take k = xs := List.take_of_length_le (by have := HXL.out; omega)
          rw [hTk, hXk] at hgood hins
          have hT : sayT s.data.toList = true := by rw [HSE4.out, hgood, decide_eq_true HXL.out]; rfl
          have hV : sayV s.data.toList = insV o (fldF P xs 1) (fldF P xs 2) (fldF P xs 3) (fldF P xs 4) := by
            unfold sayV; rw [if_pos hT, HSE1.out, HSE3.out, HSE3.out, HSE3.out, HSE3.out]
          have HT := Lib.hid hT
          have HV := Lib.hid hV
          have hqk : InsAt wr w.heap.size 0 0 0 0 0 := (hgr.block _ (InsAt.lt HQ5.out) (fun e => by injection e with e; omega)).trans HQ5.out
          have HBk := Lib.hid (HB5.out.grown hgr HB5.out.size (fun i hi => by injection hi with hi; omega))
          obtain ⟨r0, r1, r2, r3, r4⟩ := hqk.cells
          obtain ⟨i0, i1, i2, i3, i4⟩ := InsAt.cells hins
          have f0 := hqk.frozen 0 (by omega)
          have f1 := hqk.frozen 1 (by omega)
          have f2 := hqk.frozen 2 (by omega)
          have f3 := hqk.frozen 3 (by omega)
          have f4 := hqk.frozen 4 (by omega)
          have hz := hqk.lt
          have hzb := InsAt.lt hins
          generalize fldF P xs 1 = d1 at i1 HV
          generalize fldF P xs 2 = d2 at i2 HV
          generalize fldF P xs 3 = d3 at i3 HV
          generalize fldF P xs 4 = d4 at i4 HV
          clear hT hV hTk hXk hgood hins hgr hqk
          go_wp2
          exact bodyPost_ret (v := .tuple #[insV o d1 d2 d3 d4, .bool true]) (by simp [results, Tryd.results26, go_sem, r0, r1, r2, r3, r4]) rfl ⟨by rw [HV.out, HT.out], HSet.out _ _ _ (HSet.out _ _ _ (HSet.out _ _ _ (HSet.out _ _ _ (HSet.out _ _ _ HBk.out))))⟩
    · have h9 : (((NW : Int) - 1) == (PL : Int)) = false := by rw [beq_eq_false_iff_ne]; omega
      have h9' : (((NW : Int) - 1) != (PL : Int)) = true := by rw [bne_iff_ne]; omega
      have hT : sayT s.data.toList = false := by rw [se4, decide_eq_false hne]; rfl
      have HT := Lib.hid hT
      obtain ⟨r0, r1, r2, r3, r4⟩ := hq5.cells
      have f0 := hq5.frozen 0 (by omega)
      have f1 := hq5.frozen 1 (by omega)
      have f2 := hq5.frozen 2 (by omega)
      have f3 := hq5.frozen 3 (by omega)
      have f4 := hq5.frozen 4 (by omega)
      have hz := hq5.lt
      clear se1 se2 se3 se4 hne hnx hq5 hT
      go_wp2
      exact bodyPost_ret (v := .tuple #[insV 0 0 0 0 0, .bool false]) (by simp [results, Tryd.results26, go_sem, r0, r1, r2, r3, r4]) rfl ⟨by rw [say_no HT.out, HT.out], HSet.out _ _ _ (HSet.out _ _ _ (HSet.out _ _ _ (HSet.out _ _ _ (HSet.out _ _ _ HB5.out))))⟩
end Go.Proofs.YtfdekfobcohcjaaDoor.As
