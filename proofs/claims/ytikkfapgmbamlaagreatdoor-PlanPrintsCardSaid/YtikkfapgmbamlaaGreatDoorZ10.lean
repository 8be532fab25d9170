/- Several texts in one: Ei -/
import Derived.Test.YtikkfapgmbamlaaGreatDoorZ09
import Derived.Test.YtikkfapgmbamlaaGreatDoorZ07
section
/- plan: a line as a record. -/
namespace Go.Proofs.YtikkfapgmbamlaaGreatDoor.Pl
open Go.RowKit Ut
set_option linter.unusedVariables false

theorem wordsL_ne {l : List UInt8} {ws : List (List UInt8)} (h : wordsL l = some ws) : ∃ x xs, ws = x :: xs := by
  unfold wordsL at h
  split at h
  · cases h
  · injection h with h
    cases ws with
    | nil => simp at h
    | cons x xs => exact ⟨x, xs, rfl⟩
theorem valsL_len : ∀ (fs : List UInt8) (ws : List (List UInt8)), ws.length ≠ fs.length → valsL fs ws = none
  | [], [], h => absurd rfl h
  | [], _ :: _, _ => rfl
  | _ :: _, [], _ => rfl
  | f :: fs, w :: ws, h => by
    unfold valsL
    rw [valsL_len fs ws (by simpa using h)]
    cases valL f w <;> rfl
theorem valsL_drop {fs : List UInt8} {ws : List (List UInt8)} {k : Nat} (hf : k < fs.length) (hw : k < ws.length) :
    valsL (fs.drop k) (ws.drop k) = match valL (fs.getD k 0) (ws.getD k []), valsL (fs.drop (k + 1)) (ws.drop (k + 1)) with
      | some v, some vs => some (v :: vs)
      | _, _ => none := by
  rw [List.drop_eq_getElem_cons hf, List.drop_eq_getElem_cons hw, valsL]
  simp only [List.getD, List.getElem?_eq_getElem hf, List.getElem?_eq_getElem hw, Option.getD_some]
  cases valL fs[k] ws[k] <;> cases valsL (fs.drop (k + 1)) (ws.drop (k + 1)) <;> rfl
/-- the first k values are read -/
def ValsAt (fs : List UInt8) (ws : List (List UInt8)) (k : Nat) (us : List Int) : Prop := us.length = k ∧ valsL fs ws = (valsL (fs.drop k) (ws.drop k)).map (us ++ ·)
theorem ValsAt.start (fs : List UInt8) (ws : List (List UInt8)) : ValsAt fs ws 0 [] := ⟨rfl, by simp⟩
theorem ValsAt.stop {fs : List UInt8} {ws : List (List UInt8)} {k : Nat} {us : List Int} (h : ValsAt fs ws k us) (hf : k < fs.length) (hw : k < ws.length) (hv : valL (fs.getD k 0) (ws.getD k []) = none) : valsL fs ws = none := by
  rw [h.2, valsL_drop hf hw, hv]; rfl
theorem ValsAt.next {fs : List UInt8} {ws : List (List UInt8)} {k : Nat} {us : List Int} {v : Int} (h : ValsAt fs ws k us) (hf : k < fs.length) (hw : k < ws.length) (hv : valL (fs.getD k 0) (ws.getD k []) = some v) : ValsAt fs ws (k + 1) (us ++ [v]) := by
  refine ⟨by simp [h.1], ?_⟩
  rw [h.2, valsL_drop hf hw, hv]
  cases valsL (fs.drop (k + 1)) (ws.drop (k + 1)) <;> simp
theorem ValsAt.done {fs : List UInt8} {ws : List (List UInt8)} {k : Nat} {us : List Int} (h : ValsAt fs ws k us) (hf : fs.length = k) (hw : ws.length = k) : valsL fs ws = some us := by
  rw [h.2, List.drop_of_length_le (by omega), List.drop_of_length_le (by omega)]
  simp [valsL]
def recA (r : Int) (vs : List Int) : Value := .agg #[.int .i64 r, .int .i64 (vs.getD 0 0), .int .i64 (vs.getD 1 0), .int .i64 (vs.getD 2 0)]
def recV : Option (Nat × List Int) → Value
  | none => .tuple #[.agg #[.int .i64 0, .int .i64 0, .int .i64 0, .int .i64 0], .bool false]
  | some (r, vs) => .tuple #[recA r vs, .bool true]
theorem recL_cases (l : List UInt8) : (wordsL l = none ∧ recL l = none) ∨ ∃ x xs, wordsL l = some (x :: xs) ∧
    ((rankL x = none ∧ recL l = none) ∨ ∃ r, rankL x = some r ∧ r < 7 ∧ ((xs.length ≠ (kf r).length ∧ recL l = none) ∨ (xs.length = (kf r).length ∧ recL l = (valsL (kf r) xs).map (Prod.mk r)))) := by
  cases h : wordsL l with
  | none => exact .inl ⟨rfl, by unfold recL; rw [h]⟩
  | some ws =>
    obtain ⟨x, xs, rfl⟩ := wordsL_ne h
    refine .inr ⟨x, xs, rfl, ?_⟩
    cases hr : rankL x with
    | none => exact .inl ⟨rfl, by unfold recL; rw [h]; simp only [hr]⟩
    | some r =>
      refine .inr ⟨r, rfl, (rank_back hr).2, ?_⟩
      by_cases hl : xs.length = (kf r).length
      · refine .inr ⟨hl, ?_⟩
        unfold recL; rw [h]; simp only [hr]
        cases valsL (kf r) xs <;> rfl
      · refine .inl ⟨hl, ?_⟩
        unfold recL; rw [h]; simp only [hr, valsL_len _ _ hl]
theorem rankZ_some {x : List UInt8} {r : Nat} (h : rankL x = some r) : rankZ x = r := by unfold rankZ; rw [h]
theorem rankZ_none {x : List UInt8} (h : rankL x = none) : rankZ x = -1 := by unfold rankZ; rw [h]

theorem rec_cells {W : World} {b : Nat} {v0 v1 v2 v3 : Value} {t : TypeId} (h : W.heap[b]? = some (.cells [v0, v1, v2, v3].toArray t (0, 0))) :
    (W.cell? ⟨b, 0, none⟩ = some v0 ∧ W.cell? ⟨b, 1, none⟩ = some v1 ∧ W.cell? ⟨b, 2, none⟩ = some v2 ∧ W.cell? ⟨b, 3, none⟩ = some v3) ∧
    (W.frozen? ⟨b, 0, none⟩ = false ∧ W.frozen? ⟨b, 1, none⟩ = false ∧ W.frozen? ⟨b, 2, none⟩ = false ∧ W.frozen? ⟨b, 3, none⟩ = false) :=
  ⟨⟨(box_cell h 0 _ rfl).1, (box_cell h 1 _ rfl).1, (box_cell h 2 _ rfl).1, (box_cell h 3 _ rfl).1⟩, (box_cell h 0 _ rfl).2, (box_cell h 1 _ rfl).2, (box_cell h 2 _ rfl).2, (box_cell h 3 _ rfl).2⟩
/-- a record stored whole -/
theorem set4 {W : World} {b : Nat} {v0 v1 v2 v3 : Value} {t : TypeId} (h : W.heap[b]? = some (.cells [v0, v1, v2, v3].toArray t (0, 0))) (u0 u1 u2 u3 : Value) :
    ((((W.setCell ⟨b, 0, none⟩ u0).setCell ⟨b, 1, none⟩ u1).setCell ⟨b, 2, none⟩ u2).setCell ⟨b, 3, none⟩ u3).heap[b]? = some (.cells [u0, u1, u2, u3].toArray t (0, 0)) :=
  box_set (box_set (box_set (box_set h 0 u0) 1 u1) 2 u2) 3 u3
theorem below4 {B b : Nat} {w W : World} (h : Below B w W) (hb : B ≤ b) (u0 u1 u2 u3 : Value) : Below B w ((((W.setCell ⟨b, 0, none⟩ u0).setCell ⟨b, 1, none⟩ u1).setCell ⟨b, 2, none⟩ u2).setCell ⟨b, 3, none⟩ u3) :=
  (((h.setCell hb _).setCell hb _).setCell hb _).setCell hb _
theorem zero_rec {w w1 : World} {t : TypeId} (hb : Below (w.alloc (.cells #[.int .i64 0, .int .i64 0, .int .i64 0, .int .i64 0] t)).heap.size (w.alloc (.cells #[.int .i64 0, .int .i64 0, .int .i64 0, .int .i64 0] t)) w1) :
    w1.heap[w.heap.size]? = some (.cells [.int .i64 0, .int .i64 0, .int .i64 0, .int .i64 0].toArray t (0, 0)) := (hb.block _ (by simp)).trans (heap_alloc_new _ _)
set_option maxHeartbeats 1000000 in
set_option maxRecDepth 100000 in
theorem rec_a (s : ByteArray) (hs : s.size ≤ 1099511627776) (B : Nat) (w : World) (hB : B ≤ w.heap.size) (hK : Kinds w) (h1 : wordsL s.data.toList = none) :
    Calls Tryz.prog 55 #[.string s] w fun e w' => e = .returned (recV none) ∧ Below B w w' := by
  have hx := split_any s hs
  rw [h1] at hx
  clear h1 hK
  go_enter Tryz.func55, Tryz.ntmps55
  go_wp2_with (go_at_call 73; refine (hx _ _ (Nat.le_refl _)).mono ?_; rintro e w1 ⟨v, rfl, hown, hpl, hb1⟩; obtain ⟨⟨r0, r1, r2, r3⟩, f0, f1, f2, f3⟩ := rec_cells (zero_rec hb1); have HZ := Lib.hid (zero_rec hb1); clear hx hown hpl; have hb2 : Below B w w1 := ((Below.refl B w).alloc hB _).trans (hb1.mono (by simp; omega)); clear hb1)
  obtain ⟨⟨s0, s1, s2, s3⟩, _⟩ := rec_cells (set4 HZ.out (.int .i64 0) (.int .i64 0) (.int .i64 0) (.int .i64 0))
  exact bodyPost_ret (v := recV none) (by simp [results, Tryz.results55, go_sem, s0, s1, s2, s3]; rfl) rfl ⟨rfl, below4 hb2 hB _ _ _ _⟩
theorem Kinds.alloc {w : World} (h : Kinds w) (o : Obj) : Kinds (w.alloc o) := h.below (B := w.heap.size) ((Below.refl _ _).alloc (Nat.le_refl _) _) h.lt
theorem rankOf_tb (x : List UInt8) (z : Int) (hz : rankZ x = z) (w : World) (hK : Kinds w) :
    Calls Tryz.prog 74 #[.string (tb x)] w fun e w' => e = .returned (.int .i64 z) ∧ Below w.heap.size w w' := by
  subst hz
  exact rankOf_any (tb x) _ w (Nat.le_refl _) hK
theorem head_cell {w : World} {B n : Nat} {a : Option Addr} {x : List UInt8} {xs : List (List UInt8)} (h : RowS w B a n (x :: xs)) : ∃ ad, a = some ad ∧ ad.block < B ∧ w.cell? ad = some (.string (tb x)) := by
  obtain ⟨ad, e, hb, hc⟩ := h.2 0 (by rw [← h.1]; simp)
  exact ⟨ad, e, hb, by simpa [Addr.add, encS] using hc⟩
set_option maxHeartbeats 1000000 in
set_option maxRecDepth 100000 in
theorem rec_b (s : ByteArray) (hs : s.size ≤ 1099511627776) (B : Nat) (w : World) (hB : B ≤ w.heap.size) (hK : Kinds w) (x : List UInt8) (xs : List (List UInt8)) (h1 : wordsL s.data.toList = some (x :: xs)) (h2 : rankL x = none) :
    Calls Tryz.prog 55 #[.string s] w fun e w' => e = .returned (recV none) ∧ Below B w w' := by
  have hx := split_any s hs
  rw [h1] at hx
  simp only [Option.getD_some, Option.isSome_some] at hx
  have hpos : 0 < (x :: xs).length := by simp
  have HR := Lib.hid (rankZ_none h2)
  have HK := Lib.hid hK
  have HKl := Lib.hid hK.lt
  clear h1 h2 hK
  obtain ⟨n, hn⟩ : ∃ n, (x :: xs).length = n := ⟨_, rfl⟩
  rw [hn] at hx hpos
  clear hn
  go_enter Tryz.func55, Tryz.ntmps55
  go_wp2_with (first | (go_at_call 73; refine (hx _ _ (Nat.le_refl _)).mono ?_; rintro e w1 ⟨v, rfl, hown, hpl, hb1⟩; obtain ⟨a, cap, rfl, hcap, hcm, hrow⟩ := OwnS.row hown; obtain ⟨ad, rfl, had, hc0⟩ := head_cell hrow; have HZ := Lib.hid (zero_rec hb1); have hK1 : Kinds w1 := (HK.out.alloc _).below hb1 (by simp); have hb2 : Below B w w1 := ((Below.refl B w).alloc hB _).trans (hb1.mono (by simp; omega)); clear hx hown hb1 hrow) | (go_at_call 74; refine (rankOf_tb x _ HR.out _ hK1).mono ?_; rintro e w2 ⟨rfl, hb3⟩; have hz2 := (hb3.block _ (Array.getElem?_eq_some_iff.1 HZ.out).1).trans HZ.out; have HZ2 := Lib.hid hz2; obtain ⟨⟨r0, r1, r2, r3⟩, f0, f1, f2, f3⟩ := rec_cells hz2; have hlt2 : w.heap.size < w2.heap.size := (Array.getElem?_eq_some_iff.1 hz2).1; have hb4 := hb2.trans (hb3.mono (Nat.le_trans hB hb2.size)); clear hz2 hK1 hb2 hb3))
  obtain ⟨⟨s0, s1, s2, s3⟩, _⟩ := rec_cells (set4 HZ2.out (.int .i64 0) (.int .i64 0) (.int .i64 0) (.int .i64 0))
  have hal := (below4 hb4 hB (.int .i64 0) (.int .i64 0) (.int .i64 0) (.int .i64 0)).alloc (by simp; omega) (.cells #[.int .i64 (-1), .int .i64 0, .int .i64 0, .int .i64 0] 46)
  exact bodyPost_ret (v := recV none) (by simp [results, Tryz.results55, go_sem, s0, s1, s2, s3, hlt2]; rfl) rfl ⟨rfl, hal⟩
set_option maxHeartbeats 1000000 in
set_option maxRecDepth 100000 in
theorem rec_c (s : ByteArray) (hs : s.size ≤ 1099511627776) (B : Nat) (w : World) (hB : B ≤ w.heap.size) (hK : Kinds w) (x : List UInt8) (xs : List (List UInt8)) (h1 : wordsL s.data.toList = some (x :: xs)) (r : Nat) (hr : r < 7) (h2 : rankL x = some r) (h3 : xs.length ≠ (kf r).length) :
    Calls Tryz.prog 55 #[.string s] w fun e w' => e = .returned (recV none) ∧ Below B w w' := by
  have hx := split_any s hs
  rw [h1] at hx
  simp only [Option.getD_some, Option.isSome_some] at hx
  have hpos : 0 < (x :: xs).length := by simp
  have HR := Lib.hid (rankZ_some h2)
  have HK := Lib.hid hK
  have HKl := Lib.hid hK.lt
  clear h1 h2 hK
  obtain ⟨n, hn⟩ : ∃ n, (x :: xs).length = n := ⟨_, rfl⟩
  have hq : ((n : Int) - 1 != ((tb (kf r)).size : Int)) = true := by
    rw [tb_size, ← hn]; simp; omega
  rw [hn] at hx hpos
  clear hn h3
  go_enter Tryz.func55, Tryz.ntmps55
  go_wp2_with (first | (go_at_call 73; refine (hx _ _ (Nat.le_refl _)).mono ?_; rintro e w1 ⟨v, rfl, hown, hpl, hb1⟩; obtain ⟨a, cap, rfl, hcap, hcm, hrow⟩ := OwnS.row hown; obtain ⟨ad, rfl, had, hc0⟩ := head_cell hrow; have HZ := Lib.hid (zero_rec hb1); have hK1 : Kinds w1 := (HK.out.alloc _).below hb1 (by simp); have hb2 : Below B w w1 := ((Below.refl B w).alloc hB _).trans (hb1.mono (by simp; omega)); clear hx hown hb1 hrow) | (go_at_call 74; refine (rankOf_tb x _ HR.out _ hK1).mono ?_; rintro e w2 ⟨rfl, hb3⟩; have hz2 := (hb3.block _ (Array.getElem?_eq_some_iff.1 HZ.out).1).trans HZ.out; have HZ2 := Lib.hid hz2; obtain ⟨⟨r0, r1, r2, r3⟩, f0, f1, f2, f3⟩ := rec_cells hz2; have hlt2 : w.heap.size < w2.heap.size := (Array.getElem?_eq_some_iff.1 hz2).1; have hb4 := hb2.trans (hb3.mono (Nat.le_trans hB hb2.size)); have hk1 := ((hK1.below hb3 (hK1.lt)).at r hr).2.1; have hk0 : 0 < w2.heap.size := (by omega); clear hz2 hK1 hb2 hb3; generalize tb (kf r) = t2 at hk1 hq))
  obtain ⟨⟨s0, s1, s2, s3⟩, _⟩ := rec_cells (set4 HZ2.out (.int .i64 0) (.int .i64 0) (.int .i64 0) (.int .i64 0))
  have hal := (below4 hb4 hB (.int .i64 0) (.int .i64 0) (.int .i64 0) (.int .i64 0)).alloc (by simp; omega) (.cells #[.int .i64 r, .int .i64 0, .int .i64 0, .int .i64 0] 46)
  exact bodyPost_ret (v := recV none) (by simp [results, Tryz.results55, go_sem, s0, s1, s2, s3, hlt2]; rfl) rfl ⟨rfl, hal⟩
end Go.Proofs.YtikkfapgmbamlaaGreatDoor.Pl
end
