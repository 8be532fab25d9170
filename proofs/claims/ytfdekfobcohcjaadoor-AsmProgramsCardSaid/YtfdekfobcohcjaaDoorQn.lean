/- Package asm, plainly: names, what operations have, texts, what a text says (there and back), lines, programs. -/
import Derived.Test.YtfdekfobcohcjaaDoorQm
import Derived.Test.YtfdekfobcohcjaaDoorNg
namespace Go.Proofs.YtfdekfobcohcjaaDoor.As
open Go.RowKit Ut Is Pl Go.Lib
set_option linter.unusedVariables false

/-- the operations' names, at their numbers -/
def nameL : List (List UInt8) := [[], [97, 100, 100], [115, 117, 98], [97, 110, 100], [111, 114], [120, 111, 114], [115, 104, 108], [115, 104, 114], [115, 97, 114], [115, 108, 116], [115, 108, 116, 117], [109, 117, 108], [100, 105, 118, 117], [114, 101, 109, 117], [97, 100, 100, 105], [97, 110, 100, 105], [111, 114, 105], [120, 111, 114, 105], [115, 104, 108, 105], [115, 104, 114, 105], [115, 97, 114, 105], [115, 108, 116, 105], [108, 117, 105], [108, 119], [108, 98], [108, 98, 117], [115, 119], [115, 98], [98, 101, 113], [98, 110, 101], [98, 108, 116], [98, 108, 116, 117], [106, 97, 108], [106, 97, 108, 114], [99, 97, 108, 108], [104, 99, 97, 108, 108], [114, 101, 116], [99, 115, 114, 114], [99, 115, 114, 119], [105, 110, 118], [104, 97, 108, 116], [98, 114, 107]]
def nameAt (n : Nat) : List UInt8 := nameL.getD n []
/-- the first place of x, -1 if it is nowhere -/
def idxL (x : List UInt8) : List (List UInt8) → Nat → Int
  | [], _ => -1
  | y :: r, i => if x = y then i else idxL x r (i + 1)
theorem idxL_spec (x : List UInt8) : ∀ (l : List (List UInt8)) (i : Nat), idxL x l i = -1 ∨ ∃ k, k < l.length ∧ idxL x l i = (i + k : Nat) ∧ l.getD k [] = x
  | [], i => .inl rfl
  | y :: r, i => by
    unfold idxL
    by_cases h : x = y
    · rw [if_pos h]
      exact .inr ⟨0, by simp, by simp, by simp [h]⟩
    · rw [if_neg h]
      rcases idxL_spec x r (i + 1) with e | ⟨k, hk, e, e2⟩
      · exact .inl e
      · exact .inr ⟨k + 1, by simpa using hk, by rw [e]; simp; omega, by simpa using e2⟩
theorem idxL_drop {x : List UInt8} {l : List (List UInt8)} {k : Nat} (hk : k < l.length) (i : Nat) : idxL x (l.drop k) i = if x = l.getD k [] then (i : Int) else idxL x (l.drop (k + 1)) (i + 1) := by
  rw [List.drop_eq_getElem_cons hk, idxL]
  simp [List.getD, hk]
theorem name_len : nameL.length = 42 := rfl
theorem names_good : (List.range 42).all (fun n => decide (idxL (nameAt n) nameL 0 = n) && decide (32 ∉ nameAt n) && decide (10 ∉ nameAt n) && decide ((nameAt n).length ≤ 5) && decide ((nameAt n).getD 0 0 ≠ 46) && decide (n = 0 ∨ nameAt n ≠ [])) = true := by decide +kernel
theorem name_good (n : Nat) (h : n < 42) : idxL (nameAt n) nameL 0 = n ∧ 32 ∉ nameAt n ∧ 10 ∉ nameAt n ∧ (nameAt n).length ≤ 5 ∧ (nameAt n).getD 0 0 ≠ 46 ∧ (n = 0 ∨ nameAt n ≠ []) := by
  have := List.all_eq_true.1 names_good n (List.mem_range.2 h)
  simp only [Bool.and_eq_true, decide_eq_true_eq] at this
  exact ⟨this.1.1.1.1.1, this.1.1.1.1.2, this.1.1.1.2, this.1.1.2, this.1.2, this.2⟩
theorem idx_name {x : List UInt8} (hx : x ≠ []) : idxL x nameL 0 = -1 ∨ ∃ n : Nat, 1 ≤ n ∧ n ≤ 41 ∧ idxL x nameL 0 = n ∧ nameAt n = x := by
  rcases idxL_spec x nameL 0 with h | ⟨k, hk, e, e2⟩
  · exact .inl h
  · rw [name_len] at hk
    refine .inr ⟨k, ?_, by omega, by simpa using e, e2⟩
    rcases Nat.eq_zero_or_pos k with rfl | h
    · exact absurd e2.symm hx
    · exact h

/-- what an operation has: the part's place, the mark ahead of it -/
def partsN (n : Nat) : List (Nat × List UInt8) := (if hD n then [(1, [114])] else []) ++ ((if hA n then [(2, [114])] else []) ++ ((if hB n then [(3, [114])] else []) ++ (if hI n then [(4, [])] else [])))
def partsB (d a b m : Bool) : List (Nat × List UInt8) := (if d then [(1, [114])] else []) ++ ((if a then [(2, [114])] else []) ++ ((if b then [(3, [114])] else []) ++ (if m then [(4, [])] else [])))
theorem parts_eq (n : Nat) : partsN n = partsB (hD n) (hA n) (hB n) (hI n) := rfl
theorem shapes_all : (List.range 42).all (fun n => decide ((hD n = false ∧ hA n = false ∧ hB n = false ∧ hI n = false) ∨ (hD n = true ∧ hA n = false ∧ hB n = false ∧ hI n = true) ∨ (hD n = false ∧ hA n = true ∧ hB n = false ∧ hI n = true) ∨ (hD n = true ∧ hA n = true ∧ hB n = true ∧ hI n = false) ∨ (hD n = true ∧ hA n = true ∧ hB n = false ∧ hI n = true) ∨ (hD n = false ∧ hA n = true ∧ hB n = true ∧ hI n = true))) = true := by decide +kernel
theorem shapes (n : Nat) (h : n < 42) : (hD n = false ∧ hA n = false ∧ hB n = false ∧ hI n = false) ∨ (hD n = true ∧ hA n = false ∧ hB n = false ∧ hI n = true) ∨ (hD n = false ∧ hA n = true ∧ hB n = false ∧ hI n = true) ∨ (hD n = true ∧ hA n = true ∧ hB n = true ∧ hI n = false) ∨ (hD n = true ∧ hA n = true ∧ hB n = false ∧ hI n = true) ∨ (hD n = false ∧ hA n = true ∧ hB n = true ∧ hI n = true) := by
  have := List.all_eq_true.1 shapes_all n (List.mem_range.2 h)
  exact of_decide_eq_true this
def fld (d a b m : Int) (j : Nat) : Int := if j = 1 then d else if j = 2 then a else if j = 3 then b else m
def wordP (d a b m : Int) (p : Nat × List UInt8) : List UInt8 := p.2 ++ itoa (fld d a b m p.1)
def joinB (w : List UInt8) (ws : List (List UInt8)) : List UInt8 := w ++ (ws.map (32 :: ·)).flatten
/-- the instruction's text -/
def textL (n : Nat) (d a b m : Int) : List UInt8 := joinB (nameAt n) ((partsN n).map (wordP d a b m))

/-! ### a word as a number -/
def sgZ (s : List UInt8) : Int := if hasPrefix s [45] then -(((numL (s.drop 1)).getD 0 : Nat) : Int) else (((numL s).getD 0 : Nat) : Int)
def sgB (s : List UInt8) : Bool := if hasPrefix s [45] then decide (0 < (numL (s.drop 1)).getD 0) else (numL s).isSome
def rdZ (mk w : List UInt8) : Int := sgZ (trimPrefix w mk)
def rdB (mk w : List UInt8) : Bool := hasPrefix w mk && sgB (trimPrefix w mk)
theorem pre_one {s : List UInt8} {c : UInt8} : hasPrefix s [c] = true ↔ ∃ r, s = c :: r := by
  unfold hasPrefix
  cases s with
  | nil => simp
  | cons x r =>
    simp only [List.isPrefixOf, Bool.and_true, beq_iff_eq, List.cons.injEq]
    constructor
    · rintro rfl; exact ⟨r, rfl, rfl⟩
    · rintro ⟨_, rfl, _⟩; rfl
theorem itoa_nn (n : Nat) : itoa (n : Int) = decDigits n := by unfold itoa; rw [if_neg (by omega), Int.toNat_natCast]
theorem itoa_ng (n : Nat) (h : 0 < n) : itoa (-(n : Int)) = 45 :: decDigits n := by unfold itoa; rw [if_pos (by omega), Int.natAbs_neg, Int.natAbs_natCast]
theorem sg_back {s : List UInt8} (h : sgB s = true) : itoa (sgZ s) = s := by
  unfold sgB at h
  unfold sgZ
  by_cases hp : hasPrefix s [45] = true
  · rw [if_pos hp] at h ⊢
    obtain ⟨r, rfl⟩ := pre_one.1 hp
    simp only [List.drop_succ_cons, List.drop_zero, decide_eq_true_eq] at h ⊢
    cases hn : numL r with
    | none => rw [hn] at h; simp at h
    | some n =>
      rw [hn] at h
      simp only [Option.getD_some] at h ⊢
      rw [itoa_ng n h, numL_text hn]
  · rw [if_neg hp] at h ⊢
    cases hn : numL s with
    | none => rw [hn] at h; cases h
    | some n =>
      simp only [Option.getD_some]
      rw [itoa_nn, numL_text hn]
theorem itoa_mem {z : Int} {c : UInt8} (h : c ∈ itoa z) : c = 45 ∨ (48 ≤ c.toNat ∧ c.toNat ≤ 57) := by
  unfold itoa at h
  split at h
  · rcases List.mem_cons.1 h with h | h
    · exact .inl h
    · exact .inr (dec_mem _ _ h)
  · exact .inr (dec_mem _ _ h)
theorem itoa_ne (z : Int) : itoa z ≠ [] := by
  unfold itoa
  split
  · simp
  · exact dec_ne _
theorem itoa_len (z : Int) (h1 : -10000 < z) (h2 : z < 10000) : (itoa z).length ≤ 5 := by
  unfold itoa
  split
  · have := dec_len 3 z.natAbs (by omega)
    simp; omega
  · have := dec_len 3 z.toNat (by omega)
    omega
theorem sg_of (z : Int) (h1 : -1000000000 < z) (h2 : z < 1000000000) : sgB (itoa z) = true ∧ sgZ (itoa z) = z := by
  by_cases hz : z < 0
  · obtain ⟨n, rfl⟩ : ∃ n : Nat, z = -(n : Int) := ⟨z.natAbs, by omega⟩
    rw [itoa_ng n (by omega)]
    have hp : hasPrefix (45 :: decDigits n) [45] = true := pre_one.2 ⟨_, rfl⟩
    unfold sgB sgZ
    rw [if_pos hp, if_pos hp]
    simp only [List.drop_succ_cons, List.drop_zero]
    rw [num_dec n (by omega)]
    exact ⟨by simp; omega, rfl⟩
  · obtain ⟨n, rfl⟩ : ∃ n : Nat, z = n := ⟨z.toNat, by omega⟩
    rw [itoa_nn]
    have hp : ¬ hasPrefix (decDigits n) [45] = true := fun h => by
      obtain ⟨r, e⟩ := pre_one.1 h
      exact dec_no n 45 (by decide) (by rw [e]; simp)
    unfold sgB sgZ
    rw [if_neg hp, if_neg hp, num_dec n (by omega)]
    exact ⟨rfl, rfl⟩
theorem pre_app (mk t : List UInt8) : hasPrefix (mk ++ t) mk = true ∧ trimPrefix (mk ++ t) mk = t := by
  have h : hasPrefix (mk ++ t) mk = true := by
    unfold hasPrefix
    rw [List.isPrefixOf_iff_prefix]
    exact List.prefix_append _ _
  refine ⟨h, ?_⟩
  unfold trimPrefix
  rw [if_pos h, List.drop_left]
theorem pre_split {mk w : List UInt8} (h : hasPrefix w mk = true) : mk ++ trimPrefix w mk = w := by
  unfold hasPrefix at h
  rw [List.isPrefixOf_iff_prefix] at h
  obtain ⟨t, rfl⟩ := h
  rw [(pre_app mk t).2]
theorem rd_back {mk w : List UInt8} (h : rdB mk w = true) : mk ++ itoa (rdZ mk w) = w := by
  unfold rdB at h
  simp only [Bool.and_eq_true] at h
  unfold rdZ
  rw [sg_back h.2, pre_split h.1]
theorem rd_of (mk : List UInt8) (z : Int) (h1 : -1000000000 < z) (h2 : z < 1000000000) : rdB mk (mk ++ itoa z) = true ∧ rdZ mk (mk ++ itoa z) = z := by
  unfold rdB rdZ
  rw [(pre_app mk _).1, (pre_app mk _).2]
  exact ⟨by rw [(sg_of z h1 h2).1]; rfl, (sg_of z h1 h2).2⟩

/-! ### what a text says -/
def setF (f : Nat → Int) (q : (Nat × List UInt8) × List UInt8) : Nat → Int := fun j => if j = q.1.1 then rdZ q.1.2 q.2 else f j
def fldF (ps : List (Nat × List UInt8)) (ws : List (List UInt8)) : Nat → Int := (ps.zip ws).foldl setF (fun _ => 0)
def goodF (ps : List (Nat × List UInt8)) (ws : List (List UInt8)) : Bool := (ps.zip ws).all fun q => rdB q.1.2 q.2
def saidW (l : List UInt8) : List (List UInt8) := (wordsL l).getD []
def saidO (l : List UInt8) : Int := idxL ((saidW l).getD 0 []) nameL 0
def saidP (l : List UInt8) : List (Nat × List UInt8) := partsN (saidO l).toNat
def saidF (l : List UInt8) (j : Nat) : Int := fldF (saidP l) ((saidW l).drop 1) j
def saidT (l : List UInt8) : Bool := (wordsL l).isSome && decide ((saidW l).length = (saidP l).length + 1) && goodF (saidP l) ((saidW l).drop 1)
def parT (l : List UInt8) : Bool := saidT l && validB (saidO l) (saidF l 1) (saidF l 2) (saidF l 3) (saidF l 4)
theorem said_words {l : List UInt8} (h : saidT l = true) : ∃ x xs, wordsL l = some (x :: xs) ∧ saidW l = x :: xs ∧ x ≠ [] ∧ xs.length = (saidP l).length ∧ goodF (saidP l) xs = true := by
  unfold saidT at h
  simp only [Bool.and_eq_true, decide_eq_true_eq] at h
  obtain ⟨⟨h1, h2⟩, h3⟩ := h
  obtain ⟨ws, hw⟩ := Option.isSome_iff_exists.1 h1
  obtain ⟨x, xs, rfl⟩ := wordsL_ne2 hw
  have hs : saidW l = x :: xs := by unfold saidW; rw [hw]; rfl
  rw [hs] at h2 h3
  refine ⟨x, xs, hw, hs, ?_, by simpa using h2, by simpa using h3⟩
  rintro rfl
  exact wordsL_mem hw (by simp)
theorem said_text {l : List UInt8} (h : saidT l = true) : joinB ((saidW l).getD 0 []) ((saidP l).map (wordP (saidF l 1) (saidF l 2) (saidF l 3) (saidF l 4))) = l := by
  obtain ⟨x, xs, hw, hs, hx, hl, hg⟩ := said_words h
  refine Eq.trans ?_ (words_back2 hw).symm
  rw [hs]
  unfold joinB
  show x ++ _ = x ++ _
  suffices hm : (saidP l).map (wordP (saidF l 1) (saidF l 2) (saidF l 3) (saidF l 4)) = xs by rw [hm]
  have hF : ∀ j, saidF l j = fldF (saidP l) xs j := fun j => by unfold saidF; rw [hs]; rfl
  rw [hF, hF, hF, hF]
  clear hF hs hw h
  unfold saidP at hl hg ⊢
  have hn : (saidO l).toNat < 42 := by
    unfold saidO
    rcases idxL_spec ((saidW l).getD 0 []) nameL 0 with e | ⟨k, hk, e, _⟩
    · rw [e]; decide
    · rw [e]; rw [name_len] at hk; simp; omega
  generalize (saidO l).toNat = n at hl hg hn ⊢
  rcases shapes n hn with ⟨e1, e2, e3, e4⟩ | ⟨e1, e2, e3, e4⟩ | ⟨e1, e2, e3, e4⟩ | ⟨e1, e2, e3, e4⟩ | ⟨e1, e2, e3, e4⟩ | ⟨e1, e2, e3, e4⟩
  all_goals
    have hp := parts_eq n
    rw [e1, e2, e3, e4] at hp
    simp [partsB] at hp
    rw [hp] at hl hg ⊢
    clear hp
  · cases xs with
    | nil => rfl
    | cons y ys => simp at hl
  · match xs, hl with
    | [y, z], _ =>
      simp only [goodF, List.zip_cons_cons, List.zip_nil_right, List.all_cons, List.all_nil, Bool.and_eq_true, Bool.and_true] at hg
      have g1 := rd_back hg.1
      have g2 := rd_back hg.2
      simp [wordP, fld, fldF, setF, g1] at g2 ⊢
      exact g2
  · match xs, hl with
    | [y, z], _ =>
      simp only [goodF, List.zip_cons_cons, List.zip_nil_right, List.all_cons, List.all_nil, Bool.and_eq_true, Bool.and_true] at hg
      have g1 := rd_back hg.1
      have g2 := rd_back hg.2
      simp [wordP, fld, fldF, setF, g1] at g2 ⊢
      exact g2
  · match xs, hl with
    | [y, z, u], _ =>
      simp only [goodF, List.zip_cons_cons, List.zip_nil_right, List.all_cons, List.all_nil, Bool.and_eq_true, Bool.and_true] at hg
      have g1 := rd_back hg.1
      have g2 := rd_back hg.2.1
      have g3 := rd_back hg.2.2
      simp [wordP, fld, fldF, setF] at g1 g2 g3 ⊢
      exact ⟨g1, g2, g3⟩
  · match xs, hl with
    | [y, z, u], _ =>
      simp only [goodF, List.zip_cons_cons, List.zip_nil_right, List.all_cons, List.all_nil, Bool.and_eq_true, Bool.and_true] at hg
      have g1 := rd_back hg.1
      have g2 := rd_back hg.2.1
      have g3 := rd_back hg.2.2
      simp [wordP, fld, fldF, setF] at g1 g2 g3 ⊢
      exact ⟨g1, g2, g3⟩
  · match xs, hl with
    | [y, z, u], _ =>
      simp only [goodF, List.zip_cons_cons, List.zip_nil_right, List.all_cons, List.all_nil, Bool.and_eq_true, Bool.and_true] at hg
      have g1 := rd_back hg.1
      have g2 := rd_back hg.2.1
      have g3 := rd_back hg.2.2
      simp [wordP, fld, fldF, setF] at g1 g2 g3 ⊢
      exact ⟨g1, g2, g3⟩
theorem par_back {l : List UInt8} (h : parT l = true) : ∃ n : Nat, 1 ≤ n ∧ n ≤ 41 ∧ saidO l = n ∧ validB n (saidF l 1) (saidF l 2) (saidF l 3) (saidF l 4) = true ∧ textL n (saidF l 1) (saidF l 2) (saidF l 3) (saidF l 4) = l := by
  unfold parT at h
  simp only [Bool.and_eq_true] at h
  obtain ⟨h1, h2⟩ := h
  obtain ⟨x, xs, hw, hs, hx, hl, hg⟩ := said_words h1
  have ho : saidO l = idxL x nameL 0 := by unfold saidO; rw [hs]; rfl
  rcases idx_name hx with e | ⟨n, n1, n2, e, e2⟩
  · have := (valid_bounds h2).1
    rw [ho, e] at this
    omega
  · have hn : saidO l = n := ho.trans e
    refine ⟨n, n1, n2, hn, hn ▸ h2, ?_⟩
    have ht := said_text h1
    unfold saidP at ht
    rw [hn, Int.toNat_natCast, hs] at ht
    unfold textL
    rw [e2]
    exact ht
theorem fit_zero {n k : Nat} {r : Int} (h : fitB n k r = true) (h2 : (hasN n &&& k != 0) = false) : r = 0 := by
  unfold fitB at h
  rw [if_pos (by simpa using h2)] at h
  simpa using h
theorem valid_zero {n : Nat} {d a b m : Int} (h : validB n d a b m = true) : (hD n = false → d = 0) ∧ (hA n = false → a = 0) ∧ (hB n = false → b = 0) ∧ (hI n = false → m = 0) := by
  have hb := (valid_bounds h).1
  rw [validB_in n d a b m (by omega) (by omega)] at h
  simp only [Bool.and_eq_true, decide_eq_true_eq] at h
  obtain ⟨⟨⟨⟨h1, h2⟩, h3⟩, h4⟩, h5⟩ := h
  refine ⟨fun e => fit_zero h1 e, fun e => fit_zero h2 e, fun e => fit_zero h3 e, fun e => ?_⟩
  have hx : n < 42 := by omega
  have hall : (List.range 42).all (fun n => hI n || (decide (loZ n = 0) && decide (hiZ n = 0))) = true := by decide +kernel
  have := List.all_eq_true.1 hall n (List.mem_range.2 hx)
  rw [e] at this
  simp only [Bool.false_or, Bool.and_eq_true, decide_eq_true_eq] at this
  omega
theorem word_good (d a b m : Int) (p : Nat × List UInt8) (hp : p.2 = [114] ∨ p.2 = []) : 32 ∉ wordP d a b m p ∧ 10 ∉ wordP d a b m p ∧ wordP d a b m p ≠ [] := by
  have hi : ∀ c : UInt8, c = 32 ∨ c = 10 → c ∉ itoa (fld d a b m p.1) := fun c hc hm => by
    rcases itoa_mem hm with h | ⟨h, _⟩
    · rcases hc with rfl | rfl <;> revert h <;> decide
    · rcases hc with rfl | rfl <;> revert h <;> decide
  unfold wordP
  rcases hp with h | h <;> rw [h]
  · exact ⟨by simpa using hi 32 (.inl rfl), by simpa using hi 10 (.inr rfl), by simp⟩
  · exact ⟨by simpa using hi 32 (.inl rfl), by simpa using hi 10 (.inr rfl), by simpa using itoa_ne _⟩
theorem parts_marks {n : Nat} {p : Nat × List UInt8} (h : p ∈ partsN n) : p.2 = [114] ∨ p.2 = [] := by
  unfold partsN at h
  simp only [List.mem_append] at h
  rcases h with h | h | h | h
  all_goals
    split at h
    · simp at h; subst h; simp
    · simp at h
theorem parts_len (n : Nat) (h : n < 42) : (partsN n).length ≤ 3 := by
  rcases shapes n h with ⟨e1, e2, e3, e4⟩ | ⟨e1, e2, e3, e4⟩ | ⟨e1, e2, e3, e4⟩ | ⟨e1, e2, e3, e4⟩ | ⟨e1, e2, e3, e4⟩ | ⟨e1, e2, e3, e4⟩ <;> unfold partsN <;> rw [e1, e2, e3, e4] <;> decide
/-- a right instruction's text is read as it -/
theorem par_text {n : Nat} {d a b m : Int} (h : validB n d a b m = true) : parT (textL n d a b m) = true ∧ saidO (textL n d a b m) = n ∧ saidF (textL n d a b m) 1 = d ∧ saidF (textL n d a b m) 2 = a ∧ saidF (textL n d a b m) 3 = b ∧ saidF (textL n d a b m) 4 = m := by
  obtain ⟨ho, hd, ha, hb, hm1, hm2⟩ := valid_bounds h
  have hn : n < 42 := by omega
  obtain ⟨z1, z2, z3, z4⟩ := valid_zero h
  obtain ⟨i1, i2, i3, i4, i5, i6⟩ := name_good n hn
  have hw : wordsL (textL n d a b m) = some (nameAt n :: (partsN n).map (wordP d a b m)) := by
    refine words_of2 _ _ fun x hx => ?_
    rcases List.mem_cons.1 hx with rfl | hx
    · exact ⟨i2, i6.resolve_left (by omega)⟩
    · obtain ⟨p, hp, rfl⟩ := List.mem_map.1 hx
      have := word_good d a b m p (parts_marks hp)
      exact ⟨this.1, this.2.2⟩
  have hs : saidW (textL n d a b m) = nameAt n :: (partsN n).map (wordP d a b m) := by unfold saidW; rw [hw]; rfl
  have hO : saidO (textL n d a b m) = n := by unfold saidO; rw [hs]; exact i1
  have hP : saidP (textL n d a b m) = partsN n := by unfold saidP; rw [hO, Int.toNat_natCast]
  have hG : ∀ p ∈ partsN n, rdB p.2 (wordP d a b m p) = true ∧ rdZ p.2 (wordP d a b m p) = fld d a b m p.1 := fun p _ => by
    refine rd_of p.2 _ ?_ ?_ <;> unfold fld <;> repeat' split
    all_goals omega
  have key : goodF (partsN n) ((partsN n).map (wordP d a b m)) = true ∧ fldF (partsN n) ((partsN n).map (wordP d a b m)) 1 = d ∧ fldF (partsN n) ((partsN n).map (wordP d a b m)) 2 = a ∧ fldF (partsN n) ((partsN n).map (wordP d a b m)) 3 = b ∧ fldF (partsN n) ((partsN n).map (wordP d a b m)) 4 = m := by
    rcases shapes n hn with ⟨e1, e2, e3, e4⟩ | ⟨e1, e2, e3, e4⟩ | ⟨e1, e2, e3, e4⟩ | ⟨e1, e2, e3, e4⟩ | ⟨e1, e2, e3, e4⟩ | ⟨e1, e2, e3, e4⟩
    · have hp := parts_eq n
      rw [e1, e2, e3, e4] at hp
      simp [partsB] at hp
      rw [hp]
      simp [goodF, fldF]
      simp [z1 e1, z2 e2, z3 e3, z4 e4]
    · have hp := parts_eq n
      rw [e1, e2, e3, e4] at hp
      simp [partsB] at hp
      rw [hp]
      have gd := hG (1, [114]) (by rw [hp]; simp)
      have gm := hG (4, []) (by rw [hp]; simp)
      simp [goodF, fldF, setF, gd.1, gd.2, gm.1, gm.2]
      simp [fld, z2 e2, z3 e3]
    · have hp := parts_eq n
      rw [e1, e2, e3, e4] at hp
      simp [partsB] at hp
      rw [hp]
      have ga := hG (2, [114]) (by rw [hp]; simp)
      have gm := hG (4, []) (by rw [hp]; simp)
      simp [goodF, fldF, setF, ga.1, ga.2, gm.1, gm.2]
      simp [fld, z1 e1, z3 e3]
    · have hp := parts_eq n
      rw [e1, e2, e3, e4] at hp
      simp [partsB] at hp
      rw [hp]
      have gd := hG (1, [114]) (by rw [hp]; simp)
      have ga := hG (2, [114]) (by rw [hp]; simp)
      have gb := hG (3, [114]) (by rw [hp]; simp)
      simp [goodF, fldF, setF, gd.1, gd.2, ga.1, ga.2, gb.1, gb.2]
      simp [fld, z4 e4]
    · have hp := parts_eq n
      rw [e1, e2, e3, e4] at hp
      simp [partsB] at hp
      rw [hp]
      have gd := hG (1, [114]) (by rw [hp]; simp)
      have ga := hG (2, [114]) (by rw [hp]; simp)
      have gm := hG (4, []) (by rw [hp]; simp)
      simp [goodF, fldF, setF, gd.1, gd.2, ga.1, ga.2, gm.1, gm.2]
      simp [fld, z3 e3]
    · have hp := parts_eq n
      rw [e1, e2, e3, e4] at hp
      simp [partsB] at hp
      rw [hp]
      have ga := hG (2, [114]) (by rw [hp]; simp)
      have gb := hG (3, [114]) (by rw [hp]; simp)
      have gm := hG (4, []) (by rw [hp]; simp)
      simp [goodF, fldF, setF, ga.1, ga.2, gb.1, gb.2, gm.1, gm.2]
      simp [fld, z1 e1]
  have hF : ∀ j, saidF (textL n d a b m) j = fldF (partsN n) ((partsN n).map (wordP d a b m)) j := fun j => by unfold saidF; rw [hP, hs]; rfl
  obtain ⟨k0, k1, k2, k3, k4⟩ := key
  have hT : saidT (textL n d a b m) = true := by
    unfold saidT
    rw [hw, hP, hs]
    simp [k0]
  refine ⟨?_, hO, (hF 1).trans k1, (hF 2).trans k2, (hF 3).trans k3, (hF 4).trans k4⟩
  unfold parT
  rw [hT, hO, hF, hF, hF, hF, k1, k2, k3, k4, h]
  rfl
theorem text_short {n : Nat} {d a b m : Int} (h : validB n d a b m = true) : (textL n d a b m).length ≤ 26 ∧ 10 ∉ textL n d a b m := by
  obtain ⟨ho, hd, ha, hb, hm1, hm2⟩ := valid_bounds h
  have hn : n < 42 := by omega
  obtain ⟨i1, i2, i3, i4, i5, i6⟩ := name_good n hn
  have hl := parts_len n hn
  have hw : ∀ p ∈ partsN n, (wordP d a b m p).length ≤ 6 := fun p hp => by
    have h1 : (itoa (fld d a b m p.1)).length ≤ 5 := by
      refine itoa_len _ ?_ ?_ <;> unfold fld <;> repeat' split
      all_goals omega
    unfold wordP
    rcases parts_marks hp with e | e <;> rw [e] <;> simp <;> omega
  have hg : ∀ l : List (Nat × List UInt8), (∀ p ∈ l, (wordP d a b m p).length ≤ 6) → (((l.map (wordP d a b m)).map (32 :: ·)).flatten).length ≤ 7 * l.length := by
    intro l
    induction l with
    | nil => intro _; simp
    | cons p r ih =>
      intro hp
      have h1 := hp p (by simp)
      have h2 := ih fun q hq => hp q (by simp [hq])
      simp only [List.map_cons, List.flatten_cons, List.length_append, List.length_cons] at h2 ⊢
      omega
  refine ⟨?_, ?_⟩
  · unfold textL joinB
    rw [List.length_append]
    have := hg (partsN n) hw
    omega
  · unfold textL joinB
    intro hm
    rcases List.mem_append.1 hm with hm | hm
    · exact i3 hm
    · obtain ⟨x, hx, hx2⟩ := List.mem_flatten.1 hm
      obtain ⟨y, hy, rfl⟩ := List.mem_map.1 hx
      obtain ⟨p, hp, rfl⟩ := List.mem_map.1 hy
      rcases List.mem_cons.1 hx2 with e | hx2
      · cases e
      · exact (word_good d a b m p (parts_marks hp)).2.1 hx2
theorem par_len {l : List UInt8} (h : parT l = true) : l.length ≤ 26 := by
  obtain ⟨n, _, _, _, hv, ht⟩ := par_back h
  rw [← ht]; exact (text_short hv).1

/-! ### lines and programs -/
theorem enc_dec2 (x : Nat) (hx : x < 4294967296) (h : decT x = true) : encZ (wO x) (wD x) (wA x) (wB x) (immZ x) = x ∧ encE (wO x) (wD x) (wA x) (wB x) (immZ x) = 0 := by
  unfold decT at h
  unfold encZ encE
  rw [if_pos h, if_pos h]
  refine ⟨?_, rfl⟩
  simp only [Int.toNat_natCast]
  have e : (immZ x % 16384).toNat = x / 262144 := by unfold immZ; split <;> omega
  rw [e]
  unfold wordN wO wD wA wB
  omega
/-- .word and a blank -/
def wordM : List UInt8 := [46, 119, 111, 114, 100, 32]
/-- the word's text -/
def wText (x : Nat) : List UInt8 := if decT x = true then textL (wO x) (wD x) (wA x) (wB x) (immZ x) else wordM ++ decDigits x
/-- what a line says -/
def lineO (l : List UInt8) : Option Int := if parT l = true then some (encZ (saidO l) (saidF l 1) (saidF l 2) (saidF l 3) (saidF l 4)) else if hasPrefix l wordM = true then (bigL (l.drop 6)).map Int.ofNat else none
theorem word_par {l : List UInt8} (h : hasPrefix l wordM = true) : parT l = false := by
  cases hp : parT l with
  | false => rfl
  | true =>
    obtain ⟨n, n1, n2, _, _, ht⟩ := par_back hp
    obtain ⟨i1, i2, i3, i4, i5, i6⟩ := name_good n (by omega)
    have hs := pre_split h
    rw [← hs] at ht
    unfold textL joinB at ht
    have hne := i6.resolve_left (by omega)
    cases hx : nameAt n with
    | nil => exact absurd hx hne
    | cons c r =>
      rw [hx] at ht i5
      unfold wordM at ht
      simp only [List.cons_append, List.cons.injEq] at ht
      exact absurd ht.1 (by simpa using i5)
theorem line_word (x : Nat) (hx : x < 4294967296) : lineO (wText x) = some (x : Int) ∧ (wText x).length ≤ 26 ∧ 10 ∉ wText x := by
  unfold wText
  by_cases h : decT x = true
  · rw [if_pos h]
    have hv : validB (wO x) (wD x) (wA x) (wB x) (immZ x) = true := h
    obtain ⟨k0, k1, k2, k3, k4, k5⟩ := par_text hv
    refine ⟨?_, text_short hv⟩
    unfold lineO
    rw [if_pos k0, k1, k2, k3, k4, k5, (enc_dec2 x hx h).1]
  · rw [if_neg h]
    have hp := (pre_app wordM (decDigits x)).1
    refine ⟨?_, ?_, ?_⟩
    · unfold lineO
      rw [word_par hp, if_neg (by decide), if_pos hp]
      show (bigL (decDigits x)).map Int.ofNat = _
      rw [big_dec x hx]; rfl
    · have := dec_len 9 x (by omega)
      rw [List.length_append]
      show 6 + _ ≤ 26
      omega
    · intro hm
      rcases List.mem_append.1 hm with hm | hm
      · revert hm; decide
      · exact dec_no x 10 (by decide) hm
/-- the text of words -/
def listL (xs : List Nat) : List UInt8 := (xs.map fun x => wText x ++ [10]).flatten
theorem list_cut (xs : List Nat) (h : ∀ x ∈ xs, x < 4294967296) : cutL 10 (listL xs) = (xs.map wText, []) := by
  have := cutL_of 10 (xs.map wText) [] (fun p hp => by
    obtain ⟨x, hx, rfl⟩ := List.mem_map.1 hp
    exact (line_word x (h x hx)).2.2) (by simp)
  rw [List.append_nil, List.map_map] at this
  exact this
theorem list_len : ∀ (xs : List Nat), (∀ x ∈ xs, x < 4294967296) → (listL xs).length ≤ 27 * xs.length
  | [], _ => by simp [listL]
  | x :: xs, h => by
    have h1 := (line_word x (h x (by simp))).2.1
    have h2 := list_len xs fun y hy => h y (by simp [hy])
    unfold listL at h2 ⊢
    simp only [List.map_cons, List.flatten_cons, List.length_append, List.length_cons, List.length_nil] at h2 ⊢
    omega
/-- the first line that says nothing -/
def badAt (ps : List (List UInt8)) : Nat := ps.findIdx fun l => (lineO l).isNone
def overN (l : List UInt8) : Nat := if (cutL 10 l).2 = [] then 0 else 1
def longB (l : List UInt8) : Bool := decide (16384 < l.length) || decide (512 < (cutL 10 l).1.length + overN l)
def progW (l : List UInt8) : List Int := if longB l = true ∨ badAt (cutL 10 l).1 < (cutL 10 l).1.length ∨ (cutL 10 l).2 ≠ [] then [] else (cutL 10 l).1.map fun p => (lineO p).getD 0
def progE (l : List UInt8) : Int := if longB l = true then 10 else if badAt (cutL 10 l).1 < (cutL 10 l).1.length ∨ (cutL 10 l).2 ≠ [] then 6 else 0
def progN (l : List UInt8) : Int := if longB l = true then 0 else if badAt (cutL 10 l).1 < (cutL 10 l).1.length ∨ (cutL 10 l).2 ≠ [] then ((badAt (cutL 10 l).1 : Nat) : Int) + 1 else 0
theorem bad_all {ps : List (List UInt8)} (h : ∀ p ∈ ps, (lineO p).isSome = true) : badAt ps = ps.length := by
  unfold badAt
  rw [List.findIdx_eq_length]
  intro p hp
  have := h p hp
  cases hx : lineO p with
  | none => rw [hx] at this; cases this
  | some _ => rfl
/-- what was made of words is read as these words -/
theorem prog_list (xs : List Nat) (h : ∀ x ∈ xs, x < 4294967296) (hl : xs.length ≤ 512) : progW (listL xs) = xs.map Int.ofNat ∧ progE (listL xs) = 0 ∧ progN (listL xs) = 0 := by
  have hc := list_cut xs h
  have hn := list_len xs h
  have hb : badAt (cutL 10 (listL xs)).1 = (cutL 10 (listL xs)).1.length := bad_all fun p hp => by
    rw [hc] at hp
    obtain ⟨x, hx, rfl⟩ := List.mem_map.1 hp
    rw [(line_word x (h x hx)).1]; rfl
  have hL : longB (listL xs) = false := by
    unfold longB overN
    rw [hc]
    simp only [if_true, List.length_map, Bool.or_eq_false_iff, decide_eq_false_iff_not]
    omega
  have hr : (cutL 10 (listL xs)).2 = [] := by rw [hc]
  unfold progW progE progN
  rw [hL, hb, hr]
  refine ⟨?_, ?_, ?_⟩
  · rw [if_neg (by simp), hc]
    simp only [List.map_map]
    refine List.map_congr_left fun x hx => ?_
    simp only [Function.comp]
    rw [(line_word x (h x hx)).1]; rfl
  · simp
  · simp
end Go.Proofs.YtfdekfobcohcjaaDoor.As
