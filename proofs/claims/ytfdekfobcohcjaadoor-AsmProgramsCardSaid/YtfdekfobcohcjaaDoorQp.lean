/- What the document's Parse reads, plainly: registers read more strictly, refused all the same. -/
import Derived.Test.YtfdekfobcohcjaaDoorQl
import Derived.Test.YtfdekfobcohcjaaDoorQh
namespace Go.Proofs.YtfdekfobcohcjaaDoor.As
open Go.RowKit Ut Is Pl Go.Lib
set_option linter.unusedVariables false

theorem num_minus (q : List UInt8) : numL (45 :: q) = none := by
  have h : isDig 45 = false := by decide
  unfold numL
  rw [if_pos]
  simp [h]
theorem trim_pre {w mk r : List UInt8} (h : w = mk ++ r) : hasPrefix w mk = true ∧ trimPrefix w mk = r := by subst h; exact pre_app mk r
/-- a register's word: what the document reads the program reads; what it refuses the program refuses or finds below zero -/
theorem reg_vs (w : List UInt8) : (rgB w = true → rdB [114] w = true ∧ rdZ [114] w = (rgZ w : Int)) ∧ (rgB w = false → rdB [114] w = false ∨ rdZ [114] w < 0) := by
  by_cases hp : hasPrefix w [114] = true
  · obtain ⟨r, rfl⟩ := pre_one.1 hp
    have ht : trimPrefix (114 :: r) [114] = r := (trim_pre (mk := [114]) (r := r) rfl).2
    unfold rgB rgZ rdB rdZ
    rw [hp, if_pos rfl, ht]
    simp only [Bool.true_and, List.drop_succ_cons, List.drop_zero]
    by_cases hm : hasPrefix r [45] = true
    · obtain ⟨q, rfl⟩ := pre_one.1 hm
      rw [num_minus]
      unfold sgB sgZ
      rw [if_pos hm, if_pos hm]
      simp only [List.drop_succ_cons, List.drop_zero]
      refine ⟨fun h => by simp at h, fun _ => ?_⟩
      by_cases h0 : 0 < (numL q).getD 0
      · right; omega
      · left; simpa using h0
    · unfold sgB sgZ
      rw [if_neg hm, if_neg hm]
      exact ⟨fun h => ⟨h, rfl⟩, fun h => .inl h⟩
  · have hp2 : hasPrefix w [114] = false := by simpa using hp
    unfold rgB rdB
    rw [hp2]
    exact ⟨fun h => by simp at h, fun _ => .inl rfl⟩
theorem imm_vs (w : List UInt8) : rdB [] w = sgB w ∧ rdZ [] w = sgZ w := by
  obtain ⟨h1, h2⟩ := trim_pre (w := w) (mk := []) (r := w) rfl
  unfold rdB rdZ
  rw [h1, h2]
  exact ⟨rfl, rfl⟩
/-! ### the parts, one behind the other -/
theorem parts_take (n k : Nat) (h : k ≤ 4) : partsF n k = (partsN n).take (partsF n k).length := by
  unfold partsF
  rw [parts_eq]
  rcases (show k = 0 ∨ k = 1 ∨ k = 2 ∨ k = 3 ∨ k = 4 by omega) with rfl | rfl | rfl | rfl | rfl
  all_goals cases hD n <;> cases hA n <;> cases hB n <;> cases hI n <;> rfl
theorem parts_next (n k : Nat) (h : k < 4) (hk : hasK n (k + 1) = true) : (partsF n k).length < (partsN n).length ∧ (partsN n).getD (partsF n k).length (0, []) = (k + 1, markK (k + 1)) := by
  unfold partsF markK
  unfold hasK at hk
  rw [parts_eq]
  rcases (show k = 0 ∨ k = 1 ∨ k = 2 ∨ k = 3 by omega) with rfl | rfl | rfl | rfl
  all_goals
    simp only [Nat.reduceAdd, Nat.reduceEqDiff, if_true, if_false] at hk
    rw [hk]
    revert hk
    cases hD n <;> cases hA n <;> cases hB n <;> cases hI n <;> intro hk <;> first | exact ⟨by decide, rfl⟩ | cases hk
theorem fld_at {n : Nat} (hn : n < 42) {xs : List (List UInt8)} (hl : xs.length = (partsN n).length) {c : Nat} (hc : c < (partsN n).length) :
    fldF (partsN n) xs ((partsN n).getD c (0, [])).1 = rdZ ((partsN n).getD c (0, [])).2 (xs.getD c []) := by
  rcases shapes n hn with ⟨e1, e2, e3, e4⟩ | ⟨e1, e2, e3, e4⟩ | ⟨e1, e2, e3, e4⟩ | ⟨e1, e2, e3, e4⟩ | ⟨e1, e2, e3, e4⟩ | ⟨e1, e2, e3, e4⟩
  all_goals
    have hp := parts_eq n
    rw [e1, e2, e3, e4] at hp
    simp [partsB] at hp
    rw [hp] at hl hc ⊢
    clear hp
  · simp at hc
  · match xs, hl with
    | [y, z], _ =>
      rcases (show c = 0 ∨ c = 1 by simp at hc; omega) with rfl | rfl <;> simp [fldF, setF]
  · match xs, hl with
    | [y, z], _ =>
      rcases (show c = 0 ∨ c = 1 by simp at hc; omega) with rfl | rfl <;> simp [fldF, setF]
  · match xs, hl with
    | [y, z, u], _ =>
      rcases (show c = 0 ∨ c = 1 ∨ c = 2 by simp at hc; omega) with rfl | rfl | rfl <;> simp [fldF, setF]
  · match xs, hl with
    | [y, z, u], _ =>
      rcases (show c = 0 ∨ c = 1 ∨ c = 2 by simp at hc; omega) with rfl | rfl | rfl <;> simp [fldF, setF]
  · match xs, hl with
    | [y, z, u], _ =>
      rcases (show c = 0 ∨ c = 1 ∨ c = 2 by simp at hc; omega) with rfl | rfl | rfl <;> simp [fldF, setF]

/-! ### what the whole says, from the words -/
section
variable {l x : List UInt8} {xs : List (List UInt8)} {n : Nat}
theorem par_of (h : wordsL l = some (x :: xs)) (hx : idxL x nameL 0 = (n : Int)) :
    saidO l = n ∧ (∀ j, saidF l j = fldF (partsN n) xs j) ∧ parT l = (decide (xs.length = (partsN n).length) && goodF (partsN n) xs && validB n (fldF (partsN n) xs 1) (fldF (partsN n) xs 2) (fldF (partsN n) xs 3) (fldF (partsN n) xs 4)) := by
  have hs : saidW l = x :: xs := by unfold saidW; rw [h]; rfl
  have h1 : saidO l = n := by unfold saidO; rw [hs]; exact hx
  have h2 : saidP l = partsN n := by unfold saidP; rw [h1, Int.toNat_natCast]
  have h3 : ∀ j, saidF l j = fldF (partsN n) xs j := fun j => by unfold saidF; rw [h2, hs]; rfl
  refine ⟨h1, h3, ?_⟩
  unfold parT saidT
  rw [h, h1, h2, h3, h3, h3, h3, hs]
  simp
theorem par_none (h : wordsL l = none) : parT l = false := by unfold parT saidT; rw [h]; rfl
theorem par_noname (h : wordsL l = some (x :: xs)) (hx : ∀ j, 1 ≤ j → j < 42 → nameAt j ≠ x) : parT l = false := by
  have hne : x ≠ [] := by
    rintro rfl
    exact wordsL_mem h (by simp)
  cases hp : parT l with
  | false => rfl
  | true =>
    exfalso
    rcases idx_name hne with e | ⟨n, n1, n2, _, e⟩
    · unfold parT at hp
      simp only [Bool.and_eq_true] at hp
      have hb := (valid_bounds hp.2).1
      have hs : saidW l = x :: xs := by unfold saidW; rw [h]; rfl
      have h1 : saidO l = -1 := by unfold saidO; rw [hs]; exact e
      omega
    · exact hx n n1 (by omega) e
/-- there is no word for a part -/
theorem par_few (h : wordsL l = some (x :: xs)) (hx : idxL x nameL 0 = (n : Int)) {k : Nat} (hk : k < 4) (hh : hasK n (k + 1) = true) (hc : xs.length ≤ (partsF n k).length) : parT l = false := by
  rw [(par_of h hx).2.2, decide_eq_false (by have := (parts_next n k hk hh).1; omega)]
  rfl
/-- a part's word is wrong -/
theorem par_wrong (hn : n < 42) (h : wordsL l = some (x :: xs)) (hx : idxL x nameL 0 = (n : Int)) {k : Nat} (hk : k < 4) (hh : hasK n (k + 1) = true) (hc : (partsF n k).length < xs.length)
    (hw : (if k < 3 then rgB (xs.getD (partsF n k).length []) else sgB (xs.getD (partsF n k).length [])) = false) : parT l = false := by
  obtain ⟨p1, p2⟩ := parts_next n k hk hh
  cases hp : parT l with
  | false => rfl
  | true =>
    exfalso
    rw [(par_of h hx).2.2] at hp
    simp only [Bool.and_eq_true, decide_eq_true_eq] at hp
    obtain ⟨⟨hl, hg⟩, hv⟩ := hp
    have hf := fld_at hn hl p1
    have hgn := good_not (P := partsN n) (xs := xs) p1 hc
    rw [p2] at hf hgn
    by_cases h3 : k < 3
    · rw [if_pos h3] at hw
      have hm : markK (k + 1) = [114] := by unfold markK; rw [if_neg (by omega)]
      simp only [hm] at hf hgn
      rcases (reg_vs _).2 hw with e | e
      · rw [hgn e] at hg; cases hg
      · obtain ⟨_, b1, b2, b3, _⟩ := valid_bounds hv
        rw [← hf] at e
        rcases (show k = 0 ∨ k = 1 ∨ k = 2 by omega) with rfl | rfl | rfl
        · exact absurd b1.1 (Int.not_le.2 e)
        · exact absurd b2.1 (Int.not_le.2 e)
        · exact absurd b3.1 (Int.not_le.2 e)
    · rw [if_neg h3] at hw
      obtain rfl : k = 3 := by omega
      have hm : markK (3 + 1) = [] := rfl
      simp only [hm] at hgn
      rw [hgn ((imm_vs _).1.trans hw)] at hg
      cases hg
/-- a part's word is right -/
theorem par_step {k : Nat} (hk : k < 4) (hh : hasK n (k + 1) = true) (hc : (partsF n k).length < xs.length)
    (hw : (if k < 3 then rgB (xs.getD (partsF n k).length []) else sgB (xs.getD (partsF n k).length [])) = true) (hg : goodF (partsF n k) xs = true) :
    (partsF n (k + 1)).length = (partsF n k).length + 1 ∧ goodF (partsF n (k + 1)) xs = true ∧ fldF (partsF n (k + 1)) xs = fun j => if j = k + 1 then (if k < 3 then (rgZ (xs.getD (partsF n k).length []) : Int) else sgZ (xs.getD (partsF n k).length [])) else fldF (partsF n k) xs j := by
  have hS := partsF_yes hk hh
  have hrd : rdB (markK (k + 1)) (xs.getD (partsF n k).length []) = true ∧ rdZ (markK (k + 1)) (xs.getD (partsF n k).length []) = (if k < 3 then (rgZ (xs.getD (partsF n k).length []) : Int) else sgZ (xs.getD (partsF n k).length [])) := by
    by_cases h3 : k < 3
    · rw [if_pos h3] at hw ⊢
      have hm : markK (k + 1) = [114] := by unfold markK; rw [if_neg (by omega)]
      rw [hm]
      exact (reg_vs _).1 hw
    · rw [if_neg h3] at hw ⊢
      obtain rfl : k = 3 := by omega
      have hm : markK (3 + 1) = [] := rfl
      rw [hm]
      exact ⟨(imm_vs _).1.trans hw, (imm_vs _).2⟩
  have hz : (partsF n (k + 1)).zip xs = (partsF n k).zip xs ++ [((k + 1, markK (k + 1)), xs.getD (partsF n k).length [])] := by
    rw [hS]
    generalize partsF n k = P at hc
    have hx : xs = xs.take P.length ++ (xs.getD P.length [] :: xs.drop (P.length + 1)) := by
      have : xs.getD P.length [] = xs[P.length] := by simp [List.getD, hc]
      rw [this, ← List.drop_eq_getElem_cons hc, List.take_append_drop]
    conv => lhs; rw [hx]
    rw [List.zip_append (by rw [List.length_take]; omega)]
    conv => rhs; rw [hx]
    have e : P.zip (xs.take P.length ++ (xs.getD P.length [] :: xs.drop (P.length + 1))) = P.zip (xs.take P.length) := by
      have h1 : P.length = (xs.take P.length).length := by rw [List.length_take]; omega
      have := List.zip_append (l₁ := P) (r₁ := []) (l₂ := xs.take P.length) (r₂ := xs.getD P.length [] :: xs.drop (P.length + 1)) h1
      simpa using this
    rw [e]
    have e2 : (xs.take P.length ++ (xs.getD P.length [] :: xs.drop (P.length + 1))).getD P.length [] = xs.getD P.length [] := by rw [← hx]
    rw [e2]
    simp
  clear hw
  generalize xs.getD (partsF n k).length [] = y at hz hrd ⊢
  refine ⟨by rw [hS]; simp, ?_, ?_⟩
  · unfold goodF at hg ⊢
    rw [hz, List.all_append, hg]
    simp [hrd.1]
  · unfold fldF
    rw [hz, List.foldl_append]
    funext j
    simp [setF, hrd.2]
theorem par_skip {k : Nat} (hk : k < 4) (hh : hasK n (k + 1) = false) : partsF n (k + 1) = partsF n k := partsF_no hk hh
theorem par_end (h : wordsL l = some (x :: xs)) (hx : idxL x nameL 0 = (n : Int)) (hg : goodF (partsF n 4) xs = true) :
    saidO l = n ∧ (∀ j, saidF l j = fldF (partsF n 4) xs j) ∧ parT l = (decide (xs.length = (partsF n 4).length) && validB n (fldF (partsF n 4) xs 1) (fldF (partsF n 4) xs 2) (fldF (partsF n 4) xs 3) (fldF (partsF n 4) xs 4)) := by
  obtain ⟨a, b, c⟩ := par_of h hx
  rw [partsF_all] at hg ⊢
  rw [hg, Bool.and_true] at c
  exact ⟨a, b, c⟩
end
end Go.Proofs.YtfdekfobcohcjaaDoor.As
