/- Several texts in one: Yf -/
import Derived.Test.YteaincdeoajkeaaGreatDoorZ08
section
/- Package view: own bytes, plainly: where a byte lies, bytes read and written one by one, parts of a range. -/
namespace Go.Proofs.YteaincdeoajkeaaGreatDoor.Vw
open Go.RowKit Ut Oc
set_option maxRecDepth 100000
set_option linter.unusedVariables false

/-- is the byte at p (below 512) an own one; where it lies in the frames' bytes -/
def okA (n : Nat) (L : List Gm.Pl) (p : Nat) : Bool := okP n (Gm.plN L (p / 64))
def frN (L : List Gm.Pl) (j : Nat) : Nat := (Gm.plN L j).1.toNat
def posn (L : List Gm.Pl) (p : Nat) : Nat := 64 * frN L (p / 64) + p % 64
def ownB (n : Nat) (L : List Gm.Pl) (z k : Int) : Bool := decide (0 ≤ k) && decide (z ≤ 512) && decide (k ≤ 512 - z) && (List.range k.toNat).all fun i => okA n L (z.toNat + i)

theorem ok_frame {n : Nat} {L : List Gm.Pl} (hL : Gm.Okay L) {j : Nat} (h : okP n (Gm.plN L j) = true) :
    ∃ f : Nat, (Gm.plN L j).1 = f ∧ frN L j = f ∧ f < n ∧ f < 32 := by
  unfold okP at h
  simp at h
  rcases Gm.pl_cases hL j with h2 | ⟨f, r, h2, hf, _, _, h4⟩
  · rw [h2] at h; exact absurd h.1 (by decide)
  · rw [h2] at h
    exact ⟨f, by rw [h2], by unfold frN; rw [h2]; simp, by have := h.2; simp at this; exact this, hf⟩
theorem own_cases (n : Nat) (L : List Gm.Pl) (z k : Int) (hz : 0 ≤ z) :
    (ownB n L z k = false ∧ (k < 0 ∨ 512 < z ∨ 512 - z < k)) ∨ ∃ a K : Nat, z = a ∧ k = K ∧ a + K ≤ 512 ∧ (ownB n L z k = true ↔ ∀ i, i < K → okA n L (a + i) = true) := by
  by_cases h : k < 0 ∨ 512 < z ∨ 512 - z < k
  · refine .inl ⟨?_, h⟩
    unfold ownB
    rcases h with h | h | h
    · simp [show ¬ 0 ≤ k by omega]
    · simp [show ¬ z ≤ 512 by omega]
    · simp [show ¬ k ≤ 512 - z by omega]
  · refine .inr ⟨z.toNat, k.toNat, by omega, by omega, by omega, ?_⟩
    unfold ownB
    simp [show 0 ≤ k by omega, show z ≤ 512 by omega, show k ≤ 512 - z by omega]

/-- the first k bytes of zs laid from a on; .. of a marked -/
def wS (L : List Gm.Pl) (S : List Int) (a : Nat) (zs : List Int) : Nat → List Int
  | 0 => S
  | k + 1 => (wS L S a zs k).set (posn L (a + k)) (zs.getD k 0)
def wD (D : List Bool) (a : Nat) : Nat → List Bool
  | 0 => D
  | k + 1 => (wD D a k).set ((a + k) / 64) true
/-- the first k bytes from a on -/
def rB (L : List Gm.Pl) (S : List Int) (a k : Nat) : List Int := (List.range k).map fun i => S.getD (posn L (a + i)) 0
theorem rB_succ (L : List Gm.Pl) (S : List Int) (a k : Nat) : rB L S a (k + 1) = rB L S a k ++ [S.getD (posn L (a + k)) 0] := by unfold rB; rw [List.range_succ, List.map_append]; rfl
theorem rB_len (L : List Gm.Pl) (S : List Int) (a k : Nat) : (rB L S a k).length = k := by simp [rB]
theorem wS_len (L : List Gm.Pl) (S : List Int) (a : Nat) (zs : List Int) (k : Nat) : (wS L S a zs k).length = S.length := by
  induction k with
  | zero => rfl
  | succ k ih => simp only [wS, List.length_set]; exact ih
theorem bytes_set {S : List Int} (h : AreBytes S) (j : Nat) (x : Int) (hx : 0 ≤ x ∧ x < 256) : AreBytes (S.set j x) := fun z hz => by
  rcases List.mem_or_eq_of_mem_set hz with h1 | rfl
  · exact h z h1
  · exact hx
theorem wS_bytes {L : List Gm.Pl} {S : List Int} (h : AreBytes S) (a : Nat) {zs : List Int} (hz : AreBytes zs) (k : Nat) : AreBytes (wS L S a zs k) := by
  induction k with
  | zero => exact h
  | succ k ih => exact bytes_set ih _ _ (hz.at_ k)
theorem wD_len (D : List Bool) (a k : Nat) : (wD D a k).length = D.length := by
  induction k with
  | zero => rfl
  | succ k ih => simp only [wD, List.length_set]; exact ih

/-- one byte, by the store's own words -/
theorem lay_one {S : List Int} (hS : S.length = 2048) {f o : Nat} (hf : f < 32) (ho : o < 64) {x : Int} (hx : 0 ≤ x ∧ x < 256) : Fr.layF S f (putZ (Fr.frameL S f) o 1 x) = S.set (64 * f + o) x := by
  have hl : (Fr.frameL S f).length = 64 := Fr.length_frameL hS hf
  have e1 : bytesN x 1 = [x] := by simp [bytesN, byteN, List.range_succ]; omega
  unfold Fr.layF splice putZ
  rw [e1]
  have hlen : ((Fr.frameL S f).take o ++ ([x] ++ (Fr.frameL S f).drop (o + 1))).length = 64 := by simp [hl]; omega
  rw [hlen]
  refine List.ext_getElem? fun j => ?_
  unfold Fr.frameL
  by_cases h1 : j < 64 * f
  · rw [List.getElem?_append_left (by simp; omega), List.getElem?_take, if_pos h1, List.getElem?_set_ne (by omega)]
  · rw [List.getElem?_append_right (by simp; omega)]
    have hq : (S.take (64 * f)).length = 64 * f := by simp; omega
    rw [hq]
    by_cases h2 : j < 64 * f + o
    · rw [List.getElem?_append_left (by simp; omega), List.getElem?_append_left (by simp; omega), List.getElem?_take, if_pos (by omega), List.getElem?_take, if_pos (by omega), List.getElem?_drop, List.getElem?_set_ne (by omega), show 64 * f + (j - 64 * f) = j by omega]
    · by_cases h3 : j = 64 * f + o
      · subst h3
        rw [List.getElem?_append_left (by simp; omega), List.getElem?_append_right (by simp; omega), List.getElem?_set_self (by omega)]
        have : (List.take o (List.take 64 (List.drop (64 * f) S))).length = o := by simp; omega
        rw [this, show 64 * f + o - 64 * f - o = 0 by omega]
        rfl
      · have ht : (List.take o (List.take 64 (List.drop (64 * f) S))).length = o := by simp; omega
        by_cases h4 : j < 64 * f + 64
        · rw [List.getElem?_append_left (by simp; omega), List.getElem?_append_right (by simp; omega), ht, List.getElem?_set_ne (by omega), List.getElem?_append_right (by simp; omega)]
          simp only [List.length_singleton, List.getElem?_drop, List.getElem?_take]
          rw [if_pos (by omega)]
          congr 1
          omega
        · rw [List.getElem?_append_right (by simp; omega), List.getElem?_set_ne (by omega), List.getElem?_drop]
          congr 1
          simp
          omega
theorem num_one {S : List Int} (hS : S.length = 2048) {f o : Nat} (hf : f < 32) (ho : o < 64) : num (((Fr.frameL S f).drop o).take 1) = S.getD (64 * f + o) 0 := by
  have e : ((Fr.frameL S f).drop o).take 1 = [S.getD (64 * f + o) 0] := by
    unfold Fr.frameL
    refine List.ext_getElem? fun j => ?_
    rw [List.getElem?_take]
    by_cases hj : j = 0
    · subst hj
      rw [if_pos (by omega), List.getElem?_drop, List.getElem?_take, if_pos (by omega), List.getElem?_drop]
      simp [List.getD, List.getElem?_eq_getElem (show 64 * f + o < S.length by omega)]
    · rw [if_neg (by omega)]
      rw [List.getElem?_eq_none (by simp; omega)]
  rw [e]
  simp [num]

/-- a part of a range of bytes: its page, where it begins in it, how many, how many are ahead of it -/
structure Part where
  page : Nat
  off : Nat
  k : Nat
  from_ : Nat
def Part.v (p : Part) : Value := .agg #[.int .i64 p.page, .int .i64 p.off, .int .i64 p.k, .int .i64 p.from_]
def Part.cs (p : Part) : List Value := [.int .i64 p.page, .int .i64 p.off, .int .i64 p.k, .int .i64 p.from_]
/-- a part of the K bytes from a on -/
def Part.fine (a K : Nat) (p : Part) : Prop := p.off + p.k ≤ 64 ∧ p.from_ + p.k ≤ K ∧ a + p.from_ = 64 * p.page + p.off ∧ 0 < p.k
abbrev BP (a K : Nat) := { p : Part // p.fine a K }
def nxt (a K i : Nat) : Nat := min (64 - (a + i) % 64) (K - i)
theorem nxt_bd {a K i : Nat} (h : i < K) : 0 < nxt a K i ∧ (a + i) % 64 + nxt a K i ≤ 64 ∧ i + nxt a K i ≤ K := by unfold nxt; omega
def partAt (a K i : Nat) : Part := ⟨(a + i) / 64, (a + i) % 64, nxt a K i, i⟩
theorem partAt_fine {a K i : Nat} (h : i < K) : (partAt a K i).fine a K := by
  have := nxt_bd (a := a) h
  refine ⟨this.2.1, this.2.2, ?_, this.1⟩
  show a + i = 64 * ((a + i) / 64) + (a + i) % 64
  omega
def partsG (a K : Nat) : Nat → Nat → List (BP a K)
  | 0, _ => []
  | m + 1, i => if h : i < K then ⟨partAt a K i, partAt_fine h⟩ :: partsG a K m (i + nxt a K i) else []
theorem partsG_nil {a K m i : Nat} (h : K ≤ i) : partsG a K m i = [] := by
  cases m with
  | zero => rfl
  | succ m => unfold partsG; rw [dif_neg (by omega)]
theorem partsG_cons {a K m i : Nat} (h : i < K) : partsG a K (m + 1) i = ⟨partAt a K i, partAt_fine h⟩ :: partsG a K m (i + nxt a K i) := by
  show (if h : i < K then _ else _) = _
  rw [dif_pos h]
theorem partsG_len (a K m i : Nat) : (partsG a K m i).length ≤ m := by
  induction m generalizing i with
  | zero => simp [partsG]
  | succ m ih =>
    unfold partsG
    by_cases h : i < K
    · rw [dif_pos h]; simp; exact ih _
    · rw [dif_neg h]; simp
/-- what holds of each part's page holds of each byte's -/
theorem parts_all {a K : Nat} (P : Nat → Prop) : ∀ (m i : Nat), K ≤ i + m → ((∀ x ∈ partsG a K m i, P x.1.page) ↔ ∀ j, i ≤ j → j < K → P ((a + j) / 64)) := by
  intro m
  induction m with
  | zero => intro i hi; simp [partsG]; intro j h1 h2; omega
  | succ m ih =>
    intro i hi
    by_cases h : i < K
    · have hb := nxt_bd (a := a) h
      rw [partsG_cons h]
      rw [List.forall_mem_cons, ih (i + nxt a K i) (by omega)]
      constructor
      · rintro ⟨h1, h2⟩ j hj1 hj2
        by_cases hj : i + nxt a K i ≤ j
        · exact h2 j hj hj2
        · have : (a + j) / 64 = (a + i) / 64 := by omega
          rw [this]; exact h1
      · intro h1
        exact ⟨h1 i (Nat.le_refl _) h, fun j hj1 hj2 => h1 j (by omega) hj2⟩
    · rw [partsG_nil (by omega)]
      simp
      intro j h1 h2
      omega

/-- the bytes of a part -/
def prtB (L : List Gm.Pl) (S : List Int) (p : Part) : List Int := ((Fr.frameL S (frN L p.page)).drop p.off).take p.k
theorem prtB_eq {a K : Nat} {L : List Gm.Pl} {S : List Int} (hS : S.length = 2048) {p : Part} (hp : p.fine a K) (hf : frN L p.page < 32) : prtB L S p = (List.range p.k).map fun i => S.getD (posn L (a + p.from_ + i)) 0 := by
  obtain ⟨h1, h2, h3, h4⟩ := hp
  unfold prtB Fr.frameL
  refine List.ext_getElem? fun j => ?_
  rw [List.getElem?_take]
  by_cases hj : j < p.k
  · rw [if_pos hj, List.getElem?_drop, List.getElem?_take, if_pos (by omega), List.getElem?_drop, List.getElem?_map, List.getElem?_range hj]
    have e1 : (a + p.from_ + j) / 64 = p.page := by omega
    have e2 : (a + p.from_ + j) % 64 = p.off + j := by omega
    have e3 : posn L (a + p.from_ + j) = 64 * frN L p.page + (p.off + j) := by unfold posn; rw [e1, e2]
    rw [Option.map_some, e3]
    simp [List.getD, List.getElem?_eq_getElem (show 64 * frN L p.page + (p.off + j) < S.length by omega)]
  · rw [if_neg hj, List.getElem?_eq_none (by simp; omega)]
/-- .. written -/
def prtS (L : List Gm.Pl) (S : List Int) (zs : List Int) (p : Part) : Nat → List Int
  | 0 => S
  | i + 1 => (prtS L S zs p i).set (64 * frN L p.page + (p.off + i)) (zs.getD (p.from_ + i) 0)
theorem prtS_eq {a K : Nat} {L : List Gm.Pl} {S zs : List Int} {p : Part} (hp : p.fine a K) : ∀ i, i ≤ p.k → prtS L (wS L S a zs p.from_) zs p i = wS L S a zs (p.from_ + i) := by
  obtain ⟨h1, h2, h3, h4⟩ := hp
  intro i
  induction i with
  | zero => intro _; rfl
  | succ i ih =>
    intro hi
    show (prtS L (wS L S a zs p.from_) zs p i).set _ _ = (wS L S a zs (p.from_ + i)).set _ _
    rw [ih (by omega)]
    have e1 : (a + (p.from_ + i)) / 64 = p.page := by omega
    have e2 : (a + (p.from_ + i)) % 64 = p.off + i := by omega
    have e3 : posn L (a + (p.from_ + i)) = 64 * frN L p.page + (p.off + i) := by unfold posn; rw [e1, e2]
    show _ = (wS L S a zs (p.from_ + i)).set (posn L (a + (p.from_ + i))) (zs.getD (p.from_ + i) 0)
    rw [e3]
theorem prtS_len (L : List Gm.Pl) (S zs : List Int) (p : Part) (i : Nat) : (prtS L S zs p i).length = S.length := by
  induction i with
  | zero => rfl
  | succ i ih => simp only [prtS, List.length_set]; exact ih
theorem set_twice {D : List Bool} (j : Nat) : (D.set j true).set j true = D.set j true := by rw [List.set_set]
theorem wD_part {a K : Nat} {D : List Bool} {p : Part} (hp : p.fine a K) : ∀ i, 0 < i → i ≤ p.k → wD D a (p.from_ + i) = (wD D a p.from_).set p.page true := by
  obtain ⟨h1, h2, h3, h4⟩ := hp
  intro i
  induction i with
  | zero => intro h; omega
  | succ i ih =>
    intro _ hi
    show (wD D a (p.from_ + i)).set ((a + (p.from_ + i)) / 64) _ = _
    have e1 : (a + (p.from_ + i)) / 64 = p.page := by omega
    rw [e1]
    by_cases h0 : i = 0
    · subst h0; rfl
    · rw [ih (by omega) (by omega), List.set_set]
/-- over all parts -/
def foldS (L : List Gm.Pl) (zs : List Int) {a K : Nat} : List Int → List (BP a K) → List Int
  | S, [] => S
  | S, p :: l => foldS L zs (prtS L S zs p.1 p.1.k) l
def foldD {a K : Nat} : List Bool → List (BP a K) → List Bool
  | D, [] => D
  | D, p :: l => foldD (D.set p.1.page true) l
theorem foldS_snoc {L : List Gm.Pl} {zs : List Int} {a K : Nat} (l : List (BP a K)) (p : BP a K) : ∀ S, foldS L zs S (l ++ [p]) = prtS L (foldS L zs S l) zs p.1 p.1.k := by
  induction l with
  | nil => intro S; rfl
  | cons q l ih => intro S; exact ih _
theorem foldD_snoc {a K : Nat} (l : List (BP a K)) (p : BP a K) : ∀ D, foldD D (l ++ [p]) = (foldD D l).set p.1.page true := by
  induction l with
  | nil => intro S; rfl
  | cons q l ih => intro S; exact ih _
theorem foldS_len {L : List Gm.Pl} {zs : List Int} {a K : Nat} (l : List (BP a K)) : ∀ S, (foldS L zs S l).length = S.length := by
  induction l with
  | nil => intro S; rfl
  | cons q l ih => intro S; rw [show foldS L zs S (q :: l) = foldS L zs (prtS L S zs q.1 q.1.k) l from rfl, ih, prtS_len]
theorem foldS_parts {L : List Gm.Pl} {zs : List Int} {a K : Nat} {S : List Int} : ∀ m i, K ≤ i + m → i ≤ K → foldS L zs (wS L S a zs i) (partsG a K m i) = wS L S a zs K := by
  intro m
  induction m with
  | zero => intro i h1 h2; obtain rfl : i = K := by omega
            rfl
  | succ m ih =>
    intro i h1 h2
    by_cases h : i < K
    · rw [partsG_cons h]
      have hb := nxt_bd (a := a) h
      show foldS L zs (prtS L (wS L S a zs i) zs (partAt a K i) (partAt a K i).k) _ = _
      rw [show prtS L (wS L S a zs i) zs (partAt a K i) (partAt a K i).k = wS L S a zs (i + nxt a K i) from prtS_eq (partAt_fine h) _ (Nat.le_refl _)]
      exact ih _ (by omega) (by omega)
    · obtain rfl : i = K := by omega
      rw [partsG_nil (Nat.le_refl _)]; rfl
theorem foldD_parts {a K : Nat} {D : List Bool} : ∀ m i, K ≤ i + m → i ≤ K → foldD (wD D a i) (partsG a K m i) = wD D a K := by
  intro m
  induction m with
  | zero => intro i h1 h2; obtain rfl : i = K := by omega
            rfl
  | succ m ih =>
    intro i h1 h2
    by_cases h : i < K
    · rw [partsG_cons h]
      have hb := nxt_bd (a := a) h
      show foldD ((wD D a i).set (partAt a K i).page true) _ = _
      rw [show (wD D a i).set (partAt a K i).page true = wD D a (i + nxt a K i) from (wD_part (partAt_fine h) _ hb.1 (Nat.le_refl _)).symm]
      exact ih _ (by omega) (by omega)
    · obtain rfl : i = K := by omega
      rw [partsG_nil (Nat.le_refl _)]; rfl
/-- all parts' bytes -/
def foldB (L : List Gm.Pl) (S : List Int) {a K : Nat} (l : List (BP a K)) : List Int := l.flatMap fun p => prtB L S p.1
theorem rB_add (L : List Gm.Pl) (S : List Int) (a i m : Nat) : rB L S a (i + m) = rB L S a i ++ (List.range m).map fun j => S.getD (posn L (a + i + j)) 0 := by
  induction m with
  | zero => simp
  | succ m ih => rw [← Nat.add_assoc, rB_succ, ih, List.range_succ, List.map_append, List.append_assoc]; simp [Nat.add_assoc]
theorem foldB_parts {L : List Gm.Pl} {a K : Nat} {S : List Int} (hS : S.length = 2048) (hf : ∀ i, i < K → frN L ((a + i) / 64) < 32) : ∀ m i, K ≤ i + m → i ≤ K → rB L S a i ++ foldB L S (partsG a K m i) = rB L S a K := by
  intro m
  induction m with
  | zero => intro i h1 h2; obtain rfl : i = K := by omega
            simp [foldB, partsG]
  | succ m ih =>
    intro i h1 h2
    by_cases h : i < K
    · rw [partsG_cons h]
      have hb := nxt_bd (a := a) h
      show rB L S a i ++ (prtB L S (partAt a K i) ++ foldB L S (partsG a K m (i + nxt a K i))) = _
      rw [prtB_eq hS (partAt_fine h) (hf i h), ← List.append_assoc]
      rw [show rB L S a i ++ (List.range (partAt a K i).k).map (fun j => S.getD (posn L (a + (partAt a K i).from_ + j)) 0) = rB L S a (i + nxt a K i) from (rB_add L S a i (nxt a K i)).symm]
      exact ih _ (by omega) (by omega)
    · obtain rfl : i = K := by omega
      rw [partsG_nil (Nat.le_refl _)]
      simp [foldB]
end Go.Proofs.YteaincdeoajkeaaGreatDoor.Vw
end
