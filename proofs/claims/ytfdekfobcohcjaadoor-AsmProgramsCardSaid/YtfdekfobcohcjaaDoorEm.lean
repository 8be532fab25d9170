/- Plan: plain facts of texts: pieces, words, numbers. -/
import Derived.Laws.RangeAny
import Derived.Lib.Strings
import Derived.Lib.ItoaNum
namespace Go.Proofs.YtfdekfobcohcjaaDoor.Pl
theorem snoc_ind {α : Type} {P : List α → Prop} (h0 : P []) (h1 : ∀ l b, P l → P (l ++ [b])) (l : List α) : P l := by
  have h : ∀ r : List α, P r.reverse := fun r => by
    induction r with
    | nil => exact h0
    | cons b r ih => rw [List.reverse_cons]; exact h1 _ _ ih
  have := h l.reverse
  rwa [List.reverse_reverse] at this
/-- cut by a fold -/
def cutS (c : UInt8) (st : List (List UInt8) × List UInt8) (b : UInt8) : List (List UInt8) × List UInt8 := if b = c then (st.1 ++ [st.2], []) else (st.1, st.2 ++ [b])
def cutL (c : UInt8) (l : List UInt8) : List (List UInt8) × List UInt8 := l.foldl (cutS c) ([], [])
theorem cutL_nil (c : UInt8) : cutL c [] = ([], []) := rfl
theorem cutL_snoc (c : UInt8) (l : List UInt8) (b : UInt8) : cutL c (l ++ [b]) = cutS c (cutL c l) b := by simp [cutL, List.foldl_append]
theorem cutL_end (c : UInt8) (l : List UInt8) : cutL c (l ++ [c]) = ((cutL c l).1 ++ [(cutL c l).2], []) := by rw [cutL_snoc]; simp [cutS]
theorem fold_plain (c : UInt8) : ∀ (d : List UInt8) (st : List (List UInt8) × List UInt8), c ∉ d → d.foldl (cutS c) st = (st.1, st.2 ++ d)
  | [], st, _ => by simp
  | b :: d, st, h => by
    have hb : ¬ b = c := fun e => h (by simp [e])
    rw [List.foldl_cons, fold_plain c d _ (fun e => h (by simp [e]))]
    simp [cutS, hb]
theorem cutL_plain (c : UInt8) (l d : List UInt8) (h : c ∉ d) : cutL c (l ++ d) = ((cutL c l).1, (cutL c l).2 ++ d) := by
  unfold cutL; rw [List.foldl_append, fold_plain c d _ h]
/-- a text is its pieces, each with its end, and what stands last -/
theorem cutL_join (c : UInt8) (l : List UInt8) : l = ((cutL c l).1.map (· ++ [c])).flatten ++ (cutL c l).2 := by
  refine snoc_ind (P := fun l => l = ((cutL c l).1.map (· ++ [c])).flatten ++ (cutL c l).2) rfl (fun l b ih => ?_) l
  · rw [cutL_snoc]
    unfold cutS
    split
    · rename_i e
      subst e
      conv => lhs; rw [ih]
      simp
    · conv => lhs; rw [ih]
      simp
theorem cutL_no (c : UInt8) (l : List UInt8) : (∀ p ∈ (cutL c l).1, c ∉ p) ∧ c ∉ (cutL c l).2 := by
  refine snoc_ind (P := fun l => (∀ p ∈ (cutL c l).1, c ∉ p) ∧ c ∉ (cutL c l).2) (by simp [cutL]) (fun l b ih => ?_) l
  · rw [cutL_snoc]
    unfold cutS
    split
    · refine ⟨fun p hp => ?_, by simp⟩
      rcases List.mem_append.1 hp with h | h
      · exact ih.1 p h
      · simp at h; subst h; exact ih.2
    · rename_i hb
      refine ⟨ih.1, fun h => ?_⟩
      rcases List.mem_append.1 h with h | h
      · exact ih.2 h
      · simp at h; exact hb h.symm
theorem cutL_of (c : UInt8) (ps : List (List UInt8)) (cur : List UInt8) (hp : ∀ p ∈ ps, c ∉ p) (hc : c ∉ cur) : cutL c ((ps.map (· ++ [c])).flatten ++ cur) = (ps, cur) := by
  rw [cutL_plain c _ _ hc]
  suffices h : cutL c (ps.map (· ++ [c])).flatten = (ps, []) by rw [h]; simp
  clear hc
  revert hp
  refine snoc_ind (P := fun ps => (∀ p ∈ ps, c ∉ p) → cutL c (ps.map (· ++ [c])).flatten = (ps, [])) (fun _ => rfl) (fun ps p ih hp => ?_) ps
  · have e : ((ps ++ [p]).map (· ++ [c])).flatten = ((ps.map (· ++ [c])).flatten ++ p) ++ [c] := by simp
    rw [e, cutL_end, cutL_plain c _ _ (hp p (by simp)), ih fun q hq => hp q (by simp [hq])]
    simp
/-- the rune at a place: an ASCII byte alone, or bytes from 128 on -/
theorem dec_span (s : ByteArray) (pos : Nat) (h : pos < s.size) : 1 ≤ (Utf8.decode s pos).2 ∧ pos + (Utf8.decode s pos).2 ≤ s.size ∧
    (((s[pos]'h).toNat < 128 ∧ (Utf8.decode s pos).1 = (s[pos]'h).toNat ∧ (Utf8.decode s pos).2 = 1) ∨
     (128 ≤ (Utf8.decode s pos).1 ∧ ∀ k, pos ≤ k → (hk : k < pos + (Utf8.decode s pos).2) → 128 ≤ (s.get! k).toNat)) := by
  by_cases ha : (s[pos]'h).toNat < 128
  · rw [decode_ascii s pos h ha]
    exact ⟨Nat.le_refl _, h, .inl ⟨ha, rfl, rfl⟩⟩
  · have hh := decode_high s pos h (by omega)
    refine ⟨hh.2, ?_, .inr ⟨hh.1, ?_⟩⟩
    · have hn : ¬ (s[pos]'h).toNat < 128 := by omega
      simp only [Utf8.decode, get_at s pos h, hn, if_false]
      repeat' split
      all_goals simp_all
      all_goals omega
    · have hn : ¬ (s[pos]'h).toNat < 128 := by omega
      have e0 : s.get! pos = s[pos]'h := get_at s pos h
      intro k hk1 hk2
      have hk : k = pos ∨ k = pos + 1 ∨ k = pos + 2 ∨ k = pos + 3 ∨ pos + 4 ≤ k := by omega
      rcases hk with rfl | rfl | rfl | rfl | hk
      · rw [e0]; omega
      all_goals
        revert hk2
        simp only [Utf8.decode, get_at s pos h, hn, if_false]
        repeat' split
        all_goals simp_all
        all_goals omega
/-- the number that digits say -/
def isDig (b : UInt8) : Bool := decide (48 ≤ b.toNat) && decide (b.toNat ≤ 57)
def digN (n : Nat) (b : UInt8) : Nat := 10 * n + (b.toNat - 48)
def valD (l : List UInt8) : Nat := l.foldl digN 0
theorem valD_snoc (l : List UInt8) (b : UInt8) : valD (l ++ [b]) = 10 * valD l + (b.toNat - 48) := by simp [valD, List.foldl_append, digN]
/-- the number whose text it is -/
def numL (l : List UInt8) : Option Nat := if l = [] ∨ 9 < l.length ∨ (l.getD 0 0 = 48 ∧ 1 < l.length) ∨ l.all isDig = false then none else some (valD l)
theorem isDig_iff (b : UInt8) : isDig b = true ↔ 48 ≤ b.toNat ∧ b.toNat ≤ 57 := by simp [isDig]
theorem valD_pos : ∀ (l : List UInt8), l ≠ [] → l.all isDig = true → l.getD 0 0 ≠ 48 → 1 ≤ valD l := by
  refine snoc_ind (by simp) (fun l b ih _ hd h0 => ?_)
  rw [valD_snoc]
  by_cases e : l = []
  · subst e
    simp [isDig_iff] at hd h0
    have : b.toNat ≠ 48 := fun h => h0 (UInt8.toNat_inj.1 (by rw [h]; rfl))
    omega
  · have h1 : (l ++ [b]).getD 0 0 = l.getD 0 0 := by
      cases l with
      | nil => exact absurd rfl e
      | cons x r => rfl
    have := ih e (by simp at hd ⊢; exact fun x hx => hd.1 x hx) (by rw [← h1]; exact h0)
    omega
theorem valD_text : ∀ (l : List UInt8), l ≠ [] → l.all isDig = true → ¬ (l.getD 0 0 = 48 ∧ 1 < l.length) → Lib.decDigits (valD l) = l := by
  refine snoc_ind (by simp) (fun l b ih _ hd h0 => ?_)
  rw [valD_snoc]
  have hb : 48 ≤ b.toNat ∧ b.toNat ≤ 57 := by
    rw [← isDig_iff]; exact List.all_eq_true.1 hd b (by simp)
  have hbb : UInt8.ofNat (48 + (b.toNat - 48)) = b := by rw [show 48 + (b.toNat - 48) = b.toNat by omega]; simp
  by_cases e : l = []
  · subst e
    rw [show valD [] = 0 from rfl, Lib.decDigits, dif_pos (by omega)]
    simp only [Nat.mul_zero, Nat.zero_add, hbb, List.nil_append]
  · have h1 : (l ++ [b]).getD 0 0 = l.getD 0 0 := by
      cases l with
      | nil => exact absurd rfl e
      | cons x r => rfl
    have hl : l.all isDig = true := by
      rw [List.all_eq_true] at hd ⊢; exact fun x hx => hd x (by simp [hx])
    have hpos : 0 < l.length := List.length_pos_iff.2 e
    have h2 : l.getD 0 0 ≠ 48 := fun h => h0 ⟨by rw [h1, h], by simp; omega⟩
    have hp := valD_pos l e hl h2
    rw [Lib.decDigits, dif_neg (by omega), show (10 * valD l + (b.toNat - 48)) / 10 = valD l by omega, show (10 * valD l + (b.toNat - 48)) % 10 = b.toNat - 48 by omega, ih e hl (fun h => h2 h.1), hbb]
theorem numL_text {l : List UInt8} {n : Nat} (h : numL l = some n) : Lib.decDigits n = l := by
  unfold numL at h
  split at h
  · cases h
  · rename_i hc
    injection h with h
    subst h
    exact valD_text l (fun e => hc (.inl e)) (by simpa using fun e => hc (.inr (.inr (.inr e)))) (fun e => hc (.inr (.inr (.inl e))))
/-- the text of a number below a hundred -/
def dd (n : Nat) : List UInt8 := if n < 10 then [UInt8.ofNat (48 + n)] else [UInt8.ofNat (48 + n / 10), UInt8.ofNat (48 + n % 10)]
theorem dec_dd (n : Nat) (h : n < 100) : Lib.decDigits n = dd n := by
  unfold dd
  rw [Lib.decDigits]
  split
  · rfl
  · rw [Lib.decDigits, dif_pos (by omega)]
    rfl
theorem dd_all : (List.range 100).all (fun n => numL (dd n) == some n && !(dd n).contains 32 && !(dd n).contains 10 && !(dd n).isEmpty && !(dd n == [111, 117, 116])) = true := by decide +kernel
theorem dd_good (n : Nat) (h : n < 100) : numL (dd n) = some n ∧ 32 ∉ dd n ∧ 10 ∉ dd n ∧ dd n ≠ [] ∧ dd n ≠ [111, 117, 116] := by
  have := List.all_eq_true.1 dd_all n (List.mem_range.2 h)
  simp at this
  exact ⟨this.1.1.1.1, this.1.1.1.2, this.1.1.2, this.1.2, this.2⟩
def wordsL (l : List UInt8) : Option (List (List UInt8)) := if [] ∈ (cutL 32 l).1 ++ [(cutL 32 l).2] then none else some ((cutL 32 l).1 ++ [(cutL 32 l).2])
end Go.Proofs.YtfdekfobcohcjaaDoor.Pl
