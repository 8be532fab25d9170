/- Text and Parse together: every label's text is read as that label; plain facts and contracts. -/
import Derived.Test.YtiocojhkpgdjcaaLe
namespace Go.Proofs.Ytiocojhkpgdjcaa.La
open Go.RowKit Ut

/-- the text of a label -/
def textB (l : Int) : ByteArray := if l == 0 then ⟨#[45]⟩ else strOfNums (lets l 8)
/-- what Parse returns of any text -/
def parseF (l : List UInt8) : Int × Int := if l == [45] then (0, 0) else parseP l

theorem text_any (l : Int) (h : isL l = true) {B : Nat} {w0 w : World} (hB : B ≤ w0.heap.size) (hb : Below B w0 w) :
    Calls Try.prog 24 #[.int .i64 l] w fun e w' => e = .returned (.tuple #[.string (textB l), .int .i64 0]) ∧ Below B w0 w' := by
  cases h0 : (l == 0)
  · refine (text_good l h h0 B w (Nat.le_trans hB hb.size)).mono fun e w' ⟨he, hb'⟩ => ⟨he.trans ?_, hb.trans hb'⟩
    unfold textB; rw [h0]; rfl
  · obtain rfl : l = 0 := by simpa using h0
    exact (text_zero w).mono fun e w' ⟨he, hw⟩ => ⟨he, hw ▸ hb⟩

theorem parse_any (s : ByteArray) (hs : s.size ≤ maxLen) (w : World) :
    Calls Try.prog 26 #[.string s] w fun e w' => e = .returned (.tuple #[.int .i64 (parseF s.data.toList).1, .int .i64 (parseF s.data.toList).2]) ∧ w = w' := by
  have e0 : s.toList = s.data.toList := ByteArray.toList_eq s
  cases h0 : (s.toList == [45])
  · refine (parse_else s hs h0 w).mono fun e w' ⟨he, hw⟩ => ⟨he.trans ?_, hw⟩
    unfold parseF parseV; rw [← e0, h0]; rfl
  · refine (parse_dash s h0 w).mono fun e w' ⟨he, hw⟩ => ⟨he.trans ?_, hw⟩
    unfold parseF; rw [← e0, h0]; rfl

/-- every label's text is read as that label -/
theorem parse_text_all : (List.range 256).all (fun n => parseF (textB n).data.toList == ((n : Int), 0)) = true := by decide +kernel
theorem parse_text (n : Nat) (h : n < 256) : parseF (textB n).data.toList = ((n : Int), 0) := by
  have := List.all_eq_true.1 parse_text_all n (List.mem_range.2 h)
  simpa using this
theorem textB_inj (n m : Nat) (hn : n < 256) (hm : m < 256) (h : (textB n).data.toList = (textB m).data.toList) : n = m := by
  have h1 := parse_text n hn
  rw [h, parse_text m hm] at h1
  have := congrArg Prod.fst h1
  simp at this
  omega
theorem textB_size (l : Int) : (textB l).size ≤ 8 := by
  unfold textB
  split
  · decide
  · rw [strOfNums_size]; exact lets_le l 8

theorem parse_keep (n : Nat) (hn : n < 256) {B : Nat} {w0 w : World} (hb : Below B w0 w) :
    Calls Try.prog 26 #[.string (textB n)] w fun e w' => e = .returned (.tuple #[.int .i64 (n : Int), .int .i64 0]) ∧ Below B w0 w' := by
  refine (parse_any (textB n) (by have := textB_size n; unfold maxLen; omega) w).mono fun e w' ⟨he, hw⟩ => ⟨he.trans ?_, hw ▸ hb⟩
  rw [parse_text n hn]

set_option maxRecDepth 100000 in
theorem back_same (n : Nat) (hn : n < 256) {B : Nat} (w : World) (hB : B ≤ w.heap.size) :
    Calls Try.prog 7 #[.int .u8 n, .int .u8 n] w fun e w' => e = .returned (.bool true) ∧ Below B w w' := by
  have hb0 : Below B w w := Below.refl _ _
  go_enter Try.func7, Try.ntmps7
  go_wp2_with (first | (go_at_call 24; refine (text_any _ (isL_nat n hn) hB (by assumption)).mono ?_; rintro e w1 ⟨rfl, hb1⟩) | (go_at_call 26; refine (parse_keep n hn (by assumption)).mono ?_; rintro e w1 ⟨rfl, hb1⟩) | (go_at_call 23; refine (awake_keep hB (by assumption)).mono ?_; rintro e w1 ⟨rfl, hb1⟩))
  go_ret
  exact ⟨rfl, by assumption⟩

set_option maxRecDepth 100000 in
theorem back_other (n m : Nat) (hn : n < 256) (hm : m < 256) (h : n ≠ m) {B : Nat} (w : World) (hB : B ≤ w.heap.size) :
    Calls Try.prog 7 #[.int .u8 n, .int .u8 m] w fun e w' => e = .returned (.bool true) ∧ Below B w w' := by
  have hb0 : Below B w w := Below.refl _ _
  have h1 : ((textB n).toList == (textB m).toList) = false := by
    rw [ByteArray.toList_eq, ByteArray.toList_eq]
    cases k : ((textB n).data.toList == (textB m).data.toList)
    · rfl
    · exact absurd (textB_inj n m hn hm (by simpa using k)) h
  have h2 : ((n : Int) == (m : Int)) = false := by simp; omega
  clear h
  have l1 := isL_nat n hn
  have l2 := isL_nat m hm
  go_enter Try.func7, Try.ntmps7
  go_wp2_with (first | (go_at_call 24; refine (text_any _ (by assumption) hB (by assumption)).mono ?_; rintro e w1 ⟨rfl, hb1⟩) | (go_at_call 26; refine (parse_keep n hn (by assumption)).mono ?_; rintro e w1 ⟨rfl, hb1⟩) | (go_at_call 23; refine (awake_keep hB (by assumption)).mono ?_; rintro e w1 ⟨rfl, hb1⟩))
  go_ret
  exact ⟨rfl, by assumption⟩
end Go.Proofs.Ytiocojhkpgdjcaa.La
