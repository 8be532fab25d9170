/- Plain facts on bytes and the numbers that they are; nothing of the program. -/
import Derived.WalkKit
import Derived.Lib.EndianBits
import Derived.Laws.BitsAllLaws
namespace Go.Proofs.Ytkkolbdapoejkaa.Oc
open Go.RowKit

/-- the number that bytes are, the lowest first -/
def num : List Int → Int
  | [] => 0
  | b :: r => b + 256 * num r

/-- byte k of a number -/
def byteN (v : Int) (k : Nat) : Int := v / 2 ^ (8 * k) % 256
/-- the m lowest bytes of a number -/
def bytesN (v : Int) (m : Nat) : List Int := (List.range m).map (byteN v)

/-- all are bytes -/
def AreBytes (zs : List Int) : Prop := ∀ z ∈ zs, 0 ≤ z ∧ z < 256

theorem AreBytes.take {zs : List Int} (h : AreBytes zs) (k : Nat) : AreBytes (zs.take k) := fun z hz => h z (List.mem_of_mem_take hz)
theorem AreBytes.drop {zs : List Int} (h : AreBytes zs) (k : Nat) : AreBytes (zs.drop k) := fun z hz => h z (List.mem_of_mem_drop hz)
theorem AreBytes.append {a b : List Int} (h : AreBytes a) (k : AreBytes b) : AreBytes (a ++ b) := fun z hz => (List.mem_append.1 hz).elim (h z) (k z)
theorem byteN_bd (v : Int) (k : Nat) : 0 ≤ byteN v k ∧ byteN v k < 256 := by unfold byteN; omega
theorem bytesN_bytes (v : Int) (m : Nat) : AreBytes (bytesN v m) := fun z hz => by
  obtain ⟨k, _, rfl⟩ := List.mem_map.1 hz
  exact byteN_bd v k
theorem length_bytesN (v : Int) (m : Nat) : (bytesN v m).length = m := by simp [bytesN]
theorem getD_at (zs : List Int) (k : Nat) (h : k < zs.length) : zs.getD k 0 = zs[k] := by simp [List.getD, h]
theorem AreBytes.at_ {zs : List Int} (h : AreBytes zs) (k : Nat) : 0 ≤ zs.getD k 0 ∧ zs.getD k 0 < 256 := by
  by_cases hk : k < zs.length
  · rw [getD_at _ _ hk]; exact h _ (List.getElem_mem hk)
  · simp [List.getD, List.getElem?_eq_none (Nat.le_of_not_lt hk)]

theorem num_snoc : ∀ (l : List Int) (b : Int), num (l ++ [b]) = num l + 256 ^ l.length * b
  | [], b => by simp [num]
  | c :: r, b => by
    have := num_snoc r b
    simp only [List.cons_append, num, this, List.length_cons]
    rw [Int.pow_succ, Int.mul_add, Int.mul_assoc (256 ^ r.length), Int.mul_left_comm 256, Int.add_assoc]
theorem take_snoc_getD (zs : List Int) (k : Nat) (h : k < zs.length) : zs.take (k + 1) = zs.take k ++ [zs.getD k 0] := by
  rw [List.take_succ_eq_append_getElem h, getD_at _ _ h]
theorem num_take (zs : List Int) (k : Nat) (h : k < zs.length) : num (zs.take (k + 1)) = num (zs.take k) + 256 ^ k * zs.getD k 0 := by
  rw [take_snoc_getD zs k h, num_snoc]
  simp [Nat.min_eq_left (Nat.le_of_lt h)]

theorem num_bd1 (l : List Int) (h : AreBytes l) (hl : l.length ≤ 4) : 0 ≤ num l ∧ num l < 256 ^ l.length := by
  match l, hl with
  | [], _ => simp [num]
  | [a], _ =>
    have := h a (by simp)
    simp [num]; omega
  | [a, b], _ =>
    have := h a (by simp); have := h b (by simp)
    simp [num]; omega
  | [a, b, c], _ =>
    have := h a (by simp); have := h b (by simp); have := h c (by simp)
    simp [num]; omega
  | [a, b, c, d], _ =>
    have := h a (by simp); have := h b (by simp); have := h c (by simp); have := h d (by simp)
    simp [num]; omega
  | _ :: _ :: _ :: _ :: _ :: _, h => simp at h

/-- one byte more, as the program puts it on -/
theorem or_step (zs : List Int) (h : AreBytes zs) (k : Nat) (hk : k < zs.length) (h4 : k < 4) :
    bits .or .u32 (num (zs.take k)) (zs.getD k 0 % 4294967296 * 2 ^ (8 * k) % 4294967296) = num (zs.take (k + 1)) := by
  rw [num_take zs k hk]
  obtain ⟨b0, b1⟩ := h.at_ k
  generalize zs.getD k 0 = b at b0 b1 ⊢
  obtain ⟨n0, n1⟩ := num_bd1 (zs.take k) (h.take k) (by simp; omega)
  rw [show (zs.take k).length = k by simp; omega] at n1
  generalize num (zs.take k) = n at n0 n1 ⊢
  obtain rfl | rfl | rfl | rfl : k = 0 ∨ k = 1 ∨ k = 2 ∨ k = 3 := by omega
  · have : n = 0 := by simp at n1; omega
    subst this
    rw [show b % 4294967296 * 2 ^ (8 * 0) % 4294967296 = b by simp; omega]
    obtain ⟨c, rfl⟩ := Int.eq_ofNat_of_zero_le b0
    have := u32_or_nat 0 c (by omega) (by omega)
    simp at this
    simp [this]
  · rw [show b % 4294967296 * 2 ^ (8 * 1) % 4294967296 = b * 256 by simp; omega]
    rw [u32_or8 _ _ n0 (by simpa using n1) (by omega) (by omega) (by omega)]
    simp; omega
  · rw [show b % 4294967296 * 2 ^ (8 * 2) % 4294967296 = b * 65536 by simp; omega]
    rw [u32_or16 _ _ n0 (by simpa using n1) (by omega) (by omega) (by omega)]
    simp; omega
  · rw [show b % 4294967296 * 2 ^ (8 * 3) % 4294967296 = b * 16777216 by simp; omega]
    rw [u32_or24 _ _ n0 (by simpa using n1) (by omega) (by omega) (by omega)]
    simp; omega

theorem num_bytes4 (v : Int) (h0 : 0 ≤ v) (h1 : v < 4294967296) : num (bytesN v 4) = v := by
  simp [bytesN, List.range_succ, num, byteN]; omega
theorem num_bytes2 (v : Int) : num (bytesN v 2) = v % 65536 := by
  simp [bytesN, List.range_succ, num, byteN]; omega
theorem num_bytes1 (v : Int) : num (bytesN v 1) = v % 256 := by
  simp [bytesN, List.range_succ, num, byteN]
theorem getD_bytesN (v : Int) (m k : Nat) (h : k < m) : (bytesN v m).getD k 0 = byteN v k := by
  simp [bytesN, List.getD, h]

/-- zs with the m lowest bytes of v from i on -/
def putZ (zs : List Int) (i m : Nat) (v : Int) : List Int := zs.take i ++ (bytesN v m ++ zs.drop (i + m))
theorem length_putZ (zs : List Int) (i m : Nat) (v : Int) (h : i + m ≤ zs.length) : (putZ zs i m v).length = zs.length := by
  simp [putZ, length_bytesN]; omega
theorem putZ_bytes {zs : List Int} (h : AreBytes zs) (i m : Nat) (v : Int) : AreBytes (putZ zs i m v) :=
  (h.take i).append ((bytesN_bytes v m).append (h.drop (i + m)))
theorem getD_putZ (zs : List Int) (i m : Nat) (v : Int) (h : i + m ≤ zs.length) (j : Nat) : (putZ zs i m v).getD j 0 = if i ≤ j ∧ j < i + m then byteN v (j - i) else zs.getD j 0 := by
  unfold putZ
  simp only [List.getD, List.getElem?_append, List.length_take, length_bytesN]
  rw [Nat.min_eq_left (by omega)]
  by_cases h1 : j < i
  · rw [if_pos h1, if_neg (by omega), List.getElem?_take, if_pos h1]
  · rw [if_neg h1]
    by_cases h2 : j - i < m
    · rw [if_pos h2, if_pos (by omega)]
      have := getD_bytesN v m (j - i) h2
      simpa [List.getD] using this
    · rw [if_neg h2, if_neg (by omega), List.getElem?_drop, show i + m + (j - i - m) = j by omega]
theorem putZ_part (zs : List Int) (i m : Nat) (v : Int) (h : i + m ≤ zs.length) : ((putZ zs i m v).drop i).take m = bytesN v m := by
  unfold putZ
  rw [List.drop_append_of_le_length (by simp; omega), List.drop_of_length_le (by simp; omega), List.nil_append, List.take_append_of_le_length (by rw [length_bytesN]; omega), List.take_of_length_le (by rw [length_bytesN]; omega)]
theorem ext_getD {a b : List Int} (hl : a.length = b.length) (h : ∀ j, j < a.length → a.getD j 0 = b.getD j 0) : a = b := by
  apply List.ext_getElem hl
  intro j h1 h2
  rw [← getD_at a j h1, ← getD_at b j h2]
  exact h j h1
theorem getD_set (l : List Int) (i j : Nat) (v : Int) (hi : i < l.length) : (l.set i v).getD j 0 = if j = i then v else l.getD j 0 := by
  simp only [List.getD, List.getElem?_set]
  by_cases e : i = j
  · subst e; simp [hi]
  · rw [if_neg e, if_neg (fun h => e h.symm)]
theorem putZ_step (zs : List Int) (i k : Nat) (v : Int) (h : i + k < zs.length) : (putZ zs i k v).set (i + k) (byteN v k) = putZ zs i (k + 1) v := by
  have hl : (putZ zs i k v).length = zs.length := length_putZ zs i k v (by omega)
  refine ext_getD (by rw [List.length_set, hl, length_putZ _ _ _ _ (by omega)]) fun j _ => ?_
  rw [getD_set _ _ _ _ (by omega), getD_putZ _ _ _ _ (by omega), getD_putZ _ _ _ _ (by omega)]
  by_cases e : j = i + k
  · subst e
    rw [if_pos rfl, if_pos (by omega), Nat.add_sub_cancel_left]
  · rw [if_neg e]
    by_cases e2 : i ≤ j ∧ j < i + k
    · rw [if_pos e2, if_pos (by omega)]
    · rw [if_neg e2, if_neg (by omega)]
theorem putZ_none (zs : List Int) (i : Nat) (v : Int) : putZ zs i 0 v = zs := by simp [putZ, bytesN]

/-- one byte more, as the document puts it on -/
theorem add_step (zs : List Int) (h : AreBytes zs) (k : Nat) (hk : k < zs.length) (h4 : k < 4) :
    (num (zs.take k) + zs.getD k 0 % 4294967296 * 2 ^ (8 * k) % 4294967296) % 4294967296 = num (zs.take (k + 1)) := by
  rw [num_take zs k hk]
  obtain ⟨b0, b1⟩ := h.at_ k
  generalize zs.getD k 0 = b at b0 b1 ⊢
  obtain ⟨n0, n1⟩ := num_bd1 (zs.take k) (h.take k) (by simp; omega)
  rw [show (zs.take k).length = k by simp; omega] at n1
  generalize num (zs.take k) = n at n0 n1 ⊢
  obtain rfl | rfl | rfl | rfl : k = 0 ∨ k = 1 ∨ k = 2 ∨ k = 3 := by omega
  all_goals simp at n1 ⊢; omega

/-- the m lowest bytes of v, the highest bit of them in all bits above; v itself of another width -/
def signZ (v m : Int) : Int :=
  if m = 1 then (if 128 ≤ v % 256 then v % 256 + 4294967040 else v % 256)
  else if m = 2 then (if 32768 ≤ v % 65536 then v % 65536 + 4294901760 else v % 65536)
  else v
end Go.Proofs.Ytkkolbdapoejkaa.Oc
