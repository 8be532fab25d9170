/- Several texts in one: Om Oa Ob Ia Ib -/
import Derived.WalkKit
import Derived.Lib.EndianBits
import Derived.Laws.BitsAllLaws
import Derived.Test.YteaincdeoajkeaaGreatDoorZ02
import Derived.Laws.CopyOwn
import Derived.Great.BuildSlice
import Derived.Deep.Cut
import Derived.Deep.DeepCutAuto
import Derived.Deep.CutBlock
import Derived.Great.Ranges
import Derived.Great.Walk
import Derived.Deep.OwnRows
import Derived.Test.YteaincdeoajkeaaGreatDoorZ03
section
/- Plain facts on bytes and the numbers that they are; nothing of the program. -/
namespace Go.Proofs.YteaincdeoajkeaaGreatDoor.Oc
open Go.RowKit

/-- the number that bytes are, the lowest first -/
def num : List Int → Int
 | [] => 0
 | b :: r => b + 256 * num r

/-- byte k of a number -/
def byteN (v : Int) (k : Nat) : Int := v / 2 ^ (8 * k) % 256
/-- the m lowest bytes of a number -/
def bytesN (v : Int) (m : Nat) : List Int := (List.range m).map (byteN v)

/-- all are bytes -/
def AreBytes (zs : List Int) : Prop := ∀ z ∈ zs, 0 ≤ z ∧ z < 256

theorem AreBytes.take {zs : List Int} (h : AreBytes zs) (k : Nat) : AreBytes (zs.take k) := fun z hz => h z (List.mem_of_mem_take hz)
theorem AreBytes.drop {zs : List Int} (h : AreBytes zs) (k : Nat) : AreBytes (zs.drop k) := fun z hz => h z (List.mem_of_mem_drop hz)
theorem AreBytes.append {a b : List Int} (h : AreBytes a) (k : AreBytes b) : AreBytes (a ++ b) := fun z hz => (List.mem_append.1 hz).elim (h z) (k z)
theorem byteN_bd (v : Int) (k : Nat) : 0 ≤ byteN v k ∧ byteN v k < 256 := by unfold byteN; omega
theorem bytesN_bytes (v : Int) (m : Nat) : AreBytes (bytesN v m) := fun z hz => by
 obtain ⟨k, _, rfl⟩ := List.mem_map.1 hz
 exact byteN_bd v k
theorem length_bytesN (v : Int) (m : Nat) : (bytesN v m).length = m := by simp [bytesN]
theorem getD_at (zs : List Int) (k : Nat) (h : k < zs.length) : zs.getD k 0 = zs[k] := by simp [List.getD, h]
theorem AreBytes.at_ {zs : List Int} (h : AreBytes zs) (k : Nat) : 0 ≤ zs.getD k 0 ∧ zs.getD k 0 < 256 := by
 by_cases hk : k < zs.length
 ·rw [getD_at _ _ hk]; exact h _ (List.getElem_mem hk)
 ·simp [List.getD, List.getElem?_eq_none (Nat.le_of_not_lt hk)]

theorem num_snoc : ∀ (l : List Int) (b : Int), num (l ++ [b]) = num l + 256 ^ l.length * b
 | [], b => by simp [num]
 | c :: r, b => by
  have := num_snoc r b
  simp only [List.cons_append, num, this, List.length_cons]
  rw [Int.pow_succ, Int.mul_add, Int.mul_assoc (256 ^ r.length), Int.mul_left_comm 256, Int.add_assoc]
theorem take_snoc_getD (zs : List Int) (k : Nat) (h : k < zs.length) : zs.take (k + 1) = zs.take k ++ [zs.getD k 0] := by
 rw [List.take_succ_eq_append_getElem h, getD_at _ _ h]
theorem num_take (zs : List Int) (k : Nat) (h : k < zs.length) : num (zs.take (k + 1)) = num (zs.take k) + 256 ^ k * zs.getD k 0 := by
 rw [take_snoc_getD zs k h, num_snoc]
 simp [Nat.min_eq_left (Nat.le_of_lt h)]

theorem num_bd1 (l : List Int) (h : AreBytes l) (hl : l.length ≤ 4) : 0 ≤ num l ∧ num l < 256 ^ l.length := by
 match l, hl with
 | [], _ => simp [num]
 | [a], _ =>
  have := h a (by simp)
  simp [num]; omega
 | [a, b], _ =>
  have := h a (by simp); have := h b (by simp)
  simp [num]; omega
 | [a, b, c], _ =>
  have := h a (by simp); have := h b (by simp); have := h c (by simp)
  simp [num]; omega
 | [a, b, c, d], _ =>
  have := h a (by simp); have := h b (by simp); have := h c (by simp); have := h d (by simp)
  simp [num]; omega
 | _ :: _ :: _ :: _ :: _ :: _, h => simp at h

/-- one byte more, as the program puts it on -/
theorem or_step (zs : List Int) (h : AreBytes zs) (k : Nat) (hk : k < zs.length) (h4 : k < 4) :
  bits .or .u32 (num (zs.take k)) (zs.getD k 0 % 4294967296 * 2 ^ (8 * k) % 4294967296) = num (zs.take (k + 1)) := by
 rw [num_take zs k hk]
 obtain ⟨b0, b1⟩ := h.at_ k
 generalize zs.getD k 0 = b at b0 b1 ⊢
 obtain ⟨n0, n1⟩ := num_bd1 (zs.take k) (h.take k) (by simp; omega)
 rw [show (zs.take k).length = k by simp; omega] at n1
 generalize num (zs.take k) = n at n0 n1 ⊢
 obtain rfl | rfl | rfl | rfl : k = 0 ∨ k = 1 ∨ k = 2 ∨ k = 3 := by omega
 ·have : n = 0 := by simp at n1; omega
  subst this
  rw [show b % 4294967296 * 2 ^ (8 * 0) % 4294967296 = b by simp; omega]
  obtain ⟨c, rfl⟩ := Int.eq_ofNat_of_zero_le b0
  have := u32_or_nat 0 c (by omega) (by omega)
  simp at this
  simp [this]
 ·rw [show b % 4294967296 * 2 ^ (8 * 1) % 4294967296 = b * 256 by simp; omega]
  rw [u32_or8 _ _ n0 (by simpa using n1) (by omega) (by omega) (by omega)]
  simp; omega
 ·rw [show b % 4294967296 * 2 ^ (8 * 2) % 4294967296 = b * 65536 by simp; omega]
  rw [u32_or16 _ _ n0 (by simpa using n1) (by omega) (by omega) (by omega)]
  simp; omega
 ·rw [show b % 4294967296 * 2 ^ (8 * 3) % 4294967296 = b * 16777216 by simp; omega]
  rw [u32_or24 _ _ n0 (by simpa using n1) (by omega) (by omega) (by omega)]
  simp; omega

theorem getD_bytesN (v : Int) (m k : Nat) (h : k < m) : (bytesN v m).getD k 0 = byteN v k := by
 simp [bytesN, List.getD, h]

/-- zs with the m lowest bytes of v from i on -/
def putZ (zs : List Int) (i m : Nat) (v : Int) : List Int := zs.take i ++ (bytesN v m ++ zs.drop (i + m))
theorem length_putZ (zs : List Int) (i m : Nat) (v : Int) (h : i + m ≤ zs.length) : (putZ zs i m v).length = zs.length := by
 simp [putZ, length_bytesN]; omega
theorem putZ_bytes {zs : List Int} (h : AreBytes zs) (i m : Nat) (v : Int) : AreBytes (putZ zs i m v) :=
 (h.take i).append ((bytesN_bytes v m).append (h.drop (i + m)))
theorem getD_putZ (zs : List Int) (i m : Nat) (v : Int) (h : i + m ≤ zs.length) (j : Nat) : (putZ zs i m v).getD j 0 = if i ≤ j ∧ j < i + m then byteN v (j - i) else zs.getD j 0 := by
 unfold putZ
 simp only [List.getD, List.getElem?_append, List.length_take, length_bytesN]
 rw [Nat.min_eq_left (by omega)]
 by_cases h1 : j < i
 ·rw [if_pos h1, if_neg (by omega), List.getElem?_take, if_pos h1]
 ·rw [if_neg h1]
  by_cases h2 : j - i < m
  ·rw [if_pos h2, if_pos (by omega)]
   have := getD_bytesN v m (j - i) h2
   simpa [List.getD] using this
  ·rw [if_neg h2, if_neg (by omega), List.getElem?_drop, show i + m + (j - i - m) = j by omega]
theorem ext_getD {a b : List Int} (hl : a.length = b.length) (h : ∀ j, j < a.length → a.getD j 0 = b.getD j 0) : a = b := by
 apply List.ext_getElem hl
 intro j h1 h2
 rw [← getD_at a j h1, ← getD_at b j h2]
 exact h j h1
theorem getD_set (l : List Int) (i j : Nat) (v : Int) (hi : i < l.length) : (l.set i v).getD j 0 = if j = i then v else l.getD j 0 := by
 simp only [List.getD, List.getElem?_set]
 by_cases e : i = j
 ·subst e; simp [hi]
 ·rw [if_neg e, if_neg (fun h => e h.symm)]
theorem putZ_step (zs : List Int) (i k : Nat) (v : Int) (h : i + k < zs.length) : (putZ zs i k v).set (i + k) (byteN v k) = putZ zs i (k + 1) v := by
 have hl : (putZ zs i k v).length = zs.length := length_putZ zs i k v (by omega)
 refine ext_getD (by rw [List.length_set, hl, length_putZ _ _ _ _ (by omega)]) fun j _ => ?_
 rw [getD_set _ _ _ _ (by omega), getD_putZ _ _ _ _ (by omega), getD_putZ _ _ _ _ (by omega)]
 by_cases e : j = i + k
 ·subst e
  rw [if_pos rfl, if_pos (by omega), Nat.add_sub_cancel_left]
 ·rw [if_neg e]
  by_cases e2 : i ≤ j ∧ j < i + k
  ·rw [if_pos e2, if_pos (by omega)]
  ·rw [if_neg e2, if_neg (by omega)]
theorem putZ_none (zs : List Int) (i : Nat) (v : Int) : putZ zs i 0 v = zs := by simp [putZ, bytesN]

/-- one byte more, as the document puts it on -/
theorem add_step (zs : List Int) (h : AreBytes zs) (k : Nat) (hk : k < zs.length) (h4 : k < 4) :
  (num (zs.take k) + zs.getD k 0 % 4294967296 * 2 ^ (8 * k) % 4294967296) % 4294967296 = num (zs.take (k + 1)) := by
 rw [num_take zs k hk]
 obtain ⟨b0, b1⟩ := h.at_ k
 generalize zs.getD k 0 = b at b0 b1 ⊢
 obtain ⟨n0, n1⟩ := num_bd1 (zs.take k) (h.take k) (by simp; omega)
 rw [show (zs.take k).length = k by simp; omega] at n1
 generalize num (zs.take k) = n at n0 n1 ⊢
 obtain rfl | rfl | rfl | rfl : k = 0 ∨ k = 1 ∨ k = 2 ∨ k = 3 := by omega
 all_goals simp at n1 ⊢; omega

/-- the m lowest bytes of v, the highest bit of them in all bits above; v itself of another width -/
def signZ (v m : Int) : Int :=
 if m = 1 then (if 128 ≤ v % 256 then v % 256 + 4294967040 else v % 256)
 else if m = 2 then (if 32768 ≤ v % 65536 then v % 65536 + 4294901760 else v % 65536)
 else v
end Go.Proofs.YteaincdeoajkeaaGreatDoor.Oc
end
section
/- The walks of package octet's small functions (isWidth, holds, cut, number, lay): what each returns, for every argument. -/
namespace Go.Proofs.YteaincdeoajkeaaGreatDoor.Oc
open Go.RowKit Ut
set_option linter.unusedVariables false

/-- the widths that there are -/
def isW (m : Int) : Bool := decide (m = 1) || decide (m = 2) || decide (m = 4)

theorem isWidth_any (m : Int) (w : World) :
  Calls Tryz.prog 149 #[.int .i64 m] w fun e w' => e = .returned (.bool (isW m)) ∧ w = w' := by
 by_cases h1 : m = 1
 ·subst h1
  go_enter Tryz.func149, Tryz.ntmps149
  go_wp2
  go_ret
  exact ⟨rfl, rfl⟩
 ·by_cases h2 : m = 2
  ·subst h2
   go_enter Tryz.func149, Tryz.ntmps149
   go_wp2
   go_ret
   exact ⟨rfl, rfl⟩
  ·have b1 : (m == 1) = false := by simpa using h1
   have b2 : (m == 2) = false := by simpa using h2
   go_enter Tryz.func149, Tryz.ntmps149
   go_wp2
   go_ret
   refine ⟨congrArg (fun b => Ending.returned (.bool b)) ?_, rfl⟩
   unfold isW
   simp [h1, h2]
   first | rfl | (rw [Bool.eq_iff_iff]; simp)

/-- can a number of m bytes stand at i in n bytes -/
def hold (n : Nat) (i m : Int) : Bool := isW m && decide (0 ≤ i) && decide (i ≤ n - m)

theorem isW_le {m : Int} (h : isW m = true) : 1 ≤ m ∧ m ≤ 4 := by
 unfold isW at h
 simp at h
 omega

theorem holds_any (a : Option Addr) (n cap : Nat) (i m : Int) (w : World) (hn : n ≤ 9223372036854775807) :
  Calls Tryz.prog 124 #[.slice a n cap, .int .i64 i, .int .i64 m] w fun e w' => e = .returned (.bool (hold n i m)) ∧ w = w' := by
 cases hw : isW m
 ·have HW := Lib.hid hw
  go_enter Tryz.func124, Tryz.ntmps124
  go_wp2_with (go_at_call 149; refine (isWidth_any _ _).mono ?_; rintro e w' ⟨rfl, rfl⟩)
  go_ret
  exact ⟨congrArg (fun b => Ending.returned (.bool b)) (by unfold hold; rw [HW.out]; rfl), rfl⟩
 ·have HW := Lib.hid hw
  obtain ⟨hm1, hm4⟩ := isW_le hw
  by_cases h0 : 0 ≤ i
  ·go_enter Tryz.func124, Tryz.ntmps124
   go_wp2_with (go_at_call 149; refine (isWidth_any _ _).mono ?_; rintro e w' ⟨rfl, rfl⟩)
   go_ret
   refine ⟨congrArg (fun b => Ending.returned (.bool b)) ?_, rfl⟩
   unfold hold; rw [HW.out]; simp [h0]
  ·go_enter Tryz.func124, Tryz.ntmps124
   go_wp2_with (go_at_call 149; refine (isWidth_any _ _).mono ?_; rintro e w' ⟨rfl, rfl⟩)
   go_ret
   refine ⟨congrArg (fun b => Ending.returned (.bool b)) ?_, rfl⟩
   unfold hold; rw [HW.out]; simp; omega

theorem cut_any (x : Addr) (n cap i m : Nat) (w : World) (hm : 0 < m) (hi : i + m ≤ n) (hn : n ≤ cap) (hc : cap ≤ 9223372036854775807) :
  Calls Tryz.prog 126 #[.slice (some x) n cap, .int .i64 i, .int .i64 m] w fun e w' => e = .returned (.slice (some (x.add i)) m m) ∧ w = w' := by
 have h1 : (0 : Int) ≤ (i : Int) := by omega
 have h2 : (i : Int) ≤ (i : Int) + (m : Int) := by omega
 have h3 : (i : Int) + (m : Int) ≤ (cap : Int) := by omega
 have h4 : ¬ cap = i := by omega
 have h5 : ¬ i + m - i = 0 := by omega
 go_enter Tryz.func126, Tryz.ntmps126
 go_wp2
 go_ret
 exact ⟨by rw [show Ending.returned (.slice (some (x.add i)) m m) = .returned (.slice (some (x.add i)) (i + m - i) (i + m - i)) from by rw [Nat.add_sub_cancel_left]]; rfl, rfl⟩

theorem number_any (a : Option Addr) (n cap : Nat) (zs : List Int) (B : Nat) (w : World) (h4 : n ≤ 4) (hrow : RowK .u8 w B a n zs) (hz : AreBytes zs) :
  Calls Tryz.prog 125 #[.slice a n cap] w fun e w' => e = .returned (.int .u32 (num zs)) ∧ w = w' := by
 have HR := Lib.hid hrow
 have HZ := Lib.hid hz
 clear hrow hz
 go_enter Tryz.func125, Tryz.ntmps125
 go_wp2
 go_loop [3, 7] (fun v i => ∃ k : Nat, k ≤ n ∧ i = .int .i64 k ∧ v = .int .u32 (num (zs.take k))) (fun _ i => n - (intOf i).toNat)
 case atStart => exact ⟨0, Nat.zero_le _, rfl, rfl⟩
 case round =>
  obtain ⟨k, hk, rfl, rfl⟩ := hrel
  by_cases hlt : k < n
  ·obtain ⟨x, rfl, _, hx⟩ := HR.out.2 k hlt
   have HS := Lib.hid (or_step zs HZ.out k (by rw [HR.out.1]; exact hlt) (by omega))
   obtain ⟨s, hs⟩ : ∃ s, zs.getD k 0 = s := ⟨_, rfl⟩
   rw [hs] at hx HS
   clear hs
   go_wp2
   go_round
   case rel => exact ⟨k + 1, by omega, by go_num, congrArg _ HS.out⟩
   case measure => simp [intOf]; omega
  ·go_wp2
   go_ret
   exact ⟨by rw [show zs.take k = zs from List.take_of_length_le (by rw [HR.out.1]; omega)]; rfl, rfl⟩

/-- the world behind k bytes of v laid into block g from o on -/
def laid (w : World) (g o : Nat) (v : Int) : Nat → World
 | 0 => w
 | k + 1 => (laid w g o v k).setCell ⟨g, o + k, none⟩ (.int .u8 (byteN v k))

theorem laid_is {w : World} {g n : Nat} {t : TypeId} {f : Nat → Value} (h : w.rowIs g t n f) (o : Nat) (v : Int) : ∀ k, (laid w g o v k).rowIs g t n (fun j => if o ≤ j ∧ j < o + k then .int .u8 (byteN v (j - o)) else f j)
 | 0 => h.congr fun j _ => by rw [if_neg (by omega)]
 | k + 1 => by
  refine ((laid_is h o v k).set (o + k) (.int .u8 (byteN v k))).congr fun j _ => ?_
  by_cases e : j = o + k
  ·subst e
   rw [if_pos rfl, if_pos (by omega), Nat.add_sub_cancel_left]
  ·rw [if_neg e]
   by_cases e2 : o ≤ j ∧ j < o + k
   ·rw [if_pos e2, if_pos (by omega)]
   ·rw [if_neg e2, if_neg (by omega)]
theorem laid_below {w w0 : World} {B g : Nat} (h : Below B w0 w) (hB : B ≤ g) (o : Nat) (v : Int) : ∀ k, Below B w0 (laid w g o v k)
 | 0 => h
 | k + 1 => (laid_below h hB o v k).setCell hB _

theorem lay_any (g o n cap N : Nat) (v : Int) (t : TypeId) (f : Nat → Value) (w : World) (h4 : n ≤ 4) (hv0 : 0 ≤ v) (hv1 : v < 4294967296) (hrow : w.rowIs g t N f) (hN : o + n ≤ N) :
  Calls Tryz.prog 134 #[.slice (some ⟨g, o, none⟩) n cap, .int .u32 v] w fun e w' => e = .returned (.tuple #[]) ∧ w' = laid w g o v n := by
 have HR := Lib.hid hrow
 clear hrow
 go_enter Tryz.func134, Tryz.ntmps134
 go_wp2
 go_loopw [7] (fun i wr => ∃ k : Nat, k ≤ n ∧ i = .int .i64 k ∧ wr = laid w g o v k) (fun i _ => n - (intOf i).toNat)
 case atStart => exact ⟨0, Nat.zero_le _, rfl, rfl⟩
 case round =>
  obtain ⟨k, hk, rfl, hwr⟩ := hrel
  have HW := Lib.hid hwr
  have hL := laid_is HR.out o v k
  rw [← hwr] at hL
  clear hwr
  by_cases hlt : k < n
  ·have hc := hL.cell (i := o + k) (by omega)
   have hf := hL.frozen (o + k)
   clear hL
   go_wp2
   go_roundw
   case rel => exact ⟨k + 1, by omega, by go_num, by rw [HW.out]; rfl⟩
   case measure => simp [intOf]; omega
  ·clear hL
   obtain rfl : n = k := by omega
   go_wp2
   go_end0
   exact ⟨rfl, HW.out⟩
end Go.Proofs.YteaincdeoajkeaaGreatDoor.Oc
end
section
/- The walks of package octet's Get, Put and Sign: what each returns, for every argument. -/
namespace Go.Proofs.YteaincdeoajkeaaGreatDoor.Oc
open Go.RowKit Ut
set_option maxRecDepth 100000
set_option linter.unusedVariables false

theorem info_byte : (Tryz.prog.info? 5).map (fun i => (i.zero, i.size, i.bytes)) = some (some (.int .u8 0), 1, 1) := by kernel_rfl
theorem size_byte : (Tryz.prog.info? 5).map (·.size) = some 1 := by kernel_rfl

theorem hold_nat {n i m : Nat} (hm : isW m = true) (hi : i + m ≤ n) : hold n i m = true := by
 unfold hold; rw [hm]; simp; omega
theorem get_no (a : Option Addr) (n cap : Nat) (i m : Int) (w : World) (hn : n ≤ 9223372036854775807) (h : hold n i m = false) :
  Calls Tryz.prog 85 #[.slice a n cap, .int .i64 i, .int .i64 m] w fun e w' => e = .returned (.tuple #[.int .u32 0, .int .i64 1]) ∧ w = w' := by
 go_enter Tryz.func85, Tryz.ntmps85
 go_wp2_with (go_at_call 124; refine (holds_any _ _ _ _ _ _ hn).mono ?_; rintro e w' ⟨rfl, rfl⟩)
 go_ret2
 exact ⟨rfl, rfl⟩

theorem get_yes (a : Option Addr) (n cap i m B : Nat) (zs : List Int) (w : World) (hnc : n ≤ cap) (hc : cap ≤ 9223372036854775807) (hrow : RowK .u8 w B a n zs) (hz : AreBytes zs) (hm : isW m = true) (hi : i + m ≤ n) :
  Calls Tryz.prog 85 #[.slice a n cap, .int .i64 i, .int .i64 m] w fun e w' => e = .returned (.tuple #[.int .u32 (num ((zs.drop i).take m)), .int .i64 0]) ∧ w = w' := by
 have hh := hold_nat hm hi
 obtain ⟨m1, m4⟩ := isW_le hm
 obtain ⟨x, rfl, _⟩ := hrow.2 0 (by omega)
 have HP := Lib.hid (hrow.part i m hi)
 have HZ := Lib.hid ((hz.drop i).take m)
 clear hrow hz
 have hn : n ≤ 9223372036854775807 := by omega
 go_enter Tryz.func85, Tryz.ntmps85
 go_wp2_with (first | (go_at_call 124; refine (holds_any _ _ _ _ _ _ hn).mono ?_; rintro e w' ⟨rfl, rfl⟩) | (go_at_call 126; refine (cut_any x n cap i m _ (by omega) hi hnc hc).mono ?_; rintro e w' ⟨rfl, rfl⟩) | (go_at_call 125; refine (number_any _ _ _ _ _ _ (by omega) HP.out HZ.out).mono ?_; rintro e w' ⟨rfl, rfl⟩))
 go_ret2
 exact ⟨rfl, rfl⟩

theorem cut_own (g n cap i m : Nat) (w : World) (hm : 0 < m) (hi : i + m ≤ n) (hn : n ≤ cap) (hc : cap ≤ 9223372036854775807) :
  Calls Tryz.prog 126 #[.slice (some ⟨g, 0, none⟩) n cap, .int .i64 i, .int .i64 m] w fun e w' => e = .returned (.slice (some ⟨g, i, none⟩) m m) ∧ w = w' := by
 have := cut_any ⟨g, 0, none⟩ n cap i m w hm hi hn hc
 rwa [add_plain] at this

theorem put_yes (a : Option Addr) (n cap i m : Nat) (v : Int) (zs : List Int) (w : World) (hn : n ≤ 140737488355328) (hrow : RowK .u8 w w.heap.size a n zs) (hm : isW m = true) (hi : i + m ≤ n) (hv0 : 0 ≤ v) (hv1 : v < 4294967296) :
  Calls Tryz.prog 102 #[.slice a n cap, .int .i64 i, .int .i64 m, .int .u32 v] w fun e w' =>
   e = .returned (.tuple #[.slice (some ⟨w.heap.size, 0, none⟩) n n, .int .i64 0]) ∧ RowK .u8 w' w'.heap.size (some ⟨w.heap.size, 0, none⟩) n (putZ zs i m v) ∧ Below w.heap.size w w' := by
 have hh := hold_nat hm hi
 obtain ⟨m1, m4⟩ := isW_le hm
 have HR := Lib.hid hrow
 clear hrow
 have hmk := fun W => run_make_row' (P := Tryz.prog) 70 5 (.int .u8 0) 1 Tryz.underlying70 info_byte rfl .i64 .i64 n (by omega) (by omega) W
 have hn' : n ≤ 9223372036854775807 := by omega
 have HG := Lib.hid (made_heap w (.int .u8 0) n 5)
 have HA : Below w.heap.size w (w.alloc (.cells (madeCells #[.int .u8 0] n) 5)) := (Below.refl _ _).alloc (Nat.le_refl _) _
 have HL : n ≤ (List.replicate n (Value.int .u8 0)).length := by simp
 go_enter Tryz.func102, Tryz.ntmps102
 go_wp2_with (first | (go_at_call 124; refine (holds_any _ _ _ _ _ _ hn').mono ?_; rintro e w' ⟨rfl, rfl⟩) | (refine wpList_copy_head (o := ⟨some 21, _, _, _, _, _⟩) rfl (.tmp 19) (.tmp 20) 70 70 rfl 5 Tryz.underlying70 size_byte w.heap.size n n n cap _ _ _ zs rfl rfl _ 5 HG.out (HR.out.below HA) (Nat.le_refl _) HL w.heap.size w HA (Nat.le_refl _) ?_; intro w2 HG2 hb2))
 have hI : w2.rowIs w.heap.size 5 n (fun i => .int .u8 (zs.getD i 0)) := by
  have h := HG2.out
  rw [List.drop_of_length_le (by simp), List.append_nil] at h
  have := is_of_list h
  rwa [HR.out.1] at this
 clear HG2 HG
 have HI := Lib.hid hI
 have HS := Lib.hid (laid_is hI i v m)
 have HB := laid_below hb2 (Nat.le_refl _) i v m
 have HZ : RowK .u8 (laid w2 w.heap.size i v m) (laid w2 w.heap.size i v m).heap.size (some ⟨w.heap.size, 0, none⟩) n (putZ zs i m v) :=
  RowK.of_is HS.out _ (by rw [length_putZ _ _ _ _ (by rw [HR.out.1]; exact hi), HR.out.1]) fun j _ => by
   rw [getD_putZ _ _ _ _ (by rw [HR.out.1]; exact hi)]
   by_cases e : i ≤ j ∧ j < i + m
   ·rw [if_pos e, if_pos e]
   ·rw [if_neg e, if_neg e]
 have HZ' := Lib.hid HZ
 clear HZ hI HS
 refine (cut_own _ n n i m _ (by omega) hi (Nat.le_refl _) hn').mono ?_
 rintro e w3 ⟨rfl, rfl⟩
 go_wp2_with fail
 refine (lay_any _ i m m n v _ _ _ (by omega) hv0 hv1 HI.out hi).mono ?_
 rintro e w3 ⟨rfl, rfl⟩
 go_wp2
 go_ret2
 exact ⟨rfl, HZ'.out, HB⟩
end Go.Proofs.YteaincdeoajkeaaGreatDoor.Oc
end
section
/- Package frames: a store's block told by a flat list of its frames' bytes; plain facts; find, New. -/
namespace Go.Proofs.YteaincdeoajkeaaGreatDoor.Fr
open Go.RowKit Ut Oc
set_option maxRecDepth 100000
set_option linter.unusedVariables false

/-- a store's cells: made, how many, the frames' bytes one behind the other -/
def stCells (n : Nat) (L : List Int) : List Value := .bool true :: .int .i64 n :: L.map (Value.int .u8)
/-- frame f's bytes -/
def frameL (L : List Int) (f : Nat) : List Int := (L.drop (64 * f)).take 64
/-- the bytes with frame f's ones turned to xs -/
def layF (L : List Int) (f : Nat) (xs : List Int) : List Int := splice L (64 * f) xs

theorem length_frameL {L : List Int} (hL : L.length = 2048) {f : Nat} (hf : f < 32) : (frameL L f).length = 64 := by simp [frameL]; omega
theorem frameL_bytes {L : List Int} (h : AreBytes L) (f : Nat) : AreBytes (frameL L f) := (h.drop _).take _
theorem length_layF {L xs : List Int} (hL : L.length = 2048) {f : Nat} (hf : f < 32) (hx : xs.length = 64) : (layF L f xs).length = 2048 := by
 unfold layF; rw [length_splice _ _ _ (by omega), hL]
theorem layF_bytes {L xs : List Int} (h : AreBytes L) (f : Nat) (hx : AreBytes xs) : AreBytes (layF L f xs) := (h.take _).append (hx.append (h.drop _))
theorem frameL_lay {L xs : List Int} (hL : L.length = 2048) {f : Nat} (hf : f < 32) (hx : xs.length = 64) : frameL (layF L f xs) f = xs := by
 unfold frameL layF splice
 rw [List.drop_append_of_le_length (by simp; omega), List.drop_of_length_le (by simp; omega), List.nil_append, List.take_append_of_le_length (by omega), List.take_of_length_le (by omega)]
theorem frameL_other {L xs : List Int} (hL : L.length = 2048) {f g : Nat} (hf : f < 32) (hg : g < 32) (hx : xs.length = 64) (hne : g ≠ f) : frameL (layF L f xs) g = frameL L g := by
 unfold frameL layF splice
 refine List.ext_getElem? fun j => ?_
 simp only [List.getElem?_take, List.getElem?_drop, List.getElem?_append, List.length_take]
 by_cases hj : j < 64
 ·rw [if_pos hj, if_pos hj]
  rw [Nat.min_eq_left (by omega)]
  by_cases h1 : g < f
  ·rw [if_pos (by omega), if_pos (by omega)]
  ·rw [if_neg (by omega), if_neg (by omega)]
   congr 1
   omega
 ·rw [if_neg hj, if_neg hj]
theorem stCells_lay {L xs : List Int} (n : Nat) (hL : L.length = 2048) {f : Nat} (hf : f < 32) (hx : xs.length = 64) : splice (stCells n L) (2 + 64 * f) (xs.map (Value.int .u8)) = stCells n (layF L f xs) := by
 unfold splice stCells layF splice
 rw [show 2 + 64 * f = 64 * f + 1 + 1 by omega]
 simp [List.map_take, List.map_drop, show 64 * f + 1 + 1 + xs.length = 64 * f + xs.length + 1 + 1 by omega]
theorem length_stCells {L : List Int} (n : Nat) (hL : L.length = 2048) : (stCells n L).length = 2050 := by simp [stCells, hL]
/-- block b is a store of n frames, whose bytes are L -/
def St (w : World) (b n : Nat) (L : List Int) : Prop :=
 w.heap[b]? = some (.cells (stCells n L).toArray 139 (0, 0)) ∧ L.length = 2048 ∧ AreBytes L ∧ n ≤ 32

section
variable {w w' : World} {b n : Nat} {L : List Int}
theorem St.lt (h : St w b n L) : b < w.heap.size := (Array.getElem?_eq_some_iff.1 h.1).1
theorem St.of_block (h : St w b n L) (e : w'.heap[b]? = w.heap[b]?) : St w' b n L := ⟨e.trans h.1, h.2⟩
theorem St.below {B : Nat} (h : St w b n L) (hb : Below B w w') (hB : b < B) : St w' b n L := h.of_block (hb.block b hB)
theorem St.grown {row : Option Nat} (h : St w b n L) (hg : w.grownBy w' row) (hr : some b ≠ row) : St w' b n L := h.of_block (hg.block b h.lt hr)
theorem St.cell0 (h : St w b n L) : w.cell? ⟨b, 0, none⟩ = some (.bool true) := by simp [World.cell?, h.1, stCells]
theorem St.cell1 (h : St w b n L) : w.cell? ⟨b, 1, none⟩ = some (.int .i64 n) := by simp [World.cell?, h.1, stCells]
theorem St.cell (h : St w b n L) (i : Nat) : w.cell? ⟨b, 2 + i, none⟩ = (L[i]?).map (Value.int .u8) := by
 have : 2 + i = i + 1 + 1 := by omega
 simp [World.cell?, h.1, stCells, this]
theorem St.frame (h : St w b n L) (f : Nat) (hf : f < 32) : RowK .u8 w (b + 1) (some ⟨b, 2 + 64 * f, none⟩) 64 (frameL L f) := by
 refine ⟨length_frameL h.2.1 hf, fun i hi => ⟨_, rfl, Nat.lt_succ_self b, ?_⟩⟩
 have e : (⟨b, 2 + 64 * f, none⟩ : Addr).add i = ⟨b, 2 + (64 * f + i), none⟩ := by unfold Addr.add; split <;> simp_all [Nat.add_assoc]
 rw [e, h.cell]
 have hl := h.2.1
 simp [frameL, List.getD, hi, show 64 * f + i < L.length by omega]
end

/-- a new store's bytes -/
def zeros : List Int := List.replicate 2048 0
theorem zeros_len : zeros.length = 2048 := List.length_replicate
theorem zeros_bytes : AreBytes zeros := fun z hz => by rw [List.eq_of_mem_replicate hz]; omega
theorem zeros_frame (f : Nat) (hf : f < 32) : frameL zeros f = List.replicate 64 0 := by
 unfold frameL zeros
 rw [List.drop_replicate, List.take_replicate, Nat.min_eq_left (by omega)]

theorem find_in (b n f : Nat) (L : List Int) (w : World) (hS : St w b n L) (hf : f < n) :
  Calls Tryz.prog 55 #[.pointer (some ⟨b, 0, none⟩), .int .i64 f] w fun e w' => e = .returned (.tuple #[.pointer (some ⟨b, 2 + 64 * f, none⟩), .int .i64 0]) ∧ w = w' := by
 have h0 := hS.cell0
 have h1 := hS.cell1
 have hn := hS.2.2.2
 have f0 : decide ((f : Int) < 0) = false := by simp
 have f1 : decide ((n : Int) ≤ (f : Int)) = false := by simpa using hf
 have f2 : (0 : Int) ≤ (f : Int) ∧ (f : Int) < 32 := by omega
 clear hS
 go_enter Tryz.func55, Tryz.ntmps55
 go_wp2
 go_ret2
 refine ⟨?_, rfl⟩
 rw [Nat.mul_comm 64 f]
 rfl

theorem find_out (b n : Nat) (f : Int) (L : List Int) (w : World) (hS : St w b n L) (hf : f < 0 ∨ n ≤ f) :
  Calls Tryz.prog 55 #[.pointer (some ⟨b, 0, none⟩), .int .i64 f] w fun e w' => e = .returned (.tuple #[.pointer none, .int .i64 1]) ∧ w = w' := by
 have h0 := hS.cell0
 have h1 := hS.cell1
 clear hS
 rcases Int.lt_or_le f 0 with f0 | f0
 ·have f1 : decide (f < 0) = true := by simpa using f0
  go_enter Tryz.func55, Tryz.ntmps55
  go_wp2
  go_ret2
  exact ⟨rfl, rfl⟩
 ·have f1 : decide (f < 0) = false := by simpa using f0
  have f2 : decide ((n : Int) ≤ f) = true := by simp; omega
  go_enter Tryz.func55, Tryz.ntmps55
  go_wp2
  go_ret2
  exact ⟨rfl, rfl⟩
end Go.Proofs.YteaincdeoajkeaaGreatDoor.Fr
end
section
/- Package frames: what the methods of a store return and leave, for every argument. -/
namespace Go.Proofs.YteaincdeoajkeaaGreatDoor.Fr
open Go.RowKit Ut Oc
set_option maxRecDepth 100000
set_option linter.unusedVariables false

theorem new_ok (n : Nat) (w : World) (h : n ≤ 32) :
  Calls Tryz.prog 25 #[.int .i64 n] w fun e w' => e = .returned (.tuple #[.pointer (some ⟨w.heap.size, 0, none⟩), .int .i64 0]) ∧ St w' w.heap.size n zeros ∧ Below w.heap.size w w' := by
 have f1 : decide ((n : Int) < 0) = false := by simp
 have f2 : decide ((32 : Int) < (n : Int)) = false := by simp; omega
 have HH := Lib.hid h
 have hS : St (w.alloc (.cells (stCells n zeros).toArray 139)) w.heap.size n zeros := ⟨heap_alloc_new w _, zeros_len, zeros_bytes, h⟩
 have HS := Lib.hid hS
 have HB := (Below.refl w.heap.size w).alloc (Nat.le_refl _) (.cells (stCells n zeros).toArray 139)
 clear h hS
 go_enter Tryz.func25, Tryz.ntmps25
 go_upto_region 3 with fail
 refine wp_region_lit ?_
 refine Great.wpList_readTo rfl _ rfl (.int .i64 n) (by kernel_rfl) ?_
 refine wpList_buildTo rfl 139 _ rfl _ rfl (stCells n zeros).toArray (by kernel_rfl) ?_
 refine Great.wpList_boxTo rfl 139 _ rfl _ rfl w.heap.size rfl (stCells n zeros).toArray rfl ?_
 obtain ⟨W, hW⟩ : ∃ W, W = w.alloc (.cells (stCells n zeros).toArray 139) := ⟨_, rfl⟩
 rw [← hW] at HS HB ⊢
 clear hW
 go_wp2
 go_ret2
 exact ⟨rfl, HS.out, HB⟩

theorem len_of (b : Nat) (n : Int) (w : World) (h1 : w.cell? ⟨b, 1, none⟩ = some (.int .i64 n)) :
  Calls Tryz.prog 64 #[.pointer (some ⟨b, 0, none⟩)] w fun e w' => e = .returned (.int .i64 n) ∧ w = w' := by
 go_enter Tryz.func64, Tryz.ntmps64
 go_wp2
 go_ret
 exact ⟨rfl, rfl⟩

theorem frame_slice_bd : (64 : Nat) ≤ 9223372036854775807 := by omega

theorem load_in (b n f o m : Nat) (L : List Int) (w : World) (hS : St w b n L) (hf : f < n) (hm : isW m = true) (hi : o + m ≤ 64) :
  Calls Tryz.prog 46 #[.pointer (some ⟨b, 0, none⟩), .int .i64 f, .int .i64 o, .int .i64 m] w fun e w' => e = .returned (.tuple #[.int .u32 (num (((frameL L f).drop o).take m)), .int .i64 0]) ∧ w = w' := by
 have hn := hS.2.2.2
 have HR := Lib.hid (hS.frame f (by omega))
 have HZ := Lib.hid (frameL_bytes hS.2.2.1 f)
 have HS := Lib.hid hS
 have HF := Lib.hid hf
 have HM := Lib.hid hm
 have HI := Lib.hid hi
 clear hS hf hm hi hn
 go_enter Tryz.func46, Tryz.ntmps46
 go_wp2_with (first | (go_at_call 55; refine (find_in b n f L w HS.out HF.out).mono ?_; rintro e w' ⟨rfl, rfl⟩) | (go_at_call 85; refine (get_yes _ 64 64 o m _ _ _ (Nat.le_refl _) frame_slice_bd HR.out HZ.out HM.out HI.out).mono ?_; rintro e w' ⟨rfl, rfl⟩))
 go_ret2
 exact ⟨rfl, rfl⟩

/-- block b's cells are turned, new blocks are made, all else is as it was -/
theorem grown_set {w w1 : World} {b : Nat} (hb : Below w.heap.size w w1) (cs : Array Value) : w.grownBy (w1.setRow b cs) (some b) :=
 ⟨hb.os, hb.tape, hb.output, by rw [size_setRow]; exact hb.size, fun k hk hne => by
  rw [setRow_other _ _ _ _ (fun e => hne (by rw [e]))]
  exact hb.block k hk⟩
theorem save_in (b n f o m : Nat) (v : Int) (L : List Int) (w : World) (hS : St w b n L) (hf : f < n) (hm : isW m = true) (hi : o + m ≤ 64) (hv0 : 0 ≤ v) (hv1 : v < 4294967296) :
  Calls Tryz.prog 67 #[.pointer (some ⟨b, 0, none⟩), .int .i64 f, .int .i64 o, .int .i64 m, .int .u32 v] w fun e w' =>
   e = .returned (.int .i64 0) ∧ St w' b n (layF L f (putZ (frameL L f) o m v)) ∧ w.grownBy w' (some b) := by
 have hn := hS.2.2.2
 have hlt := hS.lt
 have hl := hS.2.1
 have HFL := Lib.hid (length_frameL hl (f := f) (by omega))
 have HPL := Lib.hid ((length_putZ (frameL L f) o m v (by rw [HFL.out]; omega)).trans HFL.out)
 have HPB := Lib.hid (putZ_bytes (frameL_bytes hS.2.2.1 f) o m v)
 have HE := Lib.hid (stCells_lay n hl (f := f) (by omega) HPL.out)
 have HR := Lib.hid ((hS.frame f (by omega)).more (B' := w.heap.size) (by omega))
 have HZ := Lib.hid (frameL_bytes hS.2.2.1 f)
 have HN := Lib.hid (⟨length_layF hl (f := f) (by omega) HPL.out, layF_bytes hS.2.2.1 f HPB.out, hn⟩ : (layF L f (putZ (frameL L f) o m v)).length = 2048 ∧ AreBytes (layF L f (putZ (frameL L f) o m v)) ∧ n ≤ 32)
 have HFIT := Lib.hid (show 2 + 64 * f + ((putZ (frameL L f) o m v).map (Value.int .u8)).length ≤ (stCells n L).length by rw [List.length_map, HPL.out, length_stCells n hl]; omega)
 have HLT := Lib.hid hlt
 have HS := Lib.hid hS
 have HF := Lib.hid hf
 have HM := Lib.hid hm
 have HI := Lib.hid hi
 have HV := Lib.hid (And.intro hv0 hv1)
 obtain ⟨X, hX⟩ : ∃ X, X = putZ (frameL L f) o m v := ⟨_, rfl⟩
 rw [← hX] at HPL HPB HE HN HFIT ⊢
 have HX := Lib.hid hX
 clear hS hf hm hi hn hlt hl hv0 hv1 hX
 go_enter Tryz.func67, Tryz.ntmps67
 go_upto_region 7 with (first | (go_at_call 55; refine (find_in b n f L w HS.out HF.out).mono ?_; rintro e w' ⟨rfl, rfl⟩) | (go_at_call 102; refine (put_yes _ 64 64 o m v _ _ (by omega) HR.out HM.out HI.out HV.out.1 HV.out.2).mono ?_; rintro e w2 ⟨rfl, hr2, hb2⟩))
 have HS2 := Lib.hid (HS.out.below hb2 HLT.out)
 rw [← HX.out] at hr2
 have HR2 := Lib.hid hr2
 have HG := Lib.hid (grown_set hb2 (b := b) (stCells n (layF L f X)).toArray)
 have HST : Hid (St (w2.setRow b (stCells n (layF L f X)).toArray) b n (layF L f X)) := ⟨setRow_heap w2 b _ _ _ _ HS2.out.1, HN.out⟩
 have HC : Hid (∀ j v, (X.map (Value.int .u8))[j]? = some v → w2.cell? ((⟨w.heap.size, 0, none⟩ : Addr).add j) = some v) := by
  obtain ⟨ad, e, _, hc⟩ := HR2.out.cells (by rw [List.length_map, HPL.out]; omega)
  injection e with e
  subst e
  exact hc
 have HL : (X.map (Value.int .u8)).length = Nat.min 64 64 := by rw [List.length_map, HPL.out]; rfl
 clear hr2
 go_wp2_with (refine wpList_copy_own rfl (.tmp 38) (.tmp 39) 70 70 rfl 5 Tryz.underlying70 size_byte b (2 + 64 * f) 64 64 ⟨w.heap.size, 0, none⟩ 64 64 rfl rfl (stCells n L).toArray 139 HS2.out.1 (X.map (Value.int .u8)) HL HC.out HFIT.out (ints_oneCell _ _) ?_; rw [show ((stCells n L).toArray.toList.take (2 + 64 * f) ++ (X.map (Value.int .u8) ++ (stCells n L).toArray.toList.drop (2 + 64 * f + (X.map (Value.int .u8)).length))) = stCells n (layF L f X) from HE.out])
 go_ret
 exact ⟨rfl, HST.out, HG.out⟩
end Go.Proofs.YteaincdeoajkeaaGreatDoor.Fr
end
