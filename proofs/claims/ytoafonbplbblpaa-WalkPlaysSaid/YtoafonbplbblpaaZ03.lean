/- Several texts in one: Oc Ia -/
import Derived.Test.YtoafonbplbblpaaZ02
import Derived.Great.BuildSlice
import Derived.Deep.Cut
import Derived.Deep.DeepCutAuto
import Derived.Deep.CutBlock
import Derived.Great.Ranges
import Derived.Great.Walk
import Derived.Deep.OwnRows
section
/- The document's In, Get, Put and Sign of layer 2, and octet's Sign: what each returns, for every argument. -/
namespace Go.Proofs.Ytoafonbplbblpaa.Oc
open Go.RowKit Ut
set_option maxRecDepth 100000
set_option linter.unusedVariables false

theorem refIn_any (a : Option Addr) (n cap : Nat) (i m : Int) (w : World) (hn : n ≤ 9223372036854775807) :
    Calls Try.prog 79 #[.slice a n cap, .int .i64 i, .int .i64 m] w fun e w' => e = .returned (.bool (hold n i m)) ∧ w = w' := by
  cases hw : isW m
  · have HW := Lib.hid hw
    unfold isW at hw
    simp at hw
    have b1 : (m != 1) = true := by simp [hw]
    have b2 : (m != 2) = true := by simp [hw]
    have b3 : (m != 4) = true := by simp [hw]
    clear hw
    go_enter Try.func79, Try.ntmps79
    go_wp2
    go_ret
    exact ⟨congrArg (fun b => Ending.returned (.bool b)) (by unfold hold; rw [HW.out]; rfl), rfl⟩
  · have HW := Lib.hid hw
    obtain ⟨hm1, hm4⟩ := isW_le hw
    obtain rfl | rfl | rfl : m = 1 ∨ m = 2 ∨ m = 4 := by unfold isW at hw; simp at hw; omega
    all_goals
      clear hw
      by_cases h0 : 0 ≤ i
      · by_cases h1 : i ≤ n
        · go_enter Try.func79, Try.ntmps79
          go_wp2
          go_ret
          refine ⟨congrArg (fun b => Ending.returned (.bool b)) ?_, rfl⟩
          unfold hold; rw [HW.out, Bool.eq_iff_iff]; simp; omega
        · go_enter Try.func79, Try.ntmps79
          go_wp2
          go_ret
          refine ⟨congrArg (fun b => Ending.returned (.bool b)) ?_, rfl⟩
          unfold hold; rw [HW.out, Bool.eq_iff_iff]; simp; omega
      · go_enter Try.func79, Try.ntmps79
        go_wp2
        go_ret
        refine ⟨congrArg (fun b => Ending.returned (.bool b)) ?_, rfl⟩
        unfold hold; rw [HW.out, Bool.eq_iff_iff]; simp; omega

theorem refGet_no (a : Option Addr) (n cap : Nat) (i m : Int) (w : World) (hn : n ≤ 9223372036854775807) (h : hold n i m = false) :
    Calls Try.prog 76 #[.slice a n cap, .int .i64 i, .int .i64 m] w fun e w' => e = .returned (.tuple #[.int .u32 0, .int .i64 1]) ∧ w = w' := by
  go_enter Try.func76, Try.ntmps76
  go_wp2_with (go_at_call 79; refine (refIn_any _ _ _ _ _ _ hn).mono ?_; rintro e w' ⟨rfl, rfl⟩)
  go_ret2
  exact ⟨rfl, rfl⟩

theorem refGet_yes (a : Option Addr) (n cap i m B : Nat) (zs : List Int) (w : World) (hn : n ≤ 140737488355328) (hrow : RowK .u8 w B a n zs) (hz : AreBytes zs) (hm : isW m = true) (hi : i + m ≤ n) :
    Calls Try.prog 76 #[.slice a n cap, .int .i64 i, .int .i64 m] w fun e w' => e = .returned (.tuple #[.int .u32 (num ((zs.drop i).take m)), .int .i64 0]) ∧ w = w' := by
  have hh := hold_nat hm hi
  obtain ⟨m1, m4⟩ := isW_le hm
  have HM := Lib.hid hm
  have HR := Lib.hid hrow
  have HZ := Lib.hid hz
  clear hrow hz hm
  have hn' : n ≤ 9223372036854775807 := by omega
  go_enter Try.func76, Try.ntmps76
  go_wp2_with (go_at_call 79; refine (refIn_any _ _ _ _ _ _ hn').mono ?_; rintro e w' ⟨rfl, rfl⟩)
  go_loop [8, 9] (fun v j => ∃ k : Nat, k ≤ m ∧ j = .int .i64 k ∧ v = .int .u32 (num (((zs.drop i).take m).take k))) (fun _ j => m - (intOf j).toNat)
  case atStart => exact ⟨0, Nat.zero_le _, rfl, rfl⟩
  case round =>
    obtain ⟨k, hk, rfl, rfl⟩ := hrel
    by_cases hlt : k < m
    · obtain ⟨x, rfl, _, hx⟩ := HR.out.2 (i + k) (by omega)
      have HL : ((zs.drop i).take m).length = m := by simp [HR.out.1]; omega
      have HS := Lib.hid (add_step ((zs.drop i).take m) ((HZ.out.drop i).take m) k (by omega) (by omega))
      obtain ⟨s, hs⟩ : ∃ s, zs.getD (i + k) 0 = s := ⟨_, rfl⟩
      have e : ((zs.drop i).take m).getD k 0 = zs.getD (i + k) 0 := by simp [List.getD, hlt]
      rw [hs] at hx e
      rw [e] at HS
      have hi1 : (0 : Int) ≤ (i : Int) + (k : Int) := by omega
      have hi2 : (i : Int) + (k : Int) < (n : Int) := by omega
      clear hs e HL
      go_wp2
      go_round
      case rel => exact ⟨k + 1, by omega, by go_num, congrArg _ HS.out⟩
      case measure => simp [intOf]; omega
    · go_wp2
      go_ret2
      exact ⟨by rw [show ((zs.drop i).take m).take k = (zs.drop i).take m from List.take_of_length_le (by simp; omega)]; rfl, rfl⟩

theorem refPut_no (a : Option Addr) (n cap : Nat) (i m v : Int) (w : World) (hn : n ≤ 9223372036854775807) (h : hold n i m = false) :
    Calls Try.prog 68 #[.slice a n cap, .int .i64 i, .int .i64 m, .int .u32 v] w fun e w' => e = .returned (.tuple #[.slice none 0 0, .int .i64 1]) ∧ w = w' := by
  go_enter Try.func68, Try.ntmps68
  go_wp2_with (go_at_call 79; refine (refIn_any _ _ _ _ _ _ hn).mono ?_; rintro e w' ⟨rfl, rfl⟩)
  go_ret2
  exact ⟨rfl, rfl⟩

theorem refPut_own (a : Option Addr) (n cap i m : Nat) (v : Int) (zs : List Int) (w : World) (hn : n ≤ 140737488355328) (hrow : RowK .u8 w w.heap.size a n zs) (hm : isW m = true) (hi : i + m ≤ n) (hv0 : 0 ≤ v) (hv1 : v < 4294967296) :
    Calls Try.prog 68 #[.slice a n cap, .int .i64 i, .int .i64 m, .int .u32 v] w fun e w' =>
      ∃ g c, e = .returned (.tuple #[.slice (some ⟨g, 0, none⟩) n c, .int .i64 0]) ∧ w.heap.size ≤ g ∧ n ≤ c ∧ c ≤ 9223372036854775807 ∧ RowK .u8 w' w'.heap.size (some ⟨g, 0, none⟩) n (putZ zs i m v) ∧ Below w.heap.size w w' := by
  have hh := hold_nat hm hi
  obtain ⟨m1, m4⟩ := isW_le hm
  have HR := Lib.hid hrow
  clear hrow hm
  have HO := Lib.hid (OwnI.made .u8 w w.heap.size 5 (Nat.le_refl _))
  have hn' : n ≤ 9223372036854775807 := by omega
  have HA : Below w.heap.size w (w.alloc (.cells #[] 5)) := (Below.refl _ _).alloc (Nat.le_refl _) _
  go_enter Try.func68, Try.ntmps68
  go_wp2_with (first | (go_at_call 79; refine (refIn_any _ _ _ _ _ _ hn').mono ?_; rintro e w' ⟨rfl, rfl⟩) | (at_builtin; go_loud (refine wpList_append_ints rfl (.tmp 17) (.tmp 18) 122 rfl .u8 w.heap.size 5 1 Try.underlying122 info_byte _ 0 [] rfl HO.out w.heap.size a n cap zs rfl (HR.out.below HA) (by unfold maxLen; omega) (by omega) HA.size ?_); intro v1 w1 ho1 hb1 _))
  obtain ⟨g, c, hv1', hg0, hg1, hc0, hc1⟩ := ho1.out.form (by omega)
  subst hv1'
  have HO1 := Lib.hid ho1.out
  have hbw := HA.trans hb1
  unfold maxLen at hc1
  clear ho1 hb1 HO
  go_loopw [11] (fun j wr => ∃ k : Nat, k ≤ m ∧ j = .int .i64 k ∧ Below w.heap.size w wr ∧ OwnI .u8 wr w.heap.size 5 (.slice (some ⟨g, 0, none⟩) (0 + n) c) (0 + n) (putZ zs i k v)) (fun j _ => m - (intOf j).toNat)
  case atStart => exact ⟨0, Nat.zero_le _, rfl, hbw, by rw [putZ_none]; exact HO1.out⟩
  case round =>
    obtain ⟨k, hk, rfl, hb2, ho2⟩ := hrel
    have HO2 := Lib.hid ho2
    clear ho2 hbw HA
    by_cases hlt : k < m
    · have hx := HO2.out.cellAt (i + k) (by omega)
      have hf := HO2.out.frozenAt (i + k)
      have hi1 : (0 : Int) ≤ (i : Int) + (k : Int) := by omega
      have hi2 : (i : Int) + (k : Int) < (n : Int) := by omega
      have HS := Lib.hid (HO2.out.store (i + k) (byteN v k))
      rw [putZ_step _ _ _ _ (by rw [HR.out.1]; omega)] at HS
      go_wp2
      go_roundw
      case rel => exact ⟨k + 1, by omega, by go_num, hb2.setCell hg0 _, HS.out⟩
      case measure => simp [intOf]; omega
    · obtain rfl : k = m := by omega
      go_wp2
      go_ret2
      refine ⟨g, c, by simp, hg0, by omega, by omega, ?_, hb2⟩
      obtain ⟨a', c', e, _, _, hr⟩ := HO2.out.row
      injection e with e1 e2 e3
      subst e1
      rwa [Nat.zero_add] at hr
theorem refPut_yes (a : Option Addr) (n cap i m : Nat) (v : Int) (zs : List Int) (w : World) (hn : n ≤ 140737488355328) (hrow : RowK .u8 w w.heap.size a n zs) (hm : isW m = true) (hi : i + m ≤ n) (hv0 : 0 ≤ v) (hv1 : v < 4294967296) :
    Calls Try.prog 68 #[.slice a n cap, .int .i64 i, .int .i64 m, .int .u32 v] w fun e w' =>
      ∃ g c, e = .returned (.tuple #[.slice (some ⟨g, 0, none⟩) n c, .int .i64 0]) ∧ RowK .u8 w' w'.heap.size (some ⟨g, 0, none⟩) n (putZ zs i m v) ∧ Below w.heap.size w w' := by
  refine (refPut_own a n cap i m v zs w hn hrow hm hi hv0 hv1).mono ?_
  rintro e w' ⟨g, c, he, _, _, _, hr, hb⟩
  exact ⟨g, c, he, hr, hb⟩
end Go.Proofs.Ytoafonbplbblpaa.Oc
end
section
/- Package frames: a store's block told by a flat list of its frames' bytes; plain facts; find, New. -/
namespace Go.Proofs.Ytoafonbplbblpaa.Fr
open Go.RowKit Ut Oc
set_option maxRecDepth 100000
set_option linter.unusedVariables false

/-- a store's cells: made, how many, the frames' bytes one behind the other -/
def stCells (n : Nat) (L : List Int) : List Value := .bool true :: .int .i64 n :: L.map (Value.int .u8)
/-- frame f's bytes -/
def frameL (L : List Int) (f : Nat) : List Int := (L.drop (64 * f)).take 64
/-- the bytes with frame f's ones turned to xs -/
def layF (L : List Int) (f : Nat) (xs : List Int) : List Int := splice L (64 * f) xs

theorem length_frameL {L : List Int} (hL : L.length = 2048) {f : Nat} (hf : f < 32) : (frameL L f).length = 64 := by simp [frameL]; omega
theorem frameL_bytes {L : List Int} (h : AreBytes L) (f : Nat) : AreBytes (frameL L f) := (h.drop _).take _
theorem length_layF {L xs : List Int} (hL : L.length = 2048) {f : Nat} (hf : f < 32) (hx : xs.length = 64) : (layF L f xs).length = 2048 := by
  unfold layF; rw [length_splice _ _ _ (by omega), hL]
theorem layF_bytes {L xs : List Int} (h : AreBytes L) (f : Nat) (hx : AreBytes xs) : AreBytes (layF L f xs) := (h.take _).append (hx.append (h.drop _))
theorem frameL_lay {L xs : List Int} (hL : L.length = 2048) {f : Nat} (hf : f < 32) (hx : xs.length = 64) : frameL (layF L f xs) f = xs := by
  unfold frameL layF splice
  rw [List.drop_append_of_le_length (by simp; omega), List.drop_of_length_le (by simp; omega), List.nil_append, List.take_append_of_le_length (by omega), List.take_of_length_le (by omega)]
theorem frameL_other {L xs : List Int} (hL : L.length = 2048) {f g : Nat} (hf : f < 32) (hg : g < 32) (hx : xs.length = 64) (hne : g ≠ f) : frameL (layF L f xs) g = frameL L g := by
  unfold frameL layF splice
  refine List.ext_getElem? fun j => ?_
  simp only [List.getElem?_take, List.getElem?_drop, List.getElem?_append, List.length_take]
  by_cases hj : j < 64
  · rw [if_pos hj, if_pos hj]
    rw [Nat.min_eq_left (by omega)]
    by_cases h1 : g < f
    · rw [if_pos (by omega), if_pos (by omega)]
    · rw [if_neg (by omega), if_neg (by omega)]
      congr 1
      omega
  · rw [if_neg hj, if_neg hj]
theorem stCells_lay {L xs : List Int} (n : Nat) (hL : L.length = 2048) {f : Nat} (hf : f < 32) (hx : xs.length = 64) : splice (stCells n L) (2 + 64 * f) (xs.map (Value.int .u8)) = stCells n (layF L f xs) := by
  unfold splice stCells layF splice
  rw [show 2 + 64 * f = 64 * f + 1 + 1 by omega]
  simp [List.map_take, List.map_drop, show 64 * f + 1 + 1 + xs.length = 64 * f + xs.length + 1 + 1 by omega]
theorem length_stCells {L : List Int} (n : Nat) (hL : L.length = 2048) : (stCells n L).length = 2050 := by simp [stCells, hL]
theorem stCells_one (n : Nat) (L : List Int) : ∀ u ∈ stCells n L, u.oneCell' = true := by
  intro u hu
  unfold stCells at hu
  rcases List.mem_cons.1 hu with rfl | hu
  · rfl
  · rcases List.mem_cons.1 hu with rfl | hu
    · rfl
    · obtain ⟨z, _, rfl⟩ := List.mem_map.1 hu; rfl

/-- block b is a store of n frames, whose bytes are L -/
def St (w : World) (b n : Nat) (L : List Int) : Prop :=
  w.heap[b]? = some (.cells (stCells n L).toArray 116 (0, 0)) ∧ L.length = 2048 ∧ AreBytes L ∧ n ≤ 32

section
variable {w w' : World} {b n : Nat} {L : List Int}
theorem St.lt (h : St w b n L) : b < w.heap.size := (Array.getElem?_eq_some_iff.1 h.1).1
theorem St.of_block (h : St w b n L) (e : w'.heap[b]? = w.heap[b]?) : St w' b n L := ⟨e.trans h.1, h.2⟩
theorem St.below {B : Nat} (h : St w b n L) (hb : Below B w w') (hB : b < B) : St w' b n L := h.of_block (hb.block b hB)
theorem St.grown {row : Option Nat} (h : St w b n L) (hg : w.grownBy w' row) (hr : some b ≠ row) : St w' b n L := h.of_block (hg.block b h.lt hr)
theorem St.cell0 (h : St w b n L) : w.cell? ⟨b, 0, none⟩ = some (.bool true) := by simp [World.cell?, h.1, stCells]
theorem St.cell1 (h : St w b n L) : w.cell? ⟨b, 1, none⟩ = some (.int .i64 n) := by simp [World.cell?, h.1, stCells]
theorem St.cell (h : St w b n L) (i : Nat) : w.cell? ⟨b, 2 + i, none⟩ = (L[i]?).map (Value.int .u8) := by
  have : 2 + i = i + 1 + 1 := by omega
  simp [World.cell?, h.1, stCells, this]
theorem St.frame (h : St w b n L) (f : Nat) (hf : f < 32) : RowK .u8 w (b + 1) (some ⟨b, 2 + 64 * f, none⟩) 64 (frameL L f) := by
  refine ⟨length_frameL h.2.1 hf, fun i hi => ⟨_, rfl, Nat.lt_succ_self b, ?_⟩⟩
  have e : (⟨b, 2 + 64 * f, none⟩ : Addr).add i = ⟨b, 2 + (64 * f + i), none⟩ := by unfold Addr.add; split <;> simp_all [Nat.add_assoc]
  rw [e, h.cell]
  have hl := h.2.1
  simp [frameL, List.getD, hi, show 64 * f + i < L.length by omega]
end

/-- a new store's bytes -/
def zeros : List Int := List.replicate 2048 0
theorem zeros_len : zeros.length = 2048 := List.length_replicate
theorem zeros_bytes : AreBytes zeros := fun z hz => by rw [List.eq_of_mem_replicate hz]; omega
theorem zeros_frame (f : Nat) (hf : f < 32) : frameL zeros f = List.replicate 64 0 := by
  unfold frameL zeros
  rw [List.drop_replicate, List.take_replicate, Nat.min_eq_left (by omega)]

theorem find_nil (f : Int) (w : World) :
    Calls Try.prog 63 #[.pointer none, .int .i64 f] w fun e w' => e = .returned (.tuple #[.pointer none, .int .i64 7]) ∧ w = w' := by
  go_enter Try.func63, Try.ntmps63
  go_wp2
  go_ret2
  exact ⟨rfl, rfl⟩

theorem find_unmade (b : Nat) (f : Int) (w : World) (h0 : w.cell? ⟨b, 0, none⟩ = some (.bool false)) :
    Calls Try.prog 63 #[.pointer (some ⟨b, 0, none⟩), .int .i64 f] w fun e w' => e = .returned (.tuple #[.pointer none, .int .i64 7]) ∧ w = w' := by
  go_enter Try.func63, Try.ntmps63
  go_wp2
  go_ret2
  exact ⟨rfl, rfl⟩

theorem find_in (b n f : Nat) (L : List Int) (w : World) (hS : St w b n L) (hf : f < n) :
    Calls Try.prog 63 #[.pointer (some ⟨b, 0, none⟩), .int .i64 f] w fun e w' => e = .returned (.tuple #[.pointer (some ⟨b, 2 + 64 * f, none⟩), .int .i64 0]) ∧ w = w' := by
  have h0 := hS.cell0
  have h1 := hS.cell1
  have hn := hS.2.2.2
  have f0 : decide ((f : Int) < 0) = false := by simp
  have f1 : decide ((n : Int) ≤ (f : Int)) = false := by simpa using hf
  have f2 : (0 : Int) ≤ (f : Int) ∧ (f : Int) < 32 := by omega
  clear hS
  go_enter Try.func63, Try.ntmps63
  go_wp2
  go_ret2
  refine ⟨?_, rfl⟩
  rw [Nat.mul_comm 64 f]
  rfl

theorem find_out (b n : Nat) (f : Int) (L : List Int) (w : World) (hS : St w b n L) (hf : f < 0 ∨ n ≤ f) :
    Calls Try.prog 63 #[.pointer (some ⟨b, 0, none⟩), .int .i64 f] w fun e w' => e = .returned (.tuple #[.pointer none, .int .i64 1]) ∧ w = w' := by
  have h0 := hS.cell0
  have h1 := hS.cell1
  clear hS
  rcases Int.lt_or_le f 0 with f0 | f0
  · have f1 : decide (f < 0) = true := by simpa using f0
    go_enter Try.func63, Try.ntmps63
    go_wp2
    go_ret2
    exact ⟨rfl, rfl⟩
  · have f1 : decide (f < 0) = false := by simpa using f0
    have f2 : decide ((n : Int) ≤ f) = true := by simp; omega
    go_enter Try.func63, Try.ntmps63
    go_wp2
    go_ret2
    exact ⟨rfl, rfl⟩
end Go.Proofs.Ytoafonbplbblpaa.Fr
end
