/- Several texts in one: Oc Ia Wa Ib -/
import Derived.Test.YteaincdeoajkeaaGreatDoorZ01
import Derived.Great.BuildSlice
import Derived.Deep.Cut
import Derived.Deep.DeepCutAuto
import Derived.Deep.CutBlock
import Derived.Great.Ranges
import Derived.Great.Walk
import Derived.Deep.OwnRows
import Derived.Laws.StructEq
import Derived.BigFrame
section
/- The document's In, Get, Put and Sign of layer 2, and octet's Sign: what each returns, for every argument. -/
namespace Go.Proofs.YteaincdeoajkeaaGreatDoor.Oc
open Go.RowKit Ut
set_option maxRecDepth 100000
set_option linter.unusedVariables false

theorem refIn_any (a : Option Addr) (n cap : Nat) (i m : Int) (w : World) (hn : n ≤ 9223372036854775807) :
    Calls Tryz.prog 127 #[.slice a n cap, .int .i64 i, .int .i64 m] w fun e w' => e = .returned (.bool (hold n i m)) ∧ w = w' := by
  cases hw : isW m
  · have HW := Lib.hid hw
    unfold isW at hw
    simp at hw
    have b1 : (m != 1) = true := by simp [hw]
    have b2 : (m != 2) = true := by simp [hw]
    have b3 : (m != 4) = true := by simp [hw]
    clear hw
    go_enter Tryz.func127, Tryz.ntmps127
    go_wp2
    go_ret
    exact ⟨congrArg (fun b => Ending.returned (.bool b)) (by unfold hold; rw [HW.out]; rfl), rfl⟩
  · have HW := Lib.hid hw
    obtain ⟨hm1, hm4⟩ := isW_le hw
    obtain rfl | rfl | rfl : m = 1 ∨ m = 2 ∨ m = 4 := by unfold isW at hw; simp at hw; omega
    all_goals
      clear hw
      by_cases h0 : 0 ≤ i
      · by_cases h1 : i ≤ n
        · go_enter Tryz.func127, Tryz.ntmps127
          go_wp2
          go_ret
          refine ⟨congrArg (fun b => Ending.returned (.bool b)) ?_, rfl⟩
          unfold hold; rw [HW.out, Bool.eq_iff_iff]; simp; omega
        · go_enter Tryz.func127, Tryz.ntmps127
          go_wp2
          go_ret
          refine ⟨congrArg (fun b => Ending.returned (.bool b)) ?_, rfl⟩
          unfold hold; rw [HW.out, Bool.eq_iff_iff]; simp; omega
      · go_enter Tryz.func127, Tryz.ntmps127
        go_wp2
        go_ret
        refine ⟨congrArg (fun b => Ending.returned (.bool b)) ?_, rfl⟩
        unfold hold; rw [HW.out, Bool.eq_iff_iff]; simp; omega

theorem refGet_no (a : Option Addr) (n cap : Nat) (i m : Int) (w : World) (hn : n ≤ 9223372036854775807) (h : hold n i m = false) :
    Calls Tryz.prog 86 #[.slice a n cap, .int .i64 i, .int .i64 m] w fun e w' => e = .returned (.tuple #[.int .u32 0, .int .i64 1]) ∧ w = w' := by
  go_enter Tryz.func86, Tryz.ntmps86
  go_wp2_with (go_at_call 127; refine (refIn_any _ _ _ _ _ _ hn).mono ?_; rintro e w' ⟨rfl, rfl⟩)
  go_ret2
  exact ⟨rfl, rfl⟩

theorem refGet_yes (a : Option Addr) (n cap i m B : Nat) (zs : List Int) (w : World) (hn : n ≤ 140737488355328) (hrow : RowK .u8 w B a n zs) (hz : AreBytes zs) (hm : isW m = true) (hi : i + m ≤ n) :
    Calls Tryz.prog 86 #[.slice a n cap, .int .i64 i, .int .i64 m] w fun e w' => e = .returned (.tuple #[.int .u32 (num ((zs.drop i).take m)), .int .i64 0]) ∧ w = w' := by
  have hh := hold_nat hm hi
  obtain ⟨m1, m4⟩ := isW_le hm
  have HM := Lib.hid hm
  have HR := Lib.hid hrow
  have HZ := Lib.hid hz
  clear hrow hz hm
  have hn' : n ≤ 9223372036854775807 := by omega
  go_enter Tryz.func86, Tryz.ntmps86
  go_wp2_with (go_at_call 127; refine (refIn_any _ _ _ _ _ _ hn').mono ?_; rintro e w' ⟨rfl, rfl⟩)
  go_loop [8, 9] (fun v j => ∃ k : Nat, k ≤ m ∧ j = .int .i64 k ∧ v = .int .u32 (num (((zs.drop i).take m).take k))) (fun _ j => m - (intOf j).toNat)
  case atStart => exact ⟨0, Nat.zero_le _, rfl, rfl⟩
  case round =>
    obtain ⟨k, hk, rfl, rfl⟩ := hrel
    by_cases hlt : k < m
    · obtain ⟨x, rfl, _, hx⟩ := HR.out.2 (i + k) (by omega)
      have HL : ((zs.drop i).take m).length = m := by simp [HR.out.1]; omega
      have HS := Lib.hid (add_step ((zs.drop i).take m) ((HZ.out.drop i).take m) k (by omega) (by omega))
      obtain ⟨s, hs⟩ : ∃ s, zs.getD (i + k) 0 = s := ⟨_, rfl⟩
      have e : ((zs.drop i).take m).getD k 0 = zs.getD (i + k) 0 := by simp [List.getD, hlt]
      rw [hs] at hx e
      rw [e] at HS
      have hi1 : (0 : Int) ≤ (i : Int) + (k : Int) := by omega
      have hi2 : (i : Int) + (k : Int) < (n : Int) := by omega
      clear hs e HL
      go_wp2
      go_round
      case rel => exact ⟨k + 1, by omega, by go_num, congrArg _ HS.out⟩
      case measure => simp [intOf]; omega
    · go_wp2
      go_ret2
      exact ⟨by rw [show ((zs.drop i).take m).take k = (zs.drop i).take m from List.take_of_length_le (by simp; omega)]; rfl, rfl⟩

theorem refPut_no (a : Option Addr) (n cap : Nat) (i m v : Int) (w : World) (hn : n ≤ 9223372036854775807) (h : hold n i m = false) :
    Calls Tryz.prog 93 #[.slice a n cap, .int .i64 i, .int .i64 m, .int .u32 v] w fun e w' => e = .returned (.tuple #[.slice none 0 0, .int .i64 1]) ∧ w = w' := by
  go_enter Tryz.func93, Tryz.ntmps93
  go_wp2_with (go_at_call 127; refine (refIn_any _ _ _ _ _ _ hn).mono ?_; rintro e w' ⟨rfl, rfl⟩)
  go_ret2
  exact ⟨rfl, rfl⟩

theorem refPut_own (a : Option Addr) (n cap i m : Nat) (v : Int) (zs : List Int) (w : World) (hn : n ≤ 140737488355328) (hrow : RowK .u8 w w.heap.size a n zs) (hm : isW m = true) (hi : i + m ≤ n) (hv0 : 0 ≤ v) (hv1 : v < 4294967296) :
    Calls Tryz.prog 93 #[.slice a n cap, .int .i64 i, .int .i64 m, .int .u32 v] w fun e w' =>
      ∃ g c, e = .returned (.tuple #[.slice (some ⟨g, 0, none⟩) n c, .int .i64 0]) ∧ w.heap.size ≤ g ∧ n ≤ c ∧ c ≤ 9223372036854775807 ∧ RowK .u8 w' w'.heap.size (some ⟨g, 0, none⟩) n (putZ zs i m v) ∧ Below w.heap.size w w' := by
  have hh := hold_nat hm hi
  obtain ⟨m1, m4⟩ := isW_le hm
  have HR := Lib.hid hrow
  clear hrow hm
  have HO := Lib.hid (OwnI.made .u8 w w.heap.size 5 (Nat.le_refl _))
  have hn' : n ≤ 9223372036854775807 := by omega
  have HA : Below w.heap.size w (w.alloc (.cells #[] 5)) := (Below.refl _ _).alloc (Nat.le_refl _) _
  go_enter Tryz.func93, Tryz.ntmps93
  go_wp2_with (first | (go_at_call 127; refine (refIn_any _ _ _ _ _ _ hn').mono ?_; rintro e w' ⟨rfl, rfl⟩) | (at_builtin; go_loud (refine wpList_append_ints rfl (.tmp 17) (.tmp 18) 70 rfl .u8 w.heap.size 5 1 Tryz.underlying70 info_byte _ 0 [] rfl HO.out w.heap.size a n cap zs rfl (HR.out.below HA) (by unfold maxLen; omega) (by omega) HA.size ?_); intro v1 w1 ho1 hb1 _))
  obtain ⟨g, c, hv1', hg0, hg1, hc0, hc1⟩ := ho1.out.form (by omega)
  subst hv1'
  have HO1 := Lib.hid ho1.out
  have hbw := HA.trans hb1
  unfold maxLen at hc1
  clear ho1 hb1 HO
  go_loopw [11] (fun j wr => ∃ k : Nat, k ≤ m ∧ j = .int .i64 k ∧ Below w.heap.size w wr ∧ OwnI .u8 wr w.heap.size 5 (.slice (some ⟨g, 0, none⟩) (0 + n) c) (0 + n) (putZ zs i k v)) (fun j _ => m - (intOf j).toNat)
  case atStart => exact ⟨0, Nat.zero_le _, rfl, hbw, by rw [putZ_none]; exact HO1.out⟩
  case round =>
    obtain ⟨k, hk, rfl, hb2, ho2⟩ := hrel
    have HO2 := Lib.hid ho2
    clear ho2 hbw HA
    by_cases hlt : k < m
    · have hx := HO2.out.cellAt (i + k) (by omega)
      have hf := HO2.out.frozenAt (i + k)
      have hi1 : (0 : Int) ≤ (i : Int) + (k : Int) := by omega
      have hi2 : (i : Int) + (k : Int) < (n : Int) := by omega
      have HS := Lib.hid (HO2.out.store (i + k) (byteN v k))
      rw [putZ_step _ _ _ _ (by rw [HR.out.1]; omega)] at HS
      go_wp2
      go_roundw
      case rel => exact ⟨k + 1, by omega, by go_num, hb2.setCell hg0 _, HS.out⟩
      case measure => simp [intOf]; omega
    · obtain rfl : k = m := by omega
      go_wp2
      go_ret2
      refine ⟨g, c, by simp, hg0, by omega, by omega, ?_, hb2⟩
      obtain ⟨a', c', e, _, _, hr⟩ := HO2.out.row
      injection e with e1 e2 e3
      subst e1
      rwa [Nat.zero_add] at hr
theorem refPut_yes (a : Option Addr) (n cap i m : Nat) (v : Int) (zs : List Int) (w : World) (hn : n ≤ 140737488355328) (hrow : RowK .u8 w w.heap.size a n zs) (hm : isW m = true) (hi : i + m ≤ n) (hv0 : 0 ≤ v) (hv1 : v < 4294967296) :
    Calls Tryz.prog 93 #[.slice a n cap, .int .i64 i, .int .i64 m, .int .u32 v] w fun e w' =>
      ∃ g c, e = .returned (.tuple #[.slice (some ⟨g, 0, none⟩) n c, .int .i64 0]) ∧ RowK .u8 w' w'.heap.size (some ⟨g, 0, none⟩) n (putZ zs i m v) ∧ Below w.heap.size w w' := by
  refine (refPut_own a n cap i m v zs w hn hrow hm hi hv0 hv1).mono ?_
  rintro e w' ⟨g, c, he, _, _, _, hr, hb⟩
  exact ⟨g, c, he, hr, hb⟩
end Go.Proofs.YteaincdeoajkeaaGreatDoor.Oc
end
section
/- Package frames: a store's block told by a flat list of its frames' bytes; plain facts; find, New. -/
namespace Go.Proofs.YteaincdeoajkeaaGreatDoor.Fr
open Go.RowKit Ut Oc
set_option maxRecDepth 100000
set_option linter.unusedVariables false

/-- a store's cells: made, how many, the frames' bytes one behind the other -/
def stCells (n : Nat) (L : List Int) : List Value := .bool true :: .int .i64 n :: L.map (Value.int .u8)
/-- frame f's bytes -/
def frameL (L : List Int) (f : Nat) : List Int := (L.drop (64 * f)).take 64
/-- the bytes with frame f's ones turned to xs -/
def layF (L : List Int) (f : Nat) (xs : List Int) : List Int := splice L (64 * f) xs

theorem length_frameL {L : List Int} (hL : L.length = 2048) {f : Nat} (hf : f < 32) : (frameL L f).length = 64 := by simp [frameL]; omega
theorem frameL_bytes {L : List Int} (h : AreBytes L) (f : Nat) : AreBytes (frameL L f) := (h.drop _).take _
theorem length_layF {L xs : List Int} (hL : L.length = 2048) {f : Nat} (hf : f < 32) (hx : xs.length = 64) : (layF L f xs).length = 2048 := by
  unfold layF; rw [length_splice _ _ _ (by omega), hL]
theorem layF_bytes {L xs : List Int} (h : AreBytes L) (f : Nat) (hx : AreBytes xs) : AreBytes (layF L f xs) := (h.take _).append (hx.append (h.drop _))
theorem frameL_lay {L xs : List Int} (hL : L.length = 2048) {f : Nat} (hf : f < 32) (hx : xs.length = 64) : frameL (layF L f xs) f = xs := by
  unfold frameL layF splice
  rw [List.drop_append_of_le_length (by simp; omega), List.drop_of_length_le (by simp; omega), List.nil_append, List.take_append_of_le_length (by omega), List.take_of_length_le (by omega)]
theorem frameL_other {L xs : List Int} (hL : L.length = 2048) {f g : Nat} (hf : f < 32) (hg : g < 32) (hx : xs.length = 64) (hne : g ≠ f) : frameL (layF L f xs) g = frameL L g := by
  unfold frameL layF splice
  refine List.ext_getElem? fun j => ?_
  simp only [List.getElem?_take, List.getElem?_drop, List.getElem?_append, List.length_take]
  by_cases hj : j < 64
  · rw [if_pos hj, if_pos hj]
    rw [Nat.min_eq_left (by omega)]
    by_cases h1 : g < f
    · rw [if_pos (by omega), if_pos (by omega)]
    · rw [if_neg (by omega), if_neg (by omega)]
      congr 1
      omega
  · rw [if_neg hj, if_neg hj]
theorem stCells_lay {L xs : List Int} (n : Nat) (hL : L.length = 2048) {f : Nat} (hf : f < 32) (hx : xs.length = 64) : splice (stCells n L) (2 + 64 * f) (xs.map (Value.int .u8)) = stCells n (layF L f xs) := by
  unfold splice stCells layF splice
  rw [show 2 + 64 * f = 64 * f + 1 + 1 by omega]
  simp [List.map_take, List.map_drop, show 64 * f + 1 + 1 + xs.length = 64 * f + xs.length + 1 + 1 by omega]
theorem length_stCells {L : List Int} (n : Nat) (hL : L.length = 2048) : (stCells n L).length = 2050 := by simp [stCells, hL]
theorem stCells_one (n : Nat) (L : List Int) : ∀ u ∈ stCells n L, u.oneCell' = true := by
  intro u hu
  unfold stCells at hu
  rcases List.mem_cons.1 hu with rfl | hu
  · rfl
  · rcases List.mem_cons.1 hu with rfl | hu
    · rfl
    · obtain ⟨z, _, rfl⟩ := List.mem_map.1 hu; rfl

/-- block b is a store of n frames, whose bytes are L -/
def St (w : World) (b n : Nat) (L : List Int) : Prop :=
  w.heap[b]? = some (.cells (stCells n L).toArray 139 (0, 0)) ∧ L.length = 2048 ∧ AreBytes L ∧ n ≤ 32

section
variable {w w' : World} {b n : Nat} {L : List Int}
theorem St.lt (h : St w b n L) : b < w.heap.size := (Array.getElem?_eq_some_iff.1 h.1).1
theorem St.of_block (h : St w b n L) (e : w'.heap[b]? = w.heap[b]?) : St w' b n L := ⟨e.trans h.1, h.2⟩
theorem St.below {B : Nat} (h : St w b n L) (hb : Below B w w') (hB : b < B) : St w' b n L := h.of_block (hb.block b hB)
theorem St.grown {row : Option Nat} (h : St w b n L) (hg : w.grownBy w' row) (hr : some b ≠ row) : St w' b n L := h.of_block (hg.block b h.lt hr)
theorem St.cell0 (h : St w b n L) : w.cell? ⟨b, 0, none⟩ = some (.bool true) := by simp [World.cell?, h.1, stCells]
theorem St.cell1 (h : St w b n L) : w.cell? ⟨b, 1, none⟩ = some (.int .i64 n) := by simp [World.cell?, h.1, stCells]
theorem St.cell (h : St w b n L) (i : Nat) : w.cell? ⟨b, 2 + i, none⟩ = (L[i]?).map (Value.int .u8) := by
  have : 2 + i = i + 1 + 1 := by omega
  simp [World.cell?, h.1, stCells, this]
theorem St.frame (h : St w b n L) (f : Nat) (hf : f < 32) : RowK .u8 w (b + 1) (some ⟨b, 2 + 64 * f, none⟩) 64 (frameL L f) := by
  refine ⟨length_frameL h.2.1 hf, fun i hi => ⟨_, rfl, Nat.lt_succ_self b, ?_⟩⟩
  have e : (⟨b, 2 + 64 * f, none⟩ : Addr).add i = ⟨b, 2 + (64 * f + i), none⟩ := by unfold Addr.add; split <;> simp_all [Nat.add_assoc]
  rw [e, h.cell]
  have hl := h.2.1
  simp [frameL, List.getD, hi, show 64 * f + i < L.length by omega]
end

/-- a new store's bytes -/
def zeros : List Int := List.replicate 2048 0
theorem zeros_len : zeros.length = 2048 := List.length_replicate
theorem zeros_bytes : AreBytes zeros := fun z hz => by rw [List.eq_of_mem_replicate hz]; omega
theorem zeros_frame (f : Nat) (hf : f < 32) : frameL zeros f = List.replicate 64 0 := by
  unfold frameL zeros
  rw [List.drop_replicate, List.take_replicate, Nat.min_eq_left (by omega)]

theorem find_nil (f : Int) (w : World) :
    Calls Tryz.prog 55 #[.pointer none, .int .i64 f] w fun e w' => e = .returned (.tuple #[.pointer none, .int .i64 7]) ∧ w = w' := by
  go_enter Tryz.func55, Tryz.ntmps55
  go_wp2
  go_ret2
  exact ⟨rfl, rfl⟩

theorem find_unmade (b : Nat) (f : Int) (w : World) (h0 : w.cell? ⟨b, 0, none⟩ = some (.bool false)) :
    Calls Tryz.prog 55 #[.pointer (some ⟨b, 0, none⟩), .int .i64 f] w fun e w' => e = .returned (.tuple #[.pointer none, .int .i64 7]) ∧ w = w' := by
  go_enter Tryz.func55, Tryz.ntmps55
  go_wp2
  go_ret2
  exact ⟨rfl, rfl⟩

theorem find_in (b n f : Nat) (L : List Int) (w : World) (hS : St w b n L) (hf : f < n) :
    Calls Tryz.prog 55 #[.pointer (some ⟨b, 0, none⟩), .int .i64 f] w fun e w' => e = .returned (.tuple #[.pointer (some ⟨b, 2 + 64 * f, none⟩), .int .i64 0]) ∧ w = w' := by
  have h0 := hS.cell0
  have h1 := hS.cell1
  have hn := hS.2.2.2
  have f0 : decide ((f : Int) < 0) = false := by simp
  have f1 : decide ((n : Int) ≤ (f : Int)) = false := by simpa using hf
  have f2 : (0 : Int) ≤ (f : Int) ∧ (f : Int) < 32 := by omega
  clear hS
  go_enter Tryz.func55, Tryz.ntmps55
  go_wp2
  go_ret2
  refine ⟨?_, rfl⟩
  rw [Nat.mul_comm 64 f]
  rfl

theorem find_out (b n : Nat) (f : Int) (L : List Int) (w : World) (hS : St w b n L) (hf : f < 0 ∨ n ≤ f) :
    Calls Tryz.prog 55 #[.pointer (some ⟨b, 0, none⟩), .int .i64 f] w fun e w' => e = .returned (.tuple #[.pointer none, .int .i64 1]) ∧ w = w' := by
  have h0 := hS.cell0
  have h1 := hS.cell1
  clear hS
  rcases Int.lt_or_le f 0 with f0 | f0
  · have f1 : decide (f < 0) = true := by simpa using f0
    go_enter Tryz.func55, Tryz.ntmps55
    go_wp2
    go_ret2
    exact ⟨rfl, rfl⟩
  · have f1 : decide (f < 0) = false := by simpa using f0
    have f2 : decide ((n : Int) ≤ f) = true := by simp; omega
    go_enter Tryz.func55, Tryz.ntmps55
    go_wp2
    go_ret2
    exact ⟨rfl, rfl⟩
end Go.Proofs.YteaincdeoajkeaaGreatDoor.Fr
end
section
/- Arrays in memory: loaded, stored and compared whole, wherever they lie in a block. Serves all packages. -/
namespace Go.Proofs.YteaincdeoajkeaaGreatDoor.Ut
open Go.RowKit
section
variable {P : Program}

/-- a struct or an array is loaded whole from wherever its cells lie -/
theorem run_loadVar_cells (w : World) (a : Addr) (ty : TypeId) (cs : List Value) (d : TypeDesc) (hc : ∀ j v, cs[j]? = some v → w.cell? (a.add j) = some v)
    (hu : P.underlying ty = some d) (hd : (match d with | .struct _ | .array _ _ => true | _ => false) = true) (hi : (P.info? ty).map (·.size) = some cs.length) :
    (loadVar ty a).run P w = .ok (.agg cs.toArray) w := by
  have hl := run_loadCells_list (P := P) w a cs hc
  cases hq : P.info? ty with
  | none => simp [hq] at hi
  | some i =>
    have hs : i.size = cs.length := by simpa [hq] using hi
    have hagg : (isAgg ty).run P w = .ok true w := by
      unfold isAgg
      rw [Sem.run_bind, run_underlying hu w]
      cases d <;> simp_all
    simp [loadVar, Sem.run_bind, hagg, sizeOf, typeInfo, hq, hs, hl]

/-- a struct or an array is stored whole into the middle of a block -/
theorem run_storeVar_cells (w : World) (g o : Nat) (t ty : TypeId) (cur cs : List Value) (hg : w.heap[g]? = some (.cells cur.toArray t (0, 0))) (hi : (P.info? ty).map (·.size) = some cs.length)
    (hfit : o + cs.length ≤ cur.length) (h1 : ∀ v ∈ cs, v.oneCell' = true) :
    (storeVar ty ⟨g, o, none⟩ (.agg cs.toArray)).run P w = .ok () (w.setRow g (splice cur o cs).toArray) := by
  have := run_storeCells_at (P := P) g o t cs 0 cur.toArray w hg (by simpa using hfit) h1
  cases hq : P.info? ty with
  | none => simp [hq] at hi
  | some i =>
    have hs : i.size = cs.length := by simpa [hq] using hi
    have e : (storeCells ⟨g, o, none⟩ cs 0).run P w = .ok () (w.setRow g (splice cur o cs).toArray) := by
      rw [this]; simp [splice]
    simp [storeVar, sizeOf, typeInfo, hq, Value.cells, hs, e]

theorem run_part_int (w : World) (e : TypeId) (k k' : IntKind) (hu : P.underlying e = some (.int k)) (xs : List Int) (i : Nat) (hi : i < xs.length) :
    (part e (xs.map (Value.int k')).toArray i).run P w = .ok (.int k' (xs.getD i 0)) w := by
  have hagg : (isAgg e).run P w = .ok false w := by
    unfold isAgg
    rw [Sem.run_bind, run_underlying hu w]
    rfl
  have hx : (xs.map (Value.int k')).toArray[i]? = some (.int k' (xs.getD i 0)) := by simp [List.getD, hi]
  unfold part
  rw [Sem.run_bind, hagg]
  simp only [Result.andThen_ok, Bool.false_eq_true, if_false, hx]
  rfl

theorem all_range_int : ∀ (xs ys : List Int), xs.length = ys.length → ((List.range xs.length).all fun i => xs.getD i 0 == ys.getD i 0) = (xs == ys)
  | [], [], _ => rfl
  | x :: xs, y :: ys, h => by
    have ih := all_range_int xs ys (by simpa using h)
    rw [List.length_cons, List.range_succ_eq_map, List.all_cons, List.all_map]
    simp only [List.getD_cons_zero, Function.comp_def, List.getD_cons_succ, ih]
    simp [List.cons_beq_cons]
  | [], _ :: _, h => by simp at h
  | _ :: _, [], h => by simp at h

/-- two arrays of integers are equal where their numbers are -/
theorem run_equalIn_ints (w : World) (d : Nat) (t e : TypeId) (n : Nat) (k : IntKind) (ht : P.underlying t = some (.array n e)) (he : P.underlying e = some (.int k)) (hsz : ∀ w, (sizeOf e).run P w = .ok 1 w)
    (xs ys : List Int) (hx : xs.length = n) (hy : ys.length = n) :
    (Op.equalIn (d + 2) t (.agg (xs.map (Value.int k)).toArray) (.agg (ys.map (Value.int k)).toArray)).run P w = .ok (xs == ys) w := by
  rw [← all_range_int xs ys (hx.trans hy.symm), hx, List.range_eq_range', Op.equalIn]
  simp only [Sem.run_bind, run_underlying ht, Result.andThen_ok, hsz, Std.Legacy.Range.forIn_eq_forIn_range', Std.Legacy.Range.size, Nat.sub_zero, Nat.add_sub_cancel, Nat.div_one]
  have hl : ∀ i ∈ List.range' 0 n 1, i < n := fun i hi => by simpa using (List.mem_range'_1.1 hi).2
  generalize List.range' 0 n 1 = l at hl ⊢
  induction l with
  | nil => simp
  | cons i l ih =>
    have hi : i < n := hl i (by simp)
    have px : (part e (xs.map (Value.int k)).toArray (i * 1)).run P w = .ok (.int k (xs.getD i 0)) w := by rw [Nat.mul_one]; exact run_part_int w e k k he xs i (by omega)
    have py : (part e (ys.map (Value.int k)).toArray (i * 1)).run P w = .ok (.int k (ys.getD i 0)) w := by rw [Nat.mul_one]; exact run_part_int w e k k he ys i (by omega)
    have pe : (Op.equalIn (d + 1) e (.int k (xs.getD i 0)) (.int k (ys.getD i 0))).run P w = .ok (xs.getD i 0 == ys.getD i 0) w := run_equalIn_int w d e k k _ _ he
    simp only [List.forIn_cons, Sem.run_bind, px, py, pe, Result.andThen_ok, List.all_cons]
    cases hb : (xs.getD i 0 == ys.getD i 0)
    · simp
    · simp only [Bool.not_true, Bool.false_eq_true, if_false, Sem.run_pure, Result.andThen_ok, Bool.true_and]
      exact ih fun j hj => hl j (by simp [hj])

/-- an operation that is wanted (its guard holds, or it has none), what it yields and the world that it leaves said by the caller -/
theorem wpList_runW {ops : Array Oper} {rest : List Oper} {o : Oper} {a : Act} {w : World} {Q : Exit → Act → World → Prop} (hw : Region.wanted o (yielded ops a.tmps) = true) (dst : Option Tmp) (hdst : o.dst = dst)
    (v : Value) (w' : World) (hrun : (execOp a.eval o).run P w = .ok (.value v) w') (h : wpList P ops Q rest (a.put dst v) w') : wpList P ops Q (o :: rest) a w := by
  subst hdst
  refine BigFrame.wpList_want hw fun K hK => ?_
  unfold Oper.wp
  rw [hrun, Oper.upon_value]
  exact hK _ _ h
theorem exec_load_cells {ρ : Operand → Value} {o : Oper} {w : World} (ty : TypeId) (x : Operand) (ho : o.op = .load ty x) (ad : Addr) (hx : ρ x = .pointer (some ad)) (cs : List Value) (d : TypeDesc)
    (hc : ∀ j v, cs[j]? = some v → w.cell? (ad.add j) = some v) (hu : P.underlying ty = some d) (hd : (match d with | .struct _ | .array _ _ => true | _ => false) = true) (hi : (P.info? ty).map (·.size) = some cs.length) :
    (execOp ρ o).run P w = .ok (.value (.agg cs.toArray)) w := by
  simp only [execOp, ho, hx, Instr.loadAt, Instr.sureAddr, Sem.run_bind, Sem.run_pure, Result.andThen_ok, run_loadVar_cells w ad ty cs d hc hu hd hi]
theorem exec_build {ρ : Operand → Value} {o : Oper} {w : World} (t : TypeId) (parts : Array (Nat × Operand)) (ho : o.op = .build t parts) (cells : Array Value) (hf : P.built t (parts.map fun (i, x) => (i, ρ x)).toList = some cells) :
    (execOp ρ o).run P w = .ok (.value (.agg cells)) w := by
  simp only [execOp, ho, Sem.run_bind, run_build w t _ _ hf, Result.andThen_ok, Sem.run_pure]
theorem exec_build0 {ρ : Operand → Value} {o : Oper} {w : World} (t : TypeId) (ho : o.op = .build t #[]) (cells : Array Value) (hf : P.built t [] = some cells) :
    (execOp ρ o).run P w = .ok (.value (.agg cells)) w := exec_build t #[] ho cells (by simpa using hf)
theorem exec_eql_ints {ρ : Operand → Value} {o : Oper} {w : World} (t e rt : TypeId) (x y : Operand) (ho : o.op = .binOp .eql t x y rt) (n : Nat) (k : IntKind) (ht : P.underlying t = some (.array n e)) (he : P.underlying e = some (.int k)) (hsz : ∀ w, (sizeOf e).run P w = .ok 1 w)
    (hm : P.eqGuardType P.depth t = false) (xs ys : List Int) (hx : xs.length = n) (hy : ys.length = n) (ex : ρ x = .agg (xs.map (Value.int k)).toArray) (ey : ρ y = .agg (ys.map (Value.int k)).toArray) :
    (execOp ρ o).run P w = .ok (.value (.bool (xs == ys))) w := by
  simp only [execOp, ho, ex, ey, Sem.run_bind, run_eqGuard_agg w .eql t x y _ _ hm, Result.andThen_ok, run_eql_struct, run_equalIn_ints w 9998 t e n k ht he hsz xs ys hx hy, Sem.run_pure]
theorem wpList_store_cells {ops : Array Oper} {rest : List Oper} {o : Oper} {a : Act} {w : World} {Q : Exit → Act → World → Prop} (hgd : o.guard = none) (ty : TypeId) (x y : Operand) (ho : o.op = .store ty x y)
    (g off : Nat) (t : TypeId) (cur cs : List Value) (hx : a.eval x = .pointer (some ⟨g, off, none⟩)) (hy : a.eval y = .agg cs.toArray)
    (hg : w.heap[g]? = some (.cells cur.toArray t (0, 0))) (hi : (P.info? ty).map (·.size) = some cs.length) (hfit : off + cs.length ≤ cur.length) (h1 : ∀ v ∈ cs, v.oneCell' = true)
    (h : wpList P ops Q rest (a.put o.dst undef) (w.setRow g (splice cur off cs).toArray)) : wpList P ops Q (o :: rest) a w :=
  wpList_plain hgd fun _ hK => by
    unfold Oper.wp execOp
    simp only [ho, hx, hy, Instr.storeAt, Instr.sureAddr, Sem.run_bind, Sem.run_pure, Result.andThen_ok, run_storeVar_cells w g off t ty cur cs hg hi hfit h1]
    exact hK _ _ h
/-- an append whose run is known, as a step of a drawn region -/
theorem step_append_run {w : World} {ops : Array Oper} {o : Oper} {a : Act} {K : Act → World → Prop} {Q : Exit → Act → World → Prop} {E : Prop} (hgd : o.guard = none) (s x : Operand) (t : TypeId)
    (ho : o.op = .call { callee := .builtin .append, args := #[s, x], argTypes := #[t, t] }) (v y : Value) (hv : a.eval s = v) (hx : a.eval x = y) (v' : Value) (w' : World)
    (hrun : (Builtin.append_ #[t, t] o.type #[v, y]).run P w = .ok v' w') (h : K (a.put o.dst v') w') :
    if Region.wanted o (yielded ops a.tmps) = true then Oper.wp P o a w K Q else E := by
  have hw : Region.wanted o (yielded ops a.tmps) = true := by simp [Region.wanted, hgd]
  rw [if_pos hw]
  unfold Oper.wp execOp
  simp only [ho, resolve, invoke, builtin, Sem.run_bind, Sem.run_pure, Result.andThen_ok, List.map_toArray, List.map_cons, List.map_nil, hv, hx, hrun]
  exact h
/-- .. of a region that doesn't draw -/
theorem wpList_append_run {w : World} {ops : Array Oper} {rest : List Oper} {o : Oper} {a : Act} {Q : Exit → Act → World → Prop} (hgd : o.guard = none) (s x : Operand) (t : TypeId)
    (ho : o.op = .call { callee := .builtin .append, args := #[s, x], argTypes := #[t, t] }) (v y : Value) (hv : a.eval s = v) (hx : a.eval x = y) (v' : Value) (w' : World)
    (hrun : (Builtin.append_ #[t, t] o.type #[v, y]).run P w = .ok v' w') (h : wpList P ops Q rest (a.put o.dst v') w') : wpList P ops Q (o :: rest) a w :=
  wpList_plain hgd fun K hK => by
    unfold Oper.wp execOp
    simp only [ho, resolve, invoke, builtin, Sem.run_bind, Sem.run_pure, Result.andThen_ok, List.map_toArray, List.map_cons, List.map_nil, hv, hx, hrun]
    exact hK _ _ h
/-- one element more goes into a row of the call's own: the slice literal's block, then the append -/
theorem own_push (w : World) (B : Nat) (t ty e : TypeId) (z x : Value) (bytes : Nat) (ht : P.underlying t = some (.slice e)) (hinfo : (P.info? e).map (fun i => (i.zero, i.size, i.bytes)) = some (some z, 1, bytes)) (hz : z.cells.size = 1) (hx : x.oneCell' = true)
    (v : Value) (k : Nat) (xs : List Value) (hown : w.ownsRow B e 1 v k xs) (hB : B ≤ w.heap.size) (hk : k + 1 ≤ maxLen) (hby : (k + 1) * bytes ≤ 140737488355328) :
    ∃ v' w', (Builtin.append_ #[t, t] ty #[v, .slice (some ⟨w.heap.size, 0, none⟩) 1 1]).run P (w.alloc (.cells #[x] e)) = .ok v' w' ∧ w'.ownsRow B e 1 v' (k + 1) (xs ++ [x]) ∧ w.grownBy w' v.ownBlock ∧
      (v'.ownBlock = v.ownBlock ∨ ∃ q, v'.ownBlock = some q ∧ w.heap.size ≤ q) ∧ ∃ g c, v' = .slice (some ⟨g, 0, none⟩) (k + 1) c := by
  obtain ⟨i, hi, hz2, hs, hb⟩ := info_parts hinfo
  have hA : Below w.heap.size w (w.alloc (.cells #[x] e)) := (Below.refl _ _).alloc (Nat.le_refl _) _
  have hsz : (w.alloc (.cells #[x] e)).heap.size = w.heap.size + 1 := by simp
  have hnc : ∀ j u, [x][j]? = some u → (w.alloc (.cells #[x] e)).cell? ((⟨w.heap.size, 0, none⟩ : Addr).add j) = some u := by
    intro j u hj
    cases j with
    | succ j => simp at hj
    | zero =>
      simp at hj
      subst hj
      rw [add_plain]
      have e1 := heap_alloc_new w (.cells #[x] e)
      unfold World.cell?
      simp only [e1]
      rfl
  obtain ⟨v', w', hrun, ho, hg, _, hob⟩ := run_append_own_at (P := P) (w.alloc (.cells #[x] e)) B t ty e i z 1 bytes ht hi hz2 hs hb hz (by omega) v k xs (ownsRow_below hown hA) ⟨w.heap.size, 0, none⟩ 1 1 [x] rfl hnc (fun u hu => by simp at hu; subst hu; exact hx) hk hby (by omega)
  refine ⟨v', w', hrun, ho, ⟨hg.os, hg.tape, hg.output, by have := hg.size; omega, fun q hq hne => (hg.block q (by omega) hne).trans (hA.block q hq)⟩, ?_, ?_⟩
  · rcases hob with h | h
    · exact .inl h
    · exact .inr ⟨_, h, by omega⟩
  · rcases ho.2 with ⟨_, h0⟩ | ⟨g, cap, cur, hv, _⟩
    · omega
    · exact ⟨g, cap, hv⟩
end
end Go.Proofs.YteaincdeoajkeaaGreatDoor.Ut
end
section
/- Package frames: what the methods of a store return and leave, for every argument. -/
namespace Go.Proofs.YteaincdeoajkeaaGreatDoor.Fr
open Go.RowKit Ut Oc
set_option maxRecDepth 100000
set_option linter.unusedVariables false

theorem built_st (n : Nat) : Tryz.prog.built 139 [(0, .bool true), (1, .int .i64 n)] = some (stCells n zeros).toArray := by kernel_rfl
theorem built_frame : Tryz.prog.built 136 [] = some ((List.replicate 64 (0 : Int)).map (Value.int .u8)).toArray := by kernel_rfl
theorem size_frame : (Tryz.prog.info? 136).map (·.size) = some 64 := by kernel_rfl

theorem new_bad (n : Int) (w : World) (h : n < 0 ∨ 32 < n) :
    Calls Tryz.prog 25 #[.int .i64 n] w fun e w' => e = .returned (.tuple #[.pointer none, .int .i64 1]) ∧ w = w' := by
  rcases Int.lt_or_le n 0 with f0 | f0
  · have f1 : decide (n < 0) = true := by simpa using f0
    go_enter Tryz.func25, Tryz.ntmps25
    go_wp2
    go_ret2
    exact ⟨rfl, rfl⟩
  · have f1 : decide (n < 0) = false := by simpa using f0
    have f2 : decide (32 < n) = true := by simp; omega
    go_enter Tryz.func25, Tryz.ntmps25
    go_wp2
    go_ret2
    exact ⟨rfl, rfl⟩

theorem new_ok (n : Nat) (w : World) (h : n ≤ 32) :
    Calls Tryz.prog 25 #[.int .i64 n] w fun e w' => e = .returned (.tuple #[.pointer (some ⟨w.heap.size, 0, none⟩), .int .i64 0]) ∧ St w' w.heap.size n zeros ∧ Below w.heap.size w w' := by
  have f1 : decide ((n : Int) < 0) = false := by simp
  have f2 : decide ((32 : Int) < (n : Int)) = false := by simp; omega
  have HH := Lib.hid h
  have hS : St (w.alloc (.cells (stCells n zeros).toArray 139)) w.heap.size n zeros := ⟨heap_alloc_new w _, zeros_len, zeros_bytes, h⟩
  have HS := Lib.hid hS
  have HB := (Below.refl w.heap.size w).alloc (Nat.le_refl _) (.cells (stCells n zeros).toArray 139)
  clear h hS
  go_enter Tryz.func25, Tryz.ntmps25
  go_upto_region 3 with fail
  refine wp_region_lit ?_
  refine Great.wpList_readTo rfl _ rfl (.int .i64 n) (by kernel_rfl) ?_
  refine wpList_buildTo rfl 139 _ rfl _ rfl (stCells n zeros).toArray (by kernel_rfl) ?_
  refine Great.wpList_boxTo rfl 139 _ rfl _ rfl w.heap.size rfl (stCells n zeros).toArray rfl ?_
  obtain ⟨W, hW⟩ : ∃ W, W = w.alloc (.cells (stCells n zeros).toArray 139) := ⟨_, rfl⟩
  rw [← hW] at HS HB ⊢
  clear hW
  go_wp2
  go_ret2
  exact ⟨rfl, HS.out, HB⟩

theorem len_nil (w : World) : Calls Tryz.prog 64 #[.pointer none] w fun e w' => e = .returned (.int .i64 0) ∧ w = w' := by
  go_enter Tryz.func64, Tryz.ntmps64
  go_wp2
  go_ret
  exact ⟨rfl, rfl⟩
theorem len_of (b : Nat) (n : Int) (w : World) (h1 : w.cell? ⟨b, 1, none⟩ = some (.int .i64 n)) :
    Calls Tryz.prog 64 #[.pointer (some ⟨b, 0, none⟩)] w fun e w' => e = .returned (.int .i64 n) ∧ w = w' := by
  go_enter Tryz.func64, Tryz.ntmps64
  go_wp2
  go_ret
  exact ⟨rfl, rfl⟩

/-- where find says no: what all others answer -/
theorem load_no (p : Option Addr) (f o m z : Int) (w : World) (hz : z = 1 ∨ z = 7) (hF : Calls Tryz.prog 55 #[.pointer p, .int .i64 f] w fun e w' => e = .returned (.tuple #[.pointer none, .int .i64 z]) ∧ w = w') :
    Calls Tryz.prog 46 #[.pointer p, .int .i64 f, .int .i64 o, .int .i64 m] w fun e w' => e = .returned (.tuple #[.int .u32 0, .int .i64 z]) ∧ w = w' := by
  have hz0 : (z == 0) = false := by rcases hz with rfl | rfl <;> rfl
  clear hz
  go_enter Tryz.func46, Tryz.ntmps46
  go_wp2_with (go_at_call 55; refine hF.mono ?_; rintro e w' ⟨rfl, rfl⟩)
  go_ret2
  exact ⟨rfl, rfl⟩
theorem save_no (p : Option Addr) (f o m v z : Int) (w : World) (hz : z = 1 ∨ z = 7) (hF : Calls Tryz.prog 55 #[.pointer p, .int .i64 f] w fun e w' => e = .returned (.tuple #[.pointer none, .int .i64 z]) ∧ w = w') :
    Calls Tryz.prog 67 #[.pointer p, .int .i64 f, .int .i64 o, .int .i64 m, .int .u32 v] w fun e w' => e = .returned (.int .i64 z) ∧ w = w' := by
  have hz0 : (z == 0) = false := by rcases hz with rfl | rfl <;> rfl
  clear hz
  go_enter Tryz.func67, Tryz.ntmps67
  go_wp2_with (go_at_call 55; refine hF.mono ?_; rintro e w' ⟨rfl, rfl⟩)
  go_ret
  exact ⟨rfl, rfl⟩
theorem bytes_no (p : Option Addr) (f z : Int) (w : World) (hz : z = 1 ∨ z = 7) (hF : Calls Tryz.prog 55 #[.pointer p, .int .i64 f] w fun e w' => e = .returned (.tuple #[.pointer none, .int .i64 z]) ∧ w = w') :
    Calls Tryz.prog 21 #[.pointer p, .int .i64 f] w fun e w' => e = .returned (.tuple #[.slice none 0 0, .int .i64 z]) ∧ w = w' := by
  have hz0 : (z == 0) = false := by rcases hz with rfl | rfl <;> rfl
  clear hz
  go_enter Tryz.func21, Tryz.ntmps21
  go_wp2_with (go_at_call 55; refine hF.mono ?_; rintro e w' ⟨rfl, rfl⟩)
  go_ret2
  exact ⟨rfl, rfl⟩
theorem frame_slice_bd : (64 : Nat) ≤ 9223372036854775807 := by omega

theorem load_out (b n f : Nat) (o m : Int) (L : List Int) (w : World) (hS : St w b n L) (hf : f < n) (h : hold 64 o m = false) :
    Calls Tryz.prog 46 #[.pointer (some ⟨b, 0, none⟩), .int .i64 f, .int .i64 o, .int .i64 m] w fun e w' => e = .returned (.tuple #[.int .u32 0, .int .i64 1]) ∧ w = w' := by
  have HS := Lib.hid hS
  have HF := Lib.hid hf
  clear hS hf
  go_enter Tryz.func46, Tryz.ntmps46
  go_wp2_with (first | (go_at_call 55; refine (find_in b n f L w HS.out HF.out).mono ?_; rintro e w' ⟨rfl, rfl⟩) | (go_at_call 85; refine (get_no _ 64 _ o m _ frame_slice_bd h).mono ?_; rintro e w' ⟨rfl, rfl⟩))
  go_ret2
  exact ⟨rfl, rfl⟩

theorem load_in (b n f o m : Nat) (L : List Int) (w : World) (hS : St w b n L) (hf : f < n) (hm : isW m = true) (hi : o + m ≤ 64) :
    Calls Tryz.prog 46 #[.pointer (some ⟨b, 0, none⟩), .int .i64 f, .int .i64 o, .int .i64 m] w fun e w' => e = .returned (.tuple #[.int .u32 (num (((frameL L f).drop o).take m)), .int .i64 0]) ∧ w = w' := by
  have hn := hS.2.2.2
  have HR := Lib.hid (hS.frame f (by omega))
  have HZ := Lib.hid (frameL_bytes hS.2.2.1 f)
  have HS := Lib.hid hS
  have HF := Lib.hid hf
  have HM := Lib.hid hm
  have HI := Lib.hid hi
  clear hS hf hm hi hn
  go_enter Tryz.func46, Tryz.ntmps46
  go_wp2_with (first | (go_at_call 55; refine (find_in b n f L w HS.out HF.out).mono ?_; rintro e w' ⟨rfl, rfl⟩) | (go_at_call 85; refine (get_yes _ 64 64 o m _ _ _ (Nat.le_refl _) frame_slice_bd HR.out HZ.out HM.out HI.out).mono ?_; rintro e w' ⟨rfl, rfl⟩))
  go_ret2
  exact ⟨rfl, rfl⟩

theorem save_out (b n f : Nat) (o m v : Int) (L : List Int) (w : World) (hS : St w b n L) (hf : f < n) (h : hold 64 o m = false) :
    Calls Tryz.prog 67 #[.pointer (some ⟨b, 0, none⟩), .int .i64 f, .int .i64 o, .int .i64 m, .int .u32 v] w fun e w' => e = .returned (.int .i64 1) ∧ w = w' := by
  have HS := Lib.hid hS
  have HF := Lib.hid hf
  clear hS hf
  go_enter Tryz.func67, Tryz.ntmps67
  go_wp2_with (first | (go_at_call 55; refine (find_in b n f L w HS.out HF.out).mono ?_; rintro e w' ⟨rfl, rfl⟩) | (go_at_call 102; refine (put_no _ 64 _ o m v _ frame_slice_bd h).mono ?_; rintro e w' ⟨rfl, rfl⟩))
  go_ret
  exact ⟨rfl, rfl⟩

/-- block b's cells are turned, new blocks are made, all else is as it was -/
theorem grown_set {w w1 : World} {b : Nat} (hb : Below w.heap.size w w1) (cs : Array Value) : w.grownBy (w1.setRow b cs) (some b) :=
  ⟨hb.os, hb.tape, hb.output, by rw [size_setRow]; exact hb.size, fun k hk hne => by
    rw [setRow_other _ _ _ _ (fun e => hne (by rw [e]))]
    exact hb.block k hk⟩
theorem below_grown {B b : Nat} {w0 w w' : World} (h : Below B w0 w) (hg : w.grownBy w' (some b)) (hB : B ≤ w.heap.size) (hr : B ≤ b) : Below B w0 w' := h.grown hg hB (fun k hk => by injection hk with e; omega)

theorem save_in (b n f o m : Nat) (v : Int) (L : List Int) (w : World) (hS : St w b n L) (hf : f < n) (hm : isW m = true) (hi : o + m ≤ 64) (hv0 : 0 ≤ v) (hv1 : v < 4294967296) :
    Calls Tryz.prog 67 #[.pointer (some ⟨b, 0, none⟩), .int .i64 f, .int .i64 o, .int .i64 m, .int .u32 v] w fun e w' =>
      e = .returned (.int .i64 0) ∧ St w' b n (layF L f (putZ (frameL L f) o m v)) ∧ w.grownBy w' (some b) := by
  have hn := hS.2.2.2
  have hlt := hS.lt
  have hl := hS.2.1
  have HFL := Lib.hid (length_frameL hl (f := f) (by omega))
  have HPL := Lib.hid ((length_putZ (frameL L f) o m v (by rw [HFL.out]; omega)).trans HFL.out)
  have HPB := Lib.hid (putZ_bytes (frameL_bytes hS.2.2.1 f) o m v)
  have HE := Lib.hid (stCells_lay n hl (f := f) (by omega) HPL.out)
  have HR := Lib.hid ((hS.frame f (by omega)).more (B' := w.heap.size) (by omega))
  have HZ := Lib.hid (frameL_bytes hS.2.2.1 f)
  have HN := Lib.hid (⟨length_layF hl (f := f) (by omega) HPL.out, layF_bytes hS.2.2.1 f HPB.out, hn⟩ : (layF L f (putZ (frameL L f) o m v)).length = 2048 ∧ AreBytes (layF L f (putZ (frameL L f) o m v)) ∧ n ≤ 32)
  have HFIT := Lib.hid (show 2 + 64 * f + ((putZ (frameL L f) o m v).map (Value.int .u8)).length ≤ (stCells n L).length by rw [List.length_map, HPL.out, length_stCells n hl]; omega)
  have HLT := Lib.hid hlt
  have HS := Lib.hid hS
  have HF := Lib.hid hf
  have HM := Lib.hid hm
  have HI := Lib.hid hi
  have HV := Lib.hid (And.intro hv0 hv1)
  obtain ⟨X, hX⟩ : ∃ X, X = putZ (frameL L f) o m v := ⟨_, rfl⟩
  rw [← hX] at HPL HPB HE HN HFIT ⊢
  have HX := Lib.hid hX
  clear hS hf hm hi hn hlt hl hv0 hv1 hX
  go_enter Tryz.func67, Tryz.ntmps67
  go_upto_region 7 with (first | (go_at_call 55; refine (find_in b n f L w HS.out HF.out).mono ?_; rintro e w' ⟨rfl, rfl⟩) | (go_at_call 102; refine (put_yes _ 64 64 o m v _ _ (by omega) HR.out HM.out HI.out HV.out.1 HV.out.2).mono ?_; rintro e w2 ⟨rfl, hr2, hb2⟩))
  have HS2 := Lib.hid (HS.out.below hb2 HLT.out)
  rw [← HX.out] at hr2
  have HR2 := Lib.hid hr2
  have HG := Lib.hid (grown_set hb2 (b := b) (stCells n (layF L f X)).toArray)
  have HST : Hid (St (w2.setRow b (stCells n (layF L f X)).toArray) b n (layF L f X)) := ⟨setRow_heap w2 b _ _ _ _ HS2.out.1, HN.out⟩
  have HC : Hid (∀ j v, (X.map (Value.int .u8))[j]? = some v → w2.cell? ((⟨w.heap.size, 0, none⟩ : Addr).add j) = some v) := by
    obtain ⟨ad, e, _, hc⟩ := HR2.out.cells (by rw [List.length_map, HPL.out]; omega)
    injection e with e
    subst e
    exact hc
  have HL : (X.map (Value.int .u8)).length = Nat.min 64 64 := by rw [List.length_map, HPL.out]; rfl
  clear hr2
  go_wp2_with (refine wpList_copy_own rfl (.tmp 38) (.tmp 39) 70 70 rfl 5 Tryz.underlying70 size_byte b (2 + 64 * f) 64 64 ⟨w.heap.size, 0, none⟩ 64 64 rfl rfl (stCells n L).toArray 139 HS2.out.1 (X.map (Value.int .u8)) HL HC.out HFIT.out (ints_oneCell _ _) ?_; rw [show ((stCells n L).toArray.toList.take (2 + 64 * f) ++ (X.map (Value.int .u8) ++ (stCells n L).toArray.toList.drop (2 + 64 * f + (X.map (Value.int .u8)).length))) = stCells n (layF L f X) from HE.out])
  go_ret
  exact ⟨rfl, HST.out, HG.out⟩
end Go.Proofs.YteaincdeoajkeaaGreatDoor.Fr
end
