/- Package frames: a store's block told by a flat list of its frames' bytes; plain facts; find, New. -/
import Derived.Test.YtlgohgjnocoadaaOb
import Derived.Great.BuildSlice
import Derived.Deep.Cut
import Derived.Deep.DeepCutAuto
import Derived.Deep.CutBlock
import Derived.Great.Ranges
import Derived.Great.Walk
import Derived.Deep.OwnRows
namespace Go.Proofs.Ytlgohgjnocoadaa.Fr
open Go.RowKit Ut Oc
set_option maxRecDepth 100000
set_option linter.unusedVariables false

/-- a store's cells: made, how many, the frames' bytes one behind the other -/
def stCells (n : Nat) (L : List Int) : List Value := .bool true :: .int .i64 n :: L.map (Value.int .u8)
/-- frame f's bytes -/
def frameL (L : List Int) (f : Nat) : List Int := (L.drop (64 * f)).take 64
/-- the bytes with frame f's ones turned to xs -/
def layF (L : List Int) (f : Nat) (xs : List Int) : List Int := splice L (64 * f) xs

theorem length_frameL {L : List Int} (hL : L.length = 2048) {f : Nat} (hf : f < 32) : (frameL L f).length = 64 := by simp [frameL]; omega
theorem frameL_bytes {L : List Int} (h : AreBytes L) (f : Nat) : AreBytes (frameL L f) := (h.drop _).take _
theorem length_layF {L xs : List Int} (hL : L.length = 2048) {f : Nat} (hf : f < 32) (hx : xs.length = 64) : (layF L f xs).length = 2048 := by
  unfold layF; rw [length_splice _ _ _ (by omega), hL]
theorem layF_bytes {L xs : List Int} (h : AreBytes L) (f : Nat) (hx : AreBytes xs) : AreBytes (layF L f xs) := (h.take _).append (hx.append (h.drop _))
theorem frameL_lay {L xs : List Int} (hL : L.length = 2048) {f : Nat} (hf : f < 32) (hx : xs.length = 64) : frameL (layF L f xs) f = xs := by
  unfold frameL layF splice
  rw [List.drop_append_of_le_length (by simp; omega), List.drop_of_length_le (by simp; omega), List.nil_append, List.take_append_of_le_length (by omega), List.take_of_length_le (by omega)]
theorem frameL_other {L xs : List Int} (hL : L.length = 2048) {f g : Nat} (hf : f < 32) (hg : g < 32) (hx : xs.length = 64) (hne : g ≠ f) : frameL (layF L f xs) g = frameL L g := by
  unfold frameL layF splice
  refine List.ext_getElem? fun j => ?_
  simp only [List.getElem?_take, List.getElem?_drop, List.getElem?_append, List.length_take]
  by_cases hj : j < 64
  · rw [if_pos hj, if_pos hj]
    rw [Nat.min_eq_left (by omega)]
    by_cases h1 : g < f
    · rw [if_pos (by omega), if_pos (by omega)]
    · rw [if_neg (by omega), if_neg (by omega)]
      congr 1
      omega
  · rw [if_neg hj, if_neg hj]
theorem stCells_lay {L xs : List Int} (n : Nat) (hL : L.length = 2048) {f : Nat} (hf : f < 32) (hx : xs.length = 64) : splice (stCells n L) (2 + 64 * f) (xs.map (Value.int .u8)) = stCells n (layF L f xs) := by
  unfold splice stCells layF splice
  rw [show 2 + 64 * f = 64 * f + 1 + 1 by omega]
  simp [List.map_take, List.map_drop, show 64 * f + 1 + 1 + xs.length = 64 * f + xs.length + 1 + 1 by omega]
theorem length_stCells {L : List Int} (n : Nat) (hL : L.length = 2048) : (stCells n L).length = 2050 := by simp [stCells, hL]
theorem stCells_one (n : Nat) (L : List Int) : ∀ u ∈ stCells n L, u.oneCell' = true := by
  intro u hu
  unfold stCells at hu
  rcases List.mem_cons.1 hu with rfl | hu
  · rfl
  · rcases List.mem_cons.1 hu with rfl | hu
    · rfl
    · obtain ⟨z, _, rfl⟩ := List.mem_map.1 hu; rfl

/-- block b is a store of n frames, whose bytes are L -/
def St (w : World) (b n : Nat) (L : List Int) : Prop :=
  w.heap[b]? = some (.cells (stCells n L).toArray 109 (0, 0)) ∧ L.length = 2048 ∧ AreBytes L ∧ n ≤ 32

section
variable {w w' : World} {b n : Nat} {L : List Int}
theorem St.lt (h : St w b n L) : b < w.heap.size := (Array.getElem?_eq_some_iff.1 h.1).1
theorem St.of_block (h : St w b n L) (e : w'.heap[b]? = w.heap[b]?) : St w' b n L := ⟨e.trans h.1, h.2⟩
theorem St.below {B : Nat} (h : St w b n L) (hb : Below B w w') (hB : b < B) : St w' b n L := h.of_block (hb.block b hB)
theorem St.grown {row : Option Nat} (h : St w b n L) (hg : w.grownBy w' row) (hr : some b ≠ row) : St w' b n L := h.of_block (hg.block b h.lt hr)
theorem St.cell0 (h : St w b n L) : w.cell? ⟨b, 0, none⟩ = some (.bool true) := by simp [World.cell?, h.1, stCells]
theorem St.cell1 (h : St w b n L) : w.cell? ⟨b, 1, none⟩ = some (.int .i64 n) := by simp [World.cell?, h.1, stCells]
theorem St.cell (h : St w b n L) (i : Nat) : w.cell? ⟨b, 2 + i, none⟩ = (L[i]?).map (Value.int .u8) := by
  have : 2 + i = i + 1 + 1 := by omega
  simp [World.cell?, h.1, stCells, this]
theorem St.frame (h : St w b n L) (f : Nat) (hf : f < 32) : RowK .u8 w (b + 1) (some ⟨b, 2 + 64 * f, none⟩) 64 (frameL L f) := by
  refine ⟨length_frameL h.2.1 hf, fun i hi => ⟨_, rfl, Nat.lt_succ_self b, ?_⟩⟩
  have e : (⟨b, 2 + 64 * f, none⟩ : Addr).add i = ⟨b, 2 + (64 * f + i), none⟩ := by unfold Addr.add; split <;> simp_all [Nat.add_assoc]
  rw [e, h.cell]
  have hl := h.2.1
  simp [frameL, List.getD, hi, show 64 * f + i < L.length by omega]
end

/-- a new store's bytes -/
def zeros : List Int := List.replicate 2048 0
theorem zeros_len : zeros.length = 2048 := List.length_replicate
theorem zeros_bytes : AreBytes zeros := fun z hz => by rw [List.eq_of_mem_replicate hz]; omega
theorem zeros_frame (f : Nat) (hf : f < 32) : frameL zeros f = List.replicate 64 0 := by
  unfold frameL zeros
  rw [List.drop_replicate, List.take_replicate, Nat.min_eq_left (by omega)]

theorem find_nil (f : Int) (w : World) :
    Calls Try.prog 49 #[.pointer none, .int .i64 f] w fun e w' => e = .returned (.tuple #[.pointer none, .int .i64 7]) ∧ w = w' := by
  go_enter Try.func49, Try.ntmps49
  go_wp2
  go_ret2
  exact ⟨rfl, rfl⟩

theorem find_unmade (b : Nat) (f : Int) (w : World) (h0 : w.cell? ⟨b, 0, none⟩ = some (.bool false)) :
    Calls Try.prog 49 #[.pointer (some ⟨b, 0, none⟩), .int .i64 f] w fun e w' => e = .returned (.tuple #[.pointer none, .int .i64 7]) ∧ w = w' := by
  go_enter Try.func49, Try.ntmps49
  go_wp2
  go_ret2
  exact ⟨rfl, rfl⟩

theorem find_in (b n f : Nat) (L : List Int) (w : World) (hS : St w b n L) (hf : f < n) :
    Calls Try.prog 49 #[.pointer (some ⟨b, 0, none⟩), .int .i64 f] w fun e w' => e = .returned (.tuple #[.pointer (some ⟨b, 2 + 64 * f, none⟩), .int .i64 0]) ∧ w = w' := by
  have h0 := hS.cell0
  have h1 := hS.cell1
  have hn := hS.2.2.2
  have f0 : decide ((f : Int) < 0) = false := by simp
  have f1 : decide ((n : Int) ≤ (f : Int)) = false := by simpa using hf
  have f2 : (0 : Int) ≤ (f : Int) ∧ (f : Int) < 32 := by omega
  clear hS
  go_enter Try.func49, Try.ntmps49
  go_wp2
  go_ret2
  refine ⟨?_, rfl⟩
  rw [Nat.mul_comm 64 f]
  rfl

theorem find_out (b n : Nat) (f : Int) (L : List Int) (w : World) (hS : St w b n L) (hf : f < 0 ∨ n ≤ f) :
    Calls Try.prog 49 #[.pointer (some ⟨b, 0, none⟩), .int .i64 f] w fun e w' => e = .returned (.tuple #[.pointer none, .int .i64 1]) ∧ w = w' := by
  have h0 := hS.cell0
  have h1 := hS.cell1
  clear hS
  rcases Int.lt_or_le f 0 with f0 | f0
  · have f1 : decide (f < 0) = true := by simpa using f0
    go_enter Try.func49, Try.ntmps49
    go_wp2
    go_ret2
    exact ⟨rfl, rfl⟩
  · have f1 : decide (f < 0) = false := by simpa using f0
    have f2 : decide ((n : Int) ≤ f) = true := by simp; omega
    go_enter Try.func49, Try.ntmps49
    go_wp2
    go_ret2
    exact ⟨rfl, rfl⟩
end Go.Proofs.Ytlgohgjnocoadaa.Fr
