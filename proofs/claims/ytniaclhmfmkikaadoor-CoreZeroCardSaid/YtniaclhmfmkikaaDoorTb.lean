/- Package regs: a file's block told by where it goes on and its registers; what its methods return and leave, for every argument. -/
import Derived.Test.YtniaclhmfmkikaaDoorTa
namespace Go.Proofs.YtniaclhmfmkikaaDoor.Rg
open Go.RowKit Ut
set_option maxRecDepth 100000
set_option linter.unusedVariables false

def wordsV (R : List Int) : List Value := R.map (Value.int .u32)
/-- a file's cells: made, where it goes on, its registers -/
def fCells (p : Int) (R : List Int) : List Value := .bool true :: .int .u32 p :: wordsV R
def FAt (w : World) (b : Nat) (p : Int) (R : List Int) : Prop := Blk w b 34 (fCells p R) ∧ R.length = 16
def zer : List Int := List.replicate 16 0
theorem zer_len : zer.length = 16 := rfl
/-- Set's and Get's error, what Set leaves, what Get gives -/
def errZ (i : Int) : Int := if 0 ≤ i ∧ i < 16 then 0 else 1
def setR (R : List Int) (i v : Int) : List Int := if 0 < i ∧ i < 16 then R.set i.toNat v else R
def getR (R : List Int) (i : Int) : Int := if 0 ≤ i ∧ i < 16 then R.getD i.toNat 0 else 0
theorem length_setR (R : List Int) (i v : Int) : (setR R i v).length = R.length := by unfold setR; split <;> simp

section
variable {w w' : World} {b : Nat} {p : Int} {R : List Int}
theorem FAt.below {B : Nat} (h : FAt w b p R) (hb : Below B w w') (hB : b < B) : FAt w' b p R := ⟨h.1.below hb hB, h.2⟩
theorem FAt.kept {row : Option Nat} (h : FAt w b p R) (hg : w.grownBy w' row) (hr : some b ≠ row) : FAt w' b p R := ⟨h.1.kept hg hr, h.2⟩
theorem FAt.cell0 (h : FAt w b p R) : w.cell? ⟨b, 0, none⟩ = some (.bool true) := h.1.cell rfl
theorem FAt.cell1 (h : FAt w b p R) : w.cell? ⟨b, 1, none⟩ = some (.int .u32 p) := h.1.cell rfl
theorem fCells_reg (p : Int) (R : List Int) (i : Nat) (hi : i < R.length) : (fCells p R)[2 + i]? = some (.int .u32 (R.getD i 0)) := by
  have e : 2 + i = i + 1 + 1 := by omega
  simp [fCells, wordsV, e, List.getD, hi]
theorem FAt.reg (h : FAt w b p R) (i : Nat) (hi : i < 16) : w.cell? ⟨b, 2 + i, none⟩ = some (.int .u32 (R.getD i 0)) := h.1.cell (fCells_reg p R i (by rw [h.2]; exact hi))
theorem FAt.set (h : FAt w b p R) (i : Nat) (hi : i < 16) (v : Int) : FAt (w.setCell ⟨b, 2 + i, none⟩ (.int .u32 v)) b p (R.set i v) := by
  refine ⟨?_, by rw [List.length_set]; exact h.2⟩
  have := h.1.set (2 + i) (.int .u32 v)
  have e : 2 + i = i + 1 + 1 := by omega
  rw [e] at this ⊢
  simpa [fCells, wordsV, List.map_set] using this
theorem FAt.jump (h : FAt w b p R) (q : Int) : FAt (w.setCell ⟨b, 1, none⟩ (.int .u32 q)) b q R := ⟨h.1.set 1 (.int .u32 q), h.2⟩
theorem fCells_words (p : Int) (R : List Int) : ∀ j v, (wordsV R)[j]? = some v → (fCells p R)[2 + j]? = some v := fun j v h => by
  have e : 2 + j = j + 1 + 1 := by omega
  simp [fCells, e, h]
end

theorem built_file : Tryd.prog.built 34 [(0, .bool true)] = some (fCells 0 zer).toArray := by kernel_rfl
theorem size_file (p : Int) (R : List Int) (h : R.length = 16) : (Tryd.prog.info? 34).map (·.size) = some (fCells p R).length := by
  rw [show (fCells p R).length = 18 by simp [fCells, wordsV, h]]; kernel_rfl
theorem size_words (R : List Int) (h : R.length = 16) : (Tryd.prog.info? 31).map (·.size) = some (wordsV R).length := by
  rw [show (wordsV R).length = 16 by simp [wordsV, h]]; kernel_rfl
theorem size_words' (R : List Int) (h : R.length = 16) : (Tryd.prog.info? 32).map (·.size) = some (wordsV R).length := by
  rw [show (wordsV R).length = 16 by simp [wordsV, h]]; kernel_rfl
theorem one_words (R : List Int) : ∀ v ∈ wordsV R, v.oneCell' = true := fun v hv => by
  obtain ⟨z, _, rfl⟩ := List.mem_map.1 hv; rfl
theorem one_file (p : Int) (R : List Int) : ∀ v ∈ fCells p R, v.oneCell' = true := fun v hv => by
  unfold fCells at hv
  rcases List.mem_cons.1 hv with rfl | hv
  · rfl
  · rcases List.mem_cons.1 hv with rfl | hv
    · rfl
    · exact one_words R v hv
theorem splice_whole (cs ds : List Value) (h : cs.length = ds.length) : splice cs 0 ds = ds := by simp [splice, h]

theorem new_any (w : World) : Calls Tryd.prog 4 #[] w fun e w' => e = .returned (.pointer (some ⟨w.heap.size, 0, none⟩)) ∧ FAt w' w.heap.size 0 zer ∧ Below w.heap.size w w' := by
  have hF : FAt (w.alloc (.cells (fCells 0 zer).toArray 34)) w.heap.size 0 zer := ⟨Blk.new w _ _, zer_len⟩
  have HF := Lib.hid hF
  have HB := (Below.refl w.heap.size w).alloc (Nat.le_refl _) (.cells (fCells 0 zer).toArray 34)
  clear hF
  go_enter Tryd.func4, Tryd.ntmps4
  go_upto_region 1 with fail
  refine wp_region_lit ?_
  refine wpList_buildTo rfl 34 _ rfl _ rfl (fCells 0 zer).toArray (by kernel_rfl) ?_
  refine Great.wpList_boxTo rfl 34 _ rfl _ rfl w.heap.size rfl (fCells 0 zer).toArray rfl ?_
  obtain ⟨W, hW⟩ : ∃ W, W = w.alloc (.cells (fCells 0 zer).toArray 34) := ⟨_, rfl⟩
  rw [← hW] at HF HB ⊢
  clear hW
  go_wp2
  go_ret
  exact ⟨rfl, HF.out, HB⟩

theorem made_nil (w : World) : Calls Tryd.prog 32 #[.pointer none] w fun e w' => e = .returned (.bool false) ∧ w = w' := by
  go_enter Tryd.func32, Tryd.ntmps32
  go_wp2
  go_ret
  exact ⟨rfl, rfl⟩
theorem made_is (b : Nat) (m : Bool) (w : World) (h : w.cell? ⟨b, 0, none⟩ = some (.bool m)) : Calls Tryd.prog 32 #[.pointer (some ⟨b, 0, none⟩)] w fun e w' => e = .returned (.bool m) ∧ w = w' := by
  go_enter Tryd.func32, Tryd.ntmps32
  go_wp2
  go_ret
  exact ⟨rfl, rfl⟩

/-- of what no call made: each method by isMade's no -/
def NotMade (a : Option Addr) (w : World) : Prop := Calls Tryd.prog 32 #[.pointer a] w fun e w' => e = .returned (.bool false) ∧ w = w'
theorem get_zero (a : Option Addr) (i : Int) (w : World) (h : NotMade a w) : Calls Tryd.prog 12 #[.pointer a, .int .i64 i] w fun e w' => e = .returned (.tuple #[.int .u32 0, .int .i64 7]) ∧ w = w' := by
  go_enter Tryd.func12, Tryd.ntmps12
  go_wp2_with (go_at_call 32; refine h.mono ?_; rintro e w' ⟨rfl, rfl⟩)
  go_ret2
  exact ⟨rfl, rfl⟩
theorem set_zero (a : Option Addr) (i v : Int) (w : World) (h : NotMade a w) : Calls Tryd.prog 63 #[.pointer a, .int .i64 i, .int .u32 v] w fun e w' => e = .returned (.int .i64 7) ∧ w = w' := by
  go_enter Tryd.func63, Tryd.ntmps63
  go_wp2_with (go_at_call 32; refine h.mono ?_; rintro e w' ⟨rfl, rfl⟩)
  go_ret
  exact ⟨rfl, rfl⟩
theorem pc_zero (a : Option Addr) (w : World) (h : NotMade a w) : Calls Tryd.prog 16 #[.pointer a] w fun e w' => e = .returned (.int .u32 0) ∧ w = w' := by
  go_enter Tryd.func16, Tryd.ntmps16
  go_wp2_with (go_at_call 32; refine h.mono ?_; rintro e w' ⟨rfl, rfl⟩)
  go_ret
  exact ⟨rfl, rfl⟩
theorem jump_zero (a : Option Addr) (q : Int) (w : World) (h : NotMade a w) : Calls Tryd.prog 62 #[.pointer a, .int .u32 q] w fun e w' => e = .returned (.int .i64 7) ∧ w = w' := by
  go_enter Tryd.func62, Tryd.ntmps62
  go_wp2_with (go_at_call 32; refine h.mono ?_; rintro e w' ⟨rfl, rfl⟩)
  go_ret
  exact ⟨rfl, rfl⟩
theorem has_yes (a : Option Addr) (i : Nat) (w : World) (h : i < 16) : Calls Tryd.prog 54 #[.pointer a, .int .i64 i] w fun e w' => e = .returned (.bool true) ∧ w = w' := by
  have h1 : decide ((0 : Int) ≤ (i : Int)) = true := by simp
  have h2 : decide ((i : Int) < 16) = true := by simp; omega
  go_enter Tryd.func54, Tryd.ntmps54
  go_wp2
  go_ret
  exact ⟨rfl, rfl⟩
theorem has_no (a : Option Addr) (i : Int) (w : World) (h : i < 0 ∨ 16 ≤ i) : Calls Tryd.prog 54 #[.pointer a, .int .i64 i] w fun e w' => e = .returned (.bool false) ∧ w = w' := by
  rcases Int.lt_or_le i 0 with h0 | h0
  · have h1 : decide ((0 : Int) ≤ i) = false := by simp; omega
    go_enter Tryd.func54, Tryd.ntmps54
    go_wp2
    go_ret
    exact ⟨rfl, rfl⟩
  · have h1 : decide ((0 : Int) ≤ i) = true := by simpa using h0
    have h2 : decide (i < 16) = false := by simp; omega
    go_enter Tryd.func54, Tryd.ntmps54
    go_wp2
    go_ret
    exact ⟨rfl, rfl⟩
end Go.Proofs.YtniaclhmfmkikaaDoor.Rg
