/- Package pool: what New and the methods of a pool return and leave. -/
import Derived.Test.YthabilokbfieiaaKe
import Derived.Great.Walk
namespace Go.Proofs.Ythabilokbfieiaa.Lo
open Go.RowKit Ut Hp Fr
set_option linter.unusedVariables false
set_option maxRecDepth 100000

/-- what a new pool's cells are -/
def cellP (b i : Nat) : Value := if i = 0 then .pointer (some ⟨b, 0, none⟩) else if i < 97 then (if i % 3 = 0 then .int .i64 0 else .bool false) else .int .i64 0
def poCells (b : Nat) : List Value := (List.range 625).map (cellP b)
theorem built_po (b : Nat) : Try.prog.built 67 [(0, .pointer (some ⟨b, 0, none⟩))] = some (poCells b).toArray := by kernel_rfl
/-- nobody's -/
def noS : PS := ⟨fun _ => false, fun _ => false, fun _ => 0⟩
theorem poCells_at (b i : Nat) (hi : i < 625) : (poCells b).toArray[i]? = some (cellP b i) := by
  simp [poCells, hi]
theorem PB.made {w : World} {pb b n : Nat} (h : w.heap[pb]? = some (.cells (poCells b).toArray 67 (0, 0))) (hn : n ≤ 32) : PB w pb b n noS := by
  refine ⟨⟨hn, ⟨_, h, by simp [poCells], ?_, fun f hf => ⟨?_, ?_, ?_⟩⟩, fun who hw => ⟨[], ⟨by simp, _, _, h, by simp [poCells]; omega, ?_, fun i hi => by simp at hi⟩, nil_heap, ?_⟩⟩, fun f => by simp [noS], fun f hf => by simp [noS] at hf⟩
  · rw [poCells_at _ _ (by omega)]; rfl
  · rw [poCells_at _ _ (by omega)]; unfold cellP; rw [if_neg (by omega), if_pos (by omega), if_neg (by omega)]; rfl
  · rw [poCells_at _ _ (by omega)]; unfold cellP; rw [if_neg (by omega), if_pos (by omega), if_neg (by omega)]; rfl
  · rw [poCells_at _ _ (by omega)]; unfold cellP; rw [if_neg (by omega), if_pos (by omega), if_pos (by omega)]; rfl
  · rw [poCells_at _ _ (by omega)]; unfold cellP; rw [if_neg (by omega), if_neg (by omega)]; rfl
  · rw [none_those (fun k _ => by simp [hit, noS])]

theorem new_none (p : Option Addr) (w : World) (hL : Calls Try.prog 27 #[.pointer p] w fun e w' => e = .returned (.int .i64 0) ∧ w = w') :
    Calls Try.prog 9 #[.pointer p] w fun e w' => e = .returned (.tuple #[.pointer none, .int .i64 7]) ∧ w = w' := by
  go_enter Try.func9, Try.ntmps9
  go_wp2_with fail
  refine hL.mono ?_
  rintro e w' ⟨rfl, rfl⟩
  go_wp2
  go_ret2
  exact ⟨rfl, rfl⟩

theorem new_any (b n : Nat) (w : World) (h1 : w.cell? ⟨b, 1, none⟩ = some (.int .i64 n)) (hn : 1 ≤ n) (hn2 : n ≤ 32) :
    Calls Try.prog 9 #[.pointer (some ⟨b, 0, none⟩)] w fun e w' => e = .returned (.tuple #[.pointer (some ⟨w.heap.size, 0, none⟩), .int .i64 0]) ∧ PB w' w.heap.size b n noS ∧ Below w.heap.size w w' := by
  have f1 : ((n : Int) == 0) = false := by simp; omega
  have HS := Lib.hid (PB.made (heap_alloc_new w (.cells (poCells b).toArray 67)) hn2 (b := b))
  have HB := (Below.refl w.heap.size w).alloc (Nat.le_refl _) (.cells (poCells b).toArray 67)
  clear hn hn2
  go_enter Try.func9, Try.ntmps9
  go_wp2_with fail
  refine (len_of b n w h1).mono ?_
  rintro e w' ⟨rfl, rfl⟩
  go_upto_region 3 with fail
  refine wp_region_lit ?_
  refine Great.wpList_readTo rfl _ rfl (.pointer (some ⟨b, 0, none⟩)) (by kernel_rfl) ?_
  refine wpList_buildTo rfl 67 _ rfl _ rfl (poCells b).toArray (by kernel_rfl) ?_
  refine Great.wpList_boxTo rfl 67 _ rfl _ rfl w.heap.size rfl (poCells b).toArray rfl ?_
  obtain ⟨W, hW⟩ : ∃ W, W = w.alloc (.cells (poCells b).toArray 67) := ⟨_, rfl⟩
  rw [← hW] at HS HB ⊢
  clear hW
  go_wp2
  go_ret2
  exact ⟨rfl, HS.out, HB⟩
end Go.Proofs.Ythabilokbfieiaa.Lo
