/- Several texts in one: Ci -/
import Derived.Test.YtikkfapgmbamlaaDoorZ25
section
/- config.rules: the row of rules. -/
namespace Go.Proofs.YtikkfapgmbamlaaDoor.Cf
open Go.RowKit Ut
set_option maxRecDepth 100000
set_option linter.unusedVariables false

def fnR (j : Nat) : Nat := match j with
  | 0 => 45
  | 1 => 47
  | 2 => 48
  | 3 => 50
  | 4 => 51
  | 5 => 53
  | 6 => 54
  | 7 => 56
  | 8 => 57
  | 9 => 59
  | 10 => 60
  | 11 => 62
  | _ => 64
def capR (bc bs j : Nat) : Array Value := match j with
  | 4 => #[.pointer (some ⟨bc, 0, none⟩), .pointer (some ⟨bs, 0, none⟩)]
  | _ => #[.pointer (some ⟨bc, 0, none⟩)]
def valR (bc bs j : Nat) : Value := .func (.func (fnR j)) #[] (capR bc bs j)
/-- the rules lie in block g -/
def RulesAt (W : World) (g : Nat) (c : Cfg) (bc bs : Nat) : Prop := ∃ t, W.heap[g]? = some (.cells ((List.range 13).flatMap fun j => [Value.int .i64 (errR j), .int .i64 (cntR c j), valR bc bs j]).toArray t (0, 0))
structure RulesPost (c : Cfg) (w : World) (e : Ending) (W : World) : Prop where
  all : ∃ g bc bs bt, e = .returned (.slice (some ⟨g, 0, none⟩) 13 13) ∧ RulesAt W g c bc bs ∧ BoxC W bc c ∧ W.heap[bs]? = some (.cells #[.pointer (some ⟨bt, 0, none⟩)] 103 (0, 0)) ∧ Pt.Tab W bt (secs c 0) ∧ w.heap.size ≤ bc ∧ w.heap.size ≤ bs ∧ w.heap.size ≤ bt ∧ w.heap.size ≤ g ∧ bt ≠ bc ∧ bt ≠ bs ∧ bt ≠ g ∧ Below w.heap.size w W

theorem two_new (w : World) (A B : Obj) : ((w.alloc A).alloc B).heap[w.heap.size + 1]? = some B ∧ ((w.alloc A).alloc B).heap[w.heap.size]? = some A ∧ Below w.heap.size w ((w.alloc A).alloc B) := by
  refine ⟨?_, ?_, ((Below.refl _ _).alloc (Nat.le_refl _) _).alloc (by simp) _⟩
  · have := heap_alloc_new (w.alloc A) B
    simpa using this
  · have h := ((Below.refl (w.alloc A).heap.size (w.alloc A)).alloc (Nat.le_refl _) B).block w.heap.size (by simp)
    rw [h]
    exact heap_alloc_new w A

set_option maxRecDepth 100000 in
set_option maxHeartbeats 2000000 in
theorem rules_any (c : Cfg) (w : World) : Calls Tryd.prog 28 #[c.v] w (RulesPost c w) := by
  obtain ⟨PR, hPR⟩ : ∃ PR, PR = RulesPost c w := ⟨_, rfl⟩
  have HPR : Hid (∀ e W, RulesPost c w e W → PR e W) := Lib.hid fun e W h => by rw [hPR]; exact h
  rw [← hPR]
  clear hPR
  have hb1 : ∀ o : Obj, Below w.heap.size w (w.alloc o) := fun o => (Below.refl _ _).alloc (Nat.le_refl _) _
  have HB := Lib.hid hb1
  clear hb1
  go_enter Tryd.func28, Tryd.ntmps28
  go_wp2_with fail
  refine (Pt.tab_new 32 _ (by omega)).mono ?_
  rintro e w1 ⟨bt, rfl, hT, hbt, hb⟩
  have HT := Lib.hid hT
  have hq := old_cells hb
  have hs : w.heap.size < w1.heap.size := by have := hb.size; simp at this; omega
  clear hT
  go_wp2
  obtain ⟨t1, t2, t3⟩ := two_new w1 (.cells #[.pointer (some ⟨bt, 0, none⟩)] 103) (.cells ((List.range 13).flatMap fun j => [Value.int .i64 (errR j), .int .i64 (cntR c j), valR w.heap.size w1.heap.size j]).toArray 84)
  obtain ⟨W, hW⟩ : ∃ W, W = (w1.alloc (.cells #[.pointer (some ⟨bt, 0, none⟩)] 103)).alloc (.cells ((List.range 13).flatMap fun j => [Value.int .i64 (errR j), .int .i64 (cntR c j), valR w.heap.size w1.heap.size j]).toArray 84) := ⟨_, rfl⟩
  rw [← hW] at t1 t2 t3
  have hl : bt < w1.heap.size := by obtain ⟨q, hq⟩ := HT.out.block; exact (Array.getElem?_eq_some_iff.1 hq).1
  have hx : BoxC W w.heap.size c := (t3.block _ hs).trans ((hb.block _ (by simp)).trans (heap_alloc_new w _))
  have hbb : Below w.heap.size w W := ((HB.out _).trans (hb.mono (by simp))).trans (t3.mono (Nat.le_of_lt hs))
  have hbt2 : w.heap.size + 1 ≤ bt := by simpa using hbt
  have key : PR (.returned (.slice (some ⟨w1.heap.size + 1, 0, none⟩) 13 13)) W := HPR.out _ _ ⟨_, _, _, _, rfl, ⟨_, t1⟩, hx, t2, HT.out.below t3, Nat.le_refl _, Nat.le_of_lt hs, by omega, by omega, by omega, by omega, by omega, hbb⟩
  rw [hW] at key
  exact key
end Go.Proofs.YtikkfapgmbamlaaDoor.Cf
end
