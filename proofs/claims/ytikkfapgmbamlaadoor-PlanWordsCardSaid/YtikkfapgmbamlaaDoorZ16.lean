/- Several texts in one: Pg -/
import Derived.Test.YtikkfapgmbamlaaDoorZ15
section
/- (*Table).Who; New; (*Table).Give. -/
namespace Go.Proofs.YtikkfapgmbamlaaDoor.Pt
open Go.RowKit Go.Shelf Ut
set_option linter.unusedVariables false

def whoB (i : Int) (xs : List BR) : Bool := (seek i xs).isSome && !((seekR i xs).w == -1)
def whoW (i : Int) (xs : List BR) : Int := if whoB i xs then (seekR i xs).w else 0

/-- block bt is a table that New made, with the runs xs -/
def Mach (W : World) (bt : Nat) (xs : List R3) : Prop := ∃ v, W.heap[bt]? = some (.cells #[.bool true, v] 128 (0, 0)) ∧ OwnS W 0 v xs
theorem Mach.tbl {W : World} {bt : Nat} {xs : List BR} (h : Mach W bt (xs.map (·.1))) : Tbl W W.heap.size (some ⟨bt, 0, none⟩) xs := by
  obtain ⟨v, h1, h2⟩ := h
  exact .inr ⟨bt, v, rfl, (Array.getElem?_eq_some_iff.1 h1).1, by simp [World.cell?, h1], h2.row⟩
theorem Mach.kept {W W' : World} {bt : Nat} {xs : List R3} {row : Option Nat} (h : Mach W bt xs) (hg : W.grownBy W' row) (hr : ∀ q, row = some q → ∃ c t f, W.heap[q]? = some (.cells c t f) ∧ t ≠ 128 ∧ t ≠ 126) : Mach W' bt xs := by
  obtain ⟨v, h1, h2⟩ := h
  refine ⟨v, (hg.block bt (Array.getElem?_eq_some_iff.1 h1).1 fun e => ?_).trans h1, World.ownsRow.kept h2 hg ?_⟩
  · obtain ⟨c, t, f, hq, ht, _⟩ := hr bt e.symm
    rw [h1] at hq
    injection hq with hq
    injection hq with _ hq
    exact ht hq.symm
  · rcases h2.2 with ⟨rfl, _⟩ | ⟨g, cap, cur, rfl, _, hgb, _⟩
    · exact .inl rfl
    · refine .inr fun e => ?_
      obtain ⟨c, t, f, hq, _, ht⟩ := hr g (by simpa [Value.ownBlock] using e.symm)
      rw [hgb] at hq
      injection hq with hq
      injection hq with _ hq
      exact ht hq.symm
theorem Mach.below {W W' : World} {bt : Nat} {xs : List R3} (h : Mach W bt xs) (hb : Below W.heap.size W W') : Mach W' bt xs :=
  h.kept (row := none) ⟨hb.os, hb.tape, hb.output, hb.size, fun q hq _ => hb.block q hq⟩ (fun q e => by cases e)

theorem new_no (n : Int) (w : World) (h : n < 0 ∨ 64 < n) :
    Calls Tryd.prog 44 #[.int .i64 n] w fun e W' => e = .returned (.tuple #[.pointer none, .int .i64 1]) ∧ w = W' := by
  by_cases h0 : n < 0
  · go_enter Tryd.func44, Tryd.ntmps44
    go_wp2_with fail
    go_ret2
    exact ⟨rfl, rfl⟩
  · have h1 : 64 < n := by omega
    go_enter Tryd.func44, Tryd.ntmps44
    go_wp2_with fail
    go_ret2
    exact ⟨rfl, rfl⟩

/-- the runs of a new table -/
def newL (n : Int) : List R3 := putL [] ⟨0, n, -1⟩

theorem new_yes (n : Int) (w : World) (h0 : 0 ≤ n) (h1 : n ≤ 64) :
    Calls Tryd.prog 44 #[.int .i64 n] w fun e W' => ∃ bt, e = .returned (.tuple #[.pointer (some ⟨bt, 0, none⟩), .int .i64 0]) ∧ Mach W' bt (newL n) ∧ w.heap.size ≤ bt ∧ Below w.heap.size w W' := by
  go_enter Tryd.func44, Tryd.ntmps44
  go_wp2_with fail
  refine (put_any (.slice none 0 0) [] ⟨0, n, -1⟩ w.heap.size _ (World.ownsRow_nil _ _ _ _) (Nat.le_refl _) (by simp)).mono ?_
  rintro e W1 ⟨v, rfl, hown, hg, _⟩
  obtain ⟨a, m, cap, rfl⟩ := hown.slice
  have hb : Below w.heap.size w W1 := ⟨hg.os, hg.tape, hg.output, hg.size, fun q hq => hg.block q hq (by simp [Value.ownBlock])⟩
  have HO := Lib.hid hown
  have HB := Lib.hid hb
  clear hown hg hb
  go_wp2
  go_ret2
  refine ⟨_, rfl, ⟨_, World.alloc_heap_new W1 _, ?_⟩, HB.out.size, HB.out.alloc HB.out.size _⟩
  have h2 := (HO.out).below ((Below.refl W1.heap.size W1).alloc (Nat.le_refl _) (.cells #[.bool true, .slice a m cap] 128))
  rcases h2.2 with h | ⟨q, cap', cur, e1, e2, e3⟩
  · exact ⟨h2.1, .inl h⟩
  · exact ⟨h2.1, .inr ⟨q, cap', cur, e1, by omega, e3⟩⟩
end Go.Proofs.YtikkfapgmbamlaaDoor.Pt
end
