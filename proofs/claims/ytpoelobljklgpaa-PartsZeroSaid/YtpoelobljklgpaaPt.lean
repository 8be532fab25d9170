/- The walk of hermitagelaw03.PartsZero. -/
import Derived.Test.YtpoelobljklgpaaPs
namespace Go.Proofs.Ytpoelobljklgpaa.Pt
open Go.RowKit Ut
set_option linter.unusedVariables false

theorem zero_who (p : Option Addr) (i : Int) (w : World) (hT : Tbl w w.heap.size p []) :
    Calls Try.prog 12 #[.pointer p, .int .i64 i] w fun e W' => e = .returned (.tuple #[.int .i64 0, .bool false]) ∧ Below w.heap.size w W' := who_any p i [] w hT
theorem zero_free (p : Option Addr) (w : World) (hT : Tbl w w.heap.size p []) :
    Calls Try.prog 14 #[.pointer p] w fun e W' => e = .returned (.int .i64 0) ∧ Below w.heap.size w W' := free_any p [] w hT (by simp)
theorem zero_len (p : Option Addr) (w : World) (hT : Tbl w w.heap.size p []) :
    Calls Try.prog 16 #[.pointer p] w fun e W' => e = .returned (.int .i64 0) ∧ Below w.heap.size w W' := len_any p [] w hT (by simp)
theorem zero_of (p : Option Addr) (who : Int) (w : World) (hT : Tbl w w.heap.size p []) :
    Calls Try.prog 18 #[.pointer p, .int .i64 who] w fun e W' => ∃ a cap, e = .returned (.slice a 0 cap) ∧ Below w.heap.size w W' := by
  cases hi : isOwn who with
  | true =>
    refine (of_any p who [] w hT (by simp) hi).mono ?_
    rintro e W' ⟨v, he, ho, hb⟩
    obtain ⟨a, cap, hv, _⟩ := OwnI.row ho
    exact ⟨a, cap, by rw [he, hv]; rfl, hb⟩
  | false => exact (of_no p who w hi).mono fun e W' ⟨he, hb⟩ => ⟨_, _, he, hb⟩
theorem zero_runs (p : Option Addr) (w : World) (hT : Tbl w w.heap.size p []) :
    Calls Try.prog 21 #[.pointer p] w fun e W' => ∃ a cap, e = .returned (.slice a 0 cap) ∧ Below w.heap.size w W' := by
  refine (runs_any p [] w hT (by simp)).mono ?_
  rintro e W' ⟨v, he, ho, hb⟩
  rcases ho.2 with ⟨hv, _⟩ | ⟨g, cap, cur, hv, _⟩
  · exact ⟨none, 0, by rw [he, hv], hb⟩
  · exact ⟨_, cap, by rw [he, hv]; rfl, hb⟩

set_option maxRecDepth 100000 in
theorem zero_any (f n who : Int) (w : World) :
    Calls Try.prog 6 #[.int .i64 f, .int .i64 n, .int .i64 who] w fun e W' => e = .returned (.bool true) ∧ Below w.heap.size w W' := by
  have hN : ∀ W : World, Tbl W W.heap.size none [] := fun W => .inl ⟨rfl, rfl⟩
  have hU : ∀ W : World, Below (w.heap.size + 1) (w.alloc (.cells #[.bool false, .slice none 0 0] 48)) W → Tbl W W.heap.size (some ⟨w.heap.size, 0, none⟩) [] ∧ W.cell? ⟨w.heap.size, 0, none⟩ = some (.bool false) := fun W hb => by
    have h := World.alloc_heap_new w (.cells #[.bool false, .slice none 0 0] 48)
    have h2 := (hb.block w.heap.size (by omega)).trans h
    have hs := hb.size
    simp only [World.size_alloc] at hs
    exact ⟨.inr ⟨_, _, rfl, by omega, by simp [World.cell?, h2], .inl ⟨rfl, rfl⟩⟩, by simp [World.cell?, h2]⟩
  have HN := Lib.hid hN
  have HU := Lib.hid hU
  have hb0 := (Below.refl w.heap.size w).alloc (Nat.le_refl _) (.cells #[.bool false, .slice none 0 0] 48)
  clear hN hU
  go_enter Try.func6, Try.ntmps6
  go_wp2_with fail
  obtain ⟨W0, hW0⟩ : ∃ W0, w.alloc (.cells #[.bool false, .slice none 0 0] 48) = W0 := ⟨_, rfl⟩
  have hs0 : w.heap.size + 1 ≤ W0.heap.size := by rw [← hW0]; simp
  rw [hW0] at HU hb0 ⊢
  clear hW0
  refine (zero_who none f _ (HN.out _)).mono ?_
  rintro e w1 ⟨rfl, h1⟩
  have a1 : Below (w.heap.size + 1) W0 w1 := h1.mono hs0
  go_wp2_with fail
  refine (zero_who _ f _ (HU.out _ a1).1).mono ?_
  rintro e w2 ⟨rfl, h2⟩
  have a2 := a1.trans (h2.mono (Nat.le_trans hs0 h1.size))
  go_wp2_with fail
  refine (give_nil f n who _).mono ?_
  rintro e w2 ⟨rfl, rfl⟩
  go_wp2_with fail
  refine (give_unmade _ f n who _ (HU.out _ a2).2).mono ?_
  rintro e w2 ⟨rfl, rfl⟩
  go_wp2_with fail
  refine (zero_free none _ (HN.out _)).mono ?_
  rintro e w3 ⟨rfl, h3⟩
  have s2 := h2.size
  have s1 := h1.size
  have a3 := a2.trans (h3.mono (by omega))
  go_wp2_with fail
  refine (zero_len _ _ (HU.out _ a3).1).mono ?_
  rintro e w4 ⟨rfl, h4⟩
  have s3 := h3.size
  have a4 := a3.trans (h4.mono (by omega))
  go_wp2_with fail
  refine (zero_of none who _ (HN.out _)).mono ?_
  rintro e w5 ⟨a, cap, rfl, h5⟩
  have s4 := h4.size
  have a5 := a4.trans (h5.mono (by omega))
  go_wp2_with fail
  refine (zero_runs _ _ (HU.out _ a5).1).mono ?_
  rintro e w6 ⟨b, cap2, rfl, h6⟩
  have s5 := h5.size
  have a6 := a5.trans (h6.mono (by omega))
  have hfin := hb0.trans (a6.mono (by omega))
  go_wp2
  go_ret
  exact ⟨rfl, hfin⟩
end Go.Proofs.Ytpoelobljklgpaa.Pt
