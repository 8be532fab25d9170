/- Package stlb: New, Len, next; the closures that say which translations are meant. -/
import Derived.Test.YtgcpcffgpokbfaaAo
import Derived.Great.Ranges
import Derived.Great.Walk
import Derived.Laws.EntriesVeiled
namespace Go.Proofs.Ytgcpcffgpokbfaa.Sb
open Go.RowKit Ut Hg
set_option maxRecDepth 100000
set_option linter.unusedVariables false
set_option maxHeartbeats 4000000

/-- what lies ahead of the heap: made, the room, the number of the last use -/
abbrev hd3 (room c : Int) : List Value := [.bool true, .int .i64 room, .int .u64 c]
section
variable {W W' : World} {g : Nat} {room c : Int} {us : List Us}
theorem LB.use (h : LB W g 62 (hd3 room c) us) (c' : Int) : LB (W.setCell ⟨g, 2, none⟩ (.int .u64 c')) g 62 (hd3 room c') us := by
  obtain ⟨z, h5, hb⟩ := h
  exact ⟨z, h5, hb.set 2 (.int .u64 c')⟩
theorem LB.pre (h : LB W g 62 (hd3 room c) us) : W.cell? ⟨g, 0, none⟩ = some (.bool true) ∧ W.cell? ⟨g, 1, none⟩ = some (.int .i64 room) ∧ W.cell? ⟨g, 2, none⟩ = some (.int .u64 c) := by
  obtain ⟨z, h5, hb⟩ := h
  exact ⟨hb.cell rfl, hb.cell rfl, hb.cell rfl⟩

/-- what a new one's cells are -/
def newC (room : Int) : List Value := hd3 room 0 ++ .int .i64 ((0 : Nat) : Int) :: flatU [noU, noU, noU, noU, noU]
theorem tlbNew_no (room : Int) (h : room < 0 ∨ 4 < room) (w : World) : Calls Try.prog 8 #[.int .i64 room] w fun e w' => e = .returned (.tuple #[.pointer none, .int .i64 1]) ∧ w = w' := by
  by_cases h0 : room < 0
  · go_enter Try.func8, Try.ntmps8
    go_wp2
    go_ret2
    exact ⟨rfl, rfl⟩
  · have h4 : 4 < room := by omega
    clear h
    go_enter Try.func8, Try.ntmps8
    go_wp2
    go_ret2
    exact ⟨rfl, rfl⟩
theorem tlbNew_yes (room : Int) (h0 : ¬ room < 0) (h4 : ¬ 4 < room) (w : World) : Calls Try.prog 8 #[.int .i64 room] w fun e w' => e = .returned (.tuple #[.pointer (some ⟨w.heap.size, 0, none⟩), .int .i64 0]) ∧ HP w' w.heap.size 62 (hd3 room 0) [] ∧ Below w.heap.size w w' := by
  have HF : Hid (HP (w.alloc (.cells (newC room).toArray 62)) w.heap.size 62 (hd3 room 0) []) := Lib.hid ⟨⟨[noU, noU, noU, noU, noU], rfl, Blk.new w _ (newC room)⟩, nil_heap⟩
  have HB := Lib.hid ((Below.refl w.heap.size w).alloc (Nat.le_refl _) (.cells (newC room).toArray 62))
  go_enter Try.func8, Try.ntmps8
  go_upto_region 3 with fail
  refine wp_region_lit ?_
  refine Great.wpList_readTo rfl _ rfl (.int .i64 room) (by kernel_rfl) ?_
  refine wpList_buildTo rfl 62 _ rfl _ rfl (newC room).toArray (by kernel_rfl) ?_
  refine Great.wpList_boxTo rfl 62 _ rfl _ rfl w.heap.size rfl (newC room).toArray rfl ?_
  obtain ⟨V, hV⟩ : ∃ V, V = w.alloc (.cells (newC room).toArray 62) := ⟨_, rfl⟩
  rw [← hV] at HF HB ⊢
  clear hV
  go_wp2
  go_ret2
  exact ⟨rfl, HF.out, HB.out⟩

theorem tlbLen_any (h : LB W g 62 (hd3 room c) us) : Calls Try.prog 22 #[.pointer (some ⟨g, 0, none⟩)] W fun e w' => e = .returned (.int .i64 (us.length : Nat)) ∧ W = w' := by
  have h0 := h.cell0 (o := 3) rfl
  clear h
  go_enter Try.func22, Try.ntmps22
  go_wp2
  go_ret
  exact ⟨rfl, rfl⟩
theorem next_any (h : LB W g 62 (hd3 room c) us) (h0 : 0 ≤ c) (hc : c ≤ 1000000) : Calls Try.prog 27 #[.pointer (some ⟨g, 0, none⟩)] W fun e w' => e = .returned (.int .u64 (c + 1)) ∧ LB w' g 62 (hd3 room (c + 1)) us ∧ Kq [g] W w' := by
  have HL := Lib.hid (h.use (c + 1))
  have HK := Lib.hid ((Kq.refl [g] W).setCell g 2 (.int .u64 (c + 1)) (.inl (by simp)))
  have c2 := h.pre.2.2
  have f2 := h.frz 2
  have hl := h.lt
  have c3 : (W.setCell ⟨g, 2, none⟩ (.int .u64 (c + 1))).cell? ⟨g, 2, none⟩ = some (.int .u64 (c + 1)) := (h.use (c + 1)).pre.2.2
  have d0 : IntKind.u64.wrap (c + 1) = c + 1 := by simp [IntKind.wrap, IntKind.bits, IntKind.signed]; omega
  clear h
  go_enter Try.func27, Try.ntmps27
  go_wp2
  go_ret
  exact ⟨rfl, HL.out, HK.out⟩
end

/-- a key's closure; a page's -/
theorem hasKey_any (p q : Int) (w : World) : Calls Try.prog 26 #[.agg #[.int .i64 p, .int .i64 q]] w fun e w' => e = .returned (.func (.func 39) #[] #[.pointer (some ⟨w.heap.size, 0, none⟩)]) ∧ Blk w' w.heap.size 38 [.int .i64 p, .int .i64 q] ∧ Below w.heap.size w w' := by
  have HB := Lib.hid ((Below.refl w.heap.size w).alloc (Nat.le_refl _) (.cells #[.int .i64 p, .int .i64 q] 38))
  have HN := Lib.hid (Blk.new w 38 [.int .i64 p, .int .i64 q])
  go_enter Try.func26, Try.ntmps26
  go_wp2
  go_ret
  exact ⟨rfl, HN.out, HB.out⟩
theorem hasKey1_any (p q : Int) (k : Nat) (x : Rc) (w : World) (h : Blk w k 38 [.int .i64 p, .int .i64 q]) : Calls Try.prog 39 #[x.v, .pointer (some ⟨k, 0, none⟩)] w fun e w' => e = .returned (.bool (x.is p q)) ∧ Below w.heap.size w w' := by
  have k0 := h.cell (j := 0) rfl
  have k1 := h.cell (j := 1) rfl
  have kl := h.lt
  have hcases := is_cases x p q
  obtain ⟨kr, kp, ep, ef, er⟩ := x
  have HB := Lib.hid ((Below.refl w.heap.size w).alloc (Nat.le_refl _) (.cells #[.int .i64 kr, .int .i64 kp, .int .i64 ep, .int .i64 ef, .int .i64 er] 53))
  dsimp only at hcases ⊢
  clear h
  rcases hcases with ⟨hy, h1, h2⟩ | ⟨hy, h1⟩ | ⟨hy, h1, h2⟩
  · subst h1 h2
    rw [hy]
    clear hy
    go_enter Try.func39, Try.ntmps39
    go_wp2
    go_ret
    exact ⟨rfl, HB.out⟩
  · rw [hy]
    clear hy
    go_enter Try.func39, Try.ntmps39
    go_wp2
    go_ret
    exact ⟨rfl, HB.out⟩
  · subst h1
    rw [hy]
    clear hy
    go_enter Try.func39, Try.ntmps39
    go_wp2
    go_ret
    exact ⟨rfl, HB.out⟩
theorem gone1_any (pg : Int) (k : Nat) (x : Rc) (w : World) (h : Blk w k 3 [.int .i64 pg]) : Calls Try.prog 32 #[x.v, .pointer (some ⟨k, 0, none⟩)] w fun e w' => e = .returned (.bool (x.ep == pg)) ∧ Below w.heap.size w w' := by
  have k0 := h.cell (j := 0) rfl
  have kl := h.lt
  obtain ⟨kr, kp, ep, ef, er⟩ := x
  have HB := Lib.hid ((Below.refl w.heap.size w).alloc (Nat.le_refl _) (.cells #[.int .i64 kr, .int .i64 kp, .int .i64 ep, .int .i64 ef, .int .i64 er] 53))
  clear h
  go_enter Try.func32, Try.ntmps32
  go_wp2
  go_ret
  exact ⟨rfl, HB.out⟩
theorem wide_any (pg : Int) (k : Nat) (x : Rc) (w : World) (h : Blk w k 3 [.int .i64 pg]) : Calls Try.prog 33 #[x.v, .pointer (some ⟨k, 0, none⟩)] w fun e w' => e = .returned (.bool (hadB x pg)) ∧ Below w.heap.size w w' := by
  have k0 := h.cell (j := 0) rfl
  have kl := h.lt
  have hh : hadB x pg = ((x.ep == pg) && !(bits .and .i64 x.er 2 == 0)) := rfl
  generalize hadB x pg = hb at hh ⊢
  obtain ⟨kr, kp, ep, ef, er⟩ := x
  have HB := Lib.hid ((Below.refl w.heap.size w).alloc (Nat.le_refl _) (.cells #[.int .i64 kr, .int .i64 kp, .int .i64 ep, .int .i64 ef, .int .i64 er] 53))
  dsimp only at hh
  clear h
  cases h1 : (ep == pg) with
  | false =>
    rw [h1, Bool.false_and] at hh
    subst hh
    go_enter Try.func33, Try.ntmps33
    go_wp2
    go_ret
    exact ⟨rfl, HB.out⟩
  | true =>
    rw [h1, Bool.true_and] at hh
    subst hh
    obtain ⟨q, hq⟩ : ∃ q, bits .and .i64 er 2 = q := ⟨_, rfl⟩
    rw [hq]
    go_enter Try.func33, Try.ntmps33
    go_wp2
    go_ret
    exact ⟨rfl, HB.out⟩
theorem flush1_any (x : Rc) (w : World) : Calls Try.prog 36 #[x.v] w fun e w' => e = .returned (.bool true) ∧ Below w.heap.size w w' := by
  obtain ⟨kr, kp, ep, ef, er⟩ := x
  have HB := Lib.hid ((Below.refl w.heap.size w).alloc (Nat.le_refl _) (.cells #[.int .i64 kr, .int .i64 kp, .int .i64 ep, .int .i64 ef, .int .i64 er] 53))
  go_enter Try.func36, Try.ntmps36
  go_wp2
  go_ret
  exact ⟨rfl, HB.out⟩
end Go.Proofs.Ytgcpcffgpokbfaa.Sb
