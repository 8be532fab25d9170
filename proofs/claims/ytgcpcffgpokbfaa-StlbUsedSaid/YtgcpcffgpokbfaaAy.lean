/- Package stlb: one that no call made; what the law asks at its end (awake). -/
import Derived.Test.YtgcpcffgpokbfaaAx
namespace Go.Proofs.Ytgcpcffgpokbfaa.Sb
open Go.RowKit Ut Hg
set_option maxRecDepth 100000
set_option linter.unusedVariables false
set_option maxHeartbeats 4000000

/-- nil, or one that no call made -/
def Un18 (W : World) (p : Value) : Prop := p = .pointer none ∨ ∃ g, p = .pointer (some ⟨g, 0, none⟩) ∧ HP W g 62 [.bool false, .int .i64 0, .int .u64 0] []
section
variable {W W' : World} {p fv gv : Value}
theorem Un18.more (h : Un18 W p) (hb : Below W.heap.size W W') : Un18 W' p := by
  rcases h with h | ⟨g, h, hh⟩
  · exact .inl h
  · exact .inr ⟨g, h, hh.1.more hb, hh.2⟩
theorem Un18.one (h : Un18 W p) : ∃ a, p = .pointer a := by
  rcases h with rfl | ⟨g, rfl, _⟩
  · exact ⟨_, rfl⟩
  · exact ⟨_, rfl⟩
theorem unLen (h : Un18 W p) : Calls Try.prog 22 #[p] W fun e w' => e = .returned (.int .i64 0) ∧ W = w' := by
  rcases h with rfl | ⟨g, rfl, hh⟩
  · go_enter Try.func22, Try.ntmps22
    go_wp2
    go_ret
    exact ⟨rfl, rfl⟩
  · have h0 : W.cell? ⟨g, 3, none⟩ = some (.int .i64 0) := hh.1.cell0 (o := 3) rfl
    clear hh
    go_enter Try.func22, Try.ntmps22
    go_wp2
    go_ret
    exact ⟨rfl, rfl⟩
theorem unFind (h : Un18 W p) : Calls Try.prog 25 #[p, fv] W fun e w' => e = .returned (.tuple #[.int .i64 0, .bool false]) ∧ W = w' := by
  have HL := Lib.hid (unLen h)
  clear h
  go_enter Try.func25, Try.ntmps25
  go_wp2_with fail
  refine HL.out.mono ?_
  rintro e w1 ⟨rfl, rfl⟩
  go_wp2
  go_loopw [9] (fun j wr => j = .int .i64 0 ∧ wr = W) (fun j _ => 0)
  case atStart => exact ⟨rfl, rfl⟩
  case round =>
    obtain ⟨rfl, rfl⟩ := hrel
    go_wp2
    go_ret2
    exact ⟨rfl, rfl⟩
theorem unEach (h : Un18 W p) : Calls Try.prog 34 #[p, fv, gv] W fun e w' => e = .returned (.int .i64 0) ∧ W = w' := by
  have HL := Lib.hid (unFind (fv := fv) h)
  clear h
  go_enter Try.func34, Try.ntmps34
  go_wp2_with fail
  refine HL.out.mono ?_
  rintro e w1 ⟨rfl, rfl⟩
  go_wp2
  go_loopw [7, 9] (fun a t wr => a = .int .i64 0 ∧ t = .bool false ∧ wr = W) (fun _ _ _ => 0)
  case atStart => exact ⟨rfl, rfl, rfl⟩
  case round =>
    obtain ⟨rfl, rfl, rfl⟩ := hrel
    go_wp2
    go_ret
    exact ⟨rfl, rfl⟩
theorem unForget (h : Un18 W p) : Calls Try.prog 31 #[p, fv] W fun e w' => e = .returned (.int .i64 0) ∧ Below W.heap.size W w' := by
  have HB : Hid (∀ o : Obj, Below W.heap.size W (W.alloc o)) := Lib.hid fun o => (Below.refl _ _).alloc (Nat.le_refl _) _
  have HE : Hid (∀ (o : Obj) (gv : Value), Calls Try.prog 34 #[p, fv, gv] (W.alloc o) fun e w' => e = .returned (.int .i64 0) ∧ W.alloc o = w') := Lib.hid fun o gv => unEach (h.more (HB.out o))
  obtain ⟨a, rfl⟩ := h.one
  clear h
  go_enter Try.func31, Try.ntmps31
  go_wp2_with fail
  refine (HE.out _ _).mono ?_
  rintro e w1 ⟨rfl, rfl⟩
  go_wp2
  go_ret
  exact ⟨rfl, HB.out _⟩
theorem unDrop (q r : Int) (h : Un18 W p) : Calls Try.prog 13 #[p, .agg #[.int .i64 q, .int .i64 r]] W fun e w' => e = .returned (.bool false) ∧ Below W.heap.size W w' := by
  obtain ⟨U, hU⟩ : ∃ U, U = W.alloc (.cells #[.int .i64 q, .int .i64 r] 38) := ⟨_, rfl⟩
  have hB : Below W.heap.size W U := by rw [hU]; exact (Below.refl _ _).alloc (Nat.le_refl _) _
  have hN : Blk U W.heap.size 38 [.int .i64 q, .int .i64 r] := by rw [hU]; exact Blk.new W _ [.int .i64 q, .int .i64 r]
  have k0 := hN.cell (j := 0) rfl
  have k1 := hN.cell (j := 1) rfl
  have kl := hN.lt
  have HU := Lib.hid hU
  have HB := Lib.hid hB
  have HP := Lib.hid (h.more hB)
  clear h hB hN hU
  go_enter Try.func13, Try.ntmps13
  go_upto_region 1 with fail
  rw [← HU.out]
  clear HU
  go_wp2_with fail
  refine (hasKey_any q r U).mono ?_
  rintro e w1 ⟨rfl, hk, hb1⟩
  have HB1 := Lib.hid (HB.out.trans (hb1.mono HB.out.size))
  have HF := Lib.hid (unForget (fv := .func (.func 39) #[] #[.pointer (some ⟨U.heap.size, 0, none⟩)]) (HP.out.more hb1))
  clear k0 k1 kl hk hb1
  go_wp2_with fail
  refine HF.out.mono ?_
  rintro e w2 ⟨rfl, hb2⟩
  have HB2 := Lib.hid (HB1.out.trans (hb2.mono HB1.out.size))
  clear hb2 HF
  go_wp2
  go_ret
  exact ⟨rfl, HB2.out⟩
theorem unGone (q : Int) (h : Un18 W p) : Calls Try.prog 15 #[p, .int .i64 q] W fun e w' => e = .returned (.int .i64 0) ∧ Below W.heap.size W w' := by
  have HB : Hid (Below W.heap.size W (W.alloc (.cells #[.int .i64 q] 3))) := Lib.hid ((Below.refl _ _).alloc (Nat.le_refl _) _)
  have HF := Lib.hid (unForget (fv := .func (.func 32) #[] #[.pointer (some ⟨W.heap.size, 0, none⟩)]) (h.more HB.out))
  clear h
  go_enter Try.func15, Try.ntmps15
  go_wp2_with fail
  refine HF.out.mono ?_
  rintro e w2 ⟨rfl, hb2⟩
  have HB2 := Lib.hid (HB.out.trans (hb2.mono HB.out.size))
  clear hb2 HF
  go_wp2
  go_ret
  exact ⟨rfl, HB2.out⟩
theorem unFlush (h : Un18 W p) : Calls Try.prog 19 #[p] W fun e w' => e = .returned (.int .i64 0) ∧ Below W.heap.size W w' := by
  have HF := Lib.hid (unForget (fv := .func (.func 36) #[] #[]) h)
  clear h
  go_enter Try.func19, Try.ntmps19
  go_wp2_with fail
  refine HF.out.mono ?_
  rintro e w2 ⟨rfl, hb2⟩
  have HB2 := Lib.hid hb2
  clear hb2 HF
  go_wp2
  go_ret
  exact ⟨rfl, HB2.out⟩
theorem unNarrow (q : Int) (h : Un18 W p) : Calls Try.prog 17 #[p, .int .i64 q] W fun e w' => e = .returned (.int .i64 0) ∧ Below W.heap.size W w' := by
  have HB : Hid (∀ o o' : Obj, Below W.heap.size W ((W.alloc o).alloc o')) := Lib.hid fun o o' => ((Below.refl _ _).alloc (Nat.le_refl _) _).alloc (by simp) _
  have HE : Hid (∀ (o o' : Obj) (fv gv : Value), Calls Try.prog 34 #[p, fv, gv] ((W.alloc o).alloc o') fun e w' => e = .returned (.int .i64 0) ∧ (W.alloc o).alloc o' = w') := Lib.hid fun o o' fv gv => unEach (h.more (HB.out o o'))
  obtain ⟨a, rfl⟩ := h.one
  clear h
  go_enter Try.func17, Try.ntmps17
  go_wp2_with fail
  refine (HE.out _ _ _ _).mono ?_
  rintro e w1 ⟨rfl, rfl⟩
  go_wp2
  go_ret
  exact ⟨rfl, HB.out _ _⟩
theorem unPut (q r : Int) (a b c : Int) (h : Un18 W p) : Calls Try.prog 20 #[p, .agg #[.int .i64 q, .int .i64 r], .agg #[.int .i64 a, .int .i64 b, .int .i64 c]] W fun e w' => e = .returned (.int .i64 7) ∧ Below W.heap.size W w' := by
  have HB : Hid (∀ o o' : Obj, Below W.heap.size W ((W.alloc o).alloc o')) := Lib.hid fun o o' => ((Below.refl _ _).alloc (Nat.le_refl _) _).alloc (by simp) _
  rcases h with rfl | ⟨g, rfl, hh⟩
  · go_enter Try.func20, Try.ntmps20
    go_wp2
    go_ret
    exact ⟨rfl, HB.out _ _⟩
  · have h0 : W.cell? ⟨g, 0, none⟩ = some (.bool false) := hh.1.elim fun z hz => hz.2.cell rfl
    have hl := hh.1.lt
    clear hh
    go_enter Try.func20, Try.ntmps20
    go_wp2
    go_ret
    exact ⟨rfl, HB.out _ _⟩
theorem unGet (q r : Int) (h : Un18 W p) : Calls Try.prog 11 #[p, .agg #[.int .i64 q, .int .i64 r]] W fun e w' => e = .returned (.tuple #[entV (0, 0, 0), .bool false]) ∧ Below W.heap.size W w' := by
  obtain ⟨U, hU⟩ : ∃ U, U = (W.alloc (.cells #[.int .i64 q, .int .i64 r] 38)).alloc (.cells #[.int .i64 0, .int .i64 0, .int .i64 0] 34) := ⟨_, rfl⟩
  have hB : Below W.heap.size W U := by rw [hU]; exact ((Below.refl _ _).alloc (Nat.le_refl _) _).alloc (by simp) _
  have hk : Blk U W.heap.size 38 [.int .i64 q, .int .i64 r] := by rw [hU]; exact (Blk.new W _ [.int .i64 q, .int .i64 r]).more ((Below.refl _ _).alloc (Nat.le_refl _) _)
  have he : Blk U (W.heap.size + 1) 34 (entC (0, 0, 0)) := by
    have := Blk.new (W.alloc (.cells #[.int .i64 q, .int .i64 r] 38)) 34 (entC (0, 0, 0))
    rw [World.size_alloc] at this
    rw [hU]
    exact this
  have HP := Lib.hid (h.more hB)
  have HU := Lib.hid hU
  have HB := Lib.hid hB
  have HE := Lib.hid he
  have k0 := hk.cell (j := 0) rfl
  have k1 := hk.cell (j := 1) rfl
  have kl := hk.lt
  clear h hU hB hk he
  go_enter Try.func11, Try.ntmps11
  go_upto_region 1 with fail
  rw [← HU.out]
  clear HU
  go_wp2_with fail
  refine (hasKey_any q r U).mono ?_
  rintro e w1 ⟨rfl, hk1, hb1⟩
  have HF := Lib.hid (unFind (fv := .func (.func 39) #[] #[.pointer (some ⟨U.heap.size, 0, none⟩)]) (HP.out.more hb1))
  have HE2 := Lib.hid (HE.out.more hb1)
  have HB1 := Lib.hid (HB.out.trans (hb1.mono HB.out.size))
  clear k0 k1 kl hk1 hb1
  go_wp2_with fail
  refine HF.out.mono ?_
  rintro e w2 ⟨rfl, rfl⟩
  go_upto_region 3 with fail
  refine wp_region_lit ?_
  refine wpList_buildTo rfl 34 _ rfl _ rfl (entC (0, 0, 0)).toArray (by kernel_rfl) ?_
  refine wpList_store_rowTo rfl 34 _ _ rfl rfl (W.heap.size + 1) (entC (0, 0, 0)).toArray (by kernel_rfl) (by kernel_rfl) 34 (entC (0, 0, 0)).toArray HE2.out (by rw [size_entry]; rfl) rfl (by kernel_rfl) ?_
  have HN9 : Hid (Blk (w1.setRow (W.heap.size + 1) (entC (0, 0, 0)).toArray) (W.heap.size + 1) 34 (entC (0, 0, 0))) := Lib.hid (HE2.out.row _)
  have HB9 := Lib.hid (below_setRow HB1.out (Nat.le_succ W.heap.size) (entC (0, 0, 0)).toArray)
  generalize w1.setRow (W.heap.size + 1) (entC (0, 0, 0)).toArray = V at HN9 HB9 ⊢
  go_wp2
  exact bodyPost_ret (v := .tuple #[.agg (entC (0, 0, 0)).toArray, .bool false]) (results_cell_slot Try.results11 _ _ _ _ _ _ _ rfl _ rfl HN9.out Try.underlying34 rfl (by rw [size_entry]; rfl)) rfl ⟨rfl, HB9.out⟩
theorem unList (h : Un18 W p) : Calls Try.prog 24 #[p] W fun e w' => (∃ a cap, e = .returned (.slice a 0 cap)) ∧ Below W.heap.size W w' := by
  rcases h with rfl | ⟨g, rfl, hh⟩
  · have HB := Lib.hid (Below.refl W.heap.size W)
    go_enter Try.func24, Try.ntmps24
    go_wp2
    go_ret
    exact ⟨⟨none, 0, rfl⟩, HB.out⟩
  · exact (list_any hh rfl Rel.nil).mono fun e w' ⟨⟨a, cap, h1, _⟩, h2⟩ => ⟨⟨a, cap, h1⟩, h2⟩
end
end Go.Proofs.Ytgcpcffgpokbfaa.Sb
