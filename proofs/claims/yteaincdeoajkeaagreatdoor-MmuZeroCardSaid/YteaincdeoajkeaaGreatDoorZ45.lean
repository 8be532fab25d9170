/- Several texts in one: Iy -/
import Derived.Test.YteaincdeoajkeaaGreatDoorZ36
import Derived.Test.YteaincdeoajkeaaGreatDoorZ44
import Derived.Test.YteaincdeoajkeaaGreatDoorZ11
section
/- Package mmu: what one that nobody made tells (ZeroC20). -/
namespace Go.Proofs.YteaincdeoajkeaaGreatDoor.Mm
open Go.RowKit Go.Shelf Ut Oc Vw Wa
set_option linter.unusedVariables false
set_option maxRecDepth 100000
set_option maxHeartbeats 4000000

/-- the cells of one that nobody made -/
def zs20 : List Value := .pointer none :: .pointer none :: .pointer none :: Gm.flatP Gm.noP
def Un20 (W : World) (v : Value) : Prop := v = .pointer none ∨ ∃ u, v = .pointer (some ⟨u, 0, none⟩) ∧ W.cell? ⟨u, 0, none⟩ = some (.pointer none) ∧ u < W.heap.size
theorem Un20.more {W W' : World} {v : Value} (h : Un20 W v) (hb : Below W.heap.size W W') : Un20 W' v :=
  h.imp_right fun ⟨u, h1, h2, h3⟩ => ⟨u, h1, by rw [← h2]; simp only [World.cell?]; rw [hb.block u h3], Nat.lt_of_lt_of_le h3 hb.size⟩
theorem Un20.made {W : World} {v : Value} (h : Un20 W v) : Calls Tryz.prog 36 #[v] W fun e w' => e = .returned (.bool false) ∧ W = w' := by
  rcases h with rfl | ⟨u, rfl, h1, h2⟩
  · exact made_nil20 W
  · exact made_no20 W u h1 h2
theorem unNew {W : World} {a : Option Addr} (h : Unv W a) (r : Int) : Calls Tryz.prog 22 #[.pointer a, .int .i64 r] W fun e w' => e = .returned (.tuple #[.pointer none, .int .i64 7]) ∧ Below W.heap.size W w' := by
  have HM := Lib.hid (map_un a W (h W (Below.refl _ _)))
  clear h
  go_enter Tryz.func22, Tryz.ntmps22
  go_wp2_with fail
  refine HM.out.mono ?_
  rintro e w1 ⟨rfl, rfl⟩
  go_wp2
  go_ret2
  exact ⟨rfl, Below.refl _ _⟩
theorem put1 {W : World} (w : World) (j : Nat) (v : Value) (h : Below W.heap.size W w) : Below W.heap.size W (w.setCell ⟨W.heap.size + 1, j, none⟩ v) := Below.setCell h (Nat.le_succ _) v
theorem unFind {W : World} {v : Value} (on us : Bool) (rt z k : Int) (h : Un20 W v) : Calls Tryz.prog 9 #[v, modeV on rt us, .int .u32 z, .int .i64 k] W fun e w' => e = .returned (.tuple #[hitX (0, 0, 0) false, .int .i64 7]) ∧ Below W.heap.size W w' := by
  obtain ⟨U, hU⟩ : ∃ U, U = (W.alloc (.cells #[.bool on, .int .i64 rt, .bool us] 30)).alloc (.cells #[.int .i64 0, .int .i64 0, .int .i64 0, .bool false] 36) := ⟨_, rfl⟩
  have hB : Below W.heap.size W U := by rw [hU]; exact ((Below.refl _ _).alloc (Nat.le_refl _) _).alloc (by simp) _
  have hh : Blk U (W.heap.size + 1) 36 [.int .i64 0, .int .i64 0, .int .i64 0, .bool false] := by
    have := Blk.new (W.alloc (.cells #[.bool on, .int .i64 rt, .bool us] 30)) 36 [.int .i64 0, .int .i64 0, .int .i64 0, .bool false]
    rw [World.size_alloc] at this
    rw [hU]
    exact this
  have HMD := Lib.hid (h.more hB).made
  have HU := Lib.hid hU
  have HPUT : Hid (∀ (v0 v1 v2 v3 : Value), Below W.heap.size W ((((U.setCell ⟨W.heap.size + 1, 0, none⟩ v0).setCell ⟨W.heap.size + 1, 1, none⟩ v1).setCell ⟨W.heap.size + 1, 2, none⟩ v2).setCell ⟨W.heap.size + 1, 3, none⟩ v3)) := Lib.hid fun v0 v1 v2 v3 =>
    put1 _ _ _ (put1 _ _ _ (put1 _ _ _ (put1 _ _ _ hB)))
  have r0 := hh.cell (j := 0) rfl
  have r1 := hh.cell (j := 1) rfl
  have r2 := hh.cell (j := 2) rfl
  have r3 := hh.cell (j := 3) rfl
  have f0 := hh.frozen 0
  have f1 := hh.frozen 1
  have f2 := hh.frozen 2
  have f3 := hh.frozen 3
  have rl := hh.lt
  clear hU hB hh h
  go_enter Tryz.func9, Tryz.ntmps9
  go_upto_region 1 with fail
  rw [← HU.out]
  clear HU
  go_wp2_with fail
  refine HMD.out.mono ?_
  rintro e w1 ⟨rfl, rfl⟩
  go_wp2
  exact bodyPost_ret (v := .tuple #[hitX (0, 0, 0) false, .int .i64 7]) (by simp [results, Tryz.results9, go_sem, r0, r1, r2, r3]) rfl ⟨rfl, HPUT.out _ _ _ _⟩
theorem unfind {W : World} {v : Value} (on us : Bool) (rt z wd k : Int) (h : Un20 W v) : Calls Tryz.prog 45 #[v, modeV on rt us, .int .u32 z, .int .i64 wd, .int .i64 k] W fun e w' => e = .returned (.tuple #[hitX (0, 0, 0) false, .int .i64 7]) ∧ Below W.heap.size W w' := by
  obtain ⟨U, hU⟩ : ∃ U, U = (W.alloc (.cells #[.bool on, .int .i64 rt, .bool us] 30)).alloc (.cells #[.int .i64 0, .int .i64 0, .int .i64 0, .bool false] 36) := ⟨_, rfl⟩
  have hB : Below W.heap.size W U := by rw [hU]; exact ((Below.refl _ _).alloc (Nat.le_refl _) _).alloc (by simp) _
  have hh : Blk U (W.heap.size + 1) 36 [.int .i64 0, .int .i64 0, .int .i64 0, .bool false] := by
    have := Blk.new (W.alloc (.cells #[.bool on, .int .i64 rt, .bool us] 30)) 36 [.int .i64 0, .int .i64 0, .int .i64 0, .bool false]
    rw [World.size_alloc] at this
    rw [hU]
    exact this
  have HMD := Lib.hid (h.more hB).made
  have HU := Lib.hid hU
  have HPUT : Hid (∀ (v0 v1 v2 v3 : Value), Below W.heap.size W ((((U.setCell ⟨W.heap.size + 1, 0, none⟩ v0).setCell ⟨W.heap.size + 1, 1, none⟩ v1).setCell ⟨W.heap.size + 1, 2, none⟩ v2).setCell ⟨W.heap.size + 1, 3, none⟩ v3)) := Lib.hid fun v0 v1 v2 v3 =>
    put1 _ _ _ (put1 _ _ _ (put1 _ _ _ (put1 _ _ _ hB)))
  have r0 := hh.cell (j := 0) rfl
  have r1 := hh.cell (j := 1) rfl
  have r2 := hh.cell (j := 2) rfl
  have r3 := hh.cell (j := 3) rfl
  have f0 := hh.frozen 0
  have f1 := hh.frozen 1
  have f2 := hh.frozen 2
  have f3 := hh.frozen 3
  have rl := hh.lt
  clear hU hB hh h
  go_enter Tryz.func45, Tryz.ntmps45
  go_upto_region 1 with fail
  rw [← HU.out]
  clear HU
  go_wp2_with fail
  refine HMD.out.mono ?_
  rintro e w1 ⟨rfl, rfl⟩
  go_wp2
  exact bodyPost_ret (v := .tuple #[hitX (0, 0, 0) false, .int .i64 7]) (by simp [results, Tryz.results45, go_sem, r0, r1, r2, r3]) rfl ⟨rfl, HPUT.out _ _ _ _⟩
theorem unLoad {W : World} {v : Value} (on us : Bool) (rt z wd k : Int) (h : Un20 W v) : Calls Tryz.prog 11 #[v, modeV on rt us, .int .u32 z, .int .i64 wd, .int .i64 k] W fun e w' => e = .returned (.tuple #[.int .u32 0, .int .i64 7]) ∧ Below W.heap.size W w' := by
  obtain ⟨U, hU⟩ : ∃ U, U = W.alloc (.cells #[.bool on, .int .i64 rt, .bool us] 30) := ⟨_, rfl⟩
  have hB : Below W.heap.size W U := by rw [hU]; exact (Below.refl _ _).alloc (Nat.le_refl _) _
  have hm : Blk U W.heap.size 30 [.bool on, .int .i64 rt, .bool us] := by rw [hU]; exact Blk.new W _ [.bool on, .int .i64 rt, .bool us]
  have HFD := Lib.hid (unfind on us rt z wd k (h.more hB))
  have HU := Lib.hid hU
  have HB := Lib.hid hB
  have m0 := hm.cell (j := 0) rfl
  have m1 := hm.cell (j := 1) rfl
  have m2 := hm.cell (j := 2) rfl
  have ml := hm.lt
  clear hU hB hm h
  go_enter Tryz.func11, Tryz.ntmps11
  go_upto_region 1 with fail
  rw [← HU.out]
  clear HU
  go_wp2_with fail
  refine HFD.out.mono ?_
  rintro e w2 ⟨rfl, hb2⟩
  have HB2 : Hid (Below W.heap.size W (w2.alloc (.cells #[.int .i64 0, .int .i64 0, .int .i64 0, .bool false] 36))) := Lib.hid ((HB.out.trans (hb2.mono HB.out.size)).alloc (Nat.le_trans HB.out.size hb2.size) _)
  clear hb2 HB m0 m1 m2 ml HFD
  dsimp only [hitX]
  go_wp2
  go_ret2
  exact ⟨rfl, HB2.out⟩
theorem unSave {W : World} {v : Value} (on us : Bool) (rt z wd x : Int) (h : Un20 W v) : Calls Tryz.prog 18 #[v, modeV on rt us, .int .u32 z, .int .i64 wd, .int .u32 x] W fun e w' => e = .returned (.int .i64 7) ∧ Below W.heap.size W w' := by
  obtain ⟨U, hU⟩ : ∃ U, U = W.alloc (.cells #[.bool on, .int .i64 rt, .bool us] 30) := ⟨_, rfl⟩
  have hB : Below W.heap.size W U := by rw [hU]; exact (Below.refl _ _).alloc (Nat.le_refl _) _
  have hm : Blk U W.heap.size 30 [.bool on, .int .i64 rt, .bool us] := by rw [hU]; exact Blk.new W _ [.bool on, .int .i64 rt, .bool us]
  have HFD := Lib.hid (unfind on us rt z wd 2 (h.more hB))
  have HU := Lib.hid hU
  have HB := Lib.hid hB
  have m0 := hm.cell (j := 0) rfl
  have m1 := hm.cell (j := 1) rfl
  have m2 := hm.cell (j := 2) rfl
  have ml := hm.lt
  clear hU hB hm h
  go_enter Tryz.func18, Tryz.ntmps18
  go_upto_region 1 with fail
  rw [← HU.out]
  clear HU
  go_wp2_with fail
  refine HFD.out.mono ?_
  rintro e w2 ⟨rfl, hb2⟩
  have HB2 : Hid (Below W.heap.size W (w2.alloc (.cells #[.int .i64 0, .int .i64 0, .int .i64 0, .bool false] 36))) := Lib.hid ((HB.out.trans (hb2.mono HB.out.size)).alloc (Nat.le_trans HB.out.size hb2.size) _)
  clear hb2 HB m0 m1 m2 ml HFD
  dsimp only [hitX]
  go_wp2
  go_ret
  exact ⟨rfl, HB2.out⟩
theorem unGone {W : World} {v : Value} (p : Int) (h : Un20 W v) : Calls Tryz.prog 23 #[v, .int .i64 p] W fun e w' => e = .returned (.int .i64 7) ∧ Below W.heap.size W w' := by
  have HM := Lib.hid h.made
  clear h
  go_enter Tryz.func23, Tryz.ntmps23
  go_wp2_with fail
  refine HM.out.mono ?_
  rintro e w1 ⟨rfl, rfl⟩
  go_wp2
  go_ret
  exact ⟨rfl, Below.refl _ _⟩
theorem unFlush {W : World} {v : Value} (h : Un20 W v) : Calls Tryz.prog 24 #[v] W fun e w' => e = .returned (.int .i64 0) ∧ Below W.heap.size W w' := by
  have HM := Lib.hid h.made
  clear h
  go_enter Tryz.func24, Tryz.ntmps24
  go_wp2_with fail
  refine HM.out.mono ?_
  rintro e w1 ⟨rfl, rfl⟩
  go_wp2
  go_ret
  exact ⟨rfl, Below.refl _ _⟩
theorem unTable {W : World} {v : Value} (p : Int) (h : Un20 W v) : Calls Tryz.prog 17 #[v, .int .i64 p] W fun e w' => e = .returned (.bool false) ∧ Below W.heap.size W w' := by
  have HM := Lib.hid h.made
  clear h
  go_enter Tryz.func17, Tryz.ntmps17
  go_wp2_with fail
  refine HM.out.mono ?_
  rintro e w1 ⟨rfl, rfl⟩
  go_wp2
  go_ret
  exact ⟨rfl, Below.refl _ _⟩
theorem unKept {W : World} {v : Value} (h : Un20 W v) : Calls Tryz.prog 14 #[v] W fun e w' => (∃ a c, e = .returned (.slice a 0 c)) ∧ Below W.heap.size W w' := by
  have HM := Lib.hid h.made
  clear h
  go_enter Tryz.func14, Tryz.ntmps14
  go_wp2_with fail
  refine HM.out.mono ?_
  rintro e w1 ⟨rfl, rfl⟩
  go_wp2
  go_ret
  exact ⟨⟨_, _, rfl⟩, Below.refl _ _⟩
theorem alloc_mmu (w : World) (ρ : Operand → Value) (o : Oper) (ho : o.op = .alloc 80) (n : Nat) (hn : w.heap.size = n) : (execOp ρ o).run Tryz.prog w = .ok (.value (.pointer (some ⟨n, 0, none⟩))) (w.alloc (.cells zs20.toArray 80)) := by
  subst hn
  unfold execOp
  rw [ho]
  kernel_rfl
theorem zero20 : ZeroC20 Un20 zs20 where
  run w ρ o ho n hn := alloc_mmu w ρ o ho n hn
  made w := .inr ⟨_, rfl, (Blk.new w 80 zs20).cell rfl, (Blk.new w 80 zs20).lt⟩
  nil w := .inl rfl
  more h hb := h.more hb
  newNil W := unNew (unv_nil W) 1
  newZero W b h := unNew (unv_blk h) 1
  find on us rt z k h _ _ := unFind on us rt z k h
  load on us rt z wd k h _ _ := unLoad on us rt z wd k h
  save on us rt z wd x h _ _ _ _ := unSave on us rt z wd x h
  gone p h := unGone p h
  flush h := unFlush h
  kept h := unKept h
  table p h := unTable p h
end Go.Proofs.YteaincdeoajkeaaGreatDoor.Mm
end
