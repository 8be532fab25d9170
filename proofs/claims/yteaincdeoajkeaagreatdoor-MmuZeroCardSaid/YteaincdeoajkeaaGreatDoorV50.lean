/- Several texts in one: Yo Iw Iy -/
import Derived.Test.YteaincdeoajkeaaGreatDoorV20
import Derived.Test.YteaincdeoajkeaaGreatDoorV27
import Derived.Great.Walk
import Derived.Test.YteaincdeoajkeaaGreatDoorV49
section
/- hermitagelaw16: awake; what a view that no call made answers. -/
namespace Go.Proofs.YteaincdeoajkeaaGreatDoor.Vw
open Go.RowKit Go.Shelf Ut Oc
set_option maxRecDepth 100000
set_option linter.unusedVariables false
set_option maxHeartbeats 4000000

/-- a view that no call made, in any world from w on -/
def Unv (w : World) (a : Option Addr) : Prop := ∀ W, Below w.heap.size w W → Calls Tryz.prog 50 #[.pointer a] W fun e w' => e = .returned (.bool false) ∧ W = w'
theorem unv_nil (w : World) : Unv w none := fun W _ => made_nil W
def zeroV : List Value := .pointer none :: .pointer none :: noDv
theorem unv_blk {w : World} {b : Nat} (h : Blk w b 84 zeroV) : Unv w (some ⟨b, 0, none⟩) := fun W hW => made_no b W ((h.below hW h.lt).cell rfl)
theorem run_zeroV (ρ : Operand → Value) (o : Oper) (ho : o.op = .alloc 84) (w : World) : (execOp ρ o).run Tryz.prog w = .ok (.value (.pointer (some ⟨w.heap.size, 0, none⟩))) (w.alloc (.cells zeroV.toArray 84)) := by
 unfold execOp
 rw [ho]
 kernel_rfl
section
variable {w : World} {a : Option Addr}
theorem Unv.more {V : World} (h : Unv w a) (hV : Below w.heap.size w V) : Unv V a := fun W hW => h W (hV.trans (hW.mono hV.size))
end

/-- the one page of awake's view -/
def awL : List Gm.Pl := Gm.setL Gm.noP 1 (5, 3)
def awS : List Int := saveS 10 Fr.zeros awL 64 4 7
end Go.Proofs.YteaincdeoajkeaaGreatDoor.Vw
end
section
/- hermitagelaw20: the walk of MmuZero, over what one that nobody made is to tell (ZeroC20: to be shown of the program that lands). -/
namespace Go.Proofs.YteaincdeoajkeaaGreatDoor.Mm
open Go.RowKit Go.Shelf Ut Oc Vw Wa
set_option maxRecDepth 100000
set_option linter.unusedVariables false
set_option maxHeartbeats 8000000

/-- one that nobody made (nil, or a variable of the type: cells zs), and what it tells; New over no view -/
structure ZeroC20 (Un : World → Value → Prop) (zs : List Value) : Prop where
 run : ∀ (w : World) (ρ : Operand → Value) (o : Oper), o.op = .alloc 80 → ∀ n, w.heap.size = n → (execOp ρ o).run Tryz.prog w = .ok (.value (.pointer (some ⟨n, 0, none⟩))) (w.alloc (.cells zs.toArray 80))
 made : ∀ w : World, Un (w.alloc (.cells zs.toArray 80)) (.pointer (some ⟨w.heap.size, 0, none⟩))
 nil : ∀ w, Un w (.pointer none)
 more : ∀ {W W' v}, Un W v → Below W.heap.size W W' → Un W' v
 newNil : ∀ (W : World), Calls Tryz.prog 22 #[.pointer none, .int .i64 1] W fun e w' => e = .returned (.tuple #[.pointer none, .int .i64 7]) ∧ Below W.heap.size W w'
 newZero : ∀ (W : World) (b : Nat), Blk W b 84 zeroV → Calls Tryz.prog 22 #[.pointer (some ⟨b, 0, none⟩), .int .i64 1] W fun e w' => e = .returned (.tuple #[.pointer none, .int .i64 7]) ∧ Below W.heap.size W w'
 find : ∀ {W v} (on us : Bool) (rt z k : Int), Un W v → 0 ≤ z → z < 4294967296 → Calls Tryz.prog 9 #[v, modeV on rt us, .int .u32 z, .int .i64 k] W fun e w' => e = .returned (.tuple #[hitX (0, 0, 0) false, .int .i64 7]) ∧ Below W.heap.size W w'
 load : ∀ {W v} (on us : Bool) (rt z wd k : Int), Un W v → 0 ≤ z → z < 4294967296 → Calls Tryz.prog 11 #[v, modeV on rt us, .int .u32 z, .int .i64 wd, .int .i64 k] W fun e w' => e = .returned (.tuple #[.int .u32 0, .int .i64 7]) ∧ Below W.heap.size W w'
 save : ∀ {W v} (on us : Bool) (rt z wd x : Int), Un W v → 0 ≤ z → z < 4294967296 → 0 ≤ x → x < 4294967296 → Calls Tryz.prog 18 #[v, modeV on rt us, .int .u32 z, .int .i64 wd, .int .u32 x] W fun e w' => e = .returned (.int .i64 7) ∧ Below W.heap.size W w'
 gone : ∀ {W v} (p : Int), Un W v → Calls Tryz.prog 23 #[v, .int .i64 p] W fun e w' => e = .returned (.int .i64 7) ∧ Below W.heap.size W w'
 flush : ∀ {W v}, Un W v → Calls Tryz.prog 24 #[v] W fun e w' => e = .returned (.int .i64 0) ∧ Below W.heap.size W w'
 kept : ∀ {W v}, Un W v → Calls Tryz.prog 14 #[v] W fun e w' => (∃ a c, e = .returned (.slice a 0 c)) ∧ Below W.heap.size W w'
 table : ∀ {W v} (p : Int), Un W v → Calls Tryz.prog 17 #[v, .int .i64 p] W fun e w' => e = .returned (.bool false) ∧ Below W.heap.size W w'
/-- the mode's block, the one that no call made -/
structure ZM (Un : World → Value → Prop) (w W : World) (on : Bool) (rt : Int) (us : Bool) : Prop where
 md : Blk W w.heap.size 30 [.bool on, .int .i64 rt, .bool us]
 un : Un W (.pointer (some ⟨w.heap.size + 1, 0, none⟩))
 b : Below w.heap.size w W
section
variable {Un : World → Value → Prop} {zs : List Value} (Z : ZeroC20 Un zs)
include Z
theorem ZM.more {w W W' : World} {on us : Bool} {rt : Int} (h : ZM Un w W on rt us) (hb : Below W.heap.size W W') : ZM Un w W' on rt us := ⟨h.md.more hb, Z.more h.un hb, h.b.trans (hb.mono h.b.size)⟩
theorem zero20_any (on us : Bool) (rt va wd kn x : Int) (z0 : 0 ≤ va) (z1 : va < 4294967296) (x0 : 0 ≤ x) (x1 : x < 4294967296) (W : World) : Calls Tryz.prog 6 #[.agg #[.bool on, .int .i64 rt, .bool us], .int .u32 va, .int .i64 wd, .int .i64 kn, .int .u32 x] W fun e w' => e = .returned (.bool true) ∧ Below W.heap.size W w' := by
 obtain ⟨V0, hV0⟩ : ∃ V0, V0 = W.alloc (.cells #[.bool on, .int .i64 rt, .bool us] 30) := ⟨_, rfl⟩
 have hs0 : V0.heap.size = W.heap.size + 1 := by rw [hV0]; simp
 obtain ⟨U, hU⟩ : ∃ U, U = V0.alloc (.cells zs.toArray 80) := ⟨_, rfl⟩
 have hb0 : Below W.heap.size W V0 := by rw [hV0]; exact (Below.refl _ _).alloc (Nat.le_refl _) _
 have hb1 : Below V0.heap.size V0 U := by rw [hU]; exact (Below.refl _ _).alloc (Nat.le_refl _) _
 have hk : Blk V0 W.heap.size 30 [.bool on, .int .i64 rt, .bool us] := by rw [hV0]; exact Blk.new W _ _
 have hun : Un U (.pointer (some ⟨W.heap.size + 1, 0, none⟩)) := by have := Z.made V0; rw [hs0] at this; rw [hU]; exact this
 have HQ : Hid (ZM Un W U on rt us) := Lib.hid ⟨hk.more hb1, hun, hb0.trans (hb1.mono hb0.size)⟩
 have HAL := Lib.hid (Z.run V0)
 have HV0 := Lib.hid hV0
 have HU := Lib.hid hU
 have HS0 := Lib.hid hs0
 have HZ := Lib.hid Z
 clear hV0 hs0 hU hb0 hb1 hk hun Z
 go_enter Tryz.func6, Tryz.ntmps6
 go_upto_region 2 with fail
 rw [← HV0.out]
 refine wp_region_lit ?_
 refine Great.wpList_allocTo rfl (some 12) rfl (.pointer (some ⟨W.heap.size + 1, 0, none⟩)) (.cells zs.toArray 80) (HAL.out _ _ rfl _ HS0.out) ?_
 simp only [Act.put, List.setIfInBounds_toArray, List.set_cons_succ, List.set_cons_zero]
 rw [← HU.out]
 clear HV0 HAL HU HS0
 have m0 := HQ.out.md.cell (j := 0) rfl
 have m1 := HQ.out.md.cell (j := 1) rfl
 have m2 := HQ.out.md.cell (j := 2) rfl
 have ml := HQ.out.md.lt
 go_wp2_with fail
 refine (HZ.out.find on us rt va kn (HZ.out.nil _) z0 z1).mono ?_
 rintro e w1 ⟨rfl, hb⟩
 have HQ1 := Lib.hid (HQ.out.more HZ.out hb)
 clear hb HQ m0 m1 m2 ml
 have hbh : Below w1.heap.size w1 (w1.alloc (.cells #[.int .i64 0, .int .i64 0, .int .i64 0, .bool false] 36)) := (Below.refl _ _).alloc (Nat.le_refl _) _
 have HQ2 := Lib.hid (HQ1.out.more HZ.out hbh)
 have HH2 : Hid (Blk (w1.alloc (.cells #[.int .i64 0, .int .i64 0, .int .i64 0, .bool false] 36)) w1.heap.size 36 [.int .i64 0, .int .i64 0, .int .i64 0, .bool false]) := Lib.hid (Blk.new w1 _ _)
 clear hbh HQ1
 dsimp only [hitX]
 go_upto_region 4 with fail
 generalize w1.alloc (.cells #[.int .i64 0, .int .i64 0, .int .i64 0, .bool false] 36) = w2 at HQ2 HH2 ⊢
 generalize w1.heap.size = hh at HH2 ⊢
 have m0 := HQ2.out.md.cell (j := 0) rfl
 have m1 := HQ2.out.md.cell (j := 1) rfl
 have m2 := HQ2.out.md.cell (j := 2) rfl
 have ml := HQ2.out.md.lt
 go_wp2_with fail
 refine (HZ.out.load on us rt va wd kn HQ2.out.un z0 z1).mono ?_
 rintro e w3 ⟨rfl, hb⟩
 have HQ3 := Lib.hid (HQ2.out.more HZ.out hb)
 have HH3 := Lib.hid (HH2.out.more hb)
 clear hb HQ2 HH2 m0 m1 m2 ml
 go_wp2_with fail
 refine (HZ.out.newNil w3).mono ?_
 rintro e w4 ⟨rfl, hb⟩
 have HQ4 := Lib.hid (HQ3.out.more HZ.out hb)
 have HH4 := Lib.hid (HH3.out.more hb)
 clear hb HQ3 HH3
 go_upto_region 6 with fail
 refine wp_region_lit ?_
 refine Great.wpList_allocTo rfl (some 19) rfl (.pointer (some ⟨w4.heap.size, 0, none⟩)) (.cells zeroV.toArray 84) (run_zeroV _ _ rfl w4) ?_
 simp only [Act.put, List.setIfInBounds_toArray, List.set_cons_succ, List.set_cons_zero]
 have hbv : Below w4.heap.size w4 (w4.alloc (.cells zeroV.toArray 84)) := (Below.refl _ _).alloc (Nat.le_refl _) _
 have HQ5 := Lib.hid (HQ4.out.more HZ.out hbv)
 have HH5 := Lib.hid (HH4.out.more hbv)
 have HNZ := Lib.hid (HZ.out.newZero _ w4.heap.size (Blk.new w4 84 zeroV))
 generalize w4.alloc (.cells zeroV.toArray 84) = w5 at HQ5 HH5 HNZ ⊢
 generalize w4.heap.size = zb at HNZ ⊢
 clear hbv HQ4 HH4
 go_wp2_with fail
 refine HNZ.out.mono ?_
 rintro e w6 ⟨rfl, hb⟩
 have HQ6 := Lib.hid (HQ5.out.more HZ.out hb)
 have HH6 := Lib.hid (HH5.out.more hb)
 clear hb HQ5 HH5 HNZ
 have h0 := HH6.out.cell (j := 0) rfl
 have h1 := HH6.out.cell (j := 1) rfl
 have h2 := HH6.out.cell (j := 2) rfl
 have h3 := HH6.out.cell (j := 3) rfl
 have hl := HH6.out.lt
 have m0 := HQ6.out.md.cell (j := 0) rfl
 have m1 := HQ6.out.md.cell (j := 1) rfl
 have m2 := HQ6.out.md.cell (j := 2) rfl
 have ml := HQ6.out.md.lt
 go_wp2_with fail
 refine (HZ.out.save on us rt va wd x HQ6.out.un z0 z1 x0 x1).mono ?_
 rintro e w7 ⟨rfl, hb⟩
 have HQ7 := Lib.hid (HQ6.out.more HZ.out hb)
 clear hb HQ6 m0 m1 m2 ml h0 h1 h2 h3 hl HH6
 have m0 := HQ7.out.md.cell (j := 0) rfl
 have m1 := HQ7.out.md.cell (j := 1) rfl
 have m2 := HQ7.out.md.cell (j := 2) rfl
 have ml := HQ7.out.md.lt
 go_wp2_with fail
 refine (HZ.out.save on us rt va wd x (HZ.out.nil w7) z0 z1 x0 x1).mono ?_
 rintro e w8 ⟨rfl, hb⟩
 have HQ8 := Lib.hid (HQ7.out.more HZ.out hb)
 clear hb HQ7 m0 m1 m2 ml
 have m0 := HQ8.out.md.cell (j := 0) rfl
 have m1 := HQ8.out.md.cell (j := 1) rfl
 have m2 := HQ8.out.md.cell (j := 2) rfl
 have ml := HQ8.out.md.lt
 go_wp2_with fail
 refine (HZ.out.gone 1 (HZ.out.nil w8)).mono ?_
 rintro e w9 ⟨rfl, hb⟩
 have HQ9 := Lib.hid (HQ8.out.more HZ.out hb)
 clear hb HQ8 m0 m1 m2 ml
 have m0 := HQ9.out.md.cell (j := 0) rfl
 have m1 := HQ9.out.md.cell (j := 1) rfl
 have m2 := HQ9.out.md.cell (j := 2) rfl
 have ml := HQ9.out.md.lt
 go_wp2_with fail
 refine (HZ.out.gone 1 HQ9.out.un).mono ?_
 rintro e w10 ⟨rfl, hb⟩
 have HQ10 := Lib.hid (HQ9.out.more HZ.out hb)
 clear hb HQ9 m0 m1 m2 ml
 have m0 := HQ10.out.md.cell (j := 0) rfl
 have m1 := HQ10.out.md.cell (j := 1) rfl
 have m2 := HQ10.out.md.cell (j := 2) rfl
 have ml := HQ10.out.md.lt
 go_wp2_with fail
 refine (HZ.out.flush (HZ.out.nil w10)).mono ?_
 rintro e w11 ⟨rfl, hb⟩
 have HQ11 := Lib.hid (HQ10.out.more HZ.out hb)
 clear hb HQ10 m0 m1 m2 ml
 have m0 := HQ11.out.md.cell (j := 0) rfl
 have m1 := HQ11.out.md.cell (j := 1) rfl
 have m2 := HQ11.out.md.cell (j := 2) rfl
 have ml := HQ11.out.md.lt
 go_wp2_with fail
 refine (HZ.out.flush HQ11.out.un).mono ?_
 rintro e w12 ⟨rfl, hb⟩
 have HQ12 := Lib.hid (HQ11.out.more HZ.out hb)
 clear hb HQ11 m0 m1 m2 ml
 have m0 := HQ12.out.md.cell (j := 0) rfl
 have m1 := HQ12.out.md.cell (j := 1) rfl
 have m2 := HQ12.out.md.cell (j := 2) rfl
 have ml := HQ12.out.md.lt
 go_wp2_with fail
 refine (HZ.out.kept (HZ.out.nil w12)).mono ?_
 rintro e w13 ⟨⟨b1, c1, rfl⟩, hb⟩
 have HQ13 := Lib.hid (HQ12.out.more HZ.out hb)
 clear hb HQ12 m0 m1 m2 ml
 have m0 := HQ13.out.md.cell (j := 0) rfl
 have m1 := HQ13.out.md.cell (j := 1) rfl
 have m2 := HQ13.out.md.cell (j := 2) rfl
 have ml := HQ13.out.md.lt
 go_wp2_with fail
 refine (HZ.out.kept HQ13.out.un).mono ?_
 rintro e w14 ⟨⟨b2, c2, rfl⟩, hb⟩
 have HQ14 := Lib.hid (HQ13.out.more HZ.out hb)
 clear hb HQ13 m0 m1 m2 ml
 have m0 := HQ14.out.md.cell (j := 0) rfl
 have m1 := HQ14.out.md.cell (j := 1) rfl
 have m2 := HQ14.out.md.cell (j := 2) rfl
 have ml := HQ14.out.md.lt
 go_wp2_with fail
 refine (HZ.out.table 1 (HZ.out.nil w14)).mono ?_
 rintro e w15 ⟨rfl, hb⟩
 have HQ15 := Lib.hid (HQ14.out.more HZ.out hb)
 clear hb HQ14 m0 m1 m2 ml
 have m0 := HQ15.out.md.cell (j := 0) rfl
 have m1 := HQ15.out.md.cell (j := 1) rfl
 have m2 := HQ15.out.md.cell (j := 2) rfl
 have ml := HQ15.out.md.lt
 go_wp2_with fail
 refine (HZ.out.table 1 HQ15.out.un).mono ?_
 rintro e w16 ⟨rfl, hb⟩
 have HQ16 := Lib.hid (HQ15.out.more HZ.out hb)
 clear hb HQ15 m0 m1 m2 ml
 have m0 := HQ16.out.md.cell (j := 0) rfl
 have m1 := HQ16.out.md.cell (j := 1) rfl
 have m2 := HQ16.out.md.cell (j := 2) rfl
 have ml := HQ16.out.md.lt
 clear m0 m1 m2 ml
 go_wp2
 go_ret
 exact ⟨rfl, HQ16.out.b⟩
end
end Go.Proofs.YteaincdeoajkeaaGreatDoor.Mm
end
section
/- Package mmu: what one that nobody made tells (ZeroC20). -/
namespace Go.Proofs.YteaincdeoajkeaaGreatDoor.Mm
open Go.RowKit Go.Shelf Ut Oc Vw Wa
set_option linter.unusedVariables false
set_option maxRecDepth 100000
set_option maxHeartbeats 4000000

/-- the cells of one that nobody made -/
def zs20 : List Value := .pointer none :: .pointer none :: .pointer none :: Gm.flatP Gm.noP
def Un20 (W : World) (v : Value) : Prop := v = .pointer none ∨ ∃ u, v = .pointer (some ⟨u, 0, none⟩) ∧ W.cell? ⟨u, 0, none⟩ = some (.pointer none) ∧ u < W.heap.size
theorem Un20.more {W W' : World} {v : Value} (h : Un20 W v) (hb : Below W.heap.size W W') : Un20 W' v :=
 h.imp_right fun ⟨u, h1, h2, h3⟩ => ⟨u, h1, by rw [← h2]; simp only [World.cell?]; rw [hb.block u h3], Nat.lt_of_lt_of_le h3 hb.size⟩
theorem Un20.made {W : World} {v : Value} (h : Un20 W v) : Calls Tryz.prog 36 #[v] W fun e w' => e = .returned (.bool false) ∧ W = w' := by
 rcases h with rfl | ⟨u, rfl, h1, h2⟩
 ·exact made_nil20 W
 ·exact made_no20 W u h1 h2
theorem unNew {W : World} {a : Option Addr} (h : Unv W a) (r : Int) : Calls Tryz.prog 22 #[.pointer a, .int .i64 r] W fun e w' => e = .returned (.tuple #[.pointer none, .int .i64 7]) ∧ Below W.heap.size W w' := by
 have HM := Lib.hid (map_un a W (h W (Below.refl _ _)))
 clear h
 go_enter Tryz.func22, Tryz.ntmps22
 go_wp2_with fail
 refine HM.out.mono ?_
 rintro e w1 ⟨rfl, rfl⟩
 go_wp2
 go_ret2
 exact ⟨rfl, Below.refl _ _⟩
theorem put1 {W : World} (w : World) (j : Nat) (v : Value) (h : Below W.heap.size W w) : Below W.heap.size W (w.setCell ⟨W.heap.size + 1, j, none⟩ v) := Below.setCell h (Nat.le_succ _) v
theorem unFind {W : World} {v : Value} (on us : Bool) (rt z k : Int) (h : Un20 W v) : Calls Tryz.prog 9 #[v, modeV on rt us, .int .u32 z, .int .i64 k] W fun e w' => e = .returned (.tuple #[hitX (0, 0, 0) false, .int .i64 7]) ∧ Below W.heap.size W w' := by
 obtain ⟨U, hU⟩ : ∃ U, U = (W.alloc (.cells #[.bool on, .int .i64 rt, .bool us] 30)).alloc (.cells #[.int .i64 0, .int .i64 0, .int .i64 0, .bool false] 36) := ⟨_, rfl⟩
 have hB : Below W.heap.size W U := by rw [hU]; exact ((Below.refl _ _).alloc (Nat.le_refl _) _).alloc (by simp) _
 have hh : Blk U (W.heap.size + 1) 36 [.int .i64 0, .int .i64 0, .int .i64 0, .bool false] := by
  have := Blk.new (W.alloc (.cells #[.bool on, .int .i64 rt, .bool us] 30)) 36 [.int .i64 0, .int .i64 0, .int .i64 0, .bool false]
  rw [World.size_alloc] at this
  rw [hU]
  exact this
 have HMD := Lib.hid (h.more hB).made
 have HU := Lib.hid hU
 have HPUT : Hid (∀ (v0 v1 v2 v3 : Value), Below W.heap.size W ((((U.setCell ⟨W.heap.size + 1, 0, none⟩ v0).setCell ⟨W.heap.size + 1, 1, none⟩ v1).setCell ⟨W.heap.size + 1, 2, none⟩ v2).setCell ⟨W.heap.size + 1, 3, none⟩ v3)) := Lib.hid fun v0 v1 v2 v3 =>
  put1 _ _ _ (put1 _ _ _ (put1 _ _ _ (put1 _ _ _ hB)))
 have r0 := hh.cell (j := 0) rfl
 have r1 := hh.cell (j := 1) rfl
 have r2 := hh.cell (j := 2) rfl
 have r3 := hh.cell (j := 3) rfl
 have f0 := hh.frozen 0
 have f1 := hh.frozen 1
 have f2 := hh.frozen 2
 have f3 := hh.frozen 3
 have rl := hh.lt
 clear hU hB hh h
 go_enter Tryz.func9, Tryz.ntmps9
 go_upto_region 1 with fail
 rw [← HU.out]
 clear HU
 go_wp2_with fail
 refine HMD.out.mono ?_
 rintro e w1 ⟨rfl, rfl⟩
 go_wp2
 exact bodyPost_ret (v := .tuple #[hitX (0, 0, 0) false, .int .i64 7]) (by simp [results, Tryz.results9, go_sem, r0, r1, r2, r3]) rfl ⟨rfl, HPUT.out _ _ _ _⟩
theorem unfind {W : World} {v : Value} (on us : Bool) (rt z wd k : Int) (h : Un20 W v) : Calls Tryz.prog 45 #[v, modeV on rt us, .int .u32 z, .int .i64 wd, .int .i64 k] W fun e w' => e = .returned (.tuple #[hitX (0, 0, 0) false, .int .i64 7]) ∧ Below W.heap.size W w' := by
 obtain ⟨U, hU⟩ : ∃ U, U = (W.alloc (.cells #[.bool on, .int .i64 rt, .bool us] 30)).alloc (.cells #[.int .i64 0, .int .i64 0, .int .i64 0, .bool false] 36) := ⟨_, rfl⟩
 have hB : Below W.heap.size W U := by rw [hU]; exact ((Below.refl _ _).alloc (Nat.le_refl _) _).alloc (by simp) _
 have hh : Blk U (W.heap.size + 1) 36 [.int .i64 0, .int .i64 0, .int .i64 0, .bool false] := by
  have := Blk.new (W.alloc (.cells #[.bool on, .int .i64 rt, .bool us] 30)) 36 [.int .i64 0, .int .i64 0, .int .i64 0, .bool false]
  rw [World.size_alloc] at this
  rw [hU]
  exact this
 have HMD := Lib.hid (h.more hB).made
 have HU := Lib.hid hU
 have HPUT : Hid (∀ (v0 v1 v2 v3 : Value), Below W.heap.size W ((((U.setCell ⟨W.heap.size + 1, 0, none⟩ v0).setCell ⟨W.heap.size + 1, 1, none⟩ v1).setCell ⟨W.heap.size + 1, 2, none⟩ v2).setCell ⟨W.heap.size + 1, 3, none⟩ v3)) := Lib.hid fun v0 v1 v2 v3 =>
  put1 _ _ _ (put1 _ _ _ (put1 _ _ _ (put1 _ _ _ hB)))
 have r0 := hh.cell (j := 0) rfl
 have r1 := hh.cell (j := 1) rfl
 have r2 := hh.cell (j := 2) rfl
 have r3 := hh.cell (j := 3) rfl
 have f0 := hh.frozen 0
 have f1 := hh.frozen 1
 have f2 := hh.frozen 2
 have f3 := hh.frozen 3
 have rl := hh.lt
 clear hU hB hh h
 go_enter Tryz.func45, Tryz.ntmps45
 go_upto_region 1 with fail
 rw [← HU.out]
 clear HU
 go_wp2_with fail
 refine HMD.out.mono ?_
 rintro e w1 ⟨rfl, rfl⟩
 go_wp2
 exact bodyPost_ret (v := .tuple #[hitX (0, 0, 0) false, .int .i64 7]) (by simp [results, Tryz.results45, go_sem, r0, r1, r2, r3]) rfl ⟨rfl, HPUT.out _ _ _ _⟩
theorem unLoad {W : World} {v : Value} (on us : Bool) (rt z wd k : Int) (h : Un20 W v) : Calls Tryz.prog 11 #[v, modeV on rt us, .int .u32 z, .int .i64 wd, .int .i64 k] W fun e w' => e = .returned (.tuple #[.int .u32 0, .int .i64 7]) ∧ Below W.heap.size W w' := by
 obtain ⟨U, hU⟩ : ∃ U, U = W.alloc (.cells #[.bool on, .int .i64 rt, .bool us] 30) := ⟨_, rfl⟩
 have hB : Below W.heap.size W U := by rw [hU]; exact (Below.refl _ _).alloc (Nat.le_refl _) _
 have hm : Blk U W.heap.size 30 [.bool on, .int .i64 rt, .bool us] := by rw [hU]; exact Blk.new W _ [.bool on, .int .i64 rt, .bool us]
 have HFD := Lib.hid (unfind on us rt z wd k (h.more hB))
 have HU := Lib.hid hU
 have HB := Lib.hid hB
 have m0 := hm.cell (j := 0) rfl
 have m1 := hm.cell (j := 1) rfl
 have m2 := hm.cell (j := 2) rfl
 have ml := hm.lt
 clear hU hB hm h
 go_enter Tryz.func11, Tryz.ntmps11
 go_upto_region 1 with fail
 rw [← HU.out]
 clear HU
 go_wp2_with fail
 refine HFD.out.mono ?_
 rintro e w2 ⟨rfl, hb2⟩
 have HB2 : Hid (Below W.heap.size W (w2.alloc (.cells #[.int .i64 0, .int .i64 0, .int .i64 0, .bool false] 36))) := Lib.hid ((HB.out.trans (hb2.mono HB.out.size)).alloc (Nat.le_trans HB.out.size hb2.size) _)
 clear hb2 HB m0 m1 m2 ml HFD
 dsimp only [hitX]
 go_wp2
 go_ret2
 exact ⟨rfl, HB2.out⟩
theorem unSave {W : World} {v : Value} (on us : Bool) (rt z wd x : Int) (h : Un20 W v) : Calls Tryz.prog 18 #[v, modeV on rt us, .int .u32 z, .int .i64 wd, .int .u32 x] W fun e w' => e = .returned (.int .i64 7) ∧ Below W.heap.size W w' := by
 obtain ⟨U, hU⟩ : ∃ U, U = W.alloc (.cells #[.bool on, .int .i64 rt, .bool us] 30) := ⟨_, rfl⟩
 have hB : Below W.heap.size W U := by rw [hU]; exact (Below.refl _ _).alloc (Nat.le_refl _) _
 have hm : Blk U W.heap.size 30 [.bool on, .int .i64 rt, .bool us] := by rw [hU]; exact Blk.new W _ [.bool on, .int .i64 rt, .bool us]
 have HFD := Lib.hid (unfind on us rt z wd 2 (h.more hB))
 have HU := Lib.hid hU
 have HB := Lib.hid hB
 have m0 := hm.cell (j := 0) rfl
 have m1 := hm.cell (j := 1) rfl
 have m2 := hm.cell (j := 2) rfl
 have ml := hm.lt
 clear hU hB hm h
 go_enter Tryz.func18, Tryz.ntmps18
 go_upto_region 1 with fail
 rw [← HU.out]
 clear HU
 go_wp2_with fail
 refine HFD.out.mono ?_
 rintro e w2 ⟨rfl, hb2⟩
 have HB2 : Hid (Below W.heap.size W (w2.alloc (.cells #[.int .i64 0, .int .i64 0, .int .i64 0, .bool false] 36))) := Lib.hid ((HB.out.trans (hb2.mono HB.out.size)).alloc (Nat.le_trans HB.out.size hb2.size) _)
 clear hb2 HB m0 m1 m2 ml HFD
 dsimp only [hitX]
 go_wp2
 go_ret
 exact ⟨rfl, HB2.out⟩
theorem unGone {W : World} {v : Value} (p : Int) (h : Un20 W v) : Calls Tryz.prog 23 #[v, .int .i64 p] W fun e w' => e = .returned (.int .i64 7) ∧ Below W.heap.size W w' := by
 have HM := Lib.hid h.made
 clear h
 go_enter Tryz.func23, Tryz.ntmps23
 go_wp2_with fail
 refine HM.out.mono ?_
 rintro e w1 ⟨rfl, rfl⟩
 go_wp2
 go_ret
 exact ⟨rfl, Below.refl _ _⟩
theorem unFlush {W : World} {v : Value} (h : Un20 W v) : Calls Tryz.prog 24 #[v] W fun e w' => e = .returned (.int .i64 0) ∧ Below W.heap.size W w' := by
 have HM := Lib.hid h.made
 clear h
 go_enter Tryz.func24, Tryz.ntmps24
 go_wp2_with fail
 refine HM.out.mono ?_
 rintro e w1 ⟨rfl, rfl⟩
 go_wp2
 go_ret
 exact ⟨rfl, Below.refl _ _⟩
theorem unTable {W : World} {v : Value} (p : Int) (h : Un20 W v) : Calls Tryz.prog 17 #[v, .int .i64 p] W fun e w' => e = .returned (.bool false) ∧ Below W.heap.size W w' := by
 have HM := Lib.hid h.made
 clear h
 go_enter Tryz.func17, Tryz.ntmps17
 go_wp2_with fail
 refine HM.out.mono ?_
 rintro e w1 ⟨rfl, rfl⟩
 go_wp2
 go_ret
 exact ⟨rfl, Below.refl _ _⟩
theorem unKept {W : World} {v : Value} (h : Un20 W v) : Calls Tryz.prog 14 #[v] W fun e w' => (∃ a c, e = .returned (.slice a 0 c)) ∧ Below W.heap.size W w' := by
 have HM := Lib.hid h.made
 clear h
 go_enter Tryz.func14, Tryz.ntmps14
 go_wp2_with fail
 refine HM.out.mono ?_
 rintro e w1 ⟨rfl, rfl⟩
 go_wp2
 go_ret
 exact ⟨⟨_, _, rfl⟩, Below.refl _ _⟩
theorem alloc_mmu (w : World) (ρ : Operand → Value) (o : Oper) (ho : o.op = .alloc 80) (n : Nat) (hn : w.heap.size = n) : (execOp ρ o).run Tryz.prog w = .ok (.value (.pointer (some ⟨n, 0, none⟩))) (w.alloc (.cells zs20.toArray 80)) := by
 subst hn
 unfold execOp
 rw [ho]
 kernel_rfl
theorem zero20 : ZeroC20 Un20 zs20 where
 run w ρ o ho n hn := alloc_mmu w ρ o ho n hn
 made w := .inr ⟨_, rfl, (Blk.new w 80 zs20).cell rfl, (Blk.new w 80 zs20).lt⟩
 nil w := .inl rfl
 more h hb := h.more hb
 newNil W := unNew (unv_nil W) 1
 newZero W b h := unNew (unv_blk h) 1
 find on us rt z k h _ _ := unFind on us rt z k h
 load on us rt z wd k h _ _ := unLoad on us rt z wd k h
 save on us rt z wd x h _ _ _ _ := unSave on us rt z wd x h
 gone p h := unGone p h
 flush h := unFlush h
 kept h := unKept h
 table p h := unTable p h
end Go.Proofs.YteaincdeoajkeaaGreatDoor.Mm
end
