/- The walk of hermitagelaw13.CoreZero. -/
import Derived.Test.YtniaclhmfmkikaaDoorVn
namespace Go.Proofs.YtniaclhmfmkikaaDoor.Ex
open Go.RowKit Ut
set_option maxRecDepth 100000
set_option linter.unusedVariables false
set_option maxHeartbeats 4000000

/-- the cells of files that no call made -/
def unR : List Value := .bool false :: .int .u32 0 :: Rg.wordsV Rg.zer
def unC : List Value := .bool false :: .int .i64 0 :: Cs.wordsV Cs.zer
theorem run_unR (ρ : Operand → Value) (o : Oper) (ho : o.op = .alloc 34) (w : World) : (execOp ρ o).run Tryd.prog w = .ok (.value (.pointer (some ⟨w.heap.size, 0, none⟩))) (w.alloc (.cells unR.toArray 34)) := by
  unfold execOp
  rw [ho]
  kernel_rfl
theorem run_unC (ρ : Operand → Value) (o : Oper) (ho : o.op = .alloc 37) (w : World) : (execOp ρ o).run Tryd.prog w = .ok (.value (.pointer (some ⟨w.heap.size, 0, none⟩))) (w.alloc (.cells unC.toArray 37)) := by
  unfold execOp
  rw [ho]
  kernel_rfl
theorem eff_putZ (w : World) (E : Eff) : Below w.heap.size w ((w.alloc (.cells zeroE.cs.toArray 39)).setRow w.heap.size E.cs.toArray) := below_setRow (eff_below w) (Nat.le_refl _) _

theorem zero13_any (o d a b m : Int) (w : World) :
    Calls Tryd.prog 3 #[Is.insV o d a b m] w fun e w' => e = .returned (.bool true) ∧ Below w.heap.size w w' := by
  obtain ⟨U, hU⟩ : ∃ U, U = Is.insW o d a b m w := ⟨_, rfl⟩
  have HU := Lib.hid hU
  have HI : Hid (Is.InsAt U w.heap.size o d a b m) := Lib.hid (hU ▸ Is.ins_at o d a b m w)
  have HB0 : Hid (Below w.heap.size w U) := Lib.hid (hU ▸ Is.ins_below o d a b m w)
  clear hU
  go_enter Tryd.func3, Tryd.ntmps3
  go_wp2_with fail
  rw [show w.alloc (.cells #[.int .i64 o, .int .i64 d, .int .i64 a, .int .i64 b, .int .i64 m] 23) = U from HU.out.symm]
  refine (Rg.new_any U).mono ?_
  rintro e w1 ⟨rfl, hF, hb⟩
  have HF1 := Lib.hid hF
  have HI1 := Lib.hid (HI.out.more hb)
  have HB1 := Lib.hid (HB0.out.trans (hb.mono HB0.out.size))
  clear hF hb HI HB0 HU
  generalize U.heap.size = rb at HF1 ⊢
  go_wp2_with fail
  refine (Cs.new_yes 0 w1 (by decide)).mono ?_
  rintro e w2 ⟨rfl, hC, hb⟩
  have HF2 := Lib.hid (HF1.out.below hb HF1.out.1.lt)
  have HC2 := Lib.hid hC
  have HI2 := Lib.hid (HI1.out.more hb)
  have HB2 := Lib.hid (HB1.out.trans (hb.mono HB1.out.size))
  clear hC hb HF1 HI1 HB1
  generalize w1.heap.size = cb at HC2 ⊢
  go_upto_region 3 with fail
  refine wp_region_lit ?_
  refine Great.wpList_allocTo rfl (some 6) rfl (.pointer (some ⟨w2.heap.size, 0, none⟩)) (.cells unR.toArray 34) (run_unR _ _ rfl w2) ?_
  have hb := (Below.refl w2.heap.size w2).alloc (Nat.le_refl _) (.cells unR.toArray 34)
  have HS3 : Hid (Blk (w2.alloc (.cells unR.toArray 34)) w2.heap.size 34 unR) := Lib.hid (Blk.new w2 _ _)
  have HF3 := Lib.hid (HF2.out.below hb HF2.out.1.lt)
  have HC3 := Lib.hid (HC2.out.below hb HC2.out.1.lt)
  have HI3 := Lib.hid (HI2.out.more hb)
  have HB3 := Lib.hid (HB2.out.trans (hb.mono HB2.out.size))
  clear hb HF2 HC2 HI2 HB2
  generalize w2.alloc (.cells unR.toArray 34) = w3 at HS3 HF3 HC3 HI3 HB3 ⊢
  generalize w2.heap.size = sb at HS3 ⊢
  go_upto_region 4 with fail
  refine wp_region_lit ?_
  refine Great.wpList_allocTo rfl (some 7) rfl (.pointer (some ⟨w3.heap.size, 0, none⟩)) (.cells unC.toArray 37) (run_unC _ _ rfl w3) ?_
  have hb := (Below.refl w3.heap.size w3).alloc (Nat.le_refl _) (.cells unC.toArray 37)
  have HD4 : Hid (Blk (w3.alloc (.cells unC.toArray 37)) w3.heap.size 37 unC) := Lib.hid (Blk.new w3 _ _)
  have HS4 := Lib.hid (HS3.out.below hb HS3.out.lt)
  have HF4 := Lib.hid (HF3.out.below hb HF3.out.1.lt)
  have HC4 := Lib.hid (HC3.out.below hb HC3.out.1.lt)
  have HI4 := Lib.hid (HI3.out.more hb)
  have HB4 := Lib.hid (HB3.out.trans (hb.mono HB3.out.size))
  clear hb HS3 HF3 HC3 HI3 HB3
  generalize w3.alloc (.cells unC.toArray 37) = W at HD4 HS4 HF4 HC4 HI4 HB4 ⊢
  generalize w3.heap.size = db at HD4 ⊢
  have HR := Lib.hid (Below.refl W.heap.size W)
  -- the four ways to lack something
  have M1 : Hid (∀ V, Below W.heap.size W V → Calls Tryd.prog 8 #[.pointer none, .pointer (some ⟨cb, 0, none⟩)] V fun e w' => e = .returned (.bool false) ∧ Below V.heap.size V w') := Lib.hid fun V hV =>
    areMade_no1 none _ V (Rg.made_nil V) (Lib.hid ⟨_, _, Cs.read_any cb 0 0 0 _ V (HC4.out.below hV HC4.out.1.lt)⟩)
  have M2 : Hid (∀ V, Below W.heap.size W V → Calls Tryd.prog 8 #[.pointer (some ⟨rb, 0, none⟩), .pointer none] V fun e w' => e = .returned (.bool false) ∧ Below V.heap.size V w') := Lib.hid fun V hV =>
    areMade_no2 rb none 0 _ V (HF4.out.below hV HF4.out.1.lt) (Cs.made_nil V)
  have M3 : Hid (∀ V, Below W.heap.size W V → Calls Tryd.prog 8 #[.pointer (some ⟨sb, 0, none⟩), .pointer (some ⟨cb, 0, none⟩)] V fun e w' => e = .returned (.bool false) ∧ Below V.heap.size V w') := Lib.hid fun V hV =>
    areMade_no1 _ _ V (Rg.made_is sb false V ((HS4.out.below hV HS4.out.lt).cell rfl)) (Lib.hid ⟨_, _, Cs.read_any cb 0 0 0 _ V (HC4.out.below hV HC4.out.1.lt)⟩)
  have M4 : Hid (∀ V, Below W.heap.size W V → Calls Tryd.prog 8 #[.pointer (some ⟨rb, 0, none⟩), .pointer (some ⟨db, 0, none⟩)] V fun e w' => e = .returned (.bool false) ∧ Below V.heap.size V w') := Lib.hid fun V hV =>
    areMade_no2 rb _ 0 _ V (HF4.out.below hV HF4.out.1.lt) (Cs.made_is db false V ((HD4.out.below hV HD4.out.lt).cell rfl))
  have X1 : Hid (∀ V, Below W.heap.size W V → Calls Tryd.prog 6 #[Is.insV o d a b m, .pointer none, .pointer (some ⟨cb, 0, none⟩), .int .i64 0] V fun e w' => e = .returned (.tuple #[zeroE.val, .int .i64 7]) ∧ Below W.heap.size W w') := Lib.hid fun V hV =>
    Is.keep hV (exec_zero none _ 0 o d a b m V (Lib.hid fun V2 h2 => M1.out V2 (hV.trans (h2.mono hV.size))))
  have X2 : Hid (∀ V, Below W.heap.size W V → Calls Tryd.prog 6 #[Is.insV o d a b m, .pointer (some ⟨rb, 0, none⟩), .pointer none, .int .i64 0] V fun e w' => e = .returned (.tuple #[zeroE.val, .int .i64 7]) ∧ Below W.heap.size W w') := Lib.hid fun V hV =>
    Is.keep hV (exec_zero _ none 0 o d a b m V (Lib.hid fun V2 h2 => M2.out V2 (hV.trans (h2.mono hV.size))))
  have X3 : Hid (∀ V, Below W.heap.size W V → Calls Tryd.prog 6 #[Is.insV o d a b m, .pointer (some ⟨sb, 0, none⟩), .pointer (some ⟨cb, 0, none⟩), .int .i64 0] V fun e w' => e = .returned (.tuple #[zeroE.val, .int .i64 7]) ∧ Below W.heap.size W w') := Lib.hid fun V hV =>
    Is.keep hV (exec_zero _ _ 0 o d a b m V (Lib.hid fun V2 h2 => M3.out V2 (hV.trans (h2.mono hV.size))))
  have X4 : Hid (∀ V, Below W.heap.size W V → Calls Tryd.prog 6 #[Is.insV o d a b m, .pointer (some ⟨rb, 0, none⟩), .pointer (some ⟨db, 0, none⟩), .int .i64 0] V fun e w' => e = .returned (.tuple #[zeroE.val, .int .i64 7]) ∧ Below W.heap.size W w') := Lib.hid fun V hV =>
    Is.keep hV (exec_zero _ _ 0 o d a b m V (Lib.hid fun V2 h2 => M4.out V2 (hV.trans (h2.mono hV.size))))
  clear M1 M2 M3 M4 HF4 HC4 HS4 HD4
  obtain ⟨r0, r1, r2, r3, r4⟩ := HI4.out.cells
  have hlt := HI4.out.lt
  go_wp2_with fail
  clear r0 r1 r2 r3 r4 hlt
  refine (X1.out W HR.out).mono ?_
  rintro e vw5 ⟨rfl, hb⟩
  have HQ := Lib.hid hb
  clear hb
  go_simp
  rename_i hK
  refine hK _ _ ?_
  clear hK
  refine Great.wpList_readTo rfl _ rfl (.tuple #[zeroE.val, .int .i64 7]) (by kernel_rfl) ?_
  refine Great.wpList_readTo rfl _ rfl zeroE.val (by kernel_rfl) ?_
  refine Great.wpList_readTo rfl _ rfl (.int .i64 7) (by kernel_rfl) ?_
  refine Great.wpList_allocTo rfl (some 8) rfl (.pointer (some ⟨vw5.heap.size, 0, none⟩)) (.cells zeroE.cs.toArray 39) ((eff_run vw5).out _ _ rfl) ?_
  refine wpList_store_rowTo rfl 39 _ _ rfl rfl vw5.heap.size zeroE.cs.toArray (by kernel_rfl) (by kernel_rfl) 39 zeroE.cs.toArray (eff_blk vw5) (size_eff _) rfl (one_eff _) ?_
  have HP5 := Lib.hid (HQ.out.trans ((eff_putZ vw5 zeroE).mono HQ.out.size))
  clear HQ HR
  generalize (vw5.alloc (.cells zeroE.cs.toArray 39)).setRow vw5.heap.size zeroE.cs.toArray = w5 at HP5 ⊢
  generalize vw5.heap.size = gw5
  obtain ⟨r0, r1, r2, r3, r4⟩ := (HI4.out.more HP5.out).cells
  have hlt := (HI4.out.more HP5.out).lt
  go_wp2_with fail
  clear r0 r1 r2 r3 r4 hlt
  refine (X2.out _ HP5.out).mono ?_
  rintro e vw6 ⟨rfl, hb⟩
  have HQ := Lib.hid hb
  clear hb
  go_simp
  rename_i hK
  refine hK _ _ ?_
  clear hK
  refine Great.wpList_readTo rfl _ rfl (.tuple #[zeroE.val, .int .i64 7]) (by kernel_rfl) ?_
  refine Great.wpList_readTo rfl _ rfl zeroE.val (by kernel_rfl) ?_
  refine Great.wpList_readTo rfl _ rfl (.int .i64 7) (by kernel_rfl) ?_
  refine Great.wpList_allocTo rfl (some 10) rfl (.pointer (some ⟨vw6.heap.size, 0, none⟩)) (.cells zeroE.cs.toArray 39) ((eff_run vw6).out _ _ rfl) ?_
  refine wpList_store_rowTo rfl 39 _ _ rfl rfl vw6.heap.size zeroE.cs.toArray (by kernel_rfl) (by kernel_rfl) 39 zeroE.cs.toArray (eff_blk vw6) (size_eff _) rfl (one_eff _) ?_
  have HP6 := Lib.hid (HQ.out.trans ((eff_putZ vw6 zeroE).mono HQ.out.size))
  clear HQ HP5
  generalize (vw6.alloc (.cells zeroE.cs.toArray 39)).setRow vw6.heap.size zeroE.cs.toArray = w6 at HP6 ⊢
  generalize vw6.heap.size = gw6
  obtain ⟨r0, r1, r2, r3, r4⟩ := (HI4.out.more HP6.out).cells
  have hlt := (HI4.out.more HP6.out).lt
  go_wp2_with fail
  clear r0 r1 r2 r3 r4 hlt
  refine (X3.out _ HP6.out).mono ?_
  rintro e vw7 ⟨rfl, hb⟩
  have HQ := Lib.hid hb
  clear hb
  go_simp
  rename_i hK
  refine hK _ _ ?_
  clear hK
  refine Great.wpList_readTo rfl _ rfl (.tuple #[zeroE.val, .int .i64 7]) (by kernel_rfl) ?_
  refine Great.wpList_readTo rfl _ rfl zeroE.val (by kernel_rfl) ?_
  refine Great.wpList_readTo rfl _ rfl (.int .i64 7) (by kernel_rfl) ?_
  refine Great.wpList_allocTo rfl (some 12) rfl (.pointer (some ⟨vw7.heap.size, 0, none⟩)) (.cells zeroE.cs.toArray 39) ((eff_run vw7).out _ _ rfl) ?_
  refine wpList_store_rowTo rfl 39 _ _ rfl rfl vw7.heap.size zeroE.cs.toArray (by kernel_rfl) (by kernel_rfl) 39 zeroE.cs.toArray (eff_blk vw7) (size_eff _) rfl (one_eff _) ?_
  have HP7 := Lib.hid (HQ.out.trans ((eff_putZ vw7 zeroE).mono HQ.out.size))
  clear HQ HP6
  generalize (vw7.alloc (.cells zeroE.cs.toArray 39)).setRow vw7.heap.size zeroE.cs.toArray = w7 at HP7 ⊢
  generalize vw7.heap.size = gw7
  obtain ⟨r0, r1, r2, r3, r4⟩ := (HI4.out.more HP7.out).cells
  have hlt := (HI4.out.more HP7.out).lt
  go_wp2_with fail
  clear r0 r1 r2 r3 r4 hlt
  refine (X4.out _ HP7.out).mono ?_
  rintro e vw8 ⟨rfl, hb⟩
  have HQ := Lib.hid hb
  clear hb
  go_simp
  rename_i hK
  refine hK _ _ ?_
  clear hK
  refine Great.wpList_readTo rfl _ rfl (.tuple #[zeroE.val, .int .i64 7]) (by kernel_rfl) ?_
  refine Great.wpList_readTo rfl _ rfl zeroE.val (by kernel_rfl) ?_
  refine Great.wpList_readTo rfl _ rfl (.int .i64 7) (by kernel_rfl) ?_
  refine Great.wpList_allocTo rfl (some 14) rfl (.pointer (some ⟨vw8.heap.size, 0, none⟩)) (.cells zeroE.cs.toArray 39) ((eff_run vw8).out _ _ rfl) ?_
  refine wpList_store_rowTo rfl 39 _ _ rfl rfl vw8.heap.size zeroE.cs.toArray (by kernel_rfl) (by kernel_rfl) 39 zeroE.cs.toArray (eff_blk vw8) (size_eff _) rfl (one_eff _) ?_
  have HP8 := Lib.hid (HQ.out.trans ((eff_putZ vw8 zeroE).mono HQ.out.size))
  clear HQ HP7
  generalize (vw8.alloc (.cells zeroE.cs.toArray 39)).setRow vw8.heap.size zeroE.cs.toArray = w8 at HP8 ⊢
  generalize vw8.heap.size = gw8
  go_wp2
  go_ret
  exact ⟨rfl, HB4.out.trans (HP8.out.mono HB4.out.size)⟩
end Go.Proofs.YtniaclhmfmkikaaDoor.Ex
