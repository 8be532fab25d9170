/- The walk of hermitagelaw16.ViewZero. -/
import Derived.Test.YtlgohgjnocoadaaYo
namespace Go.Proofs.Ytlgohgjnocoadaa.Vw
open Go.RowKit Go.Shelf Ut Oc
set_option maxRecDepth 100000
set_option linter.unusedVariables false
set_option maxHeartbeats 8000000

theorem zero_any (z q k x : Int) (ba : Option Addr) (K bc : Nat) (hz0 : 0 ≤ z) (hz1 : z < 4294967296) (hK : K ≤ 9223372036854775807) (w : World) :
    Calls Try.prog 6 #[.int .u32 z, .int .i64 q, .int .i64 k, .int .u32 x, .slice ba K bc] w fun e w' => e = .returned (.bool true) ∧ Below w.heap.size w w' := by
  have HRUN : Hid (∀ (ρ : Operand → Value) (o : Oper), o.op = .alloc 60 → (execOp ρ o).run Try.prog w = .ok (.value (.pointer (some ⟨w.heap.size, 0, none⟩))) (w.alloc (.cells zeroV.toArray 60))) := Lib.hid fun ρ o ho => run_zeroV ρ o ho w
  have HB := Lib.hid ((Below.refl w.heap.size w).alloc (Nat.le_refl _) (.cells zeroV.toArray 60))
  have HN : Hid (Blk (w.alloc (.cells zeroV.toArray 60)) w.heap.size 60 zeroV) := Lib.hid (Blk.new w _ _)
  go_enter Try.func6, Try.ntmps6
  go_upto_region 2 with fail
  refine wp_region_lit ?_
  refine Great.wpList_allocTo rfl (some 12) rfl (.pointer (some ⟨w.heap.size, 0, none⟩)) (.cells zeroV.toArray 60) (HRUN.out _ _ rfl) ?_
  generalize w.alloc (.cells zeroV.toArray 60) = U at HB HN ⊢
  have HUV : Hid (Unv U (some ⟨w.heap.size, 0, none⟩)) := Lib.hid (unv_blk HN.out)
  have HUN : Hid (Unv U none) := Lib.hid (unv_nil U)
  clear HRUN HN
  generalize w.heap.size = ub at HUV ⊢
  simp only [Act.put, List.setIfInBounds_toArray, List.set_cons_succ, List.set_cons_zero]
  go_wp2_with fail
  refine (find_un HUN.out z q k).mono ?_
  rintro e w1 ⟨rfl, hb⟩
  have HB1 : Hid (Below U.heap.size U (w1.alloc (.cells #[.int .i64 0, .int .i64 0, .int .i64 0, .bool false] 38))) := Lib.hid (hb.alloc hb.size _)
  clear hb
  unfold hitV
  go_wp2_with fail
  generalize w1.alloc (.cells #[.int .i64 0, .int .i64 0, .int .i64 0, .bool false] 38) = V1 at HB1 ⊢
  generalize w1.heap.size = hbk
  refine (load_un (HUV.out.more HB1.out) z q).mono ?_
  rintro e w2 ⟨rfl, hb⟩
  have HB2 := Lib.hid (HB1.out.trans (hb.mono HB1.out.size))
  clear hb HB1
  go_wp2_with fail
  refine (readUn (HUN.out.more HB2.out) z K).mono ?_
  rintro e w3 ⟨rfl, hb⟩
  have HB3 := Lib.hid (HB2.out.trans (hb.mono HB2.out.size))
  clear hb HB2
  go_wp2_with fail
  refine (Fr.new_ok 1 w3 (by omega)).mono ?_
  rintro e w4 ⟨rfl, hs, hb⟩
  have HS4 := Lib.hid hs
  have HB4 := Lib.hid (HB3.out.trans (hb.mono HB3.out.size))
  clear hb hs HB3
  generalize w3.heap.size = sb at HS4 ⊢
  go_wp2_with fail
  refine (Gm.new_any w4).mono ?_
  rintro e w5 ⟨rfl, _, hb⟩
  have HS5 := Lib.hid (HS4.out.below hb HS4.out.lt)
  have HB5 := Lib.hid (HB4.out.trans (hb.mono HB4.out.size))
  clear hb HB4 HS4
  go_wp2_with fail
  refine (new_nil _ w5).mono ?_
  rintro e w6 ⟨rfl, rfl⟩
  go_wp2_with fail
  refine (new_unmade sb 1 none Fr.zeros w5 HS5.out (by omega) (Gm.unmade_nil w5 w5 (Below.refl _ _))).mono ?_
  rintro e w6 ⟨rfl, rfl⟩
  have HRU : Hid (∀ (ρ : Operand → Value) (o : Oper), o.op = .alloc 69 → (execOp ρ o).run Try.prog w5 = .ok (.value (.pointer (some ⟨w5.heap.size, 0, none⟩))) (w5.alloc (.cells Gm.unCells.toArray 69))) := Lib.hid fun ρ o ho => Gm.run_un ρ o ho w5
  go_upto_region 9 with fail
  refine wp_region_lit ?_
  refine Great.wpList_allocTo rfl (some 25) rfl (.pointer (some ⟨w5.heap.size, 0, none⟩)) (.cells Gm.unCells.toArray 69) (HRU.out _ _ rfl) ?_
  have hA := (Below.refl w5.heap.size w5).alloc (Nat.le_refl _) (.cells Gm.unCells.toArray 69)
  have HM : Hid (Blk (w5.alloc (.cells Gm.unCells.toArray 69)) w5.heap.size 69 Gm.unCells) := Lib.hid (Blk.new w5 _ _)
  have HS7 := Lib.hid (HS5.out.below hA HS5.out.lt)
  have HB7 := Lib.hid (HB5.out.trans (hA.mono HB5.out.size))
  generalize w5.alloc (.cells Gm.unCells.toArray 69) = w7 at HM HS7 HB7 ⊢
  generalize w5.heap.size = mb at HM ⊢
  clear hA HRU HS5 HB5
  simp only [Act.put, List.setIfInBounds_toArray, List.set_cons_succ, List.set_cons_zero]
  go_wp2_with fail
  refine (new_unmade sb 1 _ Fr.zeros w7 HS7.out (by omega) (Gm.unmade_blk HM.out w7 (Below.refl _ _))).mono ?_
  rintro e w8 ⟨rfl, rfl⟩
  go_wp2_with fail
  refine (save_un (HUV.out.more HB7.out) z q x).mono ?_
  rintro e w8 ⟨rfl, hb⟩
  have HB8 := Lib.hid (HB7.out.trans (hb.mono HB7.out.size))
  clear hb HB7 HS7 HM
  go_wp2_with fail
  refine (own_un none z 0 w8 (HUN.out.more HB8.out)).mono ?_
  rintro e w9 ⟨rfl, hb⟩
  have HB9 := Lib.hid (HB8.out.trans (hb.mono HB8.out.size))
  clear hb HB8
  go_wp2_with fail
  refine (writeUn (HUV.out.more HB9.out) z ba K bc).mono ?_
  rintro e w10 ⟨rfl, hb⟩
  have HB10 := Lib.hid (HB9.out.trans (hb.mono HB9.out.size))
  clear hb HB9
  go_wp2_with fail
  refine (dirty_un none w10 (HUN.out w10 HB10.out)).mono ?_
  rintro e w11 ⟨rfl, rfl⟩
  go_wp2_with fail
  refine (map_un none w10 (HUN.out w10 HB10.out)).mono ?_
  rintro e w11 ⟨rfl, rfl⟩
  go_wp2_with fail
  refine (store_un _ w10 (HUV.out w10 HB10.out)).mono ?_
  rintro e w11 ⟨rfl, rfl⟩
  have HBF := Lib.hid (HB.out.trans (HB10.out.mono HB.out.size))
  go_wp2
  go_ret
  exact ⟨rfl, HBF.out⟩
end Go.Proofs.Ytlgohgjnocoadaa.Vw
