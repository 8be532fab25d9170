/- Several texts in one: Ye Yh Yi Yj -/
import Derived.Test.YteaincdeoajkeaaGreatDoorZ08
import Derived.Deep.CutBlock
import Derived.Test.YteaincdeoajkeaaGreatDoorZ09
import Derived.Test.YteaincdeoajkeaaGreatDoorZ10
import Derived.RangeFuncNested
import Derived.RangeFuncBound
import Derived.RangeFuncCalls
import Derived.RangeFuncLeaves
import Derived.Shelf.Abstract
import Derived.Shelf.RegionOpen
import Derived.WalkKit
import Derived.OwnWalkIn
import Derived.TacticsInMore
import Derived.LoopNIn
import Derived.LoopIn
section
/- Package view: Dirty, Map, Store, of the program; the document's Dirty. -/
namespace Go.Proofs.YteaincdeoajkeaaGreatDoor.Vw
open Go.RowKit Ut Oc
set_option maxRecDepth 100000
set_option linter.unusedVariables false
set_option maxHeartbeats 4000000

/-- the pages below k that were written, rising -/
def dirtL (D : List Bool) (k : Nat) : List Int := ((List.range k).filter fun i => D.getD i false).map fun i : Nat => (i : Int)
theorem dirtL_succ (D : List Bool) (k : Nat) : dirtL D (k + 1) = dirtL D k ++ if D.getD k false = true then [(k : Int)] else [] := by
  unfold dirtL
  rw [List.range_succ, List.filter_append, List.map_append]
  by_cases h : D.getD k false = true
  · have e : List.filter (fun i => D.getD i false) [k] = [k] := by simp only [List.filter, h]
    rw [e, if_pos h]; rfl
  · have e : List.filter (fun i => D.getD i false) [k] = [] := by
      have h2 : D.getD k false = false := by simpa using h
      simp only [List.filter, h2]
    rw [e, if_neg h]; rfl
theorem dirtL_len (D : List Bool) (k : Nat) : (dirtL D k).length ≤ k := by
  unfold dirtL
  rw [List.length_map]
  exact Nat.le_trans (List.length_filter_le _ _) (by simp)
theorem dirtL_none (k : Nat) : dirtL noD k = [] := by
  unfold dirtL
  have : (List.range k).filter (fun i => noD.getD i false) = [] := by
    rw [List.filter_eq_nil_iff]
    intro i _
    unfold noD
    rw [List.getD_eq_getElem?_getD, List.getElem?_replicate]
    split <;> simp
  rw [this]; rfl

theorem idx_bool (D : List Bool) (hD : D.length = 12) (k : Nat) (hk : k < 12) : ∀ W, (Instr.index 67 (.agg (D.map Value.bool).toArray) (.int .i64 k)).run Tryz.prog W = .ok (.bool (D.getD k false)) W := by
  match D, hD with
  | [d0, d1, d2, d3, d4, d5, d6, d7, d8, d9, d10, d11], _ =>
    match k, hk with
    | 0, _ => exact fun _ => by kernel_rfl
    | 1, _ => exact fun _ => by kernel_rfl
    | 2, _ => exact fun _ => by kernel_rfl
    | 3, _ => exact fun _ => by kernel_rfl
    | 4, _ => exact fun _ => by kernel_rfl
    | 5, _ => exact fun _ => by kernel_rfl
    | 6, _ => exact fun _ => by kernel_rfl
    | 7, _ => exact fun _ => by kernel_rfl
    | 8, _ => exact fun _ => by kernel_rfl
    | 9, _ => exact fun _ => by kernel_rfl
    | 10, _ => exact fun _ => by kernel_rfl
    | 11, _ => exact fun _ => by kernel_rfl
    | k + 12, h => omega
theorem size_bools (D : List Bool) (hD : D.length = 12) : (Tryz.prog.info? 67).map (·.size) = some (D.map Value.bool).length := by
  rw [List.length_map, hD]
  kernel_rfl
theorem vCells_d (s m : Nat) (D : List Bool) : ∀ j v, (D.map Value.bool)[j]? = some v → (vCells s m D)[2 + j]? = some v := fun j v h => by
  rw [show 2 + j = j + 1 + 1 by omega]
  simpa [vCells] using h
theorem vCells_wipe (s m : Nat) (D : List Bool) (hD : D.length = 12) : splice (vCells s m D) 2 noDv = vCells s m noD := by
  simp [splice, vCells, noDv, noD, hD]
theorem noDv_one : ∀ v ∈ noDv, v.oneCell' = true := by decide
theorem vCells_len (s m : Nat) (D : List Bool) (hD : D.length = 12) : 2 + noDv.length ≤ (vCells s m D).length := by simp [vCells, noDv, noD, hD]

section
variable {b s m n : Nat} {S : List Int} {L : List Gm.Pl} {D : List Bool}
theorem PV.wiped {w : World} (h : PV w b s m n S L D) : PV (w.setRow b (vCells s m noD).toArray) b s m n S L noD where
  blk := h.blk.row _
  st := h.st.of_block (setRow_other _ _ _ _ (fun e => by have := h.sm; have := h.mb; omega))
  mp := ⟨h.mp.1.of_block (setRow_other _ _ _ _ (fun e => by have := h.mb; omega)), h.mp.2⟩
  len := rfl
  pos := h.pos
  sm := h.sm
  mb := h.mb
theorem Kq.setRow {T : List Nat} {w w' : World} (h : Kq T w w') (b : Nat) (cs : Array Value) (hb : b ∈ T) : Kq T w (w'.setRow b cs) :=
  ⟨h.os, h.tape, h.output, by rw [size_setRow]; exact h.size, fun q hq hn => (setRow_other _ _ _ _ (fun e => hn (by rw [e]; exact hb))).trans (h.block q hq hn)⟩
theorem map_any (w : World) (hP : PV w b s m n S L D) : Calls Tryz.prog 15 #[.pointer (some ⟨b, 0, none⟩)] w fun e w' => e = .returned (.pointer (some ⟨m, 0, none⟩)) ∧ w = w' := by
  have HM := Lib.hid (made_yes b s w hP.cell0)
  have c1 := hP.cell1
  clear hP
  go_enter Tryz.func15, Tryz.ntmps15
  go_wp2_with fail
  refine HM.out.mono ?_
  rintro e w1 ⟨rfl, rfl⟩
  go_wp2
  go_ret
  exact ⟨rfl, rfl⟩
theorem store_any (w : World) (hP : PV w b s m n S L D) : Calls Tryz.prog 20 #[.pointer (some ⟨b, 0, none⟩)] w fun e w' => e = .returned (.pointer (some ⟨s, 0, none⟩)) ∧ w = w' := by
  have HM := Lib.hid (made_yes b s w hP.cell0)
  have c0 := hP.cell0
  clear hP
  go_enter Tryz.func20, Tryz.ntmps20
  go_wp2_with fail
  refine HM.out.mono ?_
  rintro e w1 ⟨rfl, rfl⟩
  go_wp2
  go_ret
  exact ⟨rfl, rfl⟩
theorem map_un (a : Option Addr) (w : World) (hM : Calls Tryz.prog 50 #[.pointer a] w fun e w' => e = .returned (.bool false) ∧ w = w') : Calls Tryz.prog 15 #[.pointer a] w fun e w' => e = .returned (.pointer none) ∧ w = w' := by
  have HM := Lib.hid hM
  clear hM
  go_enter Tryz.func15, Tryz.ntmps15
  go_wp2_with fail
  refine HM.out.mono ?_
  rintro e w1 ⟨rfl, rfl⟩
  go_wp2
  go_ret
  exact ⟨rfl, rfl⟩
theorem store_un (a : Option Addr) (w : World) (hM : Calls Tryz.prog 50 #[.pointer a] w fun e w' => e = .returned (.bool false) ∧ w = w') : Calls Tryz.prog 20 #[.pointer a] w fun e w' => e = .returned (.pointer none) ∧ w = w' := by
  have HM := Lib.hid hM
  clear hM
  go_enter Tryz.func20, Tryz.ntmps20
  go_wp2_with fail
  refine HM.out.mono ?_
  rintro e w1 ⟨rfl, rfl⟩
  go_wp2
  go_ret
  exact ⟨rfl, rfl⟩
theorem dirty_un (a : Option Addr) (w : World) (hM : Calls Tryz.prog 50 #[.pointer a] w fun e w' => e = .returned (.bool false) ∧ w = w') : Calls Tryz.prog 68 #[.pointer a] w fun e w' => e = .returned (.slice none 0 0) ∧ w = w' := by
  have HM := Lib.hid hM
  clear hM
  go_enter Tryz.func68, Tryz.ntmps68
  go_wp2_with fail
  refine HM.out.mono ?_
  rintro e w1 ⟨rfl, rfl⟩
  go_wp2
  go_ret
  exact ⟨rfl, rfl⟩

theorem dirty_any (w : World) (hP : PV w b s m n S L D) :
    Calls Tryz.prog 68 #[.pointer (some ⟨b, 0, none⟩)] w fun e w' => ∃ a k cap, e = .returned (.slice a k cap) ∧ Hid (RowK .i64 w' w'.heap.size a k (dirtL D 12)) ∧ PV w' b s m n S L noD ∧ Kq [b] w w' := by
  have HP := Lib.hid hP
  have HM := Lib.hid (made_yes b s w hP.cell0)
  have HD := Lib.hid hP.len
  have hix := idx_bool D hP.len
  have HA : Hid (∀ (ρ : Operand → Value) (o : Oper), o.op = .load 67 (.tmp 11) → ρ (.tmp 11) = .pointer (some ⟨b, 2, none⟩) → (execOp ρ o).run Tryz.prog w = .ok (.value (.agg (D.map Value.bool).toArray)) w) :=
    Lib.hid fun ρ o ho hx => exec_load_blk hP.blk 2 67 (.tmp 11) ho hx (D.map Value.bool) (vCells_d s m D) _ Tryz.underlying67 rfl (size_bools D hP.len)
  clear hP
  have HIX := Lib.hid hix
  clear hix
  generalize hA : (D.map Value.bool).toArray = A at HA HIX
  clear hA
  go_enter Tryz.func68, Tryz.ntmps68
  go_upto_region 4 with (go_at_call 50; refine HM.out.mono ?_; rintro e w1 ⟨rfl, rfl⟩)
  refine wp_region_lit ?_
  refine Great.wpList_readTo rfl _ rfl (.pointer (some ⟨b, 0, none⟩)) (by kernel_rfl) ?_
  refine Great.wpList_readTo rfl _ rfl (.pointer (some ⟨b, 0, none⟩)) (by kernel_rfl) ?_
  refine Great.wpList_readTo rfl _ rfl (.pointer (some ⟨b, 2, none⟩)) (by kernel_rfl) ?_
  refine Great.wpList_readTo rfl _ rfl (.agg A) (HA.out _ _ rfl (by kernel_rfl)) ?_
  refine Great.wpList_readTo rfl _ rfl (.int .i64 0) (by kernel_rfl) ?_
  clear HA
  simp only [Act.put, List.setIfInBounds_toArray, List.set_cons_succ, List.set_cons_zero]
  go_wp2
  go_loopw [3, 13] (fun v j wr => ∃ (k n cap : Nat) (a : Option Addr), k ≤ 12 ∧ n ≤ k ∧ v = .slice a n cap ∧ j = .int .i64 k ∧ Hid (OwnI .i64 wr w.heap.size 3 (.slice a n cap) n (dirtL D k)) ∧ Hid (Below w.heap.size w wr)) (fun _ j _ => 12 - (intOf j).toNat)
  case atStart => exact ⟨0, 0, 0, none, by omega, by omega, rfl, rfl, OwnI.nil _ _ _ _, Below.refl _ _⟩
  case round =>
    obtain ⟨k, n, cap, a, hk, hn, rfl, rfl, HO, HB⟩ := hrel
    by_cases hlt : k < 12
    · have f1 : (k : Int) < 12 := by omega
      have H3 := Lib.hid hlt
      have HN := Lib.hid hn
      have hix := HIX.out k hlt
      have HS := Lib.hid (dirtL_succ D k)
      clear hlt hk hn
      obtain ⟨t, ht⟩ : ∃ t, D.getD k false = t := ⟨_, rfl⟩
      rw [ht] at hix HS
      clear ht
      obtain ⟨xs, hxs⟩ : ∃ xs, dirtL D k = xs := ⟨_, rfl⟩
      rw [hxs] at HO HS
      clear hxs
      cases t
      · go_wp2
        go_roundw
        case rel => exact ⟨k + 1, n, cap, a, by have := H3.out; omega, by have := HN.out; omega, rfl, by go_num, by rw [HS.out]; simpa using HO, HB⟩
        case measure => have := H3.out; simp [intOf]; omega
      · have HBA := Lib.hid (HB.out.trans (((Below.refl wr.heap.size wr).alloc (Nat.le_refl _) (.cells #[.int .i64 k] 3)).mono HB.out.size))
        have HOA : Hid (OwnI .i64 (wr.alloc (.cells #[.int .i64 k] 3)) w.heap.size 3 (.slice a n cap) n xs) := HO.out.alloc _
        have HRA : Hid (RowK .i64 (wr.alloc (.cells #[.int .i64 k] 3)) (wr.heap.size + 1) (some ⟨wr.heap.size, 0, none⟩) 1 [(k : Int)]) := RowK.new1 .i64 wr k _
        go_wp2_with (refine wpList_append_ints rfl _ _ 145 rfl .i64 w.heap.size 3 8 Tryz.underlying145 (by kernel_rfl) (.slice a n cap) n xs rfl HOA.out _ _ 1 1 [(k : Int)] rfl HRA.out (by have := HN.out; have := H3.out; unfold maxLen; omega) (by have := HN.out; have := H3.out; omega) HBA.out.size ?_; intro v' w' HO2 hb2 _)
        obtain ⟨g, cap', rfl, _⟩ := HO2.out.form (by omega)
        have HB3 := Lib.hid (HBA.out.trans hb2)
        go_wp2
        go_roundw
        case rel => exact ⟨k + 1, n + 1, cap', some ⟨g, 0, none⟩, by have := H3.out; omega, by have := HN.out; omega, rfl, by go_num, by rw [HS.out]; simpa using HO2, HB3⟩
        case measure => have := H3.out; simp [intOf]; omega
    · have f1 : ¬ (k : Int) < 12 := by omega
      obtain rfl : k = 12 := by omega
      clear hlt hk
      obtain ⟨a', cap', e, _, _, hr⟩ := HO.out.row
      injection e with e1 e2 e3
      subst e1 e3
      have HPw := Lib.hid (HP.out.more HB.out)
      have hbb : b < w.heap.size := HP.out.lt
      have HRW : Hid (RowK .i64 (wr.setRow b (vCells s m noD).toArray) wr.heap.size a n (dirtL D 12)) := Lib.hid ⟨hr.1, fun i hi => by
        obtain ⟨x, e, hx, hc⟩ := hr.2 i hi
        refine ⟨x, e, hx, ?_⟩
        rw [World.cell?_of_block (w := wr)]
        · exact hc
        · rw [block_of_add]
          refine setRow_other _ _ _ _ (fun e2 => ?_)
          rcases HO.out.2 with ⟨e3, hn0⟩ | ⟨g, c, cur, e3, hg, _⟩
          · omega
          · injection e3 with e3
            rw [e] at e3
            injection e3 with e3
            subst e3
            simp at e2
            omega⟩
      have HK : Hid (Kq [b] w (wr.setRow b (vCells s m noD).toArray)) := Lib.hid (Kq.setRow (Kq.of_below HB.out) b _ (by simp))
      have HPN := Lib.hid HPw.out.wiped
      have HLE : Hid (wr.heap.size = (wr.setRow b (vCells s m noD).toArray).heap.size) := Lib.hid (size_setRow _ _ _).symm
      clear hr hbb
      go_upto_region 10 with fail
      refine wp_region_lit ?_
      refine Great.wpList_readTo rfl _ rfl (.pointer (some ⟨b, 0, none⟩)) (by kernel_rfl) ?_
      refine wpList_buildTo rfl 67 _ rfl _ rfl noDv.toArray (by kernel_rfl) ?_
      refine Great.wpList_readTo rfl _ rfl (.pointer (some ⟨b, 0, none⟩)) (by kernel_rfl) ?_
      refine Great.wpList_readTo rfl _ rfl (.pointer (some ⟨b, 2, none⟩)) (by kernel_rfl) ?_
      refine wpList_store_cells rfl 67 _ _ rfl b 2 84 (vCells s m D) noDv (by kernel_rfl) (by kernel_rfl) HPw.out.blk (by kernel_rfl) (vCells_len s m D HD.out) noDv_one ?_
      rw [vCells_wipe s m D HD.out]
      generalize wr.setRow b (vCells s m noD).toArray = W at HRW HK HPN HLE ⊢
      go_wp2
      go_ret
      exact ⟨a, n, ⟨cap, rfl⟩, by rw [← HLE.out]; exact HRW.out, HPN.out, HK.out⟩
end
end Go.Proofs.YteaincdeoajkeaaGreatDoor.Vw
end
section
/- The document's view (hermitageref16): place, Own, Read, Write, Dirty. -/
namespace Go.Proofs.YteaincdeoajkeaaGreatDoor.Vw
open Go.RowKit Ut Oc
set_option maxRecDepth 100000
set_option linter.unusedVariables false
set_option maxHeartbeats 4000000

theorem atP_nat {L : List Gm.Pl} {p : Nat} (h : p < 768) : Gm.atP L ((p : Int) / 64) = Gm.plN L (p / 64) := by
  rw [show (p : Int) / 64 = ((p / 64 : Nat) : Int) by omega]
  exact Gm.atP_is (by omega)
section
variable {g bt B q n gv cap : Nat} {S : List Int} {L : List Gm.Pl} {D : List Bool}
theorem place_none (z : Int) (h0 : 0 ≤ z) (h1 : z < 512) (hp : Gm.atP L (z / 64) = (0, 0)) (w : World) (h : DV w g bt B q n gv cap S L D) :
    Calls Tryz.prog 153 #[.pointer (some ⟨g, 0, none⟩), .int .i64 z] w fun e w' => e = .returned (.tuple #[.int .i64 0, .int .i64 0, .bool false]) ∧ Below w.heap.size w w' := by
  have HG := Lib.hid (Gm.refGet_any q L (z / 64) (0, 0) false hp rfl w h.mp)
  have c1 := h.cell1
  have HBX : Hid (∀ (W : World) (x y : Int), Below w.heap.size w W → Below w.heap.size w (W.alloc (.cells #[.int .i64 x, .int .i64 y] 54))) := Lib.hid fun W x y h => h.alloc h.size _
  have d8 : decide (8 ≤ z / 64) = false := by simp; omega
  have d0 : (0 : Int) ≤ z / 64 := by omega
  clear h hp
  go_enter Tryz.func153, Tryz.ntmps153
  go_wp2_with fail
  refine HG.out.mono ?_
  rintro e w1 ⟨rfl, hb⟩
  have HB := Lib.hid (HBX.out _ 0 0 hb)
  clear hb
  unfold Gm.plV
  go_upto_region 5 with fail
  generalize w1.alloc (.cells #[.int .i64 0, .int .i64 0] 54) = V at HB ⊢
  apply wp_region_auto [23, 24, 25, 26, 27, 28, 29, 30, 31, 32, 33] [_, _, _, _, _, _, _, _, _, _, _] (fun W' => Below V.heap.size V W')
  case hm => kernel_rfl
  case hT => intro y; simp only [setAll, List.setIfInBounds_toArray, List.set_cons_succ, List.set_cons_zero]; exact rfl
  case hok => kernel_rfl
  case hn => decide
  case hw => exact (Below.refl _ _).drew
  case hs =>
    refine auto_op 23 [] (by kernel_rfl) (fun y w' HW hd K hK => ?_) ?_
    · go_simp
      refine hK _ _ ?_ ?_ HW
      · simp [upd]
      · exact rfl
    refine auto_op 24 [0] (by kernel_rfl) (fun y w' HW hd K hK => ?_) ?_
    · have e0 := hd_nth (hd 0 (by simp)) rfl
      go_simp
      refine hK _ _ ?_ ?_ HW
      · simp [upd, e0]
      · exact rfl
    refine auto_op 25 [1] (by kernel_rfl) (fun y w' HW hd K hK => ?_) ?_
    · have e1 := hd_nth (hd 1 (by simp)) rfl
      go_simp
      refine hK _ _ ?_ ?_ HW
      · simp [upd, e1]
      · exact rfl
    refine auto_op 26 [2] (by kernel_rfl) (fun y w' HW hd K hK => ?_) ?_
    · have e2 := hd_nth (hd 2 (by simp)) rfl
      go_simp
      refine hK _ _ ?_ ?_ HW
      · simp [upd, e2]
      · exact rfl
    refine auto_op 27 [3, 2] (by kernel_rfl) (fun y w' HW hd K hK => ?_) ?_
    · have e2 := hd_nth (hd 2 (by simp)) rfl
      have e3 := hd_nth (hd 3 (by simp)) rfl
      go_simp
      refine hK _ _ ?_ ?_ HW
      · simp [upd, e2, e3]
      · exact rfl
    refine auto_op 28 [4, 2] (by kernel_rfl) (fun y w' HW hd K hK => ?_) ?_
    · have e2 := hd_nth (hd 2 (by simp)) rfl
      have e4 := hd_nth (hd 4 (by simp)) rfl
      go_simp
      refine hK _ _ ?_ ?_ HW
      · simp [upd, e2, e4]
      · exact rfl
    refine auto_op 29 [5, 2] (by kernel_rfl) (fun y w' HW hd K hK => ?_) ?_
    · have e2 := hd_nth (hd 2 (by simp)) rfl
      have e5 := hd_nth (hd 5 (by simp)) rfl
      have hcl : ∀ p : Addr, p.block < V.heap.size → w'.cell? p = V.cell? p := fun p hp => HW.cell hp
      go_simp
      refine hK _ _ ?_ ?_ HW
      · simp [upd, e2, e5]
      · exact rfl
    refine auto_op 30 [2] (by kernel_rfl) (fun y w' HW hd K hK => ?_) ?_
    · have e2 := hd_nth (hd 2 (by simp)) rfl
      go_simp
      refine hK _ _ ?_ ?_ HW
      · simp [upd, e2]
      · exact rfl
    refine auto_op 31 [7, 2] (by kernel_rfl) (fun y w' HW hd K hK => ?_) ?_
    · have e2 := hd_nth (hd 2 (by simp)) rfl
      have e7 := hd_nth (hd 7 (by simp)) rfl
      have hcl : ∀ p : Addr, p.block < V.heap.size → w'.cell? p = V.cell? p := fun p hp => HW.cell hp
      go_simp
      refine hK _ _ ?_ ?_ HW
      · simp [upd, e2, e7]
      · exact rfl
    refine auto_op 32 [6, 8, 2, 2] (by kernel_rfl) (fun y w' HW hd K hK => ?_) ?_
    · have e2 := hd_nth (hd 2 (by simp)) rfl
      have e6 := hd_nth (hd 6 (by simp)) rfl
      have e8 := hd_nth (hd 8 (by simp)) rfl
      go_simp
      refine hK _ _ ?_ ?_ HW
      · simp [upd, e2, e6, e8]
      · exact rfl
    refine auto_op 33 [9, 2] (by kernel_rfl) (fun y w' HW hd K hK => ?_) ?_
    · have e2 := hd_nth (hd 2 (by simp)) rfl
      have e9 := hd_nth (hd 9 (by simp)) rfl
      go_simp
      refine hK _ _ ?_ ?_ HW
      · simp [upd, e2, e9]
      · exact rfl
    refine auto_last fun y w' HW hd K hK => ?_
    have e0 := hd_nth (hd 0 (by omega)) rfl
    have e1 := hd_nth (hd 1 (by omega)) rfl
    have e2 := hd_nth (hd 2 (by omega)) rfl
    have e3 := hd_nth (hd 3 (by omega)) rfl
    have e4 := hd_nth (hd 4 (by omega)) rfl
    have e5 := hd_nth (hd 5 (by omega)) rfl
    have e6 := hd_nth (hd 6 (by omega)) rfl
    have e7 := hd_nth (hd 7 (by omega)) rfl
    have e8 := hd_nth (hd 8 (by omega)) rfl
    have e9 := hd_nth (hd 9 (by omega)) rfl
    have e10 := hd_nth (hd 10 (by omega)) rfl
    go_simp
    refine hK _ _ ?_
    clear hd hK K e0 e1 e2 e3 e4 e5 e6 e7 e8 e9 e10
    have HW2 := Lib.hid (HB.out.trans (HW.mono HB.out.size))
    clear HW
    go_wp2
    exact bodyPost_ret (v := .tuple #[.int .i64 0, .int .i64 0, .bool false]) (by simp [results, Tryz.results153, go_sem]) rfl ⟨rfl, HW2.out⟩
theorem place_is (z F R : Int) (h0 : 0 ≤ z) (h1 : z < 512) (hp : Gm.atP L (z / 64) = (F, R)) (hth : Gm.thB (F, R) = true) (t : Bool) (ht : (decide (0 ≤ F) && decide (F < n)) = t) (w : World) (h : DV w g bt B q n gv cap S L D) :
    Calls Tryz.prog 153 #[.pointer (some ⟨g, 0, none⟩), .int .i64 z] w fun e w' => e = .returned (.tuple #[.int .i64 (if t = true then F else 0), .int .i64 (if t = true then z % 64 else 0), .bool t]) ∧ Below w.heap.size w w' := by
  have HG := Lib.hid (Gm.refGet_any q L (z / 64) (F, R) true hp hth w h.mp)
  have c1 := h.cell1
  have HH := Lib.hid h
  have HBX : Hid (∀ (W : World) (x y : Int), Below w.heap.size w W → Below w.heap.size w (W.alloc (.cells #[.int .i64 x, .int .i64 y] 54))) := Lib.hid fun W x y h => h.alloc h.size _
  have HI : Hid (∀ W, DV W g bt B q n gv cap S L D → Calls Tryz.prog 80 #[.pointer (some ⟨bt, 0, none⟩), .int .i64 F] W fun e w' => e = .returned (.bool t) ∧ W = w') := Lib.hid fun W hW => refIs_dv F t ht W hW
  have d8 : decide (8 ≤ z / 64) = false := by simp; omega
  have d0 : (0 : Int) ≤ z / 64 := by omega
  have dm : (0 : Int) ≤ z % 64 := by omega
  clear h hp hth ht
  cases t
  all_goals
    go_enter Tryz.func153, Tryz.ntmps153
    go_wp2_with fail
    refine HG.out.mono ?_
    rintro e w1 ⟨rfl, hb⟩
    have HB := Lib.hid (HBX.out _ F R hb)
    have HN : Hid (Blk (w1.alloc (.cells #[.int .i64 F, .int .i64 R] 54)) w1.heap.size 54 [.int .i64 F, .int .i64 R]) := Blk.new w1 _ _
    clear hb c1
    unfold Gm.plV
    go_upto_region 5 with fail
    generalize w1.alloc (.cells #[.int .i64 F, .int .i64 R] 54) = V at HB HN ⊢
    generalize w1.heap.size = pb at HN ⊢
    have HV := Lib.hid (HH.out.more HB.out)
    have c0 := HV.out.cell0
    have n0 : V.cell? ⟨pb, 0, none⟩ = some (.int .i64 F) := HN.out.cell rfl
    have b0 := HV.out.lt
    have b1 : pb < V.heap.size := HN.out.lt
    have HIV : Hid (∀ W, Below V.heap.size V W → Calls Tryz.prog 80 #[.pointer (some ⟨bt, 0, none⟩), .int .i64 F] W fun e w' => e = .returned (.bool _) ∧ W = w') := Lib.hid fun W hW => HI.out W (HV.out.more hW)
  · skip
    apply wp_region_auto [23, 24, 25, 26, 27, 28, 29, 30, 31, 32, 33] [_, _, _, _, _, _, _, _, _, _, _] (fun W' => Below V.heap.size V W')
    case hm => kernel_rfl
    case hT => intro y; simp only [setAll, List.setIfInBounds_toArray, List.set_cons_succ, List.set_cons_zero]; exact rfl
    case hok => kernel_rfl
    case hn => decide
    case hw => exact (Below.refl _ _).drew
    case hs =>
      refine auto_op 23 [] (by kernel_rfl) (fun y w' HW hd K hK => ?_) ?_
      · go_simp
        refine hK _ _ ?_ ?_ HW
        · simp [upd]
        · exact rfl
      refine auto_op 24 [0] (by kernel_rfl) (fun y w' HW hd K hK => ?_) ?_
      · have e0 := hd_nth (hd 0 (by simp)) rfl
        go_simp
        refine hK _ _ ?_ ?_ HW
        · simp [upd, e0]
        · exact rfl
      refine auto_op 25 [1] (by kernel_rfl) (fun y w' HW hd K hK => ?_) ?_
      · have e1 := hd_nth (hd 1 (by simp)) rfl
        go_simp
        refine hK _ _ ?_ ?_ HW
        · simp [upd, e1]
        · exact rfl
      refine auto_op 26 [2] (by kernel_rfl) (fun y w' HW hd K hK => ?_) ?_
      · have e2 := hd_nth (hd 2 (by simp)) rfl
        go_simp
        refine hK _ _ ?_ ?_ HW
        · simp [upd, e2]
        · exact rfl
      refine auto_op 27 [3, 2] (by kernel_rfl) (fun y w' HW hd K hK => ?_) ?_
      · have e2 := hd_nth (hd 2 (by simp)) rfl
        have e3 := hd_nth (hd 3 (by simp)) rfl
        go_simp
        refine hK _ _ ?_ ?_ HW
        · simp [upd, e2, e3]
        · exact rfl
      refine auto_op 28 [4, 2] (by kernel_rfl) (fun y w' HW hd K hK => ?_) ?_
      · have e2 := hd_nth (hd 2 (by simp)) rfl
        have e4 := hd_nth (hd 4 (by simp)) rfl
        go_simp
        refine hK _ _ ?_ ?_ HW
        · simp [upd, e2, e4]
        · exact rfl
      refine auto_op 29 [5, 2] (by kernel_rfl) (fun y w' HW hd K hK => ?_) ?_
      · have e2 := hd_nth (hd 2 (by simp)) rfl
        have e5 := hd_nth (hd 5 (by simp)) rfl
        have hcl : ∀ p : Addr, p.block < V.heap.size → w'.cell? p = V.cell? p := fun p hp => HW.cell hp
        go_simp
        refine hK _ _ ?_ ?_ HW
        · simp [upd, e2, e5]
        · exact rfl
      refine auto_op 30 [2] (by kernel_rfl) (fun y w' HW hd K hK => ?_) ?_
      · have e2 := hd_nth (hd 2 (by simp)) rfl
        go_simp
        refine hK _ _ ?_ ?_ HW
        · simp [upd, e2]
        · exact rfl
      refine auto_op 31 [7, 2] (by kernel_rfl) (fun y w' HW hd K hK => ?_) ?_
      · have e2 := hd_nth (hd 2 (by simp)) rfl
        have e7 := hd_nth (hd 7 (by simp)) rfl
        have hcl : ∀ p : Addr, p.block < V.heap.size → w'.cell? p = V.cell? p := fun p hp => HW.cell hp
        go_simp
        refine hK _ _ ?_ ?_ HW
        · simp [upd, e2, e7]
        · exact rfl
      refine auto_op 32 [6, 8, 2, 2] (by kernel_rfl) (fun y w' HW hd K hK => ?_) ?_
      · have e2 := hd_nth (hd 2 (by simp)) rfl
        have e6 := hd_nth (hd 6 (by simp)) rfl
        have e8 := hd_nth (hd 8 (by simp)) rfl
        go_simp
        refine (HIV.out _ HW).mono ?_
        rintro e w3 ⟨rfl, rfl⟩
        refine hK _ _ ?_ ?_ HW
        · simp [upd, e2, e6, e8]
        · exact rfl
      refine auto_op 33 [9, 2] (by kernel_rfl) (fun y w' HW hd K hK => ?_) ?_
      · have e2 := hd_nth (hd 2 (by simp)) rfl
        have e9 := hd_nth (hd 9 (by simp)) rfl
        go_simp
        refine hK _ _ ?_ ?_ HW
        · simp [upd, e2, e9]
        · exact rfl
      refine auto_last fun y w' HW hd K hK => ?_
      have e0 := hd_nth (hd 0 (by omega)) rfl
      have e1 := hd_nth (hd 1 (by omega)) rfl
      have e2 := hd_nth (hd 2 (by omega)) rfl
      have e3 := hd_nth (hd 3 (by omega)) rfl
      have e4 := hd_nth (hd 4 (by omega)) rfl
      have e5 := hd_nth (hd 5 (by omega)) rfl
      have e6 := hd_nth (hd 6 (by omega)) rfl
      have e7 := hd_nth (hd 7 (by omega)) rfl
      have e8 := hd_nth (hd 8 (by omega)) rfl
      have e9 := hd_nth (hd 9 (by omega)) rfl
      have e10 := hd_nth (hd 10 (by omega)) rfl
      go_simp
      refine hK _ _ ?_
      clear hd hK K e0 e1 e2 e3 e4 e5 e6 e7 e8 e9 e10
      have HW2 := Lib.hid (HB.out.trans (HW.mono HB.out.size))
      clear HW
      go_wp2
      exact bodyPost_ret (v := .tuple #[.int .i64 0, .int .i64 0, .bool false]) (by simp [results, Tryz.results153, go_sem]) rfl ⟨rfl, HW2.out⟩
  · skip
    apply wp_region_auto [23, 24, 25, 26, 27, 28, 29, 30, 31, 32, 33] [_, _, _, _, _, _, _, _, _, _, _] (fun W' => Below V.heap.size V W')
    case hm => kernel_rfl
    case hT => intro y; simp only [setAll, List.setIfInBounds_toArray, List.set_cons_succ, List.set_cons_zero]; exact rfl
    case hok => kernel_rfl
    case hn => decide
    case hw => exact (Below.refl _ _).drew
    case hs =>
      refine auto_op 23 [] (by kernel_rfl) (fun y w' HW hd K hK => ?_) ?_
      · go_simp
        refine hK _ _ ?_ ?_ HW
        · simp [upd]
        · exact rfl
      refine auto_op 24 [0] (by kernel_rfl) (fun y w' HW hd K hK => ?_) ?_
      · have e0 := hd_nth (hd 0 (by simp)) rfl
        go_simp
        refine hK _ _ ?_ ?_ HW
        · simp [upd, e0]
        · exact rfl
      refine auto_op 25 [1] (by kernel_rfl) (fun y w' HW hd K hK => ?_) ?_
      · have e1 := hd_nth (hd 1 (by simp)) rfl
        go_simp
        refine hK _ _ ?_ ?_ HW
        · simp [upd, e1]
        · exact rfl
      refine auto_op 26 [2] (by kernel_rfl) (fun y w' HW hd K hK => ?_) ?_
      · have e2 := hd_nth (hd 2 (by simp)) rfl
        go_simp
        refine hK _ _ ?_ ?_ HW
        · simp [upd, e2]
        · exact rfl
      refine auto_op 27 [3, 2] (by kernel_rfl) (fun y w' HW hd K hK => ?_) ?_
      · have e2 := hd_nth (hd 2 (by simp)) rfl
        have e3 := hd_nth (hd 3 (by simp)) rfl
        go_simp
        refine hK _ _ ?_ ?_ HW
        · simp [upd, e2, e3]
        · exact rfl
      refine auto_op 28 [4, 2] (by kernel_rfl) (fun y w' HW hd K hK => ?_) ?_
      · have e2 := hd_nth (hd 2 (by simp)) rfl
        have e4 := hd_nth (hd 4 (by simp)) rfl
        go_simp
        refine hK _ _ ?_ ?_ HW
        · simp [upd, e2, e4]
        · exact rfl
      refine auto_op 29 [5, 2] (by kernel_rfl) (fun y w' HW hd K hK => ?_) ?_
      · have e2 := hd_nth (hd 2 (by simp)) rfl
        have e5 := hd_nth (hd 5 (by simp)) rfl
        have hcl : ∀ p : Addr, p.block < V.heap.size → w'.cell? p = V.cell? p := fun p hp => HW.cell hp
        go_simp
        refine hK _ _ ?_ ?_ HW
        · simp [upd, e2, e5]
        · exact rfl
      refine auto_op 30 [2] (by kernel_rfl) (fun y w' HW hd K hK => ?_) ?_
      · have e2 := hd_nth (hd 2 (by simp)) rfl
        go_simp
        refine hK _ _ ?_ ?_ HW
        · simp [upd, e2]
        · exact rfl
      refine auto_op 31 [7, 2] (by kernel_rfl) (fun y w' HW hd K hK => ?_) ?_
      · have e2 := hd_nth (hd 2 (by simp)) rfl
        have e7 := hd_nth (hd 7 (by simp)) rfl
        have hcl : ∀ p : Addr, p.block < V.heap.size → w'.cell? p = V.cell? p := fun p hp => HW.cell hp
        go_simp
        refine hK _ _ ?_ ?_ HW
        · simp [upd, e2, e7]
        · exact rfl
      refine auto_op 32 [6, 8, 2, 2] (by kernel_rfl) (fun y w' HW hd K hK => ?_) ?_
      · have e2 := hd_nth (hd 2 (by simp)) rfl
        have e6 := hd_nth (hd 6 (by simp)) rfl
        have e8 := hd_nth (hd 8 (by simp)) rfl
        go_simp
        refine (HIV.out _ HW).mono ?_
        rintro e w3 ⟨rfl, rfl⟩
        refine hK _ _ ?_ ?_ HW
        · simp [upd, e2, e6, e8]
        · exact rfl
      refine auto_op 33 [9, 2] (by kernel_rfl) (fun y w' HW hd K hK => ?_) ?_
      · have e2 := hd_nth (hd 2 (by simp)) rfl
        have e9 := hd_nth (hd 9 (by simp)) rfl
        go_simp
        refine hK _ _ ?_ ?_ HW
        · simp [upd, e2, e9]
        · exact rfl
      refine auto_last fun y w' HW hd K hK => ?_
      have e0 := hd_nth (hd 0 (by omega)) rfl
      have e1 := hd_nth (hd 1 (by omega)) rfl
      have e2 := hd_nth (hd 2 (by omega)) rfl
      have e3 := hd_nth (hd 3 (by omega)) rfl
      have e4 := hd_nth (hd 4 (by omega)) rfl
      have e5 := hd_nth (hd 5 (by omega)) rfl
      have e6 := hd_nth (hd 6 (by omega)) rfl
      have e7 := hd_nth (hd 7 (by omega)) rfl
      have e8 := hd_nth (hd 8 (by omega)) rfl
      have e9 := hd_nth (hd 9 (by omega)) rfl
      have e10 := hd_nth (hd 10 (by omega)) rfl
      go_simp
      refine hK _ _ ?_
      clear hd hK K e0 e1 e2 e3 e4 e5 e6 e7 e8 e9 e10
      have HW2 := Lib.hid (HB.out.trans (HW.mono HB.out.size))
      have n1 : w'.cell? ⟨pb, 0, none⟩ = some (.int .i64 F) := (HN.out.more HW).cell rfl
      clear HW
      go_wp2
      exact bodyPost_ret (v := .tuple #[.int .i64 F, .int .i64 (z % 64), .bool true]) (by simp [results, Tryz.results153, go_sem]) rfl ⟨rfl, HW2.out⟩
/-- any byte below 512 -/
theorem place_any (p : Nat) (hp : p < 512) (t : Bool) (ht : okA n L p = t) (w : World) (h : DV w g bt B q n gv cap S L D) :
    Calls Tryz.prog 153 #[.pointer (some ⟨g, 0, none⟩), .int .i64 p] w fun e w' => e = .returned (.tuple #[.int .i64 (if t = true then ((frN L (p / 64) : Nat) : Int) else 0), .int .i64 (if t = true then ((p % 64 : Nat) : Int) else 0), .bool t]) ∧ Below w.heap.size w w' := by
  have hat := atP_nat (L := L) (p := p) (by omega)
  unfold okA at ht
  rcases Gm.pl_cases h.mp.2 (p / 64) with h2 | ⟨f, r, h2, hf, _, _, h4⟩
  · have e : okP n (Gm.plN L (p / 64)) = false := by rw [h2]; rfl
    rw [e] at ht
    subst ht
    exact place_none p (by omega) (by omega) (by rw [hat, h2]) w h
  · have H := place_is (p : Int) f r (by omega) (by omega) (by rw [hat, h2]) h4 t (by rw [← ht, h2]; unfold okP; rw [h4]; simp) w h
    have e : ((frN L (p / 64) : Nat) : Int) = f := by unfold frN; rw [h2]; simp
    rw [e]
    exact H

theorem refOwn_out (z k : Int) (h0 : 0 ≤ z) (h1 : z < 4294967296) (hb : k < 0 ∨ 512 < z ∨ 512 - z < k) (w : World) :
    Calls Tryz.prog 152 #[.pointer (some ⟨g, 0, none⟩), .int .u32 z, .int .i64 k] w fun e w' => e = .returned (.bool false) ∧ w = w' := by
  by_cases c1 : k < 0
  · have d1 : decide (k < 0) = true := by simpa using c1
    go_enter Tryz.func152, Tryz.ntmps152
    go_wp2
    go_ret
    exact ⟨rfl, rfl⟩
  have d1 : decide (k < 0) = false := by simpa using c1
  by_cases c2 : 512 < z
  · have d2 : decide (512 < z) = true := by simpa using c2
    go_enter Tryz.func152, Tryz.ntmps152
    go_wp2
    go_ret
    exact ⟨rfl, rfl⟩
  have d2 : decide (512 < z) = false := by simpa using c2
  have d3 : decide (512 - z < k) = true := by simp; omega
  have hz : z ≤ 512 := by omega
  clear hb c1 c2 h1
  go_enter Tryz.func152, Tryz.ntmps152
  go_wp2
  go_ret
  exact ⟨rfl, rfl⟩
theorem refOwn_in (a K : Nat) (haK : a + K ≤ 512) (t : Bool) (ht : t = true ↔ ∀ i, i < K → okA n L (a + i) = true) (w : World) (h : DV w g bt B q n gv cap S L D) :
    Calls Tryz.prog 152 #[.pointer (some ⟨g, 0, none⟩), .int .u32 a, .int .i64 K] w fun e w' => e = .returned (.bool t) ∧ Below w.heap.size w w' := by
  have H := Lib.hid h
  have HT := Lib.hid ht
  have HAK := Lib.hid haK
  have d1 : decide ((K : Int) < 0) = false := by simp
  have d2 : decide ((512 : Int) < (a : Int)) = false := by simp; omega
  have d3 : decide ((512 : Int) - (a : Int) < (K : Int)) = false := by simp; omega
  have ha : (a : Int) ≤ 512 := by omega
  have hK : (K : Int) ≤ 512 := by omega
  clear h ht haK
  go_enter Tryz.func152, Tryz.ntmps152
  go_wp2
  clear d1 d2 d3
  go_loopw [7] (fun j wr => ∃ i : Nat, i ≤ K ∧ j = .int .i64 i ∧ Hid (∀ x, x < i → okA n L (a + x) = true) ∧ Hid (Below w.heap.size w wr)) (fun j _ => K - (intOf j).toNat)
  case atStart => exact ⟨0, Nat.zero_le _, rfl, fun x hx => absurd hx (Nat.not_lt_zero x), Below.refl _ _⟩
  case round =>
    obtain ⟨i, hi, rfl, HO, HB⟩ := hrel
    by_cases hlt : i < K
    · have f1 : (i : Int) < (K : Int) := by omega
      have H3 := Lib.hid hlt
      have hs : (a : Int) + (i : Int) ≤ 512 := by have := HAK.out; omega
      clear hlt hi
      obtain ⟨o, ho⟩ : ∃ o, okA n L (a + i) = o := ⟨_, rfl⟩
      have HP := Lib.hid (place_any (a + i) (by have := HAK.out; have := H3.out; omega) o ho wr (H.out.more HB.out))
      have HO2 : Hid (o = true → ∀ x, x < i + 1 → okA n L (a + x) = true) := Lib.hid fun h1 x hx => by
        by_cases e : x = i
        · subst e; rw [ho]; exact h1
        · exact HO.out x (by omega)
      have HNO : Hid (o = false → t = false) := Lib.hid fun h1 => by
        cases t
        · rfl
        · have := HT.out.1 rfl i H3.out
          rw [ho, h1] at this
          exact absurd this (by decide)
      clear ho
      rw [show ((a + i : Nat) : Int) = (a : Int) + (i : Int) by omega] at HP
      generalize ((frN L ((a + i) / 64) : Nat) : Int) = F at HP
      generalize (((a + i) % 64 : Nat) : Int) = O at HP
      cases o
      · go_wp2_with fail
        refine HP.out.mono ?_
        rintro e w1 ⟨rfl, hb⟩
        have HB1 := Lib.hid (HB.out.trans (hb.mono HB.out.size))
        clear hb
        go_wp2
        go_ret
        exact ⟨by rw [HNO.out (by simp)]; rfl, HB1.out⟩
      · go_wp2_with fail
        refine HP.out.mono ?_
        rintro e w1 ⟨rfl, hb⟩
        have HB1 := Lib.hid (HB.out.trans (hb.mono HB.out.size))
        clear hb
        go_wp2
        go_roundw
        case rel => exact ⟨i + 1, H3.out, by go_num, HO2.out (by simp), HB1⟩
        case measure => have := H3.out; simp [intOf]; omega
    · have f1 : ¬ (i : Int) < (K : Int) := by omega
      obtain rfl : i = K := by omega
      have HTT := Lib.hid (HT.out.2 HO.out)
      clear hlt hi
      go_wp2
      go_ret
      exact ⟨by rw [HTT.out]; rfl, HB.out⟩
theorem refOwn_any (z k : Int) (t : Bool) (h0 : 0 ≤ z) (h1 : z < 4294967296) (ht : ownB n L z k = t) (w : World) (h : DV w g bt B q n gv cap S L D) :
    Calls Tryz.prog 152 #[.pointer (some ⟨g, 0, none⟩), .int .u32 z, .int .i64 k] w fun e w' => e = .returned (.bool t) ∧ Below w.heap.size w w' := by
  rcases own_cases n L z k h0 with ⟨h2, h3⟩ | ⟨a, K, rfl, rfl, h2, h3⟩
  · rw [h2] at ht
    subst ht
    exact (refOwn_out z k h0 h1 h3 w).mono fun e w' ⟨he, hb⟩ => ⟨he, hb ▸ Below.refl _ _⟩
  · rw [ht] at h3
    exact refOwn_in a K h2 t h3 w h

theorem refRead_no (z k : Int) (h0 : 0 ≤ z) (h1 : z < 4294967296) (ht : ownB n L z k = false) (w : World) (h : DV w g bt B q n gv cap S L D) :
    Calls Tryz.prog 147 #[.pointer (some ⟨g, 0, none⟩), .int .u32 z, .int .i64 k] w fun e w' => e = .returned (.tuple #[.slice none 0 0, .bool false]) ∧ Below w.heap.size w w' := by
  have HO := Lib.hid (refOwn_any z k false h0 h1 ht w h)
  clear ht h
  go_enter Tryz.func147, Tryz.ntmps147
  go_wp2_with fail
  refine HO.out.mono ?_
  rintro e w1 ⟨rfl, hb⟩
  go_wp2
  go_ret2
  exact ⟨rfl, hb⟩
theorem refRead_yes (a K : Nat) (haK : a + K ≤ 512) (ht : ownB n L a K = true) (hall : ∀ i, i < K → okA n L (a + i) = true) (w : World) (h : DV w g bt B q n gv cap S L D) :
    Calls Tryz.prog 147 #[.pointer (some ⟨g, 0, none⟩), .int .u32 a, .int .i64 K] w fun e w' => ∃ p m c, e = .returned (.tuple #[.slice p m c, .bool true]) ∧ Hid (RowK .u8 w' w'.heap.size p m (rB L S a K)) ∧ Below w.heap.size w w' := by
  have H := Lib.hid h
  have HALL := Lib.hid hall
  have HAK := Lib.hid haK
  have HO := Lib.hid (refOwn_any a K true (by omega) (by omega) ht w h)
  have ha : (a : Int) ≤ 512 := by omega
  have hK : (K : Int) ≤ 512 := by omega
  clear h ht haK hall
  go_enter Tryz.func147, Tryz.ntmps147
  go_wp2_with fail
  refine HO.out.mono ?_
  rintro e w1 ⟨rfl, hb⟩
  have HB0 := Lib.hid hb
  clear hb HO
  go_wp2
  go_loopw [8, 9] (fun v j wr => ∃ (i cp : Nat) (p : Option Addr), i ≤ K ∧ v = .slice p i cp ∧ j = .int .i64 i ∧ Hid (OwnI .u8 wr w.heap.size 5 (.slice p i cp) i (rB L S a i)) ∧ Hid (Below w.heap.size w wr)) (fun _ j _ => K - (intOf j).toNat)
  case atStart => exact ⟨0, 0, none, Nat.zero_le _, rfl, rfl, OwnI.nil _ _ _ _, HB0⟩
  case round =>
    obtain ⟨i, cp, p, hi, rfl, rfl, HOW, HB⟩ := hrel
    by_cases hlt : i < K
    · have f1 : (i : Int) < (K : Int) := by omega
      have H3 := Lib.hid hlt
      have hs : (a : Int) + (i : Int) ≤ 512 := by have := HAK.out; omega
      clear hlt hi
      have hok := HALL.out i H3.out
      have HP := Lib.hid (place_any (a + i) (by have := HAK.out; have := H3.out; omega) true hok wr (H.out.more HB.out))
      obtain ⟨f, hf1, hf2, hfn, hf32⟩ := ok_frame H.out.mp.2 (show okP n (Gm.plN L ((a + i) / 64)) = true from hok)
      have HL : Hid (∀ W, DV W g bt B q n gv cap S L D → Calls Tryz.prog 47 #[.pointer (some ⟨bt, 0, none⟩), .int .i64 f, .int .i64 ((a + i) % 64 : Nat), .int .i64 1] W fun e w' => e = .returned (.tuple #[.int .u32 (S.getD (posn L (a + i)) 0), .int .i64 0]) ∧ W = w') := Lib.hid fun W hW => by
        obtain ⟨vs, hs⟩ := hW.st
        have := Fr.refLoad_in (o := (a + i) % 64) (m := 1) hs hfn (by decide) (by omega)
        rw [Fr.fr_at S hfn, num_one hW.s0 hf32 (by omega)] at this
        unfold posn
        rw [hf2]
        exact this
      have hby := H.out.s1.at_ (posn L (a + i))
      have HS := Lib.hid (rB_succ L S a i)
      have HQ : Hid (∀ W, Below w.heap.size w W → DV W g bt B q n gv cap S L D) := Lib.hid fun W hW => H.out.more hW
      rw [show ((a + i : Nat) : Int) = (a : Int) + (i : Int) by omega, hf2] at HP
      clear hok hf1 hf2 hfn hf32
      generalize S.getD (posn L (a + i)) 0 = u at HL hby HS
      generalize (f : Int) = F at HP HL
      generalize (((a + i) % 64 : Nat) : Int) = O at HP HL
      obtain ⟨u0, u1⟩ := hby
      go_wp2_with fail
      refine HP.out.mono ?_
      rintro e w2 ⟨rfl, hb⟩
      have HB1 := Lib.hid (HB.out.trans (hb.mono HB.out.size))
      have HOW1 := Lib.hid (HOW.out.below hb)
      have HD1 := Lib.hid (HQ.out _ HB1.out)
      have c0 := HD1.out.cell0
      clear hb HB HOW
      go_wp2_with fail
      refine (HL.out _ HD1.out).mono ?_
      rintro e w3 ⟨rfl, rfl⟩
      have HBA := Lib.hid (HB1.out.trans (((Below.refl w2.heap.size w2).alloc (Nat.le_refl _) (.cells #[.int .u8 u] 5)).mono HB1.out.size))
      have HOA : Hid (OwnI .u8 (w2.alloc (.cells #[.int .u8 u] 5)) w.heap.size 5 (.slice p i cp) i (rB L S a i)) := HOW1.out.alloc _
      have HRA : Hid (RowK .u8 (w2.alloc (.cells #[.int .u8 u] 5)) (w2.heap.size + 1) (some ⟨w2.heap.size, 0, none⟩) 1 [u]) := RowK.new1 .u8 w2 u _
      clear HL HP c0
      go_wp2_with (refine wpList_append_ints rfl _ _ 70 rfl .u8 w.heap.size 5 1 Tryz.underlying70 (by kernel_rfl) (.slice p i cp) i (rB L S a i) rfl HOA.out _ _ 1 1 [u] rfl HRA.out (by have := H3.out; have := HAK.out; unfold maxLen; omega) (by have := H3.out; have := HAK.out; omega) HBA.out.size ?_; intro v' w' HO2 hb2 _)
      obtain ⟨gn, cp', rfl, _⟩ := HO2.out.form (by omega)
      have HB3 := Lib.hid (HBA.out.trans hb2)
      clear hb2
      go_wp2
      go_roundw
      case rel => exact ⟨i + 1, cp', some ⟨gn, 0, none⟩, H3.out, rfl, by go_num, by rw [HS.out]; exact HO2, HB3⟩
      case measure => have := H3.out; simp [intOf]; omega
    · have f1 : ¬ (i : Int) < (K : Int) := by omega
      obtain rfl : i = K := by omega
      clear hlt hi
      obtain ⟨a', cap', e, _, _, hr⟩ := HOW.out.row
      injection e with e1 e2 e3
      subst e1 e3
      have HR := Lib.hid hr
      clear hr
      go_wp2
      go_ret2
      exact ⟨p, i, ⟨cp, rfl⟩, HR, HB.out⟩

theorem DV.wiped {w : World} (h : DV w g bt B q n gv cap S L D) : DV (w.setRow g (vCells bt q noD).toArray) g bt B q n gv cap S L noD := by
  obtain ⟨vs, hs⟩ := h.st
  have k : Kq [g] w (w.setRow g (vCells bt q noD).toArray) := Kq.setRow (Kq.refl _ _) g _ (by simp)
  exact ⟨h.blk.row _, ⟨vs, rt_kq hs h.pos k (fun x hx => by
    obtain rfl : x = g := by simpa using hx
    exact .inr (.inl ⟨_, h.cell0⟩))⟩, ⟨h.mp.1.kq k (by have := h.qg; simp; omega), h.mp.2⟩, rfl, h.pos, h.s0, h.s1, h.n32, h.bq, h.qg⟩
end
end Go.Proofs.YteaincdeoajkeaaGreatDoor.Vw
end
section
/- Package view: parts and the function that it makes; Own of the program. -/
namespace Go.Proofs.YteaincdeoajkeaaGreatDoor.Vw
open Go.RowKit Go.Shelf Ut Oc
set_option maxRecDepth 100000
set_option linter.unusedVariables false
set_option maxHeartbeats 4000000
attribute [local go_sem] Oper.semAt_some

theorem parts_any (a K : Int) (w : World) :
    Calls Tryz.prog 155 #[.int .i64 a, .int .i64 K] w fun e w' => e = .returned (.func (.func 156) #[] #[.pointer (some ⟨w.heap.size + 1, 0, none⟩), .pointer (some ⟨w.heap.size, 0, none⟩)]) ∧ w' = (w.alloc (.cells #[.int .i64 a] 3)).alloc (.cells #[.int .i64 K] 3) := by
  go_enter Tryz.func155, Tryz.ntmps155
  go_wp2
  go_ret
  exact ⟨rfl, rfl⟩

/-- what is no row of bytes -/
def NoB (o : Obj) : Prop := ∀ cs fr, o ≠ .cells cs 5 fr
theorem noB_cells {cs : Array Value} {t : TypeId} {fr : Nat × Nat} (h : t ≠ 5) : NoB (.cells cs t fr) := fun cs' fr' e => by injection e with _ e2 _; exact h e2
theorem noB_other {o : Obj} (h : o.isCells = false) : NoB o := fun cs fr e => by rw [e] at h; cases h
/-- all blocks but those of T, and rows of bytes, stay as they are -/
def Kz (T : List Nat) (X Y : World) : Prop := X.heap.size ≤ Y.heap.size ∧ ∀ q o, X.heap[q]? = some o → q ∉ T → NoB o → Y.heap[q]? = some o
theorem Kz.of_kq {T : List Nat} {X Y : World} (h : Kq T X Y) : Kz T X Y := ⟨h.size, fun q o h1 h3 _ => (h.block q (Array.getElem?_eq_some_iff.1 h1).1 h3).trans h1⟩
theorem Kz.trans {T : List Nat} {X Y Z : World} (h : Kz T X Y) (k : Kz T Y Z) : Kz T X Z := ⟨Nat.le_trans h.1 k.1, fun q o h1 h2 h3 => k.2 q o (h.2 q o h1 h2 h3) h2 h3⟩
/-- .. of blocks of cells alone -/
def Kc (T : List Nat) (X Y : World) : Prop := X.heap.size ≤ Y.heap.size ∧ ∀ q o, X.heap[q]? = some o → o.isCells = true → q ∉ T → NoB o → Y.heap[q]? = some o
theorem Kc.refl (T : List Nat) (X : World) : Kc T X X := ⟨Nat.le_refl _, fun q o h _ _ _ => h⟩
theorem Kc.trans {T : List Nat} {X Y Z : World} (h : Kc T X Y) (k : Kc T Y Z) : Kc T X Z := ⟨Nat.le_trans h.1 k.1, fun q o h1 h2 h3 h4 => k.2 q o (h.2 q o h1 h2 h3 h4) h2 h3 h4⟩
theorem Kc.of_kz {T : List Nat} {X Y : World} (h : Kz T X Y) : Kc T X Y := ⟨h.1, fun q o h1 _ h3 h4 => h.2 q o h1 h3 h4⟩
theorem Kc.of_below {T : List Nat} {X Y : World} (h : Below X.heap.size X Y) : Kc T X Y := Kc.of_kz (Kz.of_kq (Kq.of_below h))
theorem kc_put {T : List Nat} {w : World} (W : World) (l : Nat) (o o' : Obj) (hl : w.heap.size ≤ l) (h : W.heap[l]? = some o) (hc : o.isCells = false) (_ : o.isWalk = false) : Kc T W (W.putObj l o') := by
  have hg := grownBy_putObj' W l o'
  refine ⟨hg.size, fun q u h1 h2 _ _ => (hg.block q (Array.getElem?_eq_some_iff.1 h1).1 (fun e => ?_)).trans h1⟩
  obtain rfl : q = l := by injection e
  rw [h] at h1
  injection h1 with h1
  rw [h1] at hc
  rw [hc] at h2
  exact absurd h2 (by decide)
theorem boxed_kc {T : List Nat} {X Y : World} {B : Nat} {t : TypeId} {v : Value} (h : Boxed X B t v) (k : Kc T X Y) (hT : B ∉ T) (ht : t ≠ 5) : Boxed Y B t v := k.2 B _ h rfl hT (noB_cells ht)
theorem blk_kc {T : List Nat} {X Y : World} {B : Nat} {t : TypeId} {cs : List Value} (h : Blk X B t cs) (k : Kc T X Y) (hT : B ∉ T) (ht : t ≠ 5) : Blk Y B t cs := k.2 B _ h rfl hT (noB_cells ht)

/-- what a round is handed -/
def encP {a K : Nat} (x : BP a K) : Array Value := #[x.1.v]

theorem parts1_any (l Bn Ba a K : Nat) (T : List Nat) (haK : a + K ≤ 512) (J Jx : List (BP a K) → World → Prop) (W : World) (hJ : AbidesFrom W.heap.size J)
    (hY : ∀ pre x W1, J pre W1 → pre.length < (partsG a K K 0).length → YieldAt Fence.wide 100 Tryz.prog l (encP x) W1 fun e W' =>
      (e = .returned (.bool true) ∧ J (pre ++ [x]) W' ∧ Kc T W1 W') ∨ (e = .returned (.bool false) ∧ Jx (pre ++ [x]) W'))
    (hT : ∀ q ∈ T, q < W.heap.size ∧ q ≠ Bn ∧ q ≠ Ba) (hBn : Boxed W Bn 3 (.int .i64 K)) (hBa : Boxed W Ba 3 (.int .i64 a)) (h0 : J [] W) :
    CallsIn Fence.wide 101 Tryz.prog 156 #[.func (.yield l) #[] #[], .pointer (some ⟨Bn, 0, none⟩), .pointer (some ⟨Ba, 0, none⟩)] W fun e W' => (∃ v, e = .returned v) ∧
      ((∃ ys, ys = partsG a K K 0 ∧ J ys W') ∨ (∃ pre, pre <+: partsG a K K 0 ∧ Jx pre W')) := by
  have HY := Lib.hid hY
  have HJ := Lib.hid hJ
  have HAK := Lib.hid haK
  have HBN := Lib.hid hBn
  have HBA := Lib.hid hBa
  have HT := Lib.hid hT
  clear hY hJ hBn hBa haK hT
  refine callsIn_of_wp Tryz.func156 rfl trivial ?_ rfl
  simp only [Tryz.ntmps156, List.size_toArray, List.length_cons, List.length_nil, Nat.reduceAdd, Nat.reduceSub, Array.replicate_succ, Array.replicate_zero, List.push_toArray, List.append_toArray, List.nil_append, List.cons_append]
  gi_wp2
  gi_loopw [4] (fun j wr => ∃ (i m : Nat) (pre : List (BP a K)), i ≤ K ∧ j = .int .i64 i ∧ Hid (K ≤ i + m) ∧ Hid (partsG a K K 0 = pre ++ partsG a K m i) ∧ J pre wr ∧ Hid (Kc T W wr)) (fun j _ => K - (intOf j).toNat)
  case atStart => exact ⟨0, K, [], Nat.zero_le _, rfl, by show Hid _; exact Lib.hid (by omega), Lib.hid rfl, h0, Lib.hid (Kc.refl _ _)⟩
  case round =>
    obtain ⟨i, m, pre, hi, rfl, HM, HX, hJs, HK⟩ := hrel
    have bn : Boxed wr Bn 3 (.int .i64 K) := boxed_kc HBN.out HK.out (fun e => (HT.out _ e).2.1 rfl) (by decide)
    have ba : Boxed wr Ba 3 (.int .i64 a) := boxed_kc HBA.out HK.out (fun e => (HT.out _ e).2.2 rfl) (by decide)
    have cn := bn.cell
    by_cases hlt : i < K
    · have ca := ba.cell
      have ln := bn.lt
      have la := ba.lt
      obtain ⟨m', rfl⟩ : ∃ m', m = m' + 1 := ⟨m - 1, by have := HM.out; omega⟩
      have hx := HX.out
      rw [partsG_cons hlt] at hx
      have hnb := nxt_bd (a := a) hlt
      have hfine := partAt_fine (a := a) hlt
      have HI := Lib.hid hi
      have f1 : (i : Int) < (K : Int) := by omega
      obtain ⟨P, hP⟩ : ∃ P, (a + i) / 64 = P := ⟨_, rfl⟩
      obtain ⟨O, hO⟩ : ∃ O, (a + i) % 64 = O := ⟨_, rfl⟩
      obtain ⟨Q, hQ⟩ : ∃ Q, nxt a K i = Q := ⟨_, rfl⟩
      have e1 : ((a : Int) + (i : Int)) / 64 = (P : Int) := by omega
      have e2 : ((a : Int) + (i : Int)) % 64 = (O : Int) := by omega
      have eq : Q = min (64 - O) (K - i) := by rw [← hQ, ← hO]; rfl
      have ho : O < 64 := by omega
      have hs0 : (0 : Int) ≤ (a : Int) + (i : Int) := by omega
      have hs1 : (a : Int) + (i : Int) ≤ 512 := by have := HAK.out; omega
      have hk5 : (K : Int) ≤ 512 := by have := HAK.out; omega
      have hpa : partAt a K i = ⟨P, O, Q, i⟩ := by unfold partAt; rw [hP, hO, hQ]
      obtain ⟨x, hxd⟩ : ∃ x : BP a K, x = ⟨partAt a K i, hfine⟩ := ⟨_, rfl⟩
      have hxv : x.1 = ⟨P, O, Q, i⟩ := by rw [hxd]; exact hpa
      rw [← hxd, hQ] at hx
      have HX2 : Hid (partsG a K K 0 = (pre ++ [x]) ++ partsG a K m' (i + Q)) := Lib.hid (by rw [hx]; simp)
      have HLEN : Hid (pre.length < (partsG a K K 0).length) := Lib.hid (by rw [hx]; simp)
      have HM2 : Hid (K ≤ (i + Q) + m') := Lib.hid (by have := HM.out; rw [← hQ]; omega)
      have hiq : i + Q ≤ K := by omega
      have hiq2 : 0 < Q := by omega
      have hB1 : Below wr.heap.size wr (wr.alloc (.cells #[.int .i64 P, .int .i64 O, .int .i64 Q, .int .i64 i] 237)) := (Below.refl wr.heap.size wr).alloc (Nat.le_refl _) _
      have HB1 := Lib.hid hB1
      have HNB : Hid (Blk (wr.alloc (.cells #[.int .i64 P, .int .i64 O, .int .i64 Q, .int .i64 i] 237)) wr.heap.size 237 [.int .i64 P, .int .i64 O, .int .i64 Q, .int .i64 i]) := Lib.hid (Blk.new wr _ _)
      have HNT : Hid (wr.heap.size ∉ T) := Lib.hid fun e => by have := (HT.out _ e).1; have := HK.out.1; omega
      have hJ1 : J pre (wr.alloc (.cells #[.int .i64 P, .int .i64 O, .int .i64 Q, .int .i64 i] 237)) := HJ.out _ _ _ none hJs ⟨hB1.os, hB1.tape, hB1.output, hB1.size, fun k hk _ => hB1.block k hk⟩ (fun r e => by cases e)
      obtain ⟨fn, tmps, assign, body, hy, hR⟩ := HY.out pre x _ hJ1 HLEN.out
      rw [show encP x = #[.agg #[.int .i64 P, .int .i64 O, .int .i64 Q, .int .i64 i]] by unfold encP Part.v; rw [hxv]] at hy
      clear hJ1 hJs hxv hxd hpa hP hO hQ hx hnb hfine hB1 HM HX HLEN HY hi hlt
      rcases Nat.lt_or_ge (K - i) (64 - O) with hc | hc
      · have e3 : (K : Int) - (i : Int) = (Q : Int) := by omega
        have e4 : min ((64 : Int) - (O : Int)) (Q : Int) = (Q : Int) := by omega
        clear hc eq
        gi_wp2
        refine hR.mono ?_
        rintro e W3 (⟨rfl, hJ3, hk3⟩ | ⟨rfl, hJx3⟩)
        · have hp2 : W3.cell? ⟨wr.heap.size, 2, none⟩ = some (.int .i64 Q) := (blk_kc HNB.out hk3 HNT.out (by decide)).cell rfl
          have HK3 := Lib.hid (HK.out.trans ((Kc.of_below HB1.out).trans hk3))
          clear hk3
          gi_wp2
          go_roundw
          case rel => exact ⟨i + Q, m', pre ++ [x], hiq, by go_num, HM2, HX2, hJ3, HK3⟩
          case measure => simp [intOf]; omega
        · gi_wp2
          refine bodyPost_ret (results_none rfl _ _ _) rfl ?_
          exact ⟨⟨_, rfl⟩, .inr ⟨pre ++ [x], ⟨_, HX2.out.symm⟩, hJx3⟩⟩
      · have e3 : (64 : Int) - (O : Int) = (Q : Int) := by omega
        have e4 : min (Q : Int) ((K : Int) - (i : Int)) = (Q : Int) := by omega
        clear hc eq
        gi_wp2
        refine hR.mono ?_
        rintro e W3 (⟨rfl, hJ3, hk3⟩ | ⟨rfl, hJx3⟩)
        · have hp2 : W3.cell? ⟨wr.heap.size, 2, none⟩ = some (.int .i64 Q) := (blk_kc HNB.out hk3 HNT.out (by decide)).cell rfl
          have HK3 := Lib.hid (HK.out.trans ((Kc.of_below HB1.out).trans hk3))
          clear hk3
          gi_wp2
          go_roundw
          case rel => exact ⟨i + Q, m', pre ++ [x], hiq, by go_num, HM2, HX2, hJ3, HK3⟩
          case measure => simp [intOf]; omega
        · gi_wp2
          refine bodyPost_ret (results_none rfl _ _ _) rfl ?_
          exact ⟨⟨_, rfl⟩, .inr ⟨pre ++ [x], ⟨_, HX2.out.symm⟩, hJx3⟩⟩
    · obtain rfl : i = K := by omega
      have hx := HX.out
      rw [partsG_nil (Nat.le_refl _), List.append_nil] at hx
      have HX2 := Lib.hid hx
      clear hx HX
      gi_wp2
      go_end0
      exact ⟨⟨_, rfl⟩, .inl ⟨_, rfl, by rw [HX2.out]; exact hJs⟩⟩
end Go.Proofs.YteaincdeoajkeaaGreatDoor.Vw
end
section
/- Package view: Own of the program: a loop over the parts of a range. -/
namespace Go.Proofs.YteaincdeoajkeaaGreatDoor.Vw
open Go.RowKit Go.Shelf Ut Oc
set_option maxRecDepth 100000
set_option linter.unusedVariables false
set_option maxHeartbeats 4000000
attribute [local go_sem] Oper.semAt_some

theorem parts_stops (Bn Ba a K : Nat) (T : List Nat) (w : World) (haK : a + K ≤ 512) (hT : ∀ q ∈ T, q < w.heap.size ∧ q ≠ Bn ∧ q ≠ Ba) (hBn : Boxed w Bn 3 (.int .i64 K)) (hBa : Boxed w Ba 3 (.int .i64 a)) :
    SeqStopsK Fence.wide 101 Tryz.prog 156 #[.pointer (some ⟨Bn, 0, none⟩), .pointer (some ⟨Ba, 0, none⟩)] encP (Kc T) (fun ys => ys = partsG a K K 0) (fun pre => pre <+: partsG a K K 0) (partsG a K K 0).length w := fun l J Jx W hW hJ _ hY h0 =>
  parts1_any l Bn Ba a K T haK J Jx W hJ hY (fun q hq => ⟨Nat.lt_of_lt_of_le (hT q hq).1 hW.size, (hT q hq).2⟩) ((hW.block Bn hBn.lt).trans hBn) ((hW.block Ba hBa.lt).trans hBa) h0

theorem keepsFrom_kq {T : List Nat} {B : Nat} {X Y : World} (h : Kq T X Y) (hT : ∀ q ∈ T, q < B) : KeepsFrom B X Y :=
  ⟨h.size, fun k o hk ho _ => (h.block k (Array.getElem?_eq_some_iff.1 ho).1 (fun e => by have := hT k e; omega)).trans ho⟩
theorem keepsFrom_kz {T : List Nat} {B : Nat} {X Y : World} (h : Kz T X Y) (hT : ∀ q ∈ T, q < B) : KeepsFrom B X Y :=
  ⟨h.1, fun k o hk ho hc => h.2 k o ho (fun e => by have := hT k e; omega) (noB_other hc)⟩
theorem keepsFrom_below {B : Nat} {X Y : World} (h : Below X.heap.size X Y) : KeepsFrom B X Y := keepsFrom_kq (T := []) (Kq.of_below h) (by simp)
theorem blk_own {β : Type} (B : Nat) (t : TypeId) (f : β → List Value) : Own (fun s W => Blk W B t (f s)) := fun s X Y row hs hg hrow =>
  hs.kept hg (fun e' => by obtain ⟨o, ho, hc⟩ := hrow B e'.symm; rw [show X.heap[B]? = _ from hs] at ho; cases ho; cases hc)

section
variable {b s m n : Nat} {S : List Int} {L : List Gm.Pl} {D : List Bool}
theorem own_un (a : Option Addr) (z k : Int) (w : World) (hM : ∀ W, Below w.heap.size w W → Calls Tryz.prog 50 #[.pointer a] W fun e w' => e = .returned (.bool false) ∧ W = w') :
    Calls Tryz.prog 154 #[.pointer a, .int .u32 z, .int .i64 k] w fun e w' => e = .returned (.bool false) ∧ Below w.heap.size w w' := by
  have HM := Lib.hid hM
  have HBB : Hid (∀ o o' : Obj, Below w.heap.size w ((w.alloc o).alloc o')) := Lib.hid fun o o' => ((Below.refl _ _).alloc (Nat.le_refl _) _).alloc (by simp) _
  have HSet : Hid (∀ (W : World) (o : Nat) (v : Value), Below w.heap.size w W → Below w.heap.size w (W.setCell ⟨w.heap.size + 1, o, none⟩ v)) := Lib.hid fun W o v h => h.setCell (p := ⟨w.heap.size + 1, o, none⟩) (by simp) _
  clear hM
  go_enter Tryz.func154, Tryz.ntmps154
  go_wp2_with fail
  refine (HM.out _ (HBB.out _ _)).mono ?_
  rintro e w1 ⟨rfl, rfl⟩
  go_wp2
  exact bodyPost_ret (v := .bool false) (by simp [results, Tryz.results154, go_sem]) rfl ⟨rfl, by first | exact HBB.out _ _ | exact HSet.out _ _ _ (HBB.out _ _)⟩
theorem own_out (z k : Int) (h0 : 0 ≤ z) (h1 : z < 4294967296) (hb : k < 0 ∨ 512 < z ∨ 512 - z < k) (w : World) (hP : PV w b s m n S L D) :
    Calls Tryz.prog 154 #[.pointer (some ⟨b, 0, none⟩), .int .u32 z, .int .i64 k] w fun e w' => e = .returned (.bool false) ∧ Below w.heap.size w w' := by
  have HM : Hid (∀ W, Below w.heap.size w W → Calls Tryz.prog 50 #[.pointer (some ⟨b, 0, none⟩)] W fun e w' => e = .returned (.bool true) ∧ W = w') := Lib.hid fun W hW => made_yes b s W (hP.more hW).cell0
  have HBB : Hid (∀ o o' : Obj, Below w.heap.size w ((w.alloc o).alloc o')) := Lib.hid fun o o' => ((Below.refl _ _).alloc (Nat.le_refl _) _).alloc (by simp) _
  have HSet : Hid (∀ (W : World) (o : Nat) (v : Value), Below w.heap.size w W → Below w.heap.size w (W.setCell ⟨w.heap.size + 1, o, none⟩ v)) := Lib.hid fun W o v h => h.setCell (p := ⟨w.heap.size + 1, o, none⟩) (by simp) _
  clear hP
  by_cases c1 : k < 0
  · have d1 : decide (k < 0) = true := by simpa using c1
    clear hb c1
    go_enter Tryz.func154, Tryz.ntmps154
    go_wp2_with fail
    refine (HM.out _ (HBB.out _ _)).mono ?_
    rintro e w1 ⟨rfl, rfl⟩
    go_wp2
    exact bodyPost_ret (v := .bool false) (by simp [results, Tryz.results154, go_sem]) rfl ⟨rfl, by first | exact HBB.out _ _ | exact HSet.out _ _ _ (HBB.out _ _)⟩
  have d1 : decide (k < 0) = false := by simpa using c1
  by_cases c2 : 512 < z
  · have d2 : decide (512 < z) = true := by simpa using c2
    clear hb c1 c2
    go_enter Tryz.func154, Tryz.ntmps154
    go_wp2_with fail
    refine (HM.out _ (HBB.out _ _)).mono ?_
    rintro e w1 ⟨rfl, rfl⟩
    go_wp2
    exact bodyPost_ret (v := .bool false) (by simp [results, Tryz.results154, go_sem]) rfl ⟨rfl, by first | exact HBB.out _ _ | exact HSet.out _ _ _ (HBB.out _ _)⟩
  have d2 : decide (512 < z) = false := by simpa using c2
  have d3 : decide (512 - z < k) = true := by simp; omega
  have hz : z ≤ 512 := by omega
  clear hb c1 c2 h1
  go_enter Tryz.func154, Tryz.ntmps154
  go_wp2_with fail
  refine (HM.out _ (HBB.out _ _)).mono ?_
  rintro e w1 ⟨rfl, rfl⟩
  go_wp2
  exact bodyPost_ret (v := .bool false) (by simp [results, Tryz.results154, go_sem]) rfl ⟨rfl, by first | exact HBB.out _ _ | exact HSet.out _ _ _ (HBB.out _ _)⟩

/-- all pages of the parts are own ones just if all bytes are -/
theorem parts_own (a K : Nat) : (∀ x ∈ partsG a K K 0, okP n (Gm.plN L x.1.page) = true) ↔ ∀ i, i < K → okA n L (a + i) = true := by
  rw [parts_all (fun j => okP n (Gm.plN L j) = true) K 0 (by omega)]
  exact ⟨fun h i hi => h i (Nat.zero_le _) hi, fun h j _ hj => h j hj⟩
theorem plN_page {a K : Nat} (haK : a + K ≤ 512) (x : BP a K) : Gm.atP L (x.1.page : Int) = Gm.plN L x.1.page := Gm.atP_is (by obtain ⟨p, h1, h2, h3, h4⟩ := x; show p.page < 12; omega)

theorem own_in (a K : Nat) (haK : a + K ≤ 512) (t : Bool) (ht : t = true ↔ ∀ i, i < K → okA n L (a + i) = true) (w : World) (hP : PV w b s m n S L D) :
    Calls Tryz.prog 154 #[.pointer (some ⟨b, 0, none⟩), .int .u32 a, .int .i64 K] w fun e w' => e = .returned (.bool t) ∧ Below w.heap.size w w' := by
  have HM : Hid (∀ W, Below w.heap.size w W → Calls Tryz.prog 50 #[.pointer (some ⟨b, 0, none⟩)] W fun e w' => e = .returned (.bool true) ∧ W = w') := Lib.hid fun W hW => made_yes b s W (hP.more hW).cell0
  have HPP := Lib.hid hP
  have HT := Lib.hid ht
  rw [← parts_own (n := n) (L := L) a K] at ht
  have HTP := Lib.hid ht
  have HAK := Lib.hid haK
  have d1 : decide ((K : Int) < 0) = false := by simp
  have d2 : decide ((512 : Int) < (a : Int)) = false := by simp; omega
  have d3 : decide ((512 : Int) - (a : Int) < (K : Int)) = false := by simp; omega
  have ha : (a : Int) ≤ 512 := by omega
  have hK : (K : Int) ≤ 512 := by omega
  have HBB : Hid (∀ o o' : Obj, Below w.heap.size w ((w.alloc o).alloc o')) := Lib.hid fun o o' => ((Below.refl _ _).alloc (Nat.le_refl _) _).alloc (by simp) _
  clear hP haK ht
  refine (callsIn_wide (n := 102)).1 ?_
  refine callsIn_of_wp_marks Tryz.func154 rfl trivial ?_ rfl
  simp only [Tryz.ntmps154, List.size_toArray, List.length_cons, List.length_nil, Nat.reduceAdd, Nat.reduceSub, Array.replicate_succ, Array.replicate_zero, List.push_toArray, List.append_toArray, List.nil_append, List.cons_append]
  gi_wp2_with (first | (refine ⟨trivial, ?_⟩; gi_at_call 50; refine (callsIn_wide.2 (HM.out _ (HBB.out _ _))).mono ?_; rintro e w' ⟨rfl, rfl⟩) | (refine ⟨trivial, ?_⟩; gi_at_call 155; refine (callsIn_wide.2 (parts_any _ _ _)).mono ?_; rintro e w' ⟨rfl, rfl⟩))
  have bV := (((Boxed.new w 25 (.pointer (some ⟨b, 0, none⟩))).alloc (.cells #[.bool false] 4)).alloc (.cells #[.int .i64 a] 3)).alloc (.cells #[.int .i64 K] 3)
  have bR := ((Boxed.new (w.alloc (.cells #[.pointer (some ⟨b, 0, none⟩)] 25)) 4 (.bool false)).alloc (.cells #[.int .i64 a] 3)).alloc (.cells #[.int .i64 K] 3)
  have bA := (Boxed.new ((w.alloc (.cells #[.pointer (some ⟨b, 0, none⟩)] 25)).alloc (.cells #[.bool false] 4)) 3 (.int .i64 a)).alloc (.cells #[.int .i64 K] 3)
  have bK := Boxed.new (((w.alloc (.cells #[.pointer (some ⟨b, 0, none⟩)] 25)).alloc (.cells #[.bool false] 4)).alloc (.cells #[.int .i64 a] 3)) 3 (.int .i64 K)
  simp only [World.size_alloc] at bR bA bK
  have hB0 : Below w.heap.size w ((((w.alloc (.cells #[.pointer (some ⟨b, 0, none⟩)] 25)).alloc (.cells #[.bool false] 4)).alloc (.cells #[.int .i64 a] 3)).alloc (.cells #[.int .i64 K] 3)) := ((((Below.refl _ w).alloc (Nat.le_refl _) _).alloc (by simp) _).alloc (by simp; omega) _).alloc (by simp; omega) _
  have hsz : ((((w.alloc (.cells #[.pointer (some ⟨b, 0, none⟩)] 25)).alloc (.cells #[.bool false] 4)).alloc (.cells #[.int .i64 a] 3)).alloc (.cells #[.int .i64 K] 3)).heap.size = w.heap.size + 4 := by simp
  obtain ⟨W0, hW0⟩ : ∃ W0, (((w.alloc (.cells #[.pointer (some ⟨b, 0, none⟩)] 25)).alloc (.cells #[.bool false] 4)).alloc (.cells #[.int .i64 a] 3)).alloc (.cells #[.int .i64 K] 3) = W0 := ⟨_, rfl⟩
  rw [hW0] at bV bR bA bK hB0 hsz ⊢
  clear hW0 d1 d2 d3
  refine wpIn_rangeFunc_ownH rfl (by omega) (gf := 156) (lb := #[.pointer (some ⟨w.heap.size + 1 + 1 + 1, 0, none⟩), .pointer (some ⟨w.heap.size + 1 + 1, 0, none⟩)]) rfl trivial (enters_of Tryz.func156 (by kernel_rfl) rfl)
    (parts_stops (w.heap.size + 1 + 1 + 1) (w.heap.size + 1 + 1) a K [] W0 HAK.out (by simp) bK bA) Kc.trans kc_put (Below.refl _ _) (fun _ => rfl)
    (fun pre W => ((∀ x ∈ pre, okP n (Gm.plN L x.1.page) = true) ∧ Boxed W w.heap.size 25 (.pointer (some ⟨b, 0, none⟩)) ∧ Boxed W (w.heap.size + 1) 4 (.bool false)) ∧ Below w.heap.size w W)
    (fun c pre W => (c = .ret ∧ (∃ x ∈ pre, okP n (Gm.plN L x.1.page) = false) ∧ Boxed W (w.heap.size + 1) 4 (.bool false)) ∧ Below w.heap.size w W)
    (OwnFrom.and (Own.from (fun s X Y row hs hg hr => ⟨hs.1, boxed_own _ _ (fun _ : Unit => _) () X Y row hs.2.1 hg hr, boxed_own _ _ (fun _ : Unit => _) () X Y row hs.2.2 hg hr⟩) _) (ownFrom_below (Nat.le_refl _) (by omega)))
    (fun c => OwnFrom.and (Own.from (fun s X Y row hs hg hr => ⟨hs.1, hs.2.1, boxed_own _ _ (fun _ : Unit => _) () X Y row hs.2.2 hg hr⟩) _) (ownFrom_below (Nat.le_refl _) (by omega)))
    ⟨⟨by simp, bV, bR⟩, hB0⟩
    (fun x a' W => ∃ Bx, w.heap.size + 1 < Bx ∧ Blk W Bx 237 x.1.cs ∧ a' = { tmps := #[.pointer (some ⟨b, 0, none⟩), .int .u32 a, .int .i64 K, .pointer (some ⟨w.heap.size, 0, none⟩), undef, undef, .pointer (some ⟨w.heap.size + 1, 0, none⟩), .pointer (some ⟨Bx, 0, none⟩), undef, undef, .pointer (some ⟨b, 0, none⟩), .bool true, .bool false, .bool false, .int .i64 K, .bool false, .bool false, .bool false, .int .u32 a, .bool false, .bool false, .bool false, .int .i64 K, .int .u32 a, .int .i64 a, .int .i64 (512 - a), .bool false, .bool false, .int .u32 a, .int .i64 a, .int .i64 K, .func (.func 156) #[] #[.pointer (some ⟨w.heap.size + 1 + 1 + 1, 0, none⟩), .pointer (some ⟨w.heap.size + 1 + 1, 0, none⟩)], x.1.v, undef, undef, undef, undef, undef, undef, undef, undef, undef], defers := [] })
    (fun x a' _ X Y row hs hg hr => by obtain ⟨Bx, h1, h2, h3⟩ := hs; exact ⟨Bx, h1, blk_own Bx _ (fun _ : Unit => _) () X Y row h2 hg (fun r e => (hr r e).2), h3⟩)
    ?assign ?body ?done ?stop
  case assign =>
    rintro l pre x W K' ⟨⟨hp, bV1, bR1⟩, hB1⟩ hK
    have hlt := bR1.lt
    dsimp only [encP, Part.v]
    gi_wp2
    exact hK _ _ ((KeepsOthers.alloc _ _).from _) (Kc.of_below ((Below.refl _ W).alloc (Nat.le_refl _) _)) ⟨⟨hp, bV1.alloc _, bR1.alloc _⟩, hB1.alloc hB1.size _⟩ ⟨W.heap.size, by omega, Blk.new W _ _, rfl⟩
  case body =>
    rintro l pre x a' W hl ⟨r, hr⟩ ⟨⟨hp, bV1, bR1⟩, hB1⟩ ⟨Bx, hBx, bX, rfl⟩ hlt
    have cV := bV1.cell
    have x0 : W.cell? ⟨Bx, 0, none⟩ = some (.int .i64 x.1.page) := bX.cell rfl
    have hpg := plN_page (L := L) HAK.out x
    obtain ⟨o, ho⟩ : ∃ o, okP n (Gm.plN L x.1.page) = o := ⟨_, rfl⟩
    have HFR := Lib.hid (fun W hW => frame_any (b := b) (s := s) (m := m) (n := n) (S := S) (L := L) (D := D) (x.1.page : Int) _ o (by rw [hpg]; exact ho) rfl W hW)
    have HP1 := Lib.hid (HPP.out.more hB1)
    have HO := Lib.hid ho
    have HPR := Lib.hid hp
    have bR2 := Lib.hid bR1
    have bV2 := Lib.hid bV1
    have HBW := Lib.hid hB1
    have HHL := Lib.hid hl
    clear hpg ho hp bR1 bV1 hB1 bX hr hlt hl
    generalize frP n (Gm.atP L (x.1.page : Int)) = F at HFR
    cases o
    · gi_wp2_with (refine ⟨trivial, ?_⟩; gi_at_call 101; refine (CallsIn.inRound l (callsIn_wide.2 (HFR.out _ HP1.out))).mono ?_; rintro e w1 ⟨rfl, hb1⟩; have cR : Boxed w1 (w.heap.size + 1) 4 (.bool false) := (hb1.block _ bR2.out.lt).trans bR2.out; have cR1 := cR.cell; have cR2 := cR.frozen)
      exact ⟨(keepsFrom_below hb1).trans ((KeepsOthers.setCell _ _ _).from _), ⟨rfl, ⟨x, by simp, HO.out⟩, cR.set _⟩, (HBW.out.trans (hb1.mono HBW.out.size)).setCell (p := ⟨w.heap.size + 1, 0, none⟩) (by simp) _⟩
    · gi_wp2_with (refine ⟨trivial, ?_⟩; gi_at_call 101; refine (CallsIn.inRound l (callsIn_wide.2 (HFR.out _ HP1.out))).mono ?_; rintro e w1 ⟨rfl, hb1⟩; have cR : Boxed w1 (w.heap.size + 1) 4 (.bool false) := (hb1.block _ bR2.out.lt).trans bR2.out; have cR1 := cR.cell; have cR2 := cR.frozen)
      exact ⟨keepsFrom_below hb1, Kc.of_below hb1, ⟨fun y hy => (List.mem_append.1 hy).elim (HPR.out y) (fun e => by simp at e; subst e; exact HO.out), (hb1.block _ bV2.out.lt).trans bV2.out, cR⟩, HBW.out.trans (hb1.mono HBW.out.size)⟩
  case done =>
    rintro D' zs W hD rfl ⟨⟨hp, bV1, bR1⟩, hB1⟩ hK'
    have cR1 := bR1.cell
    have cR2 := bR1.frozen
    have HTT := Lib.hid (HTP.out.2 hp)
    clear hp
    gi_wp2
    have hK2 := (KeepsOthers.setCell W ⟨w.heap.size + 1, 0, none⟩ (.bool true)).same D' _ hK' rfl
    refine ⟨by simp, .inl ⟨_, _, rfl, run_takeDeferred hK2, ?_⟩⟩
    have hc5 := cell_kept (World.cell?_setCell_same' W ⟨w.heap.size + 1, 0, none⟩ (.bool true) (by rw [cR1]; rfl)) (grownBy_putObj' _ D' (.deferred none)) (fun r e => by cases e; exact ⟨_, hK2, rfl⟩)
    refine ⟨.bool true, ?_, by rw [HTT.out], (hB1.setCell (p := ⟨w.heap.size + 1, 0, none⟩) (by simp) _).trans (belowK_b (w := w) (Nat.le_refl _) _ D' _ _ (by omega) hK2 rfl rfl)⟩
    simp [results, Tryz.results154, go_sem, hc5]
  case stop =>
    rintro D' c pre W hD hpre ⟨⟨rfl, hex, bR1⟩, hB1⟩ hK'
    have cR1 := bR1.cell
    have HTF : Hid (t = false) := Lib.hid (by
      obtain ⟨x, hx, ho⟩ := hex
      cases t
      · rfl
      · have := HTP.out.1 rfl x (hpre.subset hx)
        rw [ho] at this
        exact absurd this (by decide))
    clear hex
    gi_wp2
    refine ⟨by simp, .inl ⟨_, _, rfl, run_takeDeferred hK', ?_⟩⟩
    have hc5 := cell_kept cR1 (grownBy_putObj' _ D' (.deferred none)) (fun r e => by cases e; exact ⟨_, hK', rfl⟩)
    refine ⟨.bool false, ?_, by rw [HTF.out], hB1.trans (belowK_b (w := w) (Nat.le_refl _) W D' _ _ (by omega) hK' rfl rfl)⟩
    simp [results, Tryz.results154, go_sem, hc5]
theorem own_any (z k : Int) (t : Bool) (h0 : 0 ≤ z) (h1 : z < 4294967296) (ht : ownB n L z k = t) (w : World) (hP : PV w b s m n S L D) :
    Calls Tryz.prog 154 #[.pointer (some ⟨b, 0, none⟩), .int .u32 z, .int .i64 k] w fun e w' => e = .returned (.bool t) ∧ Below w.heap.size w w' := by
  rcases own_cases n L z k h0 with ⟨h2, h3⟩ | ⟨a, K, rfl, rfl, h2, h3⟩
  · rw [h2] at ht
    subst ht
    exact own_out z k h0 h1 h3 w hP
  · rw [ht] at h3
    exact own_in a K h2 t h3 w hP
end
end Go.Proofs.YteaincdeoajkeaaGreatDoor.Vw
end
