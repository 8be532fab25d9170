/- Several texts in one: Ye Yh -/
import Derived.Test.YtoafonbplbblpaaZ15
import Derived.Deep.CutBlock
import Derived.Test.YtoafonbplbblpaaZ16
import Derived.Test.YtoafonbplbblpaaZ17
section
/- Package view: Dirty, Map, Store, of the program; the document's Dirty. -/
namespace Go.Proofs.Ytoafonbplbblpaa.Vw
open Go.RowKit Ut Oc
set_option maxRecDepth 100000
set_option linter.unusedVariables false
set_option maxHeartbeats 4000000

/-- the pages below k that were written, rising -/
def dirtL (D : List Bool) (k : Nat) : List Int := ((List.range k).filter fun i => D.getD i false).map fun i : Nat => (i : Int)
theorem dirtL_succ (D : List Bool) (k : Nat) : dirtL D (k + 1) = dirtL D k ++ if D.getD k false = true then [(k : Int)] else [] := by
  unfold dirtL
  rw [List.range_succ, List.filter_append, List.map_append]
  by_cases h : D.getD k false = true
  · have e : List.filter (fun i => D.getD i false) [k] = [k] := by simp only [List.filter, h]
    rw [e, if_pos h]; rfl
  · have e : List.filter (fun i => D.getD i false) [k] = [] := by
      have h2 : D.getD k false = false := by simpa using h
      simp only [List.filter, h2]
    rw [e, if_neg h]; rfl
theorem dirtL_len (D : List Bool) (k : Nat) : (dirtL D k).length ≤ k := by
  unfold dirtL
  rw [List.length_map]
  exact Nat.le_trans (List.length_filter_le _ _) (by simp)
theorem dirtL_none (k : Nat) : dirtL noD k = [] := by
  unfold dirtL
  have : (List.range k).filter (fun i => noD.getD i false) = [] := by
    rw [List.filter_eq_nil_iff]
    intro i _
    unfold noD
    rw [List.getD_eq_getElem?_getD, List.getElem?_replicate]
    split <;> simp
  rw [this]; rfl

theorem idx_bool (D : List Bool) (hD : D.length = 12) (k : Nat) (hk : k < 12) : ∀ W, (Instr.index 72 (.agg (D.map Value.bool).toArray) (.int .i64 k)).run Try.prog W = .ok (.bool (D.getD k false)) W := by
  match D, hD with
  | [d0, d1, d2, d3, d4, d5, d6, d7, d8, d9, d10, d11], _ =>
    match k, hk with
    | 0, _ => exact fun _ => by kernel_rfl
    | 1, _ => exact fun _ => by kernel_rfl
    | 2, _ => exact fun _ => by kernel_rfl
    | 3, _ => exact fun _ => by kernel_rfl
    | 4, _ => exact fun _ => by kernel_rfl
    | 5, _ => exact fun _ => by kernel_rfl
    | 6, _ => exact fun _ => by kernel_rfl
    | 7, _ => exact fun _ => by kernel_rfl
    | 8, _ => exact fun _ => by kernel_rfl
    | 9, _ => exact fun _ => by kernel_rfl
    | 10, _ => exact fun _ => by kernel_rfl
    | 11, _ => exact fun _ => by kernel_rfl
    | k + 12, h => omega
theorem size_bools (D : List Bool) (hD : D.length = 12) : (Try.prog.info? 72).map (·.size) = some (D.map Value.bool).length := by
  rw [List.length_map, hD]
  kernel_rfl
theorem vCells_d (s m : Nat) (D : List Bool) : ∀ j v, (D.map Value.bool)[j]? = some v → (vCells s m D)[2 + j]? = some v := fun j v h => by
  rw [show 2 + j = j + 1 + 1 by omega]
  simpa [vCells] using h
theorem vCells_wipe (s m : Nat) (D : List Bool) (hD : D.length = 12) : splice (vCells s m D) 2 noDv = vCells s m noD := by
  simp [splice, vCells, noDv, noD, hD]
theorem noDv_one : ∀ v ∈ noDv, v.oneCell' = true := by decide
theorem vCells_len (s m : Nat) (D : List Bool) (hD : D.length = 12) : 2 + noDv.length ≤ (vCells s m D).length := by simp [vCells, noDv, noD, hD]

section
variable {b s m n : Nat} {S : List Int} {L : List Gm.Pl} {D : List Bool}
theorem PV.wiped {w : World} (h : PV w b s m n S L D) : PV (w.setRow b (vCells s m noD).toArray) b s m n S L noD where
  blk := h.blk.row _
  st := h.st.of_block (setRow_other _ _ _ _ (fun e => by have := h.sm; have := h.mb; omega))
  mp := ⟨h.mp.1.of_block (setRow_other _ _ _ _ (fun e => by have := h.mb; omega)), h.mp.2⟩
  len := rfl
  pos := h.pos
  sm := h.sm
  mb := h.mb
theorem Kq.setRow {T : List Nat} {w w' : World} (h : Kq T w w') (b : Nat) (cs : Array Value) (hb : b ∈ T) : Kq T w (w'.setRow b cs) :=
  ⟨h.os, h.tape, h.output, by rw [size_setRow]; exact h.size, fun q hq hn => (setRow_other _ _ _ _ (fun e => hn (by rw [e]; exact hb))).trans (h.block q hq hn)⟩
theorem map_any (w : World) (hP : PV w b s m n S L D) : Calls Try.prog 19 #[.pointer (some ⟨b, 0, none⟩)] w fun e w' => e = .returned (.pointer (some ⟨m, 0, none⟩)) ∧ w = w' := by
  have HM := Lib.hid (made_yes b s w hP.cell0)
  have c1 := hP.cell1
  clear hP
  go_enter Try.func19, Try.ntmps19
  go_wp2_with fail
  refine HM.out.mono ?_
  rintro e w1 ⟨rfl, rfl⟩
  go_wp2
  go_ret
  exact ⟨rfl, rfl⟩
theorem map_un (a : Option Addr) (w : World) (hM : Calls Try.prog 40 #[.pointer a] w fun e w' => e = .returned (.bool false) ∧ w = w') : Calls Try.prog 19 #[.pointer a] w fun e w' => e = .returned (.pointer none) ∧ w = w' := by
  have HM := Lib.hid hM
  clear hM
  go_enter Try.func19, Try.ntmps19
  go_wp2_with fail
  refine HM.out.mono ?_
  rintro e w1 ⟨rfl, rfl⟩
  go_wp2
  go_ret
  exact ⟨rfl, rfl⟩
theorem dirty_un (a : Option Addr) (w : World) (hM : Calls Try.prog 40 #[.pointer a] w fun e w' => e = .returned (.bool false) ∧ w = w') : Calls Try.prog 13 #[.pointer a] w fun e w' => e = .returned (.slice none 0 0) ∧ w = w' := by
  have HM := Lib.hid hM
  clear hM
  go_enter Try.func13, Try.ntmps13
  go_wp2_with fail
  refine HM.out.mono ?_
  rintro e w1 ⟨rfl, rfl⟩
  go_wp2
  go_ret
  exact ⟨rfl, rfl⟩

theorem dirty_any (w : World) (hP : PV w b s m n S L D) :
    Calls Try.prog 13 #[.pointer (some ⟨b, 0, none⟩)] w fun e w' => ∃ a k cap, e = .returned (.slice a k cap) ∧ Hid (RowK .i64 w' w'.heap.size a k (dirtL D 12)) ∧ PV w' b s m n S L noD ∧ Kq [b] w w' := by
  have HP := Lib.hid hP
  have HM := Lib.hid (made_yes b s w hP.cell0)
  have HD := Lib.hid hP.len
  have hix := idx_bool D hP.len
  have HA : Hid (∀ (ρ : Operand → Value) (o : Oper), o.op = .load 72 (.tmp 11) → ρ (.tmp 11) = .pointer (some ⟨b, 2, none⟩) → (execOp ρ o).run Try.prog w = .ok (.value (.agg (D.map Value.bool).toArray)) w) :=
    Lib.hid fun ρ o ho hx => exec_load_blk hP.blk 2 72 (.tmp 11) ho hx (D.map Value.bool) (vCells_d s m D) _ Try.underlying72 rfl (size_bools D hP.len)
  clear hP
  have HIX := Lib.hid hix
  clear hix
  generalize hA : (D.map Value.bool).toArray = A at HA HIX
  clear hA
  go_enter Try.func13, Try.ntmps13
  go_upto_region 4 with (go_at_call 40; refine HM.out.mono ?_; rintro e w1 ⟨rfl, rfl⟩)
  refine wp_region_lit ?_
  refine Great.wpList_readTo rfl _ rfl (.pointer (some ⟨b, 0, none⟩)) (by kernel_rfl) ?_
  refine Great.wpList_readTo rfl _ rfl (.pointer (some ⟨b, 0, none⟩)) (by kernel_rfl) ?_
  refine Great.wpList_readTo rfl _ rfl (.pointer (some ⟨b, 2, none⟩)) (by kernel_rfl) ?_
  refine Great.wpList_readTo rfl _ rfl (.agg A) (HA.out _ _ rfl (by kernel_rfl)) ?_
  refine Great.wpList_readTo rfl _ rfl (.int .i64 0) (by kernel_rfl) ?_
  clear HA
  simp only [Act.put, List.setIfInBounds_toArray, List.set_cons_succ, List.set_cons_zero]
  go_wp2
  go_loopw [3, 13] (fun v j wr => ∃ (k n cap : Nat) (a : Option Addr), k ≤ 12 ∧ n ≤ k ∧ v = .slice a n cap ∧ j = .int .i64 k ∧ Hid (OwnI .i64 wr w.heap.size 3 (.slice a n cap) n (dirtL D k)) ∧ Hid (Below w.heap.size w wr)) (fun _ j _ => 12 - (intOf j).toNat)
  case atStart => exact ⟨0, 0, 0, none, by omega, by omega, rfl, rfl, OwnI.nil _ _ _ _, Below.refl _ _⟩
  case round =>
    obtain ⟨k, n, cap, a, hk, hn, rfl, rfl, HO, HB⟩ := hrel
    by_cases hlt : k < 12
    · have f1 : (k : Int) < 12 := by omega
      have H3 := Lib.hid hlt
      have HN := Lib.hid hn
      have hix := HIX.out k hlt
      have HS := Lib.hid (dirtL_succ D k)
      clear hlt hk hn
      obtain ⟨t, ht⟩ : ∃ t, D.getD k false = t := ⟨_, rfl⟩
      rw [ht] at hix HS
      clear ht
      obtain ⟨xs, hxs⟩ : ∃ xs, dirtL D k = xs := ⟨_, rfl⟩
      rw [hxs] at HO HS
      clear hxs
      cases t
      · go_wp2
        go_roundw
        case rel => exact ⟨k + 1, n, cap, a, by have := H3.out; omega, by have := HN.out; omega, rfl, by go_num, by rw [HS.out]; simpa using HO, HB⟩
        case measure => have := H3.out; simp [intOf]; omega
      · have HBA := Lib.hid (HB.out.trans (((Below.refl wr.heap.size wr).alloc (Nat.le_refl _) (.cells #[.int .i64 k] 3)).mono HB.out.size))
        have HOA : Hid (OwnI .i64 (wr.alloc (.cells #[.int .i64 k] 3)) w.heap.size 3 (.slice a n cap) n xs) := HO.out.alloc _
        have HRA : Hid (RowK .i64 (wr.alloc (.cells #[.int .i64 k] 3)) (wr.heap.size + 1) (some ⟨wr.heap.size, 0, none⟩) 1 [(k : Int)]) := RowK.new1 .i64 wr k _
        go_wp2_with (refine wpList_append_ints rfl _ _ 45 rfl .i64 w.heap.size 3 8 Try.underlying45 (by kernel_rfl) (.slice a n cap) n xs rfl HOA.out _ _ 1 1 [(k : Int)] rfl HRA.out (by have := HN.out; have := H3.out; unfold maxLen; omega) (by have := HN.out; have := H3.out; omega) HBA.out.size ?_; intro v' w' HO2 hb2 _)
        obtain ⟨g, cap', rfl, _⟩ := HO2.out.form (by omega)
        have HB3 := Lib.hid (HBA.out.trans hb2)
        go_wp2
        go_roundw
        case rel => exact ⟨k + 1, n + 1, cap', some ⟨g, 0, none⟩, by have := H3.out; omega, by have := HN.out; omega, rfl, by go_num, by rw [HS.out]; simpa using HO2, HB3⟩
        case measure => have := H3.out; simp [intOf]; omega
    · have f1 : ¬ (k : Int) < 12 := by omega
      obtain rfl : k = 12 := by omega
      clear hlt hk
      obtain ⟨a', cap', e, _, _, hr⟩ := HO.out.row
      injection e with e1 e2 e3
      subst e1 e3
      have HPw := Lib.hid (HP.out.more HB.out)
      have hbb : b < w.heap.size := HP.out.lt
      have HRW : Hid (RowK .i64 (wr.setRow b (vCells s m noD).toArray) wr.heap.size a n (dirtL D 12)) := Lib.hid ⟨hr.1, fun i hi => by
        obtain ⟨x, e, hx, hc⟩ := hr.2 i hi
        refine ⟨x, e, hx, ?_⟩
        rw [World.cell?_of_block (w := wr)]
        · exact hc
        · rw [block_of_add]
          refine setRow_other _ _ _ _ (fun e2 => ?_)
          rcases HO.out.2 with ⟨e3, hn0⟩ | ⟨g, c, cur, e3, hg, _⟩
          · omega
          · injection e3 with e3
            rw [e] at e3
            injection e3 with e3
            subst e3
            simp at e2
            omega⟩
      have HK : Hid (Kq [b] w (wr.setRow b (vCells s m noD).toArray)) := Lib.hid (Kq.setRow (Kq.of_below HB.out) b _ (by simp))
      have HPN := Lib.hid HPw.out.wiped
      have HLE : Hid (wr.heap.size = (wr.setRow b (vCells s m noD).toArray).heap.size) := Lib.hid (size_setRow _ _ _).symm
      clear hr hbb
      go_upto_region 10 with fail
      refine wp_region_lit ?_
      refine Great.wpList_readTo rfl _ rfl (.pointer (some ⟨b, 0, none⟩)) (by kernel_rfl) ?_
      refine wpList_buildTo rfl 72 _ rfl _ rfl noDv.toArray (by kernel_rfl) ?_
      refine Great.wpList_readTo rfl _ rfl (.pointer (some ⟨b, 0, none⟩)) (by kernel_rfl) ?_
      refine Great.wpList_readTo rfl _ rfl (.pointer (some ⟨b, 2, none⟩)) (by kernel_rfl) ?_
      refine wpList_store_cells rfl 72 _ _ rfl b 2 97 (vCells s m D) noDv (by kernel_rfl) (by kernel_rfl) HPw.out.blk (by kernel_rfl) (vCells_len s m D HD.out) noDv_one ?_
      rw [vCells_wipe s m D HD.out]
      generalize wr.setRow b (vCells s m noD).toArray = W at HRW HK HPN HLE ⊢
      go_wp2
      go_ret
      exact ⟨a, n, ⟨cap, rfl⟩, by rw [← HLE.out]; exact HRW.out, HPN.out, HK.out⟩
end
end Go.Proofs.Ytoafonbplbblpaa.Vw
end
section
/- The document's view (hermitageref16): place, Own, Read, Write, Dirty. -/
namespace Go.Proofs.Ytoafonbplbblpaa.Vw
open Go.RowKit Ut Oc
set_option maxRecDepth 100000
set_option linter.unusedVariables false
set_option maxHeartbeats 4000000

theorem atP_nat {L : List Gm.Pl} {p : Nat} (h : p < 768) : Gm.atP L ((p : Int) / 64) = Gm.plN L (p / 64) := by
  rw [show (p : Int) / 64 = ((p / 64 : Nat) : Int) by omega]
  exact Gm.atP_is (by omega)
section
variable {g bt B q n gv cap : Nat} {S : List Int} {L : List Gm.Pl} {D : List Bool}
theorem place_none (z : Int) (h0 : 0 ≤ z) (h1 : z < 512) (hp : Gm.atP L (z / 64) = (0, 0)) (w : World) (h : DV w g bt B q n gv cap S L D) :
    Calls Try.prog 82 #[.pointer (some ⟨g, 0, none⟩), .int .i64 z] w fun e w' => e = .returned (.tuple #[.int .i64 0, .int .i64 0, .bool false]) ∧ Below w.heap.size w w' := by
  have HG := Lib.hid (Gm.refGet_any q L (z / 64) (0, 0) false hp rfl w h.mp)
  have c1 := h.cell1
  have HBX : Hid (∀ (W : World) (x y : Int), Below w.heap.size w W → Below w.heap.size w (W.alloc (.cells #[.int .i64 x, .int .i64 y] 58))) := Lib.hid fun W x y h => h.alloc h.size _
  have d8 : decide (8 ≤ z / 64) = false := by simp; omega
  have d0 : (0 : Int) ≤ z / 64 := by omega
  clear h hp
  go_enter Try.func82, Try.ntmps82
  go_wp2_with fail
  refine HG.out.mono ?_
  rintro e w1 ⟨rfl, hb⟩
  have HB := Lib.hid (HBX.out _ 0 0 hb)
  clear hb
  unfold Gm.plV
  go_upto_region 5 with fail
  generalize w1.alloc (.cells #[.int .i64 0, .int .i64 0] 58) = V at HB ⊢
  apply wp_region_auto [23, 24, 25, 26, 27, 28, 29, 30, 31, 32, 33] [_, _, _, _, _, _, _, _, _, _, _] (fun W' => Below V.heap.size V W')
  case hm => kernel_rfl
  case hT => intro y; simp only [setAll, List.setIfInBounds_toArray, List.set_cons_succ, List.set_cons_zero]; exact rfl
  case hok => kernel_rfl
  case hn => decide
  case hw => exact (Below.refl _ _).drew
  case hs =>
    refine auto_op 23 [] (by kernel_rfl) (fun y w' HW hd K hK => ?_) ?_
    · go_simp
      refine hK _ _ ?_ ?_ HW
      · simp [upd]
      · exact rfl
    refine auto_op 24 [0] (by kernel_rfl) (fun y w' HW hd K hK => ?_) ?_
    · have e0 := hd_nth (hd 0 (by simp)) rfl
      go_simp
      refine hK _ _ ?_ ?_ HW
      · simp [upd, e0]
      · exact rfl
    refine auto_op 25 [1] (by kernel_rfl) (fun y w' HW hd K hK => ?_) ?_
    · have e1 := hd_nth (hd 1 (by simp)) rfl
      go_simp
      refine hK _ _ ?_ ?_ HW
      · simp [upd, e1]
      · exact rfl
    refine auto_op 26 [2] (by kernel_rfl) (fun y w' HW hd K hK => ?_) ?_
    · have e2 := hd_nth (hd 2 (by simp)) rfl
      go_simp
      refine hK _ _ ?_ ?_ HW
      · simp [upd, e2]
      · exact rfl
    refine auto_op 27 [3, 2] (by kernel_rfl) (fun y w' HW hd K hK => ?_) ?_
    · have e2 := hd_nth (hd 2 (by simp)) rfl
      have e3 := hd_nth (hd 3 (by simp)) rfl
      go_simp
      refine hK _ _ ?_ ?_ HW
      · simp [upd, e2, e3]
      · exact rfl
    refine auto_op 28 [4, 2] (by kernel_rfl) (fun y w' HW hd K hK => ?_) ?_
    · have e2 := hd_nth (hd 2 (by simp)) rfl
      have e4 := hd_nth (hd 4 (by simp)) rfl
      go_simp
      refine hK _ _ ?_ ?_ HW
      · simp [upd, e2, e4]
      · exact rfl
    refine auto_op 29 [5, 2] (by kernel_rfl) (fun y w' HW hd K hK => ?_) ?_
    · have e2 := hd_nth (hd 2 (by simp)) rfl
      have e5 := hd_nth (hd 5 (by simp)) rfl
      have hcl : ∀ p : Addr, p.block < V.heap.size → w'.cell? p = V.cell? p := fun p hp => HW.cell hp
      go_simp
      refine hK _ _ ?_ ?_ HW
      · simp [upd, e2, e5]
      · exact rfl
    refine auto_op 30 [2] (by kernel_rfl) (fun y w' HW hd K hK => ?_) ?_
    · have e2 := hd_nth (hd 2 (by simp)) rfl
      go_simp
      refine hK _ _ ?_ ?_ HW
      · simp [upd, e2]
      · exact rfl
    refine auto_op 31 [7, 2] (by kernel_rfl) (fun y w' HW hd K hK => ?_) ?_
    · have e2 := hd_nth (hd 2 (by simp)) rfl
      have e7 := hd_nth (hd 7 (by simp)) rfl
      have hcl : ∀ p : Addr, p.block < V.heap.size → w'.cell? p = V.cell? p := fun p hp => HW.cell hp
      go_simp
      refine hK _ _ ?_ ?_ HW
      · simp [upd, e2, e7]
      · exact rfl
    refine auto_op 32 [6, 8, 2, 2] (by kernel_rfl) (fun y w' HW hd K hK => ?_) ?_
    · have e2 := hd_nth (hd 2 (by simp)) rfl
      have e6 := hd_nth (hd 6 (by simp)) rfl
      have e8 := hd_nth (hd 8 (by simp)) rfl
      go_simp
      refine hK _ _ ?_ ?_ HW
      · simp [upd, e2, e6, e8]
      · exact rfl
    refine auto_op 33 [9, 2] (by kernel_rfl) (fun y w' HW hd K hK => ?_) ?_
    · have e2 := hd_nth (hd 2 (by simp)) rfl
      have e9 := hd_nth (hd 9 (by simp)) rfl
      go_simp
      refine hK _ _ ?_ ?_ HW
      · simp [upd, e2, e9]
      · exact rfl
    refine auto_last fun y w' HW hd K hK => ?_
    have e0 := hd_nth (hd 0 (by omega)) rfl
    have e1 := hd_nth (hd 1 (by omega)) rfl
    have e2 := hd_nth (hd 2 (by omega)) rfl
    have e3 := hd_nth (hd 3 (by omega)) rfl
    have e4 := hd_nth (hd 4 (by omega)) rfl
    have e5 := hd_nth (hd 5 (by omega)) rfl
    have e6 := hd_nth (hd 6 (by omega)) rfl
    have e7 := hd_nth (hd 7 (by omega)) rfl
    have e8 := hd_nth (hd 8 (by omega)) rfl
    have e9 := hd_nth (hd 9 (by omega)) rfl
    have e10 := hd_nth (hd 10 (by omega)) rfl
    go_simp
    refine hK _ _ ?_
    clear hd hK K e0 e1 e2 e3 e4 e5 e6 e7 e8 e9 e10
    have HW2 := Lib.hid (HB.out.trans (HW.mono HB.out.size))
    clear HW
    go_wp2
    exact bodyPost_ret (v := .tuple #[.int .i64 0, .int .i64 0, .bool false]) (by simp [results, Try.results82, go_sem]) rfl ⟨rfl, HW2.out⟩
theorem place_is (z F R : Int) (h0 : 0 ≤ z) (h1 : z < 512) (hp : Gm.atP L (z / 64) = (F, R)) (hth : Gm.thB (F, R) = true) (t : Bool) (ht : (decide (0 ≤ F) && decide (F < n)) = t) (w : World) (h : DV w g bt B q n gv cap S L D) :
    Calls Try.prog 82 #[.pointer (some ⟨g, 0, none⟩), .int .i64 z] w fun e w' => e = .returned (.tuple #[.int .i64 (if t = true then F else 0), .int .i64 (if t = true then z % 64 else 0), .bool t]) ∧ Below w.heap.size w w' := by
  have HG := Lib.hid (Gm.refGet_any q L (z / 64) (F, R) true hp hth w h.mp)
  have c1 := h.cell1
  have HH := Lib.hid h
  have HBX : Hid (∀ (W : World) (x y : Int), Below w.heap.size w W → Below w.heap.size w (W.alloc (.cells #[.int .i64 x, .int .i64 y] 58))) := Lib.hid fun W x y h => h.alloc h.size _
  have HI : Hid (∀ W, DV W g bt B q n gv cap S L D → Calls Try.prog 57 #[.pointer (some ⟨bt, 0, none⟩), .int .i64 F] W fun e w' => e = .returned (.bool t) ∧ W = w') := Lib.hid fun W hW => refIs_dv F t ht W hW
  have d8 : decide (8 ≤ z / 64) = false := by simp; omega
  have d0 : (0 : Int) ≤ z / 64 := by omega
  have dm : (0 : Int) ≤ z % 64 := by omega
  clear h hp hth ht
  cases t
  all_goals
    go_enter Try.func82, Try.ntmps82
    go_wp2_with fail
    refine HG.out.mono ?_
    rintro e w1 ⟨rfl, hb⟩
    have HB := Lib.hid (HBX.out _ F R hb)
    have HN : Hid (Blk (w1.alloc (.cells #[.int .i64 F, .int .i64 R] 58)) w1.heap.size 58 [.int .i64 F, .int .i64 R]) := Blk.new w1 _ _
    clear hb c1
    unfold Gm.plV
    go_upto_region 5 with fail
    generalize w1.alloc (.cells #[.int .i64 F, .int .i64 R] 58) = V at HB HN ⊢
    generalize w1.heap.size = pb at HN ⊢
    have HV := Lib.hid (HH.out.more HB.out)
    have c0 := HV.out.cell0
    have n0 : V.cell? ⟨pb, 0, none⟩ = some (.int .i64 F) := HN.out.cell rfl
    have b0 := HV.out.lt
    have b1 : pb < V.heap.size := HN.out.lt
    have HIV : Hid (∀ W, Below V.heap.size V W → Calls Try.prog 57 #[.pointer (some ⟨bt, 0, none⟩), .int .i64 F] W fun e w' => e = .returned (.bool _) ∧ W = w') := Lib.hid fun W hW => HI.out W (HV.out.more hW)
  · skip
    apply wp_region_auto [23, 24, 25, 26, 27, 28, 29, 30, 31, 32, 33] [_, _, _, _, _, _, _, _, _, _, _] (fun W' => Below V.heap.size V W')
    case hm => kernel_rfl
    case hT => intro y; simp only [setAll, List.setIfInBounds_toArray, List.set_cons_succ, List.set_cons_zero]; exact rfl
    case hok => kernel_rfl
    case hn => decide
    case hw => exact (Below.refl _ _).drew
    case hs =>
      refine auto_op 23 [] (by kernel_rfl) (fun y w' HW hd K hK => ?_) ?_
      · go_simp
        refine hK _ _ ?_ ?_ HW
        · simp [upd]
        · exact rfl
      refine auto_op 24 [0] (by kernel_rfl) (fun y w' HW hd K hK => ?_) ?_
      · have e0 := hd_nth (hd 0 (by simp)) rfl
        go_simp
        refine hK _ _ ?_ ?_ HW
        · simp [upd, e0]
        · exact rfl
      refine auto_op 25 [1] (by kernel_rfl) (fun y w' HW hd K hK => ?_) ?_
      · have e1 := hd_nth (hd 1 (by simp)) rfl
        go_simp
        refine hK _ _ ?_ ?_ HW
        · simp [upd, e1]
        · exact rfl
      refine auto_op 26 [2] (by kernel_rfl) (fun y w' HW hd K hK => ?_) ?_
      · have e2 := hd_nth (hd 2 (by simp)) rfl
        go_simp
        refine hK _ _ ?_ ?_ HW
        · simp [upd, e2]
        · exact rfl
      refine auto_op 27 [3, 2] (by kernel_rfl) (fun y w' HW hd K hK => ?_) ?_
      · have e2 := hd_nth (hd 2 (by simp)) rfl
        have e3 := hd_nth (hd 3 (by simp)) rfl
        go_simp
        refine hK _ _ ?_ ?_ HW
        · simp [upd, e2, e3]
        · exact rfl
      refine auto_op 28 [4, 2] (by kernel_rfl) (fun y w' HW hd K hK => ?_) ?_
      · have e2 := hd_nth (hd 2 (by simp)) rfl
        have e4 := hd_nth (hd 4 (by simp)) rfl
        go_simp
        refine hK _ _ ?_ ?_ HW
        · simp [upd, e2, e4]
        · exact rfl
      refine auto_op 29 [5, 2] (by kernel_rfl) (fun y w' HW hd K hK => ?_) ?_
      · have e2 := hd_nth (hd 2 (by simp)) rfl
        have e5 := hd_nth (hd 5 (by simp)) rfl
        have hcl : ∀ p : Addr, p.block < V.heap.size → w'.cell? p = V.cell? p := fun p hp => HW.cell hp
        go_simp
        refine hK _ _ ?_ ?_ HW
        · simp [upd, e2, e5]
        · exact rfl
      refine auto_op 30 [2] (by kernel_rfl) (fun y w' HW hd K hK => ?_) ?_
      · have e2 := hd_nth (hd 2 (by simp)) rfl
        go_simp
        refine hK _ _ ?_ ?_ HW
        · simp [upd, e2]
        · exact rfl
      refine auto_op 31 [7, 2] (by kernel_rfl) (fun y w' HW hd K hK => ?_) ?_
      · have e2 := hd_nth (hd 2 (by simp)) rfl
        have e7 := hd_nth (hd 7 (by simp)) rfl
        have hcl : ∀ p : Addr, p.block < V.heap.size → w'.cell? p = V.cell? p := fun p hp => HW.cell hp
        go_simp
        refine hK _ _ ?_ ?_ HW
        · simp [upd, e2, e7]
        · exact rfl
      refine auto_op 32 [6, 8, 2, 2] (by kernel_rfl) (fun y w' HW hd K hK => ?_) ?_
      · have e2 := hd_nth (hd 2 (by simp)) rfl
        have e6 := hd_nth (hd 6 (by simp)) rfl
        have e8 := hd_nth (hd 8 (by simp)) rfl
        go_simp
        refine (HIV.out _ HW).mono ?_
        rintro e w3 ⟨rfl, rfl⟩
        refine hK _ _ ?_ ?_ HW
        · simp [upd, e2, e6, e8]
        · exact rfl
      refine auto_op 33 [9, 2] (by kernel_rfl) (fun y w' HW hd K hK => ?_) ?_
      · have e2 := hd_nth (hd 2 (by simp)) rfl
        have e9 := hd_nth (hd 9 (by simp)) rfl
        go_simp
        refine hK _ _ ?_ ?_ HW
        · simp [upd, e2, e9]
        · exact rfl
      refine auto_last fun y w' HW hd K hK => ?_
      have e0 := hd_nth (hd 0 (by omega)) rfl
      have e1 := hd_nth (hd 1 (by omega)) rfl
      have e2 := hd_nth (hd 2 (by omega)) rfl
      have e3 := hd_nth (hd 3 (by omega)) rfl
      have e4 := hd_nth (hd 4 (by omega)) rfl
      have e5 := hd_nth (hd 5 (by omega)) rfl
      have e6 := hd_nth (hd 6 (by omega)) rfl
      have e7 := hd_nth (hd 7 (by omega)) rfl
      have e8 := hd_nth (hd 8 (by omega)) rfl
      have e9 := hd_nth (hd 9 (by omega)) rfl
      have e10 := hd_nth (hd 10 (by omega)) rfl
      go_simp
      refine hK _ _ ?_
      clear hd hK K e0 e1 e2 e3 e4 e5 e6 e7 e8 e9 e10
      have HW2 := Lib.hid (HB.out.trans (HW.mono HB.out.size))
      clear HW
      go_wp2
      exact bodyPost_ret (v := .tuple #[.int .i64 0, .int .i64 0, .bool false]) (by simp [results, Try.results82, go_sem]) rfl ⟨rfl, HW2.out⟩
  · skip
    apply wp_region_auto [23, 24, 25, 26, 27, 28, 29, 30, 31, 32, 33] [_, _, _, _, _, _, _, _, _, _, _] (fun W' => Below V.heap.size V W')
    case hm => kernel_rfl
    case hT => intro y; simp only [setAll, List.setIfInBounds_toArray, List.set_cons_succ, List.set_cons_zero]; exact rfl
    case hok => kernel_rfl
    case hn => decide
    case hw => exact (Below.refl _ _).drew
    case hs =>
      refine auto_op 23 [] (by kernel_rfl) (fun y w' HW hd K hK => ?_) ?_
      · go_simp
        refine hK _ _ ?_ ?_ HW
        · simp [upd]
        · exact rfl
      refine auto_op 24 [0] (by kernel_rfl) (fun y w' HW hd K hK => ?_) ?_
      · have e0 := hd_nth (hd 0 (by simp)) rfl
        go_simp
        refine hK _ _ ?_ ?_ HW
        · simp [upd, e0]
        · exact rfl
      refine auto_op 25 [1] (by kernel_rfl) (fun y w' HW hd K hK => ?_) ?_
      · have e1 := hd_nth (hd 1 (by simp)) rfl
        go_simp
        refine hK _ _ ?_ ?_ HW
        · simp [upd, e1]
        · exact rfl
      refine auto_op 26 [2] (by kernel_rfl) (fun y w' HW hd K hK => ?_) ?_
      · have e2 := hd_nth (hd 2 (by simp)) rfl
        go_simp
        refine hK _ _ ?_ ?_ HW
        · simp [upd, e2]
        · exact rfl
      refine auto_op 27 [3, 2] (by kernel_rfl) (fun y w' HW hd K hK => ?_) ?_
      · have e2 := hd_nth (hd 2 (by simp)) rfl
        have e3 := hd_nth (hd 3 (by simp)) rfl
        go_simp
        refine hK _ _ ?_ ?_ HW
        · simp [upd, e2, e3]
        · exact rfl
      refine auto_op 28 [4, 2] (by kernel_rfl) (fun y w' HW hd K hK => ?_) ?_
      · have e2 := hd_nth (hd 2 (by simp)) rfl
        have e4 := hd_nth (hd 4 (by simp)) rfl
        go_simp
        refine hK _ _ ?_ ?_ HW
        · simp [upd, e2, e4]
        · exact rfl
      refine auto_op 29 [5, 2] (by kernel_rfl) (fun y w' HW hd K hK => ?_) ?_
      · have e2 := hd_nth (hd 2 (by simp)) rfl
        have e5 := hd_nth (hd 5 (by simp)) rfl
        have hcl : ∀ p : Addr, p.block < V.heap.size → w'.cell? p = V.cell? p := fun p hp => HW.cell hp
        go_simp
        refine hK _ _ ?_ ?_ HW
        · simp [upd, e2, e5]
        · exact rfl
      refine auto_op 30 [2] (by kernel_rfl) (fun y w' HW hd K hK => ?_) ?_
      · have e2 := hd_nth (hd 2 (by simp)) rfl
        go_simp
        refine hK _ _ ?_ ?_ HW
        · simp [upd, e2]
        · exact rfl
      refine auto_op 31 [7, 2] (by kernel_rfl) (fun y w' HW hd K hK => ?_) ?_
      · have e2 := hd_nth (hd 2 (by simp)) rfl
        have e7 := hd_nth (hd 7 (by simp)) rfl
        have hcl : ∀ p : Addr, p.block < V.heap.size → w'.cell? p = V.cell? p := fun p hp => HW.cell hp
        go_simp
        refine hK _ _ ?_ ?_ HW
        · simp [upd, e2, e7]
        · exact rfl
      refine auto_op 32 [6, 8, 2, 2] (by kernel_rfl) (fun y w' HW hd K hK => ?_) ?_
      · have e2 := hd_nth (hd 2 (by simp)) rfl
        have e6 := hd_nth (hd 6 (by simp)) rfl
        have e8 := hd_nth (hd 8 (by simp)) rfl
        go_simp
        refine (HIV.out _ HW).mono ?_
        rintro e w3 ⟨rfl, rfl⟩
        refine hK _ _ ?_ ?_ HW
        · simp [upd, e2, e6, e8]
        · exact rfl
      refine auto_op 33 [9, 2] (by kernel_rfl) (fun y w' HW hd K hK => ?_) ?_
      · have e2 := hd_nth (hd 2 (by simp)) rfl
        have e9 := hd_nth (hd 9 (by simp)) rfl
        go_simp
        refine hK _ _ ?_ ?_ HW
        · simp [upd, e2, e9]
        · exact rfl
      refine auto_last fun y w' HW hd K hK => ?_
      have e0 := hd_nth (hd 0 (by omega)) rfl
      have e1 := hd_nth (hd 1 (by omega)) rfl
      have e2 := hd_nth (hd 2 (by omega)) rfl
      have e3 := hd_nth (hd 3 (by omega)) rfl
      have e4 := hd_nth (hd 4 (by omega)) rfl
      have e5 := hd_nth (hd 5 (by omega)) rfl
      have e6 := hd_nth (hd 6 (by omega)) rfl
      have e7 := hd_nth (hd 7 (by omega)) rfl
      have e8 := hd_nth (hd 8 (by omega)) rfl
      have e9 := hd_nth (hd 9 (by omega)) rfl
      have e10 := hd_nth (hd 10 (by omega)) rfl
      go_simp
      refine hK _ _ ?_
      clear hd hK K e0 e1 e2 e3 e4 e5 e6 e7 e8 e9 e10
      have HW2 := Lib.hid (HB.out.trans (HW.mono HB.out.size))
      have n1 : w'.cell? ⟨pb, 0, none⟩ = some (.int .i64 F) := (HN.out.more HW).cell rfl
      clear HW
      go_wp2
      exact bodyPost_ret (v := .tuple #[.int .i64 F, .int .i64 (z % 64), .bool true]) (by simp [results, Try.results82, go_sem]) rfl ⟨rfl, HW2.out⟩
/-- any byte below 512 -/
theorem place_any (p : Nat) (hp : p < 512) (t : Bool) (ht : okA n L p = t) (w : World) (h : DV w g bt B q n gv cap S L D) :
    Calls Try.prog 82 #[.pointer (some ⟨g, 0, none⟩), .int .i64 p] w fun e w' => e = .returned (.tuple #[.int .i64 (if t = true then ((frN L (p / 64) : Nat) : Int) else 0), .int .i64 (if t = true then ((p % 64 : Nat) : Int) else 0), .bool t]) ∧ Below w.heap.size w w' := by
  have hat := atP_nat (L := L) (p := p) (by omega)
  unfold okA at ht
  rcases Gm.pl_cases h.mp.2 (p / 64) with h2 | ⟨f, r, h2, hf, _, _, h4⟩
  · have e : okP n (Gm.plN L (p / 64)) = false := by rw [h2]; rfl
    rw [e] at ht
    subst ht
    exact place_none p (by omega) (by omega) (by rw [hat, h2]) w h
  · have H := place_is (p : Int) f r (by omega) (by omega) (by rw [hat, h2]) h4 t (by rw [← ht, h2]; unfold okP; rw [h4]; simp) w h
    have e : ((frN L (p / 64) : Nat) : Int) = f := by unfold frN; rw [h2]; simp
    rw [e]
    exact H

theorem refOwn_out (z k : Int) (h0 : 0 ≤ z) (h1 : z < 4294967296) (hb : k < 0 ∨ 512 < z ∨ 512 - z < k) (w : World) :
    Calls Try.prog 81 #[.pointer (some ⟨g, 0, none⟩), .int .u32 z, .int .i64 k] w fun e w' => e = .returned (.bool false) ∧ w = w' := by
  by_cases c1 : k < 0
  · have d1 : decide (k < 0) = true := by simpa using c1
    go_enter Try.func81, Try.ntmps81
    go_wp2
    go_ret
    exact ⟨rfl, rfl⟩
  have d1 : decide (k < 0) = false := by simpa using c1
  by_cases c2 : 512 < z
  · have d2 : decide (512 < z) = true := by simpa using c2
    go_enter Try.func81, Try.ntmps81
    go_wp2
    go_ret
    exact ⟨rfl, rfl⟩
  have d2 : decide (512 < z) = false := by simpa using c2
  have d3 : decide (512 - z < k) = true := by simp; omega
  have hz : z ≤ 512 := by omega
  clear hb c1 c2 h1
  go_enter Try.func81, Try.ntmps81
  go_wp2
  go_ret
  exact ⟨rfl, rfl⟩
theorem refOwn_in (a K : Nat) (haK : a + K ≤ 512) (t : Bool) (ht : t = true ↔ ∀ i, i < K → okA n L (a + i) = true) (w : World) (h : DV w g bt B q n gv cap S L D) :
    Calls Try.prog 81 #[.pointer (some ⟨g, 0, none⟩), .int .u32 a, .int .i64 K] w fun e w' => e = .returned (.bool t) ∧ Below w.heap.size w w' := by
  have H := Lib.hid h
  have HT := Lib.hid ht
  have HAK := Lib.hid haK
  have d1 : decide ((K : Int) < 0) = false := by simp
  have d2 : decide ((512 : Int) < (a : Int)) = false := by simp; omega
  have d3 : decide ((512 : Int) - (a : Int) < (K : Int)) = false := by simp; omega
  have ha : (a : Int) ≤ 512 := by omega
  have hK : (K : Int) ≤ 512 := by omega
  clear h ht haK
  go_enter Try.func81, Try.ntmps81
  go_wp2
  clear d1 d2 d3
  go_loopw [7] (fun j wr => ∃ i : Nat, i ≤ K ∧ j = .int .i64 i ∧ Hid (∀ x, x < i → okA n L (a + x) = true) ∧ Hid (Below w.heap.size w wr)) (fun j _ => K - (intOf j).toNat)
  case atStart => exact ⟨0, Nat.zero_le _, rfl, fun x hx => absurd hx (Nat.not_lt_zero x), Below.refl _ _⟩
  case round =>
    obtain ⟨i, hi, rfl, HO, HB⟩ := hrel
    by_cases hlt : i < K
    · have f1 : (i : Int) < (K : Int) := by omega
      have H3 := Lib.hid hlt
      have hs : (a : Int) + (i : Int) ≤ 512 := by have := HAK.out; omega
      clear hlt hi
      obtain ⟨o, ho⟩ : ∃ o, okA n L (a + i) = o := ⟨_, rfl⟩
      have HP := Lib.hid (place_any (a + i) (by have := HAK.out; have := H3.out; omega) o ho wr (H.out.more HB.out))
      have HO2 : Hid (o = true → ∀ x, x < i + 1 → okA n L (a + x) = true) := Lib.hid fun h1 x hx => by
        by_cases e : x = i
        · subst e; rw [ho]; exact h1
        · exact HO.out x (by omega)
      have HNO : Hid (o = false → t = false) := Lib.hid fun h1 => by
        cases t
        · rfl
        · have := HT.out.1 rfl i H3.out
          rw [ho, h1] at this
          exact absurd this (by decide)
      clear ho
      rw [show ((a + i : Nat) : Int) = (a : Int) + (i : Int) by omega] at HP
      generalize ((frN L ((a + i) / 64) : Nat) : Int) = F at HP
      generalize (((a + i) % 64 : Nat) : Int) = O at HP
      cases o
      · go_wp2_with fail
        refine HP.out.mono ?_
        rintro e w1 ⟨rfl, hb⟩
        have HB1 := Lib.hid (HB.out.trans (hb.mono HB.out.size))
        clear hb
        go_wp2
        go_ret
        exact ⟨by rw [HNO.out (by simp)]; rfl, HB1.out⟩
      · go_wp2_with fail
        refine HP.out.mono ?_
        rintro e w1 ⟨rfl, hb⟩
        have HB1 := Lib.hid (HB.out.trans (hb.mono HB.out.size))
        clear hb
        go_wp2
        go_roundw
        case rel => exact ⟨i + 1, H3.out, by go_num, HO2.out (by simp), HB1⟩
        case measure => have := H3.out; simp [intOf]; omega
    · have f1 : ¬ (i : Int) < (K : Int) := by omega
      obtain rfl : i = K := by omega
      have HTT := Lib.hid (HT.out.2 HO.out)
      clear hlt hi
      go_wp2
      go_ret
      exact ⟨by rw [HTT.out]; rfl, HB.out⟩
theorem refOwn_any (z k : Int) (t : Bool) (h0 : 0 ≤ z) (h1 : z < 4294967296) (ht : ownB n L z k = t) (w : World) (h : DV w g bt B q n gv cap S L D) :
    Calls Try.prog 81 #[.pointer (some ⟨g, 0, none⟩), .int .u32 z, .int .i64 k] w fun e w' => e = .returned (.bool t) ∧ Below w.heap.size w w' := by
  rcases own_cases n L z k h0 with ⟨h2, h3⟩ | ⟨a, K, rfl, rfl, h2, h3⟩
  · rw [h2] at ht
    subst ht
    exact (refOwn_out z k h0 h1 h3 w).mono fun e w' ⟨he, hb⟩ => ⟨he, hb ▸ Below.refl _ _⟩
  · rw [ht] at h3
    exact refOwn_in a K h2 t h3 w h

theorem refRead_no (z k : Int) (h0 : 0 ≤ z) (h1 : z < 4294967296) (ht : ownB n L z k = false) (w : World) (h : DV w g bt B q n gv cap S L D) :
    Calls Try.prog 75 #[.pointer (some ⟨g, 0, none⟩), .int .u32 z, .int .i64 k] w fun e w' => e = .returned (.tuple #[.slice none 0 0, .bool false]) ∧ Below w.heap.size w w' := by
  have HO := Lib.hid (refOwn_any z k false h0 h1 ht w h)
  clear ht h
  go_enter Try.func75, Try.ntmps75
  go_wp2_with fail
  refine HO.out.mono ?_
  rintro e w1 ⟨rfl, hb⟩
  go_wp2
  go_ret2
  exact ⟨rfl, hb⟩
theorem refRead_yes (a K : Nat) (haK : a + K ≤ 512) (ht : ownB n L a K = true) (hall : ∀ i, i < K → okA n L (a + i) = true) (w : World) (h : DV w g bt B q n gv cap S L D) :
    Calls Try.prog 75 #[.pointer (some ⟨g, 0, none⟩), .int .u32 a, .int .i64 K] w fun e w' => ∃ p m c, e = .returned (.tuple #[.slice p m c, .bool true]) ∧ Hid (RowK .u8 w' w'.heap.size p m (rB L S a K)) ∧ Below w.heap.size w w' := by
  have H := Lib.hid h
  have HALL := Lib.hid hall
  have HAK := Lib.hid haK
  have HO := Lib.hid (refOwn_any a K true (by omega) (by omega) ht w h)
  have ha : (a : Int) ≤ 512 := by omega
  have hK : (K : Int) ≤ 512 := by omega
  clear h ht haK hall
  go_enter Try.func75, Try.ntmps75
  go_wp2_with fail
  refine HO.out.mono ?_
  rintro e w1 ⟨rfl, hb⟩
  have HB0 := Lib.hid hb
  clear hb HO
  go_wp2
  go_loopw [8, 9] (fun v j wr => ∃ (i cp : Nat) (p : Option Addr), i ≤ K ∧ v = .slice p i cp ∧ j = .int .i64 i ∧ Hid (OwnI .u8 wr w.heap.size 5 (.slice p i cp) i (rB L S a i)) ∧ Hid (Below w.heap.size w wr)) (fun _ j _ => K - (intOf j).toNat)
  case atStart => exact ⟨0, 0, none, Nat.zero_le _, rfl, rfl, OwnI.nil _ _ _ _, HB0⟩
  case round =>
    obtain ⟨i, cp, p, hi, rfl, rfl, HOW, HB⟩ := hrel
    by_cases hlt : i < K
    · have f1 : (i : Int) < (K : Int) := by omega
      have H3 := Lib.hid hlt
      have hs : (a : Int) + (i : Int) ≤ 512 := by have := HAK.out; omega
      clear hlt hi
      have hok := HALL.out i H3.out
      have HP := Lib.hid (place_any (a + i) (by have := HAK.out; have := H3.out; omega) true hok wr (H.out.more HB.out))
      obtain ⟨f, hf1, hf2, hfn, hf32⟩ := ok_frame H.out.mp.2 (show okP n (Gm.plN L ((a + i) / 64)) = true from hok)
      have HL : Hid (∀ W, DV W g bt B q n gv cap S L D → Calls Try.prog 83 #[.pointer (some ⟨bt, 0, none⟩), .int .i64 f, .int .i64 ((a + i) % 64 : Nat), .int .i64 1] W fun e w' => e = .returned (.tuple #[.int .u32 (S.getD (posn L (a + i)) 0), .int .i64 0]) ∧ W = w') := Lib.hid fun W hW => by
        obtain ⟨vs, hs⟩ := hW.st
        have := Fr.refLoad_in (o := (a + i) % 64) (m := 1) hs hfn (by decide) (by omega)
        rw [Fr.fr_at S hfn, num_one hW.s0 hf32 (by omega)] at this
        unfold posn
        rw [hf2]
        exact this
      have hby := H.out.s1.at_ (posn L (a + i))
      have HS := Lib.hid (rB_succ L S a i)
      have HQ : Hid (∀ W, Below w.heap.size w W → DV W g bt B q n gv cap S L D) := Lib.hid fun W hW => H.out.more hW
      rw [show ((a + i : Nat) : Int) = (a : Int) + (i : Int) by omega, hf2] at HP
      clear hok hf1 hf2 hfn hf32
      generalize S.getD (posn L (a + i)) 0 = u at HL hby HS
      generalize (f : Int) = F at HP HL
      generalize (((a + i) % 64 : Nat) : Int) = O at HP HL
      obtain ⟨u0, u1⟩ := hby
      go_wp2_with fail
      refine HP.out.mono ?_
      rintro e w2 ⟨rfl, hb⟩
      have HB1 := Lib.hid (HB.out.trans (hb.mono HB.out.size))
      have HOW1 := Lib.hid (HOW.out.below hb)
      have HD1 := Lib.hid (HQ.out _ HB1.out)
      have c0 := HD1.out.cell0
      clear hb HB HOW
      go_wp2_with fail
      refine (HL.out _ HD1.out).mono ?_
      rintro e w3 ⟨rfl, rfl⟩
      have HBA := Lib.hid (HB1.out.trans (((Below.refl w2.heap.size w2).alloc (Nat.le_refl _) (.cells #[.int .u8 u] 5)).mono HB1.out.size))
      have HOA : Hid (OwnI .u8 (w2.alloc (.cells #[.int .u8 u] 5)) w.heap.size 5 (.slice p i cp) i (rB L S a i)) := HOW1.out.alloc _
      have HRA : Hid (RowK .u8 (w2.alloc (.cells #[.int .u8 u] 5)) (w2.heap.size + 1) (some ⟨w2.heap.size, 0, none⟩) 1 [u]) := RowK.new1 .u8 w2 u _
      clear HL HP c0
      go_wp2_with (refine wpList_append_ints rfl _ _ 122 rfl .u8 w.heap.size 5 1 Try.underlying122 (by kernel_rfl) (.slice p i cp) i (rB L S a i) rfl HOA.out _ _ 1 1 [u] rfl HRA.out (by have := H3.out; have := HAK.out; unfold maxLen; omega) (by have := H3.out; have := HAK.out; omega) HBA.out.size ?_; intro v' w' HO2 hb2 _)
      obtain ⟨gn, cp', rfl, _⟩ := HO2.out.form (by omega)
      have HB3 := Lib.hid (HBA.out.trans hb2)
      clear hb2
      go_wp2
      go_roundw
      case rel => exact ⟨i + 1, cp', some ⟨gn, 0, none⟩, H3.out, rfl, by go_num, by rw [HS.out]; exact HO2, HB3⟩
      case measure => have := H3.out; simp [intOf]; omega
    · have f1 : ¬ (i : Int) < (K : Int) := by omega
      obtain rfl : i = K := by omega
      clear hlt hi
      obtain ⟨a', cap', e, _, _, hr⟩ := HOW.out.row
      injection e with e1 e2 e3
      subst e1 e3
      have HR := Lib.hid hr
      clear hr
      go_wp2
      go_ret2
      exact ⟨p, i, ⟨cp, rfl⟩, HR, HB.out⟩

theorem DV.wiped {w : World} (h : DV w g bt B q n gv cap S L D) : DV (w.setRow g (vCells bt q noD).toArray) g bt B q n gv cap S L noD := by
  obtain ⟨vs, hs⟩ := h.st
  have k : Kq [g] w (w.setRow g (vCells bt q noD).toArray) := Kq.setRow (Kq.refl _ _) g _ (by simp)
  exact ⟨h.blk.row _, ⟨vs, rt_kq hs h.pos k (fun x hx => by
    obtain rfl : x = g := by simpa using hx
    exact .inr (.inl ⟨_, h.cell0⟩))⟩, ⟨h.mp.1.kq k (by have := h.qg; simp; omega), h.mp.2⟩, rfl, h.pos, h.s0, h.s1, h.n32, h.bq, h.qg⟩
end
end Go.Proofs.Ytoafonbplbblpaa.Vw
end
