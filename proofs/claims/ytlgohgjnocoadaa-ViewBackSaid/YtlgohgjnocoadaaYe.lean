/- Package view: Dirty, Map, Store, of the program; the document's Dirty. -/
import Derived.Test.YtlgohgjnocoadaaYb
import Derived.Deep.CutBlock
namespace Go.Proofs.Ytlgohgjnocoadaa.Vw
open Go.RowKit Ut Oc
set_option maxRecDepth 100000
set_option linter.unusedVariables false
set_option maxHeartbeats 4000000

/-- the pages below k that were written, rising -/
def dirtL (D : List Bool) (k : Nat) : List Int := ((List.range k).filter fun i => D.getD i false).map fun i : Nat => (i : Int)
theorem dirtL_succ (D : List Bool) (k : Nat) : dirtL D (k + 1) = dirtL D k ++ if D.getD k false = true then [(k : Int)] else [] := by
  unfold dirtL
  rw [List.range_succ, List.filter_append, List.map_append]
  by_cases h : D.getD k false = true
  · have e : List.filter (fun i => D.getD i false) [k] = [k] := by simp only [List.filter, h]
    rw [e, if_pos h]; rfl
  · have e : List.filter (fun i => D.getD i false) [k] = [] := by
      have h2 : D.getD k false = false := by simpa using h
      simp only [List.filter, h2]
    rw [e, if_neg h]; rfl
theorem dirtL_len (D : List Bool) (k : Nat) : (dirtL D k).length ≤ k := by
  unfold dirtL
  rw [List.length_map]
  exact Nat.le_trans (List.length_filter_le _ _) (by simp)
theorem dirtL_none (k : Nat) : dirtL noD k = [] := by
  unfold dirtL
  have : (List.range k).filter (fun i => noD.getD i false) = [] := by
    rw [List.filter_eq_nil_iff]
    intro i _
    unfold noD
    rw [List.getD_eq_getElem?_getD, List.getElem?_replicate]
    split <;> simp
  rw [this]; rfl

theorem idx_bool (D : List Bool) (hD : D.length = 12) (k : Nat) (hk : k < 12) : ∀ W, (Instr.index 58 (.agg (D.map Value.bool).toArray) (.int .i64 k)).run Try.prog W = .ok (.bool (D.getD k false)) W := by
  match D, hD with
  | [d0, d1, d2, d3, d4, d5, d6, d7, d8, d9, d10, d11], _ =>
    match k, hk with
    | 0, _ => exact fun _ => by kernel_rfl
    | 1, _ => exact fun _ => by kernel_rfl
    | 2, _ => exact fun _ => by kernel_rfl
    | 3, _ => exact fun _ => by kernel_rfl
    | 4, _ => exact fun _ => by kernel_rfl
    | 5, _ => exact fun _ => by kernel_rfl
    | 6, _ => exact fun _ => by kernel_rfl
    | 7, _ => exact fun _ => by kernel_rfl
    | 8, _ => exact fun _ => by kernel_rfl
    | 9, _ => exact fun _ => by kernel_rfl
    | 10, _ => exact fun _ => by kernel_rfl
    | 11, _ => exact fun _ => by kernel_rfl
    | k + 12, h => omega
theorem size_bools (D : List Bool) (hD : D.length = 12) : (Try.prog.info? 58).map (·.size) = some (D.map Value.bool).length := by
  rw [List.length_map, hD]
  kernel_rfl
theorem vCells_d (s m : Nat) (D : List Bool) : ∀ j v, (D.map Value.bool)[j]? = some v → (vCells s m D)[2 + j]? = some v := fun j v h => by
  rw [show 2 + j = j + 1 + 1 by omega]
  simpa [vCells] using h
theorem vCells_wipe (s m : Nat) (D : List Bool) (hD : D.length = 12) : splice (vCells s m D) 2 noDv = vCells s m noD := by
  simp [splice, vCells, noDv, noD, hD]
theorem noDv_one : ∀ v ∈ noDv, v.oneCell' = true := by decide
theorem vCells_len (s m : Nat) (D : List Bool) (hD : D.length = 12) : 2 + noDv.length ≤ (vCells s m D).length := by simp [vCells, noDv, noD, hD]

section
variable {b s m n : Nat} {S : List Int} {L : List Gm.Pl} {D : List Bool}
theorem PV.wiped {w : World} (h : PV w b s m n S L D) : PV (w.setRow b (vCells s m noD).toArray) b s m n S L noD where
  blk := h.blk.row _
  st := h.st.of_block (setRow_other _ _ _ _ (fun e => by have := h.sm; have := h.mb; omega))
  mp := ⟨h.mp.1.of_block (setRow_other _ _ _ _ (fun e => by have := h.mb; omega)), h.mp.2⟩
  len := rfl
  pos := h.pos
  sm := h.sm
  mb := h.mb
theorem Kq.setRow {T : List Nat} {w w' : World} (h : Kq T w w') (b : Nat) (cs : Array Value) (hb : b ∈ T) : Kq T w (w'.setRow b cs) :=
  ⟨h.os, h.tape, h.output, by rw [size_setRow]; exact h.size, fun q hq hn => (setRow_other _ _ _ _ (fun e => hn (by rw [e]; exact hb))).trans (h.block q hq hn)⟩
theorem map_any (w : World) (hP : PV w b s m n S L D) : Calls Try.prog 26 #[.pointer (some ⟨b, 0, none⟩)] w fun e w' => e = .returned (.pointer (some ⟨m, 0, none⟩)) ∧ w = w' := by
  have HM := Lib.hid (made_yes b s w hP.cell0)
  have c1 := hP.cell1
  clear hP
  go_enter Try.func26, Try.ntmps26
  go_wp2_with fail
  refine HM.out.mono ?_
  rintro e w1 ⟨rfl, rfl⟩
  go_wp2
  go_ret
  exact ⟨rfl, rfl⟩
theorem store_any (w : World) (hP : PV w b s m n S L D) : Calls Try.prog 24 #[.pointer (some ⟨b, 0, none⟩)] w fun e w' => e = .returned (.pointer (some ⟨s, 0, none⟩)) ∧ w = w' := by
  have HM := Lib.hid (made_yes b s w hP.cell0)
  have c0 := hP.cell0
  clear hP
  go_enter Try.func24, Try.ntmps24
  go_wp2_with fail
  refine HM.out.mono ?_
  rintro e w1 ⟨rfl, rfl⟩
  go_wp2
  go_ret
  exact ⟨rfl, rfl⟩
theorem map_un (a : Option Addr) (w : World) (hM : Calls Try.prog 39 #[.pointer a] w fun e w' => e = .returned (.bool false) ∧ w = w') : Calls Try.prog 26 #[.pointer a] w fun e w' => e = .returned (.pointer none) ∧ w = w' := by
  have HM := Lib.hid hM
  clear hM
  go_enter Try.func26, Try.ntmps26
  go_wp2_with fail
  refine HM.out.mono ?_
  rintro e w1 ⟨rfl, rfl⟩
  go_wp2
  go_ret
  exact ⟨rfl, rfl⟩
theorem store_un (a : Option Addr) (w : World) (hM : Calls Try.prog 39 #[.pointer a] w fun e w' => e = .returned (.bool false) ∧ w = w') : Calls Try.prog 24 #[.pointer a] w fun e w' => e = .returned (.pointer none) ∧ w = w' := by
  have HM := Lib.hid hM
  clear hM
  go_enter Try.func24, Try.ntmps24
  go_wp2_with fail
  refine HM.out.mono ?_
  rintro e w1 ⟨rfl, rfl⟩
  go_wp2
  go_ret
  exact ⟨rfl, rfl⟩
theorem dirty_un (a : Option Addr) (w : World) (hM : Calls Try.prog 39 #[.pointer a] w fun e w' => e = .returned (.bool false) ∧ w = w') : Calls Try.prog 11 #[.pointer a] w fun e w' => e = .returned (.slice none 0 0) ∧ w = w' := by
  have HM := Lib.hid hM
  clear hM
  go_enter Try.func11, Try.ntmps11
  go_wp2_with fail
  refine HM.out.mono ?_
  rintro e w1 ⟨rfl, rfl⟩
  go_wp2
  go_ret
  exact ⟨rfl, rfl⟩

theorem dirty_any (w : World) (hP : PV w b s m n S L D) :
    Calls Try.prog 11 #[.pointer (some ⟨b, 0, none⟩)] w fun e w' => ∃ a k cap, e = .returned (.slice a k cap) ∧ Hid (RowK .i64 w' w'.heap.size a k (dirtL D 12)) ∧ PV w' b s m n S L noD ∧ Kq [b] w w' := by
  have HP := Lib.hid hP
  have HM := Lib.hid (made_yes b s w hP.cell0)
  have HD := Lib.hid hP.len
  have hix := idx_bool D hP.len
  have HA : Hid (∀ (ρ : Operand → Value) (o : Oper), o.op = .load 58 (.tmp 11) → ρ (.tmp 11) = .pointer (some ⟨b, 2, none⟩) → (execOp ρ o).run Try.prog w = .ok (.value (.agg (D.map Value.bool).toArray)) w) :=
    Lib.hid fun ρ o ho hx => exec_load_blk hP.blk 2 58 (.tmp 11) ho hx (D.map Value.bool) (vCells_d s m D) _ Try.underlying58 rfl (size_bools D hP.len)
  clear hP
  have HIX := Lib.hid hix
  clear hix
  generalize hA : (D.map Value.bool).toArray = A at HA HIX
  clear hA
  go_enter Try.func11, Try.ntmps11
  go_upto_region 4 with (go_at_call 39; refine HM.out.mono ?_; rintro e w1 ⟨rfl, rfl⟩)
  refine wp_region_lit ?_
  refine Great.wpList_readTo rfl _ rfl (.pointer (some ⟨b, 0, none⟩)) (by kernel_rfl) ?_
  refine Great.wpList_readTo rfl _ rfl (.pointer (some ⟨b, 0, none⟩)) (by kernel_rfl) ?_
  refine Great.wpList_readTo rfl _ rfl (.pointer (some ⟨b, 2, none⟩)) (by kernel_rfl) ?_
  refine Great.wpList_readTo rfl _ rfl (.agg A) (HA.out _ _ rfl (by kernel_rfl)) ?_
  refine Great.wpList_readTo rfl _ rfl (.int .i64 0) (by kernel_rfl) ?_
  clear HA
  simp only [Act.put, List.setIfInBounds_toArray, List.set_cons_succ, List.set_cons_zero]
  go_wp2
  go_loopw [3, 13] (fun v j wr => ∃ (k n cap : Nat) (a : Option Addr), k ≤ 12 ∧ n ≤ k ∧ v = .slice a n cap ∧ j = .int .i64 k ∧ Hid (OwnI .i64 wr w.heap.size 3 (.slice a n cap) n (dirtL D k)) ∧ Hid (Below w.heap.size w wr)) (fun _ j _ => 12 - (intOf j).toNat)
  case atStart => exact ⟨0, 0, 0, none, by omega, by omega, rfl, rfl, OwnI.nil _ _ _ _, Below.refl _ _⟩
  case round =>
    obtain ⟨k, n, cap, a, hk, hn, rfl, rfl, HO, HB⟩ := hrel
    by_cases hlt : k < 12
    · have f1 : (k : Int) < 12 := by omega
      have H3 := Lib.hid hlt
      have HN := Lib.hid hn
      have hix := HIX.out k hlt
      have HS := Lib.hid (dirtL_succ D k)
      clear hlt hk hn
      obtain ⟨t, ht⟩ : ∃ t, D.getD k false = t := ⟨_, rfl⟩
      rw [ht] at hix HS
      clear ht
      obtain ⟨xs, hxs⟩ : ∃ xs, dirtL D k = xs := ⟨_, rfl⟩
      rw [hxs] at HO HS
      clear hxs
      cases t
      · go_wp2
        go_roundw
        case rel => exact ⟨k + 1, n, cap, a, by have := H3.out; omega, by have := HN.out; omega, rfl, by go_num, by rw [HS.out]; simpa using HO, HB⟩
        case measure => have := H3.out; simp [intOf]; omega
      · have HBA := Lib.hid (HB.out.trans (((Below.refl wr.heap.size wr).alloc (Nat.le_refl _) (.cells #[.int .i64 k] 3)).mono HB.out.size))
        have HOA : Hid (OwnI .i64 (wr.alloc (.cells #[.int .i64 k] 3)) w.heap.size 3 (.slice a n cap) n xs) := HO.out.alloc _
        have HRA : Hid (RowK .i64 (wr.alloc (.cells #[.int .i64 k] 3)) (wr.heap.size + 1) (some ⟨wr.heap.size, 0, none⟩) 1 [(k : Int)]) := RowK.new1 .i64 wr k _
        go_wp2_with (refine wpList_append_ints rfl _ _ 22 rfl .i64 w.heap.size 3 8 Try.underlying22 (by kernel_rfl) (.slice a n cap) n xs rfl HOA.out _ _ 1 1 [(k : Int)] rfl HRA.out (by have := HN.out; have := H3.out; unfold maxLen; omega) (by have := HN.out; have := H3.out; omega) HBA.out.size ?_; intro v' w' HO2 hb2 _)
        obtain ⟨g, cap', rfl, _⟩ := HO2.out.form (by omega)
        have HB3 := Lib.hid (HBA.out.trans hb2)
        go_wp2
        go_roundw
        case rel => exact ⟨k + 1, n + 1, cap', some ⟨g, 0, none⟩, by have := H3.out; omega, by have := HN.out; omega, rfl, by go_num, by rw [HS.out]; simpa using HO2, HB3⟩
        case measure => have := H3.out; simp [intOf]; omega
    · have f1 : ¬ (k : Int) < 12 := by omega
      obtain rfl : k = 12 := by omega
      clear hlt hk
      obtain ⟨a', cap', e, _, _, hr⟩ := HO.out.row
      injection e with e1 e2 e3
      subst e1 e3
      have HPw := Lib.hid (HP.out.more HB.out)
      have hbb : b < w.heap.size := HP.out.lt
      have HRW : Hid (RowK .i64 (wr.setRow b (vCells s m noD).toArray) wr.heap.size a n (dirtL D 12)) := Lib.hid ⟨hr.1, fun i hi => by
        obtain ⟨x, e, hx, hc⟩ := hr.2 i hi
        refine ⟨x, e, hx, ?_⟩
        rw [World.cell?_of_block (w := wr)]
        · exact hc
        · rw [block_of_add]
          refine setRow_other _ _ _ _ (fun e2 => ?_)
          rcases HO.out.2 with ⟨e3, hn0⟩ | ⟨g, c, cur, e3, hg, _⟩
          · omega
          · injection e3 with e3
            rw [e] at e3
            injection e3 with e3
            subst e3
            simp at e2
            omega⟩
      have HK : Hid (Kq [b] w (wr.setRow b (vCells s m noD).toArray)) := Lib.hid (Kq.setRow (Kq.of_below HB.out) b _ (by simp))
      have HPN := Lib.hid HPw.out.wiped
      have HLE : Hid (wr.heap.size = (wr.setRow b (vCells s m noD).toArray).heap.size) := Lib.hid (size_setRow _ _ _).symm
      clear hr hbb
      go_upto_region 10 with fail
      refine wp_region_lit ?_
      refine Great.wpList_readTo rfl _ rfl (.pointer (some ⟨b, 0, none⟩)) (by kernel_rfl) ?_
      refine wpList_buildTo rfl 58 _ rfl _ rfl noDv.toArray (by kernel_rfl) ?_
      refine Great.wpList_readTo rfl _ rfl (.pointer (some ⟨b, 0, none⟩)) (by kernel_rfl) ?_
      refine Great.wpList_readTo rfl _ rfl (.pointer (some ⟨b, 2, none⟩)) (by kernel_rfl) ?_
      refine wpList_store_cells rfl 58 _ _ rfl b 2 60 (vCells s m D) noDv (by kernel_rfl) (by kernel_rfl) HPw.out.blk (by kernel_rfl) (vCells_len s m D HD.out) noDv_one ?_
      rw [vCells_wipe s m D HD.out]
      generalize wr.setRow b (vCells s m noD).toArray = W at HRW HK HPN HLE ⊢
      go_wp2
      go_ret
      exact ⟨a, n, ⟨cap, rfl⟩, by rw [← HLE.out]; exact HRW.out, HPN.out, HK.out⟩
end
end Go.Proofs.Ytlgohgjnocoadaa.Vw
