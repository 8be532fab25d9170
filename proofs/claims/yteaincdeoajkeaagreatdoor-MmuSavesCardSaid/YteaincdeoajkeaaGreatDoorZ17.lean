/- Several texts in one: Ye Yh Ym Yn Za -/
import Derived.Test.YteaincdeoajkeaaGreatDoorZ12
import Derived.Deep.CutBlock
import Derived.Test.YteaincdeoajkeaaGreatDoorZ14
import Derived.Test.YteaincdeoajkeaaGreatDoorZ13
import Derived.StillTailTactics
import Derived.Test.YteaincdeoajkeaaGreatDoorZ16
import Derived.Test.YteaincdeoajkeaaGreatDoorZ04
import Derived.Test.YteaincdeoajkeaaGreatDoorZ06
section
/- Package view: Dirty, Map, Store, of the program; the document's Dirty. -/
namespace Go.Proofs.YteaincdeoajkeaaGreatDoor.Vw
open Go.RowKit Ut Oc
set_option maxRecDepth 100000
set_option linter.unusedVariables false
set_option maxHeartbeats 4000000

/-- the pages below k that were written, rising -/
def dirtL (D : List Bool) (k : Nat) : List Int := ((List.range k).filter fun i => D.getD i false).map fun i : Nat => (i : Int)
theorem dirtL_succ (D : List Bool) (k : Nat) : dirtL D (k + 1) = dirtL D k ++ if D.getD k false = true then [(k : Int)] else [] := by
 unfold dirtL
 rw [List.range_succ, List.filter_append, List.map_append]
 by_cases h : D.getD k false = true
 ·have e : List.filter (fun i => D.getD i false) [k] = [k] := by simp only [List.filter, h]
  rw [e, if_pos h]; rfl
 ·have e : List.filter (fun i => D.getD i false) [k] = [] := by
   have h2 : D.getD k false = false := by simpa using h
   simp only [List.filter, h2]
  rw [e, if_neg h]; rfl
theorem idx_bool (D : List Bool) (hD : D.length = 12) (k : Nat) (hk : k < 12) : ∀ W, (Instr.index 67 (.agg (D.map Value.bool).toArray) (.int .i64 k)).run Tryz.prog W = .ok (.bool (D.getD k false)) W := by
 match D, hD with
 | [d0, d1, d2, d3, d4, d5, d6, d7, d8, d9, d10, d11], _ =>
  match k, hk with
  | 0, _ => exact fun _ => by kernel_rfl
  | 1, _ => exact fun _ => by kernel_rfl
  | 2, _ => exact fun _ => by kernel_rfl
  | 3, _ => exact fun _ => by kernel_rfl
  | 4, _ => exact fun _ => by kernel_rfl
  | 5, _ => exact fun _ => by kernel_rfl
  | 6, _ => exact fun _ => by kernel_rfl
  | 7, _ => exact fun _ => by kernel_rfl
  | 8, _ => exact fun _ => by kernel_rfl
  | 9, _ => exact fun _ => by kernel_rfl
  | 10, _ => exact fun _ => by kernel_rfl
  | 11, _ => exact fun _ => by kernel_rfl
  | k + 12, h => omega
theorem size_bools (D : List Bool) (hD : D.length = 12) : (Tryz.prog.info? 67).map (·.size) = some (D.map Value.bool).length := by
 rw [List.length_map, hD]
 kernel_rfl
theorem vCells_d (s m : Nat) (D : List Bool) : ∀ j v, (D.map Value.bool)[j]? = some v → (vCells s m D)[2 + j]? = some v := fun j v h => by
 rw [show 2 + j = j + 1 + 1 by omega]
 simpa [vCells] using h
theorem vCells_wipe (s m : Nat) (D : List Bool) (hD : D.length = 12) : splice (vCells s m D) 2 noDv = vCells s m noD := by
 simp [splice, vCells, noDv, noD, hD]
theorem noDv_one : ∀ v ∈ noDv, v.oneCell' = true := by decide
theorem vCells_len (s m : Nat) (D : List Bool) (hD : D.length = 12) : 2 + noDv.length ≤ (vCells s m D).length := by simp [vCells, noDv, noD, hD]

section
variable {b s m n : Nat} {S : List Int} {L : List Gm.Pl} {D : List Bool}
theorem PV.wiped {w : World} (h : PV w b s m n S L D) : PV (w.setRow b (vCells s m noD).toArray) b s m n S L noD where
 blk := h.blk.row _
 st := h.st.of_block (setRow_other _ _ _ _ (fun e => by have := h.sm; have := h.mb; omega))
 mp := ⟨h.mp.1.of_block (setRow_other _ _ _ _ (fun e => by have := h.mb; omega)), h.mp.2⟩
 len := rfl
 pos := h.pos
 sm := h.sm
 mb := h.mb
theorem Kq.setRow {T : List Nat} {w w' : World} (h : Kq T w w') (b : Nat) (cs : Array Value) (hb : b ∈ T) : Kq T w (w'.setRow b cs) :=
 ⟨h.os, h.tape, h.output, by rw [size_setRow]; exact h.size, fun q hq hn => (setRow_other _ _ _ _ (fun e => hn (by rw [e]; exact hb))).trans (h.block q hq hn)⟩
theorem map_any (w : World) (hP : PV w b s m n S L D) : Calls Tryz.prog 15 #[.pointer (some ⟨b, 0, none⟩)] w fun e w' => e = .returned (.pointer (some ⟨m, 0, none⟩)) ∧ w = w' := by
 have HM := Lib.hid (made_yes b s w hP.cell0)
 have c1 := hP.cell1
 clear hP
 go_enter Tryz.func15, Tryz.ntmps15
 go_wp2_with fail
 refine HM.out.mono ?_
 rintro e w1 ⟨rfl, rfl⟩
 go_wp2
 go_ret
 exact ⟨rfl, rfl⟩
theorem store_any (w : World) (hP : PV w b s m n S L D) : Calls Tryz.prog 20 #[.pointer (some ⟨b, 0, none⟩)] w fun e w' => e = .returned (.pointer (some ⟨s, 0, none⟩)) ∧ w = w' := by
 have HM := Lib.hid (made_yes b s w hP.cell0)
 have c0 := hP.cell0
 clear hP
 go_enter Tryz.func20, Tryz.ntmps20
 go_wp2_with fail
 refine HM.out.mono ?_
 rintro e w1 ⟨rfl, rfl⟩
 go_wp2
 go_ret
 exact ⟨rfl, rfl⟩
end
end Go.Proofs.YteaincdeoajkeaaGreatDoor.Vw
end
section
/- The document's view (hermitageref16): place, Own, Read, Write, Dirty. -/
namespace Go.Proofs.YteaincdeoajkeaaGreatDoor.Vw
open Go.RowKit Ut Oc
set_option maxRecDepth 100000
set_option linter.unusedVariables false
set_option maxHeartbeats 4000000

theorem atP_nat {L : List Gm.Pl} {p : Nat} (h : p < 768) : Gm.atP L ((p : Int) / 64) = Gm.plN L (p / 64) := by
 rw [show (p : Int) / 64 = ((p / 64 : Nat) : Int) by omega]
 exact Gm.atP_is (by omega)
section
variable {g bt B q n gv cap : Nat} {S : List Int} {L : List Gm.Pl} {D : List Bool}
theorem place_none (z : Int) (h0 : 0 ≤ z) (h1 : z < 512) (hp : Gm.atP L (z / 64) = (0, 0)) (w : World) (h : DV w g bt B q n gv cap S L D) :
  Calls Tryz.prog 153 #[.pointer (some ⟨g, 0, none⟩), .int .i64 z] w fun e w' => e = .returned (.tuple #[.int .i64 0, .int .i64 0, .bool false]) ∧ Below w.heap.size w w' := by
 have HG := Lib.hid (Gm.refGet_any q L (z / 64) (0, 0) false hp rfl w h.mp)
 have c1 := h.cell1
 have HBX : Hid (∀ (W : World) (x y : Int), Below w.heap.size w W → Below w.heap.size w (W.alloc (.cells #[.int .i64 x, .int .i64 y] 54))) := Lib.hid fun W x y h => h.alloc h.size _
 have d8 : decide (8 ≤ z / 64) = false := by simp; omega
 have d0 : (0 : Int) ≤ z / 64 := by omega
 clear h hp
 go_enter Tryz.func153, Tryz.ntmps153
 go_wp2_with fail
 refine HG.out.mono ?_
 rintro e w1 ⟨rfl, hb⟩
 have HB := Lib.hid (HBX.out _ 0 0 hb)
 clear hb
 unfold Gm.plV
 go_upto_region 5 with fail
 generalize w1.alloc (.cells #[.int .i64 0, .int .i64 0] 54) = V at HB ⊢
 apply wp_region_auto [23, 24, 25, 26, 27, 28, 29, 30, 31, 32, 33] [_, _, _, _, _, _, _, _, _, _, _] (fun W' => Below V.heap.size V W')
 case hm => kernel_rfl
 case hT => intro y; simp only [setAll, List.setIfInBounds_toArray, List.set_cons_succ, List.set_cons_zero]; exact rfl
 case hok => kernel_rfl
 case hn => decide
 case hw => exact (Below.refl _ _).drew
 case hs =>
  refine auto_op 23 [] (by kernel_rfl) (fun y w' HW hd K hK => ?_) ?_
  ·go_simp
   refine hK _ _ ?_ ?_ HW
   ·simp [upd]
   ·exact rfl
  refine auto_op 24 [0] (by kernel_rfl) (fun y w' HW hd K hK => ?_) ?_
  ·have e0 := hd_nth (hd 0 (by simp)) rfl
   go_simp
   refine hK _ _ ?_ ?_ HW
   ·simp [upd, e0]
   ·exact rfl
  refine auto_op 25 [1] (by kernel_rfl) (fun y w' HW hd K hK => ?_) ?_
  ·have e1 := hd_nth (hd 1 (by simp)) rfl
   go_simp
   refine hK _ _ ?_ ?_ HW
   ·simp [upd, e1]
   ·exact rfl
  refine auto_op 26 [2] (by kernel_rfl) (fun y w' HW hd K hK => ?_) ?_
  ·have e2 := hd_nth (hd 2 (by simp)) rfl
   go_simp
   refine hK _ _ ?_ ?_ HW
   ·simp [upd, e2]
   ·exact rfl
  refine auto_op 27 [3, 2] (by kernel_rfl) (fun y w' HW hd K hK => ?_) ?_
  ·have e2 := hd_nth (hd 2 (by simp)) rfl
   have e3 := hd_nth (hd 3 (by simp)) rfl
   go_simp
   refine hK _ _ ?_ ?_ HW
   ·simp [upd, e2, e3]
   ·exact rfl
  refine auto_op 28 [4, 2] (by kernel_rfl) (fun y w' HW hd K hK => ?_) ?_
  ·have e2 := hd_nth (hd 2 (by simp)) rfl
   have e4 := hd_nth (hd 4 (by simp)) rfl
   go_simp
   refine hK _ _ ?_ ?_ HW
   ·simp [upd, e2, e4]
   ·exact rfl
  refine auto_op 29 [5, 2] (by kernel_rfl) (fun y w' HW hd K hK => ?_) ?_
  ·have e2 := hd_nth (hd 2 (by simp)) rfl
   have e5 := hd_nth (hd 5 (by simp)) rfl
   have hcl : ∀ p : Addr, p.block < V.heap.size → w'.cell? p = V.cell? p := fun p hp => HW.cell hp
   go_simp
   refine hK _ _ ?_ ?_ HW
   ·simp [upd, e2, e5]
   ·exact rfl
  refine auto_op 30 [2] (by kernel_rfl) (fun y w' HW hd K hK => ?_) ?_
  ·have e2 := hd_nth (hd 2 (by simp)) rfl
   go_simp
   refine hK _ _ ?_ ?_ HW
   ·simp [upd, e2]
   ·exact rfl
  refine auto_op 31 [7, 2] (by kernel_rfl) (fun y w' HW hd K hK => ?_) ?_
  ·have e2 := hd_nth (hd 2 (by simp)) rfl
   have e7 := hd_nth (hd 7 (by simp)) rfl
   have hcl : ∀ p : Addr, p.block < V.heap.size → w'.cell? p = V.cell? p := fun p hp => HW.cell hp
   go_simp
   refine hK _ _ ?_ ?_ HW
   ·simp [upd, e2, e7]
   ·exact rfl
  refine auto_op 32 [6, 8, 2, 2] (by kernel_rfl) (fun y w' HW hd K hK => ?_) ?_
  ·have e2 := hd_nth (hd 2 (by simp)) rfl
   have e6 := hd_nth (hd 6 (by simp)) rfl
   have e8 := hd_nth (hd 8 (by simp)) rfl
   go_simp
   refine hK _ _ ?_ ?_ HW
   ·simp [upd, e2, e6, e8]
   ·exact rfl
  refine auto_op 33 [9, 2] (by kernel_rfl) (fun y w' HW hd K hK => ?_) ?_
  ·have e2 := hd_nth (hd 2 (by simp)) rfl
   have e9 := hd_nth (hd 9 (by simp)) rfl
   go_simp
   refine hK _ _ ?_ ?_ HW
   ·simp [upd, e2, e9]
   ·exact rfl
  refine auto_last fun y w' HW hd K hK => ?_
  have e0 := hd_nth (hd 0 (by omega)) rfl
  have e1 := hd_nth (hd 1 (by omega)) rfl
  have e2 := hd_nth (hd 2 (by omega)) rfl
  have e3 := hd_nth (hd 3 (by omega)) rfl
  have e4 := hd_nth (hd 4 (by omega)) rfl
  have e5 := hd_nth (hd 5 (by omega)) rfl
  have e6 := hd_nth (hd 6 (by omega)) rfl
  have e7 := hd_nth (hd 7 (by omega)) rfl
  have e8 := hd_nth (hd 8 (by omega)) rfl
  have e9 := hd_nth (hd 9 (by omega)) rfl
  have e10 := hd_nth (hd 10 (by omega)) rfl
  go_simp
  refine hK _ _ ?_
  clear hd hK K e0 e1 e2 e3 e4 e5 e6 e7 e8 e9 e10
  have HW2 := Lib.hid (HB.out.trans (HW.mono HB.out.size))
  clear HW
  go_wp2
  exact bodyPost_ret (v := .tuple #[.int .i64 0, .int .i64 0, .bool false]) (by simp [results, Tryz.results153, go_sem]) rfl ⟨rfl, HW2.out⟩
theorem place_is (z F R : Int) (h0 : 0 ≤ z) (h1 : z < 512) (hp : Gm.atP L (z / 64) = (F, R)) (hth : Gm.thB (F, R) = true) (t : Bool) (ht : (decide (0 ≤ F) && decide (F < n)) = t) (w : World) (h : DV w g bt B q n gv cap S L D) :
  Calls Tryz.prog 153 #[.pointer (some ⟨g, 0, none⟩), .int .i64 z] w fun e w' => e = .returned (.tuple #[.int .i64 (if t = true then F else 0), .int .i64 (if t = true then z % 64 else 0), .bool t]) ∧ Below w.heap.size w w' := by
 have HG := Lib.hid (Gm.refGet_any q L (z / 64) (F, R) true hp hth w h.mp)
 have c1 := h.cell1
 have HH := Lib.hid h
 have HBX : Hid (∀ (W : World) (x y : Int), Below w.heap.size w W → Below w.heap.size w (W.alloc (.cells #[.int .i64 x, .int .i64 y] 54))) := Lib.hid fun W x y h => h.alloc h.size _
 have HI : Hid (∀ W, DV W g bt B q n gv cap S L D → Calls Tryz.prog 80 #[.pointer (some ⟨bt, 0, none⟩), .int .i64 F] W fun e w' => e = .returned (.bool t) ∧ W = w') := Lib.hid fun W hW => refIs_dv F t ht W hW
 have d8 : decide (8 ≤ z / 64) = false := by simp; omega
 have d0 : (0 : Int) ≤ z / 64 := by omega
 have dm : (0 : Int) ≤ z % 64 := by omega
 clear h hp hth ht
 cases t
 all_goals
  go_enter Tryz.func153, Tryz.ntmps153
  go_wp2_with fail
  refine HG.out.mono ?_
  rintro e w1 ⟨rfl, hb⟩
  have HB := Lib.hid (HBX.out _ F R hb)
  have HN : Hid (Blk (w1.alloc (.cells #[.int .i64 F, .int .i64 R] 54)) w1.heap.size 54 [.int .i64 F, .int .i64 R]) := Blk.new w1 _ _
  clear hb c1
  unfold Gm.plV
  go_upto_region 5 with fail
  generalize w1.alloc (.cells #[.int .i64 F, .int .i64 R] 54) = V at HB HN ⊢
  generalize w1.heap.size = pb at HN ⊢
  have HV := Lib.hid (HH.out.more HB.out)
  have c0 := HV.out.cell0
  have n0 : V.cell? ⟨pb, 0, none⟩ = some (.int .i64 F) := HN.out.cell rfl
  have b0 := HV.out.lt
  have b1 : pb < V.heap.size := HN.out.lt
  have HIV : Hid (∀ W, Below V.heap.size V W → Calls Tryz.prog 80 #[.pointer (some ⟨bt, 0, none⟩), .int .i64 F] W fun e w' => e = .returned (.bool _) ∧ W = w') := Lib.hid fun W hW => HI.out W (HV.out.more hW)
 ·skip
  apply wp_region_auto [23, 24, 25, 26, 27, 28, 29, 30, 31, 32, 33] [_, _, _, _, _, _, _, _, _, _, _] (fun W' => Below V.heap.size V W')
  case hm => kernel_rfl
  case hT => intro y; simp only [setAll, List.setIfInBounds_toArray, List.set_cons_succ, List.set_cons_zero]; exact rfl
  case hok => kernel_rfl
  case hn => decide
  case hw => exact (Below.refl _ _).drew
  case hs =>
   refine auto_op 23 [] (by kernel_rfl) (fun y w' HW hd K hK => ?_) ?_
   ·go_simp
    refine hK _ _ ?_ ?_ HW
    ·simp [upd]
    ·exact rfl
   refine auto_op 24 [0] (by kernel_rfl) (fun y w' HW hd K hK => ?_) ?_
   ·have e0 := hd_nth (hd 0 (by simp)) rfl
    go_simp
    refine hK _ _ ?_ ?_ HW
    ·simp [upd, e0]
    ·exact rfl
   refine auto_op 25 [1] (by kernel_rfl) (fun y w' HW hd K hK => ?_) ?_
   ·have e1 := hd_nth (hd 1 (by simp)) rfl
    go_simp
    refine hK _ _ ?_ ?_ HW
    ·simp [upd, e1]
    ·exact rfl
   refine auto_op 26 [2] (by kernel_rfl) (fun y w' HW hd K hK => ?_) ?_
   ·have e2 := hd_nth (hd 2 (by simp)) rfl
    go_simp
    refine hK _ _ ?_ ?_ HW
    ·simp [upd, e2]
    ·exact rfl
   refine auto_op 27 [3, 2] (by kernel_rfl) (fun y w' HW hd K hK => ?_) ?_
   ·have e2 := hd_nth (hd 2 (by simp)) rfl
    have e3 := hd_nth (hd 3 (by simp)) rfl
    go_simp
    refine hK _ _ ?_ ?_ HW
    ·simp [upd, e2, e3]
    ·exact rfl
   refine auto_op 28 [4, 2] (by kernel_rfl) (fun y w' HW hd K hK => ?_) ?_
   ·have e2 := hd_nth (hd 2 (by simp)) rfl
    have e4 := hd_nth (hd 4 (by simp)) rfl
    go_simp
    refine hK _ _ ?_ ?_ HW
    ·simp [upd, e2, e4]
    ·exact rfl
   refine auto_op 29 [5, 2] (by kernel_rfl) (fun y w' HW hd K hK => ?_) ?_
   ·have e2 := hd_nth (hd 2 (by simp)) rfl
    have e5 := hd_nth (hd 5 (by simp)) rfl
    have hcl : ∀ p : Addr, p.block < V.heap.size → w'.cell? p = V.cell? p := fun p hp => HW.cell hp
    go_simp
    refine hK _ _ ?_ ?_ HW
    ·simp [upd, e2, e5]
    ·exact rfl
   refine auto_op 30 [2] (by kernel_rfl) (fun y w' HW hd K hK => ?_) ?_
   ·have e2 := hd_nth (hd 2 (by simp)) rfl
    go_simp
    refine hK _ _ ?_ ?_ HW
    ·simp [upd, e2]
    ·exact rfl
   refine auto_op 31 [7, 2] (by kernel_rfl) (fun y w' HW hd K hK => ?_) ?_
   ·have e2 := hd_nth (hd 2 (by simp)) rfl
    have e7 := hd_nth (hd 7 (by simp)) rfl
    have hcl : ∀ p : Addr, p.block < V.heap.size → w'.cell? p = V.cell? p := fun p hp => HW.cell hp
    go_simp
    refine hK _ _ ?_ ?_ HW
    ·simp [upd, e2, e7]
    ·exact rfl
   refine auto_op 32 [6, 8, 2, 2] (by kernel_rfl) (fun y w' HW hd K hK => ?_) ?_
   ·have e2 := hd_nth (hd 2 (by simp)) rfl
    have e6 := hd_nth (hd 6 (by simp)) rfl
    have e8 := hd_nth (hd 8 (by simp)) rfl
    go_simp
    refine (HIV.out _ HW).mono ?_
    rintro e w3 ⟨rfl, rfl⟩
    refine hK _ _ ?_ ?_ HW
    ·simp [upd, e2, e6, e8]
    ·exact rfl
   refine auto_op 33 [9, 2] (by kernel_rfl) (fun y w' HW hd K hK => ?_) ?_
   ·have e2 := hd_nth (hd 2 (by simp)) rfl
    have e9 := hd_nth (hd 9 (by simp)) rfl
    go_simp
    refine hK _ _ ?_ ?_ HW
    ·simp [upd, e2, e9]
    ·exact rfl
   refine auto_last fun y w' HW hd K hK => ?_
   have e0 := hd_nth (hd 0 (by omega)) rfl
   have e1 := hd_nth (hd 1 (by omega)) rfl
   have e2 := hd_nth (hd 2 (by omega)) rfl
   have e3 := hd_nth (hd 3 (by omega)) rfl
   have e4 := hd_nth (hd 4 (by omega)) rfl
   have e5 := hd_nth (hd 5 (by omega)) rfl
   have e6 := hd_nth (hd 6 (by omega)) rfl
   have e7 := hd_nth (hd 7 (by omega)) rfl
   have e8 := hd_nth (hd 8 (by omega)) rfl
   have e9 := hd_nth (hd 9 (by omega)) rfl
   have e10 := hd_nth (hd 10 (by omega)) rfl
   go_simp
   refine hK _ _ ?_
   clear hd hK K e0 e1 e2 e3 e4 e5 e6 e7 e8 e9 e10
   have HW2 := Lib.hid (HB.out.trans (HW.mono HB.out.size))
   clear HW
   go_wp2
   exact bodyPost_ret (v := .tuple #[.int .i64 0, .int .i64 0, .bool false]) (by simp [results, Tryz.results153, go_sem]) rfl ⟨rfl, HW2.out⟩
 ·skip
  apply wp_region_auto [23, 24, 25, 26, 27, 28, 29, 30, 31, 32, 33] [_, _, _, _, _, _, _, _, _, _, _] (fun W' => Below V.heap.size V W')
  case hm => kernel_rfl
  case hT => intro y; simp only [setAll, List.setIfInBounds_toArray, List.set_cons_succ, List.set_cons_zero]; exact rfl
  case hok => kernel_rfl
  case hn => decide
  case hw => exact (Below.refl _ _).drew
  case hs =>
   refine auto_op 23 [] (by kernel_rfl) (fun y w' HW hd K hK => ?_) ?_
   ·go_simp
    refine hK _ _ ?_ ?_ HW
    ·simp [upd]
    ·exact rfl
   refine auto_op 24 [0] (by kernel_rfl) (fun y w' HW hd K hK => ?_) ?_
   ·have e0 := hd_nth (hd 0 (by simp)) rfl
    go_simp
    refine hK _ _ ?_ ?_ HW
    ·simp [upd, e0]
    ·exact rfl
   refine auto_op 25 [1] (by kernel_rfl) (fun y w' HW hd K hK => ?_) ?_
   ·have e1 := hd_nth (hd 1 (by simp)) rfl
    go_simp
    refine hK _ _ ?_ ?_ HW
    ·simp [upd, e1]
    ·exact rfl
   refine auto_op 26 [2] (by kernel_rfl) (fun y w' HW hd K hK => ?_) ?_
   ·have e2 := hd_nth (hd 2 (by simp)) rfl
    go_simp
    refine hK _ _ ?_ ?_ HW
    ·simp [upd, e2]
    ·exact rfl
   refine auto_op 27 [3, 2] (by kernel_rfl) (fun y w' HW hd K hK => ?_) ?_
   ·have e2 := hd_nth (hd 2 (by simp)) rfl
    have e3 := hd_nth (hd 3 (by simp)) rfl
    go_simp
    refine hK _ _ ?_ ?_ HW
    ·simp [upd, e2, e3]
    ·exact rfl
   refine auto_op 28 [4, 2] (by kernel_rfl) (fun y w' HW hd K hK => ?_) ?_
   ·have e2 := hd_nth (hd 2 (by simp)) rfl
    have e4 := hd_nth (hd 4 (by simp)) rfl
    go_simp
    refine hK _ _ ?_ ?_ HW
    ·simp [upd, e2, e4]
    ·exact rfl
   refine auto_op 29 [5, 2] (by kernel_rfl) (fun y w' HW hd K hK => ?_) ?_
   ·have e2 := hd_nth (hd 2 (by simp)) rfl
    have e5 := hd_nth (hd 5 (by simp)) rfl
    have hcl : ∀ p : Addr, p.block < V.heap.size → w'.cell? p = V.cell? p := fun p hp => HW.cell hp
    go_simp
    refine hK _ _ ?_ ?_ HW
    ·simp [upd, e2, e5]
    ·exact rfl
   refine auto_op 30 [2] (by kernel_rfl) (fun y w' HW hd K hK => ?_) ?_
   ·have e2 := hd_nth (hd 2 (by simp)) rfl
    go_simp
    refine hK _ _ ?_ ?_ HW
    ·simp [upd, e2]
    ·exact rfl
   refine auto_op 31 [7, 2] (by kernel_rfl) (fun y w' HW hd K hK => ?_) ?_
   ·have e2 := hd_nth (hd 2 (by simp)) rfl
    have e7 := hd_nth (hd 7 (by simp)) rfl
    have hcl : ∀ p : Addr, p.block < V.heap.size → w'.cell? p = V.cell? p := fun p hp => HW.cell hp
    go_simp
    refine hK _ _ ?_ ?_ HW
    ·simp [upd, e2, e7]
    ·exact rfl
   refine auto_op 32 [6, 8, 2, 2] (by kernel_rfl) (fun y w' HW hd K hK => ?_) ?_
   ·have e2 := hd_nth (hd 2 (by simp)) rfl
    have e6 := hd_nth (hd 6 (by simp)) rfl
    have e8 := hd_nth (hd 8 (by simp)) rfl
    go_simp
    refine (HIV.out _ HW).mono ?_
    rintro e w3 ⟨rfl, rfl⟩
    refine hK _ _ ?_ ?_ HW
    ·simp [upd, e2, e6, e8]
    ·exact rfl
   refine auto_op 33 [9, 2] (by kernel_rfl) (fun y w' HW hd K hK => ?_) ?_
   ·have e2 := hd_nth (hd 2 (by simp)) rfl
    have e9 := hd_nth (hd 9 (by simp)) rfl
    go_simp
    refine hK _ _ ?_ ?_ HW
    ·simp [upd, e2, e9]
    ·exact rfl
   refine auto_last fun y w' HW hd K hK => ?_
   have e0 := hd_nth (hd 0 (by omega)) rfl
   have e1 := hd_nth (hd 1 (by omega)) rfl
   have e2 := hd_nth (hd 2 (by omega)) rfl
   have e3 := hd_nth (hd 3 (by omega)) rfl
   have e4 := hd_nth (hd 4 (by omega)) rfl
   have e5 := hd_nth (hd 5 (by omega)) rfl
   have e6 := hd_nth (hd 6 (by omega)) rfl
   have e7 := hd_nth (hd 7 (by omega)) rfl
   have e8 := hd_nth (hd 8 (by omega)) rfl
   have e9 := hd_nth (hd 9 (by omega)) rfl
   have e10 := hd_nth (hd 10 (by omega)) rfl
   go_simp
   refine hK _ _ ?_
   clear hd hK K e0 e1 e2 e3 e4 e5 e6 e7 e8 e9 e10
   have HW2 := Lib.hid (HB.out.trans (HW.mono HB.out.size))
   have n1 : w'.cell? ⟨pb, 0, none⟩ = some (.int .i64 F) := (HN.out.more HW).cell rfl
   clear HW
   go_wp2
   exact bodyPost_ret (v := .tuple #[.int .i64 F, .int .i64 (z % 64), .bool true]) (by simp [results, Tryz.results153, go_sem]) rfl ⟨rfl, HW2.out⟩
/-- any byte below 512 -/
theorem place_any (p : Nat) (hp : p < 512) (t : Bool) (ht : okA n L p = t) (w : World) (h : DV w g bt B q n gv cap S L D) :
  Calls Tryz.prog 153 #[.pointer (some ⟨g, 0, none⟩), .int .i64 p] w fun e w' => e = .returned (.tuple #[.int .i64 (if t = true then ((frN L (p / 64) : Nat) : Int) else 0), .int .i64 (if t = true then ((p % 64 : Nat) : Int) else 0), .bool t]) ∧ Below w.heap.size w w' := by
 have hat := atP_nat (L := L) (p := p) (by omega)
 unfold okA at ht
 rcases Gm.pl_cases h.mp.2 (p / 64) with h2 | ⟨f, r, h2, hf, _, _, h4⟩
 ·have e : okP n (Gm.plN L (p / 64)) = false := by rw [h2]; rfl
  rw [e] at ht
  subst ht
  exact place_none p (by omega) (by omega) (by rw [hat, h2]) w h
 ·have H := place_is (p : Int) f r (by omega) (by omega) (by rw [hat, h2]) h4 t (by rw [← ht, h2]; unfold okP; rw [h4]; simp) w h
  have e : ((frN L (p / 64) : Nat) : Int) = f := by unfold frN; rw [h2]; simp
  rw [e]
  exact H

theorem refOwn_out (z k : Int) (h0 : 0 ≤ z) (h1 : z < 4294967296) (hb : k < 0 ∨ 512 < z ∨ 512 - z < k) (w : World) :
  Calls Tryz.prog 152 #[.pointer (some ⟨g, 0, none⟩), .int .u32 z, .int .i64 k] w fun e w' => e = .returned (.bool false) ∧ w = w' := by
 by_cases c1 : k < 0
 ·have d1 : decide (k < 0) = true := by simpa using c1
  go_enter Tryz.func152, Tryz.ntmps152
  go_wp2
  go_ret
  exact ⟨rfl, rfl⟩
 have d1 : decide (k < 0) = false := by simpa using c1
 by_cases c2 : 512 < z
 ·have d2 : decide (512 < z) = true := by simpa using c2
  go_enter Tryz.func152, Tryz.ntmps152
  go_wp2
  go_ret
  exact ⟨rfl, rfl⟩
 have d2 : decide (512 < z) = false := by simpa using c2
 have d3 : decide (512 - z < k) = true := by simp; omega
 have hz : z ≤ 512 := by omega
 clear hb c1 c2 h1
 go_enter Tryz.func152, Tryz.ntmps152
 go_wp2
 go_ret
 exact ⟨rfl, rfl⟩
theorem refOwn_in (a K : Nat) (haK : a + K ≤ 512) (t : Bool) (ht : t = true ↔ ∀ i, i < K → okA n L (a + i) = true) (w : World) (h : DV w g bt B q n gv cap S L D) :
  Calls Tryz.prog 152 #[.pointer (some ⟨g, 0, none⟩), .int .u32 a, .int .i64 K] w fun e w' => e = .returned (.bool t) ∧ Below w.heap.size w w' := by
 have H := Lib.hid h
 have HT := Lib.hid ht
 have HAK := Lib.hid haK
 have d1 : decide ((K : Int) < 0) = false := by simp
 have d2 : decide ((512 : Int) < (a : Int)) = false := by simp; omega
 have d3 : decide ((512 : Int) - (a : Int) < (K : Int)) = false := by simp; omega
 have ha : (a : Int) ≤ 512 := by omega
 have hK : (K : Int) ≤ 512 := by omega
 clear h ht haK
 go_enter Tryz.func152, Tryz.ntmps152
 go_wp2
 clear d1 d2 d3
 go_loopw [7] (fun j wr => ∃ i : Nat, i ≤ K ∧ j = .int .i64 i ∧ Hid (∀ x, x < i → okA n L (a + x) = true) ∧ Hid (Below w.heap.size w wr)) (fun j _ => K - (intOf j).toNat)
 case atStart => exact ⟨0, Nat.zero_le _, rfl, fun x hx => absurd hx (Nat.not_lt_zero x), Below.refl _ _⟩
 case round =>
  obtain ⟨i, hi, rfl, HO, HB⟩ := hrel
  by_cases hlt : i < K
  ·have f1 : (i : Int) < (K : Int) := by omega
   have H3 := Lib.hid hlt
   have hs : (a : Int) + (i : Int) ≤ 512 := by have := HAK.out; omega
   clear hlt hi
   obtain ⟨o, ho⟩ : ∃ o, okA n L (a + i) = o := ⟨_, rfl⟩
   have HP := Lib.hid (place_any (a + i) (by have := HAK.out; have := H3.out; omega) o ho wr (H.out.more HB.out))
   have HO2 : Hid (o = true → ∀ x, x < i + 1 → okA n L (a + x) = true) := Lib.hid fun h1 x hx => by
    by_cases e : x = i
    ·subst e; rw [ho]; exact h1
    ·exact HO.out x (by omega)
   have HNO : Hid (o = false → t = false) := Lib.hid fun h1 => by
    cases t
    ·rfl
    ·have := HT.out.1 rfl i H3.out
     rw [ho, h1] at this
     exact absurd this (by decide)
   clear ho
   rw [show ((a + i : Nat) : Int) = (a : Int) + (i : Int) by omega] at HP
   generalize ((frN L ((a + i) / 64) : Nat) : Int) = F at HP
   generalize (((a + i) % 64 : Nat) : Int) = O at HP
   cases o
   ·go_wp2_with fail
    refine HP.out.mono ?_
    rintro e w1 ⟨rfl, hb⟩
    have HB1 := Lib.hid (HB.out.trans (hb.mono HB.out.size))
    clear hb
    go_wp2
    go_ret
    exact ⟨by rw [HNO.out (by simp)]; rfl, HB1.out⟩
   ·go_wp2_with fail
    refine HP.out.mono ?_
    rintro e w1 ⟨rfl, hb⟩
    have HB1 := Lib.hid (HB.out.trans (hb.mono HB.out.size))
    clear hb
    go_wp2
    go_roundw
    case rel => exact ⟨i + 1, H3.out, by go_num, HO2.out (by simp), HB1⟩
    case measure => have := H3.out; simp [intOf]; omega
  ·have f1 : ¬ (i : Int) < (K : Int) := by omega
   obtain rfl : i = K := by omega
   have HTT := Lib.hid (HT.out.2 HO.out)
   clear hlt hi
   go_wp2
   go_ret
   exact ⟨by rw [HTT.out]; rfl, HB.out⟩
theorem refOwn_any (z k : Int) (t : Bool) (h0 : 0 ≤ z) (h1 : z < 4294967296) (ht : ownB n L z k = t) (w : World) (h : DV w g bt B q n gv cap S L D) :
  Calls Tryz.prog 152 #[.pointer (some ⟨g, 0, none⟩), .int .u32 z, .int .i64 k] w fun e w' => e = .returned (.bool t) ∧ Below w.heap.size w w' := by
 rcases own_cases n L z k h0 with ⟨h2, h3⟩ | ⟨a, K, rfl, rfl, h2, h3⟩
 ·rw [h2] at ht
  subst ht
  exact (refOwn_out z k h0 h1 h3 w).mono fun e w' ⟨he, hb⟩ => ⟨he, hb ▸ Below.refl _ _⟩
 ·rw [ht] at h3
  exact refOwn_in a K h2 t h3 w h

theorem refRead_no (z k : Int) (h0 : 0 ≤ z) (h1 : z < 4294967296) (ht : ownB n L z k = false) (w : World) (h : DV w g bt B q n gv cap S L D) :
  Calls Tryz.prog 147 #[.pointer (some ⟨g, 0, none⟩), .int .u32 z, .int .i64 k] w fun e w' => e = .returned (.tuple #[.slice none 0 0, .bool false]) ∧ Below w.heap.size w w' := by
 have HO := Lib.hid (refOwn_any z k false h0 h1 ht w h)
 clear ht h
 go_enter Tryz.func147, Tryz.ntmps147
 go_wp2_with fail
 refine HO.out.mono ?_
 rintro e w1 ⟨rfl, hb⟩
 go_wp2
 go_ret2
 exact ⟨rfl, hb⟩
theorem refRead_yes (a K : Nat) (haK : a + K ≤ 512) (ht : ownB n L a K = true) (hall : ∀ i, i < K → okA n L (a + i) = true) (w : World) (h : DV w g bt B q n gv cap S L D) :
  Calls Tryz.prog 147 #[.pointer (some ⟨g, 0, none⟩), .int .u32 a, .int .i64 K] w fun e w' => ∃ p m c, e = .returned (.tuple #[.slice p m c, .bool true]) ∧ Hid (RowK .u8 w' w'.heap.size p m (rB L S a K)) ∧ Below w.heap.size w w' := by
 have H := Lib.hid h
 have HALL := Lib.hid hall
 have HAK := Lib.hid haK
 have HO := Lib.hid (refOwn_any a K true (by omega) (by omega) ht w h)
 have ha : (a : Int) ≤ 512 := by omega
 have hK : (K : Int) ≤ 512 := by omega
 clear h ht haK hall
 go_enter Tryz.func147, Tryz.ntmps147
 go_wp2_with fail
 refine HO.out.mono ?_
 rintro e w1 ⟨rfl, hb⟩
 have HB0 := Lib.hid hb
 clear hb HO
 go_wp2
 go_loopw [8, 9] (fun v j wr => ∃ (i cp : Nat) (p : Option Addr), i ≤ K ∧ v = .slice p i cp ∧ j = .int .i64 i ∧ Hid (OwnI .u8 wr w.heap.size 5 (.slice p i cp) i (rB L S a i)) ∧ Hid (Below w.heap.size w wr)) (fun _ j _ => K - (intOf j).toNat)
 case atStart => exact ⟨0, 0, none, Nat.zero_le _, rfl, rfl, OwnI.nil _ _ _ _, HB0⟩
 case round =>
  obtain ⟨i, cp, p, hi, rfl, rfl, HOW, HB⟩ := hrel
  by_cases hlt : i < K
  ·have f1 : (i : Int) < (K : Int) := by omega
   have H3 := Lib.hid hlt
   have hs : (a : Int) + (i : Int) ≤ 512 := by have := HAK.out; omega
   clear hlt hi
   have hok := HALL.out i H3.out
   have HP := Lib.hid (place_any (a + i) (by have := HAK.out; have := H3.out; omega) true hok wr (H.out.more HB.out))
   obtain ⟨f, hf1, hf2, hfn, hf32⟩ := ok_frame H.out.mp.2 (show okP n (Gm.plN L ((a + i) / 64)) = true from hok)
   have HL : Hid (∀ W, DV W g bt B q n gv cap S L D → Calls Tryz.prog 47 #[.pointer (some ⟨bt, 0, none⟩), .int .i64 f, .int .i64 ((a + i) % 64 : Nat), .int .i64 1] W fun e w' => e = .returned (.tuple #[.int .u32 (S.getD (posn L (a + i)) 0), .int .i64 0]) ∧ W = w') := Lib.hid fun W hW => by
    obtain ⟨vs, hs⟩ := hW.st
    have := Fr.refLoad_in (o := (a + i) % 64) (m := 1) hs hfn (by decide) (by omega)
    rw [Fr.fr_at S hfn, num_one hW.s0 hf32 (by omega)] at this
    unfold posn
    rw [hf2]
    exact this
   have hby := H.out.s1.at_ (posn L (a + i))
   have HS := Lib.hid (rB_succ L S a i)
   have HQ : Hid (∀ W, Below w.heap.size w W → DV W g bt B q n gv cap S L D) := Lib.hid fun W hW => H.out.more hW
   rw [show ((a + i : Nat) : Int) = (a : Int) + (i : Int) by omega, hf2] at HP
   clear hok hf1 hf2 hfn hf32
   generalize S.getD (posn L (a + i)) 0 = u at HL hby HS
   generalize (f : Int) = F at HP HL
   generalize (((a + i) % 64 : Nat) : Int) = O at HP HL
   obtain ⟨u0, u1⟩ := hby
   go_wp2_with fail
   refine HP.out.mono ?_
   rintro e w2 ⟨rfl, hb⟩
   have HB1 := Lib.hid (HB.out.trans (hb.mono HB.out.size))
   have HOW1 := Lib.hid (HOW.out.below hb)
   have HD1 := Lib.hid (HQ.out _ HB1.out)
   have c0 := HD1.out.cell0
   clear hb HB HOW
   go_wp2_with fail
   refine (HL.out _ HD1.out).mono ?_
   rintro e w3 ⟨rfl, rfl⟩
   have HBA := Lib.hid (HB1.out.trans (((Below.refl w2.heap.size w2).alloc (Nat.le_refl _) (.cells #[.int .u8 u] 5)).mono HB1.out.size))
   have HOA : Hid (OwnI .u8 (w2.alloc (.cells #[.int .u8 u] 5)) w.heap.size 5 (.slice p i cp) i (rB L S a i)) := HOW1.out.alloc _
   have HRA : Hid (RowK .u8 (w2.alloc (.cells #[.int .u8 u] 5)) (w2.heap.size + 1) (some ⟨w2.heap.size, 0, none⟩) 1 [u]) := RowK.new1 .u8 w2 u _
   clear HL HP c0
   go_wp2_with (refine wpList_append_ints rfl _ _ 70 rfl .u8 w.heap.size 5 1 Tryz.underlying70 (by kernel_rfl) (.slice p i cp) i (rB L S a i) rfl HOA.out _ _ 1 1 [u] rfl HRA.out (by have := H3.out; have := HAK.out; unfold maxLen; omega) (by have := H3.out; have := HAK.out; omega) HBA.out.size ?_; intro v' w' HO2 hb2 _)
   obtain ⟨gn, cp', rfl, _⟩ := HO2.out.form (by omega)
   have HB3 := Lib.hid (HBA.out.trans hb2)
   clear hb2
   go_wp2
   go_roundw
   case rel => exact ⟨i + 1, cp', some ⟨gn, 0, none⟩, H3.out, rfl, by go_num, by rw [HS.out]; exact HO2, HB3⟩
   case measure => have := H3.out; simp [intOf]; omega
  ·have f1 : ¬ (i : Int) < (K : Int) := by omega
   obtain rfl : i = K := by omega
   clear hlt hi
   obtain ⟨a', cap', e, _, _, hr⟩ := HOW.out.row
   injection e with e1 e2 e3
   subst e1 e3
   have HR := Lib.hid hr
   clear hr
   go_wp2
   go_ret2
   exact ⟨p, i, ⟨cp, rfl⟩, HR, HB.out⟩

theorem DV.wiped {w : World} (h : DV w g bt B q n gv cap S L D) : DV (w.setRow g (vCells bt q noD).toArray) g bt B q n gv cap S L noD := by
 obtain ⟨vs, hs⟩ := h.st
 have k : Kq [g] w (w.setRow g (vCells bt q noD).toArray) := Kq.setRow (Kq.refl _ _) g _ (by simp)
 exact ⟨h.blk.row _, ⟨vs, rt_kq hs h.pos k (fun x hx => by
  obtain rfl : x = g := by simpa using hx
  exact .inr (.inl ⟨_, h.cell0⟩))⟩, ⟨h.mp.1.kq k (by have := h.qg; simp; omega), h.mp.2⟩, rfl, h.pos, h.s0, h.s1, h.n32, h.bq, h.qg⟩
end
end Go.Proofs.YteaincdeoajkeaaGreatDoor.Vw
end
section
/- Package view: Write of the program. -/
namespace Go.Proofs.YteaincdeoajkeaaGreatDoor.Vw
open Go.RowKit Go.Shelf Ut Oc
set_option maxRecDepth 100000
set_option linter.unusedVariables false
set_option maxHeartbeats 4000000

section
variable {b s m n : Nat} {S : List Int} {L : List Gm.Pl} {D : List Bool}
/-- between two parts: their bytes are laid, their pages marked -/
def WrI (b s m n : Nat) (S : List Int) (L : List Gm.Pl) (D : List Bool) (zs : List Int) (Bv Bs : Nat) (sv : Value) {a K : Nat} (pre : List (BP a K)) (W : World) : Prop :=
 PV W b s m n (foldS L zs S pre) L (foldD D pre) ∧ Boxed W Bv 25 (.pointer (some ⟨b, 0, none⟩)) ∧ Boxed W Bs 70 sv
/-- what both sides write, whatever they are asked -/
def wrtS (n : Nat) (S : List Int) (L : List Gm.Pl) (z : Int) (zs : List Int) : List Int := if ownB n L z zs.length = true then wS L S z.toNat zs zs.length else S
def wrtD (n : Nat) (L : List Gm.Pl) (D : List Bool) (z : Int) (k : Nat) : List Bool := if ownB n L z k = true then wD D z.toNat k else D
/-- .. read -/
def rdL (n : Nat) (S : List Int) (L : List Gm.Pl) (z k : Int) : List Int := if ownB n L z k = true then rB L S z.toNat k.toNat else []
theorem read_any (z k : Int) (t : Bool) (h0 : 0 ≤ z) (h1 : z < 4294967296) (ht : ownB n L z k = t) (w : World) (hP : PV w b s m n S L D) :
  Calls Tryz.prog 136 #[.pointer (some ⟨b, 0, none⟩), .int .u32 z, .int .i64 k] w fun e w' => ∃ p q c, e = .returned (.tuple #[.slice p q c, .bool t]) ∧ Hid (RowK .u8 w' w'.heap.size p q (rdL n S L z k)) ∧ Below w.heap.size w w' := by
 have hno : ownB n L z k = false → Calls Tryz.prog 136 #[.pointer (some ⟨b, 0, none⟩), .int .u32 z, .int .i64 k] w fun e w' => ∃ p q c, e = .returned (.tuple #[.slice p q c, .bool false]) ∧ Hid (RowK .u8 w' w'.heap.size p q (rdL n S L z k)) ∧ Below w.heap.size w w' := fun hf => by
  have e : rdL n S L z k = [] := by unfold rdL; rw [hf]; rfl
  rw [e]
  exact (read_no _ z k w fun W c hW => each_no _ z k _ W (fun V hV => own_any z k false h0 h1 hf V ((hP.more hW).more hV)) rfl ⟨_, _, rfl⟩).mono fun e w' ⟨he, hb⟩ => ⟨none, 0, 0, he, RowK.nil _ _ _ _, hb⟩
 rcases own_cases n L z k h0 with ⟨h2, _⟩ | ⟨a, K, rfl, rfl, h2, h3⟩
 ·rw [h2] at ht
  subst ht
  exact hno h2
 ·cases t
  ·exact hno ht
  ·have e : rdL n S L a K = rB L S a K := by unfold rdL; rw [if_pos ht]; rfl
   rw [e]
   exact read_yes a K h2 ht (h3.1 ht) w hP
end
end Go.Proofs.YteaincdeoajkeaaGreatDoor.Vw
end
section
/- hermitagelaw16: made; the document's Read and Write whatever they are asked. -/
namespace Go.Proofs.YteaincdeoajkeaaGreatDoor.Vw
open Go.RowKit Go.Shelf Ut Oc
set_option maxRecDepth 100000
set_option linter.unusedVariables false
set_option maxHeartbeats 4000000

section
variable {g bt B q n gv cap : Nat} {S : List Int} {L : List Gm.Pl} {D : List Bool}
theorem refRead_any (z k : Int) (t : Bool) (h0 : 0 ≤ z) (h1 : z < 4294967296) (ht : ownB n L z k = t) (w : World) (hP : DV w g bt B q n gv cap S L D) :
  Calls Tryz.prog 147 #[.pointer (some ⟨g, 0, none⟩), .int .u32 z, .int .i64 k] w fun e w' => ∃ p q c, e = .returned (.tuple #[.slice p q c, .bool t]) ∧ Hid (RowK .u8 w' w'.heap.size p q (rdL n S L z k)) ∧ Below w.heap.size w w' := by
 have hno : ownB n L z k = false → Calls Tryz.prog 147 #[.pointer (some ⟨g, 0, none⟩), .int .u32 z, .int .i64 k] w fun e w' => ∃ p q c, e = .returned (.tuple #[.slice p q c, .bool false]) ∧ Hid (RowK .u8 w' w'.heap.size p q (rdL n S L z k)) ∧ Below w.heap.size w w' := fun hf => by
  have e : rdL n S L z k = [] := by unfold rdL; rw [hf]; rfl
  rw [e]
  exact (refRead_no z k h0 h1 hf w hP).mono fun e w' ⟨he, hb⟩ => ⟨none, 0, 0, he, RowK.nil _ _ _ _, hb⟩
 rcases own_cases n L z k h0 with ⟨h2, _⟩ | ⟨a, K, rfl, rfl, h2, h3⟩
 ·rw [h2] at ht
  subst ht
  exact hno h2
 ·cases t
  ·exact hno ht
  ·have e : rdL n S L a K = rB L S a K := by unfold rdL; rw [if_pos ht]; rfl
   rw [e]
   exact refRead_yes a K h2 ht (h3.1 ht) w hP
end

/-- the map behind the first k pages -/
def mkL (xs : List Int) (Z : Nat → Gm.Pl) : Nat → List Gm.Pl
 | 0 => Gm.noP
 | k + 1 => Gm.setL (mkL xs Z k) (xs.getD k 0) (Z k)
def cnt (li lp : Nat) : Nat := min (min li lp) 30

/-- what made makes -/
structure Mk (w0 w : World) (b s m n g bt B q gv cap : Nat) (L : List Gm.Pl) : Prop where
 pv : PV w b s m n Fr.zeros L noD
 dv : DV w g bt B q n gv cap Fr.zeros L noD
 ws : w0.heap.size ≤ s
 mB : m < B
 qb : q < b
 bg : b < g
 blw : Below w0.heap.size w0 w

end Go.Proofs.YteaincdeoajkeaaGreatDoor.Vw
end
section
/- Package walk: a word of a table, plainly; entry; the document's Word, table. -/
namespace Go.Proofs.YteaincdeoajkeaaGreatDoor.Wa
open Go.RowKit Go.Shelf Ut Oc Vw
set_option maxRecDepth 100000
set_option linter.unusedVariables false
set_option maxHeartbeats 4000000

/-- is there a table at page p; its word at place i -/
def hasT (n : Nat) (L : List Gm.Pl) (p : Int) : Bool := decide (0 ≤ p) && decide (p < 8) && okP n (Gm.plN L p.toNat)
def wordT (n : Nat) (S : List Int) (L : List Gm.Pl) (p : Int) (i : Nat) : Nat := if hasT n L p = true then (num (rB L S (64 * p.toNat + 4 * i) 4)).toNat else 0

theorem rB_bytes {L : List Gm.Pl} {S : List Int} (h : AreBytes S) (a k : Nat) : AreBytes (rB L S a k) := fun z hz => by
 unfold rB at hz
 obtain ⟨i, _, rfl⟩ := List.mem_map.1 hz
 exact h.at_ _
theorem num4 {L : List Gm.Pl} {S : List Int} (h : AreBytes S) (a : Nat) : 0 ≤ num (rB L S a 4) ∧ num (rB L S a 4) < 4294967296 := by
 have := num_bd1 (rB L S a 4) (rB_bytes h a 4) (by rw [rB_len]; exact Nat.le_refl _)
 rw [rB_len] at this
 exact this
theorem wordT_lt {n : Nat} {S : List Int} {L : List Gm.Pl} (h : AreBytes S) (p : Int) (i : Nat) : wordT n S L p i < 4294967296 := by
 unfold wordT
 have := num4 (L := L) h (64 * p.toNat + 4 * i)
 by_cases ht : hasT n L p = true
 ·rw [if_pos ht]; omega
 ·rw [if_neg ht]; omega
theorem word_page {n : Nat} {L : List Gm.Pl} {p i : Nat} (hi : i < 16) : ∀ j, j < 4 → okA n L (64 * p + 4 * i + j) = okP n (Gm.plN L p) := fun j hj => by
 unfold okA
 rw [show (64 * p + 4 * i + j) / 64 = p by omega]
theorem own_word {n : Nat} {L : List Gm.Pl} {p i : Nat} (hp : p < 8) (hi : i < 16) : ownB n L ((64 * p + 4 * i : Nat) : Int) ((4 : Nat) : Int) = okP n (Gm.plN L p) := by
 have h := word_page (n := n) (L := L) (p := p) hi
 have e : ((List.range 4).all fun j => okA n L (64 * p + 4 * i + j)) = okP n (Gm.plN L p) := by
  rw [Bool.eq_iff_iff, List.all_eq_true]
  constructor
  ·intro h1
   rw [← h 0 (by omega)]
   exact h1 0 (by simp)
  ·intro h1 j hj
   rw [h j (by simpa using hj)]
   exact h1
 unfold ownB
 rw [Int.toNat_natCast, Int.toNat_natCast, e]
 simp
 intro _
 omega
theorem hasT_in (n : Nat) (L : List Gm.Pl) {p : Nat} (hp : p < 8) : hasT n L (p : Int) = okP n (Gm.plN L p) := by
 unfold hasT
 rw [Int.toNat_natCast]
 simp [show (p : Int) < 8 by omega]
theorem hasT_neg {n : Nat} {L : List Gm.Pl} {p : Int} (hp : p < 0) : hasT n L p = false := by
 unfold hasT
 simp [show ¬ 0 ≤ p by omega]
theorem hasT_far {n : Nat} {L : List Gm.Pl} {p : Int} (hp : 8 ≤ p) : hasT n L p = false := by
 unfold hasT
 simp [show ¬ p < 8 by omega]
theorem hasT_bd {n : Nat} {L : List Gm.Pl} {p : Int} (h : hasT n L p = true) : 0 ≤ p ∧ p < 8 := by
 unfold hasT at h
 simp at h
 exact h.1

section
variable {b s m n : Nat} {S : List Int} {L : List Gm.Pl} {D : List Bool}
theorem entry_out (a : Option Addr) (p i : Int) (h : p < 0 ∨ 8 ≤ p) (w : World) :
  Calls Tryz.prog 108 #[.pointer a, .int .i64 p, .int .i64 i] w fun e w' => e = .returned (.tuple #[.int .u32 0, .int .i64 3]) ∧ w = w' := by
 rcases h with h | h
 ·go_enter Tryz.func108, Tryz.ntmps108
  go_wp2
  go_ret2
  exact ⟨rfl, rfl⟩
 ·have h0 : ¬ p < 0 := by omega
  go_enter Tryz.func108, Tryz.ntmps108
  go_wp2
  go_ret2
  exact ⟨rfl, rfl⟩
theorem entry_none (p i : Nat) (hp : p < 8) (hi : i < 16) (ht : okP n (Gm.plN L p) = false) (w : World) (hP : PV w b s m n S L D) :
  Calls Tryz.prog 108 #[.pointer (some ⟨b, 0, none⟩), .int .i64 p, .int .i64 i] w fun e w' => e = .returned (.tuple #[.int .u32 0, .int .i64 3]) ∧ Below w.heap.size w w' := by
 have HR : Hid (Calls Tryz.prog 136 #[.pointer (some ⟨b, 0, none⟩), .int .u32 ((p : Int) * 64 + (i : Int) * 4), .int .i64 4] w fun e w' => ∃ x q c, e = .returned (.tuple #[.slice x q c, .bool false]) ∧ Below w.heap.size w w') := Lib.hid (by
  have := read_any ((64 * p + 4 * i : Nat) : Int) ((4 : Nat) : Int) false (by omega) (by omega) ((own_word hp hi).trans ht) w hP
  rw [show ((64 * p + 4 * i : Nat) : Int) = (p : Int) * 64 + (i : Int) * 4 by omega] at this
  exact this.mono fun e w' ⟨x, q, c, he, _, hb⟩ => ⟨x, q, c, he, hb⟩)
 have p0 : (0 : Int) ≤ (p : Int) := by omega
 have p1 : (p : Int) < 8 := by omega
 have i0 : (0 : Int) ≤ (i : Int) := by omega
 have i1 : (i : Int) < 16 := by omega
 clear hP ht hp hi
 go_enter Tryz.func108, Tryz.ntmps108
 go_wp2_with fail
 refine HR.out.mono ?_
 rintro e w1 ⟨x, q, c, rfl, hb1⟩
 have HB1 := Lib.hid hb1
 clear hb1 HR
 go_wp2
 go_ret2
 exact ⟨rfl, HB1.out⟩
theorem entry_some (p i : Nat) (hp : p < 8) (hi : i < 16) (ht : okP n (Gm.plN L p) = true) (w : World) (hP : PV w b s m n S L D) :
  Calls Tryz.prog 108 #[.pointer (some ⟨b, 0, none⟩), .int .i64 p, .int .i64 i] w fun e w' => e = .returned (.tuple #[.int .u32 (num (rB L S (64 * p + 4 * i) 4)), .int .i64 0]) ∧ Below w.heap.size w w' := by
 have HR : Hid (Calls Tryz.prog 136 #[.pointer (some ⟨b, 0, none⟩), .int .u32 ((p : Int) * 64 + (i : Int) * 4), .int .i64 4] w fun e w' => ∃ x c, e = .returned (.tuple #[.slice x 4 c, .bool true]) ∧ Hid (∀ W, Below w'.heap.size w' W → Calls Tryz.prog 85 #[.slice x 4 c, .int .i64 0, .int .i64 4] W fun e w' => e = .returned (.tuple #[.int .u32 (num (rB L S (64 * p + 4 * i) 4)), .int .i64 0]) ∧ W = w') ∧ Below w.heap.size w w') := Lib.hid (by
  have := read_yes2 (64 * p + 4 * i) 4 (by omega) ((own_word hp hi).trans ht) (fun j hj => (word_page hi j hj).trans ht) w hP
  rw [show ((64 * p + 4 * i : Nat) : Int) = (p : Int) * 64 + (i : Int) * 4 by omega] at this
  refine this.mono fun e w' ⟨x, q, c, he, hr, hb, hq, hc⟩ => ?_
  have hq4 : 4 = q := by have := hr.out.1; rw [rB_len] at this; exact this
  subst hq4
  refine ⟨x, c, he, Lib.hid fun W hW => ?_, hb⟩
  have := get_yes x 4 c 0 4 _ _ W hq (by omega) (hr.out.below hW) (rB_bytes hP.st.2.2.1 _ _) (by decide) (by omega)
  rw [List.drop_zero, List.take_of_length_le (by rw [rB_len]; exact Nat.le_refl _)] at this
  exact this)
 have p0 : (0 : Int) ≤ (p : Int) := by omega
 have p1 : (p : Int) < 8 := by omega
 have i0 : (0 : Int) ≤ (i : Int) := by omega
 have i1 : (i : Int) < 16 := by omega
 clear hP ht hp hi
 go_enter Tryz.func108, Tryz.ntmps108
 go_wp2_with fail
 refine HR.out.mono ?_
 rintro e w1 ⟨x, c, rfl, HG, hb1⟩
 have HB1 := Lib.hid hb1
 clear hb1 HR
 go_wp2_with fail
 refine (HG.out _ (Below.refl _ _)).mono ?_
 rintro e w2 ⟨rfl, rfl⟩
 go_wp2
 go_ret2
 exact ⟨rfl, HB1.out⟩
theorem entry_any (p : Int) (i u : Nat) (t : Bool) (hi : i < 16) (ht : hasT n L p = t) (hu : wordT n S L p i = u) (w : World) (hP : PV w b s m n S L D) :
  Calls Tryz.prog 108 #[.pointer (some ⟨b, 0, none⟩), .int .i64 p, .int .i64 i] w fun e w' => e = .returned (.tuple #[.int .u32 u, .int .i64 (if t = true then 0 else 3)]) ∧ Below w.heap.size w w' := by
 subst hu ht
 unfold wordT
 by_cases h : p < 0 ∨ 8 ≤ p
 ·have e : hasT n L p = false := h.elim hasT_neg hasT_far
  rw [e]
  exact (entry_out _ p i h w).mono fun e w' ⟨he, hb⟩ => ⟨he, hb ▸ Below.refl _ _⟩
 ·obtain ⟨q, rfl⟩ := Int.eq_ofNat_of_zero_le (show 0 ≤ p by omega)
  have hq : q < 8 := by omega
  rw [hasT_in n L hq]
  cases ht : okP n (Gm.plN L q)
  ·exact entry_none q i hq hi ht w hP
  ·rw [if_pos rfl, if_pos rfl, Int.toNat_natCast, Int.toNat_of_nonneg (num4 hP.st.2.2.1 _).1]
   exact entry_some q i hq hi ht w hP
end

section
variable {g bt B q n gv cap : Nat} {S : List Int} {L : List Gm.Pl} {D : List Bool}
theorem refWord_any (p i u : Nat) (t : Bool) (hp : p < 8) (hi : i < 16) (ht : hasT n L (p : Int) = t) (hu : wordT n S L (p : Int) i = u) (w : World) (hP : DV w g bt B q n gv cap S L D) :
  Calls Tryz.prog 122 #[.pointer (some ⟨g, 0, none⟩), .int .u32 ((p : Int) * 64 + 4 * (i : Int))] w fun e w' => e = .returned (.tuple #[.int .u32 u, .bool t]) ∧ Below w.heap.size w w' := by
 subst hu
 have hs1 := hP.s1
 rw [hasT_in n L hp] at ht
 have hrd := refRead_any ((64 * p + 4 * i : Nat) : Int) ((4 : Nat) : Int) t (by omega) (by omega) ((own_word hp hi).trans ht) w hP
 rw [show ((64 * p + 4 * i : Nat) : Int) = (p : Int) * 64 + 4 * (i : Int) by omega] at hrd
 unfold wordT
 rw [hasT_in n L hp, ht, Int.toNat_natCast]
 unfold rdL at hrd
 rw [show ownB n L ((p : Int) * 64 + 4 * (i : Int)) ((4 : Nat) : Int) = t by rw [← ht, ← own_word hp hi]; congr 1; omega] at hrd
 cases t
 ·have HR := Lib.hid hrd
  clear hrd hP ht
  go_enter Tryz.func122, Tryz.ntmps122
  go_wp2_with fail
  refine HR.out.mono ?_
  rintro e w1 ⟨x, k, c, rfl, _, hb1⟩
  have HB1 := Lib.hid hb1
  clear hb1 HR
  go_wp2
  go_ret2
  exact ⟨rfl, HB1.out⟩
 ·rw [if_pos rfl] at hrd
  have HR : Hid (Calls Tryz.prog 147 #[.pointer (some ⟨g, 0, none⟩), .int .u32 ((p : Int) * 64 + 4 * (i : Int)), .int .i64 4] w fun e w' => ∃ x c, e = .returned (.tuple #[.slice x 4 c, .bool true]) ∧ Hid (∀ W, Below w'.heap.size w' W → Calls Tryz.prog 86 #[.slice x 4 c, .int .i64 0, .int .i64 4] W fun e w' => e = .returned (.tuple #[.int .u32 (num (rB L S (64 * p + 4 * i) 4)), .int .i64 0]) ∧ W = w') ∧ Below w.heap.size w w') := Lib.hid (by
   refine hrd.mono fun e w' ⟨x, q, c, he, hr, hb⟩ => ?_
   rw [show ((p : Int) * 64 + 4 * (i : Int)).toNat = 64 * p + 4 * i by omega, Int.toNat_natCast] at hr
   have hq4 : 4 = q := by have := hr.out.1; rw [rB_len] at this; exact this
   subst hq4
   refine ⟨x, c, he, Lib.hid fun W hW => ?_, hb⟩
   have := refGet_yes x 4 c 0 4 _ _ W (by omega) (hr.out.below hW) (rB_bytes hs1 _ _) (by decide) (by omega)
   rw [List.drop_zero, List.take_of_length_le (by rw [rB_len]; exact Nat.le_refl _)] at this
   exact this)
  rw [if_pos rfl, Int.toNat_of_nonneg (num4 hs1 _).1]
  clear hrd hP ht
  go_enter Tryz.func122, Tryz.ntmps122
  go_wp2_with fail
  refine HR.out.mono ?_
  rintro e w1 ⟨x, c, rfl, HG, hb1⟩
  have HB1 := Lib.hid hb1
  clear hb1 HR
  go_wp2_with fail
  refine (HG.out _ (Below.refl _ _)).mono ?_
  rintro e w2 ⟨rfl, rfl⟩
  go_wp2
  go_ret2
  exact ⟨rfl, HB1.out⟩
theorem refTab_out (a : Option Addr) (p i : Int) (ha : a ≠ none) (h : p < 0 ∨ 8 ≤ p) (w : World) :
  Calls Tryz.prog 81 #[.pointer a, .int .i64 p, .int .u32 i] w fun e w' => e = .returned (.tuple #[.int .u32 0, .bool false]) ∧ w = w' := by
 obtain ⟨x, rfl⟩ := Option.ne_none_iff_exists'.1 ha
 clear ha
 rcases h with h | h
 ·go_enter Tryz.func81, Tryz.ntmps81
  go_wp2
  go_ret2
  exact ⟨rfl, rfl⟩
 ·have h0 : ¬ p < 0 := by omega
  go_enter Tryz.func81, Tryz.ntmps81
  go_wp2
  go_ret2
  exact ⟨rfl, rfl⟩
theorem refTab_in (p i u : Nat) (t : Bool) (hp : p < 8) (hi : i < 16) (ht : hasT n L (p : Int) = t) (hu : wordT n S L (p : Int) i = u) (w : World) (hP : DV w g bt B q n gv cap S L D) :
  Calls Tryz.prog 81 #[.pointer (some ⟨g, 0, none⟩), .int .i64 p, .int .u32 i] w fun e w' => e = .returned (.tuple #[.int .u32 u, .bool t]) ∧ Below w.heap.size w w' := by
 have HW := Lib.hid (refWord_any p i u t hp hi ht hu w hP)
 have p0 : (0 : Int) ≤ (p : Int) := by omega
 have p1 : (p : Int) < 8 := by omega
 have i0 : (0 : Int) ≤ (i : Int) := by omega
 have i1 : (i : Int) < 16 := by omega
 have p2 : ¬ (p : Int) < 0 := by omega
 have p3 : ¬ 8 ≤ (p : Int) := by omega
 clear hP ht hp hi hu
 go_enter Tryz.func81, Tryz.ntmps81
 go_wp2_with fail
 refine HW.out.mono ?_
 rintro e w1 ⟨rfl, hb1⟩
 have HB1 := Lib.hid hb1
 clear hb1 HW
 go_wp2
 go_ret2
 exact ⟨rfl, HB1.out⟩
theorem refTab_any (p : Int) (i u : Nat) (t : Bool) (hi : i < 16) (ht : hasT n L p = t) (hu : wordT n S L p i = u) (w : World) (hP : DV w g bt B q n gv cap S L D) :
  Calls Tryz.prog 81 #[.pointer (some ⟨g, 0, none⟩), .int .i64 p, .int .u32 i] w fun e w' => e = .returned (.tuple #[.int .u32 u, .bool t]) ∧ Below w.heap.size w w' := by
 by_cases h : p < 0 ∨ 8 ≤ p
 ·have e : hasT n L p = false := h.elim hasT_neg hasT_far
  unfold wordT at hu
  rw [e, if_neg (by decide)] at hu
  rw [e] at ht
  subst hu ht
  exact (refTab_out _ p i (by simp) h w).mono fun e w' ⟨he, hb⟩ => ⟨he, hb ▸ Below.refl _ _⟩
 ·obtain ⟨k, rfl⟩ := Int.eq_ofNat_of_zero_le (show 0 ≤ p by omega)
  exact refTab_in k i u t (by omega) hi ht hu w hP
end
end Go.Proofs.YteaincdeoajkeaaGreatDoor.Wa
end
