/- Several texts in one: Yg -/
import Derived.Test.YteaincdeoajkeaaGreatDoorZ12
import Derived.Test.YteaincdeoajkeaaGreatDoorZ10
section
/- The document's view (hermitageref16): Find, Load, Save. -/
namespace Go.Proofs.YteaincdeoajkeaaGreatDoor.Vw
open Go.RowKit Ut Oc
set_option maxRecDepth 100000
set_option linter.unusedVariables false
set_option maxHeartbeats 4000000

section
variable {g bt B q n gv cap : Nat} {S : List Int} {L : List Gm.Pl} {D : List Bool}
theorem refIs_dv (F : Int) (t : Bool) (ht : (decide (0 ≤ F) && decide (F < n)) = t) (W : World) (h : DV W g bt B q n gv cap S L D) :
  Calls Tryz.prog 80 #[.pointer (some ⟨bt, 0, none⟩), .int .i64 F] W fun e w' => e = .returned (.bool t) ∧ W = w' := by
 obtain ⟨vs, hs⟩ := h.st
 exact Fr.refIs_any bt B n F _ _ vs W hs t ht.symm
theorem refFind_width (z m k : Int) (hw : isW m = false) (w : World) :
  Calls Tryz.prog 42 #[.pointer (some ⟨g, 0, none⟩), .int .u32 z, .int .i64 m, .int .i64 k] w fun e w' => e = .returned (.tuple #[hitV (0, 0, 0), .int .i64 1]) ∧ Below w.heap.size w w' := by
 have HB : Hid (Below w.heap.size w (w.alloc (.cells (hitC (0, 0, 0)).toArray 36))) := Lib.hid ((Below.refl w.heap.size w).alloc (Nat.le_refl _) _)
 have HSet : Hid (∀ (W : World) (j : Nat) (v : Value), Below w.heap.size w W → Below w.heap.size w (W.setCell ⟨w.heap.size, j, none⟩ v)) := Lib.hid fun W j v h => h.setCell (p := ⟨w.heap.size, j, none⟩) (by simp) _
 unfold isW at hw
 simp at hw
 have e1 : ¬ m = 1 := by omega
 have e2 : ¬ m = 2 := by omega
 have e4 : ¬ m = 4 := by omega
 clear hw
 go_enter Tryz.func42, Tryz.ntmps42
 go_wp2
 exact bodyPost_ret (v := .tuple #[hitV (0, 0, 0), .int .i64 1]) (by simp [results, Tryz.results42, go_sem, hitV]) rfl ⟨rfl, by (repeat (first | refine HSet.out _ _ _ ?_)); exact HB.out⟩
theorem refFind_far1 (z k : Int) (h0 : 0 ≤ z) (h1 : z < 4294967296) (d1 : decide (768 ≤ z) = true) (w : World) :
  Calls Tryz.prog 42 #[.pointer (some ⟨g, 0, none⟩), .int .u32 z, .int .i64 1, .int .i64 k] w fun e w' => e = .returned (.tuple #[hitV (0, 0, 0), .int .i64 2]) ∧ Below w.heap.size w w' := by
 have HB : Hid (Below w.heap.size w (w.alloc (.cells (hitC (0, 0, 0)).toArray 36))) := Lib.hid ((Below.refl w.heap.size w).alloc (Nat.le_refl _) _)
 have HSet : Hid (∀ (W : World) (j : Nat) (v : Value), Below w.heap.size w W → Below w.heap.size w (W.setCell ⟨w.heap.size, j, none⟩ v)) := Lib.hid fun W j v h => h.setCell (p := ⟨w.heap.size, j, none⟩) (by simp) _
 go_enter Tryz.func42, Tryz.ntmps42
 go_wp2
 exact bodyPost_ret (v := .tuple #[hitV (0, 0, 0), .int .i64 2]) (by simp [results, Tryz.results42, go_sem, hitV]) rfl ⟨rfl, by (repeat (first | refine HSet.out _ _ _ ?_)); exact HB.out⟩
theorem refFind_no1 (z k al : Int) (h0 : 0 ≤ z) (h1 : z < 4294967296) (d1 : decide (768 ≤ z) = false) (hal : Gm.alwF (Gm.atP L (z / 64)) (z / 64) k = al) (hz : ¬ al = 0) (w : World) (hP : DV w g bt B q n gv cap S L D) :
  Calls Tryz.prog 42 #[.pointer (some ⟨g, 0, none⟩), .int .u32 z, .int .i64 1, .int .i64 k] w fun e w' => e = .returned (.tuple #[hitV (0, 0, 0), .int .i64 al]) ∧ Below w.heap.size w w' := by
 have HB : Hid (Below w.heap.size w (w.alloc (.cells (hitC (0, 0, 0)).toArray 36))) := Lib.hid ((Below.refl w.heap.size w).alloc (Nat.le_refl _) _)
 have HDV := Lib.hid (hP.more HB.out)
 have HN : Hid (Blk (w.alloc (.cells (hitC (0, 0, 0)).toArray 36)) w.heap.size 36 (hitC (0, 0, 0))) := Lib.hid (Blk.new w _ _)
 have HSet : Hid (∀ (W : World) (j : Nat) (v : Value), Below w.heap.size w W → Below w.heap.size w (W.setCell ⟨w.heap.size, j, none⟩ v)) := Lib.hid fun W j v h => h.setCell (p := ⟨w.heap.size, j, none⟩) (by simp) _
 have c1 := hP.cell1
 have HA := Lib.hid (Gm.refAllows_any q L (z / 64) k al hal _ HDV.out.mp)
 have hz0 : (al == 0) = false := by simpa using hz
 have b0 := hP.lt
 clear hP hal hz HDV
 go_enter Tryz.func42, Tryz.ntmps42
 go_wp2_with fail
 refine HA.out.mono ?_
 rintro e w1 ⟨rfl, hb1⟩
 have HB1 := Lib.hid (HB.out.trans (hb1.mono HB.out.size))
 have hq0 := HN.out.more hb1
 obtain ⟨r0, r1, r2, r3⟩ := HAt.cells hq0
 have f0 := hq0.frozen 0
 have f1 := hq0.frozen 1
 have f2 := hq0.frozen 2
 have f3 := hq0.frozen 3
 have hlt := hq0.lt
 clear hb1 hq0 HA HN HB
 go_wp2
 exact bodyPost_ret (v := .tuple #[hitV (0, 0, 0), .int .i64 al]) (by simp [results, Tryz.results42, go_sem, r0, r1, r2, r3, hitV]) rfl ⟨rfl, by (repeat (first | refine HSet.out _ _ _ ?_)); exact HB1.out⟩
theorem refFind_ok1 (z k F R : Int) (t : Bool) (h0 : 0 ≤ z) (h1 : z < 4294967296) (d1 : decide (768 ≤ z) = false) (hal : Gm.alwF (Gm.atP L (z / 64)) (z / 64) k = 0) (hp : Gm.atP L (z / 64) = (F, R)) (hth : Gm.thB (F, R) = true) (ht : (decide (0 ≤ F) && decide (F < n)) = t) (w : World) (hP : DV w g bt B q n gv cap S L D) :
  Calls Tryz.prog 42 #[.pointer (some ⟨g, 0, none⟩), .int .u32 z, .int .i64 1, .int .i64 k] w fun e w' => e = .returned (.tuple #[hitV (if t = true then (z / 64, F, z % 64) else (0, 0, 0)), .int .i64 (if t = true then 0 else 7)]) ∧ Below w.heap.size w w' := by
 have HB : Hid (Below w.heap.size w (w.alloc (.cells (hitC (0, 0, 0)).toArray 36))) := Lib.hid ((Below.refl w.heap.size w).alloc (Nat.le_refl _) _)
 have HDV := Lib.hid (hP.more HB.out)
 have HN : Hid (Blk (w.alloc (.cells (hitC (0, 0, 0)).toArray 36)) w.heap.size 36 (hitC (0, 0, 0))) := Lib.hid (Blk.new w _ _)
 have HSet : Hid (∀ (W : World) (j : Nat) (v : Value), Below w.heap.size w W → Below w.heap.size w (W.setCell ⟨w.heap.size, j, none⟩ v)) := Lib.hid fun W j v h => h.setCell (p := ⟨w.heap.size, j, none⟩) (by simp) _
 have c1 := hP.cell1
 have HA := Lib.hid (Gm.refAllows_any q L (z / 64) k 0 hal _ HDV.out.mp)
 have HG := Lib.hid (fun W hW => Gm.refGet_any q L (z / 64) (F, R) true hp hth W hW)
 have HI : Hid (∀ W, DV W g bt B q n gv cap S L D → Calls Tryz.prog 80 #[.pointer (some ⟨bt, 0, none⟩), .int .i64 F] W fun e w' => e = .returned (.bool t) ∧ W = w') := Lib.hid fun W hW => refIs_dv F t ht W hW
 have b0 := hP.lt
 have dz : (0 : Int) ≤ z / 64 := by omega
 have dz1 : (0 : Int) ≤ z % 64 := by omega
 have HBX : Hid (∀ W, Below w.heap.size w W → Below w.heap.size w (W.alloc (.cells #[.int .i64 F, .int .i64 R] 54))) := Lib.hid fun W h => h.alloc h.size _
 clear hP hal hp hth ht
 cases t
 all_goals
  go_enter Tryz.func42, Tryz.ntmps42
  go_wp2_with fail
  refine HA.out.mono ?_
  rintro e w1 ⟨rfl, hb1⟩
  have HB1 := Lib.hid (HB.out.trans (hb1.mono HB.out.size))
  have HN1 := Lib.hid (HN.out.more hb1)
  have HDV1 := Lib.hid (HDV.out.more hb1)
  have c2 := HDV1.out.cell1
  have b2 := HDV1.out.lt
  clear hb1 HA HN HB HDV c1 b0
  go_wp2_with fail
  refine (HG.out _ HDV1.out.mp).mono ?_
  rintro e w2 ⟨rfl, hb1⟩
  have HB2 := Lib.hid (HBX.out _ (HB1.out.trans (hb1.mono HB1.out.size)))
  have hba := hb1.trans (((Below.refl w2.heap.size w2).alloc (Nat.le_refl _) (.cells #[.int .i64 F, .int .i64 R] 54)).mono hb1.size)
  have HN2 := Lib.hid (HN1.out.more hba)
  have HDV2 := Lib.hid (HDV1.out.more hba)
  have HPL : Hid (Blk (w2.alloc (.cells #[.int .i64 F, .int .i64 R] 54)) w2.heap.size 54 [.int .i64 F, .int .i64 R]) := Lib.hid (Blk.new w2 _ _)
  clear hb1 hba HN1 HDV1 HB1 c2 b2 HG HBX
  unfold Gm.plV
  go_upto_region 10 with fail
  generalize w2.alloc (.cells #[.int .i64 F, .int .i64 R] 54) = V at HB2 HN2 HDV2 HPL ⊢
  generalize w2.heap.size = pb at HPL ⊢
  have c0 := HDV2.out.cell0
  have p0 : V.cell? ⟨pb, 0, none⟩ = some (.int .i64 F) := HPL.out.cell rfl
  have b0 := HDV2.out.lt
  have b1 := HPL.out.lt
  have HIV : Hid (∀ W, Below V.heap.size V W → Calls Tryz.prog 80 #[.pointer (some ⟨bt, 0, none⟩), .int .i64 F] W fun e w' => e = .returned (.bool _) ∧ W = w') := Lib.hid fun W hW => HI.out W (HDV2.out.more hW)
 ·skip
  apply wp_region_auto [58, 59, 60, 61, 62, 63, 64] [_, _, _, _, _, _, _] (fun W' => Below V.heap.size V W')
  case hm => kernel_rfl
  case hT => intro y; simp only [setAll, List.setIfInBounds_toArray, List.set_cons_succ, List.set_cons_zero]; exact rfl
  case hok => kernel_rfl
  case hn => decide
  case hw => exact (Below.refl _ _).drew
  case hs =>
   refine auto_op 58 [] (by kernel_rfl) (fun y w' HW hd K hK => ?_) ?_
   ·go_simp
    refine hK _ _ ?_ ?_ HW
    ·simp [upd]
    ·exact rfl
   refine auto_op 59 [0] (by kernel_rfl) (fun y w' HW hd K hK => ?_) ?_
   ·have e0 := hd_nth (hd 0 (by simp)) rfl
    go_simp
    refine hK _ _ ?_ ?_ HW
    ·simp [upd, e0]
    ·exact rfl
   refine auto_op 60 [1] (by kernel_rfl) (fun y w' HW hd K hK => ?_) ?_
   ·have e1 := hd_nth (hd 1 (by simp)) rfl
    go_simp
    refine hK _ _ ?_ ?_ HW
    ·simp [upd, e1]
    ·exact rfl
   refine auto_op 61 [2] (by kernel_rfl) (fun y w' HW hd K hK => ?_) ?_
   ·have e2 := hd_nth (hd 2 (by simp)) rfl
    have hcl : ∀ p : Addr, p.block < V.heap.size → w'.cell? p = V.cell? p := fun p hp => HW.cell hp
    go_simp
    refine hK _ _ ?_ ?_ HW
    ·simp [upd, e2]
    ·exact rfl
   refine auto_op 62 [] (by kernel_rfl) (fun y w' HW hd K hK => ?_) ?_
   ·go_simp
    refine hK _ _ ?_ ?_ HW
    ·simp [upd]
    ·exact rfl
   refine auto_op 63 [4] (by kernel_rfl) (fun y w' HW hd K hK => ?_) ?_
   ·have e4 := hd_nth (hd 4 (by simp)) rfl
    have hcl : ∀ p : Addr, p.block < V.heap.size → w'.cell? p = V.cell? p := fun p hp => HW.cell hp
    go_simp
    refine hK _ _ ?_ ?_ HW
    ·simp [upd, e4]
    ·exact rfl
   refine auto_op 64 [3, 5] (by kernel_rfl) (fun y w' HW hd K hK => ?_) ?_
   ·have e3 := hd_nth (hd 3 (by simp)) rfl
    have e5 := hd_nth (hd 5 (by simp)) rfl
    go_simp
    refine (HIV.out _ HW).mono ?_
    rintro e w3 ⟨rfl, rfl⟩
    refine hK _ _ ?_ ?_ HW
    ·simp [upd, e3, e5]
    ·exact rfl
   refine auto_last fun y w' HW hd K hK => ?_
   have e0 := hd_nth (hd 0 (by omega)) rfl
   have e1 := hd_nth (hd 1 (by omega)) rfl
   have e2 := hd_nth (hd 2 (by omega)) rfl
   have e3 := hd_nth (hd 3 (by omega)) rfl
   have e4 := hd_nth (hd 4 (by omega)) rfl
   have e5 := hd_nth (hd 5 (by omega)) rfl
   have e6 := hd_nth (hd 6 (by omega)) rfl
   go_simp
   refine hK _ _ ?_
   clear hd hK K e0 e1 e2 e3 e4 e5 e6
   have HW2 := Lib.hid (HB2.out.trans (HW.mono HB2.out.size))
   have hq0 := HN2.out.more HW
   obtain ⟨r0, r1, r2, r3⟩ := HAt.cells hq0
   have f0 := hq0.frozen 0
   have f1 := hq0.frozen 1
   have f2 := hq0.frozen 2
   have f3 := hq0.frozen 3
   have hlt := hq0.lt
   have p2 : w'.cell? ⟨pb, 0, none⟩ = some (.int .i64 F) := (HPL.out.more HW).cell rfl
   clear HW hq0 c0 p0 b0 b1 HIV HPL HDV2 HN2 HB2
   go_wp2
   exact bodyPost_ret (v := .tuple #[hitV (0, 0, 0), .int .i64 7]) (by simp [results, Tryz.results42, go_sem, r0, r1, r2, r3, hitV]) rfl ⟨rfl, by (repeat (first | refine HSet.out _ _ _ ?_)); exact HW2.out⟩
 ·skip
  apply wp_region_auto [58, 59, 60, 61, 62, 63, 64] [_, _, _, _, _, _, _] (fun W' => Below V.heap.size V W')
  case hm => kernel_rfl
  case hT => intro y; simp only [setAll, List.setIfInBounds_toArray, List.set_cons_succ, List.set_cons_zero]; exact rfl
  case hok => kernel_rfl
  case hn => decide
  case hw => exact (Below.refl _ _).drew
  case hs =>
   refine auto_op 58 [] (by kernel_rfl) (fun y w' HW hd K hK => ?_) ?_
   ·go_simp
    refine hK _ _ ?_ ?_ HW
    ·simp [upd]
    ·exact rfl
   refine auto_op 59 [0] (by kernel_rfl) (fun y w' HW hd K hK => ?_) ?_
   ·have e0 := hd_nth (hd 0 (by simp)) rfl
    go_simp
    refine hK _ _ ?_ ?_ HW
    ·simp [upd, e0]
    ·exact rfl
   refine auto_op 60 [1] (by kernel_rfl) (fun y w' HW hd K hK => ?_) ?_
   ·have e1 := hd_nth (hd 1 (by simp)) rfl
    go_simp
    refine hK _ _ ?_ ?_ HW
    ·simp [upd, e1]
    ·exact rfl
   refine auto_op 61 [2] (by kernel_rfl) (fun y w' HW hd K hK => ?_) ?_
   ·have e2 := hd_nth (hd 2 (by simp)) rfl
    have hcl : ∀ p : Addr, p.block < V.heap.size → w'.cell? p = V.cell? p := fun p hp => HW.cell hp
    go_simp
    refine hK _ _ ?_ ?_ HW
    ·simp [upd, e2]
    ·exact rfl
   refine auto_op 62 [] (by kernel_rfl) (fun y w' HW hd K hK => ?_) ?_
   ·go_simp
    refine hK _ _ ?_ ?_ HW
    ·simp [upd]
    ·exact rfl
   refine auto_op 63 [4] (by kernel_rfl) (fun y w' HW hd K hK => ?_) ?_
   ·have e4 := hd_nth (hd 4 (by simp)) rfl
    have hcl : ∀ p : Addr, p.block < V.heap.size → w'.cell? p = V.cell? p := fun p hp => HW.cell hp
    go_simp
    refine hK _ _ ?_ ?_ HW
    ·simp [upd, e4]
    ·exact rfl
   refine auto_op 64 [3, 5] (by kernel_rfl) (fun y w' HW hd K hK => ?_) ?_
   ·have e3 := hd_nth (hd 3 (by simp)) rfl
    have e5 := hd_nth (hd 5 (by simp)) rfl
    go_simp
    refine (HIV.out _ HW).mono ?_
    rintro e w3 ⟨rfl, rfl⟩
    refine hK _ _ ?_ ?_ HW
    ·simp [upd, e3, e5]
    ·exact rfl
   refine auto_last fun y w' HW hd K hK => ?_
   have e0 := hd_nth (hd 0 (by omega)) rfl
   have e1 := hd_nth (hd 1 (by omega)) rfl
   have e2 := hd_nth (hd 2 (by omega)) rfl
   have e3 := hd_nth (hd 3 (by omega)) rfl
   have e4 := hd_nth (hd 4 (by omega)) rfl
   have e5 := hd_nth (hd 5 (by omega)) rfl
   have e6 := hd_nth (hd 6 (by omega)) rfl
   go_simp
   refine hK _ _ ?_
   clear hd hK K e0 e1 e2 e3 e4 e5 e6
   have HW2 := Lib.hid (HB2.out.trans (HW.mono HB2.out.size))
   have hq0 := HN2.out.more HW
   obtain ⟨r0, r1, r2, r3⟩ := HAt.cells hq0
   have f0 := hq0.frozen 0
   have f1 := hq0.frozen 1
   have f2 := hq0.frozen 2
   have f3 := hq0.frozen 3
   have hlt := hq0.lt
   have p2 : w'.cell? ⟨pb, 0, none⟩ = some (.int .i64 F) := (HPL.out.more HW).cell rfl
   clear HW hq0 c0 p0 b0 b1 HIV HPL HDV2 HN2 HB2
   go_wp2
   exact bodyPost_ret (v := .tuple #[hitV (z / 64, F, z % 64), .int .i64 0]) (by simp [results, Tryz.results42, go_sem, r0, r1, r2, r3, hitV]) rfl ⟨rfl, by (repeat (first | refine HSet.out _ _ _ ?_)); exact HW2.out⟩
theorem refFind_askew2 (z k : Int) (h0 : 0 ≤ z) (h1 : z < 4294967296) (d0 : (z % 2 != 0) = true) (w : World) :
  Calls Tryz.prog 42 #[.pointer (some ⟨g, 0, none⟩), .int .u32 z, .int .i64 2, .int .i64 k] w fun e w' => e = .returned (.tuple #[hitV (0, 0, 0), .int .i64 1]) ∧ Below w.heap.size w w' := by
 have HB : Hid (Below w.heap.size w (w.alloc (.cells (hitC (0, 0, 0)).toArray 36))) := Lib.hid ((Below.refl w.heap.size w).alloc (Nat.le_refl _) _)
 have HSet : Hid (∀ (W : World) (j : Nat) (v : Value), Below w.heap.size w W → Below w.heap.size w (W.setCell ⟨w.heap.size, j, none⟩ v)) := Lib.hid fun W j v h => h.setCell (p := ⟨w.heap.size, j, none⟩) (by simp) _
 go_enter Tryz.func42, Tryz.ntmps42
 go_wp2
 exact bodyPost_ret (v := .tuple #[hitV (0, 0, 0), .int .i64 1]) (by simp [results, Tryz.results42, go_sem, hitV]) rfl ⟨rfl, by (repeat (first | refine HSet.out _ _ _ ?_)); exact HB.out⟩
theorem refFind_far2 (z k : Int) (h0 : 0 ≤ z) (h1 : z < 4294967296) (d0 : (z % 2 != 0) = false) (d1 : decide (768 ≤ z) = true) (w : World) :
  Calls Tryz.prog 42 #[.pointer (some ⟨g, 0, none⟩), .int .u32 z, .int .i64 2, .int .i64 k] w fun e w' => e = .returned (.tuple #[hitV (0, 0, 0), .int .i64 2]) ∧ Below w.heap.size w w' := by
 have HB : Hid (Below w.heap.size w (w.alloc (.cells (hitC (0, 0, 0)).toArray 36))) := Lib.hid ((Below.refl w.heap.size w).alloc (Nat.le_refl _) _)
 have HSet : Hid (∀ (W : World) (j : Nat) (v : Value), Below w.heap.size w W → Below w.heap.size w (W.setCell ⟨w.heap.size, j, none⟩ v)) := Lib.hid fun W j v h => h.setCell (p := ⟨w.heap.size, j, none⟩) (by simp) _
 go_enter Tryz.func42, Tryz.ntmps42
 go_wp2
 exact bodyPost_ret (v := .tuple #[hitV (0, 0, 0), .int .i64 2]) (by simp [results, Tryz.results42, go_sem, hitV]) rfl ⟨rfl, by (repeat (first | refine HSet.out _ _ _ ?_)); exact HB.out⟩
theorem refFind_no2 (z k al : Int) (h0 : 0 ≤ z) (h1 : z < 4294967296) (d0 : (z % 2 != 0) = false) (d1 : decide (768 ≤ z) = false) (hal : Gm.alwF (Gm.atP L (z / 64)) (z / 64) k = al) (hz : ¬ al = 0) (w : World) (hP : DV w g bt B q n gv cap S L D) :
  Calls Tryz.prog 42 #[.pointer (some ⟨g, 0, none⟩), .int .u32 z, .int .i64 2, .int .i64 k] w fun e w' => e = .returned (.tuple #[hitV (0, 0, 0), .int .i64 al]) ∧ Below w.heap.size w w' := by
 have HB : Hid (Below w.heap.size w (w.alloc (.cells (hitC (0, 0, 0)).toArray 36))) := Lib.hid ((Below.refl w.heap.size w).alloc (Nat.le_refl _) _)
 have HDV := Lib.hid (hP.more HB.out)
 have HN : Hid (Blk (w.alloc (.cells (hitC (0, 0, 0)).toArray 36)) w.heap.size 36 (hitC (0, 0, 0))) := Lib.hid (Blk.new w _ _)
 have HSet : Hid (∀ (W : World) (j : Nat) (v : Value), Below w.heap.size w W → Below w.heap.size w (W.setCell ⟨w.heap.size, j, none⟩ v)) := Lib.hid fun W j v h => h.setCell (p := ⟨w.heap.size, j, none⟩) (by simp) _
 have c1 := hP.cell1
 have HA := Lib.hid (Gm.refAllows_any q L (z / 64) k al hal _ HDV.out.mp)
 have hz0 : (al == 0) = false := by simpa using hz
 have b0 := hP.lt
 clear hP hal hz HDV
 go_enter Tryz.func42, Tryz.ntmps42
 go_wp2_with fail
 refine HA.out.mono ?_
 rintro e w1 ⟨rfl, hb1⟩
 have HB1 := Lib.hid (HB.out.trans (hb1.mono HB.out.size))
 have hq0 := HN.out.more hb1
 obtain ⟨r0, r1, r2, r3⟩ := HAt.cells hq0
 have f0 := hq0.frozen 0
 have f1 := hq0.frozen 1
 have f2 := hq0.frozen 2
 have f3 := hq0.frozen 3
 have hlt := hq0.lt
 clear hb1 hq0 HA HN HB
 go_wp2
 exact bodyPost_ret (v := .tuple #[hitV (0, 0, 0), .int .i64 al]) (by simp [results, Tryz.results42, go_sem, r0, r1, r2, r3, hitV]) rfl ⟨rfl, by (repeat (first | refine HSet.out _ _ _ ?_)); exact HB1.out⟩
theorem refFind_ok2 (z k F R : Int) (t : Bool) (h0 : 0 ≤ z) (h1 : z < 4294967296) (d0 : (z % 2 != 0) = false) (d1 : decide (768 ≤ z) = false) (hal : Gm.alwF (Gm.atP L (z / 64)) (z / 64) k = 0) (hp : Gm.atP L (z / 64) = (F, R)) (hth : Gm.thB (F, R) = true) (ht : (decide (0 ≤ F) && decide (F < n)) = t) (w : World) (hP : DV w g bt B q n gv cap S L D) :
  Calls Tryz.prog 42 #[.pointer (some ⟨g, 0, none⟩), .int .u32 z, .int .i64 2, .int .i64 k] w fun e w' => e = .returned (.tuple #[hitV (if t = true then (z / 64, F, z % 64) else (0, 0, 0)), .int .i64 (if t = true then 0 else 7)]) ∧ Below w.heap.size w w' := by
 have HB : Hid (Below w.heap.size w (w.alloc (.cells (hitC (0, 0, 0)).toArray 36))) := Lib.hid ((Below.refl w.heap.size w).alloc (Nat.le_refl _) _)
 have HDV := Lib.hid (hP.more HB.out)
 have HN : Hid (Blk (w.alloc (.cells (hitC (0, 0, 0)).toArray 36)) w.heap.size 36 (hitC (0, 0, 0))) := Lib.hid (Blk.new w _ _)
 have HSet : Hid (∀ (W : World) (j : Nat) (v : Value), Below w.heap.size w W → Below w.heap.size w (W.setCell ⟨w.heap.size, j, none⟩ v)) := Lib.hid fun W j v h => h.setCell (p := ⟨w.heap.size, j, none⟩) (by simp) _
 have c1 := hP.cell1
 have HA := Lib.hid (Gm.refAllows_any q L (z / 64) k 0 hal _ HDV.out.mp)
 have HG := Lib.hid (fun W hW => Gm.refGet_any q L (z / 64) (F, R) true hp hth W hW)
 have HI : Hid (∀ W, DV W g bt B q n gv cap S L D → Calls Tryz.prog 80 #[.pointer (some ⟨bt, 0, none⟩), .int .i64 F] W fun e w' => e = .returned (.bool t) ∧ W = w') := Lib.hid fun W hW => refIs_dv F t ht W hW
 have b0 := hP.lt
 have dz : (0 : Int) ≤ z / 64 := by omega
 have dz1 : (0 : Int) ≤ z % 64 := by omega
 have HBX : Hid (∀ W, Below w.heap.size w W → Below w.heap.size w (W.alloc (.cells #[.int .i64 F, .int .i64 R] 54))) := Lib.hid fun W h => h.alloc h.size _
 clear hP hal hp hth ht
 cases t
 all_goals
  go_enter Tryz.func42, Tryz.ntmps42
  go_wp2_with fail
  refine HA.out.mono ?_
  rintro e w1 ⟨rfl, hb1⟩
  have HB1 := Lib.hid (HB.out.trans (hb1.mono HB.out.size))
  have HN1 := Lib.hid (HN.out.more hb1)
  have HDV1 := Lib.hid (HDV.out.more hb1)
  have c2 := HDV1.out.cell1
  have b2 := HDV1.out.lt
  clear hb1 HA HN HB HDV c1 b0
  go_wp2_with fail
  refine (HG.out _ HDV1.out.mp).mono ?_
  rintro e w2 ⟨rfl, hb1⟩
  have HB2 := Lib.hid (HBX.out _ (HB1.out.trans (hb1.mono HB1.out.size)))
  have hba := hb1.trans (((Below.refl w2.heap.size w2).alloc (Nat.le_refl _) (.cells #[.int .i64 F, .int .i64 R] 54)).mono hb1.size)
  have HN2 := Lib.hid (HN1.out.more hba)
  have HDV2 := Lib.hid (HDV1.out.more hba)
  have HPL : Hid (Blk (w2.alloc (.cells #[.int .i64 F, .int .i64 R] 54)) w2.heap.size 54 [.int .i64 F, .int .i64 R]) := Lib.hid (Blk.new w2 _ _)
  clear hb1 hba HN1 HDV1 HB1 c2 b2 HG HBX
  unfold Gm.plV
  go_upto_region 10 with fail
  generalize w2.alloc (.cells #[.int .i64 F, .int .i64 R] 54) = V at HB2 HN2 HDV2 HPL ⊢
  generalize w2.heap.size = pb at HPL ⊢
  have c0 := HDV2.out.cell0
  have p0 : V.cell? ⟨pb, 0, none⟩ = some (.int .i64 F) := HPL.out.cell rfl
  have b0 := HDV2.out.lt
  have b1 := HPL.out.lt
  have HIV : Hid (∀ W, Below V.heap.size V W → Calls Tryz.prog 80 #[.pointer (some ⟨bt, 0, none⟩), .int .i64 F] W fun e w' => e = .returned (.bool _) ∧ W = w') := Lib.hid fun W hW => HI.out W (HDV2.out.more hW)
 ·skip
  apply wp_region_auto [58, 59, 60, 61, 62, 63, 64] [_, _, _, _, _, _, _] (fun W' => Below V.heap.size V W')
  case hm => kernel_rfl
  case hT => intro y; simp only [setAll, List.setIfInBounds_toArray, List.set_cons_succ, List.set_cons_zero]; exact rfl
  case hok => kernel_rfl
  case hn => decide
  case hw => exact (Below.refl _ _).drew
  case hs =>
   refine auto_op 58 [] (by kernel_rfl) (fun y w' HW hd K hK => ?_) ?_
   ·go_simp
    refine hK _ _ ?_ ?_ HW
    ·simp [upd]
    ·exact rfl
   refine auto_op 59 [0] (by kernel_rfl) (fun y w' HW hd K hK => ?_) ?_
   ·have e0 := hd_nth (hd 0 (by simp)) rfl
    go_simp
    refine hK _ _ ?_ ?_ HW
    ·simp [upd, e0]
    ·exact rfl
   refine auto_op 60 [1] (by kernel_rfl) (fun y w' HW hd K hK => ?_) ?_
   ·have e1 := hd_nth (hd 1 (by simp)) rfl
    go_simp
    refine hK _ _ ?_ ?_ HW
    ·simp [upd, e1]
    ·exact rfl
   refine auto_op 61 [2] (by kernel_rfl) (fun y w' HW hd K hK => ?_) ?_
   ·have e2 := hd_nth (hd 2 (by simp)) rfl
    have hcl : ∀ p : Addr, p.block < V.heap.size → w'.cell? p = V.cell? p := fun p hp => HW.cell hp
    go_simp
    refine hK _ _ ?_ ?_ HW
    ·simp [upd, e2]
    ·exact rfl
   refine auto_op 62 [] (by kernel_rfl) (fun y w' HW hd K hK => ?_) ?_
   ·go_simp
    refine hK _ _ ?_ ?_ HW
    ·simp [upd]
    ·exact rfl
   refine auto_op 63 [4] (by kernel_rfl) (fun y w' HW hd K hK => ?_) ?_
   ·have e4 := hd_nth (hd 4 (by simp)) rfl
    have hcl : ∀ p : Addr, p.block < V.heap.size → w'.cell? p = V.cell? p := fun p hp => HW.cell hp
    go_simp
    refine hK _ _ ?_ ?_ HW
    ·simp [upd, e4]
    ·exact rfl
   refine auto_op 64 [3, 5] (by kernel_rfl) (fun y w' HW hd K hK => ?_) ?_
   ·have e3 := hd_nth (hd 3 (by simp)) rfl
    have e5 := hd_nth (hd 5 (by simp)) rfl
    go_simp
    refine (HIV.out _ HW).mono ?_
    rintro e w3 ⟨rfl, rfl⟩
    refine hK _ _ ?_ ?_ HW
    ·simp [upd, e3, e5]
    ·exact rfl
   refine auto_last fun y w' HW hd K hK => ?_
   have e0 := hd_nth (hd 0 (by omega)) rfl
   have e1 := hd_nth (hd 1 (by omega)) rfl
   have e2 := hd_nth (hd 2 (by omega)) rfl
   have e3 := hd_nth (hd 3 (by omega)) rfl
   have e4 := hd_nth (hd 4 (by omega)) rfl
   have e5 := hd_nth (hd 5 (by omega)) rfl
   have e6 := hd_nth (hd 6 (by omega)) rfl
   go_simp
   refine hK _ _ ?_
   clear hd hK K e0 e1 e2 e3 e4 e5 e6
   have HW2 := Lib.hid (HB2.out.trans (HW.mono HB2.out.size))
   have hq0 := HN2.out.more HW
   obtain ⟨r0, r1, r2, r3⟩ := HAt.cells hq0
   have f0 := hq0.frozen 0
   have f1 := hq0.frozen 1
   have f2 := hq0.frozen 2
   have f3 := hq0.frozen 3
   have hlt := hq0.lt
   have p2 : w'.cell? ⟨pb, 0, none⟩ = some (.int .i64 F) := (HPL.out.more HW).cell rfl
   clear HW hq0 c0 p0 b0 b1 HIV HPL HDV2 HN2 HB2
   go_wp2
   exact bodyPost_ret (v := .tuple #[hitV (0, 0, 0), .int .i64 7]) (by simp [results, Tryz.results42, go_sem, r0, r1, r2, r3, hitV]) rfl ⟨rfl, by (repeat (first | refine HSet.out _ _ _ ?_)); exact HW2.out⟩
 ·skip
  apply wp_region_auto [58, 59, 60, 61, 62, 63, 64] [_, _, _, _, _, _, _] (fun W' => Below V.heap.size V W')
  case hm => kernel_rfl
  case hT => intro y; simp only [setAll, List.setIfInBounds_toArray, List.set_cons_succ, List.set_cons_zero]; exact rfl
  case hok => kernel_rfl
  case hn => decide
  case hw => exact (Below.refl _ _).drew
  case hs =>
   refine auto_op 58 [] (by kernel_rfl) (fun y w' HW hd K hK => ?_) ?_
   ·go_simp
    refine hK _ _ ?_ ?_ HW
    ·simp [upd]
    ·exact rfl
   refine auto_op 59 [0] (by kernel_rfl) (fun y w' HW hd K hK => ?_) ?_
   ·have e0 := hd_nth (hd 0 (by simp)) rfl
    go_simp
    refine hK _ _ ?_ ?_ HW
    ·simp [upd, e0]
    ·exact rfl
   refine auto_op 60 [1] (by kernel_rfl) (fun y w' HW hd K hK => ?_) ?_
   ·have e1 := hd_nth (hd 1 (by simp)) rfl
    go_simp
    refine hK _ _ ?_ ?_ HW
    ·simp [upd, e1]
    ·exact rfl
   refine auto_op 61 [2] (by kernel_rfl) (fun y w' HW hd K hK => ?_) ?_
   ·have e2 := hd_nth (hd 2 (by simp)) rfl
    have hcl : ∀ p : Addr, p.block < V.heap.size → w'.cell? p = V.cell? p := fun p hp => HW.cell hp
    go_simp
    refine hK _ _ ?_ ?_ HW
    ·simp [upd, e2]
    ·exact rfl
   refine auto_op 62 [] (by kernel_rfl) (fun y w' HW hd K hK => ?_) ?_
   ·go_simp
    refine hK _ _ ?_ ?_ HW
    ·simp [upd]
    ·exact rfl
   refine auto_op 63 [4] (by kernel_rfl) (fun y w' HW hd K hK => ?_) ?_
   ·have e4 := hd_nth (hd 4 (by simp)) rfl
    have hcl : ∀ p : Addr, p.block < V.heap.size → w'.cell? p = V.cell? p := fun p hp => HW.cell hp
    go_simp
    refine hK _ _ ?_ ?_ HW
    ·simp [upd, e4]
    ·exact rfl
   refine auto_op 64 [3, 5] (by kernel_rfl) (fun y w' HW hd K hK => ?_) ?_
   ·have e3 := hd_nth (hd 3 (by simp)) rfl
    have e5 := hd_nth (hd 5 (by simp)) rfl
    go_simp
    refine (HIV.out _ HW).mono ?_
    rintro e w3 ⟨rfl, rfl⟩
    refine hK _ _ ?_ ?_ HW
    ·simp [upd, e3, e5]
    ·exact rfl
   refine auto_last fun y w' HW hd K hK => ?_
   have e0 := hd_nth (hd 0 (by omega)) rfl
   have e1 := hd_nth (hd 1 (by omega)) rfl
   have e2 := hd_nth (hd 2 (by omega)) rfl
   have e3 := hd_nth (hd 3 (by omega)) rfl
   have e4 := hd_nth (hd 4 (by omega)) rfl
   have e5 := hd_nth (hd 5 (by omega)) rfl
   have e6 := hd_nth (hd 6 (by omega)) rfl
   go_simp
   refine hK _ _ ?_
   clear hd hK K e0 e1 e2 e3 e4 e5 e6
   have HW2 := Lib.hid (HB2.out.trans (HW.mono HB2.out.size))
   have hq0 := HN2.out.more HW
   obtain ⟨r0, r1, r2, r3⟩ := HAt.cells hq0
   have f0 := hq0.frozen 0
   have f1 := hq0.frozen 1
   have f2 := hq0.frozen 2
   have f3 := hq0.frozen 3
   have hlt := hq0.lt
   have p2 : w'.cell? ⟨pb, 0, none⟩ = some (.int .i64 F) := (HPL.out.more HW).cell rfl
   clear HW hq0 c0 p0 b0 b1 HIV HPL HDV2 HN2 HB2
   go_wp2
   exact bodyPost_ret (v := .tuple #[hitV (z / 64, F, z % 64), .int .i64 0]) (by simp [results, Tryz.results42, go_sem, r0, r1, r2, r3, hitV]) rfl ⟨rfl, by (repeat (first | refine HSet.out _ _ _ ?_)); exact HW2.out⟩
theorem refFind_askew4 (z k : Int) (h0 : 0 ≤ z) (h1 : z < 4294967296) (d0 : (z % 4 != 0) = true) (w : World) :
  Calls Tryz.prog 42 #[.pointer (some ⟨g, 0, none⟩), .int .u32 z, .int .i64 4, .int .i64 k] w fun e w' => e = .returned (.tuple #[hitV (0, 0, 0), .int .i64 1]) ∧ Below w.heap.size w w' := by
 have HB : Hid (Below w.heap.size w (w.alloc (.cells (hitC (0, 0, 0)).toArray 36))) := Lib.hid ((Below.refl w.heap.size w).alloc (Nat.le_refl _) _)
 have HSet : Hid (∀ (W : World) (j : Nat) (v : Value), Below w.heap.size w W → Below w.heap.size w (W.setCell ⟨w.heap.size, j, none⟩ v)) := Lib.hid fun W j v h => h.setCell (p := ⟨w.heap.size, j, none⟩) (by simp) _
 go_enter Tryz.func42, Tryz.ntmps42
 go_wp2
 exact bodyPost_ret (v := .tuple #[hitV (0, 0, 0), .int .i64 1]) (by simp [results, Tryz.results42, go_sem, hitV]) rfl ⟨rfl, by (repeat (first | refine HSet.out _ _ _ ?_)); exact HB.out⟩
theorem refFind_far4 (z k : Int) (h0 : 0 ≤ z) (h1 : z < 4294967296) (d0 : (z % 4 != 0) = false) (d1 : decide (768 ≤ z) = true) (w : World) :
  Calls Tryz.prog 42 #[.pointer (some ⟨g, 0, none⟩), .int .u32 z, .int .i64 4, .int .i64 k] w fun e w' => e = .returned (.tuple #[hitV (0, 0, 0), .int .i64 2]) ∧ Below w.heap.size w w' := by
 have HB : Hid (Below w.heap.size w (w.alloc (.cells (hitC (0, 0, 0)).toArray 36))) := Lib.hid ((Below.refl w.heap.size w).alloc (Nat.le_refl _) _)
 have HSet : Hid (∀ (W : World) (j : Nat) (v : Value), Below w.heap.size w W → Below w.heap.size w (W.setCell ⟨w.heap.size, j, none⟩ v)) := Lib.hid fun W j v h => h.setCell (p := ⟨w.heap.size, j, none⟩) (by simp) _
 go_enter Tryz.func42, Tryz.ntmps42
 go_wp2
 exact bodyPost_ret (v := .tuple #[hitV (0, 0, 0), .int .i64 2]) (by simp [results, Tryz.results42, go_sem, hitV]) rfl ⟨rfl, by (repeat (first | refine HSet.out _ _ _ ?_)); exact HB.out⟩
theorem refFind_no4 (z k al : Int) (h0 : 0 ≤ z) (h1 : z < 4294967296) (d0 : (z % 4 != 0) = false) (d1 : decide (768 ≤ z) = false) (hal : Gm.alwF (Gm.atP L (z / 64)) (z / 64) k = al) (hz : ¬ al = 0) (w : World) (hP : DV w g bt B q n gv cap S L D) :
  Calls Tryz.prog 42 #[.pointer (some ⟨g, 0, none⟩), .int .u32 z, .int .i64 4, .int .i64 k] w fun e w' => e = .returned (.tuple #[hitV (0, 0, 0), .int .i64 al]) ∧ Below w.heap.size w w' := by
 have HB : Hid (Below w.heap.size w (w.alloc (.cells (hitC (0, 0, 0)).toArray 36))) := Lib.hid ((Below.refl w.heap.size w).alloc (Nat.le_refl _) _)
 have HDV := Lib.hid (hP.more HB.out)
 have HN : Hid (Blk (w.alloc (.cells (hitC (0, 0, 0)).toArray 36)) w.heap.size 36 (hitC (0, 0, 0))) := Lib.hid (Blk.new w _ _)
 have HSet : Hid (∀ (W : World) (j : Nat) (v : Value), Below w.heap.size w W → Below w.heap.size w (W.setCell ⟨w.heap.size, j, none⟩ v)) := Lib.hid fun W j v h => h.setCell (p := ⟨w.heap.size, j, none⟩) (by simp) _
 have c1 := hP.cell1
 have HA := Lib.hid (Gm.refAllows_any q L (z / 64) k al hal _ HDV.out.mp)
 have hz0 : (al == 0) = false := by simpa using hz
 have b0 := hP.lt
 clear hP hal hz HDV
 go_enter Tryz.func42, Tryz.ntmps42
 go_wp2_with fail
 refine HA.out.mono ?_
 rintro e w1 ⟨rfl, hb1⟩
 have HB1 := Lib.hid (HB.out.trans (hb1.mono HB.out.size))
 have hq0 := HN.out.more hb1
 obtain ⟨r0, r1, r2, r3⟩ := HAt.cells hq0
 have f0 := hq0.frozen 0
 have f1 := hq0.frozen 1
 have f2 := hq0.frozen 2
 have f3 := hq0.frozen 3
 have hlt := hq0.lt
 clear hb1 hq0 HA HN HB
 go_wp2
 exact bodyPost_ret (v := .tuple #[hitV (0, 0, 0), .int .i64 al]) (by simp [results, Tryz.results42, go_sem, r0, r1, r2, r3, hitV]) rfl ⟨rfl, by (repeat (first | refine HSet.out _ _ _ ?_)); exact HB1.out⟩
theorem refFind_ok4 (z k F R : Int) (t : Bool) (h0 : 0 ≤ z) (h1 : z < 4294967296) (d0 : (z % 4 != 0) = false) (d1 : decide (768 ≤ z) = false) (hal : Gm.alwF (Gm.atP L (z / 64)) (z / 64) k = 0) (hp : Gm.atP L (z / 64) = (F, R)) (hth : Gm.thB (F, R) = true) (ht : (decide (0 ≤ F) && decide (F < n)) = t) (w : World) (hP : DV w g bt B q n gv cap S L D) :
  Calls Tryz.prog 42 #[.pointer (some ⟨g, 0, none⟩), .int .u32 z, .int .i64 4, .int .i64 k] w fun e w' => e = .returned (.tuple #[hitV (if t = true then (z / 64, F, z % 64) else (0, 0, 0)), .int .i64 (if t = true then 0 else 7)]) ∧ Below w.heap.size w w' := by
 have HB : Hid (Below w.heap.size w (w.alloc (.cells (hitC (0, 0, 0)).toArray 36))) := Lib.hid ((Below.refl w.heap.size w).alloc (Nat.le_refl _) _)
 have HDV := Lib.hid (hP.more HB.out)
 have HN : Hid (Blk (w.alloc (.cells (hitC (0, 0, 0)).toArray 36)) w.heap.size 36 (hitC (0, 0, 0))) := Lib.hid (Blk.new w _ _)
 have HSet : Hid (∀ (W : World) (j : Nat) (v : Value), Below w.heap.size w W → Below w.heap.size w (W.setCell ⟨w.heap.size, j, none⟩ v)) := Lib.hid fun W j v h => h.setCell (p := ⟨w.heap.size, j, none⟩) (by simp) _
 have c1 := hP.cell1
 have HA := Lib.hid (Gm.refAllows_any q L (z / 64) k 0 hal _ HDV.out.mp)
 have HG := Lib.hid (fun W hW => Gm.refGet_any q L (z / 64) (F, R) true hp hth W hW)
 have HI : Hid (∀ W, DV W g bt B q n gv cap S L D → Calls Tryz.prog 80 #[.pointer (some ⟨bt, 0, none⟩), .int .i64 F] W fun e w' => e = .returned (.bool t) ∧ W = w') := Lib.hid fun W hW => refIs_dv F t ht W hW
 have b0 := hP.lt
 have dz : (0 : Int) ≤ z / 64 := by omega
 have dz1 : (0 : Int) ≤ z % 64 := by omega
 have HBX : Hid (∀ W, Below w.heap.size w W → Below w.heap.size w (W.alloc (.cells #[.int .i64 F, .int .i64 R] 54))) := Lib.hid fun W h => h.alloc h.size _
 clear hP hal hp hth ht
 cases t
 all_goals
  go_enter Tryz.func42, Tryz.ntmps42
  go_wp2_with fail
  refine HA.out.mono ?_
  rintro e w1 ⟨rfl, hb1⟩
  have HB1 := Lib.hid (HB.out.trans (hb1.mono HB.out.size))
  have HN1 := Lib.hid (HN.out.more hb1)
  have HDV1 := Lib.hid (HDV.out.more hb1)
  have c2 := HDV1.out.cell1
  have b2 := HDV1.out.lt
  clear hb1 HA HN HB HDV c1 b0
  go_wp2_with fail
  refine (HG.out _ HDV1.out.mp).mono ?_
  rintro e w2 ⟨rfl, hb1⟩
  have HB2 := Lib.hid (HBX.out _ (HB1.out.trans (hb1.mono HB1.out.size)))
  have hba := hb1.trans (((Below.refl w2.heap.size w2).alloc (Nat.le_refl _) (.cells #[.int .i64 F, .int .i64 R] 54)).mono hb1.size)
  have HN2 := Lib.hid (HN1.out.more hba)
  have HDV2 := Lib.hid (HDV1.out.more hba)
  have HPL : Hid (Blk (w2.alloc (.cells #[.int .i64 F, .int .i64 R] 54)) w2.heap.size 54 [.int .i64 F, .int .i64 R]) := Lib.hid (Blk.new w2 _ _)
  clear hb1 hba HN1 HDV1 HB1 c2 b2 HG HBX
  unfold Gm.plV
  go_upto_region 10 with fail
  generalize w2.alloc (.cells #[.int .i64 F, .int .i64 R] 54) = V at HB2 HN2 HDV2 HPL ⊢
  generalize w2.heap.size = pb at HPL ⊢
  have c0 := HDV2.out.cell0
  have p0 : V.cell? ⟨pb, 0, none⟩ = some (.int .i64 F) := HPL.out.cell rfl
  have b0 := HDV2.out.lt
  have b1 := HPL.out.lt
  have HIV : Hid (∀ W, Below V.heap.size V W → Calls Tryz.prog 80 #[.pointer (some ⟨bt, 0, none⟩), .int .i64 F] W fun e w' => e = .returned (.bool _) ∧ W = w') := Lib.hid fun W hW => HI.out W (HDV2.out.more hW)
 ·skip
  apply wp_region_auto [58, 59, 60, 61, 62, 63, 64] [_, _, _, _, _, _, _] (fun W' => Below V.heap.size V W')
  case hm => kernel_rfl
  case hT => intro y; simp only [setAll, List.setIfInBounds_toArray, List.set_cons_succ, List.set_cons_zero]; exact rfl
  case hok => kernel_rfl
  case hn => decide
  case hw => exact (Below.refl _ _).drew
  case hs =>
   refine auto_op 58 [] (by kernel_rfl) (fun y w' HW hd K hK => ?_) ?_
   ·go_simp
    refine hK _ _ ?_ ?_ HW
    ·simp [upd]
    ·exact rfl
   refine auto_op 59 [0] (by kernel_rfl) (fun y w' HW hd K hK => ?_) ?_
   ·have e0 := hd_nth (hd 0 (by simp)) rfl
    go_simp
    refine hK _ _ ?_ ?_ HW
    ·simp [upd, e0]
    ·exact rfl
   refine auto_op 60 [1] (by kernel_rfl) (fun y w' HW hd K hK => ?_) ?_
   ·have e1 := hd_nth (hd 1 (by simp)) rfl
    go_simp
    refine hK _ _ ?_ ?_ HW
    ·simp [upd, e1]
    ·exact rfl
   refine auto_op 61 [2] (by kernel_rfl) (fun y w' HW hd K hK => ?_) ?_
   ·have e2 := hd_nth (hd 2 (by simp)) rfl
    have hcl : ∀ p : Addr, p.block < V.heap.size → w'.cell? p = V.cell? p := fun p hp => HW.cell hp
    go_simp
    refine hK _ _ ?_ ?_ HW
    ·simp [upd, e2]
    ·exact rfl
   refine auto_op 62 [] (by kernel_rfl) (fun y w' HW hd K hK => ?_) ?_
   ·go_simp
    refine hK _ _ ?_ ?_ HW
    ·simp [upd]
    ·exact rfl
   refine auto_op 63 [4] (by kernel_rfl) (fun y w' HW hd K hK => ?_) ?_
   ·have e4 := hd_nth (hd 4 (by simp)) rfl
    have hcl : ∀ p : Addr, p.block < V.heap.size → w'.cell? p = V.cell? p := fun p hp => HW.cell hp
    go_simp
    refine hK _ _ ?_ ?_ HW
    ·simp [upd, e4]
    ·exact rfl
   refine auto_op 64 [3, 5] (by kernel_rfl) (fun y w' HW hd K hK => ?_) ?_
   ·have e3 := hd_nth (hd 3 (by simp)) rfl
    have e5 := hd_nth (hd 5 (by simp)) rfl
    go_simp
    refine (HIV.out _ HW).mono ?_
    rintro e w3 ⟨rfl, rfl⟩
    refine hK _ _ ?_ ?_ HW
    ·simp [upd, e3, e5]
    ·exact rfl
   refine auto_last fun y w' HW hd K hK => ?_
   have e0 := hd_nth (hd 0 (by omega)) rfl
   have e1 := hd_nth (hd 1 (by omega)) rfl
   have e2 := hd_nth (hd 2 (by omega)) rfl
   have e3 := hd_nth (hd 3 (by omega)) rfl
   have e4 := hd_nth (hd 4 (by omega)) rfl
   have e5 := hd_nth (hd 5 (by omega)) rfl
   have e6 := hd_nth (hd 6 (by omega)) rfl
   go_simp
   refine hK _ _ ?_
   clear hd hK K e0 e1 e2 e3 e4 e5 e6
   have HW2 := Lib.hid (HB2.out.trans (HW.mono HB2.out.size))
   have hq0 := HN2.out.more HW
   obtain ⟨r0, r1, r2, r3⟩ := HAt.cells hq0
   have f0 := hq0.frozen 0
   have f1 := hq0.frozen 1
   have f2 := hq0.frozen 2
   have f3 := hq0.frozen 3
   have hlt := hq0.lt
   have p2 : w'.cell? ⟨pb, 0, none⟩ = some (.int .i64 F) := (HPL.out.more HW).cell rfl
   clear HW hq0 c0 p0 b0 b1 HIV HPL HDV2 HN2 HB2
   go_wp2
   exact bodyPost_ret (v := .tuple #[hitV (0, 0, 0), .int .i64 7]) (by simp [results, Tryz.results42, go_sem, r0, r1, r2, r3, hitV]) rfl ⟨rfl, by (repeat (first | refine HSet.out _ _ _ ?_)); exact HW2.out⟩
 ·skip
  apply wp_region_auto [58, 59, 60, 61, 62, 63, 64] [_, _, _, _, _, _, _] (fun W' => Below V.heap.size V W')
  case hm => kernel_rfl
  case hT => intro y; simp only [setAll, List.setIfInBounds_toArray, List.set_cons_succ, List.set_cons_zero]; exact rfl
  case hok => kernel_rfl
  case hn => decide
  case hw => exact (Below.refl _ _).drew
  case hs =>
   refine auto_op 58 [] (by kernel_rfl) (fun y w' HW hd K hK => ?_) ?_
   ·go_simp
    refine hK _ _ ?_ ?_ HW
    ·simp [upd]
    ·exact rfl
   refine auto_op 59 [0] (by kernel_rfl) (fun y w' HW hd K hK => ?_) ?_
   ·have e0 := hd_nth (hd 0 (by simp)) rfl
    go_simp
    refine hK _ _ ?_ ?_ HW
    ·simp [upd, e0]
    ·exact rfl
   refine auto_op 60 [1] (by kernel_rfl) (fun y w' HW hd K hK => ?_) ?_
   ·have e1 := hd_nth (hd 1 (by simp)) rfl
    go_simp
    refine hK _ _ ?_ ?_ HW
    ·simp [upd, e1]
    ·exact rfl
   refine auto_op 61 [2] (by kernel_rfl) (fun y w' HW hd K hK => ?_) ?_
   ·have e2 := hd_nth (hd 2 (by simp)) rfl
    have hcl : ∀ p : Addr, p.block < V.heap.size → w'.cell? p = V.cell? p := fun p hp => HW.cell hp
    go_simp
    refine hK _ _ ?_ ?_ HW
    ·simp [upd, e2]
    ·exact rfl
   refine auto_op 62 [] (by kernel_rfl) (fun y w' HW hd K hK => ?_) ?_
   ·go_simp
    refine hK _ _ ?_ ?_ HW
    ·simp [upd]
    ·exact rfl
   refine auto_op 63 [4] (by kernel_rfl) (fun y w' HW hd K hK => ?_) ?_
   ·have e4 := hd_nth (hd 4 (by simp)) rfl
    have hcl : ∀ p : Addr, p.block < V.heap.size → w'.cell? p = V.cell? p := fun p hp => HW.cell hp
    go_simp
    refine hK _ _ ?_ ?_ HW
    ·simp [upd, e4]
    ·exact rfl
   refine auto_op 64 [3, 5] (by kernel_rfl) (fun y w' HW hd K hK => ?_) ?_
   ·have e3 := hd_nth (hd 3 (by simp)) rfl
    have e5 := hd_nth (hd 5 (by simp)) rfl
    go_simp
    refine (HIV.out _ HW).mono ?_
    rintro e w3 ⟨rfl, rfl⟩
    refine hK _ _ ?_ ?_ HW
    ·simp [upd, e3, e5]
    ·exact rfl
   refine auto_last fun y w' HW hd K hK => ?_
   have e0 := hd_nth (hd 0 (by omega)) rfl
   have e1 := hd_nth (hd 1 (by omega)) rfl
   have e2 := hd_nth (hd 2 (by omega)) rfl
   have e3 := hd_nth (hd 3 (by omega)) rfl
   have e4 := hd_nth (hd 4 (by omega)) rfl
   have e5 := hd_nth (hd 5 (by omega)) rfl
   have e6 := hd_nth (hd 6 (by omega)) rfl
   go_simp
   refine hK _ _ ?_
   clear hd hK K e0 e1 e2 e3 e4 e5 e6
   have HW2 := Lib.hid (HB2.out.trans (HW.mono HB2.out.size))
   have hq0 := HN2.out.more HW
   obtain ⟨r0, r1, r2, r3⟩ := HAt.cells hq0
   have f0 := hq0.frozen 0
   have f1 := hq0.frozen 1
   have f2 := hq0.frozen 2
   have f3 := hq0.frozen 3
   have hlt := hq0.lt
   have p2 : w'.cell? ⟨pb, 0, none⟩ = some (.int .i64 F) := (HPL.out.more HW).cell rfl
   clear HW hq0 c0 p0 b0 b1 HIV HPL HDV2 HN2 HB2
   go_wp2
   exact bodyPost_ret (v := .tuple #[hitV (z / 64, F, z % 64), .int .i64 0]) (by simp [results, Tryz.results42, go_sem, r0, r1, r2, r3, hitV]) rfl ⟨rfl, by (repeat (first | refine HSet.out _ _ _ ?_)); exact HW2.out⟩
theorem refFind_any (z m k c : Int) (h : Int × Int × Int) (h0 : 0 ≤ z) (h1 : z < 4294967296) (hc : findF n L z m k = c) (hh : hitF n L z m k = h) (w : World) (hP : DV w g bt B q n gv cap S L D) :
  (Calls Tryz.prog 42 #[.pointer (some ⟨g, 0, none⟩), .int .u32 z, .int .i64 m, .int .i64 k] w fun e w' => e = .returned (.tuple #[hitV h, .int .i64 c]) ∧ Below w.heap.size w w') := by
 have key : ∀ (c' : Int), fltF L z m k = c' → ¬ c' = 0 → (Calls Tryz.prog 42 #[.pointer (some ⟨g, 0, none⟩), .int .u32 z, .int .i64 m, .int .i64 k] w fun e w' => e = .returned (.tuple #[hitV (0, 0, 0), .int .i64 c']) ∧ Below w.heap.size w w') → (Calls Tryz.prog 42 #[.pointer (some ⟨g, 0, none⟩), .int .u32 z, .int .i64 m, .int .i64 k] w fun e w' => e = .returned (.tuple #[hitV h, .int .i64 c]) ∧ Below w.heap.size w w') := fun c' hf hz H => by
  unfold hitF at hh
  unfold findF at hc hh
  rw [hf, if_neg hz] at hc hh
  rw [if_neg hz] at hh
  subst hh
  subst hc
  exact H
 have fin : fltF L z m k = 0 → (∀ (F R : Int) (t : Bool), Gm.atP L (z / 64) = (F, R) → Gm.thB (F, R) = true → (decide (0 ≤ F) && decide (F < n)) = t → (Calls Tryz.prog 42 #[.pointer (some ⟨g, 0, none⟩), .int .u32 z, .int .i64 m, .int .i64 k] w fun e w' => e = .returned (.tuple #[hitV (if t = true then (z / 64, F, z % 64) else (0, 0, 0)), .int .i64 (if t = true then 0 else 7)]) ∧ Below w.heap.size w w')) → (Calls Tryz.prog 42 #[.pointer (some ⟨g, 0, none⟩), .int .u32 z, .int .i64 m, .int .i64 k] w fun e w' => e = .returned (.tuple #[hitV h, .int .i64 c]) ∧ Below w.heap.size w w') := fun hf H => by
  obtain ⟨M, j, f, r, _, _, _, _, _, _, hat, _, hf32, hal⟩ := flt_zero hP.mp.2 h0 hf
  have H2 := H f r _ hat (alwF_zero hal) rfl
  unfold hitF at hh
  unfold findF at hc hh
  rw [if_pos hf, hat] at hc hh
  by_cases hfn : (f : Int) < (n : Int)
  ·simp only [hfn, if_true] at hc hh
   subst hc; subst hh
   simpa [hfn] using H2
  ·simp only [hfn, if_false] at hc hh
   subst hc; subst hh
   simpa [hfn] using H2
 by_cases hw : isW m = true
 ·have hm : m = 1 ∨ m = 2 ∨ m = 4 := by unfold isW at hw; simpa [or_assoc] using hw
  rcases hm with rfl | rfl | rfl
  ·by_cases d1 : 768 ≤ z
   ·exact key 2 (by unfold fltF; simp [isW, d1, Int.emod_one]) (by decide) (refFind_far1 z k h0 h1 (by simpa using d1) w)
   ·by_cases hal : Gm.alwF (Gm.atP L (z / 64)) (z / 64) k = 0
    ·exact fin (by unfold fltF; simp [isW, d1, hal, Int.emod_one]) fun F R t hp hth ht => refFind_ok1 z k F R t h0 h1 (by simpa using d1) hal hp hth ht w hP
    ·exact key _ (by unfold fltF; simp [isW, d1, Int.emod_one]) hal (refFind_no1 z k _ h0 h1 (by simpa using d1) rfl hal w hP)
  ·by_cases d0 : z % 2 = 0
   rotate_left
   ·exact key 1 (by unfold fltF; simp [isW, d0]) (by decide) (refFind_askew2 z k h0 h1 (by simpa using d0) w)
   by_cases d1 : 768 ≤ z
   ·exact key 2 (by unfold fltF; simp [isW, d1, d0]) (by decide) (refFind_far2 z k h0 h1 (by simpa using d0) (by simpa using d1) w)
   ·by_cases hal : Gm.alwF (Gm.atP L (z / 64)) (z / 64) k = 0
    ·exact fin (by unfold fltF; simp [isW, d1, hal, d0]) fun F R t hp hth ht => refFind_ok2 z k F R t h0 h1 (by simpa using d0) (by simpa using d1) hal hp hth ht w hP
    ·exact key _ (by unfold fltF; simp [isW, d1, d0]) hal (refFind_no2 z k _ h0 h1 (by simpa using d0) (by simpa using d1) rfl hal w hP)
  ·by_cases d0 : z % 4 = 0
   rotate_left
   ·exact key 1 (by unfold fltF; simp [isW, d0]) (by decide) (refFind_askew4 z k h0 h1 (by simpa using d0) w)
   by_cases d1 : 768 ≤ z
   ·exact key 2 (by unfold fltF; simp [isW, d1, d0]) (by decide) (refFind_far4 z k h0 h1 (by simpa using d0) (by simpa using d1) w)
   ·by_cases hal : Gm.alwF (Gm.atP L (z / 64)) (z / 64) k = 0
    ·exact fin (by unfold fltF; simp [isW, d1, hal, d0]) fun F R t hp hth ht => refFind_ok4 z k F R t h0 h1 (by simpa using d0) (by simpa using d1) hal hp hth ht w hP
    ·exact key _ (by unfold fltF; simp [isW, d1, d0]) hal (refFind_no4 z k _ h0 h1 (by simpa using d0) (by simpa using d1) rfl hal w hP)
 ·have hw : isW m = false := by simpa using hw
  exact key 1 (by unfold fltF; rw [hw]; rfl) (by decide) (refFind_width z m k hw w)

theorem refSave_bad (z m x c : Int) (h0 : 0 ≤ z) (h1 : z < 4294967296) (hc : findF n L z m 2 = c) (hz : ¬ c = 0) (w : World) (hP : DV w g bt B q n gv cap S L D) :
  Calls Tryz.prog 33 #[.pointer (some ⟨g, 0, none⟩), .int .u32 z, .int .i64 m, .int .u32 x] w fun e w' => e = .returned (.int .i64 c) ∧ Below w.heap.size w w' := by
 have hh : hitF n L z m 2 = (0, 0, 0) := by unfold hitF; rw [hc, if_neg hz]
 have HF := Lib.hid (refFind_any z m 2 c _ h0 h1 hc hh w hP)
 have HBX : Hid (∀ W, Below w.heap.size w W → Below w.heap.size w (W.alloc (.cells #[.int .i64 0, .int .i64 0, .int .i64 0, .bool false] 36))) := Lib.hid fun W h => h.alloc h.size _
 have hz0 : (c == 0) = false := by simpa using hz
 clear hP hc hz hh
 go_enter Tryz.func33, Tryz.ntmps33
 go_wp2_with fail
 refine HF.out.mono ?_
 rintro e w1 ⟨rfl, hb1⟩
 have HB1 := Lib.hid (HBX.out _ hb1)
 clear hb1
 unfold hitV
 go_wp2
 go_ret
 exact ⟨rfl, HB1.out⟩
theorem refSave_ok (z m x : Int) (h0 : 0 ≤ z) (h1 : z < 4294967296) (hx0 : 0 ≤ x) (hx1 : x < 4294967296) (hc : findF n L z m 2 = 0) (w : World) (hP : DV w g bt B q n gv cap S L D) :
  Calls Tryz.prog 33 #[.pointer (some ⟨g, 0, none⟩), .int .u32 z, .int .i64 m, .int .u32 x] w fun e w' => e = .returned (.int .i64 0) ∧ DV w' g bt B q n gv cap (saveS n S L z m x) L (saveD n L D z m) ∧ Kq [gv, g] w w' := by
 obtain ⟨M, j, f, o, H, hh⟩ := find_zero hP.mp.2 h0 hc
 have HF := Lib.hid (refFind_any z m 2 0 _ h0 h1 hc hh w hP)
 obtain ⟨S', hS'⟩ : ∃ S', saveS n S L z m x = S' := ⟨_, rfl⟩
 have HL : Hid (∀ W, DV W g bt B q n gv cap S L D → Calls Tryz.prog 54 #[.pointer (some ⟨bt, 0, none⟩), .int .i64 f, .int .i64 o, .int .i64 m, .int .u32 x] W fun e w' => e = .returned (.int .i64 0) ∧ DV w' g bt B q n gv cap S' L D ∧ W.grownBy w' (some gv)) := Lib.hid fun W hW => by
  obtain ⟨vs, hs⟩ := hW.st
  have := Fr.refSave_own hs H.fn H.hw H.fit hx0 hx1
  rw [← H.hm] at this
  have hpl := load_len hW.s0 H.f32 H.fit x
  refine this.mono fun e w' ⟨he, ⟨vs', h'⟩, hg⟩ => ⟨he, hW.saved ⟨vs', ?_⟩ ?_ ?_ hg, hg⟩
  ·rw [Fr.fr_at S H.fn, Fr.fr_lay hW.s0 H.fn hW.n32 hpl, ← saveS_is hc H, hS'] at h'
   exact h'
  ·rw [← hS', saveS_is hc H]
   exact Fr.length_layF hW.s0 H.f32 hpl
  ·rw [← hS', saveS_is hc H]
   exact Fr.layF_bytes hW.s1 f (putZ_bytes (Fr.frameL_bytes hW.s1 f) o M x)
 have HBX : Hid (∀ W, Below w.heap.size w W → Below w.heap.size w (W.alloc (.cells (hitC ((j : Int), (f : Int), (o : Int))).toArray 36))) := Lib.hid fun W h => h.alloc h.size _
 have HP := Lib.hid hP
 have HSD := Lib.hid (saveD_is (D := D) hc H)
 have HJ := Lib.hid H.j12
 rw [hS', HSD.out]
 clear hP hc hS' hh H HSD hx0 hx1
 generalize (f : Int) = F at HF HBX HL
 generalize (o : Int) = O at HF HBX HL
 go_enter Tryz.func33, Tryz.ntmps33
 go_wp2_with fail
 refine HF.out.mono ?_
 rintro e w1 ⟨rfl, hb1⟩
 have HB1 := Lib.hid (HBX.out _ hb1)
 have HN : Hid (Blk (w1.alloc (.cells (hitC (j, F, O)).toArray 36)) w1.heap.size 36 (hitC (j, F, O))) := Lib.hid (Blk.new w1 _ _)
 have HGB : Hid (gv < w1.heap.size) := Lib.hid (Nat.lt_of_lt_of_le HP.out.gvB.2 hb1.size)
 clear hb1
 unfold hitC at HB1
 unfold hitV
 go_upto_region 3 with fail
 change Hid (Blk (w1.alloc (.cells #[.int .i64 j, .int .i64 F, .int .i64 O, .bool false] 36)) w1.heap.size 36 (hitC (j, F, O))) at HN
 generalize w1.alloc (.cells #[.int .i64 j, .int .i64 F, .int .i64 O, .bool false] 36) = V at HB1 HN ⊢
 generalize w1.heap.size = hb at HN HGB ⊢
 have HV := Lib.hid (HP.out.more HB1.out)
 have c0 := HV.out.cell0
 obtain ⟨n0, n1, n2, _⟩ := HAt.cells HN.out
 dsimp only at n0 n1 n2
 go_still_tail 10, (by kernel_rfl)
 change wpList _ _ _ _ _ V.drew
 have HV2 : Hid (DV V.drew g bt B q n gv cap S L D) := Lib.hid (HV.out.more (Below.refl _ _).drew)
 have HN2 : Hid (Blk V.drew hb 36 (hitC (j, F, O))) := Lib.hid (HN.out.more (Below.refl _ _).drew)
 have HB2 : Hid (Below w.heap.size w V.drew) := Lib.hid HB1.out.drew
 clear c0 n0 n1 n2 HV HN HB1
 generalize V.drew = V2 at HV2 HN2 HB2 ⊢
 go_wp2_with fail
 refine (HL.out _ HV2.out).mono ?_
 rintro e w3 ⟨rfl, hv3, hg3⟩
 have HV3 := Lib.hid hv3
 have HK3 : Hid (Kq [gv, g] w w3) := Lib.hid ((Kq.of_below HB2.out).trans (Kq.of_grown hg3 (by simp)))
 have HN3 := Lib.hid (HN2.out.kept hg3 (fun e => by have := HGB.out; injection e; omega))
 clear hv3 hg3 HV2 HN2 HB2
 have HPM := Lib.hid (HV3.out.mark j)
 have HKM := Lib.hid (HK3.out.setCell g (2 + j) (.bool true) (.inl (by simp)))
 obtain ⟨n0, _, _, _⟩ := HAt.cells HN3.out
 dsimp only at n0
 have f2 : (0 : Int) ≤ (j : Int) ∧ (j : Int) < 12 := by have := HJ.out; omega
 have fz := HV3.out.blk.frozen (2 + j)
 have c2 : w3.cell? ⟨g, 2 + j, none⟩ = some (.bool (D.getD j false)) := HV3.out.blk.cell (by
  rw [show 2 + j = j + 1 + 1 by omega]
  have := HV3.out.len
  have := HJ.out
  simp [vCells, List.getD, show j < D.length by omega])
 go_upto_region 4 with fail
 go_region
 all_goals go_wp2
 all_goals go_ret
 all_goals exact ⟨rfl, HPM.out.more (Below.refl _ _).drew, HKM.out.trans (Kq.of_below (Below.refl _ _).drew)⟩
theorem refSave_any (z m x c : Int) (S' : List Int) (D' : List Bool) (h0 : 0 ≤ z) (h1 : z < 4294967296) (hx0 : 0 ≤ x) (hx1 : x < 4294967296) (hc : findF n L z m 2 = c) (hS : saveS n S L z m x = S') (hD : saveD n L D z m = D') (w : World) (hP : DV w g bt B q n gv cap S L D) :
  Calls Tryz.prog 33 #[.pointer (some ⟨g, 0, none⟩), .int .u32 z, .int .i64 m, .int .u32 x] w fun e w' => e = .returned (.int .i64 c) ∧ DV w' g bt B q n gv cap S' L D' ∧ Kq [gv, g] w w' := by
 by_cases hz : c = 0
 ·subst hz
  subst hS
  subst hD
  exact refSave_ok z m x h0 h1 hx0 hx1 hc w hP
 ·have e1 : saveS n S L z m x = S := by unfold saveS; rw [hc, if_neg hz]
  have e2 : saveD n L D z m = D := by unfold saveD; rw [hc, if_neg hz]
  rw [e1] at hS
  rw [e2] at hD
  subst hS
  subst hD
  exact (refSave_bad z m x c h0 h1 hc hz w hP).mono fun e w' ⟨he, hb⟩ => ⟨he, hP.more hb, Kq.of_below hb⟩
end
end Go.Proofs.YteaincdeoajkeaaGreatDoor.Vw
end
