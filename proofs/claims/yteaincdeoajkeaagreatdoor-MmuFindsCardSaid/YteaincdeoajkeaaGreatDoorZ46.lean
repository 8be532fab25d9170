/- Several texts in one: Kt Ky Mm Mn -/
import Derived.Test.YteaincdeoajkeaaGreatDoorZ44
import Derived.Test.YteaincdeoajkeaaGreatDoorZ42
import Derived.Test.YteaincdeoajkeaaGreatDoorZ45
import Derived.Laws.EntriesVeiled
section
/- Package view: Dirty, whose list is new; package mmu: heed. -/
namespace Go.Proofs.YteaincdeoajkeaaGreatDoor.Vw
open Go.RowKit Go.Shelf Ut Oc
set_option maxRecDepth 100000
set_option linter.unusedVariables false
set_option maxHeartbeats 4000000
section
variable {b s m n : Nat} {S : List Int} {L : List Gm.Pl} {D : List Bool}
theorem dirty_new (w : World) (hP : PV w b s m n S L D) :
  Calls Tryz.prog 68 #[.pointer (some ⟨b, 0, none⟩)] w fun e w' => ∃ a k cap, e = .returned (.slice a k cap) ∧ Hid (RowK .i64 w' w'.heap.size a k (dirtL D 12) ∧ ∀ y, a = some y → w.heap.size ≤ y.block) ∧ PV w' b s m n S L noD ∧ Kq [b] w w' := by
 have HP := Lib.hid hP
 have HM := Lib.hid (made_yes b s w hP.cell0)
 have HD := Lib.hid hP.len
 have hix := idx_bool D hP.len
 have HA : Hid (∀ (ρ : Operand → Value) (o : Oper), o.op = .load 67 (.tmp 11) → ρ (.tmp 11) = .pointer (some ⟨b, 2, none⟩) → (execOp ρ o).run Tryz.prog w = .ok (.value (.agg (D.map Value.bool).toArray)) w) :=
  Lib.hid fun ρ o ho hx => exec_load_blk hP.blk 2 67 (.tmp 11) ho hx (D.map Value.bool) (vCells_d s m D) _ Tryz.underlying67 rfl (size_bools D hP.len)
 clear hP
 have HIX := Lib.hid hix
 clear hix
 generalize hA : (D.map Value.bool).toArray = A at HA HIX
 clear hA
 go_enter Tryz.func68, Tryz.ntmps68
 go_upto_region 4 with (go_at_call 50; refine HM.out.mono ?_; rintro e w1 ⟨rfl, rfl⟩)
 refine wp_region_lit ?_
 refine Great.wpList_readTo rfl _ rfl (.pointer (some ⟨b, 0, none⟩)) (by kernel_rfl) ?_
 refine Great.wpList_readTo rfl _ rfl (.pointer (some ⟨b, 0, none⟩)) (by kernel_rfl) ?_
 refine Great.wpList_readTo rfl _ rfl (.pointer (some ⟨b, 2, none⟩)) (by kernel_rfl) ?_
 refine Great.wpList_readTo rfl _ rfl (.agg A) (HA.out _ _ rfl (by kernel_rfl)) ?_
 refine Great.wpList_readTo rfl _ rfl (.int .i64 0) (by kernel_rfl) ?_
 clear HA
 simp only [Act.put, List.setIfInBounds_toArray, List.set_cons_succ, List.set_cons_zero]
 go_wp2
 go_loopw [3, 13] (fun v j wr => ∃ (k n cap : Nat) (a : Option Addr), k ≤ 12 ∧ n ≤ k ∧ v = .slice a n cap ∧ j = .int .i64 k ∧ Hid (OwnI .i64 wr w.heap.size 3 (.slice a n cap) n (dirtL D k)) ∧ Hid (Below w.heap.size w wr)) (fun _ j _ => 12 - (intOf j).toNat)
 case atStart => exact ⟨0, 0, 0, none, by omega, by omega, rfl, rfl, OwnI.nil _ _ _ _, Below.refl _ _⟩
 case round =>
  obtain ⟨k, n, cap, a, hk, hn, rfl, rfl, HO, HB⟩ := hrel
  by_cases hlt : k < 12
  ·have f1 : (k : Int) < 12 := by omega
   have H3 := Lib.hid hlt
   have HN := Lib.hid hn
   have hix := HIX.out k hlt
   have HS := Lib.hid (dirtL_succ D k)
   clear hlt hk hn
   obtain ⟨t, ht⟩ : ∃ t, D.getD k false = t := ⟨_, rfl⟩
   rw [ht] at hix HS
   clear ht
   obtain ⟨xs, hxs⟩ : ∃ xs, dirtL D k = xs := ⟨_, rfl⟩
   rw [hxs] at HO HS
   clear hxs
   cases t
   ·go_wp2
    go_roundw
    case rel => exact ⟨k + 1, n, cap, a, by have := H3.out; omega, by have := HN.out; omega, rfl, by go_num, by rw [HS.out]; simpa using HO, HB⟩
    case measure => have := H3.out; simp [intOf]; omega
   ·have HBA := Lib.hid (HB.out.trans (((Below.refl wr.heap.size wr).alloc (Nat.le_refl _) (.cells #[.int .i64 k] 3)).mono HB.out.size))
    have HOA : Hid (OwnI .i64 (wr.alloc (.cells #[.int .i64 k] 3)) w.heap.size 3 (.slice a n cap) n xs) := HO.out.alloc _
    have HRA : Hid (RowK .i64 (wr.alloc (.cells #[.int .i64 k] 3)) (wr.heap.size + 1) (some ⟨wr.heap.size, 0, none⟩) 1 [(k : Int)]) := RowK.new1 .i64 wr k _
    go_wp2_with (refine wpList_append_ints rfl _ _ 145 rfl .i64 w.heap.size 3 8 Tryz.underlying145 (by kernel_rfl) (.slice a n cap) n xs rfl HOA.out _ _ 1 1 [(k : Int)] rfl HRA.out (by have := HN.out; have := H3.out; unfold maxLen; omega) (by have := HN.out; have := H3.out; omega) HBA.out.size ?_; intro v' w' HO2 hb2 _)
    obtain ⟨g, cap', rfl, _⟩ := HO2.out.form (by omega)
    have HB3 := Lib.hid (HBA.out.trans hb2)
    go_wp2
    go_roundw
    case rel => exact ⟨k + 1, n + 1, cap', some ⟨g, 0, none⟩, by have := H3.out; omega, by have := HN.out; omega, rfl, by go_num, by rw [HS.out]; simpa using HO2, HB3⟩
    case measure => have := H3.out; simp [intOf]; omega
  ·have f1 : ¬ (k : Int) < 12 := by omega
   obtain rfl : k = 12 := by omega
   clear hlt hk
   obtain ⟨a', cap', e, _, _, hr⟩ := HO.out.row
   injection e with e1 e2 e3
   subst e1 e3
   have HPw := Lib.hid (HP.out.more HB.out)
   have hbb : b < w.heap.size := HP.out.lt
   have HGE : Hid (∀ y, a = some y → w.heap.size ≤ y.block) := Lib.hid fun y e => by
    rcases HO.out.2 with ⟨e3, hn0⟩ | ⟨g, c, cur, e3, hg, _⟩
    ·rw [e] at e3; cases e3
    ·injection e3 with e3
     rw [e] at e3
     injection e3 with e3
     subst e3
     exact hg
   have HRW : Hid (RowK .i64 (wr.setRow b (vCells s m noD).toArray) wr.heap.size a n (dirtL D 12)) := Lib.hid ⟨hr.1, fun i hi => by
    obtain ⟨x, e, hx, hc⟩ := hr.2 i hi
    refine ⟨x, e, hx, ?_⟩
    rw [World.cell?_of_block (w := wr)]
    ·exact hc
    ·rw [block_of_add]
     refine setRow_other _ _ _ _ (fun e2 => ?_)
     rcases HO.out.2 with ⟨e3, hn0⟩ | ⟨g, c, cur, e3, hg, _⟩
     ·omega
     ·injection e3 with e3
      rw [e] at e3
      injection e3 with e3
      subst e3
      simp at e2
      omega⟩
   have HK : Hid (Kq [b] w (wr.setRow b (vCells s m noD).toArray)) := Lib.hid (Kq.setRow (Kq.of_below HB.out) b _ (by simp))
   have HPN := Lib.hid HPw.out.wiped
   have HLE : Hid (wr.heap.size = (wr.setRow b (vCells s m noD).toArray).heap.size) := Lib.hid (size_setRow _ _ _).symm
   clear hr hbb
   go_upto_region 10 with fail
   refine wp_region_lit ?_
   refine Great.wpList_readTo rfl _ rfl (.pointer (some ⟨b, 0, none⟩)) (by kernel_rfl) ?_
   refine wpList_buildTo rfl 67 _ rfl _ rfl noDv.toArray (by kernel_rfl) ?_
   refine Great.wpList_readTo rfl _ rfl (.pointer (some ⟨b, 0, none⟩)) (by kernel_rfl) ?_
   refine Great.wpList_readTo rfl _ rfl (.pointer (some ⟨b, 2, none⟩)) (by kernel_rfl) ?_
   refine wpList_store_cells rfl 67 _ _ rfl b 2 84 (vCells s m D) noDv (by kernel_rfl) (by kernel_rfl) HPw.out.blk (by kernel_rfl) (vCells_len s m D HD.out) noDv_one ?_
   rw [vCells_wipe s m D HD.out]
   generalize wr.setRow b (vCells s m noD).toArray = W at HRW HK HPN HLE ⊢
   go_wp2
   go_ret
   exact ⟨a, n, ⟨cap, rfl⟩, Lib.hid ⟨by rw [← HLE.out]; exact HRW.out, HGE.out⟩, HPN.out, HK.out⟩
end
end Go.Proofs.YteaincdeoajkeaaGreatDoor.Vw
namespace Go.Proofs.YteaincdeoajkeaaGreatDoor.Mm
open Go.RowKit Go.Shelf Ut Oc Vw Wa
open Sw (Ln tabL ownP fillS)
open Sb (Rc findL withoutL)
set_option linter.unusedVariables false
set_option maxRecDepth 100000
set_option maxHeartbeats 8000000

theorem dirt_mem {D : List Bool} {z : Int} (h : z ∈ dirtL D 12) : ∃ p : Nat, z = p ∧ p < 12 ∧ dF D z = true := by
 unfold dirtL at h
 obtain ⟨i, hi, rfl⟩ := List.mem_map.1 h
 obtain ⟨h1, h2⟩ := List.mem_filter.1 hi
 refine ⟨i, rfl, List.mem_range.1 h1, ?_⟩
 unfold dF
 rw [Int.toNat_natCast, h2]
 simp
theorem mem_dirt {D : List Bool} {z : Int} (h : dF D z = true) (hz : z < 12) : z ∈ dirtL D 12 := by
 unfold dF at h
 simp only [Bool.and_eq_true, decide_eq_true_eq] at h
 unfold dirtL
 exact List.mem_map.2 ⟨z.toNat, List.mem_filter.2 ⟨List.mem_range.2 (by omega), h.2⟩, by omega⟩
section
variable {W : World} {u t g b s m : Nat} {S : List Int} {L : List Gm.Pl} {D : List Bool} {l : List Ln} {q : List Rc} {Y : List Gm.Pl}
/-- what heed leaves, behind i of the pages that were written -/
def HdR (W : World) (u t g b s m : Nat) (S : List Int) (L : List Gm.Pl) (Y : List Gm.Pl) (l : List Ln) (q : List Rc) (ds : List Int) (i : Nat) : Prop :=
 ∃ l' q', ST W u t g b s m S L noD l' q' Y ∧ Forg l q l' q' ∧ (∀ z : Int, z ∈ ds.take i → z < 8 → ∀ x ∈ l', x.by_ z = false) ∧ (i = 0 → l' = l ∧ q' = q)
theorem HdR.next {W' : World} {ds : List Int} {i : Nat} {l1 : List Ln} {q1 : List Rc} {z : Int} {p : Nat} (hf : Forg l q l1 q1) (hc : ∀ z : Int, z ∈ ds.take i → z < 8 → ∀ x ∈ l1, x.by_ z = false) (hi : i < ds.length) (hz : ds.getD i 0 = z) (hp : z = p) (h : WrR W' u t g b s m S L noD Y l1 q1 (fun z => z = p ∧ p < 8)) : HdR W' u t g b s m S L Y l q ds (i + 1) := by
 obtain ⟨l2, q2, h1, h2, h3⟩ := h
 refine ⟨l2, q2, h1, hf.trans h2, fun y hy hy8 x hx => ?_, fun e => by omega⟩
 rw [List.take_add_one, List.getElem?_eq_getElem hi] at hy
 rcases List.mem_append.1 hy with hy | hy
 ·exact hc y hy hy8 x (h2.mem hx)
 ·have e : ds[i] = z := by rw [← hz, List.getD_eq_getElem?_getD, List.getElem?_eq_getElem hi]; rfl
  have e2 : y = z := by simpa [e] using hy
  exact h3 y ⟨e2.trans hp, by omega⟩ x hx
theorem heed20_any (h : ST W u t g b s m S L D l q Y) :
  Calls Tryz.prog 37 #[.pointer (some ⟨u, 0, none⟩)] W fun e w' => e = .returned (.tuple #[]) ∧ Hid (∃ Y', HdR w' u t g b s m S L Y' l q (dirtL D 12) (dirtL D 12).length) ∧ Kq [b, u, t, g] W w' := by
 have HDI := Lib.hid (dirty_new W h.pv)
 have HST := Lib.hid h
 have hno : t ≠ b ∧ g ≠ b := ⟨by have := h.bt; omega, by have := h.bg; omega⟩
 have HNO := Lib.hid hno
 have HTG : Hid (t < W.heap.size ∧ g < W.heap.size ∧ u < W.heap.size) := Lib.hid ⟨h.tl.lt, h.sh.lt, h.lt⟩
 have u0 := h.cell0
 have ul := h.lt
 have HDM : Hid (∀ z ∈ dirtL D 12, ∃ p : Nat, z = p ∧ p < 12) := Lib.hid fun z hz => by
  obtain ⟨p, h1, h2, _⟩ := dirt_mem hz
  exact ⟨p, h1, h2⟩
 clear h hno
 have hd12 : (dirtL D 12).length ≤ 12 := by
  unfold dirtL
  rw [List.length_map]
  exact Nat.le_trans (List.length_filter_le _ _) (by rw [List.length_range]; exact Nat.le_refl _)
 generalize dirtL D 12 = ds at HDI HDM hd12 ⊢
 have HD12 := Lib.hid hd12
 clear hd12
 go_enter Tryz.func37, Tryz.ntmps37
 go_wp2_with fail
 refine HDI.out.mono ?_
 rintro e w1 ⟨a, n, cap, rfl, HRA, hpv1, hk1⟩
 have HRW : Hid (RowK .i64 w1 w1.heap.size a n ds) := Lib.hid HRA.out.1
 have HRG : Hid (∀ y, a = some y → W.heap.size ≤ y.block) := Lib.hid HRA.out.2
 have HS0 : Hid (HdR w1 u t g b s m S L Y l q ds 0) := Lib.hid ⟨l, q, HST.out.view hk1 (fun x hx => by simp at hx; exact .inl hx) hpv1 HST.out.lay, Forg.refl _ _, fun z hz => by simp at hz, fun _ => ⟨rfl, rfl⟩⟩
 have HK0 := Lib.hid (hk1.more (T' := [b, t, g]) (by simp))
 have HLN : Hid (ds.length = n) := Lib.hid HRW.out.1
 have n0 : (0 : Int) ≤ (n : Int) := by omega
 have n12 : n ≤ 12 := by have h1 := HD12.out; have h2 := HLN.out; omega
 clear hpv1 hk1 HRA HDI HST u0 ul
 go_wp2
 go_loopw [11] (fun j wr => ∃ i : Nat, i ≤ n ∧ j = .int .i64 i ∧ Hid (HdR wr u t g b s m S L Y l q ds i) ∧ Hid (Kq [b, t, g] W wr) ∧ Hid (RowK .i64 wr wr.heap.size a n ds)) (fun j _ => n - (intOf j).toNat)
 case atStart => exact ⟨0, Nat.zero_le _, rfl, HS0, HK0, HRW⟩
 case round =>
  clear HS0 HK0 HRW
  obtain ⟨i, hi, rfl, HS, HQ, HR⟩ := hrel
  by_cases hin : i < n
  ·have f0 : (i : Int) < (n : Int) := by omega
   have f1 : (0 : Int) ≤ (i : Int) := by omega
   have H3 := Lib.hid hin
   obtain ⟨x, rfl, hxb, hxc⟩ := HR.out.2 i hin
   obtain ⟨z, hz⟩ : ∃ z, ds.getD i 0 = z := ⟨_, rfl⟩
   rw [hz] at hxc
   obtain ⟨p, hzp, hp12⟩ := HDM.out z (by
    rw [← hz, List.getD_eq_getElem?_getD, List.getElem?_eq_getElem (by rw [HLN.out]; exact hin)]
    exact List.getElem_mem _)
   obtain ⟨l1, q1, hs1, hf1, hc1, _⟩ := HS.out
   have HW1 := Lib.hid (wrote20_any p hp12 hs1)
   have HNX : Hid (∀ W', WrR W' u t g b s m S L noD Y l1 q1 (fun z => z = p ∧ p < 8) → HdR W' u t g b s m S L Y l q ds (i + 1)) := Lib.hid fun W' hW => HdR.next hf1 hc1 (by rw [HLN.out]; exact hin) hz hzp hW
   subst hzp
   have HXB := Lib.hid hxb
   clear hz hp12 hs1 hf1 hc1 HS hin hi
   have hxb2 : (x.add i).block < wr.heap.size := by rw [block_of_add]; exact hxb
   go_wp2_with fail
   refine HW1.out.mono ?_
   rintro e w3 ⟨rfl, hw3, hk3⟩
   have HS3 := Lib.hid (HNX.out _ hw3.out)
   have HQ3 := Lib.hid (HQ.out.trans (hk3.more (T' := [b, t, g]) (fun z hz => by simp at hz ⊢; rcases hz with h | h <;> simp [h])))
   have HR3 : Hid (RowK .i64 w3 w3.heap.size (some x) n ds) := Lib.hid ⟨HR.out.1, fun j hj => by
    obtain ⟨y, e, hy, hc⟩ := HR.out.2 j hj
    refine ⟨y, e, Nat.lt_of_lt_of_le hy hk3.size, ?_⟩
    rw [World.cell?_of_block (w := wr)]
    ·exact hc
    ·rw [block_of_add]
     have h1 := HRG.out y e
     have h2 := HTG.out
     exact hk3.block _ hy (by simp; omega)⟩
   clear hw3 hk3 HW1 HNX HQ HR hxb hxb2 hxc
   go_wp2
   go_roundw
   case rel => exact ⟨i + 1, by have := H3.out; omega, by first | rfl | (simp; done), HS3, HQ3, HR3⟩
   case measure => have := H3.out; simp [intOf]; omega
  ·have hne : ¬ (i : Int) < (n : Int) := by omega
   obtain rfl : i = n := by omega
   clear HR HDM HRG hi hin
   have HS0 : Hid (∃ Y', HdR wr u t g b s m S L Y' l q ds i) := Lib.hid ⟨Y, HS.out⟩
   have HQ0 := Lib.hid (HQ.out.more (T' := [b, u, t, g]) (fun z hz => by simp at hz ⊢; rcases hz with h | h | h <;> simp [h]))
   clear HS HQ
   go_wp2
   go_loopw [19] (fun j wr => ∃ k : Nat, k ≤ 12 ∧ j = .int .i64 k ∧ Hid (∃ Y', HdR wr u t g b s m S L Y' l q ds i) ∧ Hid (Kq [b, u, t, g] W wr)) (fun j _ => 12 - (intOf j).toNat)
   case atStart => exact ⟨0, Nat.zero_le _, rfl, HS0, HQ0⟩
   case round =>
    clear HS0 HQ0
    obtain ⟨k, hk, rfl, HS, HQ⟩ := hrel
    by_cases hin : k < 12
    ·have g0 : (k : Int) < 12 := by omega
     have g1 : (0 : Int) ≤ (k : Int) := by omega
     have H3 := Lib.hid hin
     obtain ⟨Y1, l1, q1, hs1, hf1, hc1, hz1⟩ := HS.out
     have u0 := hs1.cell0
     have ul := hs1.lt
     obtain ⟨c0, c1⟩ := hs1.lay_at k hin
     have f0 := hs1.blk.frozen (3 + k * 2)
     have f1 := hs1.blk.frozen (3 + k * 2 + 1)
     obtain ⟨pl, hpl⟩ : ∃ pl, Gm.atP L k = pl := ⟨_, rfl⟩
     obtain ⟨tb, htb⟩ : ∃ tb, Gm.thB pl = tb := ⟨_, rfl⟩
     have HMP : Hid (∀ w', ST w' u t g b s m S L noD l1 q1 Y1 → Calls Tryz.prog 15 #[.pointer (some ⟨b, 0, none⟩)] w' fun e w'' => e = .returned (.pointer (some ⟨m, 0, none⟩)) ∧ w' = w'') := Lib.hid fun w' hw' => map_any w' hw'.pv
     have HGP : Hid (∀ w', ST w' u t g b s m S L noD l1 q1 Y1 → Calls Tryz.prog 16 #[.pointer (some ⟨m, 0, none⟩), .int .i64 k] w' fun e w'' => e = .returned (.tuple #[Gm.plV pl, .bool tb]) ∧ Below w'.heap.size w' w'') := Lib.hid fun w' hw' => Gm.get_any m L k pl _ hpl htb w' hw'.pv.mp
     have HS1 := Lib.hid hs1
     have HZ : Hid (∀ Y2 W2, ST W2 u t g b s m S L noD l1 q1 Y2 → ∃ Y', HdR W2 u t g b s m S L Y' l q ds i) := Lib.hid fun Y2 W2 h2 => ⟨Y2, l1, q1, h2, hf1, hc1, hz1⟩
     obtain ⟨x0, x1⟩ := pl
     unfold Gm.plV at HGP
     dsimp only at HGP
     clear hs1 hf1 hc1 hz1 hpl htb HS hin hk
     go_upto_region 8 with fail
     apply wp_region_xa [23, 24, 25, 26, 27, 28, 29, 30, 31, 22, 32, 33, 34, 35, 36, 99] [_, _, _, _, _, _, _, _, _, _, _, _, _, _, _, undef] [] (fun L_ x_ W' => Kq [u] wr W' ∧ (L_ 15 = false → ST W' u t g b s m S L noD l1 q1 Y1) ∧ (L_ 15 = true → ∃ Y2, ST W' u t g b s m S L noD l1 q1 Y2))
     case hm => kernel_rfl
     case hT => intro y; simp only [setAll, List.setIfInBounds_toArray, List.set_cons_succ, List.set_cons_zero, List.set_nil]; exact rfl
     case hok => kernel_rfl
     case hw => exact (fun L_ x_ h0 => ⟨Kq.of_below ((Below.refl _ _).drew), fun _ => HS1.out.more ((Below.refl _ _).drew), fun h => absurd h (by rw [h0 15 (by decide)]; decide)⟩)
     case hs =>
      refine xa_op 23 [] (by kernel_rfl) (fun L y w' hL hC HW hd K hK => ?_) ?_
      ·go_simp
       refine hK _ _ ?_ ?_ HW
       ·simp [upd]
       ·exact rfl
      refine xa_op 24 [] (by kernel_rfl) (fun L y w' hL hC HW hd K hK => ?_) ?_
      ·go_simp
       refine hK _ _ ?_ ?_ HW
       ·simp [upd]
       ·exact rfl
      refine xa_op 25 [] (by kernel_rfl) (fun L y w' hL hC HW hd K hK => ?_) ?_
      ·go_simp
       refine hK _ _ ?_ ?_ HW
       ·simp [upd]
       ·exact rfl
      refine xa_op 26 [2] (by kernel_rfl) (fun L y w' hL hC HW hd K hK => ?_) ?_
      ·have e2 := xR_nth (hd 2 (by simp)).2 rfl rfl
       go_simp
       refine hK _ _ ?_ ?_ HW
       ·simp [upd, e2]
       ·exact rfl
      refine xa_op 27 [3] (by kernel_rfl) (fun L y w' hL hC HW hd K hK => ?_) ?_
      ·have e3 := xR_nth (hd 3 (by simp)).2 rfl rfl
       go_simp
       refine hK _ _ ?_ ?_ HW
       ·simp [upd, e3]
       ·exact rfl
      refine xa_op 28 [4] (by kernel_rfl) (fun L y w' hL hC HW hd K hK => ?_) ?_
      ·have e4 := xR_nth (hd 4 (by simp)).2 rfl rfl
       have hs := HW.2.1 (hC.not' 15 5 (by kernel_rfl) hL)
       have u0 := hs.cell0
       have ul := hs.lt
       go_simp
       refine hK _ _ ?_ ?_ HW
       ·simp [upd, e4]
       ·exact rfl
      refine xa_op 29 [5] (by kernel_rfl) (fun L y w' hL hC HW hd K hK => ?_) ?_
      ·have e5 := xR_nth (hd 5 (by simp)).2 rfl rfl
       go_simp
       have hs := HW.2.1 (hC.not' 15 6 (by kernel_rfl) hL)
       refine (HMP.out _ hs).mono ?_
       rintro e w3 ⟨rfl, rfl⟩
       refine hK _ _ ?_ ?_ HW
       ·simp [upd, e5]
       ·exact rfl
      refine xa_op 30 [] (by kernel_rfl) (fun L y w' hL hC HW hd K hK => ?_) ?_
      ·go_simp
       refine hK _ _ ?_ ?_ HW
       ·simp [upd]
       ·exact rfl
      refine xa_op 31 [6, 7, 6] (by kernel_rfl) (fun L y w' hL hC HW hd K hK => ?_) ?_
      ·have e6 := xR_nth (hd 6 (by simp)).2 rfl rfl
       have e7 := xR_nth (hd 7 (by simp)).2 rfl rfl
       go_simp
       have h15 := hC.not' 15 8 (by kernel_rfl) hL
       have hs := HW.2.1 h15
       refine (HGP.out _ hs).mono ?_
       rintro e w3 ⟨rfl, hb3⟩
       refine hK _ _ ?_ ?_ ⟨HW.1.trans (Kq.of_below hb3), fun _ => hs.more hb3, fun h => absurd (show L 15 = true from h) (by rw [h15]; decide)⟩
       ·simp [upd, e6, e7]
       ·exact rfl
      refine xa_op 22 [8] (by kernel_rfl) (fun L y w' hL hC HW hd K hK => ?_) ?_
      ·have e8 := xR_nth (hd 8 (by simp)).2 rfl rfl
       go_simp
       refine hK _ _ ?_ ?_ HW
       ·simp [upd, e8]
       ·exact rfl
      refine xa_op 32 [9] (by kernel_rfl) (fun L y w' hL hC HW hd K hK => ?_) ?_
      ·have e9 := xR_nth (hd 9 (by simp)).2 rfl rfl
       go_simp
       refine hK _ _ ?_ ?_ HW
       ·simp [upd, e9]
       ·exact rfl
      refine xa_op 33 [9] (by kernel_rfl) (fun L y w' hL hC HW hd K hK => ?_) ?_
      ·have e9 := xR_nth (hd 9 (by simp)).2 rfl rfl
       go_simp
       refine hK _ _ ?_ ?_ HW
       ·simp [upd, e9]
       ·exact rfl
      refine xa_op 34 [0] (by kernel_rfl) (fun L y w' hL hC HW hd K hK => ?_) ?_
      ·have e0 := xR_nth (hd 0 (by simp)).2 rfl rfl
       go_simp
       refine hK _ _ ?_ ?_ HW
       ·simp [upd, e0]
       ·exact rfl
      refine xa_op 35 [12] (by kernel_rfl) (fun L y w' hL hC HW hd K hK => ?_) ?_
      ·have e12 := xR_nth (hd 12 (by simp)).2 rfl rfl
       go_simp
       refine hK _ _ ?_ ?_ HW
       ·simp [upd, e12]
       ·exact rfl
      refine xa_op 36 [13, 1, 0, 1, 2, 3, 4, 5, 6, 7, 8, 9, 10] (by kernel_rfl) (fun L y w' hL hC HW hd K hK => ?_) ?_
      ·have e0 := xR_nth (hd 0 (by simp)).2 rfl rfl
       have e1 := xR_nth (hd 1 (by simp)).2 rfl rfl
       have e2 := xR_nth (hd 2 (by simp)).2 rfl rfl
       have e3 := xR_nth (hd 3 (by simp)).2 rfl rfl
       have e4 := xR_nth (hd 4 (by simp)).2 rfl rfl
       have e5 := xR_nth (hd 5 (by simp)).2 rfl rfl
       have e6 := xR_nth (hd 6 (by simp)).2 rfl rfl
       have e7 := xR_nth (hd 7 (by simp)).2 rfl rfl
       have e8 := xR_nth (hd 8 (by simp)).2 rfl rfl
       have e9 := xR_nth (hd 9 (by simp)).2 rfl rfl
       have e10 := xR_nth (hd 10 (by simp)).2 rfl rfl
       have e13 := xR_nth (hd 13 (by simp)).2 rfl rfl
       go_simp
       refine hK _ _ ?_ ?_ HW
       ·simp [upd, e0, e1, e2, e3, e4, e5, e6, e7, e8, e9, e10, e13]
       ·exact rfl
      refine xa_op 99 [14, 10, 8, 0, 1, 2, 3, 4, 5, 6, 7, 8, 9, 10] (by kernel_rfl) (fun L y w' hL hC HW hd K hK => ?_) ?_
      ·have e0 := xR_nth (hd 0 (by simp)).2 rfl rfl
       have e1 := xR_nth (hd 1 (by simp)).2 rfl rfl
       have e2 := xR_nth (hd 2 (by simp)).2 rfl rfl
       have e3 := xR_nth (hd 3 (by simp)).2 rfl rfl
       have e4 := xR_nth (hd 4 (by simp)).2 rfl rfl
       have e5 := xR_nth (hd 5 (by simp)).2 rfl rfl
       have e6 := xR_nth (hd 6 (by simp)).2 rfl rfl
       have e7 := xR_nth (hd 7 (by simp)).2 rfl rfl
       have e8 := xR_nth (hd 8 (by simp)).2 rfl rfl
       have e9 := xR_nth (hd 9 (by simp)).2 rfl rfl
       have e10 := xR_nth (hd 10 (by simp)).2 rfl rfl
       have e14 := xR_nth (hd 14 (by simp)).2 rfl rfl
       have hs := HW.2.1 hL
       obtain ⟨c0, c1⟩ := hs.lay_at k H3.out
       have f0 := hs.blk.frozen (3 + k * 2)
       have f1 := hs.blk.frozen (3 + k * 2 + 1)
       have ul := hs.lt
       go_simp
       refine hK _ _ ?_ ?_ ⟨(HW.1.setCell u (3 + k * 2) (.int .i64 x0) (.inl (by simp))).setCell u (3 + k * 2 + 1) (.int .i64 x1) (.inl (by simp)), fun h => absurd h (by simp), fun _ => ⟨_, hs.lay_set k H3.out (x0, x1)⟩⟩
       ·simp [upd, e0, e1, e2, e3, e4, e5, e6, e7, e8, e9, e10, e14]
       ·exact rfl
      exact xa_nil
     case he =>
      intro L y w' hLs HW hd
      have e0 := xR_nth (hd 0 (by decide)) rfl rfl
      have e1 := xR_nth (hd 1 (by decide)) rfl rfl
      have e2 := xR_nth (hd 2 (by decide)) rfl rfl
      have e3 := xR_nth (hd 3 (by decide)) rfl rfl
      have e4 := xR_nth (hd 4 (by decide)) rfl rfl
      have e5 := xR_nth (hd 5 (by decide)) rfl rfl
      have e6 := xR_nth (hd 6 (by decide)) rfl rfl
      have e7 := xR_nth (hd 7 (by decide)) rfl rfl
      have e8 := xR_nth (hd 8 (by decide)) rfl rfl
      have e9 := xR_nth (hd 9 (by decide)) rfl rfl
      have e10 := xR_nth (hd 10 (by decide)) rfl rfl
      have e11 := xR_nth (hd 11 (by decide)) rfl rfl
      have e12 := xR_nth (hd 12 (by decide)) rfl rfl
      have e13 := xR_nth (hd 13 (by decide)) rfl rfl
      have e14 := xR_nth (hd 14 (by decide)) rfl rfl
      obtain ⟨Y2, hy2⟩ := HW.2.2 (hLs 15 (by decide))
      have HS9 := Lib.hid (HZ.out _ _ hy2)
      have HQ9 := Lib.hid (HQ.out.trans (HW.1.more (T' := [b, u, t, g]) (by simp)))
      clear hy2 HMP HGP HS1 HZ HQ u0 ul c0 c1 f0 f1 HW
      simp only [e0, e1, e2, e3, e4, e5, e6, e7, e8, e9, e10, e11, e12, e13, e14]
      clear hd hLs e0 e1 e2 e3 e4 e5 e6 e7 e8 e9 e10 e11 e12 e13 e14
      go_wp2
      go_roundw
      case rel => exact ⟨k + 1, by have := H3.out; omega, by first | rfl | (simp; done), HS9, HQ9⟩
      case measure => have := H3.out; simp [intOf]; omega
    ·have hne2 : ¬ (k : Int) < 12 := by omega
     clear hk hin
     go_wp2
     go_end0
     exact ⟨rfl, by rw [HLN.out]; exact HS, HQ.out⟩
end
end Go.Proofs.YteaincdeoajkeaaGreatDoor.Mm
end
section
/- Stage 20, plainly: what is kept anew leaves all right; what is remembered says what a walk says; what heed leaves. -/
namespace Go.Proofs.YteaincdeoajkeaaGreatDoor.Mm
open Go.RowKit Go.Shelf Ut Oc Vw Wa
open Sw (Ln tabL ownP fillS addS withS clrS Inv19 KeyU kyS ErW toldS tellB narZ findS entS)
open Sb (Rc findL withoutL narL narX hadB)
set_option linter.unusedVariables false
set_option maxRecDepth 100000

theorem sub16 : ((List.range 16).all fun y => (List.range 16).all fun x => !((List.range 16).all fun m => !Pe.bitB (y : Nat) m || Pe.bitB (x : Nat) m) || (Pe.bitB (y : Nat) 2 || (List.range 16).all fun m => !Pe.bitB (y : Nat) m || Pe.bitB (bits .andNot .i64 ((x : Nat) : Int) 2) m)) = true := by decide +kernel
/-- without the right to write, what is taken of it is no matter -/
theorem sub_clr {y x : Int} (hy0 : 0 ≤ y) (hy1 : y < 16) (hx0 : 0 ≤ x) (hx1 : x < 16) (h : SubR y x) (h2 : Pe.bitB y 2 = false) : SubR y (bits .andNot .i64 x 2) := fun m hm e => by
 obtain ⟨a, rfl⟩ : ∃ a : Nat, y = a := ⟨y.toNat, by omega⟩
 obtain ⟨b, rfl⟩ : ∃ b : Nat, x = b := ⟨x.toNat, by omega⟩
 have k := (List.all_eq_true.1 ((List.all_eq_true.1 sub16) a (List.mem_range.2 (by omega)))) b (List.mem_range.2 (by omega))
 rw [h2, Bool.false_or, Bool.or_eq_true] at k
 rcases k with k | k
 ·exfalso
  rw [Bool.not_eq_true', ← Bool.not_eq_true, List.all_eq_true] at k
  refine k fun i hi => ?_
  have := h i (List.mem_range.1 hi)
  cases hb : Pe.bitB (a : Int) i
  ·rfl
  ·rw [this hb]; rfl
 ·have := (List.all_eq_true.1 k) m (List.mem_range.2 hm)
  rw [e] at this
  simpa using this
theorem nar_x {x : Rc} (pg : Int) (h0 : 0 ≤ x.er) (h1 : x.er < 16) : (narX pg x).kr = x.kr ∧ (narX pg x).kp = x.kp ∧ (narX pg x).ep = x.ep ∧ (narX pg x).ef = x.ef ∧ SubR (narX pg x).er x.er ∧ 0 ≤ (narX pg x).er ∧ (narX pg x).er < 16 ∧ (x.ep = pg → Pe.bitB (narX pg x).er 2 = false) := by
 have b2 := bit_and x.er 2 (by decide)
 by_cases h : hadB x pg = true
 ·obtain ⟨e, _⟩ := Sb.nar_had h
  rw [e]
  obtain ⟨c0, c1, c2, c3, _⟩ := clr_er h0 h1
  exact ⟨rfl, rfl, rfl, rfl, c3, c0, c1, fun _ => c2⟩
 ·rw [Bool.not_eq_true] at h
  rw [Sb.nar_not h]
  refine ⟨rfl, rfl, rfl, rfl, SubR.refl _, h0, h1, fun e => ?_⟩
  unfold hadB at h
  rw [e] at h
  have b2' : (bits .and .i64 x.er 2 == 0) = !Pe.bitB x.er 2 := b2
  rw [b2'] at h
  simpa using h
theorem narAll_mem (ps : List (List Int)) : ∀ (q : List Rc), (∀ y ∈ q, 0 ≤ y.er ∧ y.er < 16) → ∀ y ∈ narAll q ps, ∃ x ∈ q, y.kr = x.kr ∧ y.kp = x.kp ∧ y.ep = x.ep ∧ y.ef = x.ef ∧ SubR y.er x.er ∧ 0 ≤ y.er ∧ y.er < 16 ∧ ∀ p : Int, [p] ∈ ps → y.ep = p → Pe.bitB y.er 2 = false := by
 induction ps with
 | nil => exact fun q hq y hy => ⟨y, hy, rfl, rfl, rfl, rfl, SubR.refl _, (hq y hy).1, (hq y hy).2, fun p hp => by cases hp⟩
 | cons p ps ih =>
  intro q hq y hy
  have hq2 : ∀ y ∈ narL q (p.getD 0 0), 0 ≤ y.er ∧ y.er < 16 := fun y hy => by
   obtain ⟨x, hx, rfl⟩ := List.mem_map.1 hy
   have := nar_x (p.getD 0 0) (hq x hx).1 (hq x hx).2
   exact ⟨this.2.2.2.2.2.1, this.2.2.2.2.2.2.1⟩
  obtain ⟨x, hx, e1, e2, e3, e4, e5, e6, e7, e8⟩ := ih (narL q (p.getD 0 0)) hq2 y hy
  obtain ⟨v, hv, rfl⟩ := List.mem_map.1 hx
  obtain ⟨n1, n2, n3, n4, n5, _, _, n8⟩ := nar_x (p.getD 0 0) (hq v hv).1 (hq v hv).2
  refine ⟨v, hv, e1.trans n1, e2.trans n2, e3.trans n3, e4.trans n4, e5.trans n5, e6, e7, fun r hr hy2 => ?_⟩
  rcases List.mem_cons.1 hr with h | h
  ·subst h
   have h2 := n8 (by rw [← n3, ← e3]; exact hy2)
   cases hb : Pe.bitB y.er 2 with
   | false => rfl
   | true => rw [e5 2 (by decide) hb] at h2; cases h2
  ·exact e8 r h hy2
section
variable {S : List Int} {L : List Gm.Pl} {F : Int → Bool} {l : List Ln} {q : List Rc}
theorem add_mem {l : List Ln} {x y : Ln} (hn : l.length ≤ 32) (h : y ∈ addS l x) : y = x ∨ (y ∈ l ∧ ¬ (y.kr = x.kr ∧ y.kp = x.kp)) := by
 obtain ⟨ws, e, hs, _⟩ := Sw.add_split l x hn
 rw [e] at h
 rcases List.mem_append.1 h with h | h
 ·obtain ⟨h1, h2⟩ := List.mem_filter.1 (hs.subset h)
  refine .inr ⟨h1, fun e => ?_⟩
  unfold Ln.is at h2
  simp [e] at h2
 ·exact .inl (by simpa using h)
theorem key_one {l : List Ln} (h : KeyU l) {x y : Ln} (hx : x ∈ l) (hy : y ∈ l) (e1 : x.kr = y.kr) (e2 : x.kp = y.kp) : x = y := by
 have hk : kyS x = kyS y := by unfold kyS; rw [e1, e2]
 unfold KeyU at h
 induction l with
 | nil => cases hx
 | cons a l ih =>
  rw [List.map_cons, List.nodup_cons] at h
  rcases List.mem_cons.1 hx with e | hx2
  ·subst e
   rcases List.mem_cons.1 hy with e | hy2
   ·exact e.symm
   ·exact absurd (show kyS x ∈ l.map kyS from List.mem_map.2 ⟨y, hy2, hk.symm⟩) h.1
  ·rcases List.mem_cons.1 hy with e | hy2
   ·subst e
    exact absurd (show kyS y ∈ l.map kyS from List.mem_map.2 ⟨x, hx2, hk⟩) h.1
   ·exact ih h.2 hx2 hy2
theorem narZ_eq (m : List Ln) (z : Ln) : (narZ m z).kr = z.kr ∧ (narZ m z).kp = z.kp ∧ (narZ m z).ep = z.ep ∧ (narZ m z).ef = z.ef ∧ (narZ m z).rt = z.rt ∧ (narZ m z).lf = z.lf := by
 unfold narZ
 split <;> exact ⟨rfl, rfl, rfl, rfl, rfl, rfl⟩
theorem narZ_er (m : List Ln) (z : Ln) (h0 : 0 ≤ z.er) (h1 : z.er < 16) : 0 ≤ (narZ m z).er ∧ (narZ m z).er < 16 ∧ SubR (narZ m z).er z.er ∧ ∀ k : Nat, k = 1 ∨ k = 4 ∨ k = 8 → Pe.bitB (narZ m z).er k = Pe.bitB z.er k := by
 unfold narZ
 split
 ·obtain ⟨c0, c1, _, c3, c4⟩ := clr_er h0 h1
  exact ⟨c0, c1, c3, c4⟩
 ·exact ⟨h0, h1, SubR.refl _, fun _ _ => rfl⟩
theorem fill_mem (h : Inv S L noE F l q) (x : Ln) {z : Ln} (hz : z ∈ fillS l x) : ∃ y, (y = x ∨ (y ∈ l ∧ ¬ (y.kr = x.kr ∧ y.kp = x.kp))) ∧ z = narZ (addS l x) y := by
 rw [Sw.fill_nar h.i19 h.erW x] at hz
 obtain ⟨y, hy, rfl⟩ := List.mem_map.1 hz
 exact ⟨y, add_mem h.i19.n hy, rfl⟩
theorem Pg.sub {ep ef er er' : Int} (h : Pg L ep ef er) (hs : SubR er' er) : Pg L ep ef er' := ⟨h.th, h.fr, fun k k0 k1 hb => h.al k k0 k1 (hs _ (Pe.kind_lt k) hb)⟩
theorem Inv.keep (h : Inv S L noE F l q) (x : Ln) (he0 : 0 ≤ x.er) (he1 : x.er < 16) (hr : ownP x.rt = true) (hf : ownP x.lf = true) (ht : Tr S L x) (hp : Pg L x.ep x.ef x.er) {q3 : List Rc} (hq : KeepQ (fillS l x) x.kr x.kp (narAll q (toldS l x.rt x.lf 8)) q3) : Inv S L noE F (fillS l x) q3 := by
 have her : ∀ y, (y = x ∨ (y ∈ l ∧ ¬ (y.kr = x.kr ∧ y.kp = x.kp))) → 0 ≤ y.er ∧ y.er < 16 := fun y hy => by
  rcases hy with rfl | ⟨hy, _⟩
  ·exact ⟨he0, he1⟩
  ·exact h.er y hy
 refine ⟨h.i19.fill x, fun z hz => ?_, fun z hz => ?_, fun z hz _ _ f1 f2 => ?_, fun z hz _ => ?_, fun y hy => ?_⟩
 ·obtain ⟨y, hy, rfl⟩ := fill_mem h x hz
  have := narZ_er (addS l x) y (her y hy).1 (her y hy).2
  exact ⟨this.1, this.2.1⟩
 ·obtain ⟨y, hy, rfl⟩ := fill_mem h x hz
  obtain ⟨_, _, _, _, n5, n6⟩ := narZ_eq (addS l x) y
  rw [n5, n6]
  rcases hy with rfl | ⟨hy, _⟩
  ·exact ⟨hr, hf⟩
  ·exact h.own y hy
 ·obtain ⟨y, hy, rfl⟩ := fill_mem h x hz
  obtain ⟨n1, n2, n3, n4, n5, n6⟩ := narZ_eq (addS l x) y
  have hs := (narZ_er (addS l x) y (her y hy).1 (her y hy).2).2.2.1
  rw [n5] at f1
  rw [n6] at f2
  have hty : Tr S L y := by
   rcases hy with rfl | ⟨hy, _⟩
   ·exact ht
   ·exact h.tr y hy rfl rfl f1 f2
  obtain ⟨r, h1, h2⟩ := hty
  refine ⟨r, ?_, hs.trans h2⟩
  rw [n1, n2, n3, n5, n6]
  exact h1
 ·obtain ⟨y, hy, rfl⟩ := fill_mem h x hz
  obtain ⟨n1, n2, n3, n4, n5, n6⟩ := narZ_eq (addS l x) y
  have hs := (narZ_er (addS l x) y (her y hy).1 (her y hy).2).2.2.1
  rw [n3, n4]
  refine Pg.sub ?_ hs
  rcases hy with rfl | ⟨hy, _⟩
  ·exact hp
  ·exact h.pg y hy rfl
 ·obtain ⟨z, hz, hq⟩ := hq
  have hzm : z ∈ fillS l x := List.mem_of_find?_eq_some hz
  rcases hq y hy with rfl | ⟨hy1, hy2, hy3⟩
  ·have hz' : (fillS l x).find? (fun y => y.is x.kr x.kp) = some z := hz
   have hzb : z.is x.kr x.kp = true := by have := List.find?_some (p := fun y : Ln => y.is x.kr x.kp) hz'; simpa using this
   have hzk := Sw.is_iffS.1 hzb
   unfold kyS at hzk
   injection hzk with e1 e2
   obtain ⟨w, hw, rfl⟩ := fill_mem h x hzm
   have hn := narZ_er (addS l x) w (her w hw).1 (her w hw).2
   exact ⟨_, hzm, e1, e2, rfl, rfl, SubR.refl _, hn.1, hn.2.1⟩
  ·obtain ⟨y0, hy0, e1, e2, e3, e4, e5, e6, e7, e8⟩ := narAll_mem _ q (fun y hy => by
    obtain ⟨_, _, _, _, _, _, _, h6, h7⟩ := h.tl y hy
    exact ⟨h6, h7⟩) y hy1
   obtain ⟨x0, hx0, g1, g2, g3, g4, g5, g6, g7⟩ := h.tl y0 hy0
   obtain ⟨v, hv⟩ := Option.isSome_iff_exists.1 hy2
   have hvm : v ∈ fillS l x := List.mem_of_find?_eq_some hv
   have hv' : (fillS l x).find? (fun w => w.is y.kr y.kp) = some v := hv
   have hvb : v.is y.kr y.kp = true := by have := List.find?_some (p := fun w : Ln => w.is y.kr y.kp) hv'; simpa using this
   have hvk := Sw.is_iffS.1 hvb
   unfold kyS at hvk
   injection hvk with v1 v2
   obtain ⟨w, hw, rfl⟩ := fill_mem h x hvm
   obtain ⟨n1, n2, n3, n4, n5, n6⟩ := narZ_eq (addS l x) w
   rcases hw with rfl | ⟨hw, _⟩
   ·exact absurd ⟨v1.symm.trans n1, v2.symm.trans n2⟩ hy3
   ·obtain rfl : w = x0 := key_one h.i19.u hw hx0 (by rw [← n1, v1, e1, g1]) (by rw [← n2, v2, e2, g2])
    refine ⟨_, hvm, v1, v2, by rw [n3, g3, e3], by rw [n4, g4, e4], ?_, e6, e7⟩
    have hs : SubR y.er w.er := e5.trans g5
    unfold narZ
    split
    ·rename_i htb
     refine sub_clr e6 e7 (h.er w hw).1 (h.er w hw).2 hs ?_
     -- it leads to a table: it has no right to write
     have hnl : tabL l w.ep = true → Pe.bitB y.er 2 = false := fun htl => by
      have h0 := h.i19.p w hw htl
      have h2 := bit_and w.er 2 (by decide)
      have h2' : (bits .and .i64 w.er 2 == 0) = !Pe.bitB w.er 2 := h2
      rw [h0] at h2'
      have hb : Pe.bitB w.er 2 = false := by simpa using h2'.symm
      cases hy2 : Pe.bitB y.er 2 with
      | false => rfl
      | true => rw [hs 2 (by decide) hy2] at hb; cases hb
     by_cases htl : tabL l w.ep = true
     ·exact hnl htl
     ·obtain ⟨ws, e, hsub, _⟩ := Sw.add_split l x h.i19.n
      rw [e, Sw.tab_iff] at htb
      obtain ⟨v, hvm2, hvt⟩ := htb
      rcases List.mem_append.1 hvm2 with hvm2 | hvm2
      ·exact absurd (Sw.tab_iff.2 ⟨v, (List.mem_filter.1 (hsub.subset hvm2)).1, hvt⟩) htl
      ·obtain rfl : v = x := by simpa using hvm2
       refine e8 w.ep ?_ (by rw [e3, g3])
       have hb : 0 ≤ w.ep ∧ w.ep < 8 := by
        unfold ownP at hr hf
        simp at hr hf
        rcases hvt with h | h <;> rw [← h] <;> omega
       unfold toldS
       refine List.mem_map.2 ⟨w.ep.toNat, List.mem_filter.2 ⟨List.mem_range.2 (by omega), ?_⟩, by rw [Int.toNat_of_nonneg hb.1]⟩
       unfold tellB
       rw [Int.toNat_of_nonneg hb.1]
       rw [Bool.not_eq_true] at htl
       rw [htl]
       rcases hvt with h | h <;> simp [h]
    ·exact hs
/-- what is remembered says what a walk says -/
theorem Inv.fast (h : Inv S L noE noE l q) (hL : Lay L) {x : Ln} (hx : x ∈ l) {er k z : Int} {us : Bool} (hs : SubR er x.er) (h0 : 0 ≤ z) (hz : z / 64 = x.kp) (ha : Pe.alwB true er k us = true) : locF 12 S L true x.kr us z k = ((x.ep, x.ef, z % 64), 0) := by
 obtain ⟨r, ht, hr⟩ := h.tr x hx rfl rfl rfl rfl
 have hp := h.pg x hx rfl
 unfold Pe.alwB at ha
 rw [Bool.true_and, Bool.and_eq_true] at ha
 have hk : 0 ≤ k ∧ k < 3 := by
  by_cases hk : 0 ≤ k ∧ k < 3
  ·exact hk
  ·have : Pe.kindN k = 0 := by unfold Pe.kindN; rw [if_neg (by omega), if_neg (by omega), if_neg (by omega)]
   rw [this] at ha
   simp [Pe.bitB] at ha
 have ha2 : Pe.alwB true r k us = true := by
  unfold Pe.alwB
  rw [Bool.true_and, Bool.and_eq_true]
  refine ⟨hr _ (Pe.kind_lt k) (hs _ (Pe.kind_lt k) ha.1), ?_⟩
  cases us with
  | false => rfl
  | true =>
   have h8 : Pe.bitB er 8 = true := by simpa using ha.2
   rw [hr 8 (by decide) (hs 8 (by decide) h8)]
   rfl
 rw [ht.loc us z k h0 hz, if_neg (by rw [ha2]; decide)]
 obtain ⟨g0, g1⟩ := ht.g0
 have hal := hp.al k hk.1 hk.2 (hs _ (Pe.kind_lt k) ha.1)
 obtain ⟨f1, f2, _, _, _⟩ := find_there (k := k) hL g0 (Int.emod_nonneg z (by decide)) (Int.emod_lt_of_pos z (by decide)) hp.th
 rw [f1, f2 hal, hal, hp.fr]
/-- what a walk that was made now leaves -/
theorem Inv.walked (h : Inv S L noE noE l q) (hL : Lay L) {rt z k c : Int} {us : Bool} {hh : Int × Int × Int} (h0 : 0 ≤ z) (hc : (locF 12 S L true rt us z k).2 = c) (he : (locF 12 S L true rt us z k).1 = hh) (hz : c = 0) {q3 : List Rc}
  (hq : KeepQ (fillS l ⟨rt, z / 64, hh.1, hh.2.1, giv (walkF 12 S L rt z).r (fun k => Gm.alwF (Gm.atP L (walkF 12 S L rt z).g) (walkF 12 S L rt z).g k), (walkF 12 S L rt z).rt, (walkF 12 S L rt z).lf⟩) rt (z / 64) (narAll q (toldS l (walkF 12 S L rt z).rt (walkF 12 S L rt z).lf 8)) q3) :
  Inv S L noE noE (fillS l ⟨rt, z / 64, hh.1, hh.2.1, giv (walkF 12 S L rt z).r (fun k => Gm.alwF (Gm.atP L (walkF 12 S L rt z).g) (walkF 12 S L rt z).g k), (walkF 12 S L rt z).rt, (walkF 12 S L rt z).lf⟩) q3 := by
 have hc0 := hc.trans hz
 obtain ⟨hf, ha, ht, o1, o2, ho⟩ := loc_zero h0 hc0
 obtain ⟨b0, b1⟩ := r_bound 12 S L rt z
 obtain ⟨g0, g1⟩ := ht.g0
 have hl := ht.loc us z k h0 rfl
 rw [if_neg (by rw [ha]; decide)] at hl
 have hth : Gm.thB (Gm.atP L (walkF 12 S L rt z).g) = true := by
  have h2 := congrArg Prod.snd hl
  rw [hc0] at h2
  dsimp only at h2
  have hff : findF 12 L ((walkF 12 S L rt z).g * 64 + z % 64) 1 k = 0 := h2.symm
  have hfl : fltF L ((walkF 12 S L rt z).g * 64 + z % 64) 1 k = 0 := by
   unfold findF at hff
   by_cases e : fltF L ((walkF 12 S L rt z).g * 64 + z % 64) 1 k = 0
   ·exact e
   ·rw [if_neg e] at hff; exact hff
  have e1 : ((walkF 12 S L rt z).g * 64 + z % 64) / 64 = (walkF 12 S L rt z).g := by omega
  unfold fltF at hfl
  rw [if_pos (by simp [isW, Int.emod_one])] at hfl
  by_cases hb : 768 ≤ (walkF 12 S L rt z).g * 64 + z % 64
  ·rw [if_pos hb] at hfl
   exact absurd hfl (by decide)
  ·rw [if_neg hb, e1] at hfl
   exact alwF_zero hfl
 obtain ⟨f1, f2, _, _, _⟩ := find_there (k := k) hL g0 (Int.emod_nonneg z (by decide)) (Int.emod_lt_of_pos z (by decide)) hth
 have hal : Gm.alwF (Gm.atP L (walkF 12 S L rt z).g) (walkF 12 S L rt z).g k = 0 := by
  have h2 := congrArg Prod.snd hl
  rw [hc0] at h2
  dsimp only at h2
  rw [← f1]
  exact h2.symm
 have hhit : hh = ((walkF 12 S L rt z).g, (Gm.atP L (walkF 12 S L rt z).g).1, z % 64) := by
  have h2 := congrArg Prod.fst hl
  rw [he] at h2
  dsimp only at h2
  rw [h2, f2 hal]
 obtain ⟨v0, v1, v2, v3, _, _⟩ := giv_er (fun k => Gm.alwF (Gm.atP L (walkF 12 S L rt z).g) (walkF 12 S L rt z).g k) b0 b1
 rw [hhit] at hq ⊢
 exact h.keep _ v0 v1 o1 o2 ⟨_, ht, v2⟩ ⟨hth, rfl, fun k k0 k1 hb => v3 k k0 k1 hb⟩ hq
/-- nothing is written that was not heeded -/
theorem dF_no : dF noD = noE := by
 funext p
 unfold dF noE
 have : noD.getD p.toNat false = false := by
  unfold noD
  rw [List.getD_eq_getElem?_getD, List.getElem?_replicate]
  split <;> rfl
 rw [this, Bool.and_false]
theorem Inv.heeded {D : List Bool} {E : Int → Bool} {l' : List Ln} {q' : List Rc} (h : Inv S L E (dF D) l q) (hf : Forg l q l' q') (hc : ∀ z : Int, z ∈ (dirtL D 12).take (dirtL D 12).length → z < 8 → ∀ x ∈ l', x.by_ z = false) : Inv S L E noE l' q' := by
 refine (h.forg hf).clean fun x hx _ _ => ?_
 have h1 : ∀ p : Int, ownP p = true → x.by_ p = true → dF D p = false := fun p hp hb => by
  cases hd : dF D p with
  | false => rfl
  | true =>
   have hp2 : 0 ≤ p ∧ p < 8 := by unfold ownP at hp; simp at hp; omega
   have := hc p (by rw [List.take_length]; exact mem_dirt hd (by omega)) hp2.2 x hx
   rw [hb] at this
   cases this
 have ho := h.own x (hf.mem hx)
 exact ⟨h1 _ ho.1 (by unfold Ln.by_; simp), h1 _ ho.2 (by unfold Ln.by_; simp)⟩
end
end Go.Proofs.YteaincdeoajkeaaGreatDoor.Mm
end
section
/- Package mmu: Find. -/
namespace Go.Proofs.YteaincdeoajkeaaGreatDoor.Mm
open Go.RowKit Go.Shelf Ut Oc Vw Wa
open Sw (Ln tabL ownP fillS findS entS toldS Inv19 ErW)
open Sb (Rc findL withoutL entF entV)
set_option linter.unusedVariables false
set_option maxRecDepth 100000
set_option maxHeartbeats 8000000

section
variable {S : List Int} {LM : List Gm.Pl} {F : Int → Bool} {l : List Ln} {q q' : List Rc}
theorem Inv.subq {E : Int → Bool} (h : Inv S LM E F l q) (hs : ∀ y ∈ q', y ∈ q) : Inv S LM E F l q' := ⟨h.i19, h.er, h.own, h.tr, h.pg, fun y hy => h.tl y (hs y hy)⟩
theorem Inv.addq {E : Int → Bool} (h : Inv S LM E F l q) {x : Ln} (hx : x ∈ l) {kr kp : Int} (e1 : x.kr = kr) (e2 : x.kp = kp) (hs : ∀ y ∈ q', y ∈ q ∨ y = ⟨kr, kp, x.ep, x.ef, x.er⟩) : Inv S LM E F l q' := ⟨h.i19, h.er, h.own, h.tr, h.pg, fun y hy => by
 rcases hs y hy with h1 | rfl
 ·exact h.tl y h1
 ·exact ⟨x, hx, e1, e2, rfl, rfl, SubR.refl _, h.er x hx⟩⟩
theorem alw_some {o : Bool} {r k : Int} {us : Bool} (h : Pe.alwB o r k us = true) : o = true ∧ Pe.alwB true r k us = true := by
 cases o with
 | true => exact ⟨rfl, h⟩
 | false => unfold Pe.alwB at h; simp at h
/-- what the Tlb says, a walk says -/
theorem rem_says (h : Inv S LM noE noE l q) (hL : Lay LM) {rt z k : Int} {us : Bool} (h0 : 0 ≤ z) (ht : Pe.alwB (findL q rt (z / 64)).isSome (entF (findL q rt (z / 64))).2.2 k us = true) : locF 12 S LM true rt us z k = (fstH true (entF (findL q rt (z / 64))).1 (entF (findL q rt (z / 64))).2.1 z, 0) := by
 obtain ⟨ho, ha⟩ := alw_some ht
 obtain ⟨y, hy⟩ := Option.isSome_iff_exists.1 ho
 rw [hy] at ha ⊢
 have hy' : q.find? (fun v => v.is rt (z / 64)) = some y := hy
 have hm := List.mem_of_find?_eq_some hy'
 have hb : y.is rt (z / 64) = true := by have := List.find?_some (p := fun v : Rc => v.is rt (z / 64)) hy'; simpa using this
 obtain ⟨b1, b2⟩ := Sb.is_iff.1 hb
 obtain ⟨x, hx, e1, e2, e3, e4, e5, _, _⟩ := h.tl y hm
 have := h.fast hL (z := z) hx e5 h0 (by rw [e2, b2]) ha
 rw [e1, b1] at this
 rw [this]
 unfold fstH entF
 rw [if_pos rfl, e3, e4]
/-- what the shadow says, a walk says -/
theorem sha_says (h : Inv S LM noE noE l q) (hL : Lay LM) {rt z k : Int} {us : Bool} (h0 : 0 ≤ z) (ht : Pe.alwB (findS l rt (z / 64)).isSome (entS (findS l rt (z / 64))).2.2 k us = true) : locF 12 S LM true rt us z k = (fstH true (entS (findS l rt (z / 64))).1 (entS (findS l rt (z / 64))).2.1 z, 0) ∧ (∀ q', (∀ y ∈ q', y ∈ q ∨ y = ⟨rt, z / 64, (entS (findS l rt (z / 64))).1, (entS (findS l rt (z / 64))).2.1, (entS (findS l rt (z / 64))).2.2⟩) → Inv S LM noE noE l q') := by
 obtain ⟨ho, ha⟩ := alw_some ht
 obtain ⟨x, hx⟩ := Option.isSome_iff_exists.1 ho
 rw [hx] at ha ⊢
 have hx' : l.find? (fun v => v.is rt (z / 64)) = some x := hx
 have hm := List.mem_of_find?_eq_some hx'
 have hb : x.is rt (z / 64) = true := by have := List.find?_some (p := fun v : Ln => v.is rt (z / 64)) hx'; simpa using this
 have hk := Sw.is_iffS.1 hb
 unfold Sw.kyS at hk
 injection hk with b1 b2
 have := h.fast hL (z := z) hm (SubR.refl _) h0 b2.symm ha
 rw [b1] at this
 refine ⟨?_, fun q' hq => h.addq hm b1 b2 hq⟩
 rw [this]
 unfold fstH entS
 rw [if_pos rfl]
end

/-- does the Tlb say, does the shadow? -/
def remB (q : List Rc) (rt z k : Int) (us : Bool) : Bool := Pe.alwB (findL q rt (z / 64)).isSome (entF (findL q rt (z / 64))).2.2 k us
def shaB (l : List Ln) (rt z k : Int) (us : Bool) : Bool := Pe.alwB (findS l rt (z / 64)).isSome (entS (findS l rt (z / 64))).2.2 k us
/-- whether it was found fast, and what follows where it wasn't -/
def FnX (fast : Bool) (W : World) (u t g b s m : Nat) (S : List Int) (LM : List Gm.Pl) (D : List Bool) (l : List Ln) (q : List Rc) (rt z k : Int) (us : Bool) (c : Int) (h : Int × Int × Int) : Prop :=
 (fast = true → ∃ l1 q1, Forg l q l1 q1 ∧ (remB q1 rt z k us = true ∨ shaB l1 rt z k us = true)) ∧
 (fast = false → ∃ l1 q1 q2 Y1, Forg l q l1 q1 ∧ ((dirtL D 12).length = 0 → l1 = l ∧ q1 = q) ∧ remB q1 rt z k us = false ∧ shaB l1 rt z k us = false ∧ (∀ y ∈ q2, y ∈ q1) ∧ WkR W u t g b s m S LM noD l1 q2 Y1 rt z c h)
/-- what Find leaves -/
def FdP (W : World) (u t g b s m : Nat) (S : List Int) (LM : List Gm.Pl) : Prop := ∃ l q Y, ST W u t g b s m S LM noD l q Y ∧ Inv S LM noE noE l q
/-- the memory in Find, behind heed -/
structure FM (W w : World) (u t g b s m : Nat) (S : List Int) (LM : List Gm.Pl) (l : List Ln) (q : List Rc) (Y : List Gm.Pl) (on : Bool) (rt : Int) (us : Bool) (hcs : List Value) : Prop where
 kq : Kq [b, u, t, g] W w
 st : ST w u t g b s m S LM noD l q Y
 md : Blk w W.heap.size 30 [.bool on, .int .i64 rt, .bool us]
 hi : Blk w (W.heap.size + 1) 36 hcs
 lo : ∀ x ∈ [u, t, g, b, s, m, 0], x < W.heap.size
section
variable {W w w' : World} {u t g b s m : Nat} {S : List Int} {LM : List Gm.Pl} {l l' : List Ln} {q q' : List Rc} {Y Y' : List Gm.Pl} {on us : Bool} {rt : Int} {D : List Bool} {hcs : List Value}
theorem FM.more (h : FM W w u t g b s m S LM l q Y on rt us hcs) (hb : Below w.heap.size w w') : FM W w' u t g b s m S LM l q Y on rt us hcs := ⟨h.kq.trans (Kq.of_below hb), h.st.more hb, h.md.more hb, h.hi.more hb, h.lo⟩
theorem FM.step (h : FM W w u t g b s m S LM l q Y on rt us hcs) (hk : Kq [t, g] w w') (hs : ST w' u t g b s m S LM noD l' q' Y') : FM W w' u t g b s m S LM l' q' Y' on rt us hcs := by
 have h1 := h.lo t (by simp)
 have h2 := h.lo g (by simp)
 exact ⟨h.kq.trans (hk.more (fun z hz => by simp at hz ⊢; rcases hz with h | h <;> simp [h])), hs, h.md.kq hk (by simp; omega), h.hi.kq hk (by simp; omega), h.lo⟩
theorem FM.put {c0 c1 c2 c3 : Value} (h : FM W w u t g b s m S LM l q Y on rt us [c0, c1, c2, c3]) (v0 v1 v2 v3 : Value) : FM W ((((w.setCell ⟨W.heap.size + 1, 0, none⟩ v0).setCell ⟨W.heap.size + 1, 1, none⟩ v1).setCell ⟨W.heap.size + 1, 2, none⟩ v2).setCell ⟨W.heap.size + 1, 3, none⟩ v3) u t g b s m S LM l q Y on rt us [v0, v1, v2, v3] := by
 have k1 : Kq [W.heap.size + 1] w ((((w.setCell ⟨W.heap.size + 1, 0, none⟩ v0).setCell ⟨W.heap.size + 1, 1, none⟩ v1).setCell ⟨W.heap.size + 1, 2, none⟩ v2).setCell ⟨W.heap.size + 1, 3, none⟩ v3) := ((((Kq.refl [W.heap.size + 1] w).setCell _ _ _ (.inl (by simp))).setCell _ _ _ (.inl (by simp))).setCell _ _ _ (.inl (by simp))).setCell _ _ _ (.inl (by simp))
 exact ⟨(((h.kq.setCell _ _ _ (.inr (by omega))).setCell _ _ _ (.inr (by omega))).setCell _ _ _ (.inr (by omega))).setCell _ _ _ (.inr (by omega)), h.st.kq k1 (fun x hx => by have := h.lo x hx; simp; omega), h.md.kq k1 (by simp), (((h.hi.set 0 v0).set 1 v1).set 2 v2).set 3 v3, h.lo⟩
/-- behind the boxes and heed -/
theorem fm_heed {U : World} (h : ST W u t g b s m S LM D l q Y) (hU : U = (W.alloc (.cells #[.bool on, .int .i64 rt, .bool us] 30)).alloc (.cells #[.int .i64 0, .int .i64 0, .int .i64 0, .bool false] 36)) (hk : Kq [b, u, t, g] U w) (hs : ST w u t g b s m S LM noD l' q' Y') : FM W w u t g b s m S LM l' q' Y' on rt us [.int .i64 0, .int .i64 0, .int .i64 0, .bool false] := by
 have hB : Below W.heap.size W U := by rw [hU]; exact ((Below.refl _ _).alloc (Nat.le_refl _) _).alloc (by simp) _
 have hm : Blk U W.heap.size 30 [.bool on, .int .i64 rt, .bool us] := by rw [hU]; exact (Blk.new W _ [.bool on, .int .i64 rt, .bool us]).more ((Below.refl _ _).alloc (Nat.le_refl _) _)
 have hh : Blk U (W.heap.size + 1) 36 [.int .i64 0, .int .i64 0, .int .i64 0, .bool false] := by
  have := Blk.new (W.alloc (.cells #[.bool on, .int .i64 rt, .bool us] 30)) 36 [.int .i64 0, .int .i64 0, .int .i64 0, .bool false]
  rw [World.size_alloc] at this
  rw [hU]
  exact this
 have lo := h.lo
 have h1 := lo t (by simp)
 have h2 := lo g (by simp)
 have h3 := lo u (by simp)
 have h4 := lo b (by simp)
 exact ⟨(Kq.of_below hB).trans hk, hs, hm.kq hk (by simp; omega), hh.kq hk (by simp; omega), lo⟩
theorem find_off20 (us : Bool) (rt z k c : Int) (h : Int × Int × Int) (h0 : 0 ≤ z) (h1 : z < 4294967296) (hc : (locF 12 S LM false rt us z k).2 = c) (hh : (locF 12 S LM false rt us z k).1 = h) (hst : ST W u t g b s m S LM D l q Y) (hI : Inv S LM noE (dF D) l q) :
  Calls Tryz.prog 9 #[.pointer (some ⟨u, 0, none⟩), modeV false rt us, .int .u32 z, .int .i64 k] W fun e w' => (∃ fast, e = .returned (.tuple #[hitX h fast, .int .i64 c]) ∧ (fast = true → false = true ∧ c = 0)) ∧ Hid (FdP w' u t g b s m S LM) ∧ Kq [b, u, t, g] W w' := by
 obtain ⟨U, hU⟩ : ∃ U, U = (W.alloc (.cells #[.bool false, .int .i64 rt, .bool us] 30)).alloc (.cells #[.int .i64 0, .int .i64 0, .int .i64 0, .bool false] 36) := ⟨_, rfl⟩
 have hB : Below W.heap.size W U := by rw [hU]; exact ((Below.refl _ _).alloc (Nat.le_refl _) _).alloc (by simp) _
 have HMD := Lib.hid (made_yes20 U u b (hst.more hB).cell0 (hst.more hB).lt)
 have HHD := Lib.hid (heed20_any (hst.more hB))
 have HFM : Hid (∀ (w : World) l' q' Y', Kq [b, u, t, g] U w → ST w u t g b s m S LM noD l' q' Y' → FM W w u t g b s m S LM l' q' Y' false rt us [.int .i64 0, .int .i64 0, .int .i64 0, .bool false]) := Lib.hid fun w l' q' Y' hk hs => fm_heed hst hU hk hs
 have HIN : Hid (∀ l' q', Forg l q l' q' → (∀ z : Int, z ∈ (dirtL D 12).take (dirtL D 12).length → z < 8 → ∀ x ∈ l', x.by_ z = false) → Inv S LM noE noE l' q') := Lib.hid fun l' q' hf hc => hI.heeded hf hc
 have HLY := Lib.hid hst.lay
 have HU := Lib.hid hU
 have HFN : Hid (∀ w l' q' Y', ST w u t g b s m S LM noD l' q' Y' → Calls Tryz.prog 38 #[.pointer (some ⟨b, 0, none⟩), .agg #[.bool false, .int .i64 rt, .bool us], .int .u32 z, .int .i64 k] w fun e w' => e = .returned (.tuple #[hitV h, .int .i64 c]) ∧ Below w.heap.size w w') := Lib.hid fun w l' q' Y' hw => Wa.find_any false us rt z k c h h0 h1 hc hh w hw.pv
 clear hU hB hst hI hc hh
 unfold hitV at HFN
 obtain ⟨x0, x1, x2⟩ := h
 dsimp only at HFN
 go_enter Tryz.func9, Tryz.ntmps9
 generalize hQQ : bodyPost _ _ _ = QQ
 have HQQ := Lib.hid hQQ
 clear hQQ
 go_upto_region 1 with fail
 rw [← HU.out]
 clear HU
 go_wp2_with fail
 refine HMD.out.mono ?_
 rintro e w1 ⟨rfl, rfl⟩
 clear HMD
 go_wp2_with fail
 refine HHD.out.mono ?_
 rintro e w2 ⟨rfl, HD2, hk2⟩
 obtain ⟨Y1, l1, q1, hs1, hf1, hc1, hz1⟩ := HD2.out
 have HFG := Lib.hid (And.intro hf1 hz1)
 have HF2 := Lib.hid (HFM.out _ _ _ _ hk2 hs1)
 have HI2 := Lib.hid (HIN.out _ _ hf1 hc1)
 clear HD2 hs1 hf1 hc1 hz1 hk2 HFM HIN HHD
 have m0 := HF2.out.md.cell (j := 0) rfl
 have ml := HF2.out.md.lt
 go_upto_region 5 with fail
 clear m0 ml
 apply wp_region_x [24, 25, 26, 27, 28, 29, 30, 31, 32, 33, 120] [_, _, _, _, _, _, _, _, _, _, undef] [] (fun L_ x_ W' => FM W W' u t g b s m S LM l1 q1 Y1 false rt us (cond (L_ 10) [.int .i64 x0, .int .i64 x1, .int .i64 x2, .bool false] [.int .i64 0, .int .i64 0, .int .i64 0, .bool false]))
 case hm => kernel_rfl
 case hT => intro y; simp only [setAll, List.setIfInBounds_toArray, List.set_cons_succ, List.set_cons_zero, List.set_nil]; exact rfl
 case hok => kernel_rfl
 case hn => decide
 case hw => exact (fun L_ x_ h0 => by rw [h0 10 (by decide)]; exact HF2.out.more ((Below.refl _ _).drew))
 case hs =>
  refine x_op 24 [] (by kernel_rfl) (fun L y w' hL hC HW hd K hK => ?_) ?_
  ·go_simp
   refine hK _ _ ?_ ?_ HW
   ·simp [upd]
   ·exact rfl
  refine x_op 25 [0] (by kernel_rfl) (fun L y w' hL hC HW hd K hK => ?_) ?_
  ·have e0 := xR_nth (hd 0 (by simp)).2 rfl rfl
   go_simp
   refine hK _ _ ?_ ?_ HW
   ·simp [upd, e0]
   ·exact rfl
  refine x_op 26 [1] (by kernel_rfl) (fun L y w' hL hC HW hd K hK => ?_) ?_
  ·have e1 := xR_nth (hd 1 (by simp)).2 rfl rfl
   go_simp
   refine hK _ _ ?_ ?_ HW
   ·simp [upd, e1]
   ·exact rfl
  refine x_op 27 [2] (by kernel_rfl) (fun L y w' hL hC HW hd K hK => ?_) ?_
  ·have e2 := xR_nth (hd 2 (by simp)).2 rfl rfl
   have u0 := HW.st.cell0
   have ul := HW.st.lt
   go_simp
   refine hK _ _ ?_ ?_ HW
   ·simp [upd, e2]
   ·exact rfl
  refine x_op 28 [] (by kernel_rfl) (fun L y w' hL hC HW hd K hK => ?_) ?_
  ·have xm := HW.md
   have m0 := xm.cell (j := 0) rfl
   have m1 := xm.cell (j := 1) rfl
   have m2 := xm.cell (j := 2) rfl
   have ml := xm.lt
   go_simp
   refine hK _ _ ?_ ?_ HW
   ·simp [upd]
   ·exact rfl
  refine x_op 29 [] (by kernel_rfl) (fun L y w' hL hC HW hd K hK => ?_) ?_
  ·go_simp
   refine hK _ _ ?_ ?_ HW
   ·simp [upd]
   ·exact rfl
  refine x_op 30 [] (by kernel_rfl) (fun L y w' hL hC HW hd K hK => ?_) ?_
  ·go_simp
   refine hK _ _ ?_ ?_ HW
   ·simp [upd]
   ·exact rfl
  refine x_op 31 [3, 4, 5, 6] (by kernel_rfl) (fun L y w' hL hC HW hd K hK => ?_) ?_
  ·have e3 := xR_nth (hd 3 (by simp)).2 rfl rfl
   have e4 := xR_nth (hd 4 (by simp)).2 rfl rfl
   have e5 := xR_nth (hd 5 (by simp)).2 rfl rfl
   have e6 := xR_nth (hd 6 (by simp)).2 rfl rfl
   go_simp
   refine (HFN.out _ _ _ _ HW.st).mono ?_
   rintro e w3 ⟨rfl, hb3⟩
   refine hK _ _ ?_ ?_ (FM.more HW hb3)
   ·simp [upd, e3, e4, e5, e6]
   ·exact rfl
  refine x_op 32 [7] (by kernel_rfl) (fun L y w' hL hC HW hd K hK => ?_) ?_
  ·have e7 := xR_nth (hd 7 (by simp)).2 rfl rfl
   go_simp
   refine hK _ _ ?_ ?_ HW
   ·simp [upd, e7]
   ·exact rfl
  refine x_op 33 [7] (by kernel_rfl) (fun L y w' hL hC HW hd K hK => ?_) ?_
  ·have e7 := xR_nth (hd 7 (by simp)).2 rfl rfl
   go_simp
   refine hK _ _ ?_ ?_ HW
   ·simp [upd, e7]
   ·exact rfl
  refine x_op 120 [8, 7, 0, 1, 2, 3, 4, 5, 6, 7, 8, 9] (by kernel_rfl) (fun L y w' hL hC HW hd K hK => ?_) ?_
  ·have e0 := xR_nth (hd 0 (by simp)).2 rfl rfl
   have e1 := xR_nth (hd 1 (by simp)).2 rfl rfl
   have e2 := xR_nth (hd 2 (by simp)).2 rfl rfl
   have e3 := xR_nth (hd 3 (by simp)).2 rfl rfl
   have e4 := xR_nth (hd 4 (by simp)).2 rfl rfl
   have e5 := xR_nth (hd 5 (by simp)).2 rfl rfl
   have e6 := xR_nth (hd 6 (by simp)).2 rfl rfl
   have e7 := xR_nth (hd 7 (by simp)).2 rfl rfl
   have e8 := xR_nth (hd 8 (by simp)).2 rfl rfl
   have e9 := xR_nth (hd 9 (by simp)).2 rfl rfl
   rw [hL] at HW
   have z0 := HW.hi.cell (j := 0) rfl
   have z1 := HW.hi.cell (j := 1) rfl
   have z2 := HW.hi.cell (j := 2) rfl
   have z3 := HW.hi.cell (j := 3) rfl
   have y0 := HW.hi.frozen 0
   have y1 := HW.hi.frozen 1
   have y2 := HW.hi.frozen 2
   have y3 := HW.hi.frozen 3
   have zl := HW.hi.lt
   go_simp
   refine hK _ _ ?_ ?_ (FM.put HW _ _ _ _)
   ·simp [upd, e0, e1, e2, e3, e4, e5, e6, e7, e8, e9]
   ·exact rfl
  refine x_last fun L y w' hLs HW hd K hK => ?_
  have e0 := xR_nth (hd 0 (by omega)) rfl rfl
  have e1 := xR_nth (hd 1 (by omega)) rfl rfl
  have e2 := xR_nth (hd 2 (by omega)) rfl rfl
  have e3 := xR_nth (hd 3 (by omega)) rfl rfl
  have e4 := xR_nth (hd 4 (by omega)) rfl rfl
  have e5 := xR_nth (hd 5 (by omega)) rfl rfl
  have e6 := xR_nth (hd 6 (by omega)) rfl rfl
  have e7 := xR_nth (hd 7 (by omega)) rfl rfl
  have e8 := xR_nth (hd 8 (by omega)) rfl rfl
  have e9 := xR_nth (hd 9 (by omega)) rfl rfl
  rw [hLs 10 (by decide)] at HW
  have HFX := Lib.hid HW
  go_simp
  refine hK _ _ ?_
  clear hd hK K HW hLs
  have r0 := HFX.out.hi.cell (j := 0) rfl
  have r1 := HFX.out.hi.cell (j := 1) rfl
  have r2 := HFX.out.hi.cell (j := 2) rfl
  have r3 := HFX.out.hi.cell (j := 3) rfl
  have rl := HFX.out.hi.lt
  clear HFN HF2
  go_wp2
  rw [← HQQ.out]
  exact bodyPost_ret (v := .tuple #[hitX (x0, x1, x2) false, .int .i64 c]) (by simp [results, Tryz.results9, go_sem, r0, r1, r2, r3]) rfl ⟨⟨false, rfl, fun e => by cases e⟩, Lib.hid ⟨l1, q1, Y1, HFX.out.st, HI2.out⟩, HFX.out.kq⟩
theorem find_on20 (us : Bool) (rt z k c : Int) (h : Int × Int × Int) (h0 : 0 ≤ z) (h1 : z < 4294967296) (hc : (locF 12 S LM true rt us z k).2 = c) (hh : (locF 12 S LM true rt us z k).1 = h) (hst : ST W u t g b s m S LM D l q Y) (hI : Inv S LM noE (dF D) l q) :
  Calls Tryz.prog 9 #[.pointer (some ⟨u, 0, none⟩), modeV true rt us, .int .u32 z, .int .i64 k] W fun e w' => (∃ fast, e = .returned (.tuple #[hitX h fast, .int .i64 c]) ∧ (fast = true → true = true ∧ c = 0) ∧ Hid (FnX fast w' u t g b s m S LM D l q rt z k us c h)) ∧ Hid (FdP w' u t g b s m S LM) ∧ Kq [b, u, t, g] W w' := by
 obtain ⟨U, hU⟩ : ∃ U, U = (W.alloc (.cells #[.bool true, .int .i64 rt, .bool us] 30)).alloc (.cells #[.int .i64 0, .int .i64 0, .int .i64 0, .bool false] 36) := ⟨_, rfl⟩
 have hB : Below W.heap.size W U := by rw [hU]; exact ((Below.refl _ _).alloc (Nat.le_refl _) _).alloc (by simp) _
 have HMD := Lib.hid (made_yes20 U u b (hst.more hB).cell0 (hst.more hB).lt)
 have HHD := Lib.hid (heed20_any (hst.more hB))
 have HFM : Hid (∀ (w : World) l' q' Y', Kq [b, u, t, g] U w → ST w u t g b s m S LM noD l' q' Y' → FM W w u t g b s m S LM l' q' Y' true rt us [.int .i64 0, .int .i64 0, .int .i64 0, .bool false]) := Lib.hid fun w l' q' Y' hk hs => fm_heed hst hU hk hs
 have HIN : Hid (∀ l' q', Forg l q l' q' → (∀ z : Int, z ∈ (dirtL D 12).take (dirtL D 12).length → z < 8 → ∀ x ∈ l', x.by_ z = false) → Inv S LM noE noE l' q') := Lib.hid fun l' q' hf hc => hI.heeded hf hc
 have HLY := Lib.hid hst.lay
 have HU := Lib.hid hU
 have HRE : Hid (∀ w l' q' Y' o, ST w u t g b s m S LM noD l' q' Y' → findL q' rt (z / 64) = o → ∀ tt, Pe.alwB o.isSome (entF o).2.2 k us = tt → Calls Tryz.prog 39 #[.pointer (some ⟨u, 0, none⟩), accV true rt us z k] w fun e w' => e = .returned (.tuple #[hitX (fstH tt (entF o).1 (entF o).2.1 z) tt, .bool tt]) ∧ Hid (ST w' u t g b s m S LM noD l' q' Y') ∧ Kq [t, g] w w') := Lib.hid fun w l' q' Y' o hw ho tt ht => remembered20_any true us rt z k h0 h1 o ho tt ht hw
 have HSH : Hid (∀ w l' q' Y' o, ST w u t g b s m S LM noD l' q' Y' → findS l' rt (z / 64) = o → ∀ tt, Pe.alwB o.isSome (entS o).2.2 k us = tt → Calls Tryz.prog 40 #[.pointer (some ⟨u, 0, none⟩), accV true rt us z k] w fun e w' => e = .returned (.tuple #[hitX (fstH tt (entS o).1 (entS o).2.1 z) tt, .bool tt]) ∧ Hid (∃ q'', ST w' u t g b s m S LM noD l' q'' Y' ∧ ∀ y ∈ q'', y ∈ q' ∨ (tt = true ∧ y = ⟨rt, z / 64, (entS o).1, (entS o).2.1, (entS o).2.2⟩)) ∧ Kq [t, g] w w') := Lib.hid fun w l' q' Y' o hw ho tt ht => shadowed20_any true us rt z k h0 h1 o ho tt ht hw
 have HWK : Hid (∀ w l' q' Y', ST w u t g b s m S LM noD l' q' Y' → Inv S LM noE noE l' q' → Calls Tryz.prog 41 #[.pointer (some ⟨u, 0, none⟩), accV true rt us z k] w fun e w' => e = .returned (.tuple #[hitX h false, .int .i64 c]) ∧ Hid (WkR w' u t g b s m S LM noD l' q' Y' rt z c h) ∧ Kq [t, g] w w') := Lib.hid fun w l' q' Y' hw hi => walked20_any us rt z k c h h0 h1 hc hh hi.i19 hi.erW hw
 have HWI : Hid (∀ (w : World) l' q' (Y' : List Gm.Pl) l2 q2, Inv S LM noE noE l' q' → (c ≠ 0 → l2 = l' ∧ q2 = q') → (c = 0 → l2 = fillS l' ⟨rt, z / 64, h.1, h.2.1, giv (walkF 12 S LM rt z).r (fun k => Gm.alwF (Gm.atP LM (walkF 12 S LM rt z).g) (walkF 12 S LM rt z).g k), (walkF 12 S LM rt z).rt, (walkF 12 S LM rt z).lf⟩ ∧ KeepQ l2 rt (z / 64) (narAll q' (toldS l' (walkF 12 S LM rt z).rt (walkF 12 S LM rt z).lf 8)) q2) → Inv S LM noE noE l2 q2) := Lib.hid fun w l' q' Y' l2 q2 hi h1 h2 => by
  by_cases hz : c = 0
  ·obtain ⟨e, hk⟩ := h2 hz
   subst e
   exact hi.walked hst.lay h0 hc hh hz hk
  ·obtain ⟨rfl, rfl⟩ := h1 hz
   exact hi
 have HCH : Hid (∀ hh', locF 12 S LM true rt us z k = (hh', 0) → h = hh' ∧ c = 0) := Lib.hid fun hh' e => by rw [e] at hc hh; exact ⟨hh.symm, hc.symm⟩
 have HZ0 := Lib.hid h0
 clear hU hB hst hI hc hh
 obtain ⟨x0, x1, x2⟩ := h
 go_enter Tryz.func9, Tryz.ntmps9
 generalize hQQ : bodyPost _ _ _ = QQ
 have HQQ := Lib.hid hQQ
 clear hQQ
 go_upto_region 1 with fail
 rw [← HU.out]
 clear HU
 go_wp2_with fail
 refine HMD.out.mono ?_
 rintro e w1 ⟨rfl, rfl⟩
 clear HMD
 go_wp2_with fail
 refine HHD.out.mono ?_
 rintro e w2 ⟨rfl, HD2, hk2⟩
 obtain ⟨Y1, l1, q1, hs1, hf1, hc1, hz1⟩ := HD2.out
 have HFG := Lib.hid (And.intro hf1 hz1)
 have HF2 := Lib.hid (HFM.out _ _ _ _ hk2 hs1)
 have HI2 := Lib.hid (HIN.out _ _ hf1 hc1)
 clear HD2 hs1 hf1 hc1 hz1 hk2 HFM HIN HHD
 have m0 := HF2.out.md.cell (j := 0) rfl
 have m1 := HF2.out.md.cell (j := 1) rfl
 have m2 := HF2.out.md.cell (j := 2) rfl
 have ml := HF2.out.md.lt
 obtain ⟨V, hV⟩ : ∃ V, V = w2.alloc (.cells #[.bool true, .int .i64 rt, .bool us, .int .u32 z, .int .i64 k] 105) := ⟨_, rfl⟩
 have hbV : Below w2.heap.size w2 V := by rw [hV]; exact (Below.refl _ _).alloc (Nat.le_refl _) _
 have hNV : Blk V w2.heap.size 105 [.bool true, .int .i64 rt, .bool us, .int .u32 z, .int .i64 k] := by rw [hV]; exact Blk.new w2 _ _
 have HV := Lib.hid hV
 have HFV := Lib.hid (HF2.out.more hbV)
 have HAV := Lib.hid hNV
 have HAW : Hid (W.heap.size + 2 ≤ w2.heap.size) := Lib.hid HF2.out.hi.lt
 clear hV hbV hNV HF2
 go_upto_region 7 with fail
 rw [← HV.out]
 clear HV m0 m1 m2 ml
 generalize w2.heap.size = ab at HAV HAW ⊢
 obtain ⟨V2, hV2⟩ : ∃ V2, V2 = V.alloc (.cells #[.func (.func 39) #[.pointer (some ⟨u, 0, none⟩)] #[], .func (.func 40) #[.pointer (some ⟨u, 0, none⟩)] #[]] 106) := ⟨_, rfl⟩
 have hbV : Below V.heap.size V V2 := by rw [hV2]; exact (Below.refl _ _).alloc (Nat.le_refl _) _
 have hNV : Blk V2 V.heap.size 106 [.func (.func 39) #[.pointer (some ⟨u, 0, none⟩)] #[], .func (.func 40) #[.pointer (some ⟨u, 0, none⟩)] #[]] := by rw [hV2]; exact Blk.new V _ _
 have HV := Lib.hid hV2
 have HF0 := Lib.hid (HFV.out.more hbV)
 have HA0 := Lib.hid (HAV.out.more hbV)
 have HS0 := Lib.hid hNV
 have HSW : Hid (W.heap.size + 2 ≤ V.heap.size) := Lib.hid HFV.out.hi.lt
 clear hV2 hbV hNV HFV HAV
 go_wp2
 rw [← HV.out]
 clear HV
 generalize V.heap.size = sb at HS0 HSW ⊢
 go_loopw [44] (fun j wr => (j = .int .i64 0 ∧ Hid (FM W wr u t g b s m S LM l1 q1 Y1 true rt us [.int .i64 0, .int .i64 0, .int .i64 0, .bool false] ∧ Inv S LM noE noE l1 q1 ∧ Blk wr ab 105 [.bool true, .int .i64 rt, .bool us, .int .u32 z, .int .i64 k] ∧ Blk wr sb 106 [.func (.func 39) #[.pointer (some ⟨u, 0, none⟩)] #[], .func (.func 40) #[.pointer (some ⟨u, 0, none⟩)] #[]])) ∨ (j = .int .i64 1 ∧ Hid (remB q1 rt z k us = false) ∧ Hid (FM W wr u t g b s m S LM l1 q1 Y1 true rt us [.int .i64 0, .int .i64 0, .int .i64 0, .bool false] ∧ Inv S LM noE noE l1 q1 ∧ Blk wr ab 105 [.bool true, .int .i64 rt, .bool us, .int .u32 z, .int .i64 k] ∧ Blk wr sb 106 [.func (.func 39) #[.pointer (some ⟨u, 0, none⟩)] #[], .func (.func 40) #[.pointer (some ⟨u, 0, none⟩)] #[]])) ∨ (∃ q2, j = .int .i64 2 ∧ Hid (remB q1 rt z k us = false) ∧ Hid (shaB l1 rt z k us = false ∧ ∀ y ∈ q2, y ∈ q1) ∧ Hid (FM W wr u t g b s m S LM l1 q2 Y1 true rt us [.int .i64 0, .int .i64 0, .int .i64 0, .bool false] ∧ Inv S LM noE noE l1 q2 ∧ Blk wr ab 105 [.bool true, .int .i64 rt, .bool us, .int .u32 z, .int .i64 k] ∧ Blk wr sb 106 [.func (.func 39) #[.pointer (some ⟨u, 0, none⟩)] #[], .func (.func 40) #[.pointer (some ⟨u, 0, none⟩)] #[]]))) (fun j _ => 2 - (intOf j).toNat)
 case atStart => exact .inl ⟨rfl, Lib.hid ⟨HF0.out, HI2.out, HA0.out, HS0.out⟩⟩
 case round =>
   clear HF0 HA0 HS0
   rcases hrel with ⟨rfl, HB⟩ | ⟨rfl, HR1, HB⟩ | ⟨q2, rfl, HR1, HR2, HB⟩
   ·obtain ⟨hf, hi, ha, hs⟩ := HB.out
    obtain ⟨o, ho⟩ : ∃ o, findL q1 rt (z / 64) = o := ⟨_, rfl⟩
    obtain ⟨tt, htt⟩ : ∃ tt, Pe.alwB o.isSome (entF o).2.2 k us = tt := ⟨_, rfl⟩
    have hcl := HRE.out wr l1 q1 Y1 o hf.st ho tt htt
    have hen : ∀ (args : Array Value) (w : World), (callFunc 39 args).run Tryz.prog w = .ok (.enter 39 args) w := fun _ _ => rfl
    have a0 := ha.cell (j := 0) rfl
    have a1 := ha.cell (j := 1) rfl
    have a2 := ha.cell (j := 2) rfl
    have a3 := ha.cell (j := 3) rfl
    have a4 := ha.cell (j := 4) rfl
    have al := ha.lt
    have s0 : wr.cell? ⟨sb, 0, none⟩ = some (.func (.func 39) #[.pointer (some ⟨u, 0, none⟩)] #[]) := hs.cell rfl
    have sl := hs.lt
    have HFB := Lib.hid hf
    have HIB := Lib.hid hi
    have HAB := Lib.hid ha
    have HSB := Lib.hid hs
    have hwl : t < W.heap.size ∧ g < W.heap.size := ⟨hf.lo t (by simp), hf.lo g (by simp)⟩
    have HWL := Lib.hid hwl
    have hrb : remB q1 rt z k us = tt := by unfold remB; rw [ho]; exact htt
    cases tt
    ·obtain ⟨hy, hhy⟩ : ∃ hy, fstH false (entF o).1 (entF o).2.1 z = hy := ⟨_, rfl⟩
     rw [hhy] at hcl
     obtain ⟨y0, y1, y2⟩ := hy
     have HC := Lib.hid hcl
     have HRX := Lib.hid hrb
     clear hf hi ha hs ho htt hcl hhy hwl HB hrb
     go_wp2_with fail
     refine HC.out.mono ?_
     rintro e w3 ⟨rfl, HS3, hk3⟩
     have HF3 := Lib.hid (HFB.out.step hk3 HS3.out)
     have HI3 := HIB
     have HRB := HRX
     have HA3 := Lib.hid (HAB.out.kq hk3 (by have h1 := HWL.out; have h2 := HAW.out; simp; omega))
     have HS4 := Lib.hid (HSB.out.kq hk3 (by have h1 := HWL.out; have h2 := HSW.out; simp; omega))
     have hb4 : Below w3.heap.size w3 (w3.alloc (.cells #[.int .i64 y0, .int .i64 y1, .int .i64 y2, .bool false] 36)) := (Below.refl _ _).alloc (Nat.le_refl _) _
     have HB5 := Lib.hid (And.intro (HF3.out.more hb4) (And.intro HI3.out (And.intro (HA3.out.more hb4) (HS4.out.more hb4))))
     clear HS3 hk3 HFB HIB HAB HSB HC a0 a1 a2 a3 a4 al s0 sl HF3 HI3 HA3 HS4 hb4 hen
     go_wp2
     go_roundw
     case rel => exact .inr (.inl ⟨rfl, HRB, HB5⟩)
     case measure => simp [intOf]
    ·obtain ⟨hy, hhy⟩ : ∃ hy, fstH true (entF o).1 (entF o).2.1 z = hy := ⟨_, rfl⟩
     have hsay := rem_says (k := k) (us := us) hi HLY.out HZ0.out (by rw [ho]; exact htt)
     rw [ho, hhy] at hsay
     obtain ⟨e1, e2⟩ := HCH.out _ hsay
     rw [hhy] at hcl
     obtain ⟨y0, y1, y2⟩ := hy
     simp only [Prod.mk.injEq] at e1
     obtain ⟨rfl, rfl, rfl⟩ := e1
     subst e2
     have HC := Lib.hid hcl
     have HRX := Lib.hid hrb
     clear hf hi ha hs ho htt hcl hhy hwl hsay HB hrb
     go_wp2_with fail
     refine HC.out.mono ?_
     rintro e w3 ⟨rfl, HS3, hk3⟩
     have HF3 := Lib.hid (HFB.out.step hk3 HS3.out)
     have HI9 := HIB
     clear HS3 hk3 HFB HIB HAB HSB HC a0 a1 a2 a3 a4 al s0 sl hen
     obtain ⟨V9, hV9⟩ : ∃ V9, V9 = w3.alloc (.cells #[.int .i64 x0, .int .i64 x1, .int .i64 x2, .bool true] 36) := ⟨_, rfl⟩
     have hb9 : Below w3.heap.size w3 V9 := by rw [hV9]; exact (Below.refl _ _).alloc (Nat.le_refl _) _
     have hn9 : Blk V9 w3.heap.size 36 [.int .i64 x0, .int .i64 x1, .int .i64 x2, .bool true] := by rw [hV9]; exact Blk.new w3 _ _
     have HV9 := Lib.hid hV9
     have HF9 := Lib.hid (HF3.out.more hb9)
     have n0 := hn9.cell (j := 0) rfl
     have n1 := hn9.cell (j := 1) rfl
     have n2 := hn9.cell (j := 2) rfl
     have n3 := hn9.cell (j := 3) rfl
     have nl := hn9.lt
     have HFX := HF9
     have r0 := HFX.out.hi.cell (j := 0) rfl
     have r1 := HFX.out.hi.cell (j := 1) rfl
     have r2 := HFX.out.hi.cell (j := 2) rfl
     have r3 := HFX.out.hi.cell (j := 3) rfl
     have rl := HFX.out.hi.lt
     have f0 := HFX.out.hi.frozen 0
     have f1 := HFX.out.hi.frozen 1
     have f2 := HFX.out.hi.frozen 2
     have f3 := HFX.out.hi.frozen 3
     clear hV9 hb9 hn9 HF3
     go_upto_region 11 with fail
     rw [← HV9.out]
     clear HV9
     generalize w3.heap.size = nb at n0 n1 n2 n3 nl ⊢
     have HFP := Lib.hid (HFX.out.put (.int .i64 x0) (.int .i64 x1) (.int .i64 x2) (.bool true))
     clear HF9 HFX
     go_wp2
     rw [← HQQ.out]
     exact bodyPost_ret (v := .tuple #[hitX (x0, x1, x2) true, .int .i64 0]) (by simp [results, Tryz.results9, go_sem, r0, r1, r2, r3]) rfl ⟨⟨true, rfl, (fun _ => by first | trivial | exact ⟨rfl, rfl⟩), Lib.hid ⟨fun _ => ⟨l1, q1, HFG.out.1, .inl HRX.out⟩, fun e => by cases e⟩⟩, Lib.hid ⟨_, _, _, HFP.out.st, HI9.out⟩, HFP.out.kq⟩
   ·obtain ⟨hf, hi, ha, hs⟩ := HB.out
    obtain ⟨o, ho⟩ : ∃ o, findS l1 rt (z / 64) = o := ⟨_, rfl⟩
    obtain ⟨tt, htt⟩ : ∃ tt, Pe.alwB o.isSome (entS o).2.2 k us = tt := ⟨_, rfl⟩
    have hcl := HSH.out wr l1 q1 Y1 o hf.st ho tt htt
    have hen : ∀ (args : Array Value) (w : World), (callFunc 40 args).run Tryz.prog w = .ok (.enter 40 args) w := fun _ _ => rfl
    have a0 := ha.cell (j := 0) rfl
    have a1 := ha.cell (j := 1) rfl
    have a2 := ha.cell (j := 2) rfl
    have a3 := ha.cell (j := 3) rfl
    have a4 := ha.cell (j := 4) rfl
    have al := ha.lt
    have s1 : wr.cell? ⟨sb, 1, none⟩ = some (.func (.func 40) #[.pointer (some ⟨u, 0, none⟩)] #[]) := hs.cell rfl
    have sl := hs.lt
    have HFB := Lib.hid hf
    have HIB := Lib.hid hi
    have HAB := Lib.hid ha
    have HSB := Lib.hid hs
    have hwl : t < W.heap.size ∧ g < W.heap.size := ⟨hf.lo t (by simp), hf.lo g (by simp)⟩
    have HWL := Lib.hid hwl
    have hrb : shaB l1 rt z k us = tt := by unfold shaB; rw [ho]; exact htt
    cases tt
    ·obtain ⟨hy, hhy⟩ : ∃ hy, fstH false (entS o).1 (entS o).2.1 z = hy := ⟨_, rfl⟩
     rw [hhy] at hcl
     obtain ⟨y0, y1, y2⟩ := hy
     have HC := Lib.hid hcl
     have HRX := Lib.hid hrb
     clear hf hi ha hs ho htt hcl hhy hwl HB hrb
     go_wp2_with fail
     refine HC.out.mono ?_
     rintro e w3 ⟨rfl, HS3, hk3⟩
     obtain ⟨q2, hs2, hq2⟩ := HS3.out
     have HF3 := Lib.hid (HFB.out.step hk3 hs2)
     have HI3 : Hid (Inv S LM noE noE l1 q2) := Lib.hid (HIB.out.subq (fun y hy => by
      rcases hq2 y hy with h | h
      ·exact h
      ·exact absurd h.1 (by decide)))
     have HRB : Hid (shaB l1 rt z k us = false ∧ ∀ y ∈ q2, y ∈ q1) := Lib.hid ⟨HRX.out, fun y hy => by
      rcases hq2 y hy with h | h
      ·exact h
      ·exact absurd h.1 (by decide)⟩
     have HA3 := Lib.hid (HAB.out.kq hk3 (by have h1 := HWL.out; have h2 := HAW.out; simp; omega))
     have HS4 := Lib.hid (HSB.out.kq hk3 (by have h1 := HWL.out; have h2 := HSW.out; simp; omega))
     have hb4 : Below w3.heap.size w3 (w3.alloc (.cells #[.int .i64 y0, .int .i64 y1, .int .i64 y2, .bool false] 36)) := (Below.refl _ _).alloc (Nat.le_refl _) _
     have HB5 := Lib.hid (And.intro (HF3.out.more hb4) (And.intro HI3.out (And.intro (HA3.out.more hb4) (HS4.out.more hb4))))
     clear HS3 hk3 HFB HIB HAB HSB HC a0 a1 a2 a3 a4 al s1 sl HF3 HI3 HA3 HS4 hb4 hen
     go_wp2
     go_roundw
     case rel => exact .inr (.inr ⟨q2, rfl, HR1, HRB, HB5⟩)
     case measure => simp [intOf]
    ·obtain ⟨hy, hhy⟩ : ∃ hy, fstH true (entS o).1 (entS o).2.1 z = hy := ⟨_, rfl⟩
     obtain ⟨hsay, hadd⟩ := sha_says (k := k) (us := us) hi HLY.out HZ0.out (by rw [ho]; exact htt)
     rw [ho, hhy] at hsay
     rw [ho] at hadd
     have HADD := Lib.hid hadd
     obtain ⟨e1, e2⟩ := HCH.out _ hsay
     rw [hhy] at hcl
     obtain ⟨y0, y1, y2⟩ := hy
     simp only [Prod.mk.injEq] at e1
     obtain ⟨rfl, rfl, rfl⟩ := e1
     subst e2
     have HC := Lib.hid hcl
     have HRX := Lib.hid hrb
     clear hf hi ha hs ho htt hcl hhy hwl hsay HB hrb hadd
     go_wp2_with fail
     refine HC.out.mono ?_
     rintro e w3 ⟨rfl, HS3, hk3⟩
     obtain ⟨q2, hs2, hq2⟩ := HS3.out
     have HF3 := Lib.hid (HFB.out.step hk3 hs2)
     have HI9 : Hid (Inv S LM noE noE l1 q2) := Lib.hid (HADD.out q2 (fun y hy => by
      rcases hq2 y hy with h | h
      ·exact .inl h
      ·first | exact .inr h | exact .inr h.2))
     clear HS3 hk3 hs2 hq2 HFB HIB HAB HSB HC a0 a1 a2 a3 a4 al s1 sl hen
     obtain ⟨V9, hV9⟩ : ∃ V9, V9 = w3.alloc (.cells #[.int .i64 x0, .int .i64 x1, .int .i64 x2, .bool true] 36) := ⟨_, rfl⟩
     have hb9 : Below w3.heap.size w3 V9 := by rw [hV9]; exact (Below.refl _ _).alloc (Nat.le_refl _) _
     have hn9 : Blk V9 w3.heap.size 36 [.int .i64 x0, .int .i64 x1, .int .i64 x2, .bool true] := by rw [hV9]; exact Blk.new w3 _ _
     have HV9 := Lib.hid hV9
     have HF9 := Lib.hid (HF3.out.more hb9)
     have n0 := hn9.cell (j := 0) rfl
     have n1 := hn9.cell (j := 1) rfl
     have n2 := hn9.cell (j := 2) rfl
     have n3 := hn9.cell (j := 3) rfl
     have nl := hn9.lt
     have HFX := HF9
     have r0 := HFX.out.hi.cell (j := 0) rfl
     have r1 := HFX.out.hi.cell (j := 1) rfl
     have r2 := HFX.out.hi.cell (j := 2) rfl
     have r3 := HFX.out.hi.cell (j := 3) rfl
     have rl := HFX.out.hi.lt
     have f0 := HFX.out.hi.frozen 0
     have f1 := HFX.out.hi.frozen 1
     have f2 := HFX.out.hi.frozen 2
     have f3 := HFX.out.hi.frozen 3
     clear hV9 hb9 hn9 HF3
     go_upto_region 11 with fail
     rw [← HV9.out]
     clear HV9
     generalize w3.heap.size = nb at n0 n1 n2 n3 nl ⊢
     have HFP := Lib.hid (HFX.out.put (.int .i64 x0) (.int .i64 x1) (.int .i64 x2) (.bool true))
     clear HF9 HFX
     go_wp2
     rw [← HQQ.out]
     exact bodyPost_ret (v := .tuple #[hitX (x0, x1, x2) true, .int .i64 0]) (by simp [results, Tryz.results9, go_sem, r0, r1, r2, r3]) rfl ⟨⟨true, rfl, (fun _ => by first | trivial | exact ⟨rfl, rfl⟩), Lib.hid ⟨fun _ => ⟨l1, q1, HFG.out.1, .inr HRX.out⟩, fun e => by cases e⟩⟩, Lib.hid ⟨_, _, _, HFP.out.st, HI9.out⟩, HFP.out.kq⟩
   ·obtain ⟨hf, hi, ha, hs⟩ := HB.out
    have HC := Lib.hid (HWK.out wr l1 q2 Y1 hf.st hi)
    have HFB := Lib.hid hf
    have HIB := Lib.hid hi
    have a0 := ha.cell (j := 0) rfl
    have a1 := ha.cell (j := 1) rfl
    have a2 := ha.cell (j := 2) rfl
    have a3 := ha.cell (j := 3) rfl
    have a4 := ha.cell (j := 4) rfl
    have al := ha.lt
    clear hf hi ha hs HB
    go_wp2_with fail
    refine HC.out.mono ?_
    rintro e w3 ⟨rfl, HW3, hk3⟩
    obtain ⟨l9, q9, hs9, hw1, hw2⟩ := HW3.out
    obtain ⟨_, _, _, hi9⟩ : ∃ l'' q'', ST w3 u t g b s m S LM noD l'' q'' Y1 ∧ Inv S LM noE noE l9 q9 := ⟨l9, q9, hs9, HWI.out w3 l1 q2 Y1 l9 q9 HIB.out hw1 hw2⟩
    have HWX := Lib.hid (And.intro hw1 hw2)
    have HFX := Lib.hid (HFB.out.step hk3 hs9)
    have HI9 := Lib.hid hi9
    clear HW3 hs9 hi9 hw1 hw2 hk3 HC HFB HIB a0 a1 a2 a3 a4 al
    have r0 := HFX.out.hi.cell (j := 0) rfl
    have r1 := HFX.out.hi.cell (j := 1) rfl
    have r2 := HFX.out.hi.cell (j := 2) rfl
    have r3 := HFX.out.hi.cell (j := 3) rfl
    have rl := HFX.out.hi.lt
    have f0 := HFX.out.hi.frozen 0
    have f1 := HFX.out.hi.frozen 1
    have f2 := HFX.out.hi.frozen 2
    have f3 := HFX.out.hi.frozen 3
    have HFP := Lib.hid (HFX.out.put (.int .i64 x0) (.int .i64 x1) (.int .i64 x2) (.bool false))
    clear HFX
    go_wp2
    rw [← HQQ.out]
    exact bodyPost_ret (v := .tuple #[hitX (x0, x1, x2) false, .int .i64 c]) (by simp [results, Tryz.results9, go_sem, r0, r1, r2, r3]) rfl ⟨⟨false, rfl, (fun e => by cases e), Lib.hid ⟨(fun e => by cases e), fun _ => ⟨l1, q1, q2, Y1, HFG.out.1, HFG.out.2, HR1.out, HR2.out.1, HR2.out.2, l9, q9, HFP.out.st, HWX.out.1, HWX.out.2⟩⟩⟩, Lib.hid ⟨_, _, _, HFP.out.st, HI9.out⟩, HFP.out.kq⟩
end
end Go.Proofs.YteaincdeoajkeaaGreatDoor.Mm
end
section
/- Package mmu: find, Load. -/
namespace Go.Proofs.YteaincdeoajkeaaGreatDoor.Mm
open Go.RowKit Go.Shelf Ut Oc Vw Wa
open Sw (Ln tabL ownP fillS findS entS toldS Inv19 ErW)
open Sb (Rc findL withoutL entF entV)
set_option linter.unusedVariables false
set_option maxRecDepth 100000
set_option maxHeartbeats 8000000

/-- the Mmu is right -/
def MS (W : World) (u t g b s m : Nat) (S : List Int) (LM : List Gm.Pl) : Prop := ∃ D l q Y, ST W u t g b s m S LM D l q Y ∧ Inv S LM noE (dF D) l q
section
variable {W w w' : World} {u t g b s m : Nat} {S : List Int} {LM : List Gm.Pl}
theorem FdP.ms (h : FdP W u t g b s m S LM) : MS W u t g b s m S LM := by
 obtain ⟨l, q, Y, h1, h2⟩ := h
 exact ⟨noD, l, q, Y, h1, by rw [dF_no]; exact h2⟩
theorem MS.kq {T : List Nat} (h : MS W u t g b s m S LM) (k : Kq T W w') (hT : ∀ x ∈ [u, t, g, b, s, m, 0], x ∉ T) : MS w' u t g b s m S LM := by
 obtain ⟨D, l, q, Y, h1, h2⟩ := h
 exact ⟨D, l, q, Y, h1.kq k hT, h2⟩
theorem MS.more (h : MS W u t g b s m S LM) (hb : Below W.heap.size W w') : MS w' u t g b s m S LM := h.kq (T := []) (Kq.of_below hb) (fun _ _ => by simp)
theorem MS.lo (h : MS W u t g b s m S LM) : ∀ x ∈ [u, t, g, b, s, m, 0], x < W.heap.size := by
 obtain ⟨D, l, q, Y, h1, h2⟩ := h
 exact h1.lo
theorem MS.cell0 (h : MS W u t g b s m S LM) : W.cell? ⟨u, 0, none⟩ = some (.pointer (some ⟨b, 0, none⟩)) := by
 obtain ⟨D, l, q, Y, h1, h2⟩ := h
 exact h1.cell0
theorem MS.pv (h : MS W u t g b s m S LM) : ∃ D, PV W b s m 12 S LM D := by
 obtain ⟨D, l, q, Y, h1, h2⟩ := h
 exact ⟨D, h1.pv⟩
theorem find20_any (on us : Bool) (rt z k c : Int) (h : Int × Int × Int) (h0 : 0 ≤ z) (h1 : z < 4294967296) (hc : (locF 12 S LM on rt us z k).2 = c) (hh : (locF 12 S LM on rt us z k).1 = h) (hM : MS W u t g b s m S LM) :
  Calls Tryz.prog 9 #[.pointer (some ⟨u, 0, none⟩), modeV on rt us, .int .u32 z, .int .i64 k] W fun e w' => (∃ fast, e = .returned (.tuple #[hitX h fast, .int .i64 c]) ∧ (fast = true → on = true ∧ c = 0)) ∧ Hid (FdP w' u t g b s m S LM) ∧ Kq [b, u, t, g] W w' := by
 obtain ⟨D, l, q, Y, hst, hI⟩ := hM
 cases on
 ·exact find_off20 us rt z k c h h0 h1 hc hh hst hI
 ·exact (find_on20 us rt z k c h h0 h1 hc hh hst hI).mono fun e w' ⟨⟨f, q1, q2, _⟩, q3⟩ => ⟨⟨f, q1, q2⟩, q3⟩
/-- what find says -/
def lfC (S : List Int) (LM : List Gm.Pl) (on us : Bool) (rt z wd k : Int) : Int := if okZ wd z = true then (locF 12 S LM on rt us z k).2 else 1
def lfH (S : List Int) (LM : List Gm.Pl) (on us : Bool) (rt z wd k : Int) : Int × Int × Int := if okZ wd z = true then (locF 12 S LM on rt us z k).1 else (0, 0, 0)
theorem lfind20_any (on us : Bool) (rt z wd k : Int) (h0 : 0 ≤ z) (h1 : z < 4294967296) (hM : MS W u t g b s m S LM) :
  Calls Tryz.prog 45 #[.pointer (some ⟨u, 0, none⟩), modeV on rt us, .int .u32 z, .int .i64 wd, .int .i64 k] W fun e w' => (∃ fast, e = .returned (.tuple #[hitX (lfH S LM on us rt z wd k) fast, .int .i64 (lfC S LM on us rt z wd k)])) ∧ Hid (MS w' u t g b s m S LM) ∧ Kq [b, u, t, g] W w' := by
 obtain ⟨U, hU⟩ : ∃ U, U = (W.alloc (.cells #[.bool on, .int .i64 rt, .bool us] 30)).alloc (.cells #[.int .i64 0, .int .i64 0, .int .i64 0, .bool false] 36) := ⟨_, rfl⟩
 have hB : Below W.heap.size W U := by rw [hU]; exact ((Below.refl _ _).alloc (Nat.le_refl _) _).alloc (by simp) _
 have hm : Blk U W.heap.size 30 [.bool on, .int .i64 rt, .bool us] := by rw [hU]; exact (Blk.new W _ [.bool on, .int .i64 rt, .bool us]).more ((Below.refl _ _).alloc (Nat.le_refl _) _)
 have hh : Blk U (W.heap.size + 1) 36 [.int .i64 0, .int .i64 0, .int .i64 0, .bool false] := by
  have := Blk.new (W.alloc (.cells #[.bool on, .int .i64 rt, .bool us] 30)) 36 [.int .i64 0, .int .i64 0, .int .i64 0, .bool false]
  rw [World.size_alloc] at this
  rw [hU]
  exact this
 have hMU := hM.more hB
 have HMD := Lib.hid (made_yes20 U u b hMU.cell0 (hMU.lo u (by simp)))
 have HMU := Lib.hid hMU
 have HLO := Lib.hid hM.lo
 have HU := Lib.hid hU
 have HKU := Lib.hid (Kq.of_below (T := [b, u, t, g]) hB)
 have HM := Lib.hid hm
 have HH := Lib.hid hh
 have r0 := hh.cell (j := 0) rfl
 have r1 := hh.cell (j := 1) rfl
 have r2 := hh.cell (j := 2) rfl
 have r3 := hh.cell (j := 3) rfl
 have f0 := hh.frozen 0
 have f1 := hh.frozen 1
 have f2 := hh.frozen 2
 have f3 := hh.frozen 3
 have rl := hh.lt
 have m0 := hm.cell (j := 0) rfl
 have m1 := hm.cell (j := 1) rfl
 have m2 := hm.cell (j := 2) rfl
 have ml := hm.lt
 have HPUT : Hid (∀ (w : World) (v0 v1 v2 v3 : Value), MS w u t g b s m S LM → Kq [b, u, t, g] W w → MS ((((w.setCell ⟨W.heap.size + 1, 0, none⟩ v0).setCell ⟨W.heap.size + 1, 1, none⟩ v1).setCell ⟨W.heap.size + 1, 2, none⟩ v2).setCell ⟨W.heap.size + 1, 3, none⟩ v3) u t g b s m S LM ∧ Kq [b, u, t, g] W ((((w.setCell ⟨W.heap.size + 1, 0, none⟩ v0).setCell ⟨W.heap.size + 1, 1, none⟩ v1).setCell ⟨W.heap.size + 1, 2, none⟩ v2).setCell ⟨W.heap.size + 1, 3, none⟩ v3)) := Lib.hid fun w v0 v1 v2 v3 hs hk => by
  have k1 : Kq [W.heap.size + 1] w ((((w.setCell ⟨W.heap.size + 1, 0, none⟩ v0).setCell ⟨W.heap.size + 1, 1, none⟩ v1).setCell ⟨W.heap.size + 1, 2, none⟩ v2).setCell ⟨W.heap.size + 1, 3, none⟩ v3) := ((((Kq.refl [W.heap.size + 1] w).setCell _ _ _ (.inl (by simp))).setCell _ _ _ (.inl (by simp))).setCell _ _ _ (.inl (by simp))).setCell _ _ _ (.inl (by simp))
  exact ⟨hs.kq k1 (fun x hx => by have := HLO.out x hx; simp; omega), (((hk.setCell _ _ _ (.inr (by omega))).setCell _ _ _ (.inr (by omega))).setCell _ _ _ (.inr (by omega))).setCell _ _ _ (.inr (by omega))⟩
 clear hU hB hm hh hMU hM
 have HIW : Hid (∀ w, Calls Tryz.prog 84 #[.int .i64 wd] w fun e w' => e = .returned (.bool (isW wd)) ∧ w = w') := Lib.hid (isWidth20_any wd _ rfl)
 unfold lfH lfC
 rcases okZ_cases wd z h0 with ⟨ho, hw⟩ | ⟨rfl, ho, d0⟩ | ⟨rfl, ho, d0⟩ | ⟨rfl, ho⟩ | ⟨rfl, ho, d0⟩ | ⟨rfl, ho, d0⟩
 ·rw [if_neg (by rw [ho]; decide), if_neg (by rw [ho]; decide)]
  rw [hw] at HIW
  clear hw
  clear ho
  go_enter Tryz.func45, Tryz.ntmps45
  go_upto_region 1 with fail
  rw [← HU.out]
  clear HU
  go_wp2_with fail
  refine HMD.out.mono ?_
  rintro e w1 ⟨rfl, rfl⟩
  go_wp2_with fail
  refine (HIW.out _).mono ?_
  rintro e w1 ⟨rfl, rfl⟩
  go_wp2
  exact bodyPost_ret (v := .tuple #[hitX (0, 0, 0) false, .int .i64 1]) (by simp [results, Tryz.results45, go_sem, r0, r1, r2, r3]) rfl ⟨⟨false, rfl⟩, Lib.hid (HPUT.out _ _ _ _ _ HMU.out HKU.out).1, (HPUT.out _ _ _ _ _ HMU.out HKU.out).2⟩
 ·rw [if_neg (by rw [ho]; decide), if_neg (by rw [ho]; decide)]
  rw [show isW 2 = true from by decide] at HIW
  clear ho
  go_enter Tryz.func45, Tryz.ntmps45
  go_upto_region 1 with fail
  rw [← HU.out]
  clear HU
  go_wp2_with fail
  refine HMD.out.mono ?_
  rintro e w1 ⟨rfl, rfl⟩
  go_wp2_with fail
  refine (HIW.out _).mono ?_
  rintro e w1 ⟨rfl, rfl⟩
  go_wp2
  exact bodyPost_ret (v := .tuple #[hitX (0, 0, 0) false, .int .i64 1]) (by simp [results, Tryz.results45, go_sem, r0, r1, r2, r3]) rfl ⟨⟨false, rfl⟩, Lib.hid (HPUT.out _ _ _ _ _ HMU.out HKU.out).1, (HPUT.out _ _ _ _ _ HMU.out HKU.out).2⟩
 ·rw [if_neg (by rw [ho]; decide), if_neg (by rw [ho]; decide)]
  rw [show isW 4 = true from by decide] at HIW
  clear ho
  go_enter Tryz.func45, Tryz.ntmps45
  go_upto_region 1 with fail
  rw [← HU.out]
  clear HU
  go_wp2_with fail
  refine HMD.out.mono ?_
  rintro e w1 ⟨rfl, rfl⟩
  go_wp2_with fail
  refine (HIW.out _).mono ?_
  rintro e w1 ⟨rfl, rfl⟩
  go_wp2
  exact bodyPost_ret (v := .tuple #[hitX (0, 0, 0) false, .int .i64 1]) (by simp [results, Tryz.results45, go_sem, r0, r1, r2, r3]) rfl ⟨⟨false, rfl⟩, Lib.hid (HPUT.out _ _ _ _ _ HMU.out HKU.out).1, (HPUT.out _ _ _ _ _ HMU.out HKU.out).2⟩
 ·rw [if_pos ho, if_pos ho]
  rw [show isW 1 = true from by decide] at HIW
  obtain ⟨c, hc⟩ : ∃ c, (locF 12 S LM on rt us z k).2 = c := ⟨_, rfl⟩
  obtain ⟨hh, hhh⟩ : ∃ hh, (locF 12 S LM on rt us z k).1 = hh := ⟨_, rfl⟩
  rw [hc, hhh]
  have HFD := Lib.hid (find20_any on us rt z k c hh h0 h1 hc hhh HMU.out)
  obtain ⟨x0, x1, x2⟩ := hh
  clear ho hc hhh
  go_enter Tryz.func45, Tryz.ntmps45
  go_upto_region 1 with fail
  rw [← HU.out]
  clear HU
  go_wp2_with fail
  refine HMD.out.mono ?_
  rintro e w1 ⟨rfl, rfl⟩
  go_wp2_with fail
  refine (HIW.out _).mono ?_
  rintro e w1 ⟨rfl, rfl⟩
  go_wp2_with fail
  refine HFD.out.mono ?_
  rintro e w3 ⟨⟨fast, rfl, _⟩, HF3, hk3⟩
  have HM3 := Lib.hid HF3.out.ms
  have HK3 := Lib.hid (HKU.out.trans hk3)
  have hh := HH.out.kq hk3 (by have h1 := HLO.out u (by simp); have h2 := HLO.out t (by simp); have h3 := HLO.out g (by simp); have h4 := HLO.out b (by simp); simp; omega)
  clear r0 r1 r2 r3 f0 f1 f2 f3 rl m0 m1 m2 ml HF3 hk3 HFD HMD HIW
  have r0 := hh.cell (j := 0) rfl
  have r1 := hh.cell (j := 1) rfl
  have r2 := hh.cell (j := 2) rfl
  have r3 := hh.cell (j := 3) rfl
  have f0 := hh.frozen 0
  have f1 := hh.frozen 1
  have f2 := hh.frozen 2
  have f3 := hh.frozen 3
  have rl := hh.lt
  clear hh
  go_wp2
  exact bodyPost_ret (v := .tuple #[hitX (x0, x1, x2) fast, .int .i64 c]) (by simp [results, Tryz.results45, go_sem, r0, r1, r2, r3]) rfl ⟨⟨fast, rfl⟩, Lib.hid (HPUT.out _ _ _ _ _ HM3.out HK3.out).1, (HPUT.out _ _ _ _ _ HM3.out HK3.out).2⟩
 ·rw [if_pos ho, if_pos ho]
  rw [show isW 2 = true from by decide] at HIW
  obtain ⟨c, hc⟩ : ∃ c, (locF 12 S LM on rt us z k).2 = c := ⟨_, rfl⟩
  obtain ⟨hh, hhh⟩ : ∃ hh, (locF 12 S LM on rt us z k).1 = hh := ⟨_, rfl⟩
  rw [hc, hhh]
  have HFD := Lib.hid (find20_any on us rt z k c hh h0 h1 hc hhh HMU.out)
  obtain ⟨x0, x1, x2⟩ := hh
  clear ho hc hhh
  go_enter Tryz.func45, Tryz.ntmps45
  go_upto_region 1 with fail
  rw [← HU.out]
  clear HU
  go_wp2_with fail
  refine HMD.out.mono ?_
  rintro e w1 ⟨rfl, rfl⟩
  go_wp2_with fail
  refine (HIW.out _).mono ?_
  rintro e w1 ⟨rfl, rfl⟩
  go_wp2_with fail
  refine HFD.out.mono ?_
  rintro e w3 ⟨⟨fast, rfl, _⟩, HF3, hk3⟩
  have HM3 := Lib.hid HF3.out.ms
  have HK3 := Lib.hid (HKU.out.trans hk3)
  have hh := HH.out.kq hk3 (by have h1 := HLO.out u (by simp); have h2 := HLO.out t (by simp); have h3 := HLO.out g (by simp); have h4 := HLO.out b (by simp); simp; omega)
  clear r0 r1 r2 r3 f0 f1 f2 f3 rl m0 m1 m2 ml HF3 hk3 HFD HMD HIW
  have r0 := hh.cell (j := 0) rfl
  have r1 := hh.cell (j := 1) rfl
  have r2 := hh.cell (j := 2) rfl
  have r3 := hh.cell (j := 3) rfl
  have f0 := hh.frozen 0
  have f1 := hh.frozen 1
  have f2 := hh.frozen 2
  have f3 := hh.frozen 3
  have rl := hh.lt
  clear hh
  go_wp2
  exact bodyPost_ret (v := .tuple #[hitX (x0, x1, x2) fast, .int .i64 c]) (by simp [results, Tryz.results45, go_sem, r0, r1, r2, r3]) rfl ⟨⟨fast, rfl⟩, Lib.hid (HPUT.out _ _ _ _ _ HM3.out HK3.out).1, (HPUT.out _ _ _ _ _ HM3.out HK3.out).2⟩
 ·rw [if_pos ho, if_pos ho]
  rw [show isW 4 = true from by decide] at HIW
  obtain ⟨c, hc⟩ : ∃ c, (locF 12 S LM on rt us z k).2 = c := ⟨_, rfl⟩
  obtain ⟨hh, hhh⟩ : ∃ hh, (locF 12 S LM on rt us z k).1 = hh := ⟨_, rfl⟩
  rw [hc, hhh]
  have HFD := Lib.hid (find20_any on us rt z k c hh h0 h1 hc hhh HMU.out)
  obtain ⟨x0, x1, x2⟩ := hh
  clear ho hc hhh
  go_enter Tryz.func45, Tryz.ntmps45
  go_upto_region 1 with fail
  rw [← HU.out]
  clear HU
  go_wp2_with fail
  refine HMD.out.mono ?_
  rintro e w1 ⟨rfl, rfl⟩
  go_wp2_with fail
  refine (HIW.out _).mono ?_
  rintro e w1 ⟨rfl, rfl⟩
  go_wp2_with fail
  refine HFD.out.mono ?_
  rintro e w3 ⟨⟨fast, rfl, _⟩, HF3, hk3⟩
  have HM3 := Lib.hid HF3.out.ms
  have HK3 := Lib.hid (HKU.out.trans hk3)
  have hh := HH.out.kq hk3 (by have h1 := HLO.out u (by simp); have h2 := HLO.out t (by simp); have h3 := HLO.out g (by simp); have h4 := HLO.out b (by simp); simp; omega)
  clear r0 r1 r2 r3 f0 f1 f2 f3 rl m0 m1 m2 ml HF3 hk3 HFD HMD HIW
  have r0 := hh.cell (j := 0) rfl
  have r1 := hh.cell (j := 1) rfl
  have r2 := hh.cell (j := 2) rfl
  have r3 := hh.cell (j := 3) rfl
  have f0 := hh.frozen 0
  have f1 := hh.frozen 1
  have f2 := hh.frozen 2
  have f3 := hh.frozen 3
  have rl := hh.lt
  clear hh
  go_wp2
  exact bodyPost_ret (v := .tuple #[hitX (x0, x1, x2) fast, .int .i64 c]) (by simp [results, Tryz.results45, go_sem, r0, r1, r2, r3]) rfl ⟨⟨fast, rfl⟩, Lib.hid (HPUT.out _ _ _ _ _ HM3.out HK3.out).1, (HPUT.out _ _ _ _ _ HM3.out HK3.out).2⟩
end
end Go.Proofs.YteaincdeoajkeaaGreatDoor.Mm
end
