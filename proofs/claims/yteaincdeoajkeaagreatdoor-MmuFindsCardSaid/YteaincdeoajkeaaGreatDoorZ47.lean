/- Several texts in one: Mo Mp Mq Ix -/
import Derived.Test.YteaincdeoajkeaaGreatDoorZ46
import Derived.Test.YteaincdeoajkeaaGreatDoorZ34
import Derived.Test.YteaincdeoajkeaaGreatDoorZ23
import Derived.Test.YteaincdeoajkeaaGreatDoorZ33
import Derived.Great.Walk
section
/- Package mmu: Load, Save. -/
namespace Go.Proofs.YteaincdeoajkeaaGreatDoor.Mm
open Go.RowKit Go.Shelf Ut Oc Vw Wa
open Sw (Ln tabL ownP fillS findS entS toldS Inv19 ErW)
open Sb (Rc findL withoutL entF entV)
set_option linter.unusedVariables false
set_option maxRecDepth 100000
set_option maxHeartbeats 8000000

section
variable {S : List Int} {LM : List Gm.Pl} {l : List Ln} {q : List Rc} {D : List Bool}
theorem find_at {L : List Gm.Pl} {y k : Int} (h0 : 0 ≤ y) (h : findF 12 L y 1 k = 0) : ∃ j : Nat, y / 64 = j ∧ j < 12 ∧ hitF 12 L y 1 k = ((j : Int), (Gm.atP L j).1, y % 64) ∧ Gm.alwF (Gm.atP L j) j k = 0 ∧ (Gm.atP L j).1 < 12 := by
 have hh : hitF 12 L y 1 k = (y / 64, (Gm.atP L (y / 64)).1, y % 64) := if_pos h
 have hfl : fltF L y 1 k = 0 := by
  unfold findF at h
  by_cases e : fltF L y 1 k = 0
  ·exact e
  ·rw [if_neg e] at h; exact h
 unfold findF at h
 rw [if_pos hfl] at h
 unfold fltF at hfl
 rw [if_pos (by simp [isW, Int.emod_one])] at hfl
 by_cases hb : 768 ≤ y
 ·rw [if_pos hb] at hfl; exact absurd hfl (by decide)
 ·rw [if_neg hb] at hfl
  refine ⟨(y / 64).toNat, by omega, by omega, ?_, ?_, ?_⟩
  ·rw [hh, Int.toNat_of_nonneg (by omega)]
  ·rw [Int.toNat_of_nonneg (by omega)]; exact hfl
  ·rw [Int.toNat_of_nonneg (by omega)]
   by_cases hf : (Gm.atP L (y / 64)).1 < (12 : Nat)
   ·exact hf
   ·rw [if_neg hf] at h; exact absurd h (by decide)
theorem loc_at {L : List Gm.Pl} {on us : Bool} {rt z k : Int} (h0 : 0 ≤ z) (h : (locF 12 S L on rt us z k).2 = 0) : ∃ j : Nat, j < 12 ∧ (locF 12 S L on rt us z k).1 = ((j : Int), (Gm.atP L j).1, z % 64) ∧ Gm.alwF (Gm.atP L j) j k = 0 ∧ (Gm.atP L j).1 < 12 := by
 unfold locF at h ⊢
 by_cases c1 : on = false
 ·rw [if_pos c1] at h ⊢
  obtain ⟨j, _, h1, h2, h3, h4⟩ := find_at h0 h
  exact ⟨j, h1, h2, h3, h4⟩
 ·rw [if_neg c1] at h ⊢
  by_cases c2 : (walkF 12 S L rt z).f ≠ 0
  ·rw [if_pos c2] at h; exact absurd h c2
  ·rw [if_neg c2] at h ⊢
   by_cases c3 : Pe.alwB (walkF 12 S L rt z).o (walkF 12 S L rt z).r k us = false
   ·rw [if_pos c3] at h; exact absurd h (by decide)
   ·rw [if_neg c3] at h ⊢
    obtain ⟨g0, g1⟩ := walkF_page (Decidable.not_not.1 c2)
    obtain ⟨j, _, h1, h2, h3, h4⟩ := find_at (by omega) h
    refine ⟨j, h1, ?_, h3, h4⟩
    have e : ((walkF 12 S L rt z).g * 64 + z % 64) % 64 = z % 64 := by omega
    rw [e] at h2
    exact h2
/-- what Save by an address lays, the view lays at the page's own address -/
theorem ss_is {on us : Bool} {rt z wd x : Int} (h0 : 0 ≤ z) (ho : okZ wd z = true) (h : (locF 12 S LM on rt us z 2).2 = 0) : ∃ j : Nat, j < 12 ∧ (locF 12 S LM on rt us z 2).1 = ((j : Int), (Gm.atP LM j).1, z % 64) ∧ ss20 12 S LM on rt us z wd x = saveS 12 S LM ((j : Int) * 64 + z % 64) wd x ∧ findF 12 LM ((j : Int) * 64 + z % 64) wd 2 = 0 := by
 obtain ⟨j, hj, hh, hal, hfr⟩ := loc_at h0 h
 have e1 : ((j : Int) * 64 + z % 64) / 64 = j := by omega
 have e2 : ((j : Int) * 64 + z % 64) % 64 = z % 64 := by omega
 have hf : findF 12 LM ((j : Int) * 64 + z % 64) wd 2 = 0 := by
  have hfl : fltF LM ((j : Int) * 64 + z % 64) wd 2 = 0 := by
   unfold fltF
   rw [if_pos, if_neg (by omega), e1]
   ·exact hal
   ·have ho' := ho
    unfold okZ at ho
    rw [Bool.and_eq_true, beq_iff_eq] at ho
    rw [Bool.and_eq_true, beq_iff_eq]
    refine ⟨ho.1, ?_⟩
    have hw := ho.1
    have hz := ho.2
    unfold isW at hw
    simp at hw
    rcases (show wd = 1 ∨ wd = 2 ∨ wd = 4 by omega) with rfl | rfl | rfl <;> omega
  unfold findF
  rw [if_pos hfl, e1, if_pos (show (Gm.atP LM (j : Int)).1 < ((12 : Nat) : Int) from hfr)]
 refine ⟨j, hj, hh, ?_, hf⟩
 unfold ss20
 rw [if_pos ho, if_pos h, hh]
 unfold saveS svL
 rw [if_pos hf, e1, e2]
/-- what is written by the view is known to it -/
theorem Inv.vsave (h : Inv S LM noE (dF D) l q) (hS : S.length = 2048) (hL : Lay LM) (hD : D.length = 12) {z wd x : Int} (h0 : 0 ≤ z) : Inv (saveS 12 S LM z wd x) LM noE (dF (saveD 12 LM D z wd)) l q := by
 by_cases hf : findF 12 LM z wd 2 = 0
 ·obtain ⟨M, j, f, o, H, _⟩ := find_zero hL.1 h0 hf
  rw [saveS_is hf H, saveD_is hf H]
  have hpl : Gm.atP LM (z / 64) = Gm.plN LM j := by rw [H.hj, Gm.atP_is H.j12]
  have hfr : frN LM j = f := by
   unfold frN
   rw [← hpl, H.hat]
   exact Int.toNat_natCast f
  have hth : Gm.thB (Gm.plN LM j) = true := by rw [← hpl]; exact H.th
  have hxl : (putZ (Fr.frameL S f) o M x).length = 64 := by
   rw [length_putZ _ _ _ _ (by rw [Fr.length_frameL hS H.f32]; exact H.fit), Fr.length_frameL hS H.f32]
  have := h.write (F' := dF (D.set j true)) hS hL H.j12 hth hxl (fun p hp => ?_) ?_
  ·rw [hfr] at this
   exact this
  ·unfold dF at hp ⊢
   simp only [Bool.and_eq_true, decide_eq_true_eq] at hp ⊢
   refine ⟨hp.1, ?_⟩
   rw [List.getD_eq_getElem?_getD, List.getElem?_set]
   by_cases e : j = p.toNat
   ·rw [if_pos e, if_pos (by rw [hD]; exact H.j12)]
    rfl
   ·rw [if_neg e, ← List.getD_eq_getElem?_getD]
    exact hp.2
  ·unfold dF
   rw [Int.toNat_natCast, List.getD_eq_getElem?_getD, List.getElem?_set, if_pos rfl, if_pos (by rw [hD]; exact H.j12)]
   simp
 ·unfold saveS saveD
  rw [if_neg hf, if_neg hf]
  exact h
theorem lf_good {on us : Bool} {rt z wd k : Int} (h : lfC S LM on us rt z wd k = 0) : okZ wd z = true ∧ (locF 12 S LM on rt us z k).2 = 0 ∧ lfH S LM on us rt z wd k = (locF 12 S LM on rt us z k).1 := by
 unfold lfC at h
 by_cases ho : okZ wd z = true
 ·rw [if_pos ho] at h
  exact ⟨ho, h, by unfold lfH; rw [if_pos ho]⟩
 ·rw [if_neg ho] at h; exact absurd h (by decide)
theorem ld_bad {on us : Bool} {rt z wd k : Int} (h : lfC S LM on us rt z wd k ≠ 0) : ld20 12 S LM on rt us z wd k = (0, lfC S LM on us rt z wd k) := by
 unfold ld20
 unfold lfC at h ⊢
 by_cases ho : okZ wd z = true
 ·rw [if_pos ho] at h
  rw [if_pos ho, if_pos ho, if_neg h]
 ·rw [if_neg ho, if_neg ho]
theorem ld_good {on us : Bool} {rt z wd k : Int} (h : lfC S LM on us rt z wd k = 0) : ld20 12 S LM on rt us z wd k = (ldU S (lfH S LM on us rt z wd k) wd, 0) := by
 obtain ⟨ho, h1, h2⟩ := lf_good h
 unfold ld20
 rw [if_pos ho, if_pos h1, h2]
theorem sc_is {on us : Bool} {rt z wd : Int} : sc20 12 S LM on rt us z wd = lfC S LM on us rt z wd 2 := rfl
theorem ss_bad {on us : Bool} {rt z wd x : Int} (h : lfC S LM on us rt z wd 2 ≠ 0) : ss20 12 S LM on rt us z wd x = S := by
 unfold ss20
 unfold lfC at h
 by_cases ho : okZ wd z = true
 ·rw [if_pos ho] at h ⊢
  rw [if_neg h]
 ·rw [if_neg ho]
end
section
variable {W w w' : World} {u t g b s m : Nat} {S S' : List Int} {LM : List Gm.Pl}
theorem MS.st (h : MS W u t g b s m S LM) : Fr.St W s 12 S := by
 obtain ⟨D, hp⟩ := h.pv
 exact hp.st
theorem load20_any (on us : Bool) (rt z wd k : Int) (h0 : 0 ≤ z) (h1 : z < 4294967296) (hM : MS W u t g b s m S LM) :
  Calls Tryz.prog 11 #[.pointer (some ⟨u, 0, none⟩), modeV on rt us, .int .u32 z, .int .i64 wd, .int .i64 k] W fun e w' => e = .returned (.tuple #[.int .u32 (ld20 12 S LM on rt us z wd k).1, .int .i64 (ld20 12 S LM on rt us z wd k).2]) ∧ Hid (MS w' u t g b s m S LM) ∧ Kq [b, u, t, g] W w' := by
 obtain ⟨U, hU⟩ : ∃ U, U = W.alloc (.cells #[.bool on, .int .i64 rt, .bool us] 30) := ⟨_, rfl⟩
 have hB : Below W.heap.size W U := by rw [hU]; exact (Below.refl _ _).alloc (Nat.le_refl _) _
 have hm : Blk U W.heap.size 30 [.bool on, .int .i64 rt, .bool us] := by rw [hU]; exact Blk.new W _ [.bool on, .int .i64 rt, .bool us]
 have hMU := hM.more hB
 obtain ⟨c, hc⟩ : ∃ c, lfC S LM on us rt z wd k = c := ⟨_, rfl⟩
 obtain ⟨hh, hhh⟩ : ∃ hh, lfH S LM on us rt z wd k = hh := ⟨_, rfl⟩
 have hfd := lfind20_any on us rt z wd k h0 h1 hMU
 rw [hc, hhh] at hfd
 have HFD := Lib.hid hfd
 have HU := Lib.hid hU
 have HKU := Lib.hid (Kq.of_below (T := [b, u, t, g]) hB)
 have m0 := hm.cell (j := 0) rfl
 have m1 := hm.cell (j := 1) rfl
 have m2 := hm.cell (j := 2) rfl
 have ml := hm.lt
 have HLO := Lib.hid hM.lo
 by_cases hz : c = 0
 ·rw [ld_good (hc.trans hz), hhh]
  subst hz
  obtain ⟨ho, hl, hlh⟩ := lf_good hc
  rw [hhh] at hlh
  obtain ⟨j, f, o, e1, hj, hf12, hf32, hoz, ho64⟩ := loc_hit (by obtain ⟨D, l, q, Y, q1, _⟩ := hM; exact q1.lay.1) h0 hl
  rw [← hlh] at e1
  subst e1
  obtain ⟨M, hM1, hM2, hM3⟩ := ok_fit h0 ho hoz
  obtain ⟨v, hv⟩ : ∃ v, ldU S ((j : Int), (f : Int), (o : Int)) wd = v := ⟨_, rfl⟩
  rw [hv]
  have HSR : Hid (∀ w, MS w u t g b s m S LM → Calls Tryz.prog 20 #[.pointer (some ⟨b, 0, none⟩)] w fun e w' => e = .returned (.pointer (some ⟨s, 0, none⟩)) ∧ w = w') := Lib.hid fun w hw => by
   obtain ⟨D, hp⟩ := hw.pv
   exact store_any w hp
  have HLD : Hid (∀ w, MS w u t g b s m S LM → Calls Tryz.prog 46 #[.pointer (some ⟨s, 0, none⟩), .int .i64 (f : Int), .int .i64 (o : Int), .int .i64 wd] w fun e w' => e = .returned (.tuple #[.int .u32 v, .int .i64 0]) ∧ w = w') := Lib.hid fun w hw => by
   have := Fr.load_in s 12 f o M S w hw.st hf12 hM2 hM3
   rw [← hM1] at this
   rw [← hv]
   unfold ldU
   dsimp only
   rw [Int.toNat_natCast, Int.toNat_natCast, hM1, Int.toNat_natCast]
   rw [hM1] at this
   exact this
  obtain ⟨hh, hhx⟩ : ∃ hh : Int × Int × Int, hh = ((j : Int), (f : Int), (o : Int)) := ⟨_, rfl⟩
  rw [← hhx] at HFD
  have HX : Hid (hh = ((j : Int), (f : Int), (o : Int))) := Lib.hid hhx
  generalize (j : Int) = J at HX
  generalize (f : Int) = F at HX HLD
  generalize (o : Int) = O at HX HLD
  clear hhx hU hB hm hMU hM hc hhh hfd ho hl hlh hj hf12 hf32 hoz ho64 hM1 hM2 hM3 hv
  obtain ⟨x0, x1, x2⟩ := hh
  go_enter Tryz.func11, Tryz.ntmps11
  go_upto_region 1 with fail
  rw [← HU.out]
  clear HU
  go_wp2_with fail
  refine HFD.out.mono ?_
  rintro e w2 ⟨⟨fast, rfl⟩, HM2, hk2⟩
  obtain ⟨V, hV⟩ : ∃ V, V = w2.alloc (.cells #[.int .i64 x0, .int .i64 x1, .int .i64 x2, .bool fast] 36) := ⟨_, rfl⟩
  have hbV : Below w2.heap.size w2 V := by rw [hV]; exact (Below.refl _ _).alloc (Nat.le_refl _) _
  have hNV : Blk V w2.heap.size 36 [.int .i64 x0, .int .i64 x1, .int .i64 x2, .bool fast] := by rw [hV]; exact Blk.new w2 _ _
  have HV := Lib.hid hV
  have HMV := Lib.hid (HM2.out.more hbV)
  have HNV := Lib.hid hNV
  have HKV := Lib.hid ((HKU.out.trans hk2).trans (Kq.of_below hbV))
  have HAW : Hid (W.heap.size + 1 ≤ w2.heap.size) := Lib.hid (by have h1 := hk2.size; have h2 := ml; omega)
  clear m0 m1 m2 HM2 hk2 hV hbV hNV HFD HKU
  go_upto_region 2 with fail
  rw [← HV.out]
  clear HV ml
  generalize w2.heap.size = nb at HNV HAW ⊢
  have hx := HX.out
  simp only [Prod.mk.injEq] at hx
  obtain ⟨rfl, rfl, rfl⟩ := hx
  go_upto_region 4 with fail
  apply wp_region_xa [29, 30, 31, 32, 33, 34, 35, 36, 37, 38, 39, 28, 40, 41, 14, 15] [_, _, _, _, _, _, _, _, _, _, _, _, _, _, _, _] [] (fun L_ x_ W' => MS W' u t g b s m S LM ∧ Below V.heap.size V W')
  case hm => kernel_rfl
  case hT => intro y; simp only [setAll, List.setIfInBounds_toArray, List.set_cons_succ, List.set_cons_zero]; exact rfl
  case hok => kernel_rfl
  case hw => exact (fun L_ x_ h0 => ⟨HMV.out.more ((Below.refl _ _).drew), (Below.refl _ _).drew⟩)
  case hs =>
   refine xa_op 29 [] (by kernel_rfl) (fun L y w' hL hC HW hd K hK => ?_) ?_
   ·go_simp
    refine hK _ _ ?_ ?_ HW
    ·simp [upd]
    ·exact rfl
   refine xa_op 30 [0] (by kernel_rfl) (fun L y w' hL hC HW hd K hK => ?_) ?_
   ·have e0 := xR_nth (hd 0 (by simp)).2 rfl rfl
    go_simp
    refine hK _ _ ?_ ?_ HW
    ·simp [upd, e0]
    ·exact rfl
   refine xa_op 31 [1] (by kernel_rfl) (fun L y w' hL hC HW hd K hK => ?_) ?_
   ·have e1 := xR_nth (hd 1 (by simp)).2 rfl rfl
    go_simp
    refine hK _ _ ?_ ?_ HW
    ·simp [upd, e1]
    ·exact rfl
   refine xa_op 32 [2] (by kernel_rfl) (fun L y w' hL hC HW hd K hK => ?_) ?_
   ·have e2 := xR_nth (hd 2 (by simp)).2 rfl rfl
    have u0 := HW.1.cell0
    have ul := HW.1.lo u (by simp)
    go_simp
    refine hK _ _ ?_ ?_ HW
    ·simp [upd, e2]
    ·exact rfl
   refine xa_op 33 [3] (by kernel_rfl) (fun L y w' hL hC HW hd K hK => ?_) ?_
   ·have e3 := xR_nth (hd 3 (by simp)).2 rfl rfl
    go_simp
    refine (HSR.out _ HW.1).mono ?_
    rintro e w3 ⟨rfl, rfl⟩
    refine hK _ _ ?_ ?_ HW
    ·simp [upd, e3]
    ·exact rfl
   refine xa_op 34 [] (by kernel_rfl) (fun L y w' hL hC HW hd K hK => ?_) ?_
   ·go_simp
    refine hK _ _ ?_ ?_ HW
    ·simp [upd]
    ·exact rfl
   refine xa_op 35 [5] (by kernel_rfl) (fun L y w' hL hC HW hd K hK => ?_) ?_
   ·have e5 := xR_nth (hd 5 (by simp)).2 rfl rfl
    have xn := HNV.out.more HW.2
    have n1 := xn.cell (j := 1) rfl
    have nl := xn.lt
    go_simp
    refine hK _ _ ?_ ?_ HW
    ·simp [upd, e5]
    ·exact rfl
   refine xa_op 36 [] (by kernel_rfl) (fun L y w' hL hC HW hd K hK => ?_) ?_
   ·go_simp
    refine hK _ _ ?_ ?_ HW
    ·simp [upd]
    ·exact rfl
   refine xa_op 37 [7] (by kernel_rfl) (fun L y w' hL hC HW hd K hK => ?_) ?_
   ·have e7 := xR_nth (hd 7 (by simp)).2 rfl rfl
    have xn := HNV.out.more HW.2
    have n2 := xn.cell (j := 2) rfl
    have nl := xn.lt
    go_simp
    refine hK _ _ ?_ ?_ HW
    ·simp [upd, e7]
    ·exact rfl
   refine xa_op 38 [] (by kernel_rfl) (fun L y w' hL hC HW hd K hK => ?_) ?_
   ·go_simp
    refine hK _ _ ?_ ?_ HW
    ·simp [upd]
    ·exact rfl
   refine xa_op 39 [4, 6, 8, 9, 4] (by kernel_rfl) (fun L y w' hL hC HW hd K hK => ?_) ?_
   ·have e4 := xR_nth (hd 4 (by simp)).2 rfl rfl
    have e6 := xR_nth (hd 6 (by simp)).2 rfl rfl
    have e8 := xR_nth (hd 8 (by simp)).2 rfl rfl
    have e9 := xR_nth (hd 9 (by simp)).2 rfl rfl
    go_simp
    refine (HLD.out _ HW.1).mono ?_
    rintro e w3 ⟨rfl, rfl⟩
    refine hK _ _ ?_ ?_ HW
    ·simp [upd, e4, e6, e8, e9]
    ·exact rfl
   refine xa_op 28 [10] (by kernel_rfl) (fun L y w' hL hC HW hd K hK => ?_) ?_
   ·have e10 := xR_nth (hd 10 (by simp)).2 rfl rfl
    go_simp
    refine hK _ _ ?_ ?_ HW
    ·simp [upd, e10]
    ·exact rfl
   refine xa_op 40 [11] (by kernel_rfl) (fun L y w' hL hC HW hd K hK => ?_) ?_
   ·have e11 := xR_nth (hd 11 (by simp)).2 rfl rfl
    go_simp
    refine hK _ _ ?_ ?_ HW
    ·simp [upd, e11]
    ·exact rfl
   refine xa_op 41 [11] (by kernel_rfl) (fun L y w' hL hC HW hd K hK => ?_) ?_
   ·have e11 := xR_nth (hd 11 (by simp)).2 rfl rfl
    go_simp
    refine hK _ _ ?_ ?_ HW
    ·simp [upd, e11]
    ·exact rfl
   refine xa_op 14 [12, 10, 0, 1, 2, 3, 4, 5, 6, 7, 8, 9, 10, 11, 12] (by kernel_rfl) (fun L y w' hL hC HW hd K hK => ?_) ?_
   ·have e0 := xR_nth (hd 0 (by simp)).2 rfl rfl
    have e1 := xR_nth (hd 1 (by simp)).2 rfl rfl
    have e2 := xR_nth (hd 2 (by simp)).2 rfl rfl
    have e3 := xR_nth (hd 3 (by simp)).2 rfl rfl
    have e4 := xR_nth (hd 4 (by simp)).2 rfl rfl
    have e5 := xR_nth (hd 5 (by simp)).2 rfl rfl
    have e6 := xR_nth (hd 6 (by simp)).2 rfl rfl
    have e7 := xR_nth (hd 7 (by simp)).2 rfl rfl
    have e8 := xR_nth (hd 8 (by simp)).2 rfl rfl
    have e9 := xR_nth (hd 9 (by simp)).2 rfl rfl
    have e10 := xR_nth (hd 10 (by simp)).2 rfl rfl
    have e11 := xR_nth (hd 11 (by simp)).2 rfl rfl
    have e12 := xR_nth (hd 12 (by simp)).2 rfl rfl
    go_simp
    refine hK _ _ ?_ ?_ HW
    ·simp [upd, e0, e1, e2, e3, e4, e5, e6, e7, e8, e9, e10, e11, e12]
    ·exact rfl
   refine xa_op 15 [13, 14, 0, 1, 2, 3, 4, 5, 6, 7, 8, 9, 10, 11, 12, 13, 14] (by kernel_rfl) (fun L y w' hL hC HW hd K hK => ?_) ?_
   ·have e0 := xR_nth (hd 0 (by simp)).2 rfl rfl
    have e1 := xR_nth (hd 1 (by simp)).2 rfl rfl
    have e2 := xR_nth (hd 2 (by simp)).2 rfl rfl
    have e3 := xR_nth (hd 3 (by simp)).2 rfl rfl
    have e4 := xR_nth (hd 4 (by simp)).2 rfl rfl
    have e5 := xR_nth (hd 5 (by simp)).2 rfl rfl
    have e6 := xR_nth (hd 6 (by simp)).2 rfl rfl
    have e7 := xR_nth (hd 7 (by simp)).2 rfl rfl
    have e8 := xR_nth (hd 8 (by simp)).2 rfl rfl
    have e9 := xR_nth (hd 9 (by simp)).2 rfl rfl
    have e10 := xR_nth (hd 10 (by simp)).2 rfl rfl
    have e11 := xR_nth (hd 11 (by simp)).2 rfl rfl
    have e12 := xR_nth (hd 12 (by simp)).2 rfl rfl
    have e13 := xR_nth (hd 13 (by simp)).2 rfl rfl
    have e14 := xR_nth (hd 14 (by simp)).2 rfl rfl
    go_simp
    refine hK _ _ ?_ ?_ HW
    ·simp [upd, e0, e1, e2, e3, e4, e5, e6, e7, e8, e9, e10, e11, e12, e13, e14]
    ·exact rfl
   exact xa_nil
  case he =>
   intro L y w' hLs HW hd
   have e0 := xR_nth (hd 0 (by decide)) rfl rfl
   have e1 := xR_nth (hd 1 (by decide)) rfl rfl
   have e2 := xR_nth (hd 2 (by decide)) rfl rfl
   have e3 := xR_nth (hd 3 (by decide)) rfl rfl
   have e4 := xR_nth (hd 4 (by decide)) rfl rfl
   have e5 := xR_nth (hd 5 (by decide)) rfl rfl
   have e6 := xR_nth (hd 6 (by decide)) rfl rfl
   have e7 := xR_nth (hd 7 (by decide)) rfl rfl
   have e8 := xR_nth (hd 8 (by decide)) rfl rfl
   have e9 := xR_nth (hd 9 (by decide)) rfl rfl
   have e10 := xR_nth (hd 10 (by decide)) rfl rfl
   have e11 := xR_nth (hd 11 (by decide)) rfl rfl
   have e12 := xR_nth (hd 12 (by decide)) rfl rfl
   have e13 := xR_nth (hd 13 (by decide)) rfl rfl
   have e14 := xR_nth (hd 14 (by decide)) rfl rfl
   have e15 := xR_nth (hd 15 (by decide)) rfl rfl
   have HM9 := Lib.hid HW.1
   have HB9 := Lib.hid HW.2
   simp only [e0, e1, e2, e3, e4, e5, e6, e7, e8, e9, e10, e11, e12, e13, e14, e15]
   clear hd hLs e0 e1 e2 e3 e4 e5 e6 e7 e8 e9 e10 e11 e12 e13 e14 e15
   have HK9 := Lib.hid (HKV.out.trans (Kq.of_below HB9.out))
   clear HW HB9 HMV HNV HKV HSR HLD HAW
   go_wp2
   go_ret2
   exact ⟨rfl, HM9, HK9.out⟩
 ·rw [ld_bad (by rw [hc]; exact hz), hc]
  have hcb : (c != 0) = true := by simp [hz]
  clear hU hB hm hMU hM hc hhh hfd hz
  obtain ⟨x0, x1, x2⟩ := hh
  go_enter Tryz.func11, Tryz.ntmps11
  go_upto_region 1 with fail
  rw [← HU.out]
  clear HU
  go_wp2_with fail
  refine HFD.out.mono ?_
  rintro e w2 ⟨⟨fast, rfl⟩, HM2, hk2⟩
  obtain ⟨V, hV⟩ : ∃ V, V = w2.alloc (.cells #[.int .i64 x0, .int .i64 x1, .int .i64 x2, .bool fast] 36) := ⟨_, rfl⟩
  have hbV : Below w2.heap.size w2 V := by rw [hV]; exact (Below.refl _ _).alloc (Nat.le_refl _) _
  have hNV : Blk V w2.heap.size 36 [.int .i64 x0, .int .i64 x1, .int .i64 x2, .bool fast] := by rw [hV]; exact Blk.new w2 _ _
  have HV := Lib.hid hV
  have HMV := Lib.hid (HM2.out.more hbV)
  have HNV := Lib.hid hNV
  have HKV := Lib.hid ((HKU.out.trans hk2).trans (Kq.of_below hbV))
  have HAW : Hid (W.heap.size + 1 ≤ w2.heap.size) := Lib.hid (by have h1 := hk2.size; have h2 := ml; omega)
  clear m0 m1 m2 HM2 hk2 hV hbV hNV HFD HKU
  go_upto_region 2 with fail
  rw [← HV.out]
  clear HV ml
  generalize w2.heap.size = nb at HNV HAW ⊢
  go_wp2
  go_ret2
  exact ⟨rfl, HMV, HKV.out⟩
theorem MS.vsave {z wd x : Int} {D : List Bool} {l : List Ln} {q : List Rc} {Y : List Gm.Pl} (hst : ST W u t g b s m S LM D l q Y) (hI : Inv S LM noE (dF D) l q) (h0 : 0 ≤ z) (hp : PV w' b s m 12 (saveS 12 S LM z wd x) LM (saveD 12 LM D z wd)) (hk : Kq [s, b] W w') : ST w' u t g b s m (saveS 12 S LM z wd x) LM (saveD 12 LM D z wd) l q Y ∧ Inv (saveS 12 S LM z wd x) LM noE (dF (saveD 12 LM D z wd)) l q :=
 ⟨hst.view hk (fun x hx => by simp at hx; rcases hx with h | h <;> simp [h]) hp hst.lay, hI.vsave hst.pv.st.2.1 hst.lay hst.pv.len h0⟩
theorem save20_any (on us : Bool) (rt z wd x : Int) (h0 : 0 ≤ z) (h1 : z < 4294967296) (hx0 : 0 ≤ x) (hx1 : x < 4294967296) (hM : MS W u t g b s m S LM) :
  Calls Tryz.prog 18 #[.pointer (some ⟨u, 0, none⟩), modeV on rt us, .int .u32 z, .int .i64 wd, .int .u32 x] W fun e w' => e = .returned (.int .i64 (sc20 12 S LM on rt us z wd)) ∧ Hid (MS w' u t g b s m (ss20 12 S LM on rt us z wd x) LM) ∧ Kq [b, s, u, t, g] W w' := by
 obtain ⟨U, hU⟩ : ∃ U, U = W.alloc (.cells #[.bool on, .int .i64 rt, .bool us] 30) := ⟨_, rfl⟩
 have hB : Below W.heap.size W U := by rw [hU]; exact (Below.refl _ _).alloc (Nat.le_refl _) _
 have hm : Blk U W.heap.size 30 [.bool on, .int .i64 rt, .bool us] := by rw [hU]; exact Blk.new W _ [.bool on, .int .i64 rt, .bool us]
 have hMU := hM.more hB
 obtain ⟨c, hc⟩ : ∃ c, lfC S LM on us rt z wd 2 = c := ⟨_, rfl⟩
 obtain ⟨hh, hhh⟩ : ∃ hh, lfH S LM on us rt z wd 2 = hh := ⟨_, rfl⟩
 have hfd := lfind20_any on us rt z wd 2 h0 h1 hMU
 rw [hc, hhh] at hfd
 have HFD := Lib.hid hfd
 have HU := Lib.hid hU
 have HKU := Lib.hid (Kq.of_below (T := [b, u, t, g]) hB)
 have m0 := hm.cell (j := 0) rfl
 have m1 := hm.cell (j := 1) rfl
 have m2 := hm.cell (j := 2) rfl
 have ml := hm.lt
 have HLO := Lib.hid hM.lo
 rw [sc_is, hc]
 by_cases hz : c = 0
 ·subst hz
  obtain ⟨ho, hl, hlh⟩ := lf_good hc
  rw [hhh] at hlh
  obtain ⟨j, hj, e1, hss, hff⟩ := ss_is (x := x) h0 ho hl
  rw [hss]
  rw [e1] at hlh
  subst hlh
  have HSV : Hid (∀ w, MS w u t g b s m S LM → Calls Tryz.prog 32 #[.pointer (some ⟨b, 0, none⟩), .int .u32 ((j : Int) * 64 + z % 64), .int .i64 wd, .int .u32 x] w fun e w' => e = .returned (.int .i64 0) ∧ Hid (MS w' u t g b s m (saveS 12 S LM ((j : Int) * 64 + z % 64) wd x) LM) ∧ Kq [s, b] w w') := Lib.hid fun w hw => by
   obtain ⟨D, l, q, Y, hst, hI⟩ := hw
   exact (save_any ((j : Int) * 64 + z % 64) wd x 0 _ _ (by omega) (by omega) hx0 hx1 hff rfl rfl w hst.pv).mono fun e w' ⟨q1, q2, q3⟩ => ⟨q1, Lib.hid ⟨_, l, q, Y, MS.vsave hst hI (by omega) q2 q3⟩, q3⟩
  generalize saveS 12 S LM ((j : Int) * 64 + z % 64) wd x = S9 at HSV ⊢
  have HWR : Hid (∀ w, MS w u t g b s m S9 LM → Calls Tryz.prog 53 #[.pointer (some ⟨u, 0, none⟩), .int .i64 (j : Int)] w fun e w' => e = .returned (.tuple #[]) ∧ Hid (MS w' u t g b s m S9 LM) ∧ Kq [t, g] w w') := Lib.hid fun w hw => by
   obtain ⟨D, l, q, Y, hst, hI⟩ := hw
   exact (wrote20_any j hj hst).mono fun e w' ⟨q1, q2, q3⟩ => ⟨q1, Lib.hid (by
    obtain ⟨l2, q2', r1, r2, _⟩ := q2.out
    exact ⟨D, l2, q2', Y, r1, hI.forg r2⟩), q3⟩
  have hb1 : 0 ≤ z % 64 := by omega
  have hb2 : z % 64 < 64 := by omega
  have hj0 : (0 : Int) ≤ (j : Int) := by omega
  have hj12 : (j : Int) < 12 := by omega
  have hwp : IntKind.u32.wrap (IntKind.i64.wrap (IntKind.i64.wrap ((j : Int) * 64) + z % 64)) = (j : Int) * 64 + z % 64 := by
   simp [IntKind.wrap, IntKind.bits, IntKind.signed]
   omega
  generalize z % 64 = O at *
  generalize (Gm.atP LM j).1 = F at *
  have HWP := Lib.hid hwp
  clear hwp
  obtain ⟨hh, hhx⟩ : ∃ hh : Int × Int × Int, hh = ((j : Int), F, O) := ⟨_, rfl⟩
  rw [← hhx] at HFD
  have HX : Hid (hh = ((j : Int), F, O)) := Lib.hid hhx
  generalize (j : Int) = J at HX HSV HWR HWP hj0 hj12
  clear hhx hU hB hm hMU hM hc hhh hfd ho hl e1 hss hff
  obtain ⟨x0, x1, x2⟩ := hh
  go_enter Tryz.func18, Tryz.ntmps18
  go_upto_region 1 with fail
  rw [← HU.out]
  clear HU
  go_wp2_with fail
  refine HFD.out.mono ?_
  rintro e w2 ⟨⟨fast, rfl⟩, HM2, hk2⟩
  obtain ⟨V, hV⟩ : ∃ V, V = w2.alloc (.cells #[.int .i64 x0, .int .i64 x1, .int .i64 x2, .bool fast] 36) := ⟨_, rfl⟩
  have hbV : Below w2.heap.size w2 V := by rw [hV]; exact (Below.refl _ _).alloc (Nat.le_refl _) _
  have hNV : Blk V w2.heap.size 36 [.int .i64 x0, .int .i64 x1, .int .i64 x2, .bool fast] := by rw [hV]; exact Blk.new w2 _ _
  have HV := Lib.hid hV
  have HMV := Lib.hid (HM2.out.more hbV)
  have HNV := Lib.hid hNV
  have HKV := Lib.hid ((HKU.out.trans hk2).trans (Kq.of_below hbV))
  have HAW : Hid (W.heap.size + 1 ≤ w2.heap.size) := Lib.hid (by have h1 := hk2.size; have h2 := ml; omega)
  clear m0 m1 m2 HM2 hk2 hV hbV hNV HFD HKU
  go_upto_region 2 with fail
  rw [← HV.out]
  clear HV ml
  generalize w2.heap.size = nb at HNV HAW ⊢
  have hx := HX.out
  simp only [Prod.mk.injEq] at hx
  obtain ⟨rfl, rfl, rfl⟩ := hx
  go_upto_region 4 with fail
  apply wp_region_x [24, 25, 26, 27, 28, 29, 30, 31, 32, 33, 34, 35, 36] [_, _, _, _, _, _, _, _, _, _, _, _, _] [] (fun L_ x_ W' => MS W' u t g b s m S LM ∧ Below V.heap.size V W')
  case hm => kernel_rfl
  case hT => intro y; simp only [setAll, List.setIfInBounds_toArray, List.set_cons_succ, List.set_cons_zero]; exact rfl
  case hok => kernel_rfl
  case hn => decide
  case hw => exact (fun L_ x_ h0 => ⟨HMV.out.more ((Below.refl _ _).drew), (Below.refl _ _).drew⟩)
  case hs =>
   refine x_op 24 [] (by kernel_rfl) (fun L y w' hL hC HW hd K hK => ?_) ?_
   ·go_simp
    refine hK _ _ ?_ ?_ HW
    ·simp [upd]
    ·exact rfl
   refine x_op 25 [0] (by kernel_rfl) (fun L y w' hL hC HW hd K hK => ?_) ?_
   ·have e0 := xR_nth (hd 0 (by simp)).2 rfl rfl
    go_simp
    refine hK _ _ ?_ ?_ HW
    ·simp [upd, e0]
    ·exact rfl
   refine x_op 26 [1] (by kernel_rfl) (fun L y w' hL hC HW hd K hK => ?_) ?_
   ·have e1 := xR_nth (hd 1 (by simp)).2 rfl rfl
    go_simp
    refine hK _ _ ?_ ?_ HW
    ·simp [upd, e1]
    ·exact rfl
   refine x_op 27 [2] (by kernel_rfl) (fun L y w' hL hC HW hd K hK => ?_) ?_
   ·have e2 := xR_nth (hd 2 (by simp)).2 rfl rfl
    have u0 := HW.1.cell0
    have ul := HW.1.lo u (by simp)
    go_simp
    refine hK _ _ ?_ ?_ HW
    ·simp [upd, e2]
    ·exact rfl
   refine x_op 28 [] (by kernel_rfl) (fun L y w' hL hC HW hd K hK => ?_) ?_
   ·go_simp
    refine hK _ _ ?_ ?_ HW
    ·simp [upd]
    ·exact rfl
   refine x_op 29 [4] (by kernel_rfl) (fun L y w' hL hC HW hd K hK => ?_) ?_
   ·have e4 := xR_nth (hd 4 (by simp)).2 rfl rfl
    have xn := HNV.out.more HW.2
    have n0 := xn.cell (j := 0) rfl
    have nl := xn.lt
    go_simp
    refine hK _ _ ?_ ?_ HW
    ·simp [upd, e4]
    ·exact rfl
   refine x_op 30 [5] (by kernel_rfl) (fun L y w' hL hC HW hd K hK => ?_) ?_
   ·have e5 := xR_nth (hd 5 (by simp)).2 rfl rfl
    go_simp
    refine hK _ _ ?_ ?_ HW
    ·simp [upd, e5]
    ·exact rfl
   refine x_op 31 [] (by kernel_rfl) (fun L y w' hL hC HW hd K hK => ?_) ?_
   ·go_simp
    refine hK _ _ ?_ ?_ HW
    ·simp [upd]
    ·exact rfl
   refine x_op 32 [7] (by kernel_rfl) (fun L y w' hL hC HW hd K hK => ?_) ?_
   ·have e7 := xR_nth (hd 7 (by simp)).2 rfl rfl
    have xn := HNV.out.more HW.2
    have n2 := xn.cell (j := 2) rfl
    have nl := xn.lt
    go_simp
    refine hK _ _ ?_ ?_ HW
    ·simp [upd, e7]
    ·exact rfl
   refine x_op 33 [6, 8] (by kernel_rfl) (fun L y w' hL hC HW hd K hK => ?_) ?_
   ·have e6 := xR_nth (hd 6 (by simp)).2 rfl rfl
    have e8 := xR_nth (hd 8 (by simp)).2 rfl rfl
    go_simp
    refine hK _ _ ?_ ?_ HW
    ·simp [upd, e6, e8]
    ·exact rfl
   refine x_op 34 [9] (by kernel_rfl) (fun L y w' hL hC HW hd K hK => ?_) ?_
   ·have e9 := xR_nth (hd 9 (by simp)).2 rfl rfl
    go_simp
    refine hK _ _ ?_ ?_ HW
    ·simp [upd, e9]
    ·exact rfl
   refine x_op 35 [] (by kernel_rfl) (fun L y w' hL hC HW hd K hK => ?_) ?_
   ·go_simp
    refine hK _ _ ?_ ?_ HW
    ·simp [upd]
    ·exact rfl
   refine x_op 36 [] (by kernel_rfl) (fun L y w' hL hC HW hd K hK => ?_) ?_
   ·go_simp
    refine hK _ _ ?_ ?_ HW
    ·simp [upd]
    ·exact rfl
   refine x_last fun L y w' hLs HW hd K hK => ?_
   have e0 := xR_nth (hd 0 (by omega)) rfl rfl
   have e1 := xR_nth (hd 1 (by omega)) rfl rfl
   have e2 := xR_nth (hd 2 (by omega)) rfl rfl
   have e3 := xR_nth (hd 3 (by omega)) rfl rfl
   have e4 := xR_nth (hd 4 (by omega)) rfl rfl
   have e5 := xR_nth (hd 5 (by omega)) rfl rfl
   have e6 := xR_nth (hd 6 (by omega)) rfl rfl
   have e7 := xR_nth (hd 7 (by omega)) rfl rfl
   have e8 := xR_nth (hd 8 (by omega)) rfl rfl
   have e9 := xR_nth (hd 9 (by omega)) rfl rfl
   have e10 := xR_nth (hd 10 (by omega)) rfl rfl
   have e11 := xR_nth (hd 11 (by omega)) rfl rfl
   have e12 := xR_nth (hd 12 (by omega)) rfl rfl
   go_simp
   rw [HWP.out]
   refine (HSV.out _ HW.1).mono ?_
   rintro e w7 ⟨rfl, HM7, hk7⟩
   refine hK _ _ ?_
   clear hd hK K hLs e0 e1 e2 e3 e4 e5 e6 e7 e8 e9 e10 e11 e12
   have HK7 := Lib.hid (((HKV.out.trans (Kq.of_below HW.2)).more (T' := [b, s, u, t, g]) (fun z hz => by simp at hz ⊢; rcases hz with h | h | h | h <;> simp [h])).trans (hk7.more (T' := [b, s, u, t, g]) (fun z hz => by simp at hz ⊢; rcases hz with h | h <;> simp [h])))
   have hn7 := (HNV.out.more HW.2).kq hk7 (by have h1 := HLO.out b (by simp); have h2 := HLO.out s (by simp); have h3 := HAW.out; simp; omega)
   have n0 := hn7.cell (j := 0) rfl
   have nl := hn7.lt
   have HWC := Lib.hid (HWR.out _ HM7.out)
   clear hn7 hk7 HM7 HW HMV HNV HKV HSV HWR HAW
   go_wp2_with fail
   refine HWC.out.mono ?_
   rintro e w8 ⟨rfl, HM8, hk8⟩
   have HK8 := Lib.hid (HK7.out.trans (hk8.more (T' := [b, s, u, t, g]) (fun z hz => by simp at hz ⊢; rcases hz with h | h <;> simp [h])))
   clear hk8 HK7 HWC n0 nl
   go_wp2
   go_ret
   exact ⟨rfl, HM8, HK8.out⟩
 ·rw [ss_bad (by rw [hc]; exact hz)]
  have hcb : (c != 0) = true := by simp [hz]
  clear hU hB hm hMU hM hc hhh hfd hz
  obtain ⟨x0, x1, x2⟩ := hh
  go_enter Tryz.func18, Tryz.ntmps18
  go_upto_region 1 with fail
  rw [← HU.out]
  clear HU
  go_wp2_with fail
  refine HFD.out.mono ?_
  rintro e w2 ⟨⟨fast, rfl⟩, HM2, hk2⟩
  obtain ⟨V, hV⟩ : ∃ V, V = w2.alloc (.cells #[.int .i64 x0, .int .i64 x1, .int .i64 x2, .bool fast] 36) := ⟨_, rfl⟩
  have hbV : Below w2.heap.size w2 V := by rw [hV]; exact (Below.refl _ _).alloc (Nat.le_refl _) _
  have hNV : Blk V w2.heap.size 36 [.int .i64 x0, .int .i64 x1, .int .i64 x2, .bool fast] := by rw [hV]; exact Blk.new w2 _ _
  have HV := Lib.hid hV
  have HMV := Lib.hid (HM2.out.more hbV)
  have HNV := Lib.hid hNV
  have HKV := Lib.hid ((HKU.out.trans hk2).trans (Kq.of_below hbV))
  have HAW : Hid (W.heap.size + 1 ≤ w2.heap.size) := Lib.hid (by have h1 := hk2.size; have h2 := ml; omega)
  clear m0 m1 m2 HM2 hk2 hV hbV hNV HFD HKU
  go_upto_region 2 with fail
  rw [← HV.out]
  clear HV ml
  generalize w2.heap.size = nb at HNV HAW ⊢
  have HK9 := Lib.hid (HKV.out.more (T' := [b, s, u, t, g]) (fun z hz => by simp at hz ⊢; rcases hz with h | h | h | h <;> simp [h]))
  clear HKV
  go_wp2
  go_ret
  exact ⟨rfl, HMV, HK9.out⟩
end
end Go.Proofs.YteaincdeoajkeaaGreatDoor.Mm
end
section
/- Package mmu: Gone, Flush, Table, Kept; rows of records appended; the shadow's List, whose slice is its own. -/
namespace Go.Proofs.YteaincdeoajkeaaGreatDoor.Ut
open Go.RowKit
set_option linter.unusedVariables false
theorem irow_cells {k : Nat} {w : World} {ad : Addr} {xs : List (List Int)} (h : IRow k w (some ad) xs) (hl : ∀ x ∈ xs, x.length = k) (hk : 0 < k) : ∀ (j : Nat) (u : Value), (encR xs)[j]? = some u → w.cell? (ad.add j) = some u := fun j u hj => by
 have hjl : j < xs.length * k := by
  have := (List.getElem?_eq_some_iff.1 hj).1
  rwa [encR_len k xs hl] at this
 have h1 : j / k < xs.length := Nat.div_lt_of_lt_mul (by rwa [Nat.mul_comm])
 have h2 : j % k < k := Nat.mod_lt _ hk
 have h3 : j / k * k + j % k = j := by rw [Nat.mul_comm]; exact Nat.div_add_mod j k
 have hx : xs[j / k]? = some (xs[j / k]) := List.getElem?_eq_getElem h1
 have hz : (xs[j / k])[j % k]? = some ((xs[j / k])[j % k]'(by rw [hl _ (List.getElem_mem h1)]; exact h2)) := List.getElem?_eq_getElem _
 have he := encR_get k xs hl _ _ _ _ hx hz
 rw [h3] at he
 rw [hj] at he
 injection he with he
 obtain ⟨y, e, _, hc⟩ := h _ _ hx
 injection e with e
 subst e
 have := hc _ _ hz
 rw [h3] at this
 rw [this, he]
/-- records of any slice, appended to a row of the call's own -/
theorem push_rows {P : Program} {w : World} {B k bytes : Nat} {t ty e : TypeId} {z : Value} {v : Value} {xs ys : List (List Int)} (ht : P.underlying t = some (.slice e)) (hi : (P.info? e).map (fun i => (i.zero, i.size, i.bytes)) = some (some z, k, bytes)) (hz : z.cells.size = k) (hk : 0 < k) (hby : bytes ≤ 1000)
  (hown : OwnT k w B e v xs) (a : Option Addr) (c : Nat) (hn : a = none → c = 0) (hr : IRow k w a ys) (hy : ∀ x ∈ ys, x.length = k) (hl : xs.length + ys.length ≤ 1000000) (hB : B ≤ w.heap.size) :
  ∃ v' w', (Builtin.append_ #[t, t] ty #[v, .slice a ys.length c]).run P w = .ok v' w' ∧ OwnT k w' B e v' (xs ++ ys) ∧ w.grownBy w' v.ownBlock := by
 obtain ⟨i, hi, hzz, hs, hbb⟩ := info_parts hi
 cases a with
 | none =>
  have hy0 : ys = [] := by
   match ys, hr with
   | [], _ => rfl
   | y :: ys, hr => obtain ⟨_, e, _⟩ := hr 0 y rfl; cases e
  subst hy0
  rw [hn rfl]
  exact ⟨v, w, run_append_owned_none w B t ty e i k ht hi v xs.length _ hown.1, by rw [List.append_nil]; exact hown, ⟨rfl, rfl, rfl, Nat.le_refl _, fun _ _ _ => rfl⟩⟩
 | some ad =>
  obtain ⟨v', w', hrun, h2, h3, _, h5⟩ := run_append_own_at (P := P) w B t ty e i z k bytes ht hi hzz hs hbb hz hk v xs.length _ hown.1 ad ys.length c (encR ys) (encR_len k ys hy) (irow_cells hr hy hk)
   (encR_one ys) (by unfold maxLen; omega) (Nat.le_trans (Nat.mul_le_mul hl hby) (by omega)) hB
  refine ⟨v', w', hrun, ⟨?_, fun q hq => ?_⟩, h3⟩
  ·rw [show encR (xs ++ ys) = encR xs ++ encR ys by simp [encR], List.length_append]
   exact h2
  ·rcases List.mem_append.1 hq with hq | hq
   ·exact hown.2 q hq
   ·exact hy q hq
end Go.Proofs.YteaincdeoajkeaaGreatDoor.Ut
namespace Go.Proofs.YteaincdeoajkeaaGreatDoor.Sw
open Go.RowKit Ut
set_option maxRecDepth 100000
set_option linter.unusedVariables false
set_option maxHeartbeats 4000000

section
variable {W : World} {l : List Ln}
theorem shListO_any {v : Value} (h : ThP W v l) : Calls Tryz.prog 48 #[v] W fun e w' => (∃ v, e = .returned v ∧ Hid (OwnT 5 w' W.heap.size 52 v (l.map Ln.kept))) ∧ Below W.heap.size W w' := by
 obtain ⟨h32, a, c, hth, hr⟩ := h
 have HTH := Lib.hid (hth W (Below.refl _ _))
 obtain ⟨n, hn⟩ : ∃ n : Nat, l.length = n := ⟨_, rfl⟩
 rw [hn] at HTH h32
 have HN := Lib.hid hn
 have HR := Lib.hid hr
 have H32 := Lib.hid h32
 have n0 : (0 : Int) ≤ (n : Int) ∧ (n : Int) ≤ 32 := by omega
 clear hth hr h32 hn
 go_enter Tryz.func48, Tryz.ntmps48
 go_wp2_with fail
 refine HTH.out.mono ?_
 rintro e w1 ⟨rfl, hb1⟩
 have HB1 := Lib.hid hb1
 clear hb1 HTH
 go_wp2
 go_loopw [3, 9] (fun u j wr => ∃ (i : Nat) (b : Option Addr) (cc : Nat), i ≤ n ∧ u = .slice b i cc ∧ j = .int .i64 i ∧ Hid (OwnT 5 wr W.heap.size 52 (.slice b i cc) ((l.take i).map Ln.kept)) ∧ Hid (Below W.heap.size W wr)) (fun _ j _ => n - (intOf j).toNat)
 case atStart => exact ⟨0, none, 0, Nat.zero_le _, rfl, rfl, Lib.hid (OwnT.nil _ _ _ _), HB1⟩
 case round =>
  obtain ⟨i, b, cc, hin0, rfl, rfl, HO, HB⟩ := hrel
  by_cases hin : i < n
  ·have f0 : (i : Int) < (n : Int) := by omega
   have f2 : (0 : Int) ≤ (i : Int) := by omega
   have hx : l[i]? = some (l[i]'(by rw [HN.out]; exact hin)) := List.getElem?_eq_getElem _
   obtain ⟨x, hxx⟩ : ∃ x, l[i]'(by rw [HN.out]; exact hin) = x := ⟨_, rfl⟩
   rw [hxx] at hx
   obtain ⟨y, rfl, hyb, hyb2, d0, d1, d2, d3, d4, d5, d6⟩ := LnRow.at_ (IRow.more HR.out HB.out) hx
   have H3 := Lib.hid hin
   obtain ⟨V, hV⟩ : ∃ V, V = wr.alloc (.cells #[.int .i64 x.kr, .int .i64 x.kp, .int .i64 x.ep, .int .i64 x.ef, .int .i64 x.er, .int .i64 x.rt, .int .i64 x.lf] 167) := ⟨_, rfl⟩
   have hbV : Below wr.heap.size wr V := by rw [hV]; exact (Below.refl _ _).alloc (Nat.le_refl _) _
   have hNV : Blk V wr.heap.size 167 (encI x.l) := by rw [hV]; exact Blk.new wr _ _
   have HV := Lib.hid hV
   have hoV := HO.out.below hbV
   have hbb := HB.out.trans (hbV.mono HB.out.size)
   have htk : (l.take (i + 1)).map Ln.kept = (l.take i).map Ln.kept ++ [x.kept] := by rw [List.take_add_one, hx, List.map_append]; rfl
   have hln : ((l.take i).map Ln.kept).length = i := by rw [List.length_map, List.length_take, HN.out]; omega
   obtain ⟨ba, cap5, w5, hrun, ho5, hg5, _⟩ := push_new (P := Tryz.prog) (t := 45) (ty := 45) Tryz.underlying45 info_kept19 rfl (by decide) (by decide) hoV x.kept rfl (by rw [hln]; have := H32.out; omega) hbb.size
   rw [hln] at hrun ho5
   have HRUN := Lib.hid hrun
   have HO9 : Hid (OwnT 5 w5 W.heap.size 52 (.slice ba (i + 1) cap5) ((l.take (i + 1)).map Ln.kept)) := Lib.hid (by rw [htk]; exact ho5)
   have HB9 : Hid (Below W.heap.size W w5) := Lib.hid (hbb.grown hg5 hbb.size (fun q hq => (World.ownsRow.lt hoV.1 q hq).1))
   have x0 := hNV.cell (j := 0) rfl
   have x1 := hNV.cell (j := 1) rfl
   have x2 := hNV.cell (j := 2) rfl
   have x3 := hNV.cell (j := 3) rfl
   have x4 := hNV.cell (j := 4) rfl
   have x5 := hNV.cell (j := 5) rfl
   have x6 := hNV.cell (j := 6) rfl
   have xl := hNV.lt
   clear hx hxx hin hin0 hV hbV hNV hoV hbb htk hln hrun ho5 hg5 HO HB
   obtain ⟨kr, kp, ep, ef, er, rt, lf⟩ := x
   dsimp only [Ln.l, Ln.kept] at HV HRUN d0 d1 d2 d3 d4 d5 d6 x0 x1 x2 x3 x4 x5 x6
   go_upto_region 5 with fail
   rw [← HV.out]
   clear HV d0 d1 d2 d3 d4 d5 d6 hyb hyb2
   go_wp2_with (refine wpList_append_run rfl _ _ 45 rfl _ _ rfl rfl _ _ HRUN.out ?_)
   clear x0 x1 x2 x3 x4 x5 x6 xl
   go_wp2
   go_roundw
   case rel => exact ⟨i + 1, ba, cap5, H3.out, rfl, by go_num, HO9, HB9⟩
   case measure => have := H3.out; simp [intOf]; omega
  ·have f0 : ¬ (i : Int) < (n : Int) := by omega
   obtain rfl : i = n := by omega
   have HT : Hid (OwnT 5 wr W.heap.size 52 (.slice b i cc) (l.map Ln.kept)) := Lib.hid (by
    have ho := HO.out
    rw [show l.take i = l by rw [← HN.out, List.take_length]] at ho
    exact ho)
   clear hin hin0 HO
   go_wp2
   go_ret
   exact ⟨⟨_, rfl, HT⟩, HB.out⟩
end
end Go.Proofs.YteaincdeoajkeaaGreatDoor.Sw
namespace Go.Proofs.YteaincdeoajkeaaGreatDoor.Mm
open Go.RowKit Go.Shelf Ut Oc Vw Wa
open Sw (Ln tabL ownP fillS findS entS toldS Inv19 ErW goF goneS leftS)
open Sb (Rc findL withoutL entF entV RcRow)
set_option linter.unusedVariables false
set_option maxRecDepth 100000
set_option maxHeartbeats 8000000
section
variable {W w w' : World} {u t g b s m : Nat} {S S' : List Int} {LM : List Gm.Pl} {D : List Bool} {l : List Ln} {q : List Rc} {Y : List Gm.Pl}
theorem gone20_any (p : Int) (hst : ST W u t g b s m S LM D l q Y) (hI : Inv S LM (fun k => k == p) (dF D) l q) :
  Calls Tryz.prog 23 #[.pointer (some ⟨u, 0, none⟩), .int .i64 p] W fun e w' => e = .returned (.int .i64 0) ∧ Hid (MS w' u t g b s m S LM) ∧ Kq [b, u, t, g] W w' := by
 have HMD := Lib.hid (made_yes20 W u b hst.cell0 hst.lt)
 have HHD := Lib.hid (heed20_any hst)
 have HIN : Hid (∀ l' q', Forg l q l' q' → (∀ z : Int, z ∈ (dirtL D 12).take (dirtL D 12).length → z < 8 → ∀ x ∈ l', x.by_ z = false) → Inv S LM (fun k => k == p) noE l' q') := Lib.hid fun l' q' hf hc => hI.heeded hf hc
 clear hst hI
 go_enter Tryz.func23, Tryz.ntmps23
 go_wp2_with fail
 refine HMD.out.mono ?_
 rintro e w1 ⟨rfl, rfl⟩
 clear HMD
 go_wp2_with fail
 refine HHD.out.mono ?_
 rintro e w2 ⟨rfl, HD2, hk2⟩
 obtain ⟨Y1, l1, q1, hs1, hf1, hc1, _⟩ := HD2.out
 have hin := HIN.out _ _ hf1 hc1
 have hgn := Sw.shGone_any p hs1.sh
 have hfd := forg_drop l1 q1 (goF p true)
 have hkk : ∀ x ∈ (goneS l1 p true).map Ln.key, ∃ p r, x = [p, r] := fun x hx => by obtain ⟨z, _, rfl⟩ := List.mem_map.1 hx; exact ⟨_, _, rfl⟩
 have hkl : ((goneS l1 p true).map Ln.key).length ≤ 1000 := by
  rw [List.length_map]
  have h1 : (goneS l1 p true).length ≤ l1.length := List.length_filter_le _ _
  have h2 := hs1.sh.len
  omega
 change Forg l1 q1 (leftS l1 p true) (dropQ q1 ((goneS l1 p true).map Ln.key)) at hfd
 have hlf : ∀ x ∈ leftS l1 p true, (x.rt == p) = false ∧ (x.lf == p) = false ∧ (x.ep == p) = false := fun x hx => by
  have := (List.mem_filter.1 hx).2
  unfold goF Ln.by_ at this
  simpa [and_assoc] using this
 generalize (goneS l1 p true).map Ln.key = ks at hgn hfd hkk hkl
 generalize leftS l1 p true = l2 at hgn hfd hlf
 have HGN := Lib.hid hgn
 have HS1 := Lib.hid hs1
 have HK2 := Lib.hid hk2
 have HKK := Lib.hid hkk
 have HKL := Lib.hid hkl
 have HI9 : Hid (Inv S LM noE noE l2 (dropQ q1 ks)) := Lib.hid ((hin.forg hfd).lift (fun x hx => hlf x hx))
 have u2 := hs1.cell2
 have ul := hs1.lt
 clear HD2 hs1 hf1 hc1 hk2 HIN HHD hin hgn hfd hkk hkl hlf
 go_wp2_with fail
 refine HGN.out.mono ?_
 rintro e w3 ⟨⟨v, rfl, HT⟩, HL3, hk3⟩
 obtain ⟨ka, kc, rfl, hrow, hge⟩ := HT.out
 have HS3 := Lib.hid (HS1.out.shd hk3 HL3.out)
 have hfg := forget20_any (W := w3) ks ka kc hrow HKK.out (fun y e => by have h1 := hge y e; have h2 := HS1.out.tl.lt; omega) HKL.out HS3.out
 generalize ks.length = nk at hfg
 have HFG := Lib.hid hfg
 have HK3 := Lib.hid (HK2.out.trans (hk3.more (T' := [b, u, t, g]) (by simp)))
 clear HT hrow hge hk3 HL3 HGN u2 ul HS1 HK2 hfg HKK HKL
 go_wp2_with fail
 refine HFG.out.mono ?_
 rintro e w4 ⟨rfl, HS4, hk4⟩
 have HM4 : Hid (MS w4 u t g b s m S LM) := Lib.hid ⟨noD, l2, _, Y1, HS4.out, by rw [dF_no]; exact HI9.out⟩
 have HK4 := Lib.hid (HK3.out.trans (hk4.more (T' := [b, u, t, g]) (by simp)))
 clear HS4 hk4 HFG HS3 HK3 HI9
 go_wp2
 go_ret
 exact ⟨rfl, HM4, HK4.out⟩
theorem flush20_any (hM : MS W u t g b s m S LM) :
  Calls Tryz.prog 24 #[.pointer (some ⟨u, 0, none⟩)] W fun e w' => (∃ n : Nat, e = .returned (.int .i64 n)) ∧ Hid (MS w' u t g b s m S LM) ∧ Kq [b, u, t, g] W w' := by
 obtain ⟨D, l, q, Y, hst, hI⟩ := hM
 have HMD := Lib.hid (made_yes20 W u b hst.cell0 hst.lt)
 have HHD := Lib.hid (heed20_any hst)
 clear hst hI
 go_enter Tryz.func24, Tryz.ntmps24
 go_wp2_with fail
 refine HMD.out.mono ?_
 rintro e w1 ⟨rfl, rfl⟩
 clear HMD
 go_wp2_with fail
 refine HHD.out.mono ?_
 rintro e w2 ⟨rfl, HD2, hk2⟩
 obtain ⟨Y1, l1, q1, hs1, hf1, hc1, _⟩ := HD2.out
 have HS1 := Lib.hid hs1
 have HK2 := Lib.hid hk2
 have HFT := Lib.hid (Sb.qtFlush hs1.tl)
 have u1 := hs1.cell1
 have ul := hs1.lt
 clear HD2 hs1 hf1 hc1 hk2 HHD
 go_wp2_with fail
 refine HFT.out.mono ?_
 rintro e w3 ⟨⟨n, rfl⟩, hq3, hk3⟩
 have hs3 := HS1.out.tlb hk3 hq3
 have HS3 := Lib.hid hs3
 have HK3 := Lib.hid (HK2.out.trans (hk3.more (T' := [b, u, t, g]) (by simp)))
 have HFS := Lib.hid (Sw.shFlush_any hs3.sh)
 have u2 := hs3.cell2
 have ul := hs3.lt
 clear hq3 hk3 hs3 HFT HS1 HK2 u1
 generalize l1.length = n1 at HFS
 go_wp2_with fail
 refine HFS.out.mono ?_
 rintro e w4 ⟨rfl, HL4, hk4⟩
 have HM4 : Hid (MS w4 u t g b s m S LM) := Lib.hid ⟨noD, [], [], Y1, HS3.out.shd hk4 HL4.out, Inv.nil⟩
 have HK4 := Lib.hid (HK3.out.trans (hk4.more (T' := [b, u, t, g]) (by simp)))
 clear HL4 hk4 HFS HS3 HK3 u2 ul
 go_wp2
 go_ret
 exact ⟨⟨_, rfl⟩, HM4, HK4.out⟩
theorem tab_forg {l' : List Ln} {q' : List Rc} (h : Forg l q l' q') {p : Int} (ht : tabL l' p = true) : tabL l p = true := Sw.tab_mono (fun x hx => h.mem hx) ht
theorem table20_any (p : Int) (hst : ST W u t g b s m S LM D l q Y) (hI : Inv S LM noE (dF D) l q) :
  Calls Tryz.prog 17 #[.pointer (some ⟨u, 0, none⟩), .int .i64 p] W fun e w' => (∃ t, e = .returned (.bool t) ∧ (t = true → tabL l p = true)) ∧ Hid (∃ l' q' Y', ST w' u t g b s m S LM noD l' q' Y' ∧ Inv S LM noE (dF noD) l' q' ∧ ∀ p, tabL l' p = true → tabL l p = true) ∧ Kq [b, u, t, g] W w' := by
 have HMD := Lib.hid (made_yes20 W u b hst.cell0 hst.lt)
 have HHD := Lib.hid (heed20_any hst)
 have HIN : Hid (∀ l' q', Forg l q l' q' → (∀ z : Int, z ∈ (dirtL D 12).take (dirtL D 12).length → z < 8 → ∀ x ∈ l', x.by_ z = false) → Inv S LM noE noE l' q') := Lib.hid fun l' q' hf hc => hI.heeded hf hc
 clear hst hI
 go_enter Tryz.func17, Tryz.ntmps17
 go_wp2_with fail
 refine HMD.out.mono ?_
 rintro e w1 ⟨rfl, rfl⟩
 clear HMD
 go_wp2_with fail
 refine HHD.out.mono ?_
 rintro e w2 ⟨rfl, HD2, hk2⟩
 obtain ⟨Y1, l1, q1, hs1, hf1, hc1, _⟩ := HD2.out
 have hin := HIN.out _ _ hf1 hc1
 have hmono : ∀ p, tabL l1 p = true → tabL l p = true := fun p hp => tab_forg hf1 hp
 obtain ⟨tt, htt⟩ : ∃ tt, tabL l1 p = tt := ⟨_, rfl⟩
 have htb := Sw.shTable_any p hs1.sh.th
 rw [htt] at htb
 have HTB := Lib.hid htb
 have HS1 := Lib.hid hs1
 have HK2 := Lib.hid hk2
 have HIV := Lib.hid hin
 have HMO := Lib.hid hmono
 have HTT := Lib.hid htt
 have u2 := hs1.cell2
 have ul := hs1.lt
 clear HD2 hs1 hf1 hc1 hk2 HIN HHD hin hmono htb htt
 go_wp2_with fail
 refine HTB.out.mono ?_
 rintro e w3 ⟨rfl, hb3⟩
 have HE : Hid (∃ l' q' Y', ST w3 u t g b s m S LM noD l' q' Y' ∧ Inv S LM noE (dF noD) l' q' ∧ ∀ p, tabL l' p = true → tabL l p = true) := Lib.hid ⟨l1, q1, Y1, HS1.out.more hb3, by rw [dF_no]; exact HIV.out, HMO.out⟩
 have HK3 := Lib.hid (HK2.out.trans (Kq.of_below hb3))
 clear hb3 HTB HS1 HK2 HIV u2 ul
 go_wp2
 go_ret
 exact ⟨⟨tt, rfl, fun e => HMO.out p (HTT.out.trans e)⟩, HE, HK3.out⟩
theorem rc_irow {W : World} {a : Option Addr} {mq : List Rc} (h : RcRow W a mq) : IRow 5 W a (mq.map Rc.l) := fun i x hx => by
 rw [List.getElem?_map] at hx
 cases hm : mq[i]? with
 | none => rw [hm] at hx; cases hx
 | some y =>
  rw [hm] at hx
  injection hx with hx
  subst hx
  exact h i y hm
theorem kept20_any (hst : ST W u t g b s m S LM D l q Y) (hI : Inv S LM noE (dF D) l q) :
  Calls Tryz.prog 14 #[.pointer (some ⟨u, 0, none⟩)] W fun e w' => (∃ v, e = .returned v ∧ Hid (∃ l' q' Y', ST w' u t g b s m S LM noD l' q' Y' ∧ Inv S LM noE (dF noD) l' q' ∧ Recs20 5 W w' v (l'.map Ln.kept ++ q'.map Rc.l) ∧ (l'.map Ln.kept ++ q'.map Rc.l).length ≤ 1000)) ∧ Kq [b, u, t, g] W w' := by
 have HMD := Lib.hid (made_yes20 W u b hst.cell0 hst.lt)
 have HHD := Lib.hid (heed20_any hst)
 have HIN : Hid (∀ l' q', Forg l q l' q' → (∀ z : Int, z ∈ (dirtL D 12).take (dirtL D 12).length → z < 8 → ∀ x ∈ l', x.by_ z = false) → Inv S LM noE noE l' q') := Lib.hid fun l' q' hf hc => hI.heeded hf hc
 clear hst hI
 go_enter Tryz.func14, Tryz.ntmps14
 go_wp2_with fail
 refine HMD.out.mono ?_
 rintro e w1 ⟨rfl, rfl⟩
 clear HMD
 go_wp2_with fail
 refine HHD.out.mono ?_
 rintro e V ⟨rfl, HD2, hk2⟩
 obtain ⟨Y1, l1, q1, hs1, hf1, hc1, _⟩ := HD2.out
 have HIV := Lib.hid (HIN.out _ _ hf1 hc1)
 have HST := Lib.hid hs1
 have HK2 := Lib.hid hk2
 have HL1 : Hid (∀ w', Below V.heap.size V w' → Calls Tryz.prog 48 #[.pointer (some ⟨g, 0, none⟩)] w' fun e w'' => (∃ v, e = .returned v ∧ Hid (OwnT 5 w'' w'.heap.size 52 v (l1.map Ln.kept))) ∧ Below w'.heap.size w' w'') := Lib.hid fun w' hw' => Sw.shListO_any (hs1.more hw').sh.th
 obtain ⟨nq, hnq⟩ : ∃ nq, q1.length = nq := ⟨_, rfl⟩
 have HNQ := Lib.hid hnq
 have HL2 : Hid (∀ w', Below V.heap.size V w' → Calls Tryz.prog 49 #[.pointer (some ⟨t, 0, none⟩)] w' fun e w'' => (∃ a cap, e = .returned (.slice a nq cap) ∧ Hid (∃ mq : List Rc, mq.Perm q1 ∧ RcRow w'' a mq ∧ (∀ y, a = some y → w'.heap.size ≤ y.block) ∧ (a = none → cap = 0))) ∧ Below w'.heap.size w' w'') := Lib.hid fun w' hw' => by
  have := Sb.qtList (hs1.more hw').tl
  rw [hnq] at this
  exact this
 have HLN : Hid (l1.length ≤ 32 ∧ q1.length ≤ 4) := Lib.hid ⟨hs1.sh.len, hs1.tl.len⟩
 clear HD2 hs1 hf1 hc1 hk2 HIN HHD hnq
 go_upto_region 4 with fail
 apply wp_region_x [8, 9, 10, 11, 12, 13, 14, 15, 16, 17, 18] [_, _, _, _, undef, _, _, _, _, undef, undef] [4, 9, 10] (fun L_ x_ W' => Below V.heap.size V W' ∧ (L_ 4 = true → L_ 10 = false → OwnT 5 W' V.heap.size 52 (x_ 4) (l1.map Ln.kept)) ∧ (L_ 9 = true → L_ 10 = false → ∃ a c, ∃ mq : List Rc, x_ 9 = .slice a mq.length c ∧ mq.Perm q1 ∧ RcRow W' a mq ∧ (a = none → c = 0)) ∧ (L_ 10 = true → ∃ mq : List Rc, mq.Perm q1 ∧ OwnT 5 W' V.heap.size 52 (x_ 10) (l1.map Ln.kept ++ mq.map Rc.l)))
 case hm => kernel_rfl
 case hT => intro y; simp only [setAll, List.setIfInBounds_toArray, List.set_cons_succ, List.set_cons_zero]; exact rfl
 case hok => kernel_rfl
 case hn => decide
 case hw => exact (fun L_ x_ h0 => ⟨(Below.refl _ _).drew, fun h _ => absurd h (by rw [h0 4 (by decide)]; decide), fun h _ => absurd h (by rw [h0 9 (by decide)]; decide), fun h => absurd h (by rw [h0 10 (by decide)]; decide)⟩)
 case hs =>
  refine x_op 8 [] (by kernel_rfl) (fun L y w' hL hC HW hd K hK => ?_) ?_
  ·go_simp
   refine hK _ _ ?_ ?_ HW
   ·simp [upd]
   ·exact rfl
  refine x_op 9 [0] (by kernel_rfl) (fun L y w' hL hC HW hd K hK => ?_) ?_
  ·have e0 := xR_nth (hd 0 (by simp)).2 rfl rfl
   go_simp
   refine hK _ _ ?_ ?_ HW
   ·simp [upd, e0]
   ·exact rfl
  refine x_op 10 [1] (by kernel_rfl) (fun L y w' hL hC HW hd K hK => ?_) ?_
  ·have e1 := xR_nth (hd 1 (by simp)).2 rfl rfl
   go_simp
   refine hK _ _ ?_ ?_ HW
   ·simp [upd, e1]
   ·exact rfl
  refine x_op 11 [2] (by kernel_rfl) (fun L y w' hL hC HW hd K hK => ?_) ?_
  ·have e2 := xR_nth (hd 2 (by simp)).2 rfl rfl
   have u2 := (HST.out.more HW.1).cell2
   have ul := (HST.out.more HW.1).lt
   go_simp
   refine hK _ _ ?_ ?_ HW
   ·simp [upd, e2]
   ·exact rfl
  refine x_one 12 [3] (by kernel_rfl) rfl (fun L y w' hL hC HW hd K hK => ?_) ?_
  ·have e3 := xR_nth (hd 3 (by simp)).2 rfl rfl
   go_simp
   have h10 := hC.not' 10 4 (by kernel_rfl) hL
   refine (HL1.out _ HW.1).mono ?_
   rintro e w3 ⟨⟨v4, rfl, HO⟩, hb3⟩
   refine hK _ _ ?_ ⟨HW.1.trans (hb3.mono HW.1.size), fun _ _ => ownT_down HO.out HW.1.size, fun h h2 => (by obtain ⟨a, c, mq, q1_, q2, q3, q4⟩ := HW.2.2.1 h h2; exact ⟨a, c, mq, q1_, q2, Sb.RcRow.more q3 hb3, q4⟩), fun h => absurd (show L 10 = true from h) (by rw [h10]; decide)⟩
   ·simp [upd, e3]
  refine x_op 13 [] (by kernel_rfl) (fun L y w' hL hC HW hd K hK => ?_) ?_
  ·go_simp
   refine hK _ _ ?_ ?_ HW
   ·simp [upd]
   ·exact rfl
  refine x_op 14 [5] (by kernel_rfl) (fun L y w' hL hC HW hd K hK => ?_) ?_
  ·have e5 := xR_nth (hd 5 (by simp)).2 rfl rfl
   go_simp
   refine hK _ _ ?_ ?_ HW
   ·simp [upd, e5]
   ·exact rfl
  refine x_op 15 [6] (by kernel_rfl) (fun L y w' hL hC HW hd K hK => ?_) ?_
  ·have e6 := xR_nth (hd 6 (by simp)).2 rfl rfl
   go_simp
   refine hK _ _ ?_ ?_ HW
   ·simp [upd, e6]
   ·exact rfl
  refine x_op 16 [7] (by kernel_rfl) (fun L y w' hL hC HW hd K hK => ?_) ?_
  ·have e7 := xR_nth (hd 7 (by simp)).2 rfl rfl
   have u1 := (HST.out.more HW.1).cell1
   have ul := (HST.out.more HW.1).lt
   go_simp
   refine hK _ _ ?_ ?_ HW
   ·simp [upd, e7]
   ·exact rfl
  refine x_one 17 [8, 4] (by kernel_rfl) rfl (fun L y w' hL hC HW hd K hK => ?_) ?_
  ·have e8 := xR_nth (hd 8 (by simp)).2 rfl rfl
   have hl4 := (hd 4 (by simp)).1
   have e4 : True := trivial
   go_simp
   have h10 := hC.not' 10 9 (by kernel_rfl) hL
   refine (HL2.out _ HW.1).mono ?_
   rintro e w3 ⟨⟨a9, c9, rfl, HM⟩, hb3⟩
   refine hK _ _ ?_ ⟨HW.1.trans (hb3.mono HW.1.size), fun h h2 => (HW.2.1 h h2).below hb3, fun _ _ => (by obtain ⟨mq, hp, hr, hg, hn⟩ := HM.out; exact ⟨a9, c9, mq, (by rw [hp.length_eq, HNQ.out]; rfl), hp, hr, hn⟩), fun h => absurd (show L 10 = true from h) (by rw [h10]; decide)⟩
   ·simp [upd, e8]
  refine x_one 18 [4, 9, 9] (by kernel_rfl) rfl (fun L y w' hL hC HW hd K hK => ?_) ?_
  ·have hl4 := (hd 4 (by simp)).1
   have hl9 := (hd 9 (by simp)).1
   have e4 : True := trivial
   have ho4 := HW.2.1 hl4 hL
   obtain ⟨a9, c9, mq, e9, hpm, hrw, hno⟩ := HW.2.2.1 hl9 hL
   obtain ⟨v9, w9, hrun, ho9, hg9⟩ := push_rows (P := Tryz.prog) (t := 45) (ty := 45) Tryz.underlying45 Sw.info_kept19 rfl (by decide) (by decide) ho4 a9 c9 hno (rc_irow hrw) (fun x hx => by obtain ⟨y, _, rfl⟩ := List.mem_map.1 hx; rfl) (by rw [List.length_map, List.length_map, hpm.length_eq]; have h1 := HLN.out; omega) HW.1.size
   rw [List.length_map] at hrun
   have hb9 : Below V.heap.size V w9 := HW.1.grown hg9 HW.1.size (fun q hq => (World.ownsRow.lt ho4.1 q hq).1)
   refine step_append_run (a := ⟨_, _⟩) rfl (.tmp 12) (.tmp 17) 45 rfl (y 4) (.slice a9 mq.length c9) rfl (by exact e9) v9 w9 hrun ?_
   refine hK _ _ ?_ ⟨hb9, fun _ h => absurd h (by simp), fun _ h => absurd h (by simp), fun _ => ⟨mq, hpm, ho9⟩⟩
   ·simp [upd, e9]
  refine x_last fun L y w' hLs HW hd K hK => ?_
  have e0 := xR_nth (hd 0 (by omega)) rfl rfl
  have e1 := xR_nth (hd 1 (by omega)) rfl rfl
  have e2 := xR_nth (hd 2 (by omega)) rfl rfl
  have e3 := xR_nth (hd 3 (by omega)) rfl rfl
  have e5 := xR_nth (hd 5 (by omega)) rfl rfl
  have e6 := xR_nth (hd 6 (by omega)) rfl rfl
  have e7 := xR_nth (hd 7 (by omega)) rfl rfl
  have e8 := xR_nth (hd 8 (by omega)) rfl rfl
  obtain ⟨mq, hpm, ho10⟩ := HW.2.2.2 (hLs 10 (by decide))
  obtain ⟨a10, c10, e10, hr10, _, _, hb10, _⟩ := IRow.own ho10
  obtain ⟨nn, hnn⟩ : ∃ nn, (l1.map Ln.kept ++ mq.map Rc.l).length = nn := ⟨_, rfl⟩
  rw [hnn] at e10
  have HNN := Lib.hid hnn
  clear hnn
  have HB9 := Lib.hid HW.1
  have HR10 := Lib.hid hr10
  have HG10 := Lib.hid hb10
  have HPM := Lib.hid hpm
  go_simp
  refine hK _ _ ?_
  clear hd hK K HW hLs
  have HE : Hid (∃ l' q' Y', ST w' u t g b s m S LM noD l' q' Y' ∧ Inv S LM noE (dF noD) l' q' ∧ Recs20 5 W w' (.slice a10 nn c10) (l'.map Ln.kept ++ q'.map Rc.l) ∧ (l'.map Ln.kept ++ q'.map Rc.l).length ≤ 1000) := Lib.hid ⟨l1, mq, Y1, (HST.out.more HB9.out).tlb (Kq.refl _ _) ((HST.out.more HB9.out).tl.of_perm HPM.out.symm), by rw [dF_no]; exact HIV.out.subq (fun y hy => HPM.out.mem_iff.1 hy), ⟨a10, c10, by rw [HNN.out], HR10.out, fun y e => Nat.le_trans HK2.out.size (HG10.out y e)⟩, by rw [List.length_append, List.length_map, List.length_map, HPM.out.length_eq]; have := HLN.out; omega⟩
  have HK9 := Lib.hid (HK2.out.trans (Kq.of_below HB9.out))
  clear HR10 HG10 HPM HB9 HIV HST HK2 HL1 HL2 HLN hpm ho10 hr10 hb10 e10
  go_wp2
  go_ret
  exact ⟨⟨_, rfl, HE⟩, HK9.out⟩
end
end Go.Proofs.YteaincdeoajkeaaGreatDoor.Mm
end
section
/- Package mmu: New; found by tables, then fast. -/
namespace Go.Proofs.YteaincdeoajkeaaGreatDoor.Mm
open Go.RowKit Go.Shelf Ut Oc Vw Wa
open Sw (Ln tabL ownP fillS findS entS toldS Inv19 ErW narZ addS)
open Sb (Rc findL withoutL entF entV)
set_option linter.unusedVariables false
set_option maxRecDepth 100000
set_option maxHeartbeats 8000000

section
variable {W w w' : World} {b s m : Nat} {S : List Int} {LM : List Gm.Pl} {D : List Bool}
theorem mmuNew_any (r : Int) (hG : HasN W) (hns : 0 < s) (hL : Lay LM) (hp : PV W b s m 12 S LM D) (h0 : 0 ≤ r) (h4 : r ≤ 4) :
  Calls Tryz.prog 22 #[.pointer (some ⟨b, 0, none⟩), .int .i64 r] W fun e w' => (∃ u, e = .returned (.tuple #[.pointer (some ⟨u, 0, none⟩), .int .i64 0]) ∧ Hid (∃ t g, ST w' u t g b s m S LM D [] [] Gm.noP ∧ W.heap.size ≤ u ∧ W.heap.size ≤ t ∧ W.heap.size ≤ g)) ∧ Below W.heap.size W w' := by
 have HMP := Lib.hid (map_any W hp)
 have HTN := Lib.hid (Sb.qtNew r h0 h4 W)
 have HP := Lib.hid hp
 have HGG := Lib.hid hG
 have HNS := Lib.hid hns
 have HL := Lib.hid hL
 clear hG hns hL hp
 go_enter Tryz.func22, Tryz.ntmps22
 go_wp2_with fail
 refine HMP.out.mono ?_
 rintro e w1 ⟨rfl, rfl⟩
 go_wp2_with fail
 refine HTN.out.mono ?_
 rintro e w2 ⟨rfl, hq2, hb2⟩
 have HQ2 := Lib.hid hq2
 have HB2 := Lib.hid hb2
 clear HMP HTN hq2 hb2
 go_wp2_with fail
 refine (Sw.shNew_any w2).mono ?_
 rintro e w3 ⟨rfl, hl3, hb3⟩
 have HL3 := Lib.hid hl3
 have HB3 := Lib.hid hb3
 have htl := HQ2.out.lt
 have HTG : Hid (W.heap.size < w2.heap.size) := Lib.hid htl
 clear hl3 hb3 htl
 obtain ⟨V, hV⟩ : ∃ V, V = w3.alloc (.cells (uCells b W.heap.size w2.heap.size Gm.noP).toArray 80) := ⟨_, rfl⟩
 have hbV : Below w3.heap.size w3 V := by rw [hV]; exact (Below.refl _ _).alloc (Nat.le_refl _) _
 have hNV : Blk V w3.heap.size 80 (uCells b W.heap.size w2.heap.size Gm.noP) := by rw [hV]; exact Blk.new w3 _ _
 have HV := Lib.hid hV
 have HBV := Lib.hid hbV
 have HNV := Lib.hid hNV
 have HL3S : Hid (w2.heap.size < w3.heap.size) := Lib.hid HL3.out.lt
 have HBW : Hid (Below W.heap.size W V) := Lib.hid ((HB2.out.trans (HB3.out.mono HB2.out.size)).trans (hbV.mono (Nat.le_trans HB2.out.size HB3.out.size)))
 clear hV hbV hNV HB2
 have HN0 : Hid (b < W.heap.size) := Lib.hid HP.out.lt
 obtain ⟨t, ht⟩ : ∃ t, W.heap.size = t := ⟨_, rfl⟩
 obtain ⟨g, hg⟩ : ∃ g, w2.heap.size = g := ⟨_, rfl⟩
 have HT0 := Lib.hid ht
 have HG0 := Lib.hid hg
 rw [ht, hg] at HV HNV
 rw [ht] at HQ2
 rw [hg] at HL3
 rw [ht, hg] at HTG
 rw [hg] at HL3S
 rw [ht] at HN0
 simp only [ht, hg]
 clear ht hg
 go_simp
 rename_i hK
 refine hK _ _ ?_
 clear hK
 try simp only [Act.put, List.setIfInBounds_toArray, List.set_cons_succ, List.set_cons_zero]
 refine wpList_buildTo rfl 80 _ rfl _ rfl (uCells b t g Gm.noP).toArray (by kernel_rfl) ?_
 refine Great.wpList_boxTo rfl 80 _ rfl _ rfl w3.heap.size rfl (uCells b t g Gm.noP).toArray rfl ?_
 try simp only [Act.put, List.setIfInBounds_toArray, List.set_cons_succ, List.set_cons_zero]
 rw [← HV.out]
 clear HV
 have HE : Hid (∃ t g, ST V w3.heap.size t g b s m S LM D [] [] Gm.noP ∧ W.heap.size ≤ w3.heap.size ∧ W.heap.size ≤ t ∧ W.heap.size ≤ g) := Lib.hid (by
  have hbl := HP.out.lt
  have hbw := HBW.out
  refine ⟨t, g, ⟨HP.out.more hbw, HL.out, HNV.out, rfl, HL3.out.more HBV.out, (HQ2.out.more HB3.out).more HBV.out, HGG.out.below hbw HGG.out.lt, HNS.out, ?_, ?_, ?_, ?_, ?_, ?_⟩, ?_, ?_, ?_⟩
  all_goals
   have h1 := HTG.out
   have h2 := HL3S.out
   have h3 := HN0.out
   have h4 := HT0.out
   omega)
 have HBX := Lib.hid HBW.out
 clear HNV HL3 HBV HQ2 HB3 HBW HGG HP HL
 generalize w3.heap.size = ub at HE ⊢
 go_wp2
 go_ret2
 exact ⟨⟨ub, rfl, HE⟩, HBX.out⟩
/-- found by tables, then fast -/
theorem twice20 {u t g : Nat} {Y : List Gm.Pl} (us : Bool) (rt z : Int) (h0 : 0 ≤ z) (h1 : z < 4294967296) (hst : ST W u t g b s m S LM D [] [] Y) (hz : (locF 12 S LM true rt us z 1).2 = 0) :
  Calls Tryz.prog 9 #[.pointer (some ⟨u, 0, none⟩), modeV true rt us, .int .u32 z, .int .i64 1] W fun e w' => e = .returned (.tuple #[hitX (locF 12 S LM true rt us z 1).1 false, .int .i64 0]) ∧
   Hid (∀ V, Below w'.heap.size w' V → Calls Tryz.prog 9 #[.pointer (some ⟨u, 0, none⟩), modeV true rt us, .int .u32 z, .int .i64 1] V fun e w'' => e = .returned (.tuple #[hitX (locF 12 S LM true rt us z 1).1 true, .int .i64 0]) ∧ Kq [b, u, t, g] V w'') ∧ Kq [b, u, t, g] W w' := by
 obtain ⟨hh, hhh⟩ : ∃ hh, (locF 12 S LM true rt us z 1).1 = hh := ⟨_, rfl⟩
 rw [hhh]
 refine (find_on20 us rt z 1 0 hh h0 h1 hz hhh hst Inv.nil).mono ?_
 rintro e w' ⟨⟨fast, rfl, _, HX⟩, _, hk⟩
 have hnil : ∀ {l1 : List Ln} {q1 : List Rc}, Forg [] [] l1 q1 → l1 = [] ∧ q1 = [] := fun {l1 q1} hf => by
  refine ⟨List.eq_nil_iff_forall_not_mem.2 fun x hx => ?_, List.eq_nil_iff_forall_not_mem.2 fun y hy => ?_⟩
  ·cases hf.mem hx
  ·cases hf.fq y hy
 cases fast with
 | true =>
  obtain ⟨l1, q1, hf, h⟩ := HX.out.1 rfl
  obtain ⟨rfl, rfl⟩ := hnil hf
  rcases h with h | h
  ·exact absurd h (by unfold remB findL; simp [Pe.alwB])
  ·exact absurd h (by unfold shaB findS; simp [Pe.alwB])
 | false =>
  obtain ⟨l1, q1, q2, Y1, hf, _, _, _, hq2, l9, q9, hs9, _, hw⟩ := HX.out.2 rfl
  obtain ⟨rfl, rfl⟩ := hnil hf
  obtain rfl : q2 = [] := List.eq_nil_iff_forall_not_mem.2 fun y hy => by cases hq2 y hy
  obtain ⟨hl9, hkq⟩ := hw rfl
  have hI9 : Inv S LM noE noE l9 q9 := by
   have := (Inv.nil (S := S) (L := LM) (E := noE) (F := noE)).walked hst.lay h0 hz hhh rfl (by rw [← hl9]; exact hkq)
   rw [← hl9] at this
   exact this
  -- what is kept has the rights
  have hsha : shaB l9 rt z 1 us = true := by
   obtain ⟨v, hv⟩ := hkq
   have hv1 := hv.1
   unfold shaB
   rw [hv1]
   show Pe.alwB true v.er 1 us = true
   have hvm : v ∈ l9 := List.mem_of_find?_eq_some hv1
   rw [hl9] at hvm
   obtain ⟨w0, hw0, e0⟩ := fill_mem (Inv.nil (S := S) (L := LM) (E := noE) (F := noE) |> fun h => h) _ hvm
   rcases hw0 with hw0 | ⟨hw0, _⟩
   ·obtain ⟨b0, b1⟩ := r_bound 12 S LM rt z
    obtain ⟨hf0, ha, ht, o1, o2, ho⟩ := loc_zero (k := 1) (us := us) h0 hz
    have hal : Gm.alwF (Gm.atP LM (walkF 12 S LM rt z).g) (walkF 12 S LM rt z).g 1 = 0 := by
     have hl := ht.loc us z 1 h0 rfl
     rw [if_neg (by rw [ha]; decide)] at hl
     rw [hl] at hz
     obtain ⟨j, hj, _, _, hal, _⟩ := find_at (by have := ht.g0; omega) hz
     have e1 : ((walkF 12 S LM rt z).g * 64 + z % 64) / 64 = (walkF 12 S LM rt z).g := by omega
     rw [e1] at hj
     rw [← hj] at hal
     exact hal
    obtain ⟨v0, v1, v2, v3, v4, v5⟩ := giv_er (fun k => Gm.alwF (Gm.atP LM (walkF 12 S LM rt z).g) (walkF 12 S LM rt z).g k) b0 b1
    have hn := narZ_er (addS [] w0) w0 (by rw [hw0]; exact v0) (by rw [hw0]; exact v1)
    rw [hw0] at e0 hn
    rw [e0]
    unfold Pe.alwB at ha ⊢
    rw [show Pe.kindN 1 = 1 from rfl] at ha ⊢
    have n1 := hn.2.2.2 1 (.inl rfl)
    have n8 := hn.2.2.2 8 (.inr (.inr rfl))
    dsimp only at n1 n8
    rw [n1, n8, v4 hal, v5]
    exact ha
   ·cases hw0
  refine ⟨rfl, Lib.hid fun V hV => ?_, hk⟩
  refine (find_on20 us rt z 1 0 hh h0 h1 hz hhh (hs9.more hV) (by rw [dF_no]; exact hI9)).mono ?_
  rintro e w'' ⟨⟨fast, rfl, _, HX2⟩, _, hk2⟩
  cases fast with
  | true => exact ⟨rfl, hk2⟩
  | false =>
   obtain ⟨l1, q1, q2, Y2, _, he, _, hs, _, _⟩ := HX2.out.2 rfl
   obtain ⟨rfl, rfl⟩ := he (by decide)
   rw [hsha] at hs
   cases hs
end
end Go.Proofs.YteaincdeoajkeaaGreatDoor.Mm
end
section
/- Package mmu: the program keeps what the laws lean on (MmuC). -/
namespace Go.Proofs.YteaincdeoajkeaaGreatDoor.Mm
open Go.RowKit Go.Shelf Ut Oc Vw Wa
open Sw (Ln tabL)
open Sb (Rc)
set_option linter.unusedVariables false
set_option maxRecDepth 100000
set_option maxHeartbeats 4000000

/-- the program's memory, and what is remembered in it -/
def PM20 : PMt where
 nb := 0 + 1
 G := HasN
 P W u T b s m S L κ tb := ∃ t g D l q Y, T = [u, t, g] ∧ ST W u t g b s m S L D l q Y ∧ Inv S L noE (dF D) l q ∧ κ = l.map Ln.kept ++ q.map Rc.l ∧ tb = tabL l
section
variable {W W' : World} {u t g b s m : Nat} {S S' : List Int} {L L' : List Gm.Pl} {D D' : List Bool} {l : List Ln} {q : List Rc} {Y : List Gm.Pl}
theorem pv_D (h : PV W b s m 12 S L D) (h' : PV W b s m 12 S' L' D') : D = D' := by
 have e : some _ = some _ := h.blk.symm.trans h'.blk
 injection e with e
 injection e with e
 have e2 : vCells s m D = vCells s m D' := by
  have := congrArg Array.toList e
  simpa using this
 unfold vCells at e2
 injection e2 with _ e2
 injection e2 with _ e2
 clear e h h'
 induction D generalizing D' with
 | nil => cases D' with | nil => rfl | cons a l => cases e2
 | cons a l ih => cases D' with
  | nil => cases e2
  | cons a' l' =>
   rw [List.map_cons, List.map_cons] at e2
   injection e2 with e3 e4
   injection e3 with e3
   rw [e3, ih e4]
/-- it is so behind an act -/
theorem stepM_of (hM : MS W' u t g b s m S L) (hk : Kq [b, u, t, g] W W') : StepM PM20 W W' u [u, t, g] b s m S L := by
 obtain ⟨D, l, q, Y, h1, h2⟩ := hM
 exact ⟨⟨[u, t, g], _, _, ⟨t, g, D, l, q, Y, rfl, h1, h2, rfl, rfl⟩, fun x hx => .inl hx⟩, hk.more (fun z hz => by simp at hz ⊢; rcases hz with h | h | h | h <;> simp [h])⟩
/-- the map is another one -/
theorem ST.mapped {X : List Nat} (h : ST W u t g b s m S L D l q Y) (hk : Kq X W W') (hx : ∀ x ∈ [u, t, g, b, s, 0], x ∉ X) (hm : Gm.MAt W' m L') (hL : Lay L') : ST W' u t g b s m S L' D l q Y :=
 ⟨⟨h.pv.blk.kq hk (hx _ (by simp)), h.pv.st.of_block (hk.block s h.pv.st.lt (hx _ (by simp))), hm, h.pv.len, h.pv.pos, h.pv.sm, h.pv.mb⟩, hL, h.blk.kq hk (hx _ (by simp)), h.y, h.sh.kq hk (hx _ (by simp)), h.tl.kq hk (hx _ (by simp)), h.nd.kq hk (hx _ (by simp)), h.ns, h.bt, h.bg, h.bu, h.tg, h.tu, h.gu⟩
end
theorem prog20 : MmuC PM20 where
 lt := by
  rintro W u T b s m S L κ tb ⟨t, g, D, l, q, Y, rfl, h, _⟩ x hx
  exact h.lo x (by simp at hx ⊢; rcases hx with h | h | h <;> simp [h])
 tag := by
  rintro W u T b s m S L κ tb ⟨t, g, D, l, q, Y, rfl, h, _⟩ x hx
  simp at hx
  rcases hx with rfl | rfl | rfl
  ·exact ⟨_, h.cell0, trivial⟩
  ·exact ⟨_, h.tl.cell0, trivial⟩
  ·exact ⟨_, h.sh.pre.1, trivial⟩
 pv := by
  rintro W u T b s m S L κ tb ⟨t, g, D, l, q, Y, rfl, h, _⟩
  exact ⟨D, h.pv⟩
 gb := fun h hb => HasN.below h hb (Nat.lt_succ_self _)
 kq := by
  rintro W W' u T b s m S L κ tb X ⟨t, g, D, l, q, Y, rfl, h, hi, hκ, htb⟩ hk hx hn
  refine ⟨t, g, D, l, q, Y, rfl, h.kq hk (fun x hm => ?_), hi, hκ, htb⟩
  simp only [List.mem_cons, List.not_mem_nil, or_false] at hm
  rcases hm with rfl | rfl | rfl | rfl | rfl | rfl | rfl
  ·exact hx _ (by simp)
  ·exact hx _ (by simp)
  ·exact hx _ (by simp)
  ·exact hx _ (by simp)
  ·exact hx _ (by simp)
  ·exact hx _ (by simp)
  ·exact fun hm => absurd (hn _ hm) (Nat.not_succ_le_self _)
 held := by
  rintro W u T b s m S L κ tb ⟨t, g, D, l, q, Y, rfl, h, hi, rfl, rfl⟩
  have := hi.held h.lay
  exact this
 new := by
  intro W b s m S L D r hG hn hL hp h0 h4
  refine (mmuNew_any r hG hn hL hp h0 h4).mono fun e w' ⟨⟨u, h1, h2⟩, h3⟩ => ⟨⟨u, h1, Lib.hid ?_⟩, Kq.of_below h3⟩
  obtain ⟨t, g, hs, a1, a2, a3⟩ := h2.out
  exact ⟨[u, t, g], _, ⟨t, g, D, [], [], Gm.noP, rfl, hs, Inv.nil, rfl, rfl⟩, fun x hx => by
   simp at hx
   omega⟩
 find := by
  rintro W u T b s m S L κ tb on us rt z k ⟨t, g, D, l, q, Y, rfl, h, hi, _⟩ h0 h1
  exact (find20_any on us rt z k _ _ h0 h1 rfl rfl ⟨D, l, q, Y, h, hi⟩).mono fun e w' ⟨⟨f, q1, q2⟩, q3, q4⟩ => ⟨⟨f, q1, q2⟩, Lib.hid (stepM_of q3.out.ms q4)⟩
 twice := by
  rintro W u T b s m S L tb rt z us ⟨t, g, D, l, q, Y, rfl, h, hi, hκ, _⟩ h0 h1 hz
  obtain ⟨hl, hq⟩ := List.append_eq_nil_iff.1 hκ.symm
  obtain rfl := List.map_eq_nil_iff.1 hl
  obtain rfl := List.map_eq_nil_iff.1 hq
  refine (twice20 us rt z h0 h1 h hz).mono fun e w' ⟨q1, q2, q3⟩ => ⟨q1, Lib.hid fun V hV => (q2.out V hV).mono fun e w'' ⟨r1, r2⟩ => ⟨r1, _, r2, fun y hy => .inl ?_⟩, q3.more (fun z hz => ?_)⟩
  ·simp at hy ⊢
   rcases hy with h | h | h | h <;> simp [h]
  ·simp at hz ⊢
   rcases hz with h | h | h | h <;> simp [h]
 load := by
  rintro W u T b s m S L κ tb on us rt z wd k ⟨t, g, D, l, q, Y, rfl, h, hi, _⟩ h0 h1
  exact (load20_any on us rt z wd k h0 h1 ⟨D, l, q, Y, h, hi⟩).mono fun e w' ⟨q1, q2, q3⟩ => ⟨q1, Lib.hid (stepM_of q2.out q3)⟩
 save := by
  rintro W u T b s m S L κ tb on us rt z wd x ⟨t, g, D, l, q, Y, rfl, h, hi, _⟩ h0 h1 x0 x1
  refine (save20_any on us rt z wd x h0 h1 x0 x1 ⟨D, l, q, Y, h, hi⟩).mono fun e w' ⟨q1, q2, q3⟩ => ⟨q1, Lib.hid ?_⟩
  obtain ⟨D, l, q, Y, h1, h2⟩ := q2.out
  exact ⟨⟨[u, t, g], _, _, ⟨t, g, D, l, q, Y, rfl, h1, h2, rfl, rfl⟩, fun x hx => .inl hx⟩, q3⟩
 vsave := by
  rintro W W' u T b s m S L κ tb D D' z wd x ⟨t, g, D0, l, q, Y, rfl, h, hi, hκ, htb⟩ hp h0 hD hp' hk
  obtain rfl := pv_D h.pv hp
  subst hD
  obtain ⟨r1, r2⟩ := MS.vsave h hi h0 hp' hk
  exact ⟨t, g, _, l, q, Y, rfl, r1, r2, hκ, htb⟩
 gone := by
  rintro W V u T b s m S L κ tb X p ⟨t, g, D, l, q, Y, rfl, h, hi, _⟩ hk hx hn hm p0 p12
  have hL := lay_drop h.lay p hm.2
  have hs : ST V u t g b s m S (Gm.drL L p) D l q Y := h.mapped hk (fun x hm => by
   simp only [List.mem_cons, List.not_mem_nil, or_false] at hm
   rcases hm with rfl | rfl | rfl | rfl | rfl | rfl
   ·exact hx _ (by simp)
   ·exact hx _ (by simp)
   ·exact hx _ (by simp)
   ·exact hx _ (by simp)
   ·exact hx _ (by simp)
   ·exact fun hm => absurd (hn _ hm) (Nat.not_succ_le_self _)) hm hL
  exact (gone20_any p hs (hi.drop h.pv.st.2.1 h.lay.1 p hm.2)).mono fun e w' ⟨q1, q2, q3⟩ => ⟨q1, Lib.hid (stepM_of q2.out q3)⟩
 set := by
  rintro W V u T b s m S L κ tb X p ⟨t, g, D, l, q, Y, rfl, h, hi, _⟩ hk hx hn hm p0 p12
  have hL := lay_set h.lay p p0 hm.2
  have hs : ST V u t g b s m S (Gm.setL L p (placeP p)) D l q Y := h.mapped hk (fun x hm => by
   simp only [List.mem_cons, List.not_mem_nil, or_false] at hm
   rcases hm with rfl | rfl | rfl | rfl | rfl | rfl
   ·exact hx _ (by simp)
   ·exact hx _ (by simp)
   ·exact hx _ (by simp)
   ·exact hx _ (by simp)
   ·exact hx _ (by simp)
   ·exact fun hm => absurd (hn _ hm) (Nat.not_succ_le_self _)) hm hL
  exact ⟨_, _, t, g, D, l, q, Y, rfl, hs, hi.set h.pv.st.2.1 h.lay.1 p _ hm.2, rfl, rfl⟩
 flush := by
  rintro W u T b s m S L κ tb ⟨t, g, D, l, q, Y, rfl, h, hi, _⟩
  exact (flush20_any ⟨D, l, q, Y, h, hi⟩).mono fun e w' ⟨⟨n, q1⟩, q2, q3⟩ => ⟨⟨_, q1⟩, Lib.hid (stepM_of q2.out q3)⟩
 kept := by
  rintro W u T b s m S L κ tb ⟨t, g, D, l, q, Y, rfl, h, hi, _⟩
  refine (kept20_any h hi).mono fun e w' ⟨⟨v, q1, q2⟩, q3⟩ => ⟨⟨v, q1, Lib.hid ?_⟩, q3.more (fun z hz => by simp at hz ⊢; rcases hz with h | h | h | h <;> simp [h])⟩
  obtain ⟨l', q', Y', a1, a2, a3, a4⟩ := q2.out
  refine ⟨[u, t, g], _, _, ⟨t, g, noD, l', q', Y', rfl, a1, a2, rfl, rfl⟩, a3, a4, fun y n c e hm => ?_, fun x hx => .inl hx⟩
  obtain ⟨a, c', e', _, hge⟩ := a3
  rw [e'] at e
  injection e with e
  have h1 := hge y e
  have h2 := h.lo y.block (by simp at hm ⊢; rcases hm with h | h | h <;> simp [h])
  omega
 table := by
  rintro W u T b s m S L κ tb p ⟨t, g, D, l, q, Y, rfl, h, hi, _, rfl⟩
  refine (table20_any p h hi).mono fun e w' ⟨q1, q2, q3⟩ => ⟨q1, Lib.hid ?_, q3.more (fun z hz => by simp at hz ⊢; rcases hz with h | h | h | h <;> simp [h])⟩
  obtain ⟨l', q', Y', a1, a2, a3⟩ := q2.out
  exact ⟨[u, t, g], _, _, ⟨t, g, noD, l', q', Y', rfl, a1, a2, rfl, rfl⟩, a3, fun x hx => .inl hx⟩
end Go.Proofs.YteaincdeoajkeaaGreatDoor.Mm
end
