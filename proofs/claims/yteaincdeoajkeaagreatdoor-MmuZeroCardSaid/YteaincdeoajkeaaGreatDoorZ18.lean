/- Several texts in one: Im Ea Rb Rh Io -/
import Derived.Test.YteaincdeoajkeaaGreatDoorZ17
import Derived.Test.YteaincdeoajkeaaGreatDoorZ01
import Derived.Lib.OthersKept
import Derived.Test.YteaincdeoajkeaaGreatDoorZ03
import Derived.Test.YteaincdeoajkeaaGreatDoorZ06
import Derived.Test.YteaincdeoajkeaaGreatDoorZ12
section
/- Stage 20, plainly: what Load and Save by an address say; the document's Load, Save (hermitageref20). -/
namespace Go.Proofs.YteaincdeoajkeaaGreatDoor.Mm
open Go.RowKit Go.Shelf Ut Oc Vw Wa
set_option maxRecDepth 100000
set_option linter.unusedVariables false
set_option maxHeartbeats 4000000

/-- may so many bytes lie there; the number at a hit; the bytes behind one that is saved -/
def okZ (wd z : Int) : Bool := isW wd && (z % wd == 0)
def ldU (S : List Int) (h : Int × Int × Int) (wd : Int) : Int := num (((Fr.frameL S h.2.1.toNat).drop h.2.2.toNat).take wd.toNat)
def svL (S : List Int) (h : Int × Int × Int) (wd x : Int) : List Int := Fr.layF S h.2.1.toNat (putZ (Fr.frameL S h.2.1.toNat) h.2.2.toNat wd.toNat x)
def ld20 (n : Nat) (S : List Int) (L : List Gm.Pl) (on : Bool) (rt : Int) (us : Bool) (z wd k : Int) : Int × Int :=
  if okZ wd z = true then (if (locF n S L on rt us z k).2 = 0 then (ldU S (locF n S L on rt us z k).1 wd, 0) else (0, (locF n S L on rt us z k).2)) else (0, 1)
def sc20 (n : Nat) (S : List Int) (L : List Gm.Pl) (on : Bool) (rt : Int) (us : Bool) (z wd : Int) : Int :=
  if okZ wd z = true then (locF n S L on rt us z 2).2 else 1
def ss20 (n : Nat) (S : List Int) (L : List Gm.Pl) (on : Bool) (rt : Int) (us : Bool) (z wd x : Int) : List Int :=
  if okZ wd z = true then (if (locF n S L on rt us z 2).2 = 0 then svL S (locF n S L on rt us z 2).1 wd x else S) else S
/-- a hit's page, frame, place -/
theorem loc_hit {n : Nat} {S : List Int} {L : List Gm.Pl} {on us : Bool} {rt z k : Int} (hL : Gm.Okay L) (h0 : 0 ≤ z) (hz : (locF n S L on rt us z k).2 = 0) :
    ∃ j f o : Nat, (locF n S L on rt us z k).1 = ((j : Int), (f : Int), (o : Int)) ∧ j < 12 ∧ f < n ∧ f < 32 ∧ (o : Int) = z % 64 ∧ o < 64 := by
  unfold locF at hz ⊢
  by_cases c1 : on = false
  · rw [if_pos c1] at hz ⊢
    obtain ⟨M, j, f, o, H, hh⟩ := find_zero hL h0 hz
    exact ⟨j, f, o, hh, H.j12, H.fn, H.f32, H.ho.symm, by have := H.ho; omega⟩
  · rw [if_neg c1] at hz ⊢
    by_cases c2 : (walkF n S L rt z).f ≠ 0
    · rw [if_pos c2] at hz
      exact absurd hz c2
    · rw [if_neg c2] at hz ⊢
      by_cases c3 : Pe.alwB (walkF n S L rt z).o (walkF n S L rt z).r k us = false
      · rw [if_pos c3] at hz
        exact absurd hz (by decide)
      · rw [if_neg c3] at hz ⊢
        obtain ⟨g0, g1⟩ := walkF_page (Decidable.not_not.1 c2)
        obtain ⟨M, j, f, o, H, hh⟩ := find_zero hL (by omega) hz
        exact ⟨j, f, o, hh, H.j12, H.fn, H.f32, by have := H.ho; omega, by have := H.ho; omega⟩
theorem okZ_cases (wd z : Int) (h0 : 0 ≤ z) : (okZ wd z = false ∧ isW wd = false) ∨ (wd = 2 ∧ okZ wd z = false ∧ (z % 2 != 0) = true) ∨ (wd = 4 ∧ okZ wd z = false ∧ (z % 4 != 0) = true) ∨ (wd = 1 ∧ okZ wd z = true) ∨ (wd = 2 ∧ okZ wd z = true ∧ (z % 2 != 0) = false) ∨ (wd = 4 ∧ okZ wd z = true ∧ (z % 4 != 0) = false) := by
  unfold okZ
  cases hw : isW wd with
  | false => exact .inl ⟨rfl, rfl⟩
  | true =>
    have hw2 := hw
    unfold isW at hw2
    simp at hw2
    rcases (show wd = 1 ∨ wd = 2 ∨ wd = 4 by omega) with rfl | rfl | rfl
    · exact .inr (.inr (.inr (.inl ⟨rfl, by simp [Int.emod_one]⟩)))
    · by_cases h : z % 2 = 0
      · exact .inr (.inr (.inr (.inr (.inl ⟨rfl, by simp [h], by simp [h]⟩))))
      · exact .inr (.inl ⟨rfl, by simp [h], by simp [h]⟩)
    · by_cases h : z % 4 = 0
      · exact .inr (.inr (.inr (.inr (.inr ⟨rfl, by simp [h], by simp [h]⟩))))
      · exact .inr (.inr (.inl ⟨rfl, by simp [h], by simp [h]⟩))
theorem ok_fit {wd z : Int} {o : Nat} (h0 : 0 ≤ z) (h : okZ wd z = true) (ho : (o : Int) = z % 64) : ∃ M : Nat, wd = M ∧ isW (M : Int) = true ∧ o + M ≤ 64 := by
  rcases okZ_cases wd z h0 with ⟨h1, _⟩ | ⟨_, h1, _⟩ | ⟨_, h1, _⟩ | ⟨rfl, _⟩ | ⟨rfl, _, h2⟩ | ⟨rfl, _, h2⟩
  · rw [h1] at h; cases h
  · rw [h1] at h; cases h
  · rw [h1] at h; cases h
  · exact ⟨1, rfl, by decide, by omega⟩
  · exact ⟨2, rfl, by decide, by simp at h2; omega⟩
  · exact ⟨4, rfl, by decide, by simp at h2; omega⟩
section
variable {g bt B q n gv cap : Nat} {S : List Int} {L : List Gm.Pl} {D : List Bool}
theorem mode_new (w : World) (on us : Bool) (rt : Int) : Blk (w.alloc (.cells #[.bool on, .int .i64 rt, .bool us] 30)) w.heap.size 30 [.bool on, .int .i64 rt, .bool us] := Blk.new w _ _
theorem refLoad20_bad (on us : Bool) (rt z wd k : Int) (h0 : 0 ≤ z) (h1 : z < 4294967296) (hb : okZ wd z = false) (w : World) :
    Calls Tryz.prog 12 #[.pointer (some ⟨g, 0, none⟩), .agg #[.bool on, .int .i64 rt, .bool us], .int .u32 z, .int .i64 wd, .int .i64 k] w fun e w' => e = .returned (.tuple #[.int .u32 0, .int .i64 1]) ∧ Below w.heap.size w w' := by
  have HB : Hid (Below w.heap.size w (w.alloc (.cells #[.bool on, .int .i64 rt, .bool us] 30))) := Lib.hid ((Below.refl _ _).alloc (Nat.le_refl _) _)
  rcases okZ_cases wd z h0 with ⟨_, hw⟩ | ⟨rfl, _, d0⟩ | ⟨rfl, _, d0⟩ | ⟨_, h2⟩ | ⟨_, h2, _⟩ | ⟨_, h2, _⟩
  · unfold isW at hw
    simp at hw
    have e1 : ¬ wd = 1 := by omega
    have e2 : ¬ wd = 2 := by omega
    have e4 : ¬ wd = 4 := by omega
    clear hw hb
    go_enter Tryz.func12, Tryz.ntmps12
    go_wp2
    go_ret2
    exact ⟨rfl, HB.out⟩
  · clear hb
    go_enter Tryz.func12, Tryz.ntmps12
    go_wp2
    go_ret2
    exact ⟨rfl, HB.out⟩
  · clear hb
    go_enter Tryz.func12, Tryz.ntmps12
    go_wp2
    go_ret2
    exact ⟨rfl, HB.out⟩
  all_goals rw [h2] at hb; cases hb
theorem refSave20_bad (on us : Bool) (rt z wd x : Int) (h0 : 0 ≤ z) (h1 : z < 4294967296) (hb : okZ wd z = false) (w : World) :
    Calls Tryz.prog 19 #[.pointer (some ⟨g, 0, none⟩), .agg #[.bool on, .int .i64 rt, .bool us], .int .u32 z, .int .i64 wd, .int .u32 x] w fun e w' => e = .returned (.int .i64 1) ∧ Below w.heap.size w w' := by
  have HB : Hid (Below w.heap.size w (w.alloc (.cells #[.bool on, .int .i64 rt, .bool us] 30))) := Lib.hid ((Below.refl _ _).alloc (Nat.le_refl _) _)
  rcases okZ_cases wd z h0 with ⟨_, hw⟩ | ⟨rfl, _, d0⟩ | ⟨rfl, _, d0⟩ | ⟨_, h2⟩ | ⟨_, h2, _⟩ | ⟨_, h2, _⟩
  · unfold isW at hw
    simp at hw
    have e1 : ¬ wd = 1 := by omega
    have e2 : ¬ wd = 2 := by omega
    have e4 : ¬ wd = 4 := by omega
    clear hw hb
    go_enter Tryz.func19, Tryz.ntmps19
    go_wp2
    go_ret
    exact ⟨rfl, HB.out⟩
  · clear hb
    go_enter Tryz.func19, Tryz.ntmps19
    go_wp2
    go_ret
    exact ⟨rfl, HB.out⟩
  · clear hb
    go_enter Tryz.func19, Tryz.ntmps19
    go_wp2
    go_ret
    exact ⟨rfl, HB.out⟩
  all_goals rw [h2] at hb; cases hb
/-- the width's test says yes: what the walk is told -/
theorem okZ_yes {wd z : Int} (h0 : 0 ≤ z) (h : okZ wd z = true) : wd = 1 ∨ (wd = 2 ∧ (z % 2 != 0) = false) ∨ (wd = 4 ∧ (z % 4 != 0) = false) := by
  rcases okZ_cases wd z h0 with ⟨h1, _⟩ | ⟨_, h1, _⟩ | ⟨_, h1, _⟩ | ⟨e, _⟩ | ⟨e, _, h2⟩ | ⟨e, _, h2⟩
  · rw [h1] at h; cases h
  · rw [h1] at h; cases h
  · rw [h1] at h; cases h
  · exact .inl e
  · exact .inr (.inl ⟨e, h2⟩)
  · exact .inr (.inr ⟨e, h2⟩)
theorem refLoad20_flt (on us : Bool) (rt z wd k c : Int) (h : Int × Int × Int) (h0 : 0 ≤ z) (h1 : z < 4294967296) (hk : okZ wd z = true) (hc : (locF n S L on rt us z k).2 = c) (hz : ¬ c = 0) (hh : (locF n S L on rt us z k).1 = h) (w : World) (hP : DV w g bt B q n gv cap S L D) :
    Calls Tryz.prog 12 #[.pointer (some ⟨g, 0, none⟩), .agg #[.bool on, .int .i64 rt, .bool us], .int .u32 z, .int .i64 wd, .int .i64 k] w fun e w' => e = .returned (.tuple #[.int .u32 0, .int .i64 c]) ∧ Below w.heap.size w w' := by
  have HB : Hid (Below w.heap.size w (w.alloc (.cells #[.bool on, .int .i64 rt, .bool us] 30))) := Lib.hid ((Below.refl _ _).alloc (Nat.le_refl _) _)
  have HF := Lib.hid (Wa.refFind_any on us rt z k c h h0 h1 hc hh _ (hP.more HB.out))
  have z0 : (c == 0) = false := by simpa using hz
  have hy := okZ_yes h0 hk
  clear hP hc hz hh hk
  obtain ⟨ha, hb, hd⟩ := h
  unfold hitV at HF
  dsimp only at HF
  rcases hy with rfl | ⟨rfl, d0⟩ | ⟨rfl, d0⟩
  all_goals
    go_enter Tryz.func12, Tryz.ntmps12
    go_wp2_with fail
    refine HF.out.mono ?_
    rintro e w1 ⟨rfl, hb1⟩
    have HB1 := Lib.hid (HB.out.trans (hb1.mono HB.out.size))
    have HB2 : Hid (Below w.heap.size w (w1.alloc (.cells #[.int .i64 ha, .int .i64 hb, .int .i64 hd, .bool false] 36))) := Lib.hid (HB1.out.alloc HB1.out.size _)
    clear hb1
    go_wp2
    go_ret2
    exact ⟨rfl, HB2.out⟩
theorem refSave20_flt (on us : Bool) (rt z wd x c : Int) (h : Int × Int × Int) (h0 : 0 ≤ z) (h1 : z < 4294967296) (hk : okZ wd z = true) (hc : (locF n S L on rt us z 2).2 = c) (hz : ¬ c = 0) (hh : (locF n S L on rt us z 2).1 = h) (w : World) (hP : DV w g bt B q n gv cap S L D) :
    Calls Tryz.prog 19 #[.pointer (some ⟨g, 0, none⟩), .agg #[.bool on, .int .i64 rt, .bool us], .int .u32 z, .int .i64 wd, .int .u32 x] w fun e w' => e = .returned (.int .i64 c) ∧ Below w.heap.size w w' := by
  have HB : Hid (Below w.heap.size w (w.alloc (.cells #[.bool on, .int .i64 rt, .bool us] 30))) := Lib.hid ((Below.refl _ _).alloc (Nat.le_refl _) _)
  have HF := Lib.hid (Wa.refFind_any on us rt z 2 c h h0 h1 hc hh _ (hP.more HB.out))
  have z0 : (c == 0) = false := by simpa using hz
  have hy := okZ_yes h0 hk
  clear hP hc hz hh hk
  obtain ⟨ha, hb, hd⟩ := h
  unfold hitV at HF
  dsimp only at HF
  rcases hy with rfl | ⟨rfl, d0⟩ | ⟨rfl, d0⟩
  all_goals
    go_enter Tryz.func19, Tryz.ntmps19
    go_wp2_with fail
    refine HF.out.mono ?_
    rintro e w1 ⟨rfl, hb1⟩
    have HB1 := Lib.hid (HB.out.trans (hb1.mono HB.out.size))
    have HB2 : Hid (Below w.heap.size w (w1.alloc (.cells #[.int .i64 ha, .int .i64 hb, .int .i64 hd, .bool false] 36))) := Lib.hid (HB1.out.alloc HB1.out.size _)
    clear hb1
    go_wp2
    go_ret
    exact ⟨rfl, HB2.out⟩
theorem refLoad20_ok (on us : Bool) (rt z wd k : Int) (h0 : 0 ≤ z) (h1 : z < 4294967296) (hk : okZ wd z = true) (hc : (locF n S L on rt us z k).2 = 0) (w : World) (hP : DV w g bt B q n gv cap S L D) :
    Calls Tryz.prog 12 #[.pointer (some ⟨g, 0, none⟩), .agg #[.bool on, .int .i64 rt, .bool us], .int .u32 z, .int .i64 wd, .int .i64 k] w fun e w' => e = .returned (.tuple #[.int .u32 (ldU S (locF n S L on rt us z k).1 wd), .int .i64 0]) ∧ Below w.heap.size w w' := by
  have HB : Hid (Below w.heap.size w (w.alloc (.cells #[.bool on, .int .i64 rt, .bool us] 30))) := Lib.hid ((Below.refl _ _).alloc (Nat.le_refl _) _)
  obtain ⟨j, f, o, hh, _, fn, f32, ho, _⟩ := loc_hit hP.mp.2 h0 hc
  obtain ⟨M, hM, hw, hfit⟩ := ok_fit h0 hk ho
  have HF := Lib.hid (Wa.refFind_any on us rt z k 0 _ h0 h1 hc hh _ (hP.more HB.out))
  obtain ⟨u, hu⟩ : ∃ u, ldU S (locF n S L on rt us z k).1 wd = u := ⟨_, rfl⟩
  have HL : Hid (∀ W, DV W g bt B q n gv cap S L D → Calls Tryz.prog 47 #[.pointer (some ⟨bt, 0, none⟩), .int .i64 f, .int .i64 o, .int .i64 wd] W fun e w' => e = .returned (.tuple #[.int .u32 u, .int .i64 0]) ∧ W = w') := Lib.hid fun W hW => by
    obtain ⟨vs, hs⟩ := hW.st
    have := Fr.refLoad_in hs fn hw hfit
    rw [Fr.fr_at S fn, ← hM] at this
    rw [hh] at hu
    unfold ldU at hu
    rw [hM] at hu
    rw [← hu]
    exact this
  rw [hu]
  have HP := Lib.hid hP
  have hy := okZ_yes h0 hk
  have hle : ∀ X, Below w.heap.size w X → g < X.heap.size := fun X h => Nat.lt_of_lt_of_le hP.lt h.size
  have HLE := Lib.hid hle
  clear hP hc hh hk hu hM hw hfit hle ho fn f32
  generalize (j : Int) = J at HF
  generalize (f : Int) = F at HF HL
  generalize (o : Int) = O at HF HL
  unfold hitV at HF
  dsimp only at HF
  rcases hy with rfl | ⟨rfl, d0⟩ | ⟨rfl, d0⟩
  · go_enter Tryz.func12, Tryz.ntmps12
    go_wp2_with fail
    refine HF.out.mono ?_
    rintro e w1 ⟨rfl, hb1⟩
    have HB1 := Lib.hid (HB.out.trans (hb1.mono HB.out.size))
    have HB2 : Hid (Below w.heap.size w (w1.alloc (.cells #[.int .i64 J, .int .i64 F, .int .i64 O, .bool false] 36))) := Lib.hid (HB1.out.alloc HB1.out.size _)
    have HN : Hid (Blk (w1.alloc (.cells #[.int .i64 J, .int .i64 F, .int .i64 O, .bool false] 36)) w1.heap.size 36 [.int .i64 J, .int .i64 F, .int .i64 O, .bool false]) := Lib.hid (Blk.new w1 _ _)
    clear hb1 HF HB1
    go_upto_region 6 with fail
    generalize w1.alloc (.cells #[.int .i64 J, .int .i64 F, .int .i64 O, .bool false] 36) = V at HB2 HN ⊢
    generalize w1.heap.size = hb at HN ⊢
    have HV := Lib.hid (HP.out.more HB2.out)
    have c0 := HV.out.cell0
    have n1 := HN.out.cell (j := 1) rfl
    have n2 := HN.out.cell (j := 2) rfl
    have b0 := HLE.out V HB2.out
    have b1 := HN.out.lt
    have HLD : Hid (∀ W, Below V.heap.size V W → Calls Tryz.prog 47 #[.pointer (some ⟨bt, 0, none⟩), .int .i64 F, .int .i64 O, .int .i64 1] W fun e w' => e = .returned (.tuple #[.int .u32 u, .int .i64 0]) ∧ W = w') := Lib.hid fun W hW => HL.out W (HV.out.more hW)
    apply wp_region_auto [45, 46, 47, 48, 49, 50, 51, 52, 53, 54, 44, 55, 56, 14] [_, _, _, _, _, _, _, _, _, _, _, _, _, _] (fun W' => Below V.heap.size V W')
    case hm => kernel_rfl
    case hT => intro y; simp only [setAll, List.setIfInBounds_toArray, List.set_cons_succ, List.set_cons_zero]; exact rfl
    case hok => kernel_rfl
    case hn => decide
    case hw => exact (Below.refl _ _).drew
    case hs =>
      refine auto_op 45 [] (by kernel_rfl) (fun y w' HW hd K hK => ?_) ?_
      · go_simp
        refine hK _ _ ?_ ?_ HW
        · simp [upd]
        · exact rfl
      refine auto_op 46 [0] (by kernel_rfl) (fun y w' HW hd K hK => ?_) ?_
      · have e0 := hd_nth (hd 0 (by simp)) rfl
        go_simp
        refine hK _ _ ?_ ?_ HW
        · simp [upd, e0]
        · exact rfl
      refine auto_op 47 [1] (by kernel_rfl) (fun y w' HW hd K hK => ?_) ?_
      · have e1 := hd_nth (hd 1 (by simp)) rfl
        go_simp
        refine hK _ _ ?_ ?_ HW
        · simp [upd, e1]
        · exact rfl
      refine auto_op 48 [2] (by kernel_rfl) (fun y w' HW hd K hK => ?_) ?_
      · have e2 := hd_nth (hd 2 (by simp)) rfl
        have hcl : ∀ p : Addr, p.block < V.heap.size → w'.cell? p = V.cell? p := fun p hp => HW.cell hp
        go_simp
        refine hK _ _ ?_ ?_ HW
        · simp [upd, e2]
        · exact rfl
      refine auto_op 49 [] (by kernel_rfl) (fun y w' HW hd K hK => ?_) ?_
      · go_simp
        refine hK _ _ ?_ ?_ HW
        · simp [upd]
        · exact rfl
      refine auto_op 50 [4] (by kernel_rfl) (fun y w' HW hd K hK => ?_) ?_
      · have e4 := hd_nth (hd 4 (by simp)) rfl
        have hcl : ∀ p : Addr, p.block < V.heap.size → w'.cell? p = V.cell? p := fun p hp => HW.cell hp
        go_simp
        refine hK _ _ ?_ ?_ HW
        · simp [upd, e4]
        · exact rfl
      refine auto_op 51 [] (by kernel_rfl) (fun y w' HW hd K hK => ?_) ?_
      · go_simp
        refine hK _ _ ?_ ?_ HW
        · simp [upd]
        · exact rfl
      refine auto_op 52 [6] (by kernel_rfl) (fun y w' HW hd K hK => ?_) ?_
      · have e6 := hd_nth (hd 6 (by simp)) rfl
        have hcl : ∀ p : Addr, p.block < V.heap.size → w'.cell? p = V.cell? p := fun p hp => HW.cell hp
        go_simp
        refine hK _ _ ?_ ?_ HW
        · simp [upd, e6]
        · exact rfl
      refine auto_op 53 [] (by kernel_rfl) (fun y w' HW hd K hK => ?_) ?_
      · go_simp
        refine hK _ _ ?_ ?_ HW
        · simp [upd]
        · exact rfl
      refine auto_op 54 [3, 5, 7, 8] (by kernel_rfl) (fun y w' HW hd K hK => ?_) ?_
      · have e3 := hd_nth (hd 3 (by simp)) rfl
        have e5 := hd_nth (hd 5 (by simp)) rfl
        have e7 := hd_nth (hd 7 (by simp)) rfl
        have e8 := hd_nth (hd 8 (by simp)) rfl
        go_simp
        refine (HLD.out _ HW).mono ?_
        rintro e w3 ⟨rfl, rfl⟩
        refine hK _ _ ?_ ?_ HW
        · simp [upd, e3, e5, e7, e8]
        · exact rfl
      refine auto_op 44 [9] (by kernel_rfl) (fun y w' HW hd K hK => ?_) ?_
      · have e9 := hd_nth (hd 9 (by simp)) rfl
        go_simp
        refine hK _ _ ?_ ?_ HW
        · simp [upd, e9]
        · exact rfl
      refine auto_op 55 [10] (by kernel_rfl) (fun y w' HW hd K hK => ?_) ?_
      · have e10 := hd_nth (hd 10 (by simp)) rfl
        go_simp
        refine hK _ _ ?_ ?_ HW
        · simp [upd, e10]
        · exact rfl
      refine auto_op 56 [10] (by kernel_rfl) (fun y w' HW hd K hK => ?_) ?_
      · have e10 := hd_nth (hd 10 (by simp)) rfl
        go_simp
        refine hK _ _ ?_ ?_ HW
        · simp [upd, e10]
        · exact rfl
      refine auto_op 14 [11, 9, 0, 1, 2, 3, 4, 5, 6, 7, 8, 9, 10, 11] (by kernel_rfl) (fun y w' HW hd K hK => ?_) ?_
      · have e0 := hd_nth (hd 0 (by simp)) rfl
        have e1 := hd_nth (hd 1 (by simp)) rfl
        have e2 := hd_nth (hd 2 (by simp)) rfl
        have e3 := hd_nth (hd 3 (by simp)) rfl
        have e4 := hd_nth (hd 4 (by simp)) rfl
        have e5 := hd_nth (hd 5 (by simp)) rfl
        have e6 := hd_nth (hd 6 (by simp)) rfl
        have e7 := hd_nth (hd 7 (by simp)) rfl
        have e8 := hd_nth (hd 8 (by simp)) rfl
        have e9 := hd_nth (hd 9 (by simp)) rfl
        have e10 := hd_nth (hd 10 (by simp)) rfl
        have e11 := hd_nth (hd 11 (by simp)) rfl
        go_simp
        refine hK _ _ ?_ ?_ HW
        · simp [upd, e0, e1, e2, e3, e4, e5, e6, e7, e8, e9, e10, e11]
        · exact rfl
      refine auto_last fun y w' HW hd K hK => ?_
      have e0 := hd_nth (hd 0 (by omega)) rfl
      have e1 := hd_nth (hd 1 (by omega)) rfl
      have e2 := hd_nth (hd 2 (by omega)) rfl
      have e3 := hd_nth (hd 3 (by omega)) rfl
      have e4 := hd_nth (hd 4 (by omega)) rfl
      have e5 := hd_nth (hd 5 (by omega)) rfl
      have e6 := hd_nth (hd 6 (by omega)) rfl
      have e7 := hd_nth (hd 7 (by omega)) rfl
      have e8 := hd_nth (hd 8 (by omega)) rfl
      have e9 := hd_nth (hd 9 (by omega)) rfl
      have e10 := hd_nth (hd 10 (by omega)) rfl
      have e11 := hd_nth (hd 11 (by omega)) rfl
      have e12 := hd_nth (hd 12 (by omega)) rfl
      have e13 := hd_nth (hd 13 (by omega)) rfl
      go_simp
      refine hK _ _ ?_
      clear hd hK K e0 e1 e2 e3 e4 e5 e6 e7 e8 e9 e10 e11 e12 e13
      have HB9 := Lib.hid (HB2.out.trans (HW.mono HB2.out.size))
      clear HW
      go_wp2
      go_ret2
      exact ⟨rfl, HB9.out⟩
  · go_enter Tryz.func12, Tryz.ntmps12
    go_wp2_with fail
    refine HF.out.mono ?_
    rintro e w1 ⟨rfl, hb1⟩
    have HB1 := Lib.hid (HB.out.trans (hb1.mono HB.out.size))
    have HB2 : Hid (Below w.heap.size w (w1.alloc (.cells #[.int .i64 J, .int .i64 F, .int .i64 O, .bool false] 36))) := Lib.hid (HB1.out.alloc HB1.out.size _)
    have HN : Hid (Blk (w1.alloc (.cells #[.int .i64 J, .int .i64 F, .int .i64 O, .bool false] 36)) w1.heap.size 36 [.int .i64 J, .int .i64 F, .int .i64 O, .bool false]) := Lib.hid (Blk.new w1 _ _)
    clear hb1 HF HB1
    go_upto_region 6 with fail
    generalize w1.alloc (.cells #[.int .i64 J, .int .i64 F, .int .i64 O, .bool false] 36) = V at HB2 HN ⊢
    generalize w1.heap.size = hb at HN ⊢
    have HV := Lib.hid (HP.out.more HB2.out)
    have c0 := HV.out.cell0
    have n1 := HN.out.cell (j := 1) rfl
    have n2 := HN.out.cell (j := 2) rfl
    have b0 := HLE.out V HB2.out
    have b1 := HN.out.lt
    have HLD : Hid (∀ W, Below V.heap.size V W → Calls Tryz.prog 47 #[.pointer (some ⟨bt, 0, none⟩), .int .i64 F, .int .i64 O, .int .i64 2] W fun e w' => e = .returned (.tuple #[.int .u32 u, .int .i64 0]) ∧ W = w') := Lib.hid fun W hW => HL.out W (HV.out.more hW)
    apply wp_region_auto [45, 46, 47, 48, 49, 50, 51, 52, 53, 54, 44, 55, 56, 14] [_, _, _, _, _, _, _, _, _, _, _, _, _, _] (fun W' => Below V.heap.size V W')
    case hm => kernel_rfl
    case hT => intro y; simp only [setAll, List.setIfInBounds_toArray, List.set_cons_succ, List.set_cons_zero]; exact rfl
    case hok => kernel_rfl
    case hn => decide
    case hw => exact (Below.refl _ _).drew
    case hs =>
      refine auto_op 45 [] (by kernel_rfl) (fun y w' HW hd K hK => ?_) ?_
      · go_simp
        refine hK _ _ ?_ ?_ HW
        · simp [upd]
        · exact rfl
      refine auto_op 46 [0] (by kernel_rfl) (fun y w' HW hd K hK => ?_) ?_
      · have e0 := hd_nth (hd 0 (by simp)) rfl
        go_simp
        refine hK _ _ ?_ ?_ HW
        · simp [upd, e0]
        · exact rfl
      refine auto_op 47 [1] (by kernel_rfl) (fun y w' HW hd K hK => ?_) ?_
      · have e1 := hd_nth (hd 1 (by simp)) rfl
        go_simp
        refine hK _ _ ?_ ?_ HW
        · simp [upd, e1]
        · exact rfl
      refine auto_op 48 [2] (by kernel_rfl) (fun y w' HW hd K hK => ?_) ?_
      · have e2 := hd_nth (hd 2 (by simp)) rfl
        have hcl : ∀ p : Addr, p.block < V.heap.size → w'.cell? p = V.cell? p := fun p hp => HW.cell hp
        go_simp
        refine hK _ _ ?_ ?_ HW
        · simp [upd, e2]
        · exact rfl
      refine auto_op 49 [] (by kernel_rfl) (fun y w' HW hd K hK => ?_) ?_
      · go_simp
        refine hK _ _ ?_ ?_ HW
        · simp [upd]
        · exact rfl
      refine auto_op 50 [4] (by kernel_rfl) (fun y w' HW hd K hK => ?_) ?_
      · have e4 := hd_nth (hd 4 (by simp)) rfl
        have hcl : ∀ p : Addr, p.block < V.heap.size → w'.cell? p = V.cell? p := fun p hp => HW.cell hp
        go_simp
        refine hK _ _ ?_ ?_ HW
        · simp [upd, e4]
        · exact rfl
      refine auto_op 51 [] (by kernel_rfl) (fun y w' HW hd K hK => ?_) ?_
      · go_simp
        refine hK _ _ ?_ ?_ HW
        · simp [upd]
        · exact rfl
      refine auto_op 52 [6] (by kernel_rfl) (fun y w' HW hd K hK => ?_) ?_
      · have e6 := hd_nth (hd 6 (by simp)) rfl
        have hcl : ∀ p : Addr, p.block < V.heap.size → w'.cell? p = V.cell? p := fun p hp => HW.cell hp
        go_simp
        refine hK _ _ ?_ ?_ HW
        · simp [upd, e6]
        · exact rfl
      refine auto_op 53 [] (by kernel_rfl) (fun y w' HW hd K hK => ?_) ?_
      · go_simp
        refine hK _ _ ?_ ?_ HW
        · simp [upd]
        · exact rfl
      refine auto_op 54 [3, 5, 7, 8] (by kernel_rfl) (fun y w' HW hd K hK => ?_) ?_
      · have e3 := hd_nth (hd 3 (by simp)) rfl
        have e5 := hd_nth (hd 5 (by simp)) rfl
        have e7 := hd_nth (hd 7 (by simp)) rfl
        have e8 := hd_nth (hd 8 (by simp)) rfl
        go_simp
        refine (HLD.out _ HW).mono ?_
        rintro e w3 ⟨rfl, rfl⟩
        refine hK _ _ ?_ ?_ HW
        · simp [upd, e3, e5, e7, e8]
        · exact rfl
      refine auto_op 44 [9] (by kernel_rfl) (fun y w' HW hd K hK => ?_) ?_
      · have e9 := hd_nth (hd 9 (by simp)) rfl
        go_simp
        refine hK _ _ ?_ ?_ HW
        · simp [upd, e9]
        · exact rfl
      refine auto_op 55 [10] (by kernel_rfl) (fun y w' HW hd K hK => ?_) ?_
      · have e10 := hd_nth (hd 10 (by simp)) rfl
        go_simp
        refine hK _ _ ?_ ?_ HW
        · simp [upd, e10]
        · exact rfl
      refine auto_op 56 [10] (by kernel_rfl) (fun y w' HW hd K hK => ?_) ?_
      · have e10 := hd_nth (hd 10 (by simp)) rfl
        go_simp
        refine hK _ _ ?_ ?_ HW
        · simp [upd, e10]
        · exact rfl
      refine auto_op 14 [11, 9, 0, 1, 2, 3, 4, 5, 6, 7, 8, 9, 10, 11] (by kernel_rfl) (fun y w' HW hd K hK => ?_) ?_
      · have e0 := hd_nth (hd 0 (by simp)) rfl
        have e1 := hd_nth (hd 1 (by simp)) rfl
        have e2 := hd_nth (hd 2 (by simp)) rfl
        have e3 := hd_nth (hd 3 (by simp)) rfl
        have e4 := hd_nth (hd 4 (by simp)) rfl
        have e5 := hd_nth (hd 5 (by simp)) rfl
        have e6 := hd_nth (hd 6 (by simp)) rfl
        have e7 := hd_nth (hd 7 (by simp)) rfl
        have e8 := hd_nth (hd 8 (by simp)) rfl
        have e9 := hd_nth (hd 9 (by simp)) rfl
        have e10 := hd_nth (hd 10 (by simp)) rfl
        have e11 := hd_nth (hd 11 (by simp)) rfl
        go_simp
        refine hK _ _ ?_ ?_ HW
        · simp [upd, e0, e1, e2, e3, e4, e5, e6, e7, e8, e9, e10, e11]
        · exact rfl
      refine auto_last fun y w' HW hd K hK => ?_
      have e0 := hd_nth (hd 0 (by omega)) rfl
      have e1 := hd_nth (hd 1 (by omega)) rfl
      have e2 := hd_nth (hd 2 (by omega)) rfl
      have e3 := hd_nth (hd 3 (by omega)) rfl
      have e4 := hd_nth (hd 4 (by omega)) rfl
      have e5 := hd_nth (hd 5 (by omega)) rfl
      have e6 := hd_nth (hd 6 (by omega)) rfl
      have e7 := hd_nth (hd 7 (by omega)) rfl
      have e8 := hd_nth (hd 8 (by omega)) rfl
      have e9 := hd_nth (hd 9 (by omega)) rfl
      have e10 := hd_nth (hd 10 (by omega)) rfl
      have e11 := hd_nth (hd 11 (by omega)) rfl
      have e12 := hd_nth (hd 12 (by omega)) rfl
      have e13 := hd_nth (hd 13 (by omega)) rfl
      go_simp
      refine hK _ _ ?_
      clear hd hK K e0 e1 e2 e3 e4 e5 e6 e7 e8 e9 e10 e11 e12 e13
      have HB9 := Lib.hid (HB2.out.trans (HW.mono HB2.out.size))
      clear HW
      go_wp2
      go_ret2
      exact ⟨rfl, HB9.out⟩
  · go_enter Tryz.func12, Tryz.ntmps12
    go_wp2_with fail
    refine HF.out.mono ?_
    rintro e w1 ⟨rfl, hb1⟩
    have HB1 := Lib.hid (HB.out.trans (hb1.mono HB.out.size))
    have HB2 : Hid (Below w.heap.size w (w1.alloc (.cells #[.int .i64 J, .int .i64 F, .int .i64 O, .bool false] 36))) := Lib.hid (HB1.out.alloc HB1.out.size _)
    have HN : Hid (Blk (w1.alloc (.cells #[.int .i64 J, .int .i64 F, .int .i64 O, .bool false] 36)) w1.heap.size 36 [.int .i64 J, .int .i64 F, .int .i64 O, .bool false]) := Lib.hid (Blk.new w1 _ _)
    clear hb1 HF HB1
    go_upto_region 6 with fail
    generalize w1.alloc (.cells #[.int .i64 J, .int .i64 F, .int .i64 O, .bool false] 36) = V at HB2 HN ⊢
    generalize w1.heap.size = hb at HN ⊢
    have HV := Lib.hid (HP.out.more HB2.out)
    have c0 := HV.out.cell0
    have n1 := HN.out.cell (j := 1) rfl
    have n2 := HN.out.cell (j := 2) rfl
    have b0 := HLE.out V HB2.out
    have b1 := HN.out.lt
    have HLD : Hid (∀ W, Below V.heap.size V W → Calls Tryz.prog 47 #[.pointer (some ⟨bt, 0, none⟩), .int .i64 F, .int .i64 O, .int .i64 4] W fun e w' => e = .returned (.tuple #[.int .u32 u, .int .i64 0]) ∧ W = w') := Lib.hid fun W hW => HL.out W (HV.out.more hW)
    apply wp_region_auto [45, 46, 47, 48, 49, 50, 51, 52, 53, 54, 44, 55, 56, 14] [_, _, _, _, _, _, _, _, _, _, _, _, _, _] (fun W' => Below V.heap.size V W')
    case hm => kernel_rfl
    case hT => intro y; simp only [setAll, List.setIfInBounds_toArray, List.set_cons_succ, List.set_cons_zero]; exact rfl
    case hok => kernel_rfl
    case hn => decide
    case hw => exact (Below.refl _ _).drew
    case hs =>
      refine auto_op 45 [] (by kernel_rfl) (fun y w' HW hd K hK => ?_) ?_
      · go_simp
        refine hK _ _ ?_ ?_ HW
        · simp [upd]
        · exact rfl
      refine auto_op 46 [0] (by kernel_rfl) (fun y w' HW hd K hK => ?_) ?_
      · have e0 := hd_nth (hd 0 (by simp)) rfl
        go_simp
        refine hK _ _ ?_ ?_ HW
        · simp [upd, e0]
        · exact rfl
      refine auto_op 47 [1] (by kernel_rfl) (fun y w' HW hd K hK => ?_) ?_
      · have e1 := hd_nth (hd 1 (by simp)) rfl
        go_simp
        refine hK _ _ ?_ ?_ HW
        · simp [upd, e1]
        · exact rfl
      refine auto_op 48 [2] (by kernel_rfl) (fun y w' HW hd K hK => ?_) ?_
      · have e2 := hd_nth (hd 2 (by simp)) rfl
        have hcl : ∀ p : Addr, p.block < V.heap.size → w'.cell? p = V.cell? p := fun p hp => HW.cell hp
        go_simp
        refine hK _ _ ?_ ?_ HW
        · simp [upd, e2]
        · exact rfl
      refine auto_op 49 [] (by kernel_rfl) (fun y w' HW hd K hK => ?_) ?_
      · go_simp
        refine hK _ _ ?_ ?_ HW
        · simp [upd]
        · exact rfl
      refine auto_op 50 [4] (by kernel_rfl) (fun y w' HW hd K hK => ?_) ?_
      · have e4 := hd_nth (hd 4 (by simp)) rfl
        have hcl : ∀ p : Addr, p.block < V.heap.size → w'.cell? p = V.cell? p := fun p hp => HW.cell hp
        go_simp
        refine hK _ _ ?_ ?_ HW
        · simp [upd, e4]
        · exact rfl
      refine auto_op 51 [] (by kernel_rfl) (fun y w' HW hd K hK => ?_) ?_
      · go_simp
        refine hK _ _ ?_ ?_ HW
        · simp [upd]
        · exact rfl
      refine auto_op 52 [6] (by kernel_rfl) (fun y w' HW hd K hK => ?_) ?_
      · have e6 := hd_nth (hd 6 (by simp)) rfl
        have hcl : ∀ p : Addr, p.block < V.heap.size → w'.cell? p = V.cell? p := fun p hp => HW.cell hp
        go_simp
        refine hK _ _ ?_ ?_ HW
        · simp [upd, e6]
        · exact rfl
      refine auto_op 53 [] (by kernel_rfl) (fun y w' HW hd K hK => ?_) ?_
      · go_simp
        refine hK _ _ ?_ ?_ HW
        · simp [upd]
        · exact rfl
      refine auto_op 54 [3, 5, 7, 8] (by kernel_rfl) (fun y w' HW hd K hK => ?_) ?_
      · have e3 := hd_nth (hd 3 (by simp)) rfl
        have e5 := hd_nth (hd 5 (by simp)) rfl
        have e7 := hd_nth (hd 7 (by simp)) rfl
        have e8 := hd_nth (hd 8 (by simp)) rfl
        go_simp
        refine (HLD.out _ HW).mono ?_
        rintro e w3 ⟨rfl, rfl⟩
        refine hK _ _ ?_ ?_ HW
        · simp [upd, e3, e5, e7, e8]
        · exact rfl
      refine auto_op 44 [9] (by kernel_rfl) (fun y w' HW hd K hK => ?_) ?_
      · have e9 := hd_nth (hd 9 (by simp)) rfl
        go_simp
        refine hK _ _ ?_ ?_ HW
        · simp [upd, e9]
        · exact rfl
      refine auto_op 55 [10] (by kernel_rfl) (fun y w' HW hd K hK => ?_) ?_
      · have e10 := hd_nth (hd 10 (by simp)) rfl
        go_simp
        refine hK _ _ ?_ ?_ HW
        · simp [upd, e10]
        · exact rfl
      refine auto_op 56 [10] (by kernel_rfl) (fun y w' HW hd K hK => ?_) ?_
      · have e10 := hd_nth (hd 10 (by simp)) rfl
        go_simp
        refine hK _ _ ?_ ?_ HW
        · simp [upd, e10]
        · exact rfl
      refine auto_op 14 [11, 9, 0, 1, 2, 3, 4, 5, 6, 7, 8, 9, 10, 11] (by kernel_rfl) (fun y w' HW hd K hK => ?_) ?_
      · have e0 := hd_nth (hd 0 (by simp)) rfl
        have e1 := hd_nth (hd 1 (by simp)) rfl
        have e2 := hd_nth (hd 2 (by simp)) rfl
        have e3 := hd_nth (hd 3 (by simp)) rfl
        have e4 := hd_nth (hd 4 (by simp)) rfl
        have e5 := hd_nth (hd 5 (by simp)) rfl
        have e6 := hd_nth (hd 6 (by simp)) rfl
        have e7 := hd_nth (hd 7 (by simp)) rfl
        have e8 := hd_nth (hd 8 (by simp)) rfl
        have e9 := hd_nth (hd 9 (by simp)) rfl
        have e10 := hd_nth (hd 10 (by simp)) rfl
        have e11 := hd_nth (hd 11 (by simp)) rfl
        go_simp
        refine hK _ _ ?_ ?_ HW
        · simp [upd, e0, e1, e2, e3, e4, e5, e6, e7, e8, e9, e10, e11]
        · exact rfl
      refine auto_last fun y w' HW hd K hK => ?_
      have e0 := hd_nth (hd 0 (by omega)) rfl
      have e1 := hd_nth (hd 1 (by omega)) rfl
      have e2 := hd_nth (hd 2 (by omega)) rfl
      have e3 := hd_nth (hd 3 (by omega)) rfl
      have e4 := hd_nth (hd 4 (by omega)) rfl
      have e5 := hd_nth (hd 5 (by omega)) rfl
      have e6 := hd_nth (hd 6 (by omega)) rfl
      have e7 := hd_nth (hd 7 (by omega)) rfl
      have e8 := hd_nth (hd 8 (by omega)) rfl
      have e9 := hd_nth (hd 9 (by omega)) rfl
      have e10 := hd_nth (hd 10 (by omega)) rfl
      have e11 := hd_nth (hd 11 (by omega)) rfl
      have e12 := hd_nth (hd 12 (by omega)) rfl
      have e13 := hd_nth (hd 13 (by omega)) rfl
      go_simp
      refine hK _ _ ?_
      clear hd hK K e0 e1 e2 e3 e4 e5 e6 e7 e8 e9 e10 e11 e12 e13
      have HB9 := Lib.hid (HB2.out.trans (HW.mono HB2.out.size))
      clear HW
      go_wp2
      go_ret2
      exact ⟨rfl, HB9.out⟩
theorem refLoad20_any (on us : Bool) (rt z wd k u c : Int) (h0 : 0 ≤ z) (h1 : z < 4294967296) (hr : ld20 n S L on rt us z wd k = (u, c)) (w : World) (hP : DV w g bt B q n gv cap S L D) :
    Calls Tryz.prog 12 #[.pointer (some ⟨g, 0, none⟩), .agg #[.bool on, .int .i64 rt, .bool us], .int .u32 z, .int .i64 wd, .int .i64 k] w fun e w' => e = .returned (.tuple #[.int .u32 u, .int .i64 c]) ∧ Below w.heap.size w w' := by
  unfold ld20 at hr
  cases hk : okZ wd z with
  | false =>
    rw [hk, if_neg (by decide)] at hr
    injection hr with e1 e2
    subst e1 e2
    exact refLoad20_bad on us rt z wd k h0 h1 hk w
  | true =>
    rw [hk, if_pos rfl] at hr
    by_cases hc : (locF n S L on rt us z k).2 = 0
    · rw [if_pos hc] at hr
      injection hr with e1 e2
      subst e1 e2
      exact refLoad20_ok on us rt z wd k h0 h1 hk hc w hP
    · rw [if_neg hc] at hr
      injection hr with e1 e2
      subst e1 e2
      exact refLoad20_flt on us rt z wd k _ _ h0 h1 hk rfl hc rfl w hP
theorem refSave20_ok (on us : Bool) (rt z wd x : Int) (h0 : 0 ≤ z) (h1 : z < 4294967296) (hx0 : 0 ≤ x) (hx1 : x < 4294967296) (hk : okZ wd z = true) (hc : (locF n S L on rt us z 2).2 = 0) (w : World) (hP : DV w g bt B q n gv cap S L D) :
    Calls Tryz.prog 19 #[.pointer (some ⟨g, 0, none⟩), .agg #[.bool on, .int .i64 rt, .bool us], .int .u32 z, .int .i64 wd, .int .u32 x] w fun e w' => e = .returned (.int .i64 0) ∧ DV w' g bt B q n gv cap (svL S (locF n S L on rt us z 2).1 wd x) L D ∧ Kq [gv] w w' := by
  have HB : Hid (Below w.heap.size w (w.alloc (.cells #[.bool on, .int .i64 rt, .bool us] 30))) := Lib.hid ((Below.refl _ _).alloc (Nat.le_refl _) _)
  obtain ⟨j, f, o, hh, _, fn, f32, ho, _⟩ := loc_hit hP.mp.2 h0 hc
  obtain ⟨M, hM, hw, hfit⟩ := ok_fit h0 hk ho
  have HF := Lib.hid (Wa.refFind_any on us rt z 2 0 _ h0 h1 hc hh _ (hP.more HB.out))
  obtain ⟨S', hS'⟩ : ∃ S', svL S (locF n S L on rt us z 2).1 wd x = S' := ⟨_, rfl⟩
  have HL : Hid (∀ W, DV W g bt B q n gv cap S L D → Calls Tryz.prog 54 #[.pointer (some ⟨bt, 0, none⟩), .int .i64 f, .int .i64 o, .int .i64 wd, .int .u32 x] W fun e w' => e = .returned (.int .i64 0) ∧ DV w' g bt B q n gv cap S' L D ∧ W.grownBy w' (some gv)) := Lib.hid fun W hW => by
    have hpl := load_len hW.s0 f32 hfit x
    rw [hh] at hS'
    have hS2 : Fr.layF S f (putZ (Fr.frameL S f) o M x) = S' := by
      rw [← hS']
      unfold svL
      rw [hM]
      simp
    obtain ⟨vs, hs⟩ := hW.st
    have := Fr.refSave_own hs fn hw hfit hx0 hx1
    rw [← hM] at this
    refine this.mono fun e w' ⟨he, ⟨vs', h'⟩, hg⟩ => ⟨he, hW.saved ⟨vs', ?_⟩ ?_ ?_ hg, hg⟩
    · rw [Fr.fr_at S fn, Fr.fr_lay hW.s0 fn hW.n32 hpl, hS2] at h'
      exact h'
    · rw [← hS2]
      exact Fr.length_layF hW.s0 f32 hpl
    · rw [← hS2]
      exact Fr.layF_bytes hW.s1 f (putZ_bytes (Fr.frameL_bytes hW.s1 f) o M x)
  rw [hS']
  have HP := Lib.hid hP
  have hy := okZ_yes h0 hk
  have HGB : Hid (gv < w.heap.size) := Lib.hid hP.gvB.2
  clear hP hc hh hk hS' hM hw hfit ho fn f32 hx0 hx1
  generalize (j : Int) = J at HF
  generalize (f : Int) = F at HF HL
  generalize (o : Int) = O at HF HL
  unfold hitV at HF
  dsimp only at HF
  rcases hy with rfl | ⟨rfl, d0⟩ | ⟨rfl, d0⟩
  all_goals
    go_enter Tryz.func19, Tryz.ntmps19
    go_wp2_with fail
    refine HF.out.mono ?_
    rintro e w1 ⟨rfl, hb1⟩
    have HB1 := Lib.hid (HB.out.trans (hb1.mono HB.out.size))
    have HB2 : Hid (Below w.heap.size w (w1.alloc (.cells #[.int .i64 J, .int .i64 F, .int .i64 O, .bool false] 36))) := Lib.hid (HB1.out.alloc HB1.out.size _)
    have HN : Hid (Blk (w1.alloc (.cells #[.int .i64 J, .int .i64 F, .int .i64 O, .bool false] 36)) w1.heap.size 36 [.int .i64 J, .int .i64 F, .int .i64 O, .bool false]) := Lib.hid (Blk.new w1 _ _)
    clear hb1 HF HB1
    go_upto_region 5 with fail
    generalize w1.alloc (.cells #[.int .i64 J, .int .i64 F, .int .i64 O, .bool false] 36) = V at HB2 HN ⊢
    generalize w1.heap.size = hb at HN ⊢
    have HV := Lib.hid (HP.out.more HB2.out)
    have c0 := HV.out.cell0
    have n1 := HN.out.cell (j := 1) rfl
    have n2 := HN.out.cell (j := 2) rfl
    go_still_tail 10, (by kernel_rfl)
    change wpList _ _ _ _ _ V.drew
    have HV2 : Hid (DV V.drew g bt B q n gv cap S L D) := Lib.hid (HV.out.more (Below.refl _ _).drew)
    have HB3 : Hid (Below w.heap.size w V.drew) := Lib.hid HB2.out.drew
    clear c0 n1 n2 HV HN HB2
    generalize V.drew = V2 at HV2 HB3 ⊢
    go_wp2_with fail
    refine (HL.out _ HV2.out).mono ?_
    rintro e w3 ⟨rfl, hv3, hg3⟩
    have HV3 := Lib.hid hv3
    have HK3 : Hid (Kq [gv] w w3) := Lib.hid ((Kq.of_below HB3.out).trans (Kq.of_grown hg3 (by simp)))
    clear hv3 hg3 HV2 HB3
    go_wp2
    go_ret
    exact ⟨rfl, HV3.out, HK3.out⟩
theorem refSave20_any (on us : Bool) (rt z wd x c : Int) (S' : List Int) (h0 : 0 ≤ z) (h1 : z < 4294967296) (hx0 : 0 ≤ x) (hx1 : x < 4294967296) (hc : sc20 n S L on rt us z wd = c) (hS : ss20 n S L on rt us z wd x = S') (w : World) (hP : DV w g bt B q n gv cap S L D) :
    Calls Tryz.prog 19 #[.pointer (some ⟨g, 0, none⟩), .agg #[.bool on, .int .i64 rt, .bool us], .int .u32 z, .int .i64 wd, .int .u32 x] w fun e w' => e = .returned (.int .i64 c) ∧ DV w' g bt B q n gv cap S' L D ∧ Kq [gv] w w' := by
  subst hc hS
  unfold sc20 ss20
  cases hk : okZ wd z with
  | false =>
    rw [if_neg (by decide), if_neg (by decide)]
    exact (refSave20_bad on us rt z wd x h0 h1 hk w).mono fun e w' ⟨h2, h3⟩ => ⟨h2, hP.more h3, Kq.of_below h3⟩
  | true =>
    rw [if_pos rfl, if_pos rfl]
    by_cases hc : (locF n S L on rt us z 2).2 = 0
    · rw [if_pos hc, hc]
      exact refSave20_ok on us rt z wd x h0 h1 hx0 hx1 hk hc w hP
    · rw [if_neg hc]
      exact (refSave20_flt on us rt z wd x _ _ h0 h1 hk rfl hc rfl w hP).mono fun e w' ⟨h2, h3⟩ => ⟨h2, hP.more h3, Kq.of_below h3⟩
end
end Go.Proofs.YteaincdeoajkeaaGreatDoor.Mm
end
section
/- Rows of texts: a slice of strings that came in or was made. Serves all packages. -/
namespace Go.Proofs.YteaincdeoajkeaaGreatDoor.Ut
open Go.RowKit

/-- bytes as a text -/
def tb (l : List UInt8) : ByteArray := ⟨l.toArray⟩
theorem tb_list (l : List UInt8) : (tb l).data.toList = l := rfl
theorem tb_of (s : ByteArray) : tb s.data.toList = s := rfl
theorem tb_size (l : List UInt8) : (tb l).size = l.length := by simp [tb, ByteArray.size]
theorem tb_part (s : ByteArray) (a b : Nat) : s.extract a b = tb ((s.data.toList.take b).drop a) := by
  rw [← tb_of s]
  unfold tb
  rw [ByteArray.extract_mk]
  congr 1
  rw [List.drop_take]
def encS (l : List UInt8) : Value := .string (tb l)
/-- the slice at a of n texts reads as ts, and lies below block B -/
def RowS (w : World) (B : Nat) (a : Option Addr) (n : Nat) (ts : List (List UInt8)) : Prop :=
  ts.length = n ∧ ∀ i, i < n → ∃ x, a = some x ∧ x.block < B ∧ w.cell? (x.add i) = some (encS (ts.getD i []))
theorem RowS.below {w w' : World} {B n : Nat} {a : Option Addr} {ts : List (List UInt8)} (h : RowS w B a n ts) (hb : Below B w w') : RowS w' B a n ts :=
  ⟨h.1, fun i hi => by
    obtain ⟨x, e, hx, hc⟩ := h.2 i hi
    exact ⟨x, e, hx, (hb.cell (p := x.add i) (by rw [block_of_add]; exact hx)).trans hc⟩⟩
theorem RowS.more {w : World} {B B' n : Nat} {a : Option Addr} {ts : List (List UInt8)} (h : RowS w B a n ts) (hB : B ≤ B') : RowS w B' a n ts :=
  ⟨h.1, fun i hi => by
    obtain ⟨x, e, hx, hc⟩ := h.2 i hi
    exact ⟨x, e, by omega, hc⟩⟩
theorem RowS.nil (w : World) (B : Nat) (a : Option Addr) : RowS w B a 0 [] := ⟨rfl, fun i hi => absurd hi (by omega)⟩
/-- what lies at place i -/
theorem RowS.at {w : World} {B n : Nat} {a : Option Addr} {ts : List (List UInt8)} (h : RowS w B a n ts) (i : Nat) (hi : i < n) : ∃ x, a = some x ∧ x.block < B ∧ w.cell? (x.add i) = some (.string (tb (ts.getD i []))) := h.2 i hi
/-- what is behind the first ones -/
theorem RowS.drop {w : World} {B n : Nat} {x : Addr} {ts : List (List UInt8)} (h : RowS w B (some x) n ts) (i : Nat) (hi : i ≤ n) : RowS w B (some (x.add i)) (n - i) (ts.drop i) := by
  refine ⟨by simp [h.1], fun j hj => ?_⟩
  obtain ⟨y, e, hx, hc⟩ := h.2 (i + j) (by omega)
  obtain rfl : x = y := by injection e
  refine ⟨_, rfl, by rw [block_of_add]; exact hx, ?_⟩
  rw [add_of_add, hc]
  simp [List.getD]

/-- what the call owns, as a list of texts -/
def OwnS (w : World) (B : Nat) (e : TypeId) (v : Value) (n : Nat) (ts : List (List UInt8)) : Prop := w.ownsRow B e 1 v n (ts.map encS)
section
variable {w w' : World} {B n : Nat} {e : TypeId} {v : Value} {ts : List (List UInt8)}
theorem OwnS.nil (w : World) (B : Nat) (e : TypeId) : OwnS w B e (.slice none 0 0) 0 [] := World.ownsRow_nil _ _ _ _
theorem OwnS.below (h : OwnS w B e v n ts) (hb : Below w.heap.size w w') : OwnS w' B e v n ts := ownsRow_below h hb
theorem OwnS.alloc (h : OwnS w B e v n ts) (o : Obj) : OwnS (w.alloc o) B e v n ts := World.ownsRow.alloc h o
theorem OwnS.len (h : OwnS w B e v n ts) : ts.length = n := by have := h.1; simpa using this
theorem OwnS.row (h : OwnS w B e v n ts) : ∃ a cap, v = .slice a n cap ∧ n ≤ cap ∧ cap ≤ maxLen ∧ RowS w w.heap.size a n ts := by
  have hl := h.len
  rcases h.2 with ⟨rfl, rfl⟩ | ⟨g, cap, cur, rfl, hb, hg, hnc, hm, hsz, hcur⟩
  · exact ⟨none, 0, rfl, by omega, by unfold maxLen; omega, hl, fun i hi => absurd hi (by omega)⟩
  · refine ⟨some ⟨g, 0, none⟩, cap, rfl, hnc, hm, hl, fun i hi => ⟨_, rfl, (Array.getElem?_eq_some_iff.1 hg).1, ?_⟩⟩
    rw [add_plain, World.ownsRow.cellAt h i (by omega)]
    simp [List.getD, show i < ts.length by omega]
end
theorem texts_oneCell (ts : List (List UInt8)) : ∀ u ∈ ts.map encS, u.oneCell' = true := fun u hu => by
  obtain ⟨l, _, rfl⟩ := List.mem_map.1 hu
  rfl
/-- a range's own block is none of a slice's -/
theorem own_ne_iter {w : World} {B n g : Nat} {e : TypeId} {k : Nat} {v : Value} {xs : List Value} {s : ByteArray} {pos : Nat} (h : w.ownsRow B e k v n xs) (hg : w.heap[g]? = some (.stringIter s pos)) : v.ownBlock ≠ some g := by
  rcases h.2 with ⟨rfl, _⟩ | ⟨g', cap, cur, rfl, _, hg', _⟩
  · simp [Value.ownBlock]
  · intro he
    simp [Value.ownBlock] at he
    subst he
    rw [hg] at hg'
    cases hg'
/-- what a range over a text hands over leaves a slice as it was -/
theorem ownsRow_iterAt {w : World} {B n : Nat} {e : TypeId} {k : Nat} {v : Value} {xs : List Value} {g : Nat} {s : ByteArray} {pos : Nat} (h : w.ownsRow B e k v n xs) (hg : w.heap[g]? = some (.stringIter s pos)) (p : Nat) : (w.iterAt g s p).ownsRow B e k v n xs := by
  refine ⟨h.1, ?_⟩
  rcases h.2 with h0 | ⟨g', cap, cur, rfl, hB, hg', r⟩
  · exact .inl h0
  · refine .inr ⟨g', cap, cur, rfl, hB, ?_, r⟩
    rw [Lib.iterAt_other]
    · exact hg'
    · rintro rfl
      rw [hg] at hg'; cases hg'
end Go.Proofs.YteaincdeoajkeaaGreatDoor.Ut
end
section
/- Rows of records that the call owns, and drawn regions in which one record is appended to such a row. Serves all packages. -/
namespace Go.Proofs.YteaincdeoajkeaaGreatDoor.Ut
open Go.RowKit
set_option linter.unusedVariables false

def encI (x : List Int) : List Value := x.map (Value.int .i64)
def encR (xs : List (List Int)) : List Value := (xs.map encI).flatten
theorem encR_snoc (xs : List (List Int)) (y : List Int) : encR (xs ++ [y]) = encR xs ++ encI y := by simp [encR]
theorem encR_one (xs : List (List Int)) : ∀ u ∈ encR xs, u.oneCell' = true := fun u hu => by
  obtain ⟨l, hl, hu⟩ := List.mem_flatten.1 hu
  obtain ⟨x, _, rfl⟩ := List.mem_map.1 hl
  obtain ⟨z, _, rfl⟩ := List.mem_map.1 hu
  rfl
/-- what the call owns, as a list of records of k integers -/
def OwnT (k : Nat) (w : World) (B : Nat) (e : TypeId) (v : Value) (xs : List (List Int)) : Prop := w.ownsRow B e k v xs.length (encR xs) ∧ ∀ x ∈ xs, x.length = k
theorem OwnT.nil (k : Nat) (w : World) (B : Nat) (e : TypeId) : OwnT k w B e (.slice none 0 0) [] := ⟨World.ownsRow_nil _ _ _ _, fun x h => by cases h⟩
theorem ownsRow_belowK {w w' : World} {B n k : Nat} {e : TypeId} {v : Value} {xs : List Value} (h : w.ownsRow B e k v n xs) (hb : Below w.heap.size w w') : w'.ownsRow B e k v n xs := by
  refine ⟨h.1, ?_⟩
  rcases h.2 with h0 | ⟨g, cap, cur, rfl, hB, hg', r⟩
  · exact .inl h0
  · exact .inr ⟨g, cap, cur, rfl, hB, (hb.block g (Array.getElem?_eq_some_iff.1 hg').1).trans hg', r⟩
theorem OwnT.below {k : Nat} {w w' : World} {B : Nat} {e : TypeId} {v : Value} {xs : List (List Int)} (h : OwnT k w B e v xs) (hb : Below w.heap.size w w') : OwnT k w' B e v xs := ⟨ownsRow_belowK h.1 hb, h.2⟩
theorem OwnT.alloc {k : Nat} {w : World} {B : Nat} {e : TypeId} {v : Value} {xs : List (List Int)} (h : OwnT k w B e v xs) (o : Obj) : OwnT k (w.alloc o) B e v xs := ⟨World.ownsRow.alloc h.1 o, h.2⟩
/-- it stays while another block grows -/
theorem ownsRow_other {w w' : World} {B n k : Nat} {e : TypeId} {v : Value} {xs : List Value} {row : Option Nat} (h : w.ownsRow B e k v n xs) (hg : w.grownBy w' row) (hr : ∀ q cs e' f, row = some q → w.heap[q]? = some (.cells cs e' f) → e' ≠ e) : w'.ownsRow B e k v n xs := by
  refine ⟨h.1, ?_⟩
  rcases h.2 with h0 | ⟨g, cap, cur, rfl, hB, hg', r⟩
  · exact .inl h0
  · refine .inr ⟨g, cap, cur, rfl, hB, ?_, r⟩
    rw [hg.block g (Array.getElem?_eq_some_iff.1 hg').1 (fun e => hr g _ _ _ e.symm hg' rfl)]
    exact hg'
/-- its own block's tag -/
theorem own_tag {w : World} {B n k : Nat} {e : TypeId} {v : Value} {xs : List Value} (h : w.ownsRow B e k v n xs) : ∀ q cs e' f, v.ownBlock = some q → w.heap[q]? = some (.cells cs e' f) → e' = e := by
  intro q cs e' f hq hc
  rcases h.2 with ⟨rfl, _⟩ | ⟨g, cap, cur, rfl, hB, hg', r⟩
  · simp [Value.ownBlock] at hq
  · simp [Value.ownBlock] at hq
    subst hq
    rw [hg'] at hc
    injection hc with hc
    injection hc with _ h2
    exact h2.symm
/-- one record more -/
theorem step_append_rec {P : Program} {w : World} {ops : Array Oper} {o : Oper} {a : Act} {K : Act → World → Prop} {Q : Exit → Act → World → Prop} {E : Prop} (hgd : o.guard = none) (s x : Operand) (t : TypeId)
    (ho : o.op = .call { callee := .builtin .append, args := #[s, x], argTypes := #[t, t] })
    (k base : Nat) (e : TypeId) (i : TypeInfo) (z : Value) (bytes : Nat) (ht : P.underlying t = some (.slice e)) (hi : P.info? e = some i) (hz : i.zero = some z) (hs : i.size = k) (hb : i.bytes = bytes) (hzs : z.cells.size = k) (hk : 0 < k)
    (v : Value) (xs : List (List Int)) (hv : a.eval s = v) (hown : OwnT k w base e v xs) (ad : Addr) (c : Nat) (y : List Int) (hx : a.eval x = .slice (some ad) 1 c) (hy : y.length = k)
    (hc : ∀ j u, (encI y)[j]? = some u → w.cell? (ad.add j) = some u) (h63 : xs.length + 1 ≤ 1099511627776) (hbytes : bytes ≤ 64) (hbase : base ≤ w.heap.size)
    (h : ∀ v' w', Hid (OwnT k w' base e v' (xs ++ [y])) → Hid (w.grownBy w' v.ownBlock) → K (a.put o.dst v') w') :
    if Region.wanted o (yielded ops a.tmps) = true then Oper.wp P o a w K Q else E := by
  have hw : Region.wanted o (yielded ops a.tmps) = true := by simp [Region.wanted, hgd]
  rw [if_pos hw]
  have hby : (xs.length + 1) * bytes ≤ 140737488355328 := Nat.le_trans (Nat.mul_le_mul h63 hbytes) (by omega)
  obtain ⟨v', w', hrun, h2, h3, _, _⟩ := run_append_own_at (P := P) w base t o.type e i z k bytes ht hi hz hs hb hzs hk v xs.length _ hown.1 ad 1 c (encI y) (by simp [encI, hy]) hc
    (fun u hu => by obtain ⟨z, _, rfl⟩ := List.mem_map.1 hu; rfl) (by unfold maxLen; omega) hby hbase
  unfold Oper.wp execOp
  simp only [ho, resolve, invoke, builtin, Sem.run_bind, Sem.run_pure, Result.andThen_ok, List.map_toArray, List.map_cons, List.map_nil, hv, hx, hrun]
  refine h v' w' (Lib.hid ⟨?_, fun q hq => ?_⟩) (Lib.hid h3)
  · rw [encR_snoc, List.length_append]; exact h2
  · rcases List.mem_append.1 hq with hq | hq
    · exact hown.2 q hq
    · simp at hq; rw [hq]; exact hy

theorem cells_new (w : World) (l : List Value) (t : TypeId) (j : Nat) (u : Value) (h : l[j]? = some u) : (w.alloc (.cells l.toArray t)).cell? ((⟨w.heap.size, 0, none⟩ : Addr).add j) = some u := by
  rw [add_plain]
  unfold World.cell?
  simp only [heap_alloc_new]
  simpa using h
theorem box_cell {w : World} {b : Nat} {cs : List Value} {t : TypeId} (h : w.heap[b]? = some (.cells cs.toArray t (0, 0))) (i : Nat) (u : Value) (hi : cs[i]? = some u) : w.cell? ⟨b, i, none⟩ = some u ∧ w.frozen? ⟨b, i, none⟩ = false := by
  constructor
  · simp [World.cell?, h, hi]
  · simp [World.frozen?, h]
theorem tag_ne {w : World} {B n k : Nat} {e e2 : TypeId} {v : Value} {xs : List Value} (h : w.ownsRow B e k v n xs) (hne : e ≠ e2) : ∀ (q : Nat) (cs : Array Value) (e' : TypeId) (f : Nat × Nat), v.ownBlock = some q → w.heap[q]? = some (.cells cs e' f) → e' ≠ e2 := fun q cs e' f h1 h2 h3 => hne ((own_tag h q cs e' f h1 h2).symm.trans h3)
theorem box_kept {w w' : World} {b : Nat} {o : Obj} {row : Option Nat} (h : w.heap[b]? = some o) (hg : w.grownBy w' row) (hr : row ≠ some b) : w'.heap[b]? = some o := (hg.block b (Array.getElem?_eq_some_iff.1 h).1 hr.symm).trans h
theorem own_ne_box {w : World} {B n k b : Nat} {e e2 : TypeId} {v : Value} {xs : List Value} {cs : Array Value} {f : Nat × Nat} (h : w.ownsRow B e k v n xs) (hb : w.heap[b]? = some (.cells cs e2 f)) (hne : e ≠ e2) : v.ownBlock ≠ some b := fun hq => hne (own_tag h b cs e2 f hq hb).symm

theorem OwnT.form {k : Nat} {w : World} {B : Nat} {e : TypeId} {v : Value} {xs : List (List Int)} {y : List Int} (h : OwnT k w B e v (xs ++ [y])) : ∃ g cap, v = .slice (some ⟨g, 0, none⟩) (xs.length + 1) cap := by
  rcases h.1.2 with ⟨_, h0⟩ | ⟨g, cap, cur, hv, _⟩
  · simp at h0
  · exact ⟨g, cap, by rw [hv]; simp⟩


/-- every block with another tag than e is as it was -/
def Kept (e : TypeId) (w w' : World) : Prop := w.heap.size ≤ w'.heap.size ∧ ∀ (g : Nat) (cs : Array Value) (e' : TypeId) (f : Nat × Nat), e' ≠ e → w.heap[g]? = some (Obj.cells cs e' f) → w'.heap[g]? = some (Obj.cells cs e' f)
theorem Kept.refl (e : TypeId) (w : World) : Kept e w w := ⟨Nat.le_refl _, fun _ _ _ _ _ h => h⟩
theorem Kept.of_below {e : TypeId} {w w' : World} (h : Below w.heap.size w w') : Kept e w w' := ⟨h.size, fun g cs e' f _ hc => (h.block g (Array.getElem?_eq_some_iff.1 hc).1).trans hc⟩
theorem Kept.trans {e : TypeId} {a b c : World} (h : Kept e a b) (k : Kept e b c) : Kept e a c := ⟨Nat.le_trans h.1 k.1, fun g cs e' f he hc => k.2 g cs e' f he (h.2 g cs e' f he hc)⟩
theorem Kept.grown {e : TypeId} {w w' : World} {row : Option Nat} (hg : w.grownBy w' row) (hr : ∀ (q : Nat) (cs : Array Value) (e' : TypeId) (f : Nat × Nat), row = some q → w.heap[q]? = some (Obj.cells cs e' f) → e' = e) : Kept e w w' :=
  ⟨hg.size, fun g cs e' f he hc => (hg.block g (Array.getElem?_eq_some_iff.1 hc).1 (fun h => he (hr g cs e' f h.symm hc))).trans hc⟩
theorem Kept.own {e e2 : TypeId} {w w' : World} {B n k : Nat} {v : Value} {xs : List Value} (h : w.ownsRow B e2 k v n xs) (hk : Kept e w w') (hne : e2 ≠ e) : w'.ownsRow B e2 k v n xs := by
  refine ⟨h.1, ?_⟩
  rcases h.2 with h0 | ⟨g, cap, cur, rfl, hB, hg', r⟩
  · exact .inl h0
  · exact .inr ⟨g, cap, cur, rfl, hB, hk.2 _ _ _ _ hne hg', r⟩
theorem Kept.ownT {e e2 : TypeId} {w w' : World} {B k : Nat} {v : Value} {xs : List (List Int)} (h : OwnT k w B e2 v xs) (hk : Kept e w w') (hne : e2 ≠ e) : OwnT k w' B e2 v xs := ⟨Kept.own h.1 hk hne, h.2⟩
theorem Kept.drew {e : TypeId} {w w' : World} (h : Kept e w w') : Kept e w w'.drew := h

section
variable {P : Program} {ops : Array Oper} {Q : Exit → Act → World → Prop} {T : (Nat → Value) → Array Value} {d : List Deferred}
/-- what the region is about: block base, tag, cells a record, the row ahead of it, the record; the world at its beginning -/
structure AppOf where
  W : World
  B : Nat
  e : TypeId
  k : Nat
  v : Value
  xs : List (List Int)
  y : List Int
/-- what each operation yields: number a is the append, the one ahead of it makes the record's own slice -/
def AppR (X : AppOf) (vals : List Value) (a : Nat) (j : Nat) (v : Value) (w : World) : Prop :=
  if j = a then OwnT X.k w X.B X.e v (X.xs ++ [X.y])
  else if j + 1 = a then ∃ g, v = .slice (some ⟨g, 0, none⟩) 1 1 ∧ X.W.heap.size ≤ g ∧ g < w.heap.size ∧ ∀ j u, (encI X.y)[j]? = some u → w.cell? ((⟨g, 0, none⟩ : Addr).add j) = some u
  else v = nth vals j
def AppW (X : AppOf) (p : Bool) (w : World) : Prop := Below X.B X.W w ∧ Kept X.e X.W w ∧ (p = false → OwnT X.k w X.B X.e X.v X.xs)
def AppL (X : AppOf) (a : Nat) (i : Nat) (w w' : World) : Prop := if i = a then w.grownBy w' X.v.ownBlock else Below w.heap.size w w'
def AppFrom (X : AppOf) (a : Nat) (P : Program) (ops : Array Oper) (Q : Exit → Act → World → Prop) (T : (Nat → Value) → Array Value) (d : List Deferred) (vals : List Value) (k : Nat) (l : List Oper) : Prop :=
  StepsFrom P ops Q T d (AppR X vals a) (fun L w => AppW X (L a) w) (AppL X a) k l
variable {X : AppOf} {vals : List Value} {a : Nat}
theorem appR_nth {j : Nat} {v u : Value} {w : World} (h : AppR X vals a j v w) (ha : j ≠ a) (hb : j + 1 ≠ a) (hu : vals[j]? = some u) : v = u := by
  unfold AppR at h
  rw [if_neg ha, if_neg hb] at h
  exact hd_nth' h hu
/-- an operation that leaves the world as it is -/
theorem app_op {k : Nat} {o o' : Oper} {l : List Oper} (s : Nat) (ds : List Nat) (hd : depsOf o = ds) (ka : k ≠ a) (kb : k + 1 ≠ a)
    (h : ∀ (p : Bool) (x : Nat → Value) (w : World), AppW X p w → (∀ j ∈ ds, AppR X vals a j (x j) w) → ∀ K : Act → World → Prop, (∀ tm, tm = T (upd x k (tm.getD s undef)) → tm.getD s undef = nth vals k → K { tmps := tm, defers := d } w) →
      if Region.wanted o (yielded ops (T x)) = true then Oper.wp P o { tmps := T x, defers := d } w K Q else K (Act.put { tmps := T x, defers := d } o.dst undef) w)
    (hs : AppFrom X a P ops Q T d vals (k + 1) (o' :: l)) : AppFrom X a P ops Q T d vals k (o :: o' :: l) := by
  refine steps_op ds hd (fun L x w hL _ hw hR K hK => h (L a) x w hw hR K fun tm ht hv => ?_) hs
  refine hK (tm.getD s undef) w tm ht ?_ ?_ ?_
  · unfold AppR; rw [if_neg ka, if_neg kb]; exact hv
  · show AppW X (if a = k then true else L a) w
    rw [if_neg (Ne.symm ka)]; exact hw
  · unfold AppL; rw [if_neg ka]; exact Below.refl _ _
/-- the record's own slice is made -/
theorem app_build {k : Nat} {o o' : Oper} {l : List Oper} (s : Nat) (ds : List Nat) (hd : depsOf o = ds) (ka : k + 1 = a) (obj : Obj) (ty : TypeId) (hobj : obj = .cells (encI X.y).toArray ty (0, 0)) (hBW : X.B ≤ X.W.heap.size)
    (h : ∀ (p : Bool) (x : Nat → Value) (w : World), AppW X p w → (∀ j ∈ ds, AppR X vals a j (x j) w) → ∀ K : Act → World → Prop, (∀ tm, tm = T (upd x k (tm.getD s undef)) → tm.getD s undef = .slice (some ⟨w.heap.size, 0, none⟩) 1 1 → K { tmps := tm, defers := d } (w.alloc obj)) →
      if Region.wanted o (yielded ops (T x)) = true then Oper.wp P o { tmps := T x, defers := d } w K Q else K (Act.put { tmps := T x, defers := d } o.dst undef) w)
    (hs : AppFrom X a P ops Q T d vals (k + 1) (o' :: l)) : AppFrom X a P ops Q T d vals k (o :: o' :: l) := by
  refine steps_op ds hd (fun L x w hL _ hw hR K hK => h (L a) x w hw hR K fun tm ht hv => ?_) hs
  have hne : k ≠ a := by omega
  refine hK (tm.getD s undef) _ tm ht ?_ ?_ ?_
  · unfold AppR; rw [if_neg hne, if_pos ka]
    subst hobj
    exact ⟨_, hv, hw.1.size, by simp, fun j u hj => cells_new w _ _ j u hj⟩
  · show AppW X (if a = k then true else L a) (w.alloc obj)
    rw [if_neg (Ne.symm hne)]
    refine ⟨hw.1.alloc (Nat.le_trans hBW hw.1.size) _, hw.2.1.trans (Kept.of_below ((Below.refl _ _).alloc (Nat.le_refl _) _)), fun hp => (hw.2.2 hp).alloc _⟩
  · unfold AppL; rw [if_neg hne]; exact (Below.refl _ _).alloc (Nat.le_refl _) _
/-- the append -/
theorem app_append {o o' : Oper} {l : List Oper} (ss sx : Nat) (t : TypeId) (i : TypeInfo) (z : Value) (bytes js jx : Nat) (hd : depsOf o = [js, jx]) (hgd : o.guard = none)
    (ho : o.op = .call { callee := .builtin .append, args := #[.tmp ss, .tmp sx], argTypes := #[t, t] })
    (ht : P.underlying t = some (.slice X.e)) (hi : P.info? X.e = some i) (hz : i.zero = some z) (hs : i.size = X.k) (hb : i.bytes = bytes) (hzs : z.cells.size = X.k) (hk : 0 < X.k) (hy : X.y.length = X.k)
    (ejs : js ≠ a ∧ js + 1 ≠ a) (ejx : jx + 1 = a) (hv : vals[js]? = some X.v) (hT1 : ∀ x, (T x).getD ss undef = x js) (hT2 : ∀ x, (T x).getD sx undef = x jx) (hT3 : ∀ x v, Act.put { tmps := T x, defers := d } o.dst v = { tmps := T (upd x a v), defers := d })
    (h63 : X.xs.length + 1 ≤ 1099511627776) (hbytes : bytes ≤ 64) (hBW : X.B ≤ X.W.heap.size) (hlt : ∀ q, X.v.ownBlock = some q → X.B ≤ q ∧ q < X.W.heap.size)
    (hs' : AppFrom X a P ops Q T d vals (a + 1) (o' :: l)) : AppFrom X a P ops Q T d vals a (o :: o' :: l) := by
  refine steps_op [js, jx] hd (fun L x w hL _ hw hR K hK => ?_) hs'
  have e1 := appR_nth (hR js (by simp)) ejs.1 ejs.2 hv
  have e2 := hR jx (by simp)
  unfold AppR at e2
  rw [if_neg (by omega), if_pos ejx] at e2
  obtain ⟨g, eg, hgW, hgw, hgc⟩ := e2
  have hBw := Nat.le_trans hBW hw.1.size
  have hown := hw.2.2 hL
  refine step_append_rec (a := { tmps := T x, defers := d }) hgd (.tmp ss) (.tmp sx) t ho X.k X.B X.e i z bytes ht hi hz hs hb hzs hk X.v X.xs (by show (T x).getD ss undef = _; rw [hT1 x]; exact e1) hown ⟨g, 0, none⟩ 1 X.y (by show (T x).getD sx undef = _; rw [hT2 x]; exact eg) hy hgc h63 hbytes hBw fun v' w' h1 h2 => ?_
  rw [hT3]
  refine hK v' w' _ rfl ?_ ?_ ?_
  · unfold AppR; rw [if_pos rfl]; exact h1.out
  · show AppW X (if a = a then true else L a) w'
    rw [if_pos rfl]
    refine ⟨hw.1.grown h2.out hBw fun q hq => (hlt q hq).1, hw.2.1.trans (Kept.grown h2.out fun q cs e' f hq hc => own_tag hown.1 q cs e' f hq hc), fun hp => by cases hp⟩
  · unfold AppL; rw [if_pos rfl]; exact h2.out
theorem app_last {k : Nat} {o : Oper}
    (h : ∀ (x : Nat → Value) (w : World), AppW X true w → (∀ j, j < k → AppR X vals a j (x j) w) → ∀ K : Act → World → Prop, (∀ a' w', Q .normal a' w' → K a' w') →
      if Region.wanted o (yielded ops (T x)) = true then Oper.wp P o { tmps := T x, defers := d } w K Q else K (Act.put { tmps := T x, defers := d } o.dst undef) w) (ha : a < k) : AppFrom X a P ops Q T d vals k [o] :=
  steps_last fun L x w _ hall hw hR K hK => h x w (by rw [hall a ha] at hw; exact hw) hR K hK

/-- THE REGION: apply it; T and the values come by unification -/
theorem wp_region_app {id : Nat} {act : Act} {w : World} (slots : List Nat) (vals : List Value) (X : AppOf) (a : Nat) (hXW : X.W = w) (hBW : X.B ≤ X.W.heap.size) (hown : OwnT X.k w X.B X.e X.v X.xs) (hm : P.follows .mixedOrders = true) (hT : ∀ y, setAll act.tmps slots 0 y = T y) (hok : goodOrder ops = true) (hn : 0 < ops.size)
    (hs : AppFrom X a P ops Q T act.defers vals 0 ops.toList) : (Code.region id ops true).wp P Q act w := by
  subst hXW
  refine wp_region_by hm T (AppR X vals a) (fun L w => AppW X (L a) w) (AppL X a) hok hn ?_ (fun j => act.tmps.getD (slots.getD j 0) undef) ?_ (fun _ _ => ⟨(Below.refl _ _).drew, Kept.refl _ _, fun _ => hown⟩) hs
  · intro i j L v w w' hij _ _ _ hle hR
    unfold AppL at hle
    unfold AppR at hR ⊢
    by_cases hi : i = a
    · rw [if_pos hi] at hle
      rw [if_neg (by omega)] at hR ⊢
      split at hR
      · rename_i hj
        obtain ⟨g, e1, e2, e3, e4⟩ := hR
        rw [if_pos hj]
        refine ⟨g, e1, e2, Nat.lt_of_lt_of_le e3 hle.size, fun j u hu => ?_⟩
        rw [← e4 j u hu, add_plain]
        have hb := hle.block g e3 (fun h => by have := (World.ownsRow.lt hown.1 g h.symm).2; omega)
        simp only [World.cell?, hb]
      · rename_i hj
        rw [if_neg hj]; exact hR
    · rw [if_neg hi] at hle
      split at hR
      · rename_i hj
        rw [if_pos hj]; exact hR.below hle
      · rename_i hj
        rw [if_neg hj]
        split at hR
        · rename_i hj2
          rw [if_pos hj2]
          obtain ⟨g, e1, e2, e3, e4⟩ := hR
          exact ⟨g, e1, e2, Nat.lt_of_lt_of_le e3 hle.size, fun j u hu => (hle.cell (p := (⟨g, 0, none⟩ : Addr).add j) (by rw [add_plain]; exact e3)).trans (e4 j u hu)⟩
        · rename_i hj2
          rw [if_neg hj2]; exact hR
  · rw [← hT, setAll_self]
    intro j s hj
    simp [List.getD, hj]
end
end Go.Proofs.YteaincdeoajkeaaGreatDoor.Ut
end
section
/- Rows of records of k integers each, wherever they lie: read, kept, grown by one, cut at the front. Serves all packages. -/
namespace Go.Proofs.YteaincdeoajkeaaGreatDoor.Ut
open Go.RowKit
set_option linter.unusedVariables false

/-- the slice at a reads as xs, records of k integers -/
def IRow (k : Nat) (w : World) (a : Option Addr) (xs : List (List Int)) : Prop := ∀ (i : Nat) (x : List Int), xs[i]? = some x → ∃ y, a = some y ∧ y.block < w.heap.size ∧ ∀ (j : Nat) (z : Int), x[j]? = some z → w.cell? (y.add (i * k + j)) = some (.int .i64 z)
theorem add_past (x : Addr) (m j : Nat) (hj : 0 < j) : x.add (m + j) = ⟨(x.add m).block, (x.add m).off + j, none⟩ := by
  rw [← add_of_add]
  generalize x.add m = y
  unfold Addr.add
  rw [if_neg (by omega)]
section
variable {w w' : World} {a : Option Addr} {xs : List (List Int)} {B k : Nat}
theorem IRow.nil (k : Nat) (w : World) (a : Option Addr) : IRow k w a [] := fun i x h => by simp at h
theorem IRow.kq {T : List Nat} (h : IRow k w a xs) (q : Kq T w w') (hT : ∀ y, a = some y → y.block ∉ T) : IRow k w' a xs := fun i x hx => by
  obtain ⟨y, rfl, hy, hc⟩ := h i x hx
  exact ⟨y, rfl, Nat.lt_of_lt_of_le hy q.size, fun j z hz => (q.cell (p := y.add (i * k + j)) (by rw [block_of_add]; exact hy) (by rw [block_of_add]; exact hT y rfl)).trans (hc j z hz)⟩
theorem IRow.more (h : IRow k w a xs) (hb : Below w.heap.size w w') : IRow k w' a xs := h.kq (T := []) (Kq.of_below hb) (fun _ _ => by simp)
/-- a record's cells as the walk spells them -/
theorem IRow.at_ (h : IRow k w a xs) {i : Nat} {x : List Int} (hx : xs[i]? = some x) : ∃ y, a = some y ∧ y.block < w.heap.size ∧ (y.add (i * k)).block < w.heap.size ∧ (∀ z, x[0]? = some z → w.cell? (y.add (i * k)) = some (.int .i64 z)) ∧ ∀ j z, 0 < j → x[j]? = some z → w.cell? ⟨(y.add (i * k)).block, (y.add (i * k)).off + j, none⟩ = some (.int .i64 z) := by
  obtain ⟨y, e, hy, hc⟩ := h i x hx
  exact ⟨y, e, hy, by rw [block_of_add]; exact hy, fun z hz => hc 0 z hz, fun j z hj hz => by rw [← add_past y (i * k) j hj]; exact hc j z hz⟩
theorem encR_get (k : Nat) : ∀ (xs : List (List Int)), (∀ x ∈ xs, x.length = k) → ∀ (i : Nat) (x : List Int) (j : Nat) (z : Int), xs[i]? = some x → x[j]? = some z → (encR xs)[i * k + j]? = some (.int .i64 z) := by
  intro xs
  induction xs with
  | nil => intro _ i x j z h1; simp at h1
  | cons c xs ih =>
    intro hk i x j z h1 h2
    have hc : c.length = k := hk c (List.mem_cons_self ..)
    have hcl : (encI c).length = k := by unfold encI; rw [List.length_map, hc]
    have e1 : encR (c :: xs) = encI c ++ encR xs := rfl
    rw [e1]
    match i, h1 with
    | 0, h1 =>
      injection h1 with h1
      subst h1
      have hj : j < c.length := (List.getElem?_eq_some_iff.1 h2).1
      rw [List.getElem?_append_left (by omega), Nat.zero_mul, Nat.zero_add]
      unfold encI
      rw [List.getElem?_map, h2]
      rfl
    | i + 1, h1 =>
      rw [List.getElem?_append_right (by rw [hcl, Nat.add_mul]; omega), hcl, show (i + 1) * k + j - k = i * k + j by rw [Nat.add_mul]; omega]
      exact ih (fun x hx => hk x (List.mem_cons_of_mem _ hx)) i x j z h1 h2
/-- what the call owns reads so -/
theorem IRow.own {e : TypeId} {v : Value} (h : OwnT k w B e v xs) : ∃ a cap, v = .slice a xs.length cap ∧ IRow k w a xs ∧ xs.length ≤ cap ∧ cap ≤ maxLen ∧ (∀ y, a = some y → B ≤ y.block) ∧ v.ownBlock = a.map Addr.block := by
  rcases h.1.2 with ⟨rfl, h0⟩ | ⟨g, cap, cur, rfl, hB, hg, hnc, hcm, hsz, htk⟩
  · have hx : xs = [] := List.eq_nil_of_length_eq_zero h0
    subst hx
    exact ⟨none, 0, rfl, IRow.nil _ _ _, by simp, by simp, (fun y e => by cases e), rfl⟩
  · refine ⟨some ⟨g, 0, none⟩, cap, rfl, fun i x hx => ⟨_, rfl, (Array.getElem?_eq_some_iff.1 hg).1, fun j z hz => ?_⟩, hnc, hcm, (fun y e => by injection e with e; rw [← e]; exact hB), rfl⟩
    have h1 := encR_get k xs h.2 i x j z hx hz
    rw [← htk, List.getElem?_take] at h1
    have h2 : cur.toList[i * k + j]? = some (.int .i64 z) := by
      split at h1
      · exact h1
      · cases h1
    rw [add_plain]
    unfold World.cell?
    rw [hg]
    simpa using h2
theorem ownT_down {B' : Nat} {e : TypeId} {v : Value} (h : OwnT k w B e v xs) (hB : B' ≤ B) : OwnT k w B' e v xs := by
  refine ⟨⟨h.1.1, ?_⟩, h.2⟩
  rcases h.1.2 with h0 | ⟨g, cap, cur, e1, e2, rest⟩
  · exact .inl h0
  · exact .inr ⟨g, cap, cur, e1, Nat.le_trans hB e2, rest⟩
theorem ownT_kept {e : TypeId} {v : Value} {T : List Nat} (h : OwnT k w B e v xs) (K : Kq T w w') (hT : ∀ q, v.ownBlock = some q → q ∉ T) : OwnT k w' B e v xs := by
  refine ⟨⟨h.1.1, ?_⟩, h.2⟩
  rcases h.1.2 with h0 | ⟨g, cap, cur, rfl, hB, hg, r⟩
  · exact .inl h0
  · exact .inr ⟨g, cap, cur, rfl, hB, (K.block g (Array.getElem?_eq_some_iff.1 hg).1 (hT g rfl)).trans hg, r⟩
/-- the first record is cut off -/
theorem IRow.cut {y : Addr} {c : Nat} (h : IRow k w (some y) xs) (hk : 0 < k) (hc : c = 1 → xs.length ≤ 1) : IRow k w (if c = 1 then some y else some ⟨y.block, y.off + k, none⟩) (xs.drop 1) := fun i x hx => by
  rw [List.getElem?_drop] at hx
  have hi := (List.getElem?_eq_some_iff.1 hx).1
  have h1 : ¬ c = 1 := fun e => by have := hc e; omega
  rw [if_neg h1]
  obtain ⟨y', e, hy, hcell⟩ := h (1 + i) x hx
  injection e with e
  subst e
  refine ⟨_, rfl, hy, fun j z hz => ?_⟩
  have e5 : (⟨y.block, y.off + k, none⟩ : Addr) = y.add k := by unfold Addr.add; rw [if_neg (by omega)]
  rw [e5, add_of_add, show k + (i * k + j) = (1 + i) * k + j by rw [Nat.add_mul]; omega]
  exact hcell j z hz
end
/-- one record more, out of any slice of one -/
theorem push_irow {P : Program} {w : World} {B k bytes : Nat} {t ty e : TypeId} {z : Value} {v : Value} {xs : List (List Int)} (ht : P.underlying t = some (.slice e)) (hi : (P.info? e).map (fun i => (i.zero, i.size, i.bytes)) = some (some z, k, bytes)) (hz : z.cells.size = k) (hk : 0 < k) (hby : bytes ≤ 1000)
    (hown : OwnT k w B e v xs) (x : List Int) (hx : x.length = k) (ad : Addr) (c : Nat) (hn : ∀ (j : Nat) (u : Value), (encI x)[j]? = some u → w.cell? (ad.add j) = some u) (hl : xs.length + 1 ≤ 1000000) (hB : B ≤ w.heap.size) :
    ∃ a cap w', (Builtin.append_ #[t, t] ty #[v, .slice (some ad) 1 c]).run P w = .ok (.slice a (xs.length + 1) cap) w' ∧ OwnT k w' B e (.slice a (xs.length + 1) cap) (xs ++ [x]) ∧ w.grownBy w' v.ownBlock ∧ ((Value.slice a (xs.length + 1) cap).ownBlock = v.ownBlock ∨ (Value.slice a (xs.length + 1) cap).ownBlock = some w.heap.size) := by
  obtain ⟨i, hi, hzz, hs, hbb⟩ := info_parts hi
  obtain ⟨v', w', hrun, h2, h3, _, h5⟩ := run_append_own_at (P := P) w B t ty e i z k bytes ht hi hzz hs hbb hz hk v xs.length _ hown.1 ad 1 c (encI x) (by unfold encI; rw [List.length_map, hx, Nat.one_mul]) hn
    (fun u hu => by obtain ⟨q, _, rfl⟩ := List.mem_map.1 hu; rfl) (by unfold maxLen; omega) (Nat.le_trans (Nat.mul_le_mul hl hby) (by omega)) hB
  have hown2 : OwnT k w' B e v' (xs ++ [x]) := by
    refine ⟨?_, fun q hq => ?_⟩
    · rw [encR_snoc, List.length_append]
      exact h2
    · rcases List.mem_append.1 hq with hq | hq
      · exact hown.2 q hq
      · simp at hq
        rw [hq]
        exact hx
  obtain ⟨a, cap, hv, _, _, _, _, _⟩ := IRow.own hown2
  rw [List.length_append] at hv
  subst hv
  exact ⟨a, cap, w', hrun, hown2, h3, h5⟩
/-- .. out of a block of its own, made just now -/
theorem push_new {P : Program} {w : World} {B k bytes : Nat} {t ty e : TypeId} {z : Value} {v : Value} {xs : List (List Int)} (ht : P.underlying t = some (.slice e)) (hi : (P.info? e).map (fun i => (i.zero, i.size, i.bytes)) = some (some z, k, bytes)) (hz : z.cells.size = k) (hk : 0 < k) (hby : bytes ≤ 1000)
    (hown : OwnT k w B e v xs) (x : List Int) (hx : x.length = k) (hl : xs.length + 1 ≤ 1000000) (hB : B ≤ w.heap.size) :
    ∃ a cap w', (Builtin.append_ #[t, t] ty #[v, .slice (some ⟨w.heap.size, 0, none⟩) 1 1]).run P (w.alloc (.cells (encI x).toArray e)) = .ok (.slice a (xs.length + 1) cap) w' ∧ OwnT k w' B e (.slice a (xs.length + 1) cap) (xs ++ [x]) ∧ w.grownBy w' v.ownBlock ∧ (∀ q, (Value.slice a (xs.length + 1) cap).ownBlock = some q → v.ownBlock = some q ∨ w.heap.size < q) := by
  have hA : Below w.heap.size w (w.alloc (.cells (encI x).toArray e)) := (Below.refl _ _).alloc (Nat.le_refl _) _
  obtain ⟨a, cap, w', hrun, h1, h3, h5⟩ := push_irow (ty := ty) ht hi hz hk hby (hown.alloc (.cells (encI x).toArray e)) x hx ⟨w.heap.size, 0, none⟩ 1 (fun j u hj => cells_new w (encI x) e j u hj) hl (Nat.le_trans hB hA.size)
  refine ⟨a, cap, w', hrun, h1, ⟨h3.os.trans hA.os, h3.tape.trans hA.tape, h3.output.trans hA.output, Nat.le_trans hA.size h3.size, fun q hq hne => (h3.block q (Nat.lt_of_lt_of_le hq hA.size) hne).trans (hA.block q hq)⟩, fun q hq => ?_⟩
  rcases h5 with h5 | h5
  · exact .inl (h5.symm.trans hq)
  · right
    have := h5.symm.trans hq
    injection this with this
    rw [World.size_alloc] at this
    omega
end Go.Proofs.YteaincdeoajkeaaGreatDoor.Ut
end
section
/- Stage 20: what the program is to keep (MmuC: to be shown of the program that lands); both sides' memory in one world (MZ), and what each act leaves of it. -/
namespace Go.Proofs.YteaincdeoajkeaaGreatDoor.Mm
open Go.RowKit Go.Shelf Ut Oc Vw Wa
set_option maxRecDepth 100000
set_option linter.unusedVariables false
set_option maxHeartbeats 4000000

/-- where law20's pages lie; a map whose pages lie there, those that are there -/
def placeP (p : Int) : Gm.Pl := (11 - p, 3 - 2 * (p / 9))
def Lay (L : List Gm.Pl) : Prop := Gm.Okay L ∧ ∀ i : Nat, i < 12 → Gm.plN L i = (0, 0) ∨ Gm.plN L i = placeP i
/-- what none of the document's rows begins with -/
def notRow : Value → Prop
  | .int .u8 _ => False
  | .slice _ _ _ => False
  | _ => True
/-- blocks below the document's, or that begin otherwise than its rows: the document's memory stays -/
theorem dv_kqN {w w' : World} {g bt B q n gv cap : Nat} {S : List Int} {L : List Gm.Pl} {D : List Bool} {T : List Nat} (h : DV w g bt B q n gv cap S L D) (k : Kq T w w') (hg : g ∉ T) (hq : q ∉ T)
    (hT : ∀ x ∈ T, x < B ∨ ∃ v, w.cell? ⟨x, 0, none⟩ = some v ∧ notRow v) : DV w' g bt B q n gv cap S L D := by
  obtain ⟨vs, h1⟩ := h.st
  refine ⟨h.blk.kq k hg, ⟨vs, ?_⟩, ⟨h.mp.1.kq k hq, h.mp.2⟩, h.len, h.pos, h.s0, h.s1, h.n32, h.bq, h.qg⟩
  have hn := h.pos
  have hno : ∀ x v, B ≤ x → w.cell? ⟨x, 0, none⟩ = some v → ¬ notRow v → x ∉ T := fun x v hx hc h2 hm => by
    rcases hT x hm with h | ⟨u, h, h3⟩
    · omega
    · rw [hc] at h; injection h with h; subst h; exact h2 h3
  have hbt : bt ∉ T := hno bt _ h1.lo h1.cell0 (fun e => e)
  have hgB := (h1.own.lt gv rfl).1
  have hgl := (h1.own.lt gv rfl).2
  obtain ⟨g0, c0, hg0, _⟩ := h1.at_ 0 hn
  have hgv : gv ∉ T := hno gv _ hgB hg0 (fun e => e)
  refine ⟨(k.block bt h1.lt hbt).trans h1.box, h1.lo, ?_, h1.len, fun i hi => ?_, h1.bytes, fun e => by omega⟩
  · refine ⟨h1.own.1, ?_⟩
    rcases h1.own.2 with ⟨e, _⟩ | ⟨g, c, cur, e, hb, hg, rest⟩
    · cases e
    · refine .inr ⟨g, c, cur, e, hb, ?_, rest⟩
      injection e with e
      injection e with e
      injection e with e
      subst e
      exact (k.block gv hgl hgv).trans hg
  · obtain ⟨g, c, hv, hB, h2, h3, h4⟩ := h1.rows i hi
    refine ⟨g, c, hv, hB, h2, h3, h4.1, fun j hj => ?_⟩
    have hgT : g ∉ T := by
      obtain ⟨x, e, _, hc⟩ := h4.2 0 (by omega)
      injection e with e
      subst e
      rw [add_plain] at hc
      exact hno g _ hB hc (fun e => e)
    obtain ⟨x, e, hx, hc⟩ := h4.2 j hj
    injection e with e
    subst e
    refine ⟨_, rfl, Nat.lt_of_lt_of_le hx k.size, ?_⟩
    rw [World.cell?_of_block (w := w)]
    · exact hc
    · rw [block_of_add]
      exact k.block g hx hgT

/-- a slice of records of k integers that the call made -/
def Recs20 (k : Nat) (W w' : World) (v : Value) (xs : List (List Int)) : Prop := ∃ a c, v = .slice a xs.length c ∧ IRow k w' a xs ∧ ∀ y, a = some y → W.heap.size ≤ y.block
abbrev hitX (h : Int × Int × Int) (f : Bool) : Value := .agg #[.int .i64 h.1, .int .i64 h.2.1, .int .i64 h.2.2, .bool f]
abbrev modeV (on : Bool) (rt : Int) (us : Bool) : Value := .agg #[.bool on, .int .i64 rt, .bool us]
/-- what is remembered lies where the map says, with no right of its own; tb says which pages are tables -/
def HeldP (L : List Gm.Pl) (tb : Int → Bool) (κ : List (List Int)) : Prop := ∀ x ∈ κ, ∃ kr kp ep ef er : Int, x = [kr, kp, ep, ef, er] ∧ Gm.thB (Gm.atP L ep) = true ∧ (Gm.atP L ep).1 = ef ∧
  ((bits .and .i64 er 2 == 0) = false → (bits .and .i64 (Gm.atP L ep).2 2 == 0) = false ∧ tb ep = false) ∧ ((bits .and .i64 er 1 == 0) = false → (bits .and .i64 (Gm.atP L ep).2 1 == 0) = false) ∧ ((bits .and .i64 er 4 == 0) = false → ep < 8)
/-- the program's predicate: world, the Mmu's block, what turns of it, the view's blocks, the guest's bytes, its map, what is remembered, which pages are tables -/
structure PMt where
  /-- blocks below this one never turn; what holds of them (package variables), if anything -/
  nb : Nat
  G : World → Prop
  P : World → Nat → List Nat → Nat → Nat → Nat → List Int → List Gm.Pl → List (List Int) → (Int → Bool) → Prop
/-- an act left bytes S and map L, in blocks of T or new ones -/
structure StepM (PM : PMt) (W W' : World) (u : Nat) (T : List Nat) (b s m : Nat) (S : List Int) (L : List Gm.Pl) : Prop where
  ex : ∃ T' κ tb, PM.P W' u T' b s m S L κ tb ∧ ∀ x ∈ T', x ∈ T ∨ W.heap.size ≤ x
  kq : Kq (b :: s :: T) W W'
/-- what the program is to keep -/
structure MmuC (PM : PMt) : Prop where
  lt : ∀ {W u T b s m S L κ tb}, PM.P W u T b s m S L κ tb → ∀ x ∈ T, x < W.heap.size
  tag : ∀ {W u T b s m S L κ tb}, PM.P W u T b s m S L κ tb → ∀ x ∈ T, ∃ v, W.cell? ⟨x, 0, none⟩ = some v ∧ notRow v
  pv : ∀ {W u T b s m S L κ tb}, PM.P W u T b s m S L κ tb → ∃ D, PV W b s m 12 S L D
  gb : ∀ {W W'}, PM.G W → Below PM.nb W W' → PM.G W'
  kq : ∀ {W W' u T b s m S L κ tb X}, PM.P W u T b s m S L κ tb → Kq X W W' → (∀ x ∈ b :: s :: m :: T, x ∉ X) → (∀ x ∈ X, PM.nb ≤ x) → PM.P W' u T b s m S L κ tb
  held : ∀ {W u T b s m S L κ tb}, PM.P W u T b s m S L κ tb → HeldP L tb κ
  new : ∀ {W b s m S L D} (r : Int), PM.G W → PM.nb ≤ s → Lay L → PV W b s m 12 S L D → 0 ≤ r → r ≤ 4 → Calls Tryz.prog 22 #[.pointer (some ⟨b, 0, none⟩), .int .i64 r] W fun e w' => (∃ u, e = .returned (.tuple #[.pointer (some ⟨u, 0, none⟩), .int .i64 0]) ∧ Hid (∃ T tb, PM.P w' u T b s m S L [] tb ∧ ∀ x ∈ T, W.heap.size ≤ x)) ∧ Kq [b] W w'
  find : ∀ {W u T b s m S L κ tb} (on us : Bool) (rt z k : Int), PM.P W u T b s m S L κ tb → 0 ≤ z → z < 4294967296 →
    Calls Tryz.prog 9 #[.pointer (some ⟨u, 0, none⟩), modeV on rt us, .int .u32 z, .int .i64 k] W fun e w' => (∃ fast, e = .returned (.tuple #[hitX (locF 12 S L on rt us z k).1 fast, .int .i64 (locF 12 S L on rt us z k).2]) ∧ (fast = true → on = true ∧ (locF 12 S L on rt us z k).2 = 0)) ∧ Hid (StepM PM W w' u T b s m S L)
  twice : ∀ {W u T b s m S L tb} (rt z : Int) (us : Bool), PM.P W u T b s m S L [] tb → 0 ≤ z → z < 4294967296 → (locF 12 S L true rt us z 1).2 = 0 →
    Calls Tryz.prog 9 #[.pointer (some ⟨u, 0, none⟩), modeV true rt us, .int .u32 z, .int .i64 1] W fun e w' => e = .returned (.tuple #[hitX (locF 12 S L true rt us z 1).1 false, .int .i64 0]) ∧
      Hid (∀ V, Below w'.heap.size w' V → Calls Tryz.prog 9 #[.pointer (some ⟨u, 0, none⟩), modeV true rt us, .int .u32 z, .int .i64 1] V fun e w'' => e = .returned (.tuple #[hitX (locF 12 S L true rt us z 1).1 true, .int .i64 0]) ∧ ∃ Y, Kq Y V w'' ∧ ∀ y ∈ Y, y ∈ b :: s :: T ∨ (W.heap.size ≤ y ∧ y < w'.heap.size)) ∧ Kq (b :: s :: T) W w'
  load : ∀ {W u T b s m S L κ tb} (on us : Bool) (rt z wd k : Int), PM.P W u T b s m S L κ tb → 0 ≤ z → z < 4294967296 →
    Calls Tryz.prog 11 #[.pointer (some ⟨u, 0, none⟩), modeV on rt us, .int .u32 z, .int .i64 wd, .int .i64 k] W fun e w' => e = .returned (.tuple #[.int .u32 (ld20 12 S L on rt us z wd k).1, .int .i64 (ld20 12 S L on rt us z wd k).2]) ∧ Hid (StepM PM W w' u T b s m S L)
  save : ∀ {W u T b s m S L κ tb} (on us : Bool) (rt z wd x : Int), PM.P W u T b s m S L κ tb → 0 ≤ z → z < 4294967296 → 0 ≤ x → x < 4294967296 →
    Calls Tryz.prog 18 #[.pointer (some ⟨u, 0, none⟩), modeV on rt us, .int .u32 z, .int .i64 wd, .int .u32 x] W fun e w' => e = .returned (.int .i64 (sc20 12 S L on rt us z wd)) ∧ Hid (StepM PM W w' u T b s m (ss20 12 S L on rt us z wd x) L)
  vsave : ∀ {W W' u T b s m S L κ tb D D'} (z wd x : Int), PM.P W u T b s m S L κ tb → PV W b s m 12 S L D → 0 ≤ z → saveD 12 L D z wd = D' → PV W' b s m 12 (saveS 12 S L z wd x) L D' → Kq [s, b] W W' → PM.P W' u T b s m (saveS 12 S L z wd x) L κ tb
  gone : ∀ {W V u T b s m S L κ tb X} (p : Int), PM.P W u T b s m S L κ tb → Kq X W V → (∀ x ∈ b :: s :: T, x ∉ X) → (∀ x ∈ X, PM.nb ≤ x) → Gm.MAt V m (Gm.drL L p) → 0 ≤ p → p < 12 →
    Calls Tryz.prog 23 #[.pointer (some ⟨u, 0, none⟩), .int .i64 p] V fun e w' => e = .returned (.int .i64 0) ∧ Hid (StepM PM V w' u T b s m S (Gm.drL L p))
  set : ∀ {W V u T b s m S L κ tb X} (p : Int), PM.P W u T b s m S L κ tb → Kq X W V → (∀ x ∈ b :: s :: T, x ∉ X) → (∀ x ∈ X, PM.nb ≤ x) → Gm.MAt V m (Gm.setL L p (placeP p)) → 0 ≤ p → p < 12 → ∃ κ tb, PM.P V u T b s m S (Gm.setL L p (placeP p)) κ tb
  flush : ∀ {W u T b s m S L κ tb}, PM.P W u T b s m S L κ tb → Calls Tryz.prog 24 #[.pointer (some ⟨u, 0, none⟩)] W fun e w' => (∃ n, e = .returned (.int .i64 n)) ∧ Hid (StepM PM W w' u T b s m S L)
  kept : ∀ {W u T b s m S L κ tb}, PM.P W u T b s m S L κ tb → Calls Tryz.prog 14 #[.pointer (some ⟨u, 0, none⟩)] W fun e w' => (∃ v, e = .returned v ∧ Hid (∃ T' κ' tb', PM.P w' u T' b s m S L κ' tb' ∧ Recs20 5 W w' v κ' ∧ κ'.length ≤ 1000 ∧ (∀ y n c, v = .slice (some y) n c → y.block ∉ T') ∧ ∀ x ∈ T', x ∈ T ∨ W.heap.size ≤ x)) ∧ Kq (b :: s :: T) W w'
  table : ∀ {W u T b s m S L κ tb} (p : Int), PM.P W u T b s m S L κ tb → Calls Tryz.prog 17 #[.pointer (some ⟨u, 0, none⟩), .int .i64 p] W fun e w' => (∃ t, e = .returned (.bool t) ∧ (t = true → tb p = true)) ∧ Hid (∃ T' κ' tb', PM.P w' u T' b s m S L κ' tb' ∧ (∀ p, tb' p = true → tb p = true) ∧ ∀ x ∈ T', x ∈ T ∨ W.heap.size ≤ x) ∧ Kq (b :: s :: T) W w'

/-- block numbers: the Mmu's, the view's, the document's -/
structure BK where
  u : Nat
  b : Nat
  s : Nat
  m : Nat
  g : Nat
  bt : Nat
  B : Nat
  q : Nat
  gv : Nat
  cap : Nat
structure BKo (n0 : Nat) (K : BK) : Prop where
  ws : n0 ≤ K.s
  sm : K.s < K.m
  mB : K.m < K.B
  Bq : K.B ≤ K.q
  qb : K.q < K.b
  bg : K.b < K.g
  gvl : K.B ≤ K.gv
  gvg : K.gv < K.g
  bgv : K.b ≠ K.gv
/-- both sides' memory; the blocks of X have stayed as they were in V -/
structure MZT (PM : PMt) (V : World) (X : List Nat) (w0 w : World) (K : BK) (T : List Nat) (κ : List (List Int)) (tb : Int → Bool) (Sp : List Int) (Lp : List Gm.Pl) (Sd : List Int) (Ld : List Gm.Pl) : Prop where
  pm : PM.P w K.u T K.b K.s K.m Sp Lp κ tb
  tT : ∀ t ∈ T, K.g < t ∧ t ∉ X
  dv : ∃ D, DV w K.g K.bt K.B K.q 12 K.gv K.cap Sd Ld D
  o : BKo w0.heap.size K
  nb : PM.nb ≤ w0.heap.size
  st : ∀ x ∈ X, K.g < x ∧ x < w.heap.size ∧ w.heap[x]? = V.heap[x]?
  b : Below w0.heap.size w0 w
def MZ (PM : PMt) (V : World) (X : List Nat) (w0 w : World) (K : BK) (Sp : List Int) (Lp : List Gm.Pl) (Sd : List Int) (Ld : List Gm.Pl) : Prop := ∃ T κ tb, MZT PM V X w0 w K T κ tb Sp Lp Sd Ld
/-- .. with the tables known -/
def MZB (PM : PMt) (V : World) (X : List Nat) (w0 w : World) (K : BK) (tb : Int → Bool) (Sp : List Int) (Lp : List Gm.Pl) (Sd : List Int) (Ld : List Gm.Pl) : Prop := ∃ T κ, MZT PM V X w0 w K T κ tb Sp Lp Sd Ld
/-- a page was dropped from the program's map, and nothing else was done about it yet -/
structure MZd (PM : PMt) (V : World) (X : List Nat) (w0 w : World) (K : BK) (p : Int) (Sp : List Int) (Lp : List Gm.Pl) (Sd : List Int) (Ld : List Gm.Pl) : Prop where
  ex : ∃ W T κ tb, PM.P W K.u T K.b K.s K.m Sp Lp κ tb ∧ (∀ t ∈ T, K.g < t ∧ t ∉ X) ∧ Kq [K.m, K.q] W w
  mp : Gm.MAt w K.m (Gm.drL Lp p)
  dv : ∃ D, DV w K.g K.bt K.B K.q 12 K.gv K.cap Sd Ld D
  o : BKo w0.heap.size K
  nb : PM.nb ≤ w0.heap.size
  st : ∀ x ∈ X, K.g < x ∧ x < w.heap.size ∧ w.heap[x]? = V.heap[x]?
  b : Below w0.heap.size w0 w
section
variable {PM : PMt} (C : MmuC PM) {V U w0 w w' : World} {X Y T T' : List Nat} {K : BK} {κ : List (List Int)} {tb : Int → Bool} {Sp Sp' Sd Sd' : List Int} {Lp Lp' Ld Ld' : List Gm.Pl}
theorem MZT.glt (h : MZT PM V X w0 w K T κ tb Sp Lp Sd Ld) : K.g < w.heap.size := h.dv.elim fun _ h => h.lt
theorem MZB.mz (h : MZB PM V X w0 w K tb Sp Lp Sd Ld) : MZ PM V X w0 w K Sp Lp Sd Ld := h.elim fun T h => h.elim fun κ h => ⟨T, κ, tb, h⟩
theorem MZ.glt (h : MZ PM V X w0 w K Sp Lp Sd Ld) : K.g < w.heap.size := h.elim fun _ h => h.elim fun _ h => h.elim fun _ h => h.glt
theorem MZ.nb (h : MZ PM V X w0 w K Sp Lp Sd Ld) : PM.nb ≤ w0.heap.size := h.elim fun _ h => h.elim fun _ h => h.elim fun _ h => h.nb
theorem MZ.b (h : MZ PM V X w0 w K Sp Lp Sd Ld) : Below w0.heap.size w0 w := h.elim fun _ h => h.elim fun _ h => h.elim fun _ h => h.b
theorem MZ.dv (h : MZ PM V X w0 w K Sp Lp Sd Ld) : ∃ D, DV w K.g K.bt K.B K.q 12 K.gv K.cap Sd Ld D := h.elim fun _ h => h.elim fun _ h => h.elim fun _ h => h.dv
theorem MZ.st (h : MZ PM V X w0 w K Sp Lp Sd Ld) : ∀ x ∈ X, K.g < x ∧ x < w.heap.size ∧ w.heap[x]? = V.heap[x]? := h.elim fun _ h => h.elim fun _ h => h.elim fun _ h => h.st
theorem MZ.blk (h : MZ PM V X w0 w K Sp Lp Sd Ld) {x : Nat} {t : TypeId} {cs : List Value} (hx : x ∈ X) (hb : Blk V x t cs) : Blk w x t cs := hb.of_block (h.st x hx).2.2
include C
theorem MZT.step (h : MZT PM V X w0 w K T κ tb Sp Lp Sd Ld) {κ' : List (List Int)} {tb' : Int → Bool} (hp : PM.P w' K.u T' K.b K.s K.m Sp' Lp' κ' tb') (hT : ∀ x ∈ T', x ∈ T ∨ w.heap.size ≤ x) (hk : Kq (K.b :: K.s :: T) w w') : MZT PM V X w0 w' K T' κ' tb' Sp' Lp' Sd Ld := by
  have o := h.o
  have h1 := o.ws
  have h2 := o.sm
  have h3 := o.mB
  have h4 := o.Bq
  have h5 := o.qb
  have h6 := o.bg
  have hgl := h.glt
  obtain ⟨D, hd⟩ := h.dv
  obtain ⟨Dp, hpv⟩ := C.pv h.pm
  have hgT : K.g ∉ K.b :: K.s :: T := by
    simp only [List.mem_cons, not_or]
    exact ⟨by omega, by omega, fun hm => by have := (h.tT _ hm).1; omega⟩
  have hqT : K.q ∉ K.b :: K.s :: T := by
    simp only [List.mem_cons, not_or]
    exact ⟨by omega, by omega, fun hm => by have := (h.tT _ hm).1; omega⟩
  refine ⟨hp, fun t ht => ?_, ⟨D, dv_kqN hd hk hgT hqT fun x hx => ?_⟩, o, h.nb, fun x hx => ?_, h.b.trans (hk.under (fun y hy => ?_) h.b.size)⟩
  · rcases hT t ht with h7 | h7
    · exact h.tT t h7
    · exact ⟨by omega, fun hm => by have := (h.st t hm).2.1; omega⟩
  · rcases List.mem_cons.1 hx with rfl | hx
    · exact .inr ⟨_, hpv.cell0, trivial⟩
    rcases List.mem_cons.1 hx with rfl | hx
    · exact .inl (by omega)
    · exact .inr (C.tag h.pm x hx)
  · obtain ⟨s1, s2, s3⟩ := h.st x hx
    refine ⟨s1, Nat.lt_of_lt_of_le s2 hk.size, (hk.block x s2 ?_).trans s3⟩
    simp only [List.mem_cons, not_or]
    exact ⟨by omega, by omega, fun hm => (h.tT x hm).2 hx⟩
  · rcases List.mem_cons.1 hy with rfl | hy
    · omega
    rcases List.mem_cons.1 hy with rfl | hy
    · omega
    · have := (h.tT y hy).1
      omega
theorem MZT.stepM (h : MZT PM V X w0 w K T κ tb Sp Lp Sd Ld) (hs : StepM PM w w' K.u T K.b K.s K.m Sp' Lp') : MZ PM V X w0 w' K Sp' Lp' Sd Ld := by
  obtain ⟨T', κ', tb', hp, hT⟩ := hs.ex
  exact ⟨T', κ', tb', h.step C hp hT hs.kq⟩
/-- the document's side did something -/
theorem MZ.doc (h : MZ PM V X w0 w K Sp Lp Sd Ld) (hd : ∃ D, DV w' K.g K.bt K.B K.q 12 K.gv K.cap Sd' Ld' D) (hk : Kq [K.gv, K.g, K.q] w w') : MZ PM V X w0 w' K Sp Lp Sd' Ld' := by
  obtain ⟨T, κ, tb, h⟩ := h
  have o := h.o
  have h1 := o.ws
  have h2 := o.sm
  have h3 := o.mB
  have h4 := o.Bq
  have h5 := o.qb
  have h6 := o.bg
  have h7 := o.gvl
  have h8 := o.gvg
  have h9 := o.bgv
  have h0 := h.nb
  refine ⟨T, κ, tb, C.kq h.pm hk (fun x hx => ?_) (fun x hx => by
    simp only [List.mem_cons, List.not_mem_nil, or_false] at hx
    omega), h.tT, hd, o, h.nb, fun x hx => ?_, h.b.trans (hk.under (fun y hy => ?_) h.b.size)⟩
  · simp only [List.mem_cons, List.not_mem_nil, or_false, not_or]
    rcases List.mem_cons.1 hx with rfl | hx
    · omega
    rcases List.mem_cons.1 hx with rfl | hx
    · omega
    rcases List.mem_cons.1 hx with rfl | hx
    · omega
    · have := (h.tT x hx).1
      omega
  · obtain ⟨s1, s2, s3⟩ := h.st x hx
    refine ⟨s1, Nat.lt_of_lt_of_le s2 hk.size, (hk.block x s2 ?_).trans s3⟩
    simp only [List.mem_cons, List.not_mem_nil, or_false, not_or]
    omega
  · simp only [List.mem_cons, List.not_mem_nil, or_false] at hy
    omega
theorem MZT.more (h : MZT PM V X w0 w K T κ tb Sp Lp Sd Ld) (hb : Below w.heap.size w w') : MZT PM V X w0 w' K T κ tb Sp Lp Sd Ld :=
  ⟨C.kq h.pm (X := []) (Kq.of_below hb) (fun _ _ => by simp) (fun _ hx => absurd hx (by simp)), h.tT, h.dv.elim fun D hd => ⟨D, hd.more hb⟩, h.o, h.nb, fun x hx => by
    obtain ⟨s1, s2, s3⟩ := h.st x hx
    exact ⟨s1, Nat.lt_of_lt_of_le s2 hb.size, (hb.block x s2).trans s3⟩, h.b.trans (hb.mono h.b.size)⟩
theorem MZ.more (h : MZ PM V X w0 w K Sp Lp Sd Ld) (hb : Below w.heap.size w w') : MZ PM V X w0 w' K Sp Lp Sd Ld := by
  obtain ⟨T, κ, tb, h⟩ := h
  exact ⟨T, κ, tb, h.more C hb⟩
theorem MZB.more (h : MZB PM V X w0 w K tb Sp Lp Sd Ld) (hb : Below w.heap.size w w') : MZB PM V X w0 w' K tb Sp Lp Sd Ld := by
  obtain ⟨T, κ, h⟩ := h
  exact ⟨T, κ, h.more C hb⟩
/-- new blocks to be kept from here on -/
theorem MZ.enter (h : MZ PM V X w0 w K Sp Lp Sd Ld) (hb : Below w.heap.size w U) (Y : List Nat) (hY : ∀ y ∈ Y, w.heap.size ≤ y ∧ y < U.heap.size) : MZ PM U (Y ++ X) w0 U K Sp Lp Sd Ld := by
  obtain ⟨T, κ, tb, h⟩ := h
  have h1 := h.more C hb
  have hgl := h.glt
  refine ⟨T, κ, tb, h1.pm, fun t ht => ⟨(h1.tT t ht).1, fun hm => ?_⟩, h1.dv, h1.o, h1.nb, fun x hx => ?_, h1.b⟩
  · rcases List.mem_append.1 hm with hm | hm
    · have := (hY t hm).1
      have := C.lt h.pm t ht
      omega
    · exact (h1.tT t ht).2 hm
  · rcases List.mem_append.1 hx with hx | hx
    · have := hY x hx
      exact ⟨by omega, this.2, rfl⟩
    · obtain ⟨s1, s2, s3⟩ := h1.st x hx
      exact ⟨s1, s2, rfl⟩
omit C in
theorem MZ.leave (h : MZ PM V X w0 w K Sp Lp Sd Ld) (hb : Below w.heap.size w U) (h' : MZ PM U (Y ++ X) w0 w' K Sp' Lp' Sd' Ld') : MZ PM V X w0 w' K Sp' Lp' Sd' Ld' := by
  have hst := h.st
  obtain ⟨T, κ, tb, h'⟩ := h'
  refine ⟨T, κ, tb, h'.pm, fun t ht => ⟨(h'.tT t ht).1, fun hm => (h'.tT t ht).2 (List.mem_append_right _ hm)⟩, h'.dv, h'.o, h'.nb, fun x hx => ?_, h'.b⟩
  obtain ⟨s1, s2, s3⟩ := h'.st x (List.mem_append_right _ hx)
  obtain ⟨t1, t2, t3⟩ := hst x hx
  exact ⟨s1, s2, s3.trans ((hb.block x t2).trans t3)⟩
end
end Go.Proofs.YteaincdeoajkeaaGreatDoor.Mm
end
