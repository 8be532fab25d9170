/- Several texts in one: Af Av Ah Aw -/
import Derived.Test.YteaincdeoajkeaaGreatDoorZ29
import Derived.Test.YteaincdeoajkeaaGreatDoorZ33
import Derived.Deep.OwnRows
section
/- The document's translations: Get. -/
namespace Go.Proofs.YteaincdeoajkeaaGreatDoor.Sb
open Go.RowKit Ut
set_option maxRecDepth 100000
set_option linter.unusedVariables false
set_option maxHeartbeats 4000000

def getX (o : Option Rc) (l xs : List Rc) (p q : Int) : List Rc := match o with | some x => xs ++ [⟨p, q, x.ep, x.ef, x.er⟩] | none => l
def getL (l : List Rc) (p q : Int) : List Rc := getX (findL l p q) l (withoutL l p q) p q
/-- Get's own blocks: the key, the result, the entry that was found -/
structure GS (w W : World) (p q : Int) (eb : Nat) (e0 e1 e2 : Int) : Prop where
  b : w.heap.size ≤ W.heap.size
  ky : Blk W w.heap.size 48 [.int .i64 p, .int .i64 q]
  rs : Blk W (w.heap.size + 1) 50 (entC (0, 0, 0))
  en : Blk W eb 50 [.int .i64 e0, .int .i64 e1, .int .i64 e2]
  eg : w.heap.size + 1 < eb
theorem GS.more {w W W' : World} {p q : Int} {eb : Nat} {e0 e1 e2 : Int} (h : GS w W p q eb e0 e1 e2) (hb : Below W.heap.size W W') : GS w W' p q eb e0 e1 e2 := ⟨Nat.le_trans h.b hb.size, h.ky.more hb, h.rs.more hb, h.en.more hb, h.eg⟩
theorem GS.set {w W : World} {p q : Int} {eb g : Nat} {e0 e1 e2 : Int} (h : GS w W p q eb e0 e1 e2) (hg : g < w.heap.size) (v : Value) : GS w (W.setCell ⟨g, 0, none⟩ v) p q eb e0 e1 e2 := by
  have he := h.eg
  exact ⟨by simpa [World.setCell] using h.b, h.ky.of_block (Below.heap_setCell _ _ _ _ (by simp; omega)), h.rs.of_block (Below.heap_setCell _ _ _ _ (by simp; omega)), h.en.of_block (Below.heap_setCell _ _ _ _ (by simp; omega)), h.eg⟩
section
variable {g n cap : Nat} {room : Int} {a : Option Addr} {l : List Rc}
end
end Go.Proofs.YteaincdeoajkeaaGreatDoor.Sb
end
section
/- Package stlb: Get. -/
namespace Go.Proofs.YteaincdeoajkeaaGreatDoor.Sb
open Go.RowKit Ut Hg
set_option maxRecDepth 100000
set_option linter.unusedVariables false
set_option maxHeartbeats 4000000

theorem size_entry : (Tryz.prog.info? 50).map (·.size) = some 3 := by kernel_rfl
theorem split_at {us : List Us} {i : Nat} {u : Us} (h : us[i]? = some u) (v : Us) : ∃ r, us.Perm (u :: r) ∧ (us.set i v).Perm (v :: r) := by
  induction us generalizing i with
  | nil => simp at h
  | cons x us ih =>
    cases i with
    | zero =>
      simp only [List.getElem?_cons_zero, Option.some.injEq] at h
      subst h
      exact ⟨us, List.Perm.refl _, List.Perm.refl _⟩
    | succ i =>
      obtain ⟨r, h1, h2⟩ := ih (by simpa using h)
      exact ⟨x :: r, (h1.cons x).trans (List.Perm.swap _ _ _), (h2.cons x).trans (List.Perm.swap _ _ _)⟩
section
variable {W : World} {g : Nat} {room c : Int} {l : List Rc} {us : List Us}
theorem LB.used (h : LB W g 175 (hd3 room c) us) (i : Nat) (u : Us) (hu : us[i]? = some u) (s : Int) : LB (W.setCell ⟨g, 4 + i * 6 + 5, none⟩ (.int .u64 s)) g 175 (hd3 room c) (us.set i (u.1, s)) := by
  obtain ⟨z, h5, hb⟩ := h
  have hil := (List.getElem?_eq_some_iff.1 hu).1
  refine ⟨z, by simpa using h5, ?_⟩
  have h6 := hb.set (4 + i * 6 + 5) (.int .u64 s)
  have e : (hd3 room c ++ .int .i64 (us.length : Nat) :: flatU (us ++ z)).set (4 + i * 6 + 5) (.int .u64 s) = hd3 room c ++ .int .i64 ((us.set i (u.1, s)).length : Nat) :: flatU (us.set i (u.1, s) ++ z) := by
    have e0 : (hd3 room c).length = 3 := rfl
    rw [List.length_set, List.set_append_right _ _ (by omega), show 4 + i * 6 + 5 - (hd3 room c).length = i * 6 + 5 + 1 by omega, List.set_cons_succ, ← List.set_append_left _ _ hil]
    congr 2
    rw [flatU_set _ _ _ (by rw [List.length_append]; omega)]
    have hx : (us ++ z)[i]? = some u := by rw [List.getElem?_append_left hil]; exact hu
    obtain ⟨g0, g1, g2, g3, g4, g5⟩ := flatU_get _ i u hx
    have keep : ∀ (X : List Value) (j : Nat) (v : Value), X[j]? = some v → X.set j v = X := fun X j v hv => by
      apply List.ext_getElem?
      intro m
      rw [List.getElem?_set]
      by_cases hm : j = m
      · subst hm
        rw [if_pos rfl, if_pos (List.getElem?_eq_some_iff.1 hv).1, hv]
      · rw [if_neg hm]
    dsimp only
    rw [keep _ _ _ g0, keep _ _ _ g1, keep _ _ _ g2, keep _ _ _ g3, keep _ _ _ g4]
  rw [e] at h6
  exact h6
/-- what is got is used now -/
theorem Rel.used {us2 : List Us} {i : Nat} {u : Us} {p q : Int} (h : Rel us l) (hu : us[i]? = some u) (hi : u.1.is p q = true) (hc : ∀ u ∈ us, u.2 ≤ c) (hp : us2.Perm (us.set i (u.1, c + 1))) : Rel us2 (getL l p q) ∧ ∀ u ∈ us2, u.2 ≤ c + 1 := by
  obtain ⟨r, h1, h2⟩ := split_at hu (u.1, c + 1)
  have hf := h.find_some (List.mem_of_getElem? hu) hi
  obtain ⟨e1, e2⟩ := is_iff.1 hi
  have hr := (h.perm h1).rem
  have hcr : ∀ v ∈ r, v.2 ≤ c := fun v hv => hc v (h1.mem_iff.2 (List.mem_cons_of_mem _ hv))
  have ha := hr.add u.1 (c + 1) (fun v hv => by have := hcr v hv; omega) (fun v hv => without_none (hr.mem.2 ⟨v.2, hv⟩))
  refine ⟨?_, fun v hv => ?_⟩
  · have e3 : getL l p q = withoutL l u.1.kr u.1.kp ++ [u.1] := by
      unfold getL
      rw [hf, ← e1, ← e2]
      rfl
    rw [e3]
    exact ha.perm (hp.trans h2).symm
  · rcases List.mem_cons.1 ((hp.trans h2).mem_iff.1 hv) with rfl | hv
    · exact Int.le_refl _
    · have := hcr v hv; omega
theorem ptGet_any (p q : Int) (o : Option Rc) (hfo : findL l p q = o) (h : PT W g room c l) (hc : c ≤ 1000000) :
    Calls Tryz.prog 71 #[.pointer (some ⟨g, 0, none⟩), .agg #[.int .i64 p, .int .i64 q]] W fun e w' => e = .returned (.tuple #[entV (entF o), .bool o.isSome]) ∧ Hid (∃ c', c' ≤ c + 1 ∧ PT w' g room c' (getL l p q)) ∧ Kq [g] W w' := by
  obtain ⟨U, hU⟩ : ∃ U, U = (W.alloc (.cells #[.int .i64 p, .int .i64 q] 48)).alloc (.cells #[.int .i64 0, .int .i64 0, .int .i64 0] 50) := ⟨_, rfl⟩
  have hB : Below W.heap.size W U := by rw [hU]; exact ((Below.refl _ _).alloc (Nat.le_refl _) _).alloc (by simp) _
  have hk : Blk U W.heap.size 48 [.int .i64 p, .int .i64 q] := by rw [hU]; exact (Blk.new W _ [.int .i64 p, .int .i64 q]).more ((Below.refl _ _).alloc (Nat.le_refl _) _)
  have he : Blk U (W.heap.size + 1) 50 (entC (0, 0, 0)) := by
    have := Blk.new (W.alloc (.cells #[.int .i64 p, .int .i64 q] 48)) 50 (entC (0, 0, 0))
    rw [World.size_alloc] at this
    rw [hU]
    exact this
  have hgl := h.lt
  obtain ⟨us, hh, hrel, hcs, hc0⟩ := h.more hB
  have HH := Lib.hid hh
  have HREL := Lib.hid hrel
  have HCS := Lib.hid hcs
  have HC0 := Lib.hid hc0
  have HC := Lib.hid hc
  have HPT := Lib.hid (h.more hB)
  have HU := Lib.hid hU
  have HB := Lib.hid hB
  have HK := Lib.hid hk
  have HE := Lib.hid he
  have HGW := Lib.hid hgl
  have HFO := Lib.hid hfo
  have k0 := hk.cell (j := 0) rfl
  have k1 := hk.cell (j := 1) rfl
  have kl := hk.lt
  clear h hh hrel hcs hc0 hc hU hB hk he hgl hfo
  go_enter Tryz.func71, Tryz.ntmps71
  go_upto_region 1 with fail
  rw [← HU.out]
  clear HU
  go_wp2_with fail
  refine (hasKey_any p q U).mono ?_
  rintro e w1 ⟨rfl, hk1, hb1⟩
  have HF := Lib.hid (find_any (HH.out.1.more hb1) (Kq.refl _ _) (isC_key p q U.heap.size w1 hk1 (fun e => by have := HH.out.1.lt; omega)))
  have HB1 := Lib.hid hb1
  clear k0 k1 kl hk1 hb1
  go_wp2_with fail
  refine HF.out.mono ?_
  rintro e w2 ⟨⟨i, t, rfl, hfd⟩, hb2⟩
  have HB2 := Lib.hid (HB1.out.trans (hb2.mono HB1.out.size))
  have HE2 := Lib.hid (HE.out.more HB2.out)
  clear hb2 HF
  cases t
  · have ho : o = none := by
      rw [← HFO.out]
      rcases hfd with ⟨h, _⟩ | ⟨_, _, h⟩
      · cases h
      · exact HREL.out.find_none h
    have HGE : Hid (getL l p q = l) := Lib.hid (by unfold getL; rw [HFO.out, ho]; rfl)
    subst ho
    clear hfd
    go_upto_region 3 with fail
    refine wp_region_lit ?_
    refine wpList_buildTo rfl 50 _ rfl _ rfl (entC (0, 0, 0)).toArray (by kernel_rfl) ?_
    refine wpList_store_rowTo rfl 50 _ _ rfl rfl (W.heap.size + 1) (entC (0, 0, 0)).toArray (by kernel_rfl) (by kernel_rfl) 50 (entC (0, 0, 0)).toArray HE2.out (by rw [size_entry]; rfl) rfl (by kernel_rfl) ?_
    have HN9 : Hid (Blk (w2.setRow (W.heap.size + 1) (entC (0, 0, 0)).toArray) (W.heap.size + 1) 50 (entC (0, 0, 0))) := Lib.hid (HE2.out.row _)
    have HB9 := Lib.hid (below_setRow (HB.out.trans (HB2.out.mono HB.out.size)) (Nat.le_succ W.heap.size) (entC (0, 0, 0)).toArray)
    have HP9 : Hid (PT (w2.setRow (W.heap.size + 1) (entC (0, 0, 0)).toArray) g room c l) := Lib.hid (by
      obtain ⟨us', q1, q2⟩ := HPT.out.more HB2.out
      exact ⟨us', ⟨q1.1.of_block (setRow_other _ _ _ _ (by have := HGW.out; omega)), q1.2⟩, q2⟩)
    generalize w2.setRow (W.heap.size + 1) (entC (0, 0, 0)).toArray = V at HN9 HB9 HP9 ⊢
    go_wp2
    exact bodyPost_ret (v := .tuple #[.agg (entC (0, 0, 0)).toArray, .bool false]) (results_cell_slot Tryz.results71 _ _ _ _ _ _ _ rfl _ rfl HN9.out Tryz.underlying50 rfl (by rw [size_entry]; rfl)) rfl ⟨rfl, Lib.hid ⟨c, by omega, by rw [HGE.out]; exact HP9.out⟩, Kq.of_below HB9.out⟩
  · have hfu : ∃ u, us[i]? = some u ∧ u.1.is p q = true := by
      rcases hfd with ⟨_, h⟩ | ⟨h, _⟩
      · exact h
      · cases h
    obtain ⟨u, hu, hi⟩ := hfu
    have ho : o = some u.1 := by rw [← HFO.out]; exact HREL.out.find_some (List.mem_of_getElem? hu) hi
    subst ho
    have hh2 : HP w2 g 175 (hd3 room c) us := ⟨HH.out.1.more HB2.out, HH.out.2⟩
    have hil := (List.getElem?_eq_some_iff.1 hu).1
    have h5 := hh2.1.len
    have d1 : (0 : Int) ≤ (i : Int) ∧ (i : Int) < 5 := by omega
    obtain ⟨c0, c1, c2, c3, c4, c5⟩ := hh2.1.cells (o := 3) rfl i u hu
    have gl := hh2.1.lt
    have HUI := Lib.hid hu
    have HIS := Lib.hid hi
    have HIL := Lib.hid hil
    have HU1 : Hid (∀ c' : Int, (us.set i (u.1, c'))[i]? = some (u.1, c')) := Lib.hid fun c' => by rw [List.getElem?_set_self hil]
    have HH2 := Lib.hid hh2
    obtain ⟨V, hV⟩ : ∃ V, V = w2.alloc (.cells #[.int .i64 u.1.ep, .int .i64 u.1.ef, .int .i64 u.1.er] 50) := ⟨_, rfl⟩
    have hBV : Below w2.heap.size w2 V := by rw [hV]; exact (Below.refl _ _).alloc (Nat.le_refl _) _
    have hNV : Blk V w2.heap.size 50 (entC (u.1.ep, u.1.ef, u.1.er)) := by rw [hV]; exact Blk.new w2 _ (entC (u.1.ep, u.1.ef, u.1.er))
    have HV := Lib.hid hV
    have HBV := Lib.hid hBV
    have HNV := Lib.hid hNV
    have HEV := Lib.hid (HE2.out.more hBV)
    have HHV : Hid (HP V g 175 (hd3 room c) us) := Lib.hid ⟨hh2.1.more hBV, hh2.2⟩
    have hsz : W.heap.size + 2 ≤ w2.heap.size := by have := HE2.out.lt; omega
    have HSZ := Lib.hid hsz
    clear hfd hu hi hh2 hil h5 c0 c1 c5 hV hBV hNV hsz HPT
    obtain ⟨⟨kr, kp, ep, ef, er⟩, s⟩ := u
    dsimp only at c2 c3 c4 HV HNV ⊢
    rw [show 3 + 1 + i * 6 + 2 = 4 + i * 6 + 2 by omega] at c2
    rw [show 3 + 1 + i * 6 + 3 = 4 + i * 6 + 2 + 1 by omega] at c3
    rw [show 3 + 1 + i * 6 + 4 = 4 + i * 6 + 2 + 2 by omega] at c4
    go_upto_region 5 with fail
    rw [← HV.out]
    clear HV c2 c3 c4
    apply wp_region_autoL [28, 29, 30, 31, 32, 33, 34, 35, 36] [_, _, _, _, _, _, _, _, _] (fun L' W' => Kq [g] V W' ∧ HP W' g 175 (hd3 room (cond (L' 3) (c + 1) c)) us)
    case hm => kernel_rfl
    case hT => intro y; simp only [setAll, List.setIfInBounds_toArray, List.set_cons_succ, List.set_cons_zero]; exact rfl
    case hok => kernel_rfl
    case hn => decide
    case hw => exact (fun L' h0 => ⟨kq_drew (Kq.refl _ _), by rw [h0 3 (by decide)]; exact ⟨HHV.out.1.of_block rfl, HHV.out.2⟩⟩)
    case hs =>
      refine autoC_op 28 [] (by kernel_rfl) (fun L y w' hL hC HW hd K hK => ?_) ?_
      · go_simp
        refine hK _ _ ?_ ?_ HW
        · simp [upd]
        · exact rfl
      refine autoC_op 29 [] (by kernel_rfl) (fun L y w' hL hC HW hd K hK => ?_) ?_
      · go_simp
        refine hK _ _ ?_ ?_ HW
        · simp [upd]
        · exact rfl
      refine autoC_op 30 [] (by kernel_rfl) (fun L y w' hL hC HW hd K hK => ?_) ?_
      · go_simp
        refine hK _ _ ?_ ?_ HW
        · simp [upd]
        · exact rfl
      refine autoC_op 31 [2] (by kernel_rfl) (fun L y w' hL hC HW hd K hK => ?_) ?_
      · have e2 := hd_nth (hd 2 (by simp)) rfl
        have hq : HP w' g 175 (hd3 room c) us := by have q := HW.2; rw [hL] at q; exact q
        go_simp
        refine (next_any hq.1 HC0.out HC.out).mono ?_
        rintro e w5 ⟨rfl, hl5, hk5⟩
        refine hK _ _ ?_ ?_ ⟨HW.1.trans hk5, hl5, HW.2.2⟩
        · simp [upd, e2]
        · exact rfl
      refine autoC_op 32 [0] (by kernel_rfl) (fun L y w' hL hC HW hd K hK => ?_) ?_
      · have e0 := hd_nth (hd 0 (by simp)) rfl
        go_simp
        refine hK _ _ ?_ ?_ HW
        · simp [upd, e0]
        · exact rfl
      refine autoC_op 33 [4] (by kernel_rfl) (fun L y w' hL hC HW hd K hK => ?_) ?_
      · have e4 := hd_nth (hd 4 (by simp)) rfl
        go_simp
        refine hK _ _ ?_ ?_ HW
        · simp [upd, e4]
        · exact rfl
      refine autoC_op 34 [5] (by kernel_rfl) (fun L y w' hL hC HW hd K hK => ?_) ?_
      · have e5 := hd_nth (hd 5 (by simp)) rfl
        go_simp
        refine hK _ _ ?_ ?_ HW
        · simp [upd, e5]
        · exact rfl
      refine autoC_op 35 [6, 1, 0, 1, 2, 3] (by kernel_rfl) (fun L y w' hL hC HW hd K hK => ?_) ?_
      · have e0 := hd_nth (hd 0 (by simp)) rfl
        have e1 := hd_nth (hd 1 (by simp)) rfl
        have e2 := hd_nth (hd 2 (by simp)) rfl
        have e3 := hd_nth (hd 3 (by simp)) rfl
        have e6 := hd_nth (hd 6 (by simp)) rfl
        go_simp
        refine hK _ _ ?_ ?_ HW
        · simp [upd, e0, e1, e2, e3, e6]
        · exact rfl
      refine autoC_op 36 [7, 0, 1, 2, 3] (by kernel_rfl) (fun L y w' hL hC HW hd K hK => ?_) ?_
      · have e0 := hd_nth (hd 0 (by simp)) rfl
        have e1 := hd_nth (hd 1 (by simp)) rfl
        have e2 := hd_nth (hd 2 (by simp)) rfl
        have e3 := hd_nth (hd 3 (by simp)) rfl
        have e7 := hd_nth (hd 7 (by simp)) rfl
        go_simp
        refine hK _ _ ?_ ?_ HW
        · simp [upd, e0, e1, e2, e3, e7]
        · exact rfl
      refine autoL_last fun L y w' hLs HW hd K hK => ?_
      have e0 := hd_nth (hd 0 (by omega)) rfl
      have e1 := hd_nth (hd 1 (by omega)) rfl
      have e2 := hd_nth (hd 2 (by omega)) rfl
      have e3 := hd_nth (hd 3 (by omega)) rfl
      have e4 := hd_nth (hd 4 (by omega)) rfl
      have e5 := hd_nth (hd 5 (by omega)) rfl
      have e6 := hd_nth (hd 6 (by omega)) rfl
      have e7 := hd_nth (hd 7 (by omega)) rfl
      have e8 := hd_nth (hd 8 (by omega)) rfl
      have hq : HP w' g 175 (hd3 room (c + 1)) us := by
        have q := HW.2
        rw [hLs 3 (by decide)] at q
        exact q
      have qc : w'.cell? ⟨g, 4 + i * 6 + 5, none⟩ = some (.int .u64 s) := by
        have := (hq.1.cells (o := 3) rfl i _ HUI.out).2.2.2.2.2
        rwa [show 3 + 1 + i * 6 + 5 = 4 + i * 6 + 5 by omega] at this
      have qf := hq.1.frz (4 + i * 6 + 5)
      have ql := hq.1.lt
      have HS9 := Lib.hid (hq.1.used i _ HUI.out (c + 1))
      have HK9 := Lib.hid (((((Kq.of_below (T := [g]) (HB.out.trans (HB2.out.mono HB.out.size))).trans (Kq.of_below HBV.out))).trans HW.1).setCell g (4 + i * 6 + 5) (.int .u64 (c + 1)) (.inl (by simp)))
      have HN9 : Hid (Blk (w'.setCell ⟨g, 4 + i * 6 + 5, none⟩ (.int .u64 (c + 1))) w2.heap.size 50 (entC (ep, ef, er))) := Lib.hid ((HNV.out.kq (HW.1.setCell g (4 + i * 6 + 5) (.int .u64 (c + 1)) (.inl (by simp))) (by have := HGW.out; have := HSZ.out; simp; omega)))
      have HE9 : Hid (Blk (w'.setCell ⟨g, 4 + i * 6 + 5, none⟩ (.int .u64 (c + 1))) (W.heap.size + 1) 50 (entC (0, 0, 0))) := Lib.hid ((HEV.out.kq (HW.1.setCell g (4 + i * 6 + 5) (.int .u64 (c + 1)) (.inl (by simp))) (by have := HGW.out; simp; omega)))
      go_simp
      refine hK _ _ ?_
      generalize w'.setCell ⟨g, 4 + i * 6 + 5, none⟩ (.int .u64 (c + 1)) = W9 at HS9 HK9 HN9 HE9 ⊢
      clear hd hK K qc qf ql hq HW
      have HFX := Lib.hid (hfix18 (o := 3) (_, c + 1) i HS9.out HH.out.2 rfl HIL.out)
      go_wp2_with fail
      refine HFX.out.mono ?_
      rintro e w7 ⟨rfl, ⟨us2, hh7, hp7⟩, hk7⟩
      have HN7 := Lib.hid (HN9.out.kq hk7 (by have := HGW.out; have := HSZ.out; simp; omega))
      have HE7 := Lib.hid (HE9.out.kq hk7 (by have := HGW.out; simp; omega))
      have HP7 : Hid (PT w7 g room (c + 1) (getL l p q)) := Lib.hid (by
        obtain ⟨q1, q2⟩ := HREL.out.used HUI.out HIS.out HCS.out hp7
        exact ⟨us2, hh7, q1, q2, by have := HC0.out; omega⟩)
      have HK7 := Lib.hid (HK9.out.trans hk7)
      clear hh7 hp7 hk7 HFX
      go_upto_region 7 with fail
      refine wp_region_lit ?_
      refine wpList_load_row rfl 50 _ rfl w2.heap.size (by kernel_rfl) 50 (entC (ep, ef, er)).toArray (0, 0) _ HN7.out Tryz.underlying50 rfl (by rw [size_entry]; rfl) ?_
      refine wpList_store_rowTo rfl 50 _ _ rfl rfl (W.heap.size + 1) (entC (ep, ef, er)).toArray (by kernel_rfl) (by kernel_rfl) 50 (entC (0, 0, 0)).toArray HE7.out (by rw [size_entry]; rfl) rfl (by kernel_rfl) ?_
      have HNX : Hid (Blk (w7.setRow (W.heap.size + 1) (entC (ep, ef, er)).toArray) (W.heap.size + 1) 50 (entC (ep, ef, er))) := Lib.hid (HE7.out.row _)
      have HKX : Hid (Kq [g] W (w7.setRow (W.heap.size + 1) (entC (ep, ef, er)).toArray)) := Lib.hid (by
        have h1 := HK7.out
        exact ⟨h1.os, h1.tape, h1.output, by rw [size_setRow]; exact h1.size, fun q hq hn => (setRow_other _ _ _ _ (by omega)).trans (h1.block q hq hn)⟩)
      have HPX : Hid (PT (w7.setRow (W.heap.size + 1) (entC (ep, ef, er)).toArray) g room (c + 1) (getL l p q)) := Lib.hid (by
        obtain ⟨us', q1, q2⟩ := HP7.out
        exact ⟨us', ⟨q1.1.of_block (setRow_other _ _ _ _ (by have := HGW.out; omega)), q1.2⟩, q2⟩)
      generalize w7.setRow (W.heap.size + 1) (entC (ep, ef, er)).toArray = VX at HNX HKX HPX ⊢
      go_wp2
      exact bodyPost_ret (v := .tuple #[.agg (entC (ep, ef, er)).toArray, .bool true]) (results_cell_slot Tryz.results71 _ _ _ _ _ _ _ rfl _ rfl HNX.out Tryz.underlying50 rfl (by rw [size_entry]; rfl)) rfl ⟨rfl, Lib.hid ⟨c + 1, Int.le_refl _, HPX.out⟩, HKX.out⟩
end
end Go.Proofs.YteaincdeoajkeaaGreatDoor.Sb
end
section
/- The document's translations: Narrow. -/
namespace Go.Proofs.YteaincdeoajkeaaGreatDoor.Sb
open Go.RowKit Ut
set_option maxRecDepth 100000
set_option linter.unusedVariables false
set_option maxHeartbeats 4000000

theorem ownT_kq {k B : Nat} {w w' : World} {e : TypeId} {v : Value} {xs : List (List Int)} {T : List Nat} (h : OwnT k w B e v xs) (K : Kq T w w') (hT : ∀ q, v.ownBlock = some q → q ∉ T) : OwnT k w' B e v xs := by
  refine ⟨⟨h.1.1, ?_⟩, h.2⟩
  rcases h.1.2 with h0 | ⟨g, cap, cur, rfl, hB, hg, r⟩
  · exact .inl h0
  · exact .inr ⟨g, cap, cur, rfl, hB, (K.block g (Array.getElem?_eq_some_iff.1 hg).1 (hT g rfl)).trans hg, r⟩
section
variable {g n cap : Nat} {room : Int} {a : Option Addr} {l : List Rc}
end
end Go.Proofs.YteaincdeoajkeaaGreatDoor.Sb
end
section
/- Package stlb: List. -/
namespace Go.Proofs.YteaincdeoajkeaaGreatDoor.Sb
open Go.RowKit Ut Hg
set_option maxRecDepth 100000
set_option linter.unusedVariables false
set_option maxHeartbeats 4000000

/-- one record more, out of a block of its own; what else was there stays -/
theorem push_own {w : World} {B : Nat} {v : Value} {xs : List Rc} (hown : OwnT 5 w B 52 v (xs.map Rc.l)) (x : Rc) (hl : xs.length + 1 ≤ 1000000) (hB : B ≤ w.heap.size) :
    ∃ a cap w', (Builtin.append_ #[45, 45] 45 #[v, .slice (some ⟨w.heap.size, 0, none⟩) 1 1]).run Tryz.prog (w.alloc (.cells #[.int .i64 x.kr, .int .i64 x.kp, .int .i64 x.ep, .int .i64 x.ef, .int .i64 x.er] 52)) = .ok (.slice a (xs.length + 1) cap) w' ∧
      OwnT 5 w' B 52 (.slice a (xs.length + 1) cap) ((xs ++ [x]).map Rc.l) ∧ w.grownBy w' v.ownBlock ∧ (∀ q, (Value.slice a (xs.length + 1) cap).ownBlock = some q → v.ownBlock = some q ∨ w.heap.size < q) := by
  obtain ⟨i, hi, hz, hs, hby⟩ := info_parts kept_info
  have hA : Below w.heap.size w (w.alloc (.cells #[.int .i64 x.kr, .int .i64 x.kp, .int .i64 x.ep, .int .i64 x.ef, .int .i64 x.er] 52)) := (Below.refl _ _).alloc (Nat.le_refl _) _
  have hO := hown.alloc (.cells #[.int .i64 x.kr, .int .i64 x.kp, .int .i64 x.ep, .int .i64 x.ef, .int .i64 x.er] 52)
  have hn : ∀ (j : Nat) (u : Value), (encI x.l)[j]? = some u → (w.alloc (.cells #[.int .i64 x.kr, .int .i64 x.kp, .int .i64 x.ep, .int .i64 x.ef, .int .i64 x.er] 52)).cell? ((⟨w.heap.size, 0, none⟩ : Addr).add j) = some u := fun j u hj => cells_new w (encI x.l) 52 j u hj
  obtain ⟨v', w', hrun, h2, h3, _, h5⟩ := run_append_own_at (P := Tryz.prog) _ B 45 45 52 i _ 5 40 Tryz.underlying45 hi hz hs hby rfl (by decide) v (xs.map Rc.l).length _ hO.1 ⟨w.heap.size, 0, none⟩ 1 1 (encI x.l) rfl hn
    (fun u hu => by obtain ⟨z, _, rfl⟩ := List.mem_map.1 hu; rfl) (by rw [List.length_map]; unfold maxLen; omega) (by rw [List.length_map]; omega) (Nat.le_trans hB hA.size)
  have hown2 : OwnT 5 w' B 52 v' ((xs ++ [x]).map Rc.l) := by
    refine ⟨?_, fun q hq => ?_⟩
    · rw [List.map_append, show List.map Rc.l [x] = [x.l] from rfl, encR_snoc, List.length_append]
      exact h2
    · obtain ⟨c, _, rfl⟩ := List.mem_map.1 hq
      rfl
  obtain ⟨a, cap, hv, _, _, _, _, _⟩ := RcRow.own hown2
  rw [List.length_append] at hv
  subst hv
  refine ⟨a, cap, w', hrun, hown2, ⟨h3.os.trans hA.os, h3.tape.trans hA.tape, h3.output.trans hA.output, Nat.le_trans hA.size h3.size, fun q hq hne => (h3.block q (Nat.lt_of_lt_of_le hq hA.size) hne).trans (hA.block q hq)⟩, fun q hq => ?_⟩
  rcases h5 with h5 | h5
  · exact .inl (h5.symm.trans hq)
  · right
    have := h5.symm.trans hq
    injection this with this
    rw [World.size_alloc] at this
    omega

/-- what first answers, and what is left, told by the list -/
def FirstP (l : List Rc) (e : Ending) (w' : World) (b : Nat) (t : TypeId) (pre : List Value) : Prop := ∃ (c : Us) (q : Bool) (us : List Us) (L : List Rc), e = .returned (.tuple #[usV c, .bool q]) ∧ HP w' b t pre us ∧ Rel us L ∧ l = (if q = true then c.1 :: L else [])
section
variable {W : World} {b o g : Nat} {t : TypeId} {pre : List Value} {us : List Us} {l : List Rc} {room c : Int}
theorem first_any (h : HP W b t pre us) (ho : pre.length = o) (hr : Rel us l) :
    Calls Tryz.prog 88 #[.pointer (some ⟨b, o, none⟩)] W fun e w' => FirstP l e w' b t pre ∧ Kq [b] W w' := by
  by_cases h0 : us = []
  · subst h0
    refine (first_no h.1 ho).mono ?_
    rintro e w' ⟨rfl, hb⟩
    have hl : l = [] := List.eq_nil_of_length_eq_zero (by rw [← hr.len]; rfl)
    exact ⟨⟨noU, false, [], l, rfl, ⟨h.1.more hb, h.2⟩, hr, hl⟩, Kq.of_below hb⟩
  · refine (first_yes h ho (List.length_pos_iff.2 h0)).mono ?_
    rintro e w' ⟨⟨c, r, rfl, hh, hp⟩, hk⟩
    obtain ⟨hp, hle⟩ := hp.out
    obtain ⟨h1, h2⟩ := (hr.perm hp.symm).least (fun v hv => hle v (hp.mem_iff.1 (List.mem_cons_of_mem _ hv)))
    exact ⟨⟨c, true, r, l.drop 1, rfl, hh.out, h2, h1⟩, hk⟩

def lenOf : Value → Nat
  | .slice _ n _ => n
  | _ => 0
def zeroL : List Value := .int .i64 0 :: flatU [noU, noU, noU, noU, noU]
theorem size_lately : (Tryz.prog.info? 173).map (·.size) = some 31 := by kernel_rfl
theorem alloc_lately (w : World) : Hid (∀ (ρ : Operand → Value) (o : Oper), o.op = .alloc 173 → (execOp ρ o).run Tryz.prog w = .ok (.value (.pointer (some ⟨w.heap.size, 0, none⟩))) (w.alloc (.cells zeroL.toArray 173))) := Lib.hid fun ρ o ho => by
  unfold execOp
  rw [ho]
  kernel_rfl
/-- where List's loop is: d is told already, L (behind c, if q) is still to come -/
structure LS (W wr : World) (lb xb : Nat) (d : List Rc) (l : List Rc) (c : Us) (q : Bool) (us : List Us) (L : List Rc) (v : Value) : Prop where
  own : OwnT 5 wr (lb + 1) 52 v (d.map Rc.l)
  x : Blk wr xb 170 (usC c)
  h : HP wr lb 173 [] us
  r : Rel us L
  e : d ++ (if q = true then c.1 :: L else []) = l
  ne : ∀ p, v.ownBlock = some p → p ≠ xb
  xg : lb < xb
  lw : W.heap.size ≤ lb
  b : Below W.heap.size W wr
end
end Go.Proofs.YteaincdeoajkeaaGreatDoor.Sb
end
