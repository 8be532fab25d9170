/- Several texts in one: At Au Af Av -/
import Derived.Test.YteaincdeoajkeaaGreatDoorZ39
import Derived.Laws.Rows
import Derived.Test.YteaincdeoajkeaaGreatDoorZ37
section
/- Package stlb: first. -/
namespace Go.Proofs.YteaincdeoajkeaaGreatDoor.Sb
open Go.RowKit Ut Hg
set_option maxRecDepth 100000
set_option linter.unusedVariables false
set_option maxHeartbeats 4000000

theorem results_cell_slot {P : Program} {fn : Func} {p q : Tmp} {ty : TypeId} (h : fn.results = #[.cell p ty, .tmp q]) (tmps : Array Value) (w : World) (g : Nat) (t : TypeId) (cs : Array Value) (fr : Nat × Nat) (d : TypeDesc)
  (hp : tmps.getD p undef = .pointer (some ⟨g, 0, none⟩)) (v : Value) (hq : tmps.getD q undef = v) (hg : w.heap[g]? = some (.cells cs t fr))
  (hu : P.underlying ty = some d) (hd : (match d with | .struct _ | .array _ _ => true | _ => false) = true) (hi : (P.info? ty).map (·.size) = some cs.size) :
  (results fn tmps).run P w = .ok (.tuple #[.agg cs, v]) w := by
 have hp' : tmps[p]?.getD undef = .pointer (some ⟨g, 0, none⟩) := by simpa using hp
 have hq' : tmps[q]?.getD undef = v := by simpa using hq
 simp [results, h, hp', hq', asAddr, run_loadVar_row w g t ty cs fr d hg hu hd hi]

section
variable {W : World} {b o : Nat} {t : TypeId} {pre : List Value} {l : List Us}
theorem first_no (h : LB W b t pre []) (ho : pre.length = o) :
  Calls Tryz.prog 88 #[.pointer (some ⟨b, o, none⟩)] W fun e w' => e = .returned (.tuple #[usV noU, .bool false]) ∧ Below W.heap.size W w' := by
 obtain ⟨U, hU⟩ : ∃ U, U = W.alloc (.cells #[.int .i64 0, .int .i64 0, .int .i64 0, .int .i64 0, .int .i64 0, .int .u64 0] 170) := ⟨_, rfl⟩
 have hB : Below W.heap.size W U := by rw [hU]; exact (Below.refl _ _).alloc (Nat.le_refl _) _
 have hN : Blk U W.heap.size 170 (usC noU) := by rw [hU]; exact Blk.new W _ (usC noU)
 have c0 : U.cell? ⟨b, o, none⟩ = some (.int .i64 0) := (h.more hB).cell0 ho
 have bl := (h.more hB).lt
 have HU := Lib.hid hU
 have HB := Lib.hid hB
 have HN := Lib.hid hN
 clear h hU hB hN
 go_enter Tryz.func88, Tryz.ntmps88
 go_upto_region 1 with fail
 rw [← HU.out]
 clear HU
 go_upto_region 2 with fail
 refine wp_region_lit ?_
 refine wpList_buildTo rfl 170 _ rfl _ rfl (usC noU).toArray (by kernel_rfl) ?_
 refine wpList_store_rowTo rfl 170 _ _ rfl rfl W.heap.size (usC noU).toArray (by kernel_rfl) (by kernel_rfl) 170 (usC noU).toArray HN.out (by rw [size_used]; rfl) rfl (by kernel_rfl) ?_
 have HN2 : Hid (Blk (U.setRow W.heap.size (usC noU).toArray) W.heap.size 170 (usC noU)) := Lib.hid (HN.out.row _)
 have HB2 := Lib.hid (below_setRow HB.out (Nat.le_refl W.heap.size) (usC noU).toArray)
 generalize U.setRow W.heap.size (usC noU).toArray = V at HN2 HB2 ⊢
 go_wp2
 exact bodyPost_ret (v := .tuple #[usV noU, .bool false]) (results_cell_slot Tryz.results88 _ _ _ _ _ _ _ rfl _ rfl HN2.out Tryz.underlying170 rfl (by rw [size_used]; rfl)) rfl ⟨rfl, HB2.out⟩
theorem first_yes (h : HP W b t pre l) (ho : pre.length = o) (hl : 0 < l.length) :
  Calls Tryz.prog 88 #[.pointer (some ⟨b, o, none⟩)] W fun e w' => (∃ c r, e = .returned (.tuple #[usV c, .bool true]) ∧ Hid (HP w' b t pre r) ∧ Hid ((c :: r).Perm l ∧ ∀ y ∈ l, c.2 ≤ y.2)) ∧ Kq [b] W w' := by
 obtain ⟨U, hU⟩ : ∃ U, U = W.alloc (.cells #[.int .i64 0, .int .i64 0, .int .i64 0, .int .i64 0, .int .i64 0, .int .u64 0] 170) := ⟨_, rfl⟩
 have hB : Below W.heap.size W U := by rw [hU]; exact (Below.refl _ _).alloc (Nat.le_refl _) _
 have hN : Blk U W.heap.size 170 (usC noU) := by rw [hU]; exact Blk.new W _ (usC noU)
 have hbl := h.1.lt
 have hne : W.heap.size ≠ b := by omega
 have hu : HP U b t pre l := ⟨h.1.more hB, h.2⟩
 have c0 := hu.1.cell0 ho
 have bl := hu.1.lt
 have f0 : ((l.length : Int) == 0) = false := beq_eq_false_iff_ne.2 (by omega)
 have HPOP := Lib.hid (hpop18 hu ho hl)
 have HU := Lib.hid hU
 have HB := Lib.hid hB
 have HN := Lib.hid hN
 have HNE := Lib.hid hne
 clear h hU hB hN hu hl hne hbl
 generalize l.length = n at c0 f0
 go_enter Tryz.func88, Tryz.ntmps88
 go_upto_region 1 with fail
 rw [← HU.out]
 clear HU
 go_wp2_with fail
 refine HPOP.out.mono ?_
 rintro e w1 ⟨c, r, rfl, hr, hp, hle, hk⟩
 have HR := Lib.hid hr
 have HPL := Lib.hid (And.intro hp hle)
 have HK1 := Lib.hid hk
 have hta := assert_used c w1
 obtain ⟨V, hV⟩ : ∃ V, V = w1.alloc (.cells #[.int .i64 c.1.kr, .int .i64 c.1.kp, .int .i64 c.1.ep, .int .i64 c.1.ef, .int .i64 c.1.er, .int .u64 c.2] 170) := ⟨_, rfl⟩
 have hB1 : Below w1.heap.size w1 V := by rw [hV]; exact (Below.refl _ _).alloc (Nat.le_refl _) _
 have hN1 : Blk V w1.heap.size 170 (usC c) := by rw [hV]; exact Blk.new w1 _ (usC c)
 have HV := Lib.hid hV
 have HB1 := Lib.hid hB1
 have HN1 := Lib.hid hN1
 have HNW : Hid (Blk V W.heap.size 170 (usC noU)) := Lib.hid ((HN.out.kq hk (by simpa using HNE.out)).more hB1)
 have k0 := hN1.cell (j := 0) rfl
 have k1 := hN1.cell (j := 1) rfl
 have k2 := hN1.cell (j := 2) rfl
 have k3 := hN1.cell (j := 3) rfl
 have k4 := hN1.cell (j := 4) rfl
 have k5 := hN1.cell (j := 5) rfl
 have kl := hN1.lt
 clear hr hp hle hk hV hB1 hN1 HPOP c0 bl f0
 unfold usV at hta ⊢
 go_upto_region 4 with fail
 rw [← HV.out]
 clear HV hta
 refine wp_region_lit ?_
 refine wpList_load_row rfl 170 _ rfl w1.heap.size (by kernel_rfl) 170 (usC c).toArray (0, 0) _ HN1.out Tryz.underlying170 rfl (by rw [size_used]; rfl) ?_
 refine Great.wpList_readTo rfl _ rfl (.bool true) (by kernel_rfl) ?_
 refine wpList_store_rowTo rfl 170 _ _ rfl rfl W.heap.size (usC c).toArray (by kernel_rfl) (by kernel_rfl) 170 (usC noU).toArray HNW.out (by rw [size_used]; rfl) rfl (by kernel_rfl) ?_
 have HN2 : Hid (Blk (V.setRow W.heap.size (usC c).toArray) W.heap.size 170 (usC c)) := Lib.hid (HNW.out.row _)
 have HK2 : Hid (Kq [b] W (V.setRow W.heap.size (usC c).toArray)) := Lib.hid (by
  have h1 := ((Kq.of_below (T := [b]) HB.out).trans HK1.out).trans (Kq.of_below HB1.out)
  exact ⟨h1.os, h1.tape, h1.output, by rw [size_setRow]; exact h1.size, fun q hq hn => (setRow_other _ _ _ _ (by omega)).trans (h1.block q hq hn)⟩)
 have HR2 : Hid (HP (V.setRow W.heap.size (usC c).toArray) b t pre r) := Lib.hid ⟨(HR.out.1.more HB1.out).of_block (setRow_other _ _ _ _ HNE.out.symm), HR.out.2⟩
 generalize V.setRow W.heap.size (usC c).toArray = V2 at HN2 HK2 HR2 ⊢
 clear k0 k1 k2 k3 k4 k5 kl
 go_wp2
 exact bodyPost_ret (v := .tuple #[.agg (usC c).toArray, .bool true]) (results_cell_slot Tryz.results88 _ _ _ _ _ _ _ rfl _ rfl HN2.out Tryz.underlying170 rfl (by rw [size_used]; rfl)) rfl ⟨⟨c, r, rfl, HR2, HPL⟩, HK2.out⟩
end
end Go.Proofs.YteaincdeoajkeaaGreatDoor.Sb
end
section
/- Package stlb: Put. -/
namespace Go.Proofs.YteaincdeoajkeaaGreatDoor.Sb
open Go.RowKit Ut Hg
set_option maxRecDepth 100000
set_option linter.unusedVariables false
set_option maxHeartbeats 4000000

section
variable {W : World} {g : Nat} {room c : Int} {l : List Rc}
theorem HP.drewN {b : Nat} {t : TypeId} {pre : List Value} {us : List Us} (h : HP W b t pre us) (n : Nat) : HP (W.drewN n) b t pre us := ⟨h.1.of_block rfl, h.2⟩
theorem kq_drewN {T : List Nat} {W' : World} (h : Kq T W W') (n : Nat) : Kq T W (W'.drewN n) := ⟨h.os, h.tape, h.output, h.size, h.block⟩
theorem without_none {x : Rc} {p q : Int} (h : x ∈ withoutL l p q) : ¬ (x.kr = p ∧ x.kp = q) := fun e => by
 have := (List.mem_filter.1 h).2
 rw [is_iff.2 e] at this
 cases this
/-- what is put now -/
theorem Rel.put {us us2 : List Us} {x : Rc} (h : Rel us (withoutL l x.kr x.kp)) (hc : ∀ u ∈ us, u.2 ≤ c) (hp : us2.Perm ((x, c + 1) :: us)) : Rel us2 (withoutL l x.kr x.kp ++ [x]) ∧ ∀ u ∈ us2, u.2 ≤ c + 1 := by
 refine ⟨(h.add x (c + 1) (fun u hu => by have := hc u hu; omega) (fun u hu => without_none (h.mem.2 ⟨u.2, hu⟩))).perm hp.symm, fun u hu => ?_⟩
 rcases List.mem_cons.1 (hp.mem_iff.1 hu) with rfl | hu
 ·exact Int.le_refl _
 ·have := hc u hu; omega

end
end Go.Proofs.YteaincdeoajkeaaGreatDoor.Sb
end
section
/- The document's translations: Get. -/
namespace Go.Proofs.YteaincdeoajkeaaGreatDoor.Sb
open Go.RowKit Ut
set_option maxRecDepth 100000
set_option linter.unusedVariables false
set_option maxHeartbeats 4000000

def getX (o : Option Rc) (l xs : List Rc) (p q : Int) : List Rc := match o with | some x => xs ++ [⟨p, q, x.ep, x.ef, x.er⟩] | none => l
def getL (l : List Rc) (p q : Int) : List Rc := getX (findL l p q) l (withoutL l p q) p q
/-- Get's own blocks: the key, the result, the entry that was found -/
structure GS (w W : World) (p q : Int) (eb : Nat) (e0 e1 e2 : Int) : Prop where
 b : w.heap.size ≤ W.heap.size
 ky : Blk W w.heap.size 48 [.int .i64 p, .int .i64 q]
 rs : Blk W (w.heap.size + 1) 50 (entC (0, 0, 0))
 en : Blk W eb 50 [.int .i64 e0, .int .i64 e1, .int .i64 e2]
 eg : w.heap.size + 1 < eb
theorem GS.more {w W W' : World} {p q : Int} {eb : Nat} {e0 e1 e2 : Int} (h : GS w W p q eb e0 e1 e2) (hb : Below W.heap.size W W') : GS w W' p q eb e0 e1 e2 := ⟨Nat.le_trans h.b hb.size, h.ky.more hb, h.rs.more hb, h.en.more hb, h.eg⟩
theorem GS.set {w W : World} {p q : Int} {eb g : Nat} {e0 e1 e2 : Int} (h : GS w W p q eb e0 e1 e2) (hg : g < w.heap.size) (v : Value) : GS w (W.setCell ⟨g, 0, none⟩ v) p q eb e0 e1 e2 := by
 have he := h.eg
 exact ⟨by simpa [World.setCell] using h.b, h.ky.of_block (Below.heap_setCell _ _ _ _ (by simp; omega)), h.rs.of_block (Below.heap_setCell _ _ _ _ (by simp; omega)), h.en.of_block (Below.heap_setCell _ _ _ _ (by simp; omega)), h.eg⟩
section
variable {g n cap : Nat} {room : Int} {a : Option Addr} {l : List Rc}
end
end Go.Proofs.YteaincdeoajkeaaGreatDoor.Sb
end
section
/- Package stlb: Get. -/
namespace Go.Proofs.YteaincdeoajkeaaGreatDoor.Sb
open Go.RowKit Ut Hg
set_option maxRecDepth 100000
set_option linter.unusedVariables false
set_option maxHeartbeats 4000000

theorem size_entry : (Tryz.prog.info? 50).map (·.size) = some 3 := by kernel_rfl
theorem split_at {us : List Us} {i : Nat} {u : Us} (h : us[i]? = some u) (v : Us) : ∃ r, us.Perm (u :: r) ∧ (us.set i v).Perm (v :: r) := by
 induction us generalizing i with
 | nil => simp at h
 | cons x us ih =>
  cases i with
  | zero =>
   simp only [List.getElem?_cons_zero, Option.some.injEq] at h
   subst h
   exact ⟨us, List.Perm.refl _, List.Perm.refl _⟩
  | succ i =>
   obtain ⟨r, h1, h2⟩ := ih (by simpa using h)
   exact ⟨x :: r, (h1.cons x).trans (List.Perm.swap _ _ _), (h2.cons x).trans (List.Perm.swap _ _ _)⟩
section
variable {W : World} {g : Nat} {room c : Int} {l : List Rc} {us : List Us}
theorem LB.used (h : LB W g 175 (hd3 room c) us) (i : Nat) (u : Us) (hu : us[i]? = some u) (s : Int) : LB (W.setCell ⟨g, 4 + i * 6 + 5, none⟩ (.int .u64 s)) g 175 (hd3 room c) (us.set i (u.1, s)) := by
 obtain ⟨z, h5, hb⟩ := h
 have hil := (List.getElem?_eq_some_iff.1 hu).1
 refine ⟨z, by simpa using h5, ?_⟩
 have h6 := hb.set (4 + i * 6 + 5) (.int .u64 s)
 have e : (hd3 room c ++ .int .i64 (us.length : Nat) :: flatU (us ++ z)).set (4 + i * 6 + 5) (.int .u64 s) = hd3 room c ++ .int .i64 ((us.set i (u.1, s)).length : Nat) :: flatU (us.set i (u.1, s) ++ z) := by
  have e0 : (hd3 room c).length = 3 := rfl
  rw [List.length_set, List.set_append_right _ _ (by omega), show 4 + i * 6 + 5 - (hd3 room c).length = i * 6 + 5 + 1 by omega, List.set_cons_succ, ← List.set_append_left _ _ hil]
  congr 2
  rw [flatU_set _ _ _ (by rw [List.length_append]; omega)]
  have hx : (us ++ z)[i]? = some u := by rw [List.getElem?_append_left hil]; exact hu
  obtain ⟨g0, g1, g2, g3, g4, g5⟩ := flatU_get _ i u hx
  have keep : ∀ (X : List Value) (j : Nat) (v : Value), X[j]? = some v → X.set j v = X := fun X j v hv => by
   apply List.ext_getElem?
   intro m
   rw [List.getElem?_set]
   by_cases hm : j = m
   ·subst hm
    rw [if_pos rfl, if_pos (List.getElem?_eq_some_iff.1 hv).1, hv]
   ·rw [if_neg hm]
  dsimp only
  rw [keep _ _ _ g0, keep _ _ _ g1, keep _ _ _ g2, keep _ _ _ g3, keep _ _ _ g4]
 rw [e] at h6
 exact h6
/-- what is got is used now -/
theorem Rel.used {us2 : List Us} {i : Nat} {u : Us} {p q : Int} (h : Rel us l) (hu : us[i]? = some u) (hi : u.1.is p q = true) (hc : ∀ u ∈ us, u.2 ≤ c) (hp : us2.Perm (us.set i (u.1, c + 1))) : Rel us2 (getL l p q) ∧ ∀ u ∈ us2, u.2 ≤ c + 1 := by
 obtain ⟨r, h1, h2⟩ := split_at hu (u.1, c + 1)
 have hf := h.find_some (List.mem_of_getElem? hu) hi
 obtain ⟨e1, e2⟩ := is_iff.1 hi
 have hr := (h.perm h1).rem
 have hcr : ∀ v ∈ r, v.2 ≤ c := fun v hv => hc v (h1.mem_iff.2 (List.mem_cons_of_mem _ hv))
 have ha := hr.add u.1 (c + 1) (fun v hv => by have := hcr v hv; omega) (fun v hv => without_none (hr.mem.2 ⟨v.2, hv⟩))
 refine ⟨?_, fun v hv => ?_⟩
 ·have e3 : getL l p q = withoutL l u.1.kr u.1.kp ++ [u.1] := by
   unfold getL
   rw [hf, ← e1, ← e2]
   rfl
  rw [e3]
  exact ha.perm (hp.trans h2).symm
 ·rcases List.mem_cons.1 ((hp.trans h2).mem_iff.1 hv) with rfl | hv
  ·exact Int.le_refl _
  ·have := hcr v hv; omega
end
end Go.Proofs.YteaincdeoajkeaaGreatDoor.Sb
end
