/- Several texts in one: Iz Ax Ko Kp Su Kq -/
import Derived.Test.YteaincdeoajkeaaGreatDoorZ24
import Derived.Test.YteaincdeoajkeaaGreatDoorZ30
import Derived.Test.YteaincdeoajkeaaGreatDoorZ16
import Derived.Test.YteaincdeoajkeaaGreatDoorZ41
import Derived.Test.YteaincdeoajkeaaGreatDoorZ34
import Derived.Test.YteaincdeoajkeaaGreatDoorZ05
import Derived.Test.YteaincdeoajkeaaGreatDoorZ09
import Derived.Test.YteaincdeoajkeaaGreatDoorZ28
section
/- Stage 20, plainly: what a walk leans on: it says the same as long as both tables' pages lie there with the same bytes; writes, drops and pages that are there again that leave it. -/
namespace Go.Proofs.YteaincdeoajkeaaGreatDoor.Mm
open Go.RowKit Go.Shelf Ut Oc Vw Wa
set_option linter.unusedVariables false

section
variable {S S' : List Int} {L L' : List Gm.Pl} {p z : Int} {f o i : Nat}
theorem getD_frame (hS : S.length = 2048) (hf : f < 32) (ho : o < 64) : S.getD (64 * f + o) 0 = (Fr.frameL S f).getD o 0 := by
 unfold Fr.frameL
 rw [List.getD_eq_getElem?_getD, List.getD_eq_getElem?_getD, List.getElem?_take, if_pos ho, List.getElem?_drop]
/-- a table's word hangs on its page's bytes -/
theorem word_frame (hS : S.length = 2048) (hS' : S'.length = 2048) (hL : Gm.Okay L) (hL' : Gm.Okay L') (hi : i < 16) (ht : hasT 12 L' p = hasT 12 L p) (hf : hasT 12 L p = true → Fr.frameL S' (frN L' p.toNat) = Fr.frameL S (frN L p.toNat)) : wordT 12 S' L' p i = wordT 12 S L p i := by
 unfold wordT
 rw [ht]
 by_cases h : hasT 12 L p = true
 ·rw [if_pos h, if_pos h]
  have hb := hasT_bd h
  have h' : hasT 12 L' p = true := ht.trans h
  obtain ⟨q, rfl⟩ : ∃ q : Nat, p = q := ⟨p.toNat, by omega⟩
  have hq : q < 8 := by omega
  rw [hasT_in 12 L hq] at h
  rw [hasT_in 12 L' hq] at h'
  obtain ⟨f1, _, e1, _, b1⟩ := ok_frame hL h
  obtain ⟨f2, _, e2, _, b2⟩ := ok_frame hL' h'
  have hf := hf (by rw [hasT_in 12 L hq]; exact h)
  rw [Int.toNat_natCast] at hf ⊢
  rw [e1, e2] at hf
  congr 2
  unfold rB
  apply List.map_congr_left
  intro j hj
  rw [List.mem_range] at hj
  unfold posn
  have e3 : (64 * q + 4 * i + j) / 64 = q := by omega
  rw [e3, e1, e2, getD_frame hS' b2 (by omega), getD_frame hS b1 (by omega), hf]
 ·rw [if_neg h, if_neg h]
/-- a walk hangs on its two tables -/
theorem walk_cong (hS : S.length = 2048) (hS' : S'.length = 2048) (hL : Gm.Okay L) (hL' : Gm.Okay L') (h0 : 0 ≤ z)
  (h1 : hasT 12 L' p = hasT 12 L p) (f1 : hasT 12 L p = true → Fr.frameL S' (frN L' p.toNat) = Fr.frameL S (frN L p.toNat))
  (h2 : hasT 12 L p = true → hasT 12 L' (rootT 12 S L p z) = hasT 12 L (rootT 12 S L p z)) (f2 : hasT 12 L p = true → hasT 12 L (rootT 12 S L p z) = true → Fr.frameL S' (frN L' (rootT 12 S L p z).toNat) = Fr.frameL S (frN L (rootT 12 S L p z).toNat)) : walkF 12 S' L' p z = walkF 12 S L p z := by
 unfold walkF
 by_cases hz : 16384 ≤ z
 ·rw [if_pos hz, if_pos hz]
 rw [if_neg hz, if_neg hz]
 have hn : noneF 12 L' p = noneF 12 L p := by unfold noneF; rw [h1]
 rw [hn]
 unfold st1
 rw [hn]
 by_cases hp : noneF 12 L p = 0
 ·have hpn : ¬ noneF 12 L p ≠ 0 := fun e => e hp
  rw [if_neg hpn, if_neg hpn]
  have ht := none_zero hp
  have hw : rootW 12 S' L' p z = rootW 12 S L p z := word_frame hS hS' hL hL' (by omega) h1 f1
  have hrf : rootF 12 S' L' p z = rootF 12 S L p z := by unfold rootF; rw [hw]
  have hrt : rootT 12 S' L' p z = rootT 12 S L p z := by unfold rootT; rw [hrf, hw]
  unfold st2 st3
  rw [hrf, hrt]
  have hn2 : noneF 12 L' (rootT 12 S L p z) = noneF 12 L (rootT 12 S L p z) := by unfold noneF; rw [h2 ht]
  rw [hn2]
  by_cases hr : rootF 12 S L p z ≠ 0
  ·rw [if_pos hr, if_pos hr]
  ·rw [if_neg hr, if_neg hr]
   by_cases hl : noneF 12 L (rootT 12 S L p z) = 0
   ·have hln : ¬ noneF 12 L (rootT 12 S L p z) ≠ 0 := fun e => e hl
    rw [if_neg hln, if_neg hln]
    have ht2 := none_zero hl
    have hw2 : leafW 12 S' L' p z = leafW 12 S L p z := by
     unfold leafW
     rw [hrt]
     exact word_frame hS hS' hL hL' (by omega) (h2 ht) (f2 ht)
    have hle : leafE 12 S' L' p z = leafE 12 S L p z := by unfold leafE; rw [hw2]
    unfold st4
    rw [hle, hw2, hrt]
   ·rw [if_pos hl, if_pos hl]
 ·rw [if_pos hp, if_pos hp]
/-- all addresses of a page are walked alike -/
theorem walk_page (S : List Int) (L : List Gm.Pl) (p z : Int) (h0 : 0 ≤ z) : walkF 12 S L p z = walkF 12 S L p (64 * (z / 64)) := by
 have e1 : 64 * (z / 64) / 1024 = z / 1024 := by omega
 have e2 : 64 * (z / 64) / 64 % 16 = z / 64 % 16 := by omega
 have e3 : (16384 ≤ 64 * (z / 64)) = (16384 ≤ z) := by rw [eq_iff_iff]; omega
 unfold walkF st2 st3 st4 leafE leafW rootT rootF rootW
 rw [e1, e2]
 simp only [e3]
end

/-- law20's pages: each in a frame of its own -/
theorem lay_frame {L : List Gm.Pl} (h : Lay L) {i : Nat} (hi : i < 12) (ho : Gm.thB (Gm.plN L i) = true) : Gm.plN L i = placeP i ∧ frN L i = 11 - i := by
 rcases h.2 i hi with e | e
 ·rw [e] at ho; exact absurd ho (by decide)
 ·refine ⟨e, ?_⟩
  unfold frN
  rw [e]
  unfold placeP
  dsimp only
  omega
theorem lay_drop {L : List Gm.Pl} (h : Lay L) (p : Int) (hL : Gm.Okay (Gm.drL L p)) : Lay (Gm.drL L p) := by
 refine ⟨hL, fun i hi => ?_⟩
 unfold Gm.drL
 by_cases he : Gm.drE L p = 0
 ·rw [if_pos he]
  by_cases hip : i = p.toNat
  ·subst hip
   exact .inl (Gm.plN_set h.1 _ hi _)
  ·rw [Gm.plN_other L _ i hip]
   exact h.2 i hi
 ·rw [if_neg he]
  exact h.2 i hi
theorem lay_set {L : List Gm.Pl} (h : Lay L) (p : Int) (h0 : 0 ≤ p) (hL : Gm.Okay (Gm.setL L p (placeP p))) : Lay (Gm.setL L p (placeP p)) := by
 refine ⟨hL, fun i hi => ?_⟩
 unfold Gm.setL
 by_cases he : Gm.setE L p (placeP p) = 0
 ·rw [if_pos he]
  by_cases hip : i = p.toNat
  ·subst hip
   rw [Gm.plN_set h.1 _ hi]
   exact .inr (by rw [Int.toNat_of_nonneg h0])
  ·rw [Gm.plN_other L _ i hip]
   exact h.2 i hi
 ·rw [if_neg he]
  exact h.2 i hi
theorem has_th {L : List Gm.Pl} {p : Int} (h : hasT 12 L p = true) : ∃ q : Nat, p = q ∧ q < 8 ∧ Gm.thB (Gm.plN L q) = true := by
 have hb := hasT_bd h
 obtain ⟨q, rfl⟩ : ∃ q : Nat, p = q := ⟨p.toNat, by omega⟩
 refine ⟨q, rfl, by omega, ?_⟩
 rw [hasT_in 12 L (by omega)] at h
 unfold okP at h
 simp at h
 exact h.1

/-- a translation that a walk says: of that page from that root, through these tables, with these rights, to that page -/
structure TrW (S : List Int) (L : List Gm.Pl) (kr kp rt lf r g : Int) : Prop where
 w : walkF 12 S L kr (64 * kp) = ⟨true, r, g, 0, rt, lf⟩
 k0 : 0 ≤ kp
section
variable {S S' : List Int} {L L' : List Gm.Pl} {kr kp rt lf r g : Int}
theorem TrW.tables (h : TrW S L kr kp rt lf r g) : rt = kr ∧ hasT 12 L rt = true ∧ hasT 12 L lf = true ∧ lf = rootT 12 S L kr (64 * kp) := by
 have hs := walk_says 12 S L kr (64 * kp)
 rw [h.w] at hs
 have hl : 0 ≤ lf := by
  by_cases hl : 0 ≤ lf
  ·exact hl
  ·exact absurd rfl (hs.no (show lf < 0 by omega)).1
 obtain ⟨e, _, ht⟩ := hs.root (hs.lr hl)
 have hz : (walkF 12 S L kr (64 * kp)).f = 0 := by rw [h.w]
 obtain ⟨_, _, _, _, _, e4⟩ := walkF_zero hz
 have e5 := congrArg Stp.lf (h.w.symm.trans e4)
 exact ⟨e, ht, (hs.leaf hl).1, e5⟩
theorem TrW.stay (h : TrW S L kr kp rt lf r g) (hS : S.length = 2048) (hS' : S'.length = 2048) (hL : Gm.Okay L) (hL' : Gm.Okay L') (h1 : hasT 12 L' rt = true) (h2 : hasT 12 L' lf = true)
  (f1 : Fr.frameL S' (frN L' rt.toNat) = Fr.frameL S (frN L rt.toNat)) (f2 : Fr.frameL S' (frN L' lf.toNat) = Fr.frameL S (frN L lf.toNat)) : TrW S' L' kr kp rt lf r g := by
 obtain ⟨e, t1, t2, e2⟩ := h.tables
 subst e
 have hk := h.k0
 refine ⟨?_, hk⟩
 rw [walk_cong hS hS' hL hL' (by omega) (h1.trans t1.symm) (fun _ => f1) (fun _ => by rw [← e2]; exact h2.trans t2.symm) (fun _ _ => by rw [← e2]; exact f2)]
 exact h.w
/-- another page is written -/
theorem TrW.write (h : TrW S L kr kp rt lf r g) (hS : S.length = 2048) (hL : Lay L) {j : Nat} (hj : j < 12) (hth : Gm.thB (Gm.plN L j) = true) (hr : rt ≠ j) (hl : lf ≠ j) {xs : List Int} (hx : xs.length = 64) : TrW (Fr.layF S (frN L j) xs) L kr kp rt lf r g := by
 obtain ⟨_, t1, t2, _⟩ := h.tables
 have hfj := (lay_frame hL hj hth).2
 have hf : ∀ q : Int, hasT 12 L q = true → q ≠ j → Fr.frameL (Fr.layF S (frN L j) xs) (frN L q.toNat) = Fr.frameL S (frN L q.toNat) := fun q hq hne => by
  obtain ⟨m, rfl, hm, hmt⟩ := has_th hq
  have hfm := (lay_frame hL (show m < 12 by omega) hmt).2
  rw [Int.toNat_natCast]
  exact Fr.frameL_other hS (by omega) (by omega) hx (by omega)
 exact h.stay hS (Fr.length_layF hS (by omega) hx) hL.1 hL.1 t1 t2 (hf rt t1 hr) (hf lf t2 hl)
theorem TrW.drop (h : TrW S L kr kp rt lf r g) (hS : S.length = 2048) (hL : Gm.Okay L) {p : Int} (hL' : Gm.Okay (Gm.drL L p)) (hr : rt ≠ p) (hl : lf ≠ p) : TrW S (Gm.drL L p) kr kp rt lf r g := by
 obtain ⟨_, t1, t2, _⟩ := h.tables
 have hq : ∀ q : Int, hasT 12 L q = true → q ≠ p → hasT 12 (Gm.drL L p) q = true ∧ frN (Gm.drL L p) q.toNat = frN L q.toNat := fun q hq hne => by
  obtain ⟨m, rfl, hm, hmt⟩ := has_th hq
  have e := Gm.stay_drop (L := L) (k := m) rfl p (fun e => hne e.symm)
  rw [Int.toNat_natCast]
  unfold frN
  rw [hasT_in 12 _ hm, e, ← hasT_in 12 L hm]
  exact ⟨hq, rfl⟩
 obtain ⟨a1, a2⟩ := hq rt t1 hr
 obtain ⟨b1, b2⟩ := hq lf t2 hl
 exact h.stay hS hS hL hL' a1 b1 (by rw [a2]) (by rw [b2])
theorem TrW.set (h : TrW S L kr kp rt lf r g) (hS : S.length = 2048) (hL : Gm.Okay L) {p : Int} {pl : Gm.Pl} (hL' : Gm.Okay (Gm.setL L p pl)) : TrW S (Gm.setL L p pl) kr kp rt lf r g := by
 obtain ⟨_, t1, t2, _⟩ := h.tables
 have hq : ∀ q : Int, hasT 12 L q = true → hasT 12 (Gm.setL L p pl) q = true ∧ frN (Gm.setL L p pl) q.toNat = frN L q.toNat := fun q hq => by
  obtain ⟨m, rfl, hm, hmt⟩ := has_th hq
  have e := Gm.stay_set (L := L) (k := m) rfl hmt p pl
  rw [Int.toNat_natCast]
  unfold frN
  rw [hasT_in 12 _ hm, e, ← hasT_in 12 L hm]
  exact ⟨hq, rfl⟩
 obtain ⟨a1, a2⟩ := hq rt t1
 obtain ⟨b1, b2⟩ := hq lf t2
 exact h.stay hS hS hL hL' a1 b1 (by rw [a2]) (by rw [b2])
/-- what a look by the translation comes to -/
theorem TrW.loc (h : TrW S L kr kp rt lf r g) (us : Bool) (va k : Int) (h0 : 0 ≤ va) (hv : va / 64 = kp) : locF 12 S L true kr us va k = if Pe.alwB true r k us = false then ((0, 0, 0), 6) else (hitF 12 L (g * 64 + va % 64) 1 k, findF 12 L (g * 64 + va % 64) 1 k) := by
 unfold locF
 have e : walkF 12 S L kr va = ⟨true, r, g, 0, rt, lf⟩ := by rw [walk_page S L kr va h0, hv]; exact h.w
 rw [e, if_neg (by decide), if_neg (fun e => e rfl)]
theorem TrW.g0 (h : TrW S L kr kp rt lf r g) : 0 ≤ g ∧ g < 32 := by
 have := walkF_page (n := 12) (S := S) (L := L) (p := kr) (z := 64 * kp) (by rw [h.w])
 rw [h.w] at this
 exact this
/-- what a walk that finds it says -/
theorem trW_of (S : List Int) (L : List Gm.Pl) (kr va : Int) (h0 : 0 ≤ va) (hf : (walkF 12 S L kr va).f = 0) : TrW S L kr (va / 64) (walkF 12 S L kr va).rt (walkF 12 S L kr va).lf (walkF 12 S L kr va).r (walkF 12 S L kr va).g := by
 refine ⟨?_, by omega⟩
 rw [← walk_page S L kr va h0]
 have ho : (walkF 12 S L kr va).o = true := by
  obtain ⟨_, _, _, _, h4, e⟩ := walkF_zero hf
  rw [e]
  show Pe.oF (leafE 12 S L kr va) = true
  unfold Pe.oF
  rw [h4]
  decide
 generalize walkF 12 S L kr va = R at hf ho
 obtain ⟨o, r, g, f, rt, lf⟩ := R
 dsimp only at hf ho
 rw [hf, ho]
end
section
variable {L : List Gm.Pl}
/-- where a byte of a page that is there lies -/
theorem find_there (hL : Lay L) {g off k : Int} (hg : 0 ≤ g) (ho : 0 ≤ off) (ho2 : off < 64) (hth : Gm.thB (Gm.atP L g) = true) :
  findF 12 L (g * 64 + off) 1 k = Gm.alwF (Gm.atP L g) g k ∧ (Gm.alwF (Gm.atP L g) g k = 0 → hitF 12 L (g * 64 + off) 1 k = (g, (Gm.atP L g).1, off)) ∧ (Gm.alwF (Gm.atP L g) g k ≠ 0 → hitF 12 L (g * 64 + off) 1 k = (0, 0, 0)) ∧ g < 12 ∧ Gm.atP L g = placeP g := by
 have hg12 : g < 12 := by
  by_cases h : g < 12
  ·exact h
  ·rw [Gm.atP_no (.inr (by omega))] at hth; exact absurd hth (by decide)
 obtain ⟨q, rfl⟩ : ∃ q : Nat, g = q := ⟨g.toNat, by omega⟩
 have e : Gm.atP L (q : Int) = placeP q := by
  rw [Gm.atP_is (by omega)] at hth ⊢
  exact (lay_frame hL (by omega) hth).1
 have e1 : ((q : Int) * 64 + off) / 64 = q := by omega
 have e2 : ((q : Int) * 64 + off) % 64 = off := by omega
 have hfl : fltF L ((q : Int) * 64 + off) 1 k = Gm.alwF (Gm.atP L q) q k := by
  unfold fltF
  rw [if_pos (by simp [isW, Int.emod_one]), if_neg (by omega), e1]
 have hfr : (Gm.atP L (q : Int)).1 < (12 : Nat) := by
  rw [e]
  unfold placeP
  dsimp only
  omega
 have hff : findF 12 L ((q : Int) * 64 + off) 1 k = Gm.alwF (Gm.atP L q) q k := by
  unfold findF
  rw [hfl, e1]
  by_cases h : Gm.alwF (Gm.atP L q) q k = 0
  ·rw [if_pos h, if_pos hfr, h]
  ·rw [if_neg h]
 refine ⟨hff, fun h => ?_, fun h => ?_, by omega, e⟩
 ·unfold hitF
  rw [hff, if_pos h, e1, e2]
 ·unfold hitF
  rw [hff, if_neg h]
end
end Go.Proofs.YteaincdeoajkeaaGreatDoor.Mm
end
section
/- Package stlb: List: its walk. -/
namespace Go.Proofs.YteaincdeoajkeaaGreatDoor.Sb
open Go.RowKit Ut Hg
set_option maxRecDepth 100000
set_option linter.unusedVariables false
set_option maxHeartbeats 4000000

def six (w : World) (b : Nat) (u : Us) : World := (((((w.setCell ⟨b, 0, none⟩ (.int .i64 u.1.kr)).setCell ⟨b, 1, none⟩ (.int .i64 u.1.kp)).setCell ⟨b, 2, none⟩ (.int .i64 u.1.ep)).setCell ⟨b, 3, none⟩ (.int .i64 u.1.ef)).setCell ⟨b, 4, none⟩ (.int .i64 u.1.er)).setCell ⟨b, 5, none⟩ (.int .u64 u.2)
section
variable {W wr w5 w6 w7 : World} {lb xb g : Nat} {d l : List Rc} {c c' u : Us} {q : Bool} {us us' : List Us} {L L' : List Rc} {v v' : Value} {room k : Int}
theorem six_blk {w : World} {b : Nat} {t : TypeId} (h : Blk w b t (usC c)) (u : Us) : Blk (six w b u) b t (usC u) := (((((h.set 0 (.int .i64 u.1.kr)).set 1 (.int .i64 u.1.kp)).set 2 (.int .i64 u.1.ep)).set 3 (.int .i64 u.1.ef)).set 4 (.int .i64 u.1.er)).set 5 (.int .u64 u.2)
theorem six_kq (w : World) (b : Nat) (u : Us) : Kq [b] w (six w b u) := ((((((Kq.refl [b] w).setCell b 0 _ (.inl (by simp))).setCell b 1 _ (.inl (by simp))).setCell b 2 _ (.inl (by simp))).setCell b 3 _ (.inl (by simp))).setCell b 4 _ (.inl (by simp))).setCell b 5 _ (.inl (by simp))
/-- one more is told: the row grows (w5), its place is made anew (w6), the next is taken out (w7) and stored -/
theorem LS.next (h : LS W wr lb xb d l c true us L v) (ho : OwnT 5 w5 (lb + 1) 52 v' ((d ++ [c.1]).map Rc.l)) (hg : wr.grownBy w5 v.ownBlock) (hn : ∀ p, v'.ownBlock = some p → v.ownBlock = some p ∨ wr.heap.size < p)
  (h6 : Below w5.heap.size w5 w6) (hx6 : Blk w6 w5.heap.size 170 (usC c)) (h7 : HP w7 lb 173 [] us') (hr : Rel us' L') (hL : L = (if q = true then c'.1 :: L' else [])) (hk : Kq [lb] w6 w7) :
  LS W (six w7 w5.heap.size c') lb w5.heap.size (d ++ [c.1]) l c' q us' L' v' := by
 have hl5 : lb < w5.heap.size := Nat.lt_of_lt_of_le h.h.1.lt hg.size
 have hob : ∀ p, v'.ownBlock = some p → p < w5.heap.size ∧ p ≠ lb := fun p hp => by
  obtain ⟨h1, h2⟩ := World.ownsRow.lt ho.1 p hp
  exact ⟨h2, by omega⟩
 have hvb : ∀ p, v.ownBlock = some p → lb < p := fun p hp => (World.ownsRow.lt h.own.1 p hp).1
 have hs := six_kq w7 w5.heap.size c'
 have hB5 : Below W.heap.size W w5 := h.b.grown hg h.b.size (fun p hp => by have := hvb p hp; have := h.lw; omega)
 refine ⟨?_, six_blk (hx6.kq hk (by simp; omega)) c', ⟨h7.1.kq hs (by simp; omega), h7.2⟩, hr, ?_, fun p hp => by have := (hob p hp).1; omega, hl5, h.lw, ?_⟩
 ·refine ownT_kq (ownT_kq (ownT_kq (T := []) ho (Kq.of_below h6) (by simp)) hk (fun p hp => by have := (hob p hp).2; simpa using this)) hs (fun p hp => by have := (hob p hp).1; simp; omega)
 ·rw [← hL, List.append_assoc]
  exact h.e
 ·have h1 : Below W.heap.size W w6 := hB5.trans (h6.mono hB5.size)
  have h2 : Below W.heap.size w6 w7 := hk.under (fun p hp => by simp at hp; subst hp; exact h.lw) h1.size
  have h3 : Below W.heap.size w7 (six w7 w5.heap.size c') := hs.under (fun p hp => by simp at hp; subst hp; exact hB5.size) (Nat.le_trans h1.size h2.size)
  exact (h1.trans h2).trans h3

end
end Go.Proofs.YteaincdeoajkeaaGreatDoor.Sb
end
section
/- Package stlb, whatever its counter of uses says: List: each once, in any order. -/
namespace Go.Proofs.YteaincdeoajkeaaGreatDoor.Sb
open Go.RowKit Ut Hg
set_option maxRecDepth 100000
set_option linter.unusedVariables false
set_option maxHeartbeats 4000000

/-- what first answers, and what is left, told by the list -/
def FirstQ (l : List Rc) (e : Ending) (w' : World) (b : Nat) (t : TypeId) (pre : List Value) : Prop := ∃ (c : Us) (q : Bool) (us : List Us) (L : List Rc), e = .returned (.tuple #[usV c, .bool q]) ∧ HP w' b t pre us ∧ RelQ us L ∧ l.Perm (if q = true then c.1 :: L else [])
section
variable {W : World} {b o g : Nat} {t : TypeId} {pre : List Value} {us : List Us} {l : List Rc} {room c : Int}
theorem firstQ_any (h : HP W b t pre us) (ho : pre.length = o) (hr : RelQ us l) :
  Calls Tryz.prog 88 #[.pointer (some ⟨b, o, none⟩)] W fun e w' => FirstQ l e w' b t pre ∧ Kq [b] W w' := by
 by_cases h0 : us = []
 ·subst h0
  refine (first_no h.1 ho).mono ?_
  rintro e w' ⟨rfl, hb⟩
  have hl : l = [] := List.eq_nil_of_length_eq_zero (by rw [← hr.len]; rfl)
  exact ⟨⟨noU, false, [], l, rfl, ⟨h.1.more hb, h.2⟩, hr, by rw [hl]; exact List.Perm.refl _⟩, Kq.of_below hb⟩
 ·refine (first_yes h ho (List.length_pos_iff.2 h0)).mono ?_
  rintro e w' ⟨⟨c, r, rfl, hh, hp⟩, hk⟩
  obtain ⟨hp, hle⟩ := hp.out
  obtain ⟨o1, _, _, o4⟩ := hr.out hp
  exact ⟨⟨c, true, r, _, rfl, hh.out, o1, o4⟩, hk⟩
/-- where List's loop is: d is told already, L (behind c, if q) is still to come -/
structure LQ (W wr : World) (lb xb : Nat) (d : List Rc) (l : List Rc) (c : Us) (q : Bool) (us : List Us) (L : List Rc) (v : Value) : Prop where
 own : OwnT 5 wr (lb + 1) 52 v (d.map Rc.l)
 x : Blk wr xb 170 (usC c)
 h : HP wr lb 173 [] us
 r : RelQ us L
 e : (d ++ (if q = true then c.1 :: L else [])).Perm l
 ne : ∀ p, v.ownBlock = some p → p ≠ xb
 xg : lb < xb
 lw : W.heap.size ≤ lb
 b : Below W.heap.size W wr
end
section
variable {W wr w5 w6 w7 : World} {lb xb g : Nat} {d l : List Rc} {c c' u : Us} {q : Bool} {us us' : List Us} {L L' : List Rc} {v v' : Value} {room k : Int}
/-- one more is told: the row grows (w5), its place is made anew (w6), the next is taken out (w7) and stored -/
theorem LQ.next (h : LQ W wr lb xb d l c true us L v) (ho : OwnT 5 w5 (lb + 1) 52 v' ((d ++ [c.1]).map Rc.l)) (hg : wr.grownBy w5 v.ownBlock) (hn : ∀ p, v'.ownBlock = some p → v.ownBlock = some p ∨ wr.heap.size < p)
  (h6 : Below w5.heap.size w5 w6) (hx6 : Blk w6 w5.heap.size 170 (usC c)) (h7 : HP w7 lb 173 [] us') (hr : RelQ us' L') (hL : L.Perm (if q = true then c'.1 :: L' else [])) (hk : Kq [lb] w6 w7) :
  LQ W (six w7 w5.heap.size c') lb w5.heap.size (d ++ [c.1]) l c' q us' L' v' := by
 have hl5 : lb < w5.heap.size := Nat.lt_of_lt_of_le h.h.1.lt hg.size
 have hob : ∀ p, v'.ownBlock = some p → p < w5.heap.size ∧ p ≠ lb := fun p hp => by
  obtain ⟨h1, h2⟩ := World.ownsRow.lt ho.1 p hp
  exact ⟨h2, by omega⟩
 have hvb : ∀ p, v.ownBlock = some p → lb < p := fun p hp => (World.ownsRow.lt h.own.1 p hp).1
 have hs := six_kq w7 w5.heap.size c'
 have hB5 : Below W.heap.size W w5 := h.b.grown hg h.b.size (fun p hp => by have := hvb p hp; have := h.lw; omega)
 refine ⟨?_, six_blk (hx6.kq hk (by simp; omega)) c', ⟨h7.1.kq hs (by simp; omega), h7.2⟩, hr, ?_, fun p hp => by have := (hob p hp).1; omega, hl5, h.lw, ?_⟩
 ·refine ownT_kq (ownT_kq (ownT_kq (T := []) ho (Kq.of_below h6) (by simp)) hk (fun p hp => by have := (hob p hp).2; simpa using this)) hs (fun p hp => by have := (hob p hp).1; simp; omega)
 ·rw [List.append_assoc]
  exact ((List.perm_append_left_iff d).2 ((List.Perm.cons c.1 hL).symm)).trans h.e
 ·have h1 : Below W.heap.size W w6 := hB5.trans (h6.mono hB5.size)
  have h2 : Below W.heap.size w6 w7 := hk.under (fun p hp => by simp at hp; subst hp; exact h.lw) h1.size
  have h3 : Below W.heap.size w7 (six w7 w5.heap.size c') := hs.under (fun p hp => by simp at hp; subst hp; exact hB5.size) (Nat.le_trans h1.size h2.size)
  exact (h1.trans h2).trans h3

theorem listQ_any {pre : List Value} (h : HP W g 175 pre us) (hp3 : pre.length = 3) (hrel : RelQ us l) :
  Calls Tryz.prog 49 #[.pointer (some ⟨g, 0, none⟩)] W fun e w' => (∃ a cap, e = .returned (.slice a l.length cap) ∧ Hid (∃ m : List Rc, m.Perm l ∧ RcRow w' a m ∧ (∀ y, a = some y → W.heap.size ≤ y.block) ∧ (a = none → cap = 0))) ∧ Below W.heap.size W w' := by
 have hl5 : l.length ≤ 5 := by rw [← hrel.len]; exact h.1.len
 have HL5 := Lib.hid hl5
 obtain ⟨⟨z, hrb⟩, hheap⟩ := h
 have hgl := hrb.lt
 obtain ⟨X, hX⟩ : ∃ X : List Value, X = .int .i64 (us.length : Nat) :: flatU (us ++ z) := ⟨_, rfl⟩
 have hXl : X.length = 31 := by rw [hX, List.length_cons, length_flatU, hrb.1]
 have HLD : Hid (∀ (ρ : Operand → Value) (oo : Oper), oo.op = .load 173 (.tmp 11) → ρ (.tmp 11) = .pointer (some ⟨g, 3, none⟩) → (execOp ρ oo).run Tryz.prog W = .ok (.value (.agg X.toArray)) W) := Lib.hid fun ρ oo ho hx =>
  exec_load_blk hrb.2 3 173 (.tmp 11) ho hx X (fun j v hj => by rw [← hX, List.getElem?_append_right (by omega), show 3 + j - pre.length = j by omega]; exact hj) _ Tryz.underlying173 rfl (by rw [size_lately, hXl])
 have HAL := alloc_lately W
 obtain ⟨V, hV⟩ : ∃ V, V = (W.alloc (.cells zeroL.toArray 173)).setRow W.heap.size X.toArray := ⟨_, rfl⟩
 have hbV : Below W.heap.size W V := by rw [hV]; exact below_setRow ((Below.refl _ _).alloc (Nat.le_refl _) _) (Nat.le_refl _) _
 have hN0 : Blk (W.alloc (.cells zeroL.toArray 173)) W.heap.size 173 zeroL := Blk.new W _ _
 have hNV : Blk V W.heap.size 173 X := by rw [hV]; exact hN0.row X
 have hHV : HP V W.heap.size 173 [] us := ⟨⟨z, hrb.1, by rw [List.nil_append, ← hX]; exact hNV⟩, hheap⟩
 have HX1 : Hid ((X.toArray).all (·.oneCell') = true) := Lib.hid (by
  rw [hX]
  simp only [List.all_toArray, List.all_cons, Value.oneCell', Bool.true_and]
  exact List.all_eq_true.2 (fun v hv => flatU_one _ v hv))
 have HXL := Lib.hid hXl
 have HV := Lib.hid hV
 have HBV := Lib.hid hbV
 have HN0 := Lib.hid hN0
 have HF := Lib.hid (firstQ_any (o := 0) hHV rfl hrel)
 have HHV := Lib.hid hHV
 clear hl5 hrb hheap hrel hp3 hX hXl hV hbV hN0 hNV hHV
 go_enter Tryz.func49, Tryz.ntmps49
 go_upto_region 4 with fail
 refine wp_region_lit ?_
 refine Great.wpList_readTo rfl (some 9) rfl (.pointer (some ⟨g, 0, none⟩)) (by kernel_rfl) ?_
 refine Great.wpList_readTo rfl (some 10) rfl (.pointer (some ⟨g, 0, none⟩)) (by kernel_rfl) ?_
 refine Great.wpList_readTo rfl (some 11) rfl (.pointer (some ⟨g, 3, none⟩)) (by kernel_rfl) ?_
 refine Great.wpList_readTo rfl (some 12) rfl (.agg X.toArray) (HLD.out _ _ rfl rfl) ?_
 refine Great.wpList_allocTo rfl (some 4) rfl (.pointer (some ⟨W.heap.size, 0, none⟩)) (.cells zeroL.toArray 173) (HAL.out _ _ rfl) ?_
 refine wpList_store_rowTo rfl 173 _ _ rfl rfl W.heap.size X.toArray (by kernel_rfl) (by kernel_rfl) 173 zeroL.toArray HN0.out (by rw [size_lately, List.size_toArray, HXL.out]) (by rw [List.size_toArray, List.size_toArray, HXL.out]; rfl) HX1.out ?_
 simp only [Act.put, List.setIfInBounds_toArray, List.set_cons_succ, List.set_cons_zero]
 rw [← HV.out]
 clear HV HLD HAL HN0 HX1 HXL
 go_upto_region 5 with fail
 go_wp2_with fail
 refine HF.out.mono ?_
 rintro e w1 ⟨⟨c0, q, us1, L1, rfl, hh1, hr1, hl1⟩, hk1⟩
 have hs1 : HP w1 W.heap.size 173 [] us1 := hh1
 obtain ⟨V1, hV1⟩ : ∃ V1, V1 = w1.alloc (.cells #[.int .i64 c0.1.kr, .int .i64 c0.1.kp, .int .i64 c0.1.ep, .int .i64 c0.1.ef, .int .i64 c0.1.er, .int .u64 c0.2] 170) := ⟨_, rfl⟩
 have hbV1 : Below w1.heap.size w1 V1 := by rw [hV1]; exact (Below.refl _ _).alloc (Nat.le_refl _) _
 have hNV1 : Blk V1 w1.heap.size 170 (usC c0) := by rw [hV1]; exact Blk.new w1 _ (usC c0)
 have HS1 : Hid (LQ W V1 W.heap.size w1.heap.size [] l c0 q us1 L1 (.slice none 0 0)) := Lib.hid ⟨OwnT.nil _ _ _ _, hNV1, ⟨hs1.1.more hbV1, hs1.2⟩, hr1, hl1.symm, (fun p hp => by cases hp), hs1.1.lt, Nat.le_refl _,
  (HBV.out.trans (hk1.under (fun p hp => by simp at hp; rw [hp]; exact Nat.le_refl _) HBV.out.size)).trans (hbV1.mono (Nat.le_trans HBV.out.size hk1.size))⟩
 have HV1 := Lib.hid hV1
 clear hh1 hr1 hl1 hk1 hs1 hV1 hbV1 hNV1 HF HHV HBV
 unfold usV
 go_wp2
 rw [← HV1.out]
 clear HV1
 go_loopw [3, 5, 6] (fun v x ok wr => ∃ (d : List Rc) (c : Us) (q : Bool) (us : List Us) (L : List Rc) (a : Option Addr) (cap xb : Nat), v = .slice a d.length cap ∧ x = .pointer (some ⟨xb, 0, none⟩) ∧ ok = .bool q ∧ Hid (LQ W wr W.heap.size xb d l c q us L (.slice a d.length cap))) (fun v _ _ _ => l.length - lenOf v)
 case atStart => exact ⟨[], c0, q, us1, L1, none, 0, w1.heap.size, rfl, rfl, rfl, HS1⟩
 case round =>
  clear HS1
  obtain ⟨d, c, q, us, L, a, cap, xb, rfl, rfl, rfl, HS⟩ := hrel
  cases q
  ·have hd : d.Perm l := by have := HS.out.e; simpa using this
   have hdl := hd.length_eq
   have HDE := Lib.hid hdl
   have HR : Hid (∃ m : List Rc, m.Perm l ∧ RcRow wr a m ∧ (∀ y, a = some y → W.heap.size ≤ y.block) ∧ (a = none → cap = 0)) := Lib.hid (by
    obtain ⟨a', c', e', hr, _, _, hb, _⟩ := RcRow.own HS.out.own
    injection e' with e1 _ _
    subst e1
    refine ⟨d, hd, hr, fun y e => by have := hb y e; omega, fun e => ?_⟩
    rcases HS.out.own.1.2 with ⟨e9, _⟩ | ⟨g9, c9, cur9, e9, _⟩
    ·injection e9
    ·rw [e] at e9
     injection e9 with e9
     cases e9)
   have HB := Lib.hid HS.out.b
   clear HS hd hdl
   go_wp2
   go_ret
   exact ⟨⟨a, cap, congrArg (fun n => Ending.returned (.slice a n cap)) HDE.out, HR⟩, HB.out⟩
  ·have hdl : d.length + 1 ≤ l.length := by have := HS.out.e.length_eq; simp at this; omega
   have HDL := Lib.hid hdl
   obtain ⟨a2, cap2, w5, hrun, ho5, hg5, hn5⟩ := push_own HS.out.own c.1 (by have := HL5.out; omega) (Nat.le_trans (by have := HS.out.h.1.lt; omega) (Nat.le_refl _))
   have hx := HS.out.x
   have k0 := hx.cell (j := 0) rfl
   have k1 := hx.cell (j := 1) rfl
   have k2 := hx.cell (j := 2) rfl
   have k3 := hx.cell (j := 3) rfl
   have k4 := hx.cell (j := 4) rfl
   have kl := hx.lt
   have hx5 : Blk w5 xb 170 (usC c) := hx.kept hg5 (fun e => HS.out.ne xb e.symm rfl)
   have HRUN := Lib.hid hrun
   have HO5 := Lib.hid ho5
   have HG5 := Lib.hid hg5
   have HN5 := Lib.hid hn5
   have HX5 := Lib.hid hx5
   have j0 := hx5.cell (j := 0) rfl
   have j1 := hx5.cell (j := 1) rfl
   have j2 := hx5.cell (j := 2) rfl
   have j3 := hx5.cell (j := 3) rfl
   have j4 := hx5.cell (j := 4) rfl
   have j5 := hx5.cell (j := 5) rfl
   have jl := hx5.lt
   obtain ⟨w6, hw6⟩ : ∃ w6, w6 = w5.alloc (.cells #[.int .i64 c.1.kr, .int .i64 c.1.kp, .int .i64 c.1.ep, .int .i64 c.1.ef, .int .i64 c.1.er, .int .u64 c.2] 170) := ⟨_, rfl⟩
   have hb6 : Below w5.heap.size w5 w6 := by rw [hw6]; exact (Below.refl _ _).alloc (Nat.le_refl _) _
   have hN6 : Blk w6 w5.heap.size 170 (usC c) := by rw [hw6]; exact Blk.new w5 _ (usC c)
   have hlb : ∀ p, (Value.slice a d.length cap).ownBlock = some p → W.heap.size < p := fun p hp => (World.ownsRow.lt HS.out.own.1 p hp).1
   have hh5 : HP w5 W.heap.size 173 [] us := ⟨HS.out.h.1.of_block (hg5.block _ HS.out.h.1.lt (fun e => by have := hlb _ e.symm; omega)), HS.out.h.2⟩
   have HF6 := Lib.hid (firstQ_any (o := 0) (⟨hh5.1.more hb6, hh5.2⟩ : HP w6 W.heap.size 173 [] us) rfl HS.out.r)
   have HW6 := Lib.hid hw6
   have HB6 := Lib.hid hb6
   have HN6 := Lib.hid hN6
   have hne6 : W.heap.size ≠ w5.heap.size := by have := hh5.1.lt; omega
   have HNE6 := Lib.hid hne6
   clear hrun ho5 hg5 hn5 hx hx5 hdl hw6 hb6 hN6 hlb hh5 hne6
   go_wp2_with (refine wpList_append_run rfl _ _ 45 rfl _ _ rfl rfl _ _ HRUN.out ?_)
   rw [← HW6.out]
   clear HW6 HRUN k0 k1 k2 k3 k4 kl j0 j1 j2 j3 j4 j5 jl
   go_wp2_with fail
   refine HF6.out.mono ?_
   rintro e w7 ⟨⟨c2, q2, us2, L2, rfl, hh7, hr7, hl7⟩, hk7⟩
   have HS9 := Lib.hid (HS.out.next HO5.out HG5.out HN5.out HB6.out HN6.out hh7 hr7 hl7 hk7)
   have hx7 := HN6.out.kq hk7 (by simpa using HNE6.out.symm)
   have j0 := hx7.cell (j := 0) rfl
   have j1 := hx7.cell (j := 1) rfl
   have j2 := hx7.cell (j := 2) rfl
   have j3 := hx7.cell (j := 3) rfl
   have j4 := hx7.cell (j := 4) rfl
   have j5 := hx7.cell (j := 5) rfl
   have f0 := hx7.frozen 0
   have f1 := hx7.frozen 1
   have f2 := hx7.frozen 2
   have f3 := hx7.frozen 3
   have f4 := hx7.frozen 4
   have f5 := hx7.frozen 5
   have jl := hx7.lt
   clear hx7 hh7 hr7 hl7 hk7 HF6 HS HO5 HG5 HN5 HB6 HN6 HX5
   unfold usV
   unfold six at HS9
   go_wp2
   go_roundw
   case rel => exact ⟨d ++ [c.1], c2, q2, us2, L2, a2, cap2, w5.heap.size, by rw [List.length_append]; rfl, rfl, rfl, by rw [List.length_append]; exact HS9⟩
   case measure => have := HDL.out; simp [lenOf]; omega
theorem qtList (h : QT W g l) : Calls Tryz.prog 49 #[.pointer (some ⟨g, 0, none⟩)] W fun e w' => (∃ a cap, e = .returned (.slice a l.length cap) ∧ Hid (∃ m : List Rc, m.Perm l ∧ RcRow w' a m ∧ (∀ y, a = some y → W.heap.size ≤ y.block) ∧ (a = none → cap = 0))) ∧ Below W.heap.size W w' := by
 obtain ⟨_, _, ⟨us, h1, h2⟩, _⟩ := h
 exact listQ_any h1 rfl h2
end
end Go.Proofs.YteaincdeoajkeaaGreatDoor.Sb
end
section
/- Stage 20, plainly: rights as bits; what is remembered, and what keeps it right (Inv). -/
namespace Go.Proofs.YteaincdeoajkeaaGreatDoor.Mm
open Go.RowKit Go.Shelf Ut Oc Vw Wa
open Sw (Ln tabL ownP fillS addS withS clrS outS loseB goneS leftS Inv19 KeyU kyS ErW toldS tellB)
open Sb (Rc findL withoutL narL narX hadB Once)
set_option linter.unusedVariables false
set_option maxRecDepth 100000

/-- y has no right that x lacks -/
def SubR (y x : Int) : Prop := ∀ m : Nat, m < 16 → Pe.bitB y m = true → Pe.bitB x m = true
theorem SubR.refl (x : Int) : SubR x x := fun _ _ h => h
theorem SubR.trans {x y z : Int} (h : SubR x y) (k : SubR y z) : SubR x z := fun m hm e => k m hm (h m hm e)
theorem bit_and (n : Int) (c : Nat) (hc : c < 16) : (bits .and .i64 n (c : Int) == 0) = !Pe.bitB n c := by
 rw [Pe.i64_and_low n c hc]
 unfold Pe.bitB
 generalize (n % 16).toNat &&& c = z
 by_cases h : z = 0
 ·subst h; rfl
 ·simp [h]
theorem clr16 : ((List.range 16).all fun n => decide (0 ≤ bits .andNot .i64 (n : Int) 2) && decide (bits .andNot .i64 (n : Int) 2 < 16) && !Pe.bitB (bits .andNot .i64 (n : Int) 2) 2 && (List.range 16).all fun m => (!Pe.bitB (bits .andNot .i64 (n : Int) 2) m || Pe.bitB n m) && (!(m == 1 || m == 4 || m == 8) || (Pe.bitB n m == Pe.bitB (bits .andNot .i64 (n : Int) 2) m))) = true := by decide +kernel
/-- the right to write is taken -/
theorem clr_er {r : Int} (h0 : 0 ≤ r) (h1 : r < 16) : 0 ≤ bits .andNot .i64 r 2 ∧ bits .andNot .i64 r 2 < 16 ∧ Pe.bitB (bits .andNot .i64 r 2) 2 = false ∧ SubR (bits .andNot .i64 r 2) r ∧ ∀ m : Nat, m = 1 ∨ m = 4 ∨ m = 8 → Pe.bitB (bits .andNot .i64 r 2) m = Pe.bitB r m := by
 obtain ⟨n, rfl⟩ : ∃ n : Nat, r = n := ⟨r.toNat, by omega⟩
 have h := (List.all_eq_true.1 clr16) n (List.mem_range.2 (by omega))
 simp only [Bool.and_eq_true, decide_eq_true_eq, Bool.not_eq_true', List.all_eq_true, List.mem_range, Bool.or_eq_true] at h
 refine ⟨h.1.1.1, h.1.1.2, h.1.2, fun m hm e => ?_, fun m hm => ?_⟩
 ·rcases (h.2 m hm).1 with h | h
  ·rw [e] at h; cases h
  ·exact h
 ·have h2 := (h.2 m (by omega)).2
  rcases h2 with h2 | h2
  ·rcases hm with rfl | rfl | rfl <;> simp at h2
  ·exact (beq_iff_eq.1 h2).symm
/-- the rights that a map gives, too: what each kind of access comes to is a, b, c -/
def givS (r : Int) (k : Nat) (f : Int → Int) : Int := match k with
 | 0 => r
 | k + 1 => if f k ≠ 0 then bits .andNot .i64 (givS r k f) (if k = 0 then 4 else if k = 1 then 1 else 2) else givS r k f
def giv (r : Int) (f : Int → Int) : Int := givS r 3 f
theorem giv_eq (r : Int) (f : Int → Int) : giv r f = (fun a b c : Bool => let r0 := if a then bits .andNot .i64 r 4 else r; let r1 := if b then bits .andNot .i64 r0 1 else r0; if c then bits .andNot .i64 r1 2 else r1) (decide (f 0 ≠ 0)) (decide (f 1 ≠ 0)) (decide (f 2 ≠ 0)) := by
 unfold giv givS givS givS givS
 simp only [decide_eq_true_eq]
 rfl
theorem giv16 : ((List.range 16).all fun n => [true, false].all fun a => [true, false].all fun b => [true, false].all fun c =>
  let g := (fun a b c : Bool => let r0 := if a then bits .andNot .i64 (n : Int) 4 else (n : Int); let r1 := if b then bits .andNot .i64 r0 1 else r0; if c then bits .andNot .i64 r1 2 else r1) a b c
  decide (0 ≤ g) && decide (g < 16) && (!a || !Pe.bitB g 4) && (!b || !Pe.bitB g 1) && (!c || !Pe.bitB g 2) && ((List.range 16).all fun m => !Pe.bitB g m || Pe.bitB n m) && (a || (Pe.bitB g 4 == Pe.bitB n 4)) && (b || (Pe.bitB g 1 == Pe.bitB n 1)) && (c || (Pe.bitB g 2 == Pe.bitB n 2)) && (Pe.bitB g 8 == Pe.bitB n 8)) = true := by decide +kernel
theorem giv_er {r : Int} (f : Int → Int) (h0 : 0 ≤ r) (h1 : r < 16) : 0 ≤ giv r f ∧ giv r f < 16 ∧ SubR (giv r f) r ∧ (∀ k : Int, 0 ≤ k → k < 3 → Pe.bitB (giv r f) (Pe.kindN k) = true → f k = 0) ∧ (f 1 = 0 → Pe.bitB (giv r f) 1 = Pe.bitB r 1) ∧ Pe.bitB (giv r f) 8 = Pe.bitB r 8 := by
 obtain ⟨n, rfl⟩ : ∃ n : Nat, r = n := ⟨r.toNat, by omega⟩
 rw [giv_eq]
 have ha : ∀ z : Int, decide (z ≠ 0) ∈ [true, false] := fun z => by cases decide (z ≠ 0) <;> simp
 have h := (List.all_eq_true.1 ((List.all_eq_true.1 ((List.all_eq_true.1 ((List.all_eq_true.1 giv16) n (List.mem_range.2 (by omega)))) _ (ha (f 0)))) _ (ha (f 1)))) _ (ha (f 2))
 dsimp only at h ⊢
 generalize (if decide (f 2 ≠ 0) = true then bits .andNot .i64 (if decide (f 1 ≠ 0) = true then bits .andNot .i64 (if decide (f 0 ≠ 0) = true then bits .andNot .i64 (n : Int) 4 else (n : Int)) 1 else if decide (f 0 ≠ 0) = true then bits .andNot .i64 (n : Int) 4 else (n : Int)) 2 else if decide (f 1 ≠ 0) = true then bits .andNot .i64 (if decide (f 0 ≠ 0) = true then bits .andNot .i64 (n : Int) 4 else (n : Int)) 1 else if decide (f 0 ≠ 0) = true then bits .andNot .i64 (n : Int) 4 else (n : Int)) = g at h ⊢
 simp only [Bool.and_eq_true, decide_eq_true_eq, Bool.not_eq_true', List.all_eq_true, List.mem_range, Bool.or_eq_true, decide_eq_false_iff_not, ne_eq, Decidable.not_not, beq_iff_eq] at h
 obtain ⟨⟨⟨⟨⟨⟨⟨⟨⟨a0, a1⟩, b4⟩, b1⟩, b2⟩, sb⟩, c4⟩, c1⟩, c2⟩, c8⟩ := h
 refine ⟨a0, a1, fun m hm e => ?_, fun k k0 k3 e => ?_, fun h => ?_, c8⟩
 ·rcases sb m hm with h | h
  ·rw [e] at h; cases h
  ·exact h
 ·rcases (show k = 0 ∨ k = 1 ∨ k = 2 by omega) with rfl | rfl | rfl
  ·rcases b4 with h | h
   ·exact h
   ·rw [show Pe.kindN 0 = 4 from rfl, h] at e; cases e
  ·rcases b1 with h | h
   ·exact h
   ·rw [show Pe.kindN 1 = 1 from rfl, h] at e; cases e
  ·rcases b2 with h | h
   ·exact h
   ·rw [show Pe.kindN 2 = 2 from rfl, h] at e; cases e
 ·rcases c1 with h2 | h2
  ·exact absurd h h2
  ·exact h2

/-- a translation that a walk says, with rights of what it says -/
def Tr (S : List Int) (L : List Gm.Pl) (x : Ln) : Prop := ∃ r, TrW S L x.kr x.kp x.rt x.lf r x.ep ∧ SubR x.er r
/-- .. that lies where the map says, with no right that the map lacks -/
structure Pg (L : List Gm.Pl) (ep ef er : Int) : Prop where
 th : Gm.thB (Gm.atP L ep) = true
 fr : (Gm.atP L ep).1 = ef
 al : ∀ k : Int, 0 ≤ k → k < 3 → Pe.bitB er (Pe.kindN k) = true → Gm.alwF (Gm.atP L ep) ep k = 0
/-- the shadow's l, the Tlb's q: of pages of E, which were dropped, nothing is said; those of F were written -/
structure Inv (S : List Int) (L : List Gm.Pl) (E F : Int → Bool) (l : List Ln) (q : List Rc) : Prop where
 i19 : Inv19 l
 er : ∀ x ∈ l, 0 ≤ x.er ∧ x.er < 16
 own : ∀ x ∈ l, ownP x.rt = true ∧ ownP x.lf = true
 tr : ∀ x ∈ l, E x.rt = false → E x.lf = false → F x.rt = false → F x.lf = false → Tr S L x
 pg : ∀ x ∈ l, E x.ep = false → Pg L x.ep x.ef x.er
 tl : ∀ y ∈ q, ∃ x ∈ l, x.kr = y.kr ∧ x.kp = y.kp ∧ x.ep = y.ep ∧ x.ef = y.ef ∧ SubR y.er x.er ∧ 0 ≤ y.er ∧ y.er < 16
def noE : Int → Bool := fun _ => false
/-- what the view tells -/
def dF (D : List Bool) : Int → Bool := fun p => decide (0 ≤ p) && D.getD p.toNat false
/-- some are forgotten: of the Tlb, all that the shadow has no more -/
structure Forg (l : List Ln) (q : List Rc) (l' : List Ln) (q' : List Rc) : Prop where
 fl : ∃ f : Ln → Bool, l' = l.filter f
 fq : ∀ y ∈ q', y ∈ q
 fk : ∀ y ∈ q', ∀ x ∈ l, x.kr = y.kr → x.kp = y.kp → x ∈ l'
section
variable {S S' : List Int} {L L' : List Gm.Pl} {E E' F F' : Int → Bool} {l l' l'' : List Ln} {q q' q'' : List Rc}
theorem Forg.refl (l : List Ln) (q : List Rc) : Forg l q l q := ⟨⟨fun _ => true, (List.filter_eq_self.2 (fun _ _ => rfl)).symm⟩, fun y h => h, fun y h x hx _ _ => hx⟩
theorem Forg.mem (h : Forg l q l' q') {x : Ln} (hx : x ∈ l') : x ∈ l := by
 obtain ⟨f, rfl⟩ := h.fl
 exact (List.mem_filter.1 hx).1
theorem Forg.trans (h : Forg l q l' q') (k : Forg l' q' l'' q'') : Forg l q l'' q'' := by
 refine ⟨?_, fun y hy => h.fq y (k.fq y hy), fun y hy x hx e1 e2 => k.fk y hy x (h.fk y (k.fq y hy) x hx e1 e2) e1 e2⟩
 obtain ⟨f, e⟩ := h.fl
 obtain ⟨g, e2⟩ := k.fl
 refine ⟨fun x => f x && g x, ?_⟩
 rw [e2, e, List.filter_filter]
 congr 1
 funext x
 exact Bool.and_comm _ _
theorem Inv.forg (h : Inv S L E F l q) (k : Forg l q l' q') : Inv S L E F l' q' := by
 refine ⟨?_, fun x hx => h.er x (k.mem hx), fun x hx => h.own x (k.mem hx), fun x hx => h.tr x (k.mem hx), fun x hx => h.pg x (k.mem hx), fun y hy => ?_⟩
 ·obtain ⟨f, rfl⟩ := k.fl
  exact h.i19.filter f
 ·obtain ⟨x, hx, e1, e2, e3⟩ := h.tl y (k.fq y hy)
  exact ⟨x, k.fk y hy x hx e1 e2, e1, e2, e3⟩
theorem Inv.clean (h : Inv S L E F l q) (hF : ∀ x ∈ l, F' x.rt = false → F' x.lf = false → F x.rt = false ∧ F x.lf = false) : Inv S L E F' l q :=
 ⟨h.i19, h.er, h.own, fun x hx e1 e2 f1 f2 => h.tr x hx e1 e2 (hF x hx f1 f2).1 (hF x hx f1 f2).2, h.pg, h.tl⟩
theorem Inv.lift (h : Inv S L E F l q) (hE : ∀ x ∈ l, E x.rt = false ∧ E x.lf = false ∧ E x.ep = false) : Inv S L E' F l q :=
 ⟨h.i19, h.er, h.own, fun x hx _ _ => h.tr x hx (hE x hx).1 (hE x hx).2.1, fun x hx _ => h.pg x hx (hE x hx).2.2, h.tl⟩
theorem Inv.nil : Inv S L E F [] [] := ⟨Inv19.nil, (fun x hx => by cases hx), (fun x hx => by cases hx), (fun x hx => by cases hx), (fun x hx => by cases hx), fun y hy => by cases hy⟩
theorem Inv.erW (h : Inv S L E F l q) : ErW l := fun x hx => by have := h.er x hx; omega
/-- another page is written, and that is known -/
theorem Inv.write (h : Inv S L E F l q) (hS : S.length = 2048) (hL : Lay L) {j : Nat} (hj : j < 12) (hth : Gm.thB (Gm.plN L j) = true) {xs : List Int} (hx : xs.length = 64) (hF : ∀ p, F p = true → F' p = true) (hFj : F' j = true) : Inv (Fr.layF S (frN L j) xs) L E F' l q := by
 refine ⟨h.i19, h.er, h.own, fun x hx e1 e2 f1 f2 => ?_, h.pg, h.tl⟩
 have hn : ∀ p, F' p = false → F p = false := fun p hp => by
  cases hq : F p with
  | false => rfl
  | true => rw [hF p hq] at hp; cases hp
 obtain ⟨r, h1, h2⟩ := h.tr x hx e1 e2 (hn _ f1) (hn _ f2)
 exact ⟨r, h1.write hS hL hj hth (fun e => by rw [e, hFj] at f1; cases f1) (fun e => by rw [e, hFj] at f2; cases f2) ‹_›, h2⟩
theorem Pg.congr {ep ef er : Int} (h : Pg L ep ef er) (e : Gm.atP L' ep = Gm.atP L ep) : Pg L' ep ef er := ⟨by rw [e]; exact h.th, by rw [e]; exact h.fr, fun k k0 k1 hb => by rw [e]; exact h.al k k0 k1 hb⟩
theorem at_drop (L : List Gm.Pl) (p k : Int) (hL : Gm.Okay L) (h : k ≠ p) : Gm.atP (Gm.drL L p) k = Gm.atP L k := by
 unfold Gm.drL
 by_cases he : Gm.drE L p = 0
 ·rw [if_pos he]
  have hp : 0 ≤ p := by
   unfold Gm.drE at he
   by_cases h2 : 0 ≤ p ∧ p < 12
   ·exact h2.1
   ·rw [if_neg h2] at he; exact absurd he (by decide)
  unfold Gm.atP
  by_cases h2 : 0 ≤ k ∧ k < 12
  ·rw [if_pos h2, if_pos h2]
   exact Gm.plN_other L p.toNat k.toNat (by omega) _
  ·rw [if_neg h2, if_neg h2]
 ·rw [if_neg he]
theorem at_set (L : List Gm.Pl) (p k : Int) (pl : Gm.Pl) (h : Gm.thB (Gm.atP L k) = true) : Gm.atP (Gm.setL L p pl) k = Gm.atP L k := by
 unfold Gm.setL
 by_cases he : Gm.setE L p pl = 0
 ·rw [if_pos he]
  have hp : 0 ≤ p ∧ p < 12 ∧ Gm.thB (Gm.plN L p.toNat) ≠ true := by
   unfold Gm.setE at he
   by_cases h2 : 0 ≤ p ∧ p < 12
   ·rw [if_pos h2] at he
    by_cases h3 : Gm.okB pl = true
    ·rw [if_pos h3] at he
     by_cases h4 : Gm.thB (Gm.plN L p.toNat) = true
     ·rw [if_pos h4] at he; exact absurd he (by decide)
     ·exact ⟨h2.1, h2.2, h4⟩
    ·rw [if_neg h3] at he; exact absurd he (by decide)
   ·rw [if_neg h2] at he; exact absurd he (by decide)
  unfold Gm.atP at h ⊢
  by_cases h2 : 0 ≤ k ∧ k < 12
  ·rw [if_pos h2] at h ⊢
   rw [if_pos h2]
   exact Gm.plN_other L p.toNat k.toNat (fun e => hp.2.2 (by rw [← e]; exact h)) _
  ·rw [if_neg h2, if_neg h2]
 ·rw [if_neg he]
theorem Inv.drop (h : Inv S L noE F l q) (hS : S.length = 2048) (hL : Gm.Okay L) (p : Int) (hL' : Gm.Okay (Gm.drL L p)) : Inv S (Gm.drL L p) (fun k => k == p) F l q := by
 refine ⟨h.i19, h.er, h.own, fun x hx e1 e2 f1 f2 => ?_, fun x hx e => (h.pg x hx rfl).congr (at_drop L p _ hL (by simpa using e)), h.tl⟩
 obtain ⟨r, h1, h2⟩ := h.tr x hx rfl rfl f1 f2
 exact ⟨r, h1.drop hS hL hL' (by simpa using e1) (by simpa using e2), h2⟩
theorem Inv.set (h : Inv S L noE F l q) (hS : S.length = 2048) (hL : Gm.Okay L) (p : Int) (pl : Gm.Pl) (hL' : Gm.Okay (Gm.setL L p pl)) : Inv S (Gm.setL L p pl) noE F l q := by
 refine ⟨h.i19, h.er, h.own, fun x hx e1 e2 f1 f2 => ?_, fun x hx e => (h.pg x hx rfl).congr (at_set L p _ pl (h.pg x hx rfl).th), h.tl⟩
 obtain ⟨r, h1, h2⟩ := h.tr x hx rfl rfl f1 f2
 exact ⟨r, h1.set hS hL hL', h2⟩
/-- what is remembered lies where the map says -/
theorem alw_bits {L : List Gm.Pl} {ep ef er : Int} (hL : Lay L) (h : Pg L ep ef er) : ((bits .and .i64 er 2 == 0) = false → (bits .and .i64 (Gm.atP L ep).2 2 == 0) = false) ∧ ((bits .and .i64 er 1 == 0) = false → (bits .and .i64 (Gm.atP L ep).2 1 == 0) = false) ∧ ((bits .and .i64 er 4 == 0) = false → ep < 8) := by
 have hbd : 0 ≤ ep ∧ ep < 12 := by
  by_cases h2 : 0 ≤ ep ∧ ep < 12
  ·exact h2
  ·have := h.th
   rw [Gm.atP_no (by omega)] at this
   exact absurd this (by decide)
 obtain ⟨j, rfl⟩ : ∃ j : Nat, ep = j := ⟨ep.toNat, by omega⟩
 have hpl : Gm.atP L (j : Int) = placeP j := by
  have := h.th
  rw [Gm.atP_is (by omega)] at this ⊢
  exact (lay_frame hL (by omega) this).1
 have hbit : ∀ c : Nat, c < 16 → (bits .and .i64 er (c : Int) == 0) = false → Pe.bitB er c = true := fun c hc e => by
  rw [bit_and er c hc] at e
  simpa using e
 have hal : ∀ k : Int, Gm.alwF (Gm.atP L (j : Int)) j k = 0 → Gm.mayB (Gm.atP L (j : Int)) j k = true := fun k h0 => by
  unfold Gm.alwF at h0
  rw [if_pos h.th] at h0
  by_cases hm : Gm.mayB (Gm.atP L (j : Int)) j k = true
  ·exact hm
  ·rw [if_neg hm] at h0; exact absurd h0 (by decide)
 refine ⟨fun e => ?_, fun e => ?_, fun e => ?_⟩
 ·have hm := hal 2 (h.al 2 (by decide) (by decide) (hbit 2 (by decide) e))
  rw [hpl] at hm ⊢
  unfold Gm.mayB placeP at hm
  simp at hm
  unfold placeP
  dsimp only
  rw [show (3 : Int) - 2 * ((j : Int) / 9) = 3 by omega]
  decide
 ·rw [hpl]
  unfold placeP
  dsimp only
  rcases (show (j : Int) / 9 = 0 ∨ (j : Int) / 9 = 1 by omega) with h9 | h9 <;> rw [h9] <;> decide
 ·have hm := hal 0 (h.al 0 (by decide) (by decide) (hbit 4 (by decide) e))
  unfold Gm.mayB at hm
  simpa using hm
theorem Inv.held (h : Inv S L noE F l q) (hL : Lay L) : HeldP L (tabL l) (l.map Ln.kept ++ q.map Rc.l) := fun z hz => by
 have hbit : ∀ (er : Int) (c : Nat), c < 16 → (bits .and .i64 er (c : Int) == 0) = false → Pe.bitB er c = true := fun er c hc e => by
  rw [bit_and er c hc] at e
  simpa using e
 have key : ∀ x ∈ l, ∀ er : Int, SubR er x.er → ((bits .and .i64 er 2 == 0) = false → (bits .and .i64 (Gm.atP L x.ep).2 2 == 0) = false ∧ tabL l x.ep = false) ∧ ((bits .and .i64 er 1 == 0) = false → (bits .and .i64 (Gm.atP L x.ep).2 1 == 0) = false) ∧ ((bits .and .i64 er 4 == 0) = false → x.ep < 8) := fun x hx er hs => by
  have hp := h.pg x hx rfl
  have hp2 : Pg L x.ep x.ef er := ⟨hp.th, hp.fr, fun k k0 k1 hb => hp.al k k0 k1 (hs _ (Pe.kind_lt k) hb)⟩
  obtain ⟨a1, a2, a3⟩ := alw_bits hL hp2
  refine ⟨fun e => ⟨a1 e, ?_⟩, a2, a3⟩
  cases ht : tabL l x.ep with
  | false => rfl
  | true =>
   have h0 := h.i19.p x hx ht
   have h1 := hs 2 (by decide) (hbit er 2 (by decide) e)
   have h2 := bit_and x.er 2 (by decide)
   rw [h1] at h2
   simp at h2
   exact absurd h0 h2
 rcases List.mem_append.1 hz with hz | hz
 ·obtain ⟨x, hx, rfl⟩ := List.mem_map.1 hz
  have hp := h.pg x hx rfl
  obtain ⟨a1, a2, a3⟩ := key x hx x.er (SubR.refl _)
  exact ⟨_, _, _, _, _, rfl, hp.th, hp.fr, a1, a2, a3⟩
 ·obtain ⟨y, hy, rfl⟩ := List.mem_map.1 hz
  obtain ⟨x, hx, e1, e2, e3, e4, hs, _⟩ := h.tl y hy
  have hp := h.pg x hx rfl
  obtain ⟨a1, a2, a3⟩ := key x hx y.er hs
  rw [e3] at hp a1 a2 a3
  rw [e4] at hp
  exact ⟨_, _, _, _, _, rfl, hp.th, hp.fr, a1, a2, a3⟩
end
end Go.Proofs.YteaincdeoajkeaaGreatDoor.Mm
end
section
/- Drawn regions whose invariant looks at which operations are done and at what they yielded: blocks made in them, whose numbers hang on the order drawn, calls that write, stores in the middle. Serves all packages. -/
namespace Go.Proofs.YteaincdeoajkeaaGreatDoor.Ut
open Go.RowKit
set_option linter.unusedVariables false

section
variable {P : Program} {ops : Array Oper} {Q : Exit → Act → World → Prop} {T : (Nat → Value) → Array Value} {d : List Deferred} {R : Nat → Value → Prop} {WI : (Nat → Bool) → (Nat → Value) → World → Prop}
/-- what is asked of operation o, number i -/
def StepX (P : Program) (ops : Array Oper) (Q : Exit → Act → World → Prop) (T : (Nat → Value) → Array Value) (d : List Deferred) (R : Nat → Value → Prop) (WI : (Nat → Bool) → (Nat → Value) → World → Prop) (i : Nat) (o : Oper) : Prop :=
 ∀ (L : Nat → Bool) (x : Nat → Value) (w : World), L i = false → Closed ops L → WI L x w → (∀ j ∈ depsOf o, L j = true ∧ R j (x j)) → ∀ K : Act → World → Prop, (∀ v w' tm, tm = T (upd x i v) → R i v → WI (fun j => if j = i then true else L j) (upd x i v) w' → K { tmps := tm, defers := d } w') →
  if Region.wanted o (yielded ops (T x)) = true then Oper.wp P o { tmps := T x, defers := d } w K Q else K (Act.put { tmps := T x, defers := d } o.dst undef) w
/-- .. of the last one -/
def LastX (P : Program) (ops : Array Oper) (Q : Exit → Act → World → Prop) (T : (Nat → Value) → Array Value) (d : List Deferred) (R : Nat → Value → Prop) (WI : (Nat → Bool) → (Nat → Value) → World → Prop) (i : Nat) (o : Oper) : Prop :=
 ∀ (L : Nat → Bool) (x : Nat → Value) (w : World), L i = false → (∀ j, j < i → L j = true) → WI L x w → (∀ j, j < i → R j (x j)) → ∀ K : Act → World → Prop, (∀ a' w', Q .normal a' w' → K a' w') →
  if Region.wanted o (yielded ops (T x)) = true then Oper.wp P o { tmps := T x, defers := d } w K Q else K (Act.put { tmps := T x, defers := d } o.dst undef) w
/-- the operations from number k on -/
def StepsX (P : Program) (ops : Array Oper) (Q : Exit → Act → World → Prop) (T : (Nat → Value) → Array Value) (d : List Deferred) (R : Nat → Value → Prop) (WI : (Nat → Bool) → (Nat → Value) → World → Prop) (k : Nat) (l : List Oper) : Prop :=
 ∀ j o, l[j]? = some o → if j + 1 = l.length then LastX P ops Q T d R WI (k + j) o else StepX P ops Q T d R WI (k + j) o
theorem x_steps_last {k : Nat} {o : Oper} (h : LastX P ops Q T d R WI k o) : StepsX P ops Q T d R WI k [o] := fun j o' hj => by
 cases j with
 | zero => simp at hj; subst hj; simpa using h
 | succ j => simp at hj
theorem x_steps_cons {k : Nat} {o o' : Oper} {l : List Oper} (h : StepX P ops Q T d R WI k o) (hs : StepsX P ops Q T d R WI (k + 1) (o' :: l)) : StepsX P ops Q T d R WI k (o :: o' :: l) := fun j p hj => by
 cases j with
 | zero =>
  simp at hj
  subst hj
  simpa using h
 | succ j =>
  have := hs j p (by simpa using hj)
  simp only [List.length_cons] at this ⊢
  have e : k + (j + 1) = k + 1 + j := by omega
  rw [e]
  by_cases hl : j + 1 = l.length + 1
  ·rw [if_pos (by omega)]; rwa [if_pos hl] at this
  ·rw [if_neg (by omega)]; rwa [if_neg hl] at this
theorem wpAny_x (hok : goodOrder ops = true) (hs : StepsX P ops Q T d R WI 0 ops.toList) :
  ∀ (fuel : Nat) (L : Array Bool) (x : Nat → Value) (w : World), L.size = ops.size → L.toList.count false ≤ fuel → L.getD (ops.size - 1) true = false →
   (∀ k o, ops[k]? = some o → L.getD k true = true → ∀ j ∈ depsOf o, L.getD j true = true) → WI (fun j => L.getD j true) x w → (∀ j, j < ops.size → L.getD j true = true → R j (x j)) →
   wpAny P .any ops Q fuel L { tmps := T x, defers := d } w := by
 unfold goodOrder at hok
 simp only [Bool.and_eq_true, List.all_eq_true, List.mem_range, List.any_eq_true, decide_eq_true_eq] at hok
 obtain ⟨ho1, ho2⟩ := hok
 have hdep : ∀ k o, ops[k]? = some o → ∀ j ∈ depsOf o, j < k := fun k o hk j hj => by
  have hlt : k < ops.size := (Array.getElem?_eq_some_iff.1 hk).1
  have := ho1 k hlt
  simp only [hk, Option.map_some, Option.getD_some, List.all_eq_true, decide_eq_true_eq] at this
  exact this j hj
 have hnext : ∀ j, j < ops.size - 1 → ∃ k o, ops[k]? = some o ∧ j < k ∧ j ∈ depsOf o := fun j hj => by
  obtain ⟨k, hk, hjk, hc⟩ := ho2 j hj
  refine ⟨k, ops[k], by simp [hk], hjk, ?_⟩
  simpa [hk] using hc
 intro fuel
 induction fuel with
 | zero =>
  intro L x w hsz hc hlast _ _ _
  exfalso
  have h2 : false ∈ L.toList := by
   have hlt : ops.size - 1 < L.size := by
    rcases Nat.lt_or_ge (ops.size - 1) L.size with h | h
    ·exact h
    ·rw [Array.getD, dif_neg (by omega)] at hlast; cases hlast
   rw [Array.getD, dif_pos hlt] at hlast
   rw [← hlast]; exact Array.mem_toList_iff.2 (Array.getElem_mem hlt)
  have := List.count_pos_iff.2 h2
  omega
 | succ fuel ih =>
  intro L x w hsz hc hlast hcl hw hR
  have hlt : ops.size - 1 < ops.size := by
   rcases Nat.lt_or_ge (ops.size - 1) L.size with h | h
   ·omega
   ·rw [Array.getD, dif_neg (by omega)] at hlast; cases hlast
  have hready : ∀ i, i ∈ Region.ready .any ops L ↔ ∃ o, ops[i]? = some o ∧ L.getD i true = false ∧ ∀ j ∈ depsOf o, L.getD j true = true := fun i => by
   unfold Region.ready
   simp only [List.mem_filter, List.mem_range, Bool.and_eq_true, Bool.not_eq_true']
   constructor
   ·rintro ⟨hi, hn, hd⟩
    refine ⟨ops[i], by simp [hi], hn, fun j hj => ?_⟩
    have hj' := hdep i ops[i] (by simp [hi]) j hj
    simp only [depsOf, List.mem_map, List.mem_filter, Array.mem_toList_iff] at hj
    obtain ⟨e, ⟨he, hb⟩, rfl⟩ := hj
    simp only [Array.getElem?_eq_getElem hi, Option.map_some, Option.getD_some, Array.all_eq_true'] at hd
    have := hd e he
    simp only [hb, Bool.not_true, Bool.false_or] at this
    rw [Array.getD, dif_pos (by omega)] at this ⊢
    exact this
   ·rintro ⟨o, ho, hn, hd⟩
    have hi : i < ops.size := (Array.getElem?_eq_some_iff.1 ho).1
    refine ⟨hi, hn, ?_⟩
    simp only [ho, Option.map_some, Option.getD_some, Array.all_eq_true']
    intro e he
    cases hb : Region.binds .any e with
    | false => rfl
    | true =>
     have hmem : e.on ∈ depsOf o := by
      simp only [depsOf, List.mem_map, List.mem_filter, Array.mem_toList_iff]
      exact ⟨e, ⟨he, hb⟩, rfl⟩
     have h1 := hd _ hmem
     have h2 := hdep i o ho _ hmem
     simp only [Bool.not_true, Bool.false_or]
     rw [Array.getD, dif_pos (by omega)] at h1 ⊢
     exact h1
  refine ⟨fun h0 => ?_, fun i hi => ?_⟩
  ·-- the least one that is not listed may come up
   exfalso
   have key : ∀ i, i < ops.size → L.getD i true = true := by
    intro i
    induction i using Nat.strongRecOn with
    | _ i ihi =>
     intro hi
     cases hLi : L.getD i true with
     | true => rfl
     | false =>
      have : i ∈ Region.ready .any ops L := (hready i).2 ⟨ops[i], by simp [hi], hLi, fun j hj => by
       have hj' := hdep i ops[i] (by simp [hi]) j hj
       exact ihi j hj' (by omega)⟩
      rw [h0] at this; cases this
   rw [key _ hlt] at hlast; cases hlast
  ·obtain ⟨o, ho, hn, hd⟩ := (hready i).1 hi
   have hil : i < ops.size := (Array.getElem?_eq_some_iff.1 ho).1
   have hstep := hs i o (by simpa using ho)
   simp only [Array.length_toList, Nat.zero_add] at hstep
   by_cases hlst : i + 1 = ops.size
   ·rw [if_pos hlst] at hstep
    obtain rfl : i = ops.size - 1 := by omega
    have hall : ∀ m j, ops.size - 1 - j = m → j < ops.size - 1 → L.getD j true = true := by
     intro m
     induction m using Nat.strongRecOn with
     | _ m ihm =>
      intro j hjm hj
      obtain ⟨k, p, hk, hjk, hmem⟩ := hnext j hj
      have hkl : k < ops.size := (Array.getElem?_eq_some_iff.1 hk).1
      by_cases hkl' : k = ops.size - 1
      ·subst hkl'
       rw [ho] at hk; cases hk
       exact hd j hmem
      ·exact hcl k p hk (ihm (ops.size - 1 - k) (by omega) k rfl (by omega)) j hmem
    refine wpOp_step ho fun K hK => hstep (fun j => L.getD j true) x w hn (fun j hj => hall _ j rfl hj) hw (fun j hj => hR j (by omega) (hall _ j rfl hj)) K fun a' w' hq => hK _ _ ?_
    refine wpAny_done ?_ hq _
    unfold Region.ready
    rw [List.filter_eq_nil_iff]
    intro j hj
    simp only [List.mem_range] at hj
    rw [getD_set]
    by_cases e : j = ops.size - 1
    ·simp [e]
    ·simp [e, hall _ j rfl (by omega)]
   ·rw [if_neg hlst] at hstep
    refine wpOp_step ho fun K hK => hstep (fun j => L.getD j true) x w hn hcl hw (fun j hj => ⟨hd j hj, hR j (by have := hdep i o ho j hj; omega) (hd j hj)⟩) K fun v w' tm htm hv hw' => hK _ _ ?_
    subst htm
    have hcnt := count_set L i hn
    refine ih _ _ _ (by simpa using hsz) (by omega) ?_ ?_ (by rw [show (fun j => (L.setIfInBounds i true).getD j true) = fun j => if j = i then true else L.getD j true from funext fun j => getD_set L i j]; exact hw') ?_
    ·rw [getD_set, if_neg (by omega)]; exact hlast
    ·intro k p hk hk2 j hj
     rw [getD_set] at hk2 ⊢
     split
     ·rfl
     ·by_cases e : k = i
      ·subst e
       rw [ho] at hk; cases hk
       exact hd j hj
      ·rw [if_neg e] at hk2
       exact hcl k p hk hk2 j hj
    ·intro j hj hlj
     rw [getD_set] at hlj
     unfold upd
     by_cases e : j = i
     ·subst e; rw [if_pos rfl]; exact hv
     ·rw [if_neg e] at hlj ⊢
      exact hR j hj hlj


/-- all that comes ahead lies ahead -/
def aheadAll (ops : Array Oper) : Bool := (List.range ops.size).all fun i => ((ops[i]?).map fun o => (depsOf o).all fun j => decide (j < i)).getD true
theorem wpAny_xa (hok : aheadAll ops = true) (hs : ∀ i o, ops[i]? = some o → StepX P ops Q T d R WI i o) (he : ∀ (L : Nat → Bool) (x : Nat → Value) (w : World), (∀ j, j < ops.size → L j = true) → WI L x w → (∀ j, j < ops.size → R j (x j)) → Q .normal { tmps := T x, defers := d } w) :
  ∀ (fuel : Nat) (L : Array Bool) (x : Nat → Value) (w : World), L.size = ops.size → L.toList.count false ≤ fuel → 
   (∀ k o, ops[k]? = some o → L.getD k true = true → ∀ j ∈ depsOf o, L.getD j true = true) → WI (fun j => L.getD j true) x w → (∀ j, j < ops.size → L.getD j true = true → R j (x j)) →
   wpAny P .any ops Q fuel L { tmps := T x, defers := d } w := by
 unfold aheadAll at hok
 simp only [List.all_eq_true, List.mem_range] at hok
 have ho1 := hok
 have hdep : ∀ k o, ops[k]? = some o → ∀ j ∈ depsOf o, j < k := fun k o hk j hj => by
  have hlt : k < ops.size := (Array.getElem?_eq_some_iff.1 hk).1
  have := ho1 k hlt
  simp only [hk, Option.map_some, Option.getD_some, List.all_eq_true, decide_eq_true_eq] at this
  exact this j hj
 intro fuel
 induction fuel with
 | zero =>
  intro L x w hsz hc hcl hw hR
  have hall : ∀ j, j < ops.size → L.getD j true = true := fun j hj => by
   cases hLj : L.getD j true with
   | true => rfl
   | false =>
    have h2 : false ∈ L.toList := by
     rw [Array.getD, dif_pos (by omega)] at hLj
     rw [← hLj]; exact Array.mem_toList_iff.2 (Array.getElem_mem (by omega))
    have := List.count_pos_iff.2 h2
    omega
  refine wpAny_done ?_ (he _ _ _ hall hw (fun j hj => hR j hj (hall j hj))) _
  unfold Region.ready
  rw [List.filter_eq_nil_iff]
  intro j hj
  simp only [List.mem_range] at hj
  simp [hall j hj]
 | succ fuel ih =>
  intro L x w hsz hc hcl hw hR
  have hready : ∀ i, i ∈ Region.ready .any ops L ↔ ∃ o, ops[i]? = some o ∧ L.getD i true = false ∧ ∀ j ∈ depsOf o, L.getD j true = true := fun i => by
   unfold Region.ready
   simp only [List.mem_filter, List.mem_range, Bool.and_eq_true, Bool.not_eq_true']
   constructor
   ·rintro ⟨hi, hn, hd⟩
    refine ⟨ops[i], by simp [hi], hn, fun j hj => ?_⟩
    have hj' := hdep i ops[i] (by simp [hi]) j hj
    simp only [depsOf, List.mem_map, List.mem_filter, Array.mem_toList_iff] at hj
    obtain ⟨e, ⟨he, hb⟩, rfl⟩ := hj
    simp only [Array.getElem?_eq_getElem hi, Option.map_some, Option.getD_some, Array.all_eq_true'] at hd
    have := hd e he
    simp only [hb, Bool.not_true, Bool.false_or] at this
    rw [Array.getD, dif_pos (by omega)] at this ⊢
    exact this
   ·rintro ⟨o, ho, hn, hd⟩
    have hi : i < ops.size := (Array.getElem?_eq_some_iff.1 ho).1
    refine ⟨hi, hn, ?_⟩
    simp only [ho, Option.map_some, Option.getD_some, Array.all_eq_true']
    intro e he
    cases hb : Region.binds .any e with
    | false => rfl
    | true =>
     have hmem : e.on ∈ depsOf o := by
      simp only [depsOf, List.mem_map, List.mem_filter, Array.mem_toList_iff]
      exact ⟨e, ⟨he, hb⟩, rfl⟩
     have h1 := hd _ hmem
     have h2 := hdep i o ho _ hmem
     simp only [Bool.not_true, Bool.false_or]
     rw [Array.getD, dif_pos (by omega)] at h1 ⊢
     exact h1
  refine ⟨fun h0 => ?_, fun i hi => ?_⟩
  ·-- the least one that is not listed may come up
   have key : ∀ i, i < ops.size → L.getD i true = true := by
    intro i
    induction i using Nat.strongRecOn with
    | _ i ihi =>
     intro hi
     cases hLi : L.getD i true with
     | true => rfl
     | false =>
      have : i ∈ Region.ready .any ops L := (hready i).2 ⟨ops[i], by simp [hi], hLi, fun j hj => by
       have hj' := hdep i ops[i] (by simp [hi]) j hj
       exact ihi j hj' (by omega)⟩
      rw [h0] at this; cases this
   exact he _ _ _ key hw (fun j hj => hR j hj (key j hj))
  ·obtain ⟨o, ho, hn, hd⟩ := (hready i).1 hi
   have hil : i < ops.size := (Array.getElem?_eq_some_iff.1 ho).1
   have hstep := hs i o ho
   ·refine wpOp_step ho fun K hK => hstep (fun j => L.getD j true) x w hn hcl hw (fun j hj => ⟨hd j hj, hR j (by have := hdep i o ho j hj; omega) (hd j hj)⟩) K fun v w' tm htm hv hw' => hK _ _ ?_
    subst htm
    have hcnt := count_set L i hn
    refine ih _ _ _ (by simpa using hsz) (by omega) ?_ (by rw [show (fun j => (L.setIfInBounds i true).getD j true) = fun j => if j = i then true else L.getD j true from funext fun j => getD_set L i j]; exact hw') ?_
    ·intro k p hk hk2 j hj
     rw [getD_set] at hk2 ⊢
     split
     ·rfl
     ·by_cases e : k = i
      ·subst e
       rw [ho] at hk; cases hk
       exact hd j hj
      ·rw [if_neg e] at hk2
       exact hcl k p hk hk2 j hj
    ·intro j hj hlj
     rw [getD_set] at hlj
     unfold upd
     by_cases e : j = i
     ·subst e; rw [if_pos rfl]; exact hv
     ·rw [if_neg e] at hlj ⊢
      exact hR j hj hlj


/-- what each operation yields, but those of ns, of which the invariant alone speaks -/
def XR (ns : List Nat) (vals : List Value) (j : Nat) (v : Value) : Prop := ns.contains j = true ∨ v = nth vals j
variable {ns : List Nat} {vals : List Value}
theorem xR_nth {j : Nat} {v u : Value} (h : XR ns vals j v) (hb : ns.contains j = false) (hu : vals[j]? = some u) : v = u := by
 rcases h with h | h
 ·rw [hb] at h; cases h
 ·exact hd_nth' h hu
theorem x_op {k : Nat} {o o' : Oper} {l : List Oper} (s : Nat) (ds : List Nat) (hd : depsOf o = ds)
  (h : ∀ (L : Nat → Bool) (x : Nat → Value) (w : World), L k = false → Closed ops L → WI L x w → (∀ j ∈ ds, L j = true ∧ XR ns vals j (x j)) → ∀ K : Act → World → Prop, (∀ tm w', tm = T (upd x k (tm.getD s undef)) → tm.getD s undef = nth vals k → WI (fun j => if j = k then true else L j) (upd x k (tm.getD s undef)) w' → K { tmps := tm, defers := d } w') →
   if Region.wanted o (yielded ops (T x)) = true then Oper.wp P o { tmps := T x, defers := d } w K Q else K (Act.put { tmps := T x, defers := d } o.dst undef) w)
  (hs : StepsX P ops Q T d (XR ns vals) WI (k + 1) (o' :: l)) : StepsX P ops Q T d (XR ns vals) WI k (o :: o' :: l) := by
 subst hd
 refine x_steps_cons (fun L x w hL hC hw hR K hK => h L x w hL hC hw hR K fun tm w' ht hv hw' => ?_) hs
 exact hK _ w' tm ht (.inr hv) hw'
/-- an operation whose value is not known ahead -/
theorem x_one {k : Nat} {o o' : Oper} {l : List Oper} (s : Nat) (ds : List Nat) (hd : depsOf o = ds) (hk : ns.contains k = true)
  (h : ∀ (L : Nat → Bool) (x : Nat → Value) (w : World), L k = false → Closed ops L → WI L x w → (∀ j ∈ ds, L j = true ∧ XR ns vals j (x j)) → ∀ K : Act → World → Prop, (∀ tm w', tm = T (upd x k (tm.getD s undef)) → WI (fun j => if j = k then true else L j) (upd x k (tm.getD s undef)) w' → K { tmps := tm, defers := d } w') →
   if Region.wanted o (yielded ops (T x)) = true then Oper.wp P o { tmps := T x, defers := d } w K Q else K (Act.put { tmps := T x, defers := d } o.dst undef) w)
  (hs : StepsX P ops Q T d (XR ns vals) WI (k + 1) (o' :: l)) : StepsX P ops Q T d (XR ns vals) WI k (o :: o' :: l) := by
 subst hd
 refine x_steps_cons (fun L x w hL hC hw hR K hK => h L x w hL hC hw hR K fun tm w' ht hw' => ?_) hs
 exact hK _ w' tm ht (.inl hk) hw'
theorem x_last {k : Nat} {o : Oper}
  (h : ∀ (L : Nat → Bool) (x : Nat → Value) (w : World), (∀ j, j < k → L j = true) → WI L x w → (∀ j, j < k → XR ns vals j (x j)) → ∀ K : Act → World → Prop, (∀ a' w', Q .normal a' w' → K a' w') →
   if Region.wanted o (yielded ops (T x)) = true then Oper.wp P o { tmps := T x, defers := d } w K Q else K (Act.put { tmps := T x, defers := d } o.dst undef) w) : StepsX P ops Q T d (XR ns vals) WI k [o] :=
 x_steps_last fun L x w _ hall hw hR K hK => h L x w hall hw hR K hK
/-- THE REGION: apply it; T and the values come by unification -/
theorem wp_region_x {id : Nat} {a : Act} {w : World} (slots : List Nat) (vals : List Value) (ns : List Nat) (WI : (Nat → Bool) → (Nat → Value) → World → Prop) (hm : P.follows .mixedOrders = true) (hT : ∀ y, setAll a.tmps slots 0 y = T y) (hok : goodOrder ops = true) (hn : 0 < ops.size)
  (hw : ∀ (L : Nat → Bool) (x : Nat → Value), (∀ j, j < ops.size → L j = false) → WI L x w.drew)
  (hs : StepsX P ops Q T a.defers (XR ns vals) WI 0 ops.toList) : (Code.region id ops true).wp P Q a w := by
 refine wp_region_any hm ?_
 have hx : a = { tmps := T (fun j => a.tmps.getD (slots.getD j 0) undef), defers := a.defers } := by
  rw [← hT, setAll_self]
  intro j s hj
  simp [List.getD, hj]
 rw [hx]
 refine wpAny_x hok hs ops.size _ _ _ (by simp) (by simp) (by simp [Array.getD]; omega) (fun k o hk h => ?_) (hw _ _ fun j hj => by simp [Array.getD, hj]) (fun j hj h => ?_)
 ·have hkl : k < ops.size := (Array.getElem?_eq_some_iff.1 hk).1
  simp [Array.getD, hkl] at h
 ·simp [Array.getD, hj] at h
/-- .. where an operation may be left behind the last one: each is asked alike, and what follows when all are done -/
def StepsXA (P : Program) (ops : Array Oper) (Q : Exit → Act → World → Prop) (T : (Nat → Value) → Array Value) (d : List Deferred) (R : Nat → Value → Prop) (WI : (Nat → Bool) → (Nat → Value) → World → Prop) (k : Nat) (l : List Oper) : Prop :=
 ∀ j o, l[j]? = some o → StepX P ops Q T d R WI (k + j) o
theorem xa_nil {k : Nat} : StepsXA P ops Q T d R WI k [] := fun j o h => by simp at h
theorem xa_cons {k : Nat} {o : Oper} {l : List Oper} (h : StepX P ops Q T d R WI k o) (hs : StepsXA P ops Q T d R WI (k + 1) l) : StepsXA P ops Q T d R WI k (o :: l) := fun j p hj => by
 cases j with
 | zero =>
  simp at hj
  subst hj
  simpa using h
 | succ j =>
  have := hs j p (by simpa using hj)
  rw [show k + (j + 1) = k + 1 + j by omega]
  exact this
theorem xa_op {k : Nat} {o : Oper} {l : List Oper} (s : Nat) (ds : List Nat) (hd : depsOf o = ds)
  (h : ∀ (L : Nat → Bool) (x : Nat → Value) (w : World), L k = false → Closed ops L → WI L x w → (∀ j ∈ ds, L j = true ∧ XR ns vals j (x j)) → ∀ K : Act → World → Prop, (∀ tm w', tm = T (upd x k (tm.getD s undef)) → tm.getD s undef = nth vals k → WI (fun j => if j = k then true else L j) (upd x k (tm.getD s undef)) w' → K { tmps := tm, defers := d } w') →
   if Region.wanted o (yielded ops (T x)) = true then Oper.wp P o { tmps := T x, defers := d } w K Q else K (Act.put { tmps := T x, defers := d } o.dst undef) w)
  (hs : StepsXA P ops Q T d (XR ns vals) WI (k + 1) l) : StepsXA P ops Q T d (XR ns vals) WI k (o :: l) := by
 subst hd
 refine xa_cons (fun L x w hL hC hw hR K hK => h L x w hL hC hw hR K fun tm w' ht hv hw' => ?_) hs
 exact hK _ w' tm ht (.inr hv) hw'
theorem xa_one {k : Nat} {o : Oper} {l : List Oper} (s : Nat) (ds : List Nat) (hd : depsOf o = ds) (hk : ns.contains k = true)
  (h : ∀ (L : Nat → Bool) (x : Nat → Value) (w : World), L k = false → Closed ops L → WI L x w → (∀ j ∈ ds, L j = true ∧ XR ns vals j (x j)) → ∀ K : Act → World → Prop, (∀ tm w', tm = T (upd x k (tm.getD s undef)) → WI (fun j => if j = k then true else L j) (upd x k (tm.getD s undef)) w' → K { tmps := tm, defers := d } w') →
   if Region.wanted o (yielded ops (T x)) = true then Oper.wp P o { tmps := T x, defers := d } w K Q else K (Act.put { tmps := T x, defers := d } o.dst undef) w)
  (hs : StepsXA P ops Q T d (XR ns vals) WI (k + 1) l) : StepsXA P ops Q T d (XR ns vals) WI k (o :: l) := by
 subst hd
 refine xa_cons (fun L x w hL hC hw hR K hK => h L x w hL hC hw hR K fun tm w' ht hw' => ?_) hs
 exact hK _ w' tm ht (.inl hk) hw'
theorem wp_region_xa {id : Nat} {a : Act} {w : World} (slots : List Nat) (vals : List Value) (ns : List Nat) (WI : (Nat → Bool) → (Nat → Value) → World → Prop) (hm : P.follows .mixedOrders = true) (hT : ∀ y, setAll a.tmps slots 0 y = T y) (hok : aheadAll ops = true)
  (hw : ∀ (L : Nat → Bool) (x : Nat → Value), (∀ j, j < ops.size → L j = false) → WI L x w.drew)
  (hs : StepsXA P ops Q T a.defers (XR ns vals) WI 0 ops.toList)
  (he : ∀ (L : Nat → Bool) (y : Nat → Value) (w' : World), (∀ j, j < ops.size → L j = true) → WI L y w' → (∀ j, j < ops.size → XR ns vals j (y j)) → Q .normal { tmps := T y, defers := a.defers } w') : (Code.region id ops true).wp P Q a w := by
 refine wp_region_any hm ?_
 have hx : a = { tmps := T (fun j => a.tmps.getD (slots.getD j 0) undef), defers := a.defers } := by
  rw [← hT, setAll_self]
  intro j s hj
  simp [List.getD, hj]
 rw [hx]
 refine wpAny_xa hok (fun i o ho => ?_) he ops.size _ _ _ (by simp) (by simp) (fun k o hk h => ?_) (hw _ _ fun j hj => by simp [Array.getD, hj]) (fun j hj h => ?_)
 ·have := hs i o (by simpa using ho)
  rw [Nat.zero_add] at this
  exact this
 ·have hkl : k < ops.size := (Array.getElem?_eq_some_iff.1 hk).1
  simp [Array.getD, hkl] at h
 ·simp [Array.getD, hj] at h
/-- what leans on number i is not done, as long as i isn't -/
theorem Closed.not' {L : Nat → Bool} (h : Closed ops L) (k i : Nat) (hd : ((ops[k]?).map fun o => (depsOf o).contains i).getD false = true) (hL : L i = false) : L k = false := by
 cases hk : L k with
 | false => rfl
 | true =>
  cases ho : ops[k]? with
  | none => rw [ho] at hd; cases hd
  | some o =>
   rw [ho] at hd
   have := h k o ho hk i (by simpa using hd)
   rw [hL] at this
   cases this

/-- operation a makes a block, operation s stores c1 there -/
def NewB (n0 a s : Nat) (t : TypeId) (c0 c1 : List Value) (L : Nat → Bool) (x : Nat → Value) (w : World) : Prop :=
 L a = true → ∃ p, x a = .pointer (some ⟨p, 0, none⟩) ∧ n0 ≤ p ∧ Blk w p t (cond (L s) c1 c0)
section
variable {n0 a s : Nat} {t : TypeId} {c0 c1 : List Value} {L L' : Nat → Bool} {x x' : Nat → Value} {w w' : World}
theorem NewB.no (h : L a = false) : NewB n0 a s t c0 c1 L x w := fun e => by rw [h] at e; cases e
theorem NewB.kq {S : List Nat} (h : NewB n0 a s t c0 c1 L x w) (k : Kq S w w') (hS : ∀ q ∈ S, q < n0) (h1 : L' a = L a) (h2 : L' s = L s) (h3 : x' a = x a) : NewB n0 a s t c0 c1 L' x' w' := fun e => by
 rw [h1] at e
 obtain ⟨p, q1, q2, q3⟩ := h e
 refine ⟨p, h3.trans q1, q2, ?_⟩
 rw [h2]
 exact q3.kq k (fun hm => by have := hS p hm; omega)
theorem NewB.made (hs : L' s = false) (hx : x' a = .pointer (some ⟨w.heap.size, 0, none⟩)) (hn : n0 ≤ w.heap.size) (hw : w' = w.alloc (.cells c0.toArray t)) : NewB n0 a s t c0 c1 L' x' w' := fun _ => by
 refine ⟨_, hx, hn, ?_⟩
 rw [hs, hw]
 exact Blk.new w t c0
theorem NewB.put {p : Nat} (hs : L' s = true) (hx : x' a = .pointer (some ⟨p, 0, none⟩)) (hn : n0 ≤ p) (hb : Blk w' p t c1) : NewB n0 a s t c0 c1 L' x' w' := fun _ => by
 refine ⟨_, hx, hn, ?_⟩
 rw [hs]
 exact hb
end
end
end Go.Proofs.YteaincdeoajkeaaGreatDoor.Ut
end
section
/- Package mmu: its memory (ST); what kinds of accesses ask for, as it lies in its variable; made, isWidth, key, place, fast. -/
namespace Go.Proofs.YteaincdeoajkeaaGreatDoor.Mm
open Go.RowKit Go.Shelf Ut Oc Vw Wa
open Sw (Ln tabL ownP fillS)
open Sb (Rc findL withoutL)
set_option linter.unusedVariables false
set_option maxRecDepth 100000
set_option maxHeartbeats 4000000

/-- the rights that kinds ask for, as they lie in their variable -/
def HasN (w : World) : Prop := ∃ t fr, w.heap[0]? = some (.cells #[.int .i64 4, .int .i64 1, .int .i64 2] t fr)
theorem HasN.lt {w : World} (h : HasN w) : 0 < w.heap.size := by
 obtain ⟨t, fr, h⟩ := h
 exact (Array.getElem?_eq_some_iff.1 h).1
theorem HasN.below {w w' : World} {B : Nat} (h : HasN w) (hb : Below B w w') (hB : 0 < B) : HasN w' := by
 obtain ⟨t, fr, h⟩ := h
 exact ⟨t, fr, (hb.block _ hB).trans h⟩
theorem HasN.kq {w w' : World} {T : List Nat} (h : HasN w) (k : Kq T w w') (hT : 0 ∉ T) : HasN w' := by
 have hl := h.lt
 obtain ⟨t, fr, h⟩ := h
 exact ⟨t, fr, (k.block _ hl hT).trans h⟩
theorem HasN.at {w : World} (h : HasN w) : w.cell? ⟨0, 0, none⟩ = some (.int .i64 4) ∧ w.cell? ⟨0, 1, none⟩ = some (.int .i64 1) ∧ w.cell? ⟨0, 2, none⟩ = some (.int .i64 2) := by
 obtain ⟨t, fr, h⟩ := h
 refine ⟨?_, ?_, ?_⟩ <;> simp [World.cell?, h]

/-- an Mmu's cells -/
def uCells (b t g : Nat) (Y : List Gm.Pl) : List Value := .pointer (some ⟨b, 0, none⟩) :: .pointer (some ⟨t, 0, none⟩) :: .pointer (some ⟨g, 0, none⟩) :: Gm.flatP Y
/-- the Mmu at u, its Tlb at t, its shadow at g, over the view at b: the shadow has l, the Tlb q; Y is where the pages lay when it was asked last -/
structure ST (W : World) (u t g b s m : Nat) (S : List Int) (L : List Gm.Pl) (D : List Bool) (l : List Ln) (q : List Rc) (Y : List Gm.Pl) : Prop where
 pv : PV W b s m 12 S L D
 lay : Lay L
 blk : Blk W u 80 (uCells b t g Y)
 y : Y.length = 12
 sh : Sw.LS19 W g true l
 tl : Sb.QT W t q
 nd : HasN W
 ns : 0 < s
 bt : b < t
 bg : b < g
 bu : b < u
 tg : t ≠ g
 tu : t ≠ u
 gu : g ≠ u
section
variable {W W' : World} {u t g b s m : Nat} {S S' : List Int} {L L' : List Gm.Pl} {D D' : List Bool} {l l' : List Ln} {q q' : List Rc} {Y Y' : List Gm.Pl}
theorem ST.kq {T : List Nat} (h : ST W u t g b s m S L D l q Y) (k : Kq T W W') (hT : ∀ x ∈ [u, t, g, b, s, m, 0], x ∉ T) : ST W' u t g b s m S L D l q Y :=
 ⟨h.pv.kq k (hT _ (by simp)) (hT _ (by simp)) (hT _ (by simp)), h.lay, h.blk.kq k (hT _ (by simp)), h.y, h.sh.kq k (hT _ (by simp)), h.tl.kq k (hT _ (by simp)), h.nd.kq k (hT _ (by simp)), h.ns, h.bt, h.bg, h.bu, h.tg, h.tu, h.gu⟩
theorem ST.more (h : ST W u t g b s m S L D l q Y) (hb : Below W.heap.size W W') : ST W' u t g b s m S L D l q Y := h.kq (T := []) (Kq.of_below hb) (fun _ _ => by simp)
theorem ST.tlb (h : ST W u t g b s m S L D l q Y) (k : Kq [t] W W') (hq : Sb.QT W' t q') : ST W' u t g b s m S L D l q' Y := by
 have h1 := h.pv.sm
 have h2 := h.pv.mb
 have h3 := h.bt
 have h4 := h.ns
 have h5 := h.tg
 have h6 := h.tu
 exact ⟨h.pv.kq k (by simp; omega) (by simp; omega) (by simp; omega), h.lay, h.blk.kq k (by simp; omega), h.y, h.sh.kq k (by simp; omega), hq, h.nd.kq k (by simp; omega), h.ns, h.bt, h.bg, h.bu, h.tg, h.tu, h.gu⟩
theorem ST.shd (h : ST W u t g b s m S L D l q Y) (k : Kq [g] W W') (hl : Sw.LS19 W' g true l') : ST W' u t g b s m S L D l' q Y := by
 have h1 := h.pv.sm
 have h2 := h.pv.mb
 have h3 := h.bg
 have h4 := h.ns
 have h5 := h.tg
 have h6 := h.gu
 exact ⟨h.pv.kq k (by simp; omega) (by simp; omega) (by simp; omega), h.lay, h.blk.kq k (by simp; omega), h.y, hl, h.tl.kq k (by simp; omega), h.nd.kq k (by simp; omega), h.ns, h.bt, h.bg, h.bu, h.tg, h.tu, h.gu⟩
theorem ST.view {T : List Nat} (h : ST W u t g b s m S L D l q Y) (k : Kq T W W') (hT : ∀ x ∈ T, x = b ∨ x = s ∨ x = m) (hp : PV W' b s m 12 S' L' D') (hL : Lay L') : ST W' u t g b s m S' L' D' l q Y := by
 have h1 := h.pv.sm
 have h2 := h.pv.mb
 have h3 := h.bt
 have h4 := h.ns
 have h5 := h.bg
 have h6 := h.bu
 have hn : ∀ x, x ≠ b → x ≠ s → x ≠ m → x ∉ T := fun x a1 a2 a3 hm => by rcases hT x hm with e | e | e <;> contradiction
 exact ⟨hp, hL, h.blk.kq k (hn _ (by omega) (by omega) (by omega)), h.y, h.sh.kq k (hn _ (by omega) (by omega) (by omega)), h.tl.kq k (hn _ (by omega) (by omega) (by omega)), h.nd.kq k (hn _ (by omega) (by omega) (by omega)), h.ns, h.bt, h.bg, h.bu, h.tg, h.tu, h.gu⟩
theorem ST.cell0 (h : ST W u t g b s m S L D l q Y) : W.cell? ⟨u, 0, none⟩ = some (.pointer (some ⟨b, 0, none⟩)) := h.blk.cell rfl
theorem ST.cell1 (h : ST W u t g b s m S L D l q Y) : W.cell? ⟨u, 1, none⟩ = some (.pointer (some ⟨t, 0, none⟩)) := h.blk.cell rfl
theorem ST.cell2 (h : ST W u t g b s m S L D l q Y) : W.cell? ⟨u, 2, none⟩ = some (.pointer (some ⟨g, 0, none⟩)) := h.blk.cell rfl
theorem ST.lt (h : ST W u t g b s m S L D l q Y) : u < W.heap.size := h.blk.lt
theorem ST.lay_at (h : ST W u t g b s m S L D l q Y) (k : Nat) (hk : k < 12) : W.cell? ⟨u, 3 + k * 2, none⟩ = some (.int .i64 (Gm.plN Y k).1) ∧ W.cell? ⟨u, 3 + k * 2 + 1, none⟩ = some (.int .i64 (Gm.plN Y k).2) := by
 have hf := Gm.flatP_get Y k (by rw [h.y]; exact hk)
 refine ⟨h.blk.cell ?_, h.blk.cell ?_⟩
 ·rw [show 3 + k * 2 = 2 * k + 1 + 1 + 1 by omega]; simpa [uCells] using hf.1
 ·rw [show 3 + k * 2 + 1 = 2 * k + 1 + 1 + 1 + 1 by omega]; simpa [uCells] using hf.2
theorem ST.lay_set (h : ST W u t g b s m S L D l q Y) (k : Nat) (hk : k < 12) (p : Gm.Pl) : ST ((W.setCell ⟨u, 3 + k * 2, none⟩ (.int .i64 p.1)).setCell ⟨u, 3 + k * 2 + 1, none⟩ (.int .i64 p.2)) u t g b s m S L D l q (Y.set k p) := by
 have h1 := h.pv.sm
 have h2 := h.pv.mb
 have h3 := h.bu
 have h4 := h.ns
 have h5 := h.tu
 have h6 := h.gu
 have K : Kq [u] W ((W.setCell ⟨u, 3 + k * 2, none⟩ (.int .i64 p.1)).setCell ⟨u, 3 + k * 2 + 1, none⟩ (.int .i64 p.2)) := ((Kq.refl [u] W).setCell u _ _ (.inl (by simp))).setCell u _ _ (.inl (by simp))
 refine ⟨h.pv.kq K (by simp; omega) (by simp; omega) (by simp; omega), h.lay, ?_, by rw [List.length_set]; exact h.y, h.sh.kq K (by simp; omega), h.tl.kq K (by simp; omega), h.nd.kq K (by simp; omega), h.ns, h.bt, h.bg, h.bu, h.tg, h.tu, h.gu⟩
 have e : ((uCells b t g Y).set (3 + k * 2) (.int .i64 p.1)).set (3 + k * 2 + 1) (.int .i64 p.2) = uCells b t g (Y.set k p) := by
  unfold uCells
  rw [Gm.flatP_set Y k p (by rw [h.y]; exact hk), show 3 + k * 2 + 1 = 2 * k + 1 + 1 + 1 + 1 by omega, show 3 + k * 2 = 2 * k + 1 + 1 + 1 by omega]
  rfl
 rw [← e]
 exact (h.blk.set _ _).set _ _

theorem made_yes20 (W : World) (u b : Nat) (c : W.cell? ⟨u, 0, none⟩ = some (.pointer (some ⟨b, 0, none⟩))) (hl : u < W.heap.size) : Calls Tryz.prog 36 #[.pointer (some ⟨u, 0, none⟩)] W fun e w' => e = .returned (.bool true) ∧ W = w' := by
 go_enter Tryz.func36, Tryz.ntmps36
 go_wp2
 go_ret
 exact ⟨rfl, rfl⟩
theorem isWidth20_any (q : Int) (t : Bool) (ht : isW q = t) (w : World) : Calls Tryz.prog 84 #[.int .i64 q] w fun e w' => e = .returned (.bool t) ∧ w = w' := by
 subst ht
 have hc : (q = 1 ∧ isW q = true) ∨ (q = 2 ∧ isW q = true) ∨ (q = 4 ∧ isW q = true) ∨ (¬ q = 1 ∧ ¬ q = 2 ∧ ¬ q = 4 ∧ isW q = false) := by
  unfold isW
  by_cases h1 : q = 1
  ·exact .inl ⟨h1, by simp [h1]⟩
  ·by_cases h2 : q = 2
   ·exact .inr (.inl ⟨h2, by simp [h2]⟩)
   ·by_cases h4 : q = 4
    ·exact .inr (.inr (.inl ⟨h4, by simp [h4]⟩))
    ·exact .inr (.inr (.inr ⟨h1, h2, h4, by simp [h1, h2, h4]⟩))
 rcases hc with ⟨rfl, h⟩ | ⟨rfl, h⟩ | ⟨rfl, h⟩ | ⟨h1, h2, h4, h⟩
 all_goals
  rw [h]
  clear h
  go_enter Tryz.func84, Tryz.ntmps84
  go_wp2
  go_ret
  first | exact ⟨rfl, rfl⟩ | exact ⟨by simp [h1, h2, h4], rfl⟩
abbrev accV (on : Bool) (rt : Int) (us : Bool) (z k : Int) : Value := .agg #[.bool on, .int .i64 rt, .bool us, .int .u32 z, .int .i64 k]
abbrev accC (on : Bool) (rt : Int) (us : Bool) (z k : Int) : List Value := [.bool on, .int .i64 rt, .bool us, .int .u32 z, .int .i64 k]
theorem key20_any (on us : Bool) (rt z k : Int) (h0 : 0 ≤ z) (h1 : z < 4294967296) (w : World) : Calls Tryz.prog 72 #[accV on rt us z k] w fun e w' => e = .returned (.agg #[.int .i64 rt, .int .i64 (z / 64)]) ∧ Below w.heap.size w w' := by
 have HB : Hid (Below w.heap.size w ((w.alloc (.cells #[.bool on, .int .i64 rt, .bool us, .int .u32 z, .int .i64 k] 105)).alloc (.cells #[.int .i64 rt, .int .i64 (z / 64)] 48))) := Lib.hid (((Below.refl _ _).alloc (Nat.le_refl _) _).alloc (by simp) _)
 have HSet : Hid (∀ (X : World) (j : Nat) (v : Value), Below w.heap.size w X → Below w.heap.size w (X.setCell ⟨w.heap.size + 1, j, none⟩ v)) := Lib.hid fun X j v h => h.setCell (p := ⟨w.heap.size + 1, j, none⟩) (by simp) _
 go_enter Tryz.func72, Tryz.ntmps72
 go_wp2
 exact bodyPost_ret (v := .agg #[.int .i64 rt, .int .i64 (z / 64)]) (by simp [results, Tryz.results72, go_sem]) rfl ⟨rfl, by (repeat (first | refine HSet.out _ _ _ ?_)); exact HB.out⟩
end

/-- where a page lies, or lay -/
def plF (L Y : List Gm.Pl) (p : Int) : Gm.Pl := if Gm.thB (Gm.atP L p) = true then Gm.atP L p else Gm.plN Y p.toNat
section
variable {W : World} {u t g b s m : Nat} {S : List Int} {L : List Gm.Pl} {D : List Bool} {l : List Ln} {q : List Rc} {Y : List Gm.Pl}
theorem place20_at (p : Nat) (hp : p < 12) (x : Gm.Pl) (hx : plF L Y p = x) (h : ST W u t g b s m S L D l q Y) : Calls Tryz.prog 91 #[.pointer (some ⟨u, 0, none⟩), .int .i64 p] W fun e w' => e = .returned (Gm.plV x) ∧ Below W.heap.size W w' := by
 obtain ⟨U, hU⟩ : ∃ U, U = W.alloc (.cells #[.int .i64 0, .int .i64 0] 54) := ⟨_, rfl⟩
 have hB : Below W.heap.size W U := by rw [hU]; exact (Below.refl _ _).alloc (Nat.le_refl _) _
 have hN : Blk U W.heap.size 54 [.int .i64 0, .int .i64 0] := by rw [hU]; exact Blk.new W _ _
 have hs := h.more hB
 have c0 := hs.cell0
 have ul := hs.lt
 have HMP := Lib.hid (map_any U hs.pv)
 have HG : Hid (∀ (w : World), Below U.heap.size U w → Calls Tryz.prog 16 #[.pointer (some ⟨m, 0, none⟩), .int .i64 p] w fun e w' => e = .returned (.tuple #[Gm.plV (Gm.atP L p), .bool (Gm.thB (Gm.atP L p))]) ∧ Below w.heap.size w w') := Lib.hid fun w hw => Gm.get_any m L p _ _ rfl rfl w (hs.more hw).pv.mp
 have HS := Lib.hid hs
 have HU := Lib.hid hU
 have HB := Lib.hid hB
 have HN := Lib.hid hN
 have hun : W.heap.size ≠ u := by have := h.lt; omega
 have p0 : (0 : Int) ≤ (p : Int) := by omega
 have p1 : (p : Int) < 12 := by omega
 unfold plF at hx
 rw [Int.toNat_natCast] at hx
 generalize Gm.atP L p = pl at hx HG
 obtain ⟨x0, x1⟩ := pl
 unfold Gm.plV at HG
 dsimp only at HG
 have HP := Lib.hid hp
 clear hU hB hN hs h hp
 go_enter Tryz.func91, Tryz.ntmps91
 go_upto_region 1 with fail
 rw [← HU.out]
 clear HU
 go_wp2_with fail
 refine HMP.out.mono ?_
 rintro e w1 ⟨rfl, rfl⟩
 go_wp2_with fail
 refine (HG.out _ (Below.refl _ _)).mono ?_
 rintro e w2 ⟨rfl, hb2⟩
 have HS2 := Lib.hid (HS.out.more hb2)
 have HN2 := Lib.hid (HN.out.more hb2)
 have HB2 := Lib.hid (HB.out.trans (hb2.mono HB.out.size))
 obtain ⟨V, hV⟩ : ∃ V, V = w2.alloc (.cells #[.int .i64 x0, .int .i64 x1] 54) := ⟨_, rfl⟩
 have hBV : Below w2.heap.size w2 V := by rw [hV]; exact (Below.refl _ _).alloc (Nat.le_refl _) _
 have hNV : Blk V w2.heap.size 54 [.int .i64 x0, .int .i64 x1] := by rw [hV]; exact Blk.new w2 _ _
 have HV := Lib.hid hV
 have HSet : Hid (∀ (X : World) (j : Nat) (v : Value), Below W.heap.size W X → Below W.heap.size W (X.setCell ⟨W.heap.size, j, none⟩ v)) := Lib.hid fun X j v h => h.setCell (p := ⟨W.heap.size, j, none⟩) (by simp) _
 have hs3 := HS2.out.more hBV
 have hn3 := HN2.out.more hBV
 have HB3 := Lib.hid (HB2.out.trans (hBV.mono HB2.out.size))
 have r0 := hn3.cell (j := 0) rfl
 have r1 := hn3.cell (j := 1) rfl
 have f0 := hn3.frozen 0
 have f1 := hn3.frozen 1
 have rl := hn3.lt
 have v0 := hNV.cell (j := 0) rfl
 have v1 := hNV.cell (j := 1) rfl
 have vl := hNV.lt
 clear HN2 HB2 HS2 HG HMP HS HN hb2 hV hBV hn3 hNV c0 ul
 obtain ⟨y0, y1⟩ := hs3.lay_at p HP.out
 have ul := hs3.lt
 clear hs3
 generalize hpy : Gm.plN Y p = py at hx y0 y1
 clear hpy
 by_cases ht : Gm.thB (x0, x1) = true
 ·rw [if_pos ht] at hx
  rw [ht] at *
  subst hx
  go_upto_region 2 with fail
  rw [← HV.out]
  clear HV ht
  generalize w2.heap.size = vb at v0 v1 vl ⊢
  go_wp2
  exact bodyPost_ret (v := Gm.plV (x0, x1)) (by simp [results, Tryz.results91, go_sem, Gm.plV, r0, r1]) rfl ⟨rfl, by (repeat (first | refine HSet.out _ _ _ ?_)); exact HB3.out⟩
 ·rw [if_neg ht] at hx
  rw [Bool.not_eq_true] at ht
  rw [ht] at *
  subst hx
  go_upto_region 2 with fail
  rw [← HV.out]
  clear HV ht
  generalize w2.heap.size = vb at v0 v1 vl ⊢
  go_wp2
  exact bodyPost_ret (v := Gm.plV _) (by simp [results, Tryz.results91, go_sem, Gm.plV, r0, r1]) rfl ⟨rfl, by (repeat (first | refine HSet.out _ _ _ ?_)); exact HB3.out⟩
end
end Go.Proofs.YteaincdeoajkeaaGreatDoor.Mm
end
