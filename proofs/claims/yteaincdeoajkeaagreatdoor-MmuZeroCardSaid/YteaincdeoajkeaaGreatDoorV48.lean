/- Several texts in one: Iz Ax Ko Kp -/
import Derived.Test.YteaincdeoajkeaaGreatDoorV27
import Derived.Test.YteaincdeoajkeaaGreatDoorV31
import Derived.Test.YteaincdeoajkeaaGreatDoorV19
import Derived.Test.YteaincdeoajkeaaGreatDoorV47
import Derived.Test.YteaincdeoajkeaaGreatDoorV37
section
/- Stage 20, plainly: what a walk leans on: it says the same as long as both tables' pages lie there with the same bytes; writes, drops and pages that are there again that leave it. -/
namespace Go.Proofs.YteaincdeoajkeaaGreatDoor.Mm
open Go.RowKit Go.Shelf Ut Oc Vw Wa
set_option linter.unusedVariables false

section
variable {S S' : List Int} {L L' : List Gm.Pl} {p z : Int} {f o i : Nat}
theorem getD_frame (hS : S.length = 2048) (hf : f < 32) (ho : o < 64) : S.getD (64 * f + o) 0 = (Fr.frameL S f).getD o 0 := by
 unfold Fr.frameL
 rw [List.getD_eq_getElem?_getD, List.getD_eq_getElem?_getD, List.getElem?_take, if_pos ho, List.getElem?_drop]
/-- a table's word hangs on its page's bytes -/
theorem word_frame (hS : S.length = 2048) (hS' : S'.length = 2048) (hL : Gm.Okay L) (hL' : Gm.Okay L') (hi : i < 16) (ht : hasT 12 L' p = hasT 12 L p) (hf : hasT 12 L p = true → Fr.frameL S' (frN L' p.toNat) = Fr.frameL S (frN L p.toNat)) : wordT 12 S' L' p i = wordT 12 S L p i := by
 unfold wordT
 rw [ht]
 by_cases h : hasT 12 L p = true
 ·rw [if_pos h, if_pos h]
  have hb := hasT_bd h
  have h' : hasT 12 L' p = true := ht.trans h
  obtain ⟨q, rfl⟩ : ∃ q : Nat, p = q := ⟨p.toNat, by omega⟩
  have hq : q < 8 := by omega
  rw [hasT_in 12 L hq] at h
  rw [hasT_in 12 L' hq] at h'
  obtain ⟨f1, _, e1, _, b1⟩ := ok_frame hL h
  obtain ⟨f2, _, e2, _, b2⟩ := ok_frame hL' h'
  have hf := hf (by rw [hasT_in 12 L hq]; exact h)
  rw [Int.toNat_natCast] at hf ⊢
  rw [e1, e2] at hf
  congr 2
  unfold rB
  apply List.map_congr_left
  intro j hj
  rw [List.mem_range] at hj
  unfold posn
  have e3 : (64 * q + 4 * i + j) / 64 = q := by omega
  rw [e3, e1, e2, getD_frame hS' b2 (by omega), getD_frame hS b1 (by omega), hf]
 ·rw [if_neg h, if_neg h]
/-- a walk hangs on its two tables -/
theorem walk_cong (hS : S.length = 2048) (hS' : S'.length = 2048) (hL : Gm.Okay L) (hL' : Gm.Okay L') (h0 : 0 ≤ z)
  (h1 : hasT 12 L' p = hasT 12 L p) (f1 : hasT 12 L p = true → Fr.frameL S' (frN L' p.toNat) = Fr.frameL S (frN L p.toNat))
  (h2 : hasT 12 L p = true → hasT 12 L' (rootT 12 S L p z) = hasT 12 L (rootT 12 S L p z)) (f2 : hasT 12 L p = true → hasT 12 L (rootT 12 S L p z) = true → Fr.frameL S' (frN L' (rootT 12 S L p z).toNat) = Fr.frameL S (frN L (rootT 12 S L p z).toNat)) : walkF 12 S' L' p z = walkF 12 S L p z := by
 unfold walkF
 by_cases hz : 16384 ≤ z
 ·rw [if_pos hz, if_pos hz]
 rw [if_neg hz, if_neg hz]
 have hn : noneF 12 L' p = noneF 12 L p := by unfold noneF; rw [h1]
 rw [hn]
 unfold st1
 rw [hn]
 by_cases hp : noneF 12 L p = 0
 ·have hpn : ¬ noneF 12 L p ≠ 0 := fun e => e hp
  rw [if_neg hpn, if_neg hpn]
  have ht := none_zero hp
  have hw : rootW 12 S' L' p z = rootW 12 S L p z := word_frame hS hS' hL hL' (by omega) h1 f1
  have hrf : rootF 12 S' L' p z = rootF 12 S L p z := by unfold rootF; rw [hw]
  have hrt : rootT 12 S' L' p z = rootT 12 S L p z := by unfold rootT; rw [hrf, hw]
  unfold st2 st3
  rw [hrf, hrt]
  have hn2 : noneF 12 L' (rootT 12 S L p z) = noneF 12 L (rootT 12 S L p z) := by unfold noneF; rw [h2 ht]
  rw [hn2]
  by_cases hr : rootF 12 S L p z ≠ 0
  ·rw [if_pos hr, if_pos hr]
  ·rw [if_neg hr, if_neg hr]
   by_cases hl : noneF 12 L (rootT 12 S L p z) = 0
   ·have hln : ¬ noneF 12 L (rootT 12 S L p z) ≠ 0 := fun e => e hl
    rw [if_neg hln, if_neg hln]
    have ht2 := none_zero hl
    have hw2 : leafW 12 S' L' p z = leafW 12 S L p z := by
     unfold leafW
     rw [hrt]
     exact word_frame hS hS' hL hL' (by omega) (h2 ht) (f2 ht)
    have hle : leafE 12 S' L' p z = leafE 12 S L p z := by unfold leafE; rw [hw2]
    unfold st4
    rw [hle, hw2, hrt]
   ·rw [if_pos hl, if_pos hl]
 ·rw [if_pos hp, if_pos hp]
end

/-- law20's pages: each in a frame of its own -/
theorem lay_frame {L : List Gm.Pl} (h : Lay L) {i : Nat} (hi : i < 12) (ho : Gm.thB (Gm.plN L i) = true) : Gm.plN L i = placeP i ∧ frN L i = 11 - i := by
 rcases h.2 i hi with e | e
 ·rw [e] at ho; exact absurd ho (by decide)
 ·refine ⟨e, ?_⟩
  unfold frN
  rw [e]
  unfold placeP
  dsimp only
  omega
theorem has_th {L : List Gm.Pl} {p : Int} (h : hasT 12 L p = true) : ∃ q : Nat, p = q ∧ q < 8 ∧ Gm.thB (Gm.plN L q) = true := by
 have hb := hasT_bd h
 obtain ⟨q, rfl⟩ : ∃ q : Nat, p = q := ⟨p.toNat, by omega⟩
 refine ⟨q, rfl, by omega, ?_⟩
 rw [hasT_in 12 L (by omega)] at h
 unfold okP at h
 simp at h
 exact h.1

/-- a translation that a walk says: of that page from that root, through these tables, with these rights, to that page -/
structure TrW (S : List Int) (L : List Gm.Pl) (kr kp rt lf r g : Int) : Prop where
 w : walkF 12 S L kr (64 * kp) = ⟨true, r, g, 0, rt, lf⟩
 k0 : 0 ≤ kp
section
variable {S S' : List Int} {L L' : List Gm.Pl} {kr kp rt lf r g : Int}
theorem TrW.tables (h : TrW S L kr kp rt lf r g) : rt = kr ∧ hasT 12 L rt = true ∧ hasT 12 L lf = true ∧ lf = rootT 12 S L kr (64 * kp) := by
 have hs := walk_says 12 S L kr (64 * kp)
 rw [h.w] at hs
 have hl : 0 ≤ lf := by
  by_cases hl : 0 ≤ lf
  ·exact hl
  ·exact absurd rfl (hs.no (show lf < 0 by omega)).1
 obtain ⟨e, _, ht⟩ := hs.root (hs.lr hl)
 have hz : (walkF 12 S L kr (64 * kp)).f = 0 := by rw [h.w]
 obtain ⟨_, _, _, _, _, e4⟩ := walkF_zero hz
 have e5 := congrArg Stp.lf (h.w.symm.trans e4)
 exact ⟨e, ht, (hs.leaf hl).1, e5⟩
theorem TrW.stay (h : TrW S L kr kp rt lf r g) (hS : S.length = 2048) (hS' : S'.length = 2048) (hL : Gm.Okay L) (hL' : Gm.Okay L') (h1 : hasT 12 L' rt = true) (h2 : hasT 12 L' lf = true)
  (f1 : Fr.frameL S' (frN L' rt.toNat) = Fr.frameL S (frN L rt.toNat)) (f2 : Fr.frameL S' (frN L' lf.toNat) = Fr.frameL S (frN L lf.toNat)) : TrW S' L' kr kp rt lf r g := by
 obtain ⟨e, t1, t2, e2⟩ := h.tables
 subst e
 have hk := h.k0
 refine ⟨?_, hk⟩
 rw [walk_cong hS hS' hL hL' (by omega) (h1.trans t1.symm) (fun _ => f1) (fun _ => by rw [← e2]; exact h2.trans t2.symm) (fun _ _ => by rw [← e2]; exact f2)]
 exact h.w
/-- another page is written -/
theorem TrW.write (h : TrW S L kr kp rt lf r g) (hS : S.length = 2048) (hL : Lay L) {j : Nat} (hj : j < 12) (hth : Gm.thB (Gm.plN L j) = true) (hr : rt ≠ j) (hl : lf ≠ j) {xs : List Int} (hx : xs.length = 64) : TrW (Fr.layF S (frN L j) xs) L kr kp rt lf r g := by
 obtain ⟨_, t1, t2, _⟩ := h.tables
 have hfj := (lay_frame hL hj hth).2
 have hf : ∀ q : Int, hasT 12 L q = true → q ≠ j → Fr.frameL (Fr.layF S (frN L j) xs) (frN L q.toNat) = Fr.frameL S (frN L q.toNat) := fun q hq hne => by
  obtain ⟨m, rfl, hm, hmt⟩ := has_th hq
  have hfm := (lay_frame hL (show m < 12 by omega) hmt).2
  rw [Int.toNat_natCast]
  exact Fr.frameL_other hS (by omega) (by omega) hx (by omega)
 exact h.stay hS (Fr.length_layF hS (by omega) hx) hL.1 hL.1 t1 t2 (hf rt t1 hr) (hf lf t2 hl)
theorem TrW.drop (h : TrW S L kr kp rt lf r g) (hS : S.length = 2048) (hL : Gm.Okay L) {p : Int} (hL' : Gm.Okay (Gm.drL L p)) (hr : rt ≠ p) (hl : lf ≠ p) : TrW S (Gm.drL L p) kr kp rt lf r g := by
 obtain ⟨_, t1, t2, _⟩ := h.tables
 have hq : ∀ q : Int, hasT 12 L q = true → q ≠ p → hasT 12 (Gm.drL L p) q = true ∧ frN (Gm.drL L p) q.toNat = frN L q.toNat := fun q hq hne => by
  obtain ⟨m, rfl, hm, hmt⟩ := has_th hq
  have e := Gm.stay_drop (L := L) (k := m) rfl p (fun e => hne e.symm)
  rw [Int.toNat_natCast]
  unfold frN
  rw [hasT_in 12 _ hm, e, ← hasT_in 12 L hm]
  exact ⟨hq, rfl⟩
 obtain ⟨a1, a2⟩ := hq rt t1 hr
 obtain ⟨b1, b2⟩ := hq lf t2 hl
 exact h.stay hS hS hL hL' a1 b1 (by rw [a2]) (by rw [b2])
theorem TrW.set (h : TrW S L kr kp rt lf r g) (hS : S.length = 2048) (hL : Gm.Okay L) {p : Int} {pl : Gm.Pl} (hL' : Gm.Okay (Gm.setL L p pl)) : TrW S (Gm.setL L p pl) kr kp rt lf r g := by
 obtain ⟨_, t1, t2, _⟩ := h.tables
 have hq : ∀ q : Int, hasT 12 L q = true → hasT 12 (Gm.setL L p pl) q = true ∧ frN (Gm.setL L p pl) q.toNat = frN L q.toNat := fun q hq => by
  obtain ⟨m, rfl, hm, hmt⟩ := has_th hq
  have e := Gm.stay_set (L := L) (k := m) rfl hmt p pl
  rw [Int.toNat_natCast]
  unfold frN
  rw [hasT_in 12 _ hm, e, ← hasT_in 12 L hm]
  exact ⟨hq, rfl⟩
 obtain ⟨a1, a2⟩ := hq rt t1
 obtain ⟨b1, b2⟩ := hq lf t2
 exact h.stay hS hS hL hL' a1 b1 (by rw [a2]) (by rw [b2])
theorem TrW.g0 (h : TrW S L kr kp rt lf r g) : 0 ≤ g ∧ g < 32 := by
 have := walkF_page (n := 12) (S := S) (L := L) (p := kr) (z := 64 * kp) (by rw [h.w])
 rw [h.w] at this
 exact this
end
section
variable {L : List Gm.Pl}
end
end Go.Proofs.YteaincdeoajkeaaGreatDoor.Mm
end
section
/- Package stlb: List: its walk. -/
namespace Go.Proofs.YteaincdeoajkeaaGreatDoor.Sb
open Go.RowKit Ut Hg
set_option maxRecDepth 100000
set_option linter.unusedVariables false
set_option maxHeartbeats 4000000

def six (w : World) (b : Nat) (u : Us) : World := (((((w.setCell ⟨b, 0, none⟩ (.int .i64 u.1.kr)).setCell ⟨b, 1, none⟩ (.int .i64 u.1.kp)).setCell ⟨b, 2, none⟩ (.int .i64 u.1.ep)).setCell ⟨b, 3, none⟩ (.int .i64 u.1.ef)).setCell ⟨b, 4, none⟩ (.int .i64 u.1.er)).setCell ⟨b, 5, none⟩ (.int .u64 u.2)
section
variable {W wr w5 w6 w7 : World} {lb xb g : Nat} {d l : List Rc} {c c' u : Us} {q : Bool} {us us' : List Us} {L L' : List Rc} {v v' : Value} {room k : Int}
theorem six_blk {w : World} {b : Nat} {t : TypeId} (h : Blk w b t (usC c)) (u : Us) : Blk (six w b u) b t (usC u) := (((((h.set 0 (.int .i64 u.1.kr)).set 1 (.int .i64 u.1.kp)).set 2 (.int .i64 u.1.ep)).set 3 (.int .i64 u.1.ef)).set 4 (.int .i64 u.1.er)).set 5 (.int .u64 u.2)
theorem six_kq (w : World) (b : Nat) (u : Us) : Kq [b] w (six w b u) := ((((((Kq.refl [b] w).setCell b 0 _ (.inl (by simp))).setCell b 1 _ (.inl (by simp))).setCell b 2 _ (.inl (by simp))).setCell b 3 _ (.inl (by simp))).setCell b 4 _ (.inl (by simp))).setCell b 5 _ (.inl (by simp))
/-- one more is told: the row grows (w5), its place is made anew (w6), the next is taken out (w7) and stored -/
theorem LS.next (h : LS W wr lb xb d l c true us L v) (ho : OwnT 5 w5 (lb + 1) 52 v' ((d ++ [c.1]).map Rc.l)) (hg : wr.grownBy w5 v.ownBlock) (hn : ∀ p, v'.ownBlock = some p → v.ownBlock = some p ∨ wr.heap.size < p)
  (h6 : Below w5.heap.size w5 w6) (hx6 : Blk w6 w5.heap.size 170 (usC c)) (h7 : HP w7 lb 173 [] us') (hr : Rel us' L') (hL : L = (if q = true then c'.1 :: L' else [])) (hk : Kq [lb] w6 w7) :
  LS W (six w7 w5.heap.size c') lb w5.heap.size (d ++ [c.1]) l c' q us' L' v' := by
 have hl5 : lb < w5.heap.size := Nat.lt_of_lt_of_le h.h.1.lt hg.size
 have hob : ∀ p, v'.ownBlock = some p → p < w5.heap.size ∧ p ≠ lb := fun p hp => by
  obtain ⟨h1, h2⟩ := World.ownsRow.lt ho.1 p hp
  exact ⟨h2, by omega⟩
 have hvb : ∀ p, v.ownBlock = some p → lb < p := fun p hp => (World.ownsRow.lt h.own.1 p hp).1
 have hs := six_kq w7 w5.heap.size c'
 have hB5 : Below W.heap.size W w5 := h.b.grown hg h.b.size (fun p hp => by have := hvb p hp; have := h.lw; omega)
 refine ⟨?_, six_blk (hx6.kq hk (by simp; omega)) c', ⟨h7.1.kq hs (by simp; omega), h7.2⟩, hr, ?_, fun p hp => by have := (hob p hp).1; omega, hl5, h.lw, ?_⟩
 ·refine ownT_kq (ownT_kq (ownT_kq (T := []) ho (Kq.of_below h6) (by simp)) hk (fun p hp => by have := (hob p hp).2; simpa using this)) hs (fun p hp => by have := (hob p hp).1; simp; omega)
 ·rw [← hL, List.append_assoc]
  exact h.e
 ·have h1 : Below W.heap.size W w6 := hB5.trans (h6.mono hB5.size)
  have h2 : Below W.heap.size w6 w7 := hk.under (fun p hp => by simp at hp; subst hp; exact h.lw) h1.size
  have h3 : Below W.heap.size w7 (six w7 w5.heap.size c') := hs.under (fun p hp => by simp at hp; subst hp; exact hB5.size) (Nat.le_trans h1.size h2.size)
  exact (h1.trans h2).trans h3

end
end Go.Proofs.YteaincdeoajkeaaGreatDoor.Sb
end
section
/- Package stlb, whatever its counter of uses says: List: each once, in any order. -/
namespace Go.Proofs.YteaincdeoajkeaaGreatDoor.Sb
open Go.RowKit Ut Hg
set_option maxRecDepth 100000
set_option linter.unusedVariables false
set_option maxHeartbeats 4000000

/-- what first answers, and what is left, told by the list -/
def FirstQ (l : List Rc) (e : Ending) (w' : World) (b : Nat) (t : TypeId) (pre : List Value) : Prop := ∃ (c : Us) (q : Bool) (us : List Us) (L : List Rc), e = .returned (.tuple #[usV c, .bool q]) ∧ HP w' b t pre us ∧ RelQ us L ∧ l.Perm (if q = true then c.1 :: L else [])
section
variable {W : World} {b o g : Nat} {t : TypeId} {pre : List Value} {us : List Us} {l : List Rc} {room c : Int}
/-- where List's loop is: d is told already, L (behind c, if q) is still to come -/
structure LQ (W wr : World) (lb xb : Nat) (d : List Rc) (l : List Rc) (c : Us) (q : Bool) (us : List Us) (L : List Rc) (v : Value) : Prop where
 own : OwnT 5 wr (lb + 1) 52 v (d.map Rc.l)
 x : Blk wr xb 170 (usC c)
 h : HP wr lb 173 [] us
 r : RelQ us L
 e : (d ++ (if q = true then c.1 :: L else [])).Perm l
 ne : ∀ p, v.ownBlock = some p → p ≠ xb
 xg : lb < xb
 lw : W.heap.size ≤ lb
 b : Below W.heap.size W wr
end
section
variable {W wr w5 w6 w7 : World} {lb xb g : Nat} {d l : List Rc} {c c' u : Us} {q : Bool} {us us' : List Us} {L L' : List Rc} {v v' : Value} {room k : Int}
/-- one more is told: the row grows (w5), its place is made anew (w6), the next is taken out (w7) and stored -/
theorem LQ.next (h : LQ W wr lb xb d l c true us L v) (ho : OwnT 5 w5 (lb + 1) 52 v' ((d ++ [c.1]).map Rc.l)) (hg : wr.grownBy w5 v.ownBlock) (hn : ∀ p, v'.ownBlock = some p → v.ownBlock = some p ∨ wr.heap.size < p)
  (h6 : Below w5.heap.size w5 w6) (hx6 : Blk w6 w5.heap.size 170 (usC c)) (h7 : HP w7 lb 173 [] us') (hr : RelQ us' L') (hL : L.Perm (if q = true then c'.1 :: L' else [])) (hk : Kq [lb] w6 w7) :
  LQ W (six w7 w5.heap.size c') lb w5.heap.size (d ++ [c.1]) l c' q us' L' v' := by
 have hl5 : lb < w5.heap.size := Nat.lt_of_lt_of_le h.h.1.lt hg.size
 have hob : ∀ p, v'.ownBlock = some p → p < w5.heap.size ∧ p ≠ lb := fun p hp => by
  obtain ⟨h1, h2⟩ := World.ownsRow.lt ho.1 p hp
  exact ⟨h2, by omega⟩
 have hvb : ∀ p, v.ownBlock = some p → lb < p := fun p hp => (World.ownsRow.lt h.own.1 p hp).1
 have hs := six_kq w7 w5.heap.size c'
 have hB5 : Below W.heap.size W w5 := h.b.grown hg h.b.size (fun p hp => by have := hvb p hp; have := h.lw; omega)
 refine ⟨?_, six_blk (hx6.kq hk (by simp; omega)) c', ⟨h7.1.kq hs (by simp; omega), h7.2⟩, hr, ?_, fun p hp => by have := (hob p hp).1; omega, hl5, h.lw, ?_⟩
 ·refine ownT_kq (ownT_kq (ownT_kq (T := []) ho (Kq.of_below h6) (by simp)) hk (fun p hp => by have := (hob p hp).2; simpa using this)) hs (fun p hp => by have := (hob p hp).1; simp; omega)
 ·rw [List.append_assoc]
  exact ((List.perm_append_left_iff d).2 ((List.Perm.cons c.1 hL).symm)).trans h.e
 ·have h1 : Below W.heap.size W w6 := hB5.trans (h6.mono hB5.size)
  have h2 : Below W.heap.size w6 w7 := hk.under (fun p hp => by simp at hp; subst hp; exact h.lw) h1.size
  have h3 : Below W.heap.size w7 (six w7 w5.heap.size c') := hs.under (fun p hp => by simp at hp; subst hp; exact hB5.size) (Nat.le_trans h1.size h2.size)
  exact (h1.trans h2).trans h3

end
end Go.Proofs.YteaincdeoajkeaaGreatDoor.Sb
end
section
/- Stage 20, plainly: rights as bits; what is remembered, and what keeps it right (Inv). -/
namespace Go.Proofs.YteaincdeoajkeaaGreatDoor.Mm
open Go.RowKit Go.Shelf Ut Oc Vw Wa
open Sw (Ln tabL ownP fillS addS withS clrS outS loseB goneS leftS Inv19 KeyU kyS ErW toldS tellB)
open Sb (Rc findL withoutL narL narX hadB Once)
set_option linter.unusedVariables false
set_option maxRecDepth 100000

/-- y has no right that x lacks -/
def SubR (y x : Int) : Prop := ∀ m : Nat, m < 16 → Pe.bitB y m = true → Pe.bitB x m = true
theorem SubR.refl (x : Int) : SubR x x := fun _ _ h => h
theorem SubR.trans {x y z : Int} (h : SubR x y) (k : SubR y z) : SubR x z := fun m hm e => k m hm (h m hm e)
theorem bit_and (n : Int) (c : Nat) (hc : c < 16) : (bits .and .i64 n (c : Int) == 0) = !Pe.bitB n c := by
 rw [Pe.i64_and_low n c hc]
 unfold Pe.bitB
 generalize (n % 16).toNat &&& c = z
 by_cases h : z = 0
 ·subst h; rfl
 ·simp [h]
/-- the rights that a map gives, too: what each kind of access comes to is a, b, c -/
def givS (r : Int) (k : Nat) (f : Int → Int) : Int := match k with
 | 0 => r
 | k + 1 => if f k ≠ 0 then bits .andNot .i64 (givS r k f) (if k = 0 then 4 else if k = 1 then 1 else 2) else givS r k f
def giv (r : Int) (f : Int → Int) : Int := givS r 3 f
/-- a translation that a walk says, with rights of what it says -/
def Tr (S : List Int) (L : List Gm.Pl) (x : Ln) : Prop := ∃ r, TrW S L x.kr x.kp x.rt x.lf r x.ep ∧ SubR x.er r
/-- .. that lies where the map says, with no right that the map lacks -/
structure Pg (L : List Gm.Pl) (ep ef er : Int) : Prop where
 th : Gm.thB (Gm.atP L ep) = true
 fr : (Gm.atP L ep).1 = ef
 al : ∀ k : Int, 0 ≤ k → k < 3 → Pe.bitB er (Pe.kindN k) = true → Gm.alwF (Gm.atP L ep) ep k = 0
/-- the shadow's l, the Tlb's q: of pages of E, which were dropped, nothing is said; those of F were written -/
structure Inv (S : List Int) (L : List Gm.Pl) (E F : Int → Bool) (l : List Ln) (q : List Rc) : Prop where
 i19 : Inv19 l
 er : ∀ x ∈ l, 0 ≤ x.er ∧ x.er < 16
 own : ∀ x ∈ l, ownP x.rt = true ∧ ownP x.lf = true
 tr : ∀ x ∈ l, E x.rt = false → E x.lf = false → F x.rt = false → F x.lf = false → Tr S L x
 pg : ∀ x ∈ l, E x.ep = false → Pg L x.ep x.ef x.er
 tl : ∀ y ∈ q, ∃ x ∈ l, x.kr = y.kr ∧ x.kp = y.kp ∧ x.ep = y.ep ∧ x.ef = y.ef ∧ SubR y.er x.er ∧ 0 ≤ y.er ∧ y.er < 16
def noE : Int → Bool := fun _ => false
/-- what the view tells -/
def dF (D : List Bool) : Int → Bool := fun p => decide (0 ≤ p) && D.getD p.toNat false
/-- some are forgotten: of the Tlb, all that the shadow has no more -/
structure Forg (l : List Ln) (q : List Rc) (l' : List Ln) (q' : List Rc) : Prop where
 fl : ∃ f : Ln → Bool, l' = l.filter f
 fq : ∀ y ∈ q', y ∈ q
 fk : ∀ y ∈ q', ∀ x ∈ l, x.kr = y.kr → x.kp = y.kp → x ∈ l'
section
variable {S S' : List Int} {L L' : List Gm.Pl} {E E' F F' : Int → Bool} {l l' l'' : List Ln} {q q' q'' : List Rc}
theorem Forg.refl (l : List Ln) (q : List Rc) : Forg l q l q := ⟨⟨fun _ => true, (List.filter_eq_self.2 (fun _ _ => rfl)).symm⟩, fun y h => h, fun y h x hx _ _ => hx⟩
theorem Forg.mem (h : Forg l q l' q') {x : Ln} (hx : x ∈ l') : x ∈ l := by
 obtain ⟨f, rfl⟩ := h.fl
 exact (List.mem_filter.1 hx).1
theorem Forg.trans (h : Forg l q l' q') (k : Forg l' q' l'' q'') : Forg l q l'' q'' := by
 refine ⟨?_, fun y hy => h.fq y (k.fq y hy), fun y hy x hx e1 e2 => k.fk y hy x (h.fk y (k.fq y hy) x hx e1 e2) e1 e2⟩
 obtain ⟨f, e⟩ := h.fl
 obtain ⟨g, e2⟩ := k.fl
 refine ⟨fun x => f x && g x, ?_⟩
 rw [e2, e, List.filter_filter]
 congr 1
 funext x
 exact Bool.and_comm _ _
theorem Inv.nil : Inv S L E F [] [] := ⟨Inv19.nil, (fun x hx => by cases hx), (fun x hx => by cases hx), (fun x hx => by cases hx), (fun x hx => by cases hx), fun y hy => by cases hy⟩
/-- another page is written, and that is known -/
theorem Inv.write (h : Inv S L E F l q) (hS : S.length = 2048) (hL : Lay L) {j : Nat} (hj : j < 12) (hth : Gm.thB (Gm.plN L j) = true) {xs : List Int} (hx : xs.length = 64) (hF : ∀ p, F p = true → F' p = true) (hFj : F' j = true) : Inv (Fr.layF S (frN L j) xs) L E F' l q := by
 refine ⟨h.i19, h.er, h.own, fun x hx e1 e2 f1 f2 => ?_, h.pg, h.tl⟩
 have hn : ∀ p, F' p = false → F p = false := fun p hp => by
  cases hq : F p with
  | false => rfl
  | true => rw [hF p hq] at hp; cases hp
 obtain ⟨r, h1, h2⟩ := h.tr x hx e1 e2 (hn _ f1) (hn _ f2)
 exact ⟨r, h1.write hS hL hj hth (fun e => by rw [e, hFj] at f1; cases f1) (fun e => by rw [e, hFj] at f2; cases f2) ‹_›, h2⟩
theorem Pg.congr {ep ef er : Int} (h : Pg L ep ef er) (e : Gm.atP L' ep = Gm.atP L ep) : Pg L' ep ef er := ⟨by rw [e]; exact h.th, by rw [e]; exact h.fr, fun k k0 k1 hb => by rw [e]; exact h.al k k0 k1 hb⟩
theorem at_drop (L : List Gm.Pl) (p k : Int) (hL : Gm.Okay L) (h : k ≠ p) : Gm.atP (Gm.drL L p) k = Gm.atP L k := by
 unfold Gm.drL
 by_cases he : Gm.drE L p = 0
 ·rw [if_pos he]
  have hp : 0 ≤ p := by
   unfold Gm.drE at he
   by_cases h2 : 0 ≤ p ∧ p < 12
   ·exact h2.1
   ·rw [if_neg h2] at he; exact absurd he (by decide)
  unfold Gm.atP
  by_cases h2 : 0 ≤ k ∧ k < 12
  ·rw [if_pos h2, if_pos h2]
   exact Gm.plN_other L p.toNat k.toNat (by omega) _
  ·rw [if_neg h2, if_neg h2]
 ·rw [if_neg he]
theorem at_set (L : List Gm.Pl) (p k : Int) (pl : Gm.Pl) (h : Gm.thB (Gm.atP L k) = true) : Gm.atP (Gm.setL L p pl) k = Gm.atP L k := by
 unfold Gm.setL
 by_cases he : Gm.setE L p pl = 0
 ·rw [if_pos he]
  have hp : 0 ≤ p ∧ p < 12 ∧ Gm.thB (Gm.plN L p.toNat) ≠ true := by
   unfold Gm.setE at he
   by_cases h2 : 0 ≤ p ∧ p < 12
   ·rw [if_pos h2] at he
    by_cases h3 : Gm.okB pl = true
    ·rw [if_pos h3] at he
     by_cases h4 : Gm.thB (Gm.plN L p.toNat) = true
     ·rw [if_pos h4] at he; exact absurd he (by decide)
     ·exact ⟨h2.1, h2.2, h4⟩
    ·rw [if_neg h3] at he; exact absurd he (by decide)
   ·rw [if_neg h2] at he; exact absurd he (by decide)
  unfold Gm.atP at h ⊢
  by_cases h2 : 0 ≤ k ∧ k < 12
  ·rw [if_pos h2] at h ⊢
   rw [if_pos h2]
   exact Gm.plN_other L p.toNat k.toNat (fun e => hp.2.2 (by rw [← e]; exact h)) _
  ·rw [if_neg h2, if_neg h2]
 ·rw [if_neg he]
theorem Inv.drop (h : Inv S L noE F l q) (hS : S.length = 2048) (hL : Gm.Okay L) (p : Int) (hL' : Gm.Okay (Gm.drL L p)) : Inv S (Gm.drL L p) (fun k => k == p) F l q := by
 refine ⟨h.i19, h.er, h.own, fun x hx e1 e2 f1 f2 => ?_, fun x hx e => (h.pg x hx rfl).congr (at_drop L p _ hL (by simpa using e)), h.tl⟩
 obtain ⟨r, h1, h2⟩ := h.tr x hx rfl rfl f1 f2
 exact ⟨r, h1.drop hS hL hL' (by simpa using e1) (by simpa using e2), h2⟩
theorem Inv.set (h : Inv S L noE F l q) (hS : S.length = 2048) (hL : Gm.Okay L) (p : Int) (pl : Gm.Pl) (hL' : Gm.Okay (Gm.setL L p pl)) : Inv S (Gm.setL L p pl) noE F l q := by
 refine ⟨h.i19, h.er, h.own, fun x hx e1 e2 f1 f2 => ?_, fun x hx e => (h.pg x hx rfl).congr (at_set L p _ pl (h.pg x hx rfl).th), h.tl⟩
 obtain ⟨r, h1, h2⟩ := h.tr x hx rfl rfl f1 f2
 exact ⟨r, h1.set hS hL hL', h2⟩
/-- what is remembered lies where the map says -/
theorem alw_bits {L : List Gm.Pl} {ep ef er : Int} (hL : Lay L) (h : Pg L ep ef er) : ((bits .and .i64 er 2 == 0) = false → (bits .and .i64 (Gm.atP L ep).2 2 == 0) = false) ∧ ((bits .and .i64 er 1 == 0) = false → (bits .and .i64 (Gm.atP L ep).2 1 == 0) = false) ∧ ((bits .and .i64 er 4 == 0) = false → ep < 8) := by
 have hbd : 0 ≤ ep ∧ ep < 12 := by
  by_cases h2 : 0 ≤ ep ∧ ep < 12
  ·exact h2
  ·have := h.th
   rw [Gm.atP_no (by omega)] at this
   exact absurd this (by decide)
 obtain ⟨j, rfl⟩ : ∃ j : Nat, ep = j := ⟨ep.toNat, by omega⟩
 have hpl : Gm.atP L (j : Int) = placeP j := by
  have := h.th
  rw [Gm.atP_is (by omega)] at this ⊢
  exact (lay_frame hL (by omega) this).1
 have hbit : ∀ c : Nat, c < 16 → (bits .and .i64 er (c : Int) == 0) = false → Pe.bitB er c = true := fun c hc e => by
  rw [bit_and er c hc] at e
  simpa using e
 have hal : ∀ k : Int, Gm.alwF (Gm.atP L (j : Int)) j k = 0 → Gm.mayB (Gm.atP L (j : Int)) j k = true := fun k h0 => by
  unfold Gm.alwF at h0
  rw [if_pos h.th] at h0
  by_cases hm : Gm.mayB (Gm.atP L (j : Int)) j k = true
  ·exact hm
  ·rw [if_neg hm] at h0; exact absurd h0 (by decide)
 refine ⟨fun e => ?_, fun e => ?_, fun e => ?_⟩
 ·have hm := hal 2 (h.al 2 (by decide) (by decide) (hbit 2 (by decide) e))
  rw [hpl] at hm ⊢
  unfold Gm.mayB placeP at hm
  simp at hm
  unfold placeP
  dsimp only
  rw [show (3 : Int) - 2 * ((j : Int) / 9) = 3 by omega]
  decide
 ·rw [hpl]
  unfold placeP
  dsimp only
  rcases (show (j : Int) / 9 = 0 ∨ (j : Int) / 9 = 1 by omega) with h9 | h9 <;> rw [h9] <;> decide
 ·have hm := hal 0 (h.al 0 (by decide) (by decide) (hbit 4 (by decide) e))
  unfold Gm.mayB at hm
  simpa using hm
theorem Inv.held (h : Inv S L noE F l q) (hL : Lay L) : HeldP L (tabL l) (l.map Ln.kept ++ q.map Rc.l) := fun z hz => by
 have hbit : ∀ (er : Int) (c : Nat), c < 16 → (bits .and .i64 er (c : Int) == 0) = false → Pe.bitB er c = true := fun er c hc e => by
  rw [bit_and er c hc] at e
  simpa using e
 have key : ∀ x ∈ l, ∀ er : Int, SubR er x.er → ((bits .and .i64 er 2 == 0) = false → (bits .and .i64 (Gm.atP L x.ep).2 2 == 0) = false ∧ tabL l x.ep = false) ∧ ((bits .and .i64 er 1 == 0) = false → (bits .and .i64 (Gm.atP L x.ep).2 1 == 0) = false) ∧ ((bits .and .i64 er 4 == 0) = false → x.ep < 8) := fun x hx er hs => by
  have hp := h.pg x hx rfl
  have hp2 : Pg L x.ep x.ef er := ⟨hp.th, hp.fr, fun k k0 k1 hb => hp.al k k0 k1 (hs _ (Pe.kind_lt k) hb)⟩
  obtain ⟨a1, a2, a3⟩ := alw_bits hL hp2
  refine ⟨fun e => ⟨a1 e, ?_⟩, a2, a3⟩
  cases ht : tabL l x.ep with
  | false => rfl
  | true =>
   have h0 := h.i19.p x hx ht
   have h1 := hs 2 (by decide) (hbit er 2 (by decide) e)
   have h2 := bit_and x.er 2 (by decide)
   rw [h1] at h2
   simp at h2
   exact absurd h0 h2
 rcases List.mem_append.1 hz with hz | hz
 ·obtain ⟨x, hx, rfl⟩ := List.mem_map.1 hz
  have hp := h.pg x hx rfl
  obtain ⟨a1, a2, a3⟩ := key x hx x.er (SubR.refl _)
  exact ⟨_, _, _, _, _, rfl, hp.th, hp.fr, a1, a2, a3⟩
 ·obtain ⟨y, hy, rfl⟩ := List.mem_map.1 hz
  obtain ⟨x, hx, e1, e2, e3, e4, hs, _⟩ := h.tl y hy
  have hp := h.pg x hx rfl
  obtain ⟨a1, a2, a3⟩ := key x hx y.er hs
  rw [e3] at hp a1 a2 a3
  rw [e4] at hp
  exact ⟨_, _, _, _, _, rfl, hp.th, hp.fr, a1, a2, a3⟩
end
end Go.Proofs.YteaincdeoajkeaaGreatDoor.Mm
end
