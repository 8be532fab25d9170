/- Several texts in one: Kp Su Kq -/
import Derived.Test.YteaincdeoajkeaaGreatDoorZ23
import Derived.Test.YteaincdeoajkeaaGreatDoorZ28
import Derived.Test.YteaincdeoajkeaaGreatDoorZ35
import Derived.Test.YteaincdeoajkeaaGreatDoorZ03
import Derived.Test.YteaincdeoajkeaaGreatDoorZ06
import Derived.Test.YteaincdeoajkeaaGreatDoorZ21
section
/- Stage 20, plainly: rights as bits; what is remembered, and what keeps it right (Inv). -/
namespace Go.Proofs.YteaincdeoajkeaaGreatDoor.Mm
open Go.RowKit Go.Shelf Ut Oc Vw Wa
open Sw (Ln tabL ownP fillS addS withS clrS outS loseB goneS leftS Inv19 KeyU kyS ErW toldS tellB)
open Sb (Rc findL withoutL narL narX hadB Once)
set_option linter.unusedVariables false
set_option maxRecDepth 100000

/-- y has no right that x lacks -/
def SubR (y x : Int) : Prop := ∀ m : Nat, m < 16 → Pe.bitB y m = true → Pe.bitB x m = true
theorem SubR.refl (x : Int) : SubR x x := fun _ _ h => h
theorem SubR.trans {x y z : Int} (h : SubR x y) (k : SubR y z) : SubR x z := fun m hm e => k m hm (h m hm e)
theorem bit_and (n : Int) (c : Nat) (hc : c < 16) : (bits .and .i64 n (c : Int) == 0) = !Pe.bitB n c := by
  rw [Pe.i64_and_low n c hc]
  unfold Pe.bitB
  generalize (n % 16).toNat &&& c = z
  by_cases h : z = 0
  · subst h; rfl
  · simp [h]
theorem clr16 : ((List.range 16).all fun n => decide (0 ≤ bits .andNot .i64 (n : Int) 2) && decide (bits .andNot .i64 (n : Int) 2 < 16) && !Pe.bitB (bits .andNot .i64 (n : Int) 2) 2 && (List.range 16).all fun m => (!Pe.bitB (bits .andNot .i64 (n : Int) 2) m || Pe.bitB n m) && (!(m == 1 || m == 4 || m == 8) || (Pe.bitB n m == Pe.bitB (bits .andNot .i64 (n : Int) 2) m))) = true := by decide +kernel
/-- the right to write is taken -/
theorem clr_er {r : Int} (h0 : 0 ≤ r) (h1 : r < 16) : 0 ≤ bits .andNot .i64 r 2 ∧ bits .andNot .i64 r 2 < 16 ∧ Pe.bitB (bits .andNot .i64 r 2) 2 = false ∧ SubR (bits .andNot .i64 r 2) r ∧ ∀ m : Nat, m = 1 ∨ m = 4 ∨ m = 8 → Pe.bitB (bits .andNot .i64 r 2) m = Pe.bitB r m := by
  obtain ⟨n, rfl⟩ : ∃ n : Nat, r = n := ⟨r.toNat, by omega⟩
  have h := (List.all_eq_true.1 clr16) n (List.mem_range.2 (by omega))
  simp only [Bool.and_eq_true, decide_eq_true_eq, Bool.not_eq_true', List.all_eq_true, List.mem_range, Bool.or_eq_true] at h
  refine ⟨h.1.1.1, h.1.1.2, h.1.2, fun m hm e => ?_, fun m hm => ?_⟩
  · rcases (h.2 m hm).1 with h | h
    · rw [e] at h; cases h
    · exact h
  · have h2 := (h.2 m (by omega)).2
    rcases h2 with h2 | h2
    · rcases hm with rfl | rfl | rfl <;> simp at h2
    · exact (beq_iff_eq.1 h2).symm
/-- the rights that a map gives, too: what each kind of access comes to is a, b, c -/
def givS (r : Int) (k : Nat) (f : Int → Int) : Int := match k with
  | 0 => r
  | k + 1 => if f k ≠ 0 then bits .andNot .i64 (givS r k f) (if k = 0 then 4 else if k = 1 then 1 else 2) else givS r k f
def giv (r : Int) (f : Int → Int) : Int := givS r 3 f
theorem giv_eq (r : Int) (f : Int → Int) : giv r f = (fun a b c : Bool => let r0 := if a then bits .andNot .i64 r 4 else r; let r1 := if b then bits .andNot .i64 r0 1 else r0; if c then bits .andNot .i64 r1 2 else r1) (decide (f 0 ≠ 0)) (decide (f 1 ≠ 0)) (decide (f 2 ≠ 0)) := by
  unfold giv givS givS givS givS
  simp only [decide_eq_true_eq]
  rfl
theorem giv16 : ((List.range 16).all fun n => [true, false].all fun a => [true, false].all fun b => [true, false].all fun c =>
    let g := (fun a b c : Bool => let r0 := if a then bits .andNot .i64 (n : Int) 4 else (n : Int); let r1 := if b then bits .andNot .i64 r0 1 else r0; if c then bits .andNot .i64 r1 2 else r1) a b c
    decide (0 ≤ g) && decide (g < 16) && (!a || !Pe.bitB g 4) && (!b || !Pe.bitB g 1) && (!c || !Pe.bitB g 2) && ((List.range 16).all fun m => !Pe.bitB g m || Pe.bitB n m) && (a || (Pe.bitB g 4 == Pe.bitB n 4)) && (b || (Pe.bitB g 1 == Pe.bitB n 1)) && (c || (Pe.bitB g 2 == Pe.bitB n 2)) && (Pe.bitB g 8 == Pe.bitB n 8)) = true := by decide +kernel
theorem giv_er {r : Int} (f : Int → Int) (h0 : 0 ≤ r) (h1 : r < 16) : 0 ≤ giv r f ∧ giv r f < 16 ∧ SubR (giv r f) r ∧ (∀ k : Int, 0 ≤ k → k < 3 → Pe.bitB (giv r f) (Pe.kindN k) = true → f k = 0) ∧ (f 1 = 0 → Pe.bitB (giv r f) 1 = Pe.bitB r 1) ∧ Pe.bitB (giv r f) 8 = Pe.bitB r 8 := by
  obtain ⟨n, rfl⟩ : ∃ n : Nat, r = n := ⟨r.toNat, by omega⟩
  rw [giv_eq]
  have ha : ∀ z : Int, decide (z ≠ 0) ∈ [true, false] := fun z => by cases decide (z ≠ 0) <;> simp
  have h := (List.all_eq_true.1 ((List.all_eq_true.1 ((List.all_eq_true.1 ((List.all_eq_true.1 giv16) n (List.mem_range.2 (by omega)))) _ (ha (f 0)))) _ (ha (f 1)))) _ (ha (f 2))
  dsimp only at h ⊢
  generalize (if decide (f 2 ≠ 0) = true then bits .andNot .i64 (if decide (f 1 ≠ 0) = true then bits .andNot .i64 (if decide (f 0 ≠ 0) = true then bits .andNot .i64 (n : Int) 4 else (n : Int)) 1 else if decide (f 0 ≠ 0) = true then bits .andNot .i64 (n : Int) 4 else (n : Int)) 2 else if decide (f 1 ≠ 0) = true then bits .andNot .i64 (if decide (f 0 ≠ 0) = true then bits .andNot .i64 (n : Int) 4 else (n : Int)) 1 else if decide (f 0 ≠ 0) = true then bits .andNot .i64 (n : Int) 4 else (n : Int)) = g at h ⊢
  simp only [Bool.and_eq_true, decide_eq_true_eq, Bool.not_eq_true', List.all_eq_true, List.mem_range, Bool.or_eq_true, decide_eq_false_iff_not, ne_eq, Decidable.not_not, beq_iff_eq] at h
  obtain ⟨⟨⟨⟨⟨⟨⟨⟨⟨a0, a1⟩, b4⟩, b1⟩, b2⟩, sb⟩, c4⟩, c1⟩, c2⟩, c8⟩ := h
  refine ⟨a0, a1, fun m hm e => ?_, fun k k0 k3 e => ?_, fun h => ?_, c8⟩
  · rcases sb m hm with h | h
    · rw [e] at h; cases h
    · exact h
  · rcases (show k = 0 ∨ k = 1 ∨ k = 2 by omega) with rfl | rfl | rfl
    · rcases b4 with h | h
      · exact h
      · rw [show Pe.kindN 0 = 4 from rfl, h] at e; cases e
    · rcases b1 with h | h
      · exact h
      · rw [show Pe.kindN 1 = 1 from rfl, h] at e; cases e
    · rcases b2 with h | h
      · exact h
      · rw [show Pe.kindN 2 = 2 from rfl, h] at e; cases e
  · rcases c1 with h2 | h2
    · exact absurd h h2
    · exact h2

/-- a translation that a walk says, with rights of what it says -/
def Tr (S : List Int) (L : List Gm.Pl) (x : Ln) : Prop := ∃ r, TrW S L x.kr x.kp x.rt x.lf r x.ep ∧ SubR x.er r
/-- .. that lies where the map says, with no right that the map lacks -/
structure Pg (L : List Gm.Pl) (ep ef er : Int) : Prop where
  th : Gm.thB (Gm.atP L ep) = true
  fr : (Gm.atP L ep).1 = ef
  al : ∀ k : Int, 0 ≤ k → k < 3 → Pe.bitB er (Pe.kindN k) = true → Gm.alwF (Gm.atP L ep) ep k = 0
/-- the shadow's l, the Tlb's q: of pages of E, which were dropped, nothing is said; those of F were written -/
structure Inv (S : List Int) (L : List Gm.Pl) (E F : Int → Bool) (l : List Ln) (q : List Rc) : Prop where
  i19 : Inv19 l
  er : ∀ x ∈ l, 0 ≤ x.er ∧ x.er < 16
  own : ∀ x ∈ l, ownP x.rt = true ∧ ownP x.lf = true
  tr : ∀ x ∈ l, E x.rt = false → E x.lf = false → F x.rt = false → F x.lf = false → Tr S L x
  pg : ∀ x ∈ l, E x.ep = false → Pg L x.ep x.ef x.er
  tl : ∀ y ∈ q, ∃ x ∈ l, x.kr = y.kr ∧ x.kp = y.kp ∧ x.ep = y.ep ∧ x.ef = y.ef ∧ SubR y.er x.er ∧ 0 ≤ y.er ∧ y.er < 16
def noE : Int → Bool := fun _ => false
/-- what the view tells -/
def dF (D : List Bool) : Int → Bool := fun p => decide (0 ≤ p) && D.getD p.toNat false
/-- some are forgotten: of the Tlb, all that the shadow has no more -/
structure Forg (l : List Ln) (q : List Rc) (l' : List Ln) (q' : List Rc) : Prop where
  fl : ∃ f : Ln → Bool, l' = l.filter f
  fq : ∀ y ∈ q', y ∈ q
  fk : ∀ y ∈ q', ∀ x ∈ l, x.kr = y.kr → x.kp = y.kp → x ∈ l'
section
variable {S S' : List Int} {L L' : List Gm.Pl} {E E' F F' : Int → Bool} {l l' l'' : List Ln} {q q' q'' : List Rc}
theorem Forg.refl (l : List Ln) (q : List Rc) : Forg l q l q := ⟨⟨fun _ => true, (List.filter_eq_self.2 (fun _ _ => rfl)).symm⟩, fun y h => h, fun y h x hx _ _ => hx⟩
theorem Forg.mem (h : Forg l q l' q') {x : Ln} (hx : x ∈ l') : x ∈ l := by
  obtain ⟨f, rfl⟩ := h.fl
  exact (List.mem_filter.1 hx).1
theorem Forg.trans (h : Forg l q l' q') (k : Forg l' q' l'' q'') : Forg l q l'' q'' := by
  refine ⟨?_, fun y hy => h.fq y (k.fq y hy), fun y hy x hx e1 e2 => k.fk y hy x (h.fk y (k.fq y hy) x hx e1 e2) e1 e2⟩
  obtain ⟨f, e⟩ := h.fl
  obtain ⟨g, e2⟩ := k.fl
  refine ⟨fun x => f x && g x, ?_⟩
  rw [e2, e, List.filter_filter]
  congr 1
  funext x
  exact Bool.and_comm _ _
theorem Inv.forg (h : Inv S L E F l q) (k : Forg l q l' q') : Inv S L E F l' q' := by
  refine ⟨?_, fun x hx => h.er x (k.mem hx), fun x hx => h.own x (k.mem hx), fun x hx => h.tr x (k.mem hx), fun x hx => h.pg x (k.mem hx), fun y hy => ?_⟩
  · obtain ⟨f, rfl⟩ := k.fl
    exact h.i19.filter f
  · obtain ⟨x, hx, e1, e2, e3⟩ := h.tl y (k.fq y hy)
    exact ⟨x, k.fk y hy x hx e1 e2, e1, e2, e3⟩
theorem Inv.clean (h : Inv S L E F l q) (hF : ∀ x ∈ l, F' x.rt = false → F' x.lf = false → F x.rt = false ∧ F x.lf = false) : Inv S L E F' l q :=
  ⟨h.i19, h.er, h.own, fun x hx e1 e2 f1 f2 => h.tr x hx e1 e2 (hF x hx f1 f2).1 (hF x hx f1 f2).2, h.pg, h.tl⟩
theorem Inv.lift (h : Inv S L E F l q) (hE : ∀ x ∈ l, E x.rt = false ∧ E x.lf = false ∧ E x.ep = false) : Inv S L E' F l q :=
  ⟨h.i19, h.er, h.own, fun x hx _ _ => h.tr x hx (hE x hx).1 (hE x hx).2.1, fun x hx _ => h.pg x hx (hE x hx).2.2, h.tl⟩
theorem Inv.nil : Inv S L E F [] [] := ⟨Inv19.nil, (fun x hx => by cases hx), (fun x hx => by cases hx), (fun x hx => by cases hx), (fun x hx => by cases hx), fun y hy => by cases hy⟩
theorem Inv.erW (h : Inv S L E F l q) : ErW l := fun x hx => by have := h.er x hx; omega
/-- another page is written, and that is known -/
theorem Inv.write (h : Inv S L E F l q) (hS : S.length = 2048) (hL : Lay L) {j : Nat} (hj : j < 12) (hth : Gm.thB (Gm.plN L j) = true) {xs : List Int} (hx : xs.length = 64) (hF : ∀ p, F p = true → F' p = true) (hFj : F' j = true) : Inv (Fr.layF S (frN L j) xs) L E F' l q := by
  refine ⟨h.i19, h.er, h.own, fun x hx e1 e2 f1 f2 => ?_, h.pg, h.tl⟩
  have hn : ∀ p, F' p = false → F p = false := fun p hp => by
    cases hq : F p with
    | false => rfl
    | true => rw [hF p hq] at hp; cases hp
  obtain ⟨r, h1, h2⟩ := h.tr x hx e1 e2 (hn _ f1) (hn _ f2)
  exact ⟨r, h1.write hS hL hj hth (fun e => by rw [e, hFj] at f1; cases f1) (fun e => by rw [e, hFj] at f2; cases f2) ‹_›, h2⟩
theorem Pg.congr {ep ef er : Int} (h : Pg L ep ef er) (e : Gm.atP L' ep = Gm.atP L ep) : Pg L' ep ef er := ⟨by rw [e]; exact h.th, by rw [e]; exact h.fr, fun k k0 k1 hb => by rw [e]; exact h.al k k0 k1 hb⟩
theorem at_drop (L : List Gm.Pl) (p k : Int) (hL : Gm.Okay L) (h : k ≠ p) : Gm.atP (Gm.drL L p) k = Gm.atP L k := by
  unfold Gm.drL
  by_cases he : Gm.drE L p = 0
  · rw [if_pos he]
    have hp : 0 ≤ p := by
      unfold Gm.drE at he
      by_cases h2 : 0 ≤ p ∧ p < 12
      · exact h2.1
      · rw [if_neg h2] at he; exact absurd he (by decide)
    unfold Gm.atP
    by_cases h2 : 0 ≤ k ∧ k < 12
    · rw [if_pos h2, if_pos h2]
      exact Gm.plN_other L p.toNat k.toNat (by omega) _
    · rw [if_neg h2, if_neg h2]
  · rw [if_neg he]
theorem at_set (L : List Gm.Pl) (p k : Int) (pl : Gm.Pl) (h : Gm.thB (Gm.atP L k) = true) : Gm.atP (Gm.setL L p pl) k = Gm.atP L k := by
  unfold Gm.setL
  by_cases he : Gm.setE L p pl = 0
  · rw [if_pos he]
    have hp : 0 ≤ p ∧ p < 12 ∧ Gm.thB (Gm.plN L p.toNat) ≠ true := by
      unfold Gm.setE at he
      by_cases h2 : 0 ≤ p ∧ p < 12
      · rw [if_pos h2] at he
        by_cases h3 : Gm.okB pl = true
        · rw [if_pos h3] at he
          by_cases h4 : Gm.thB (Gm.plN L p.toNat) = true
          · rw [if_pos h4] at he; exact absurd he (by decide)
          · exact ⟨h2.1, h2.2, h4⟩
        · rw [if_neg h3] at he; exact absurd he (by decide)
      · rw [if_neg h2] at he; exact absurd he (by decide)
    unfold Gm.atP at h ⊢
    by_cases h2 : 0 ≤ k ∧ k < 12
    · rw [if_pos h2] at h ⊢
      rw [if_pos h2]
      exact Gm.plN_other L p.toNat k.toNat (fun e => hp.2.2 (by rw [← e]; exact h)) _
    · rw [if_neg h2, if_neg h2]
  · rw [if_neg he]
theorem Inv.drop (h : Inv S L noE F l q) (hS : S.length = 2048) (hL : Gm.Okay L) (p : Int) (hL' : Gm.Okay (Gm.drL L p)) : Inv S (Gm.drL L p) (fun k => k == p) F l q := by
  refine ⟨h.i19, h.er, h.own, fun x hx e1 e2 f1 f2 => ?_, fun x hx e => (h.pg x hx rfl).congr (at_drop L p _ hL (by simpa using e)), h.tl⟩
  obtain ⟨r, h1, h2⟩ := h.tr x hx rfl rfl f1 f2
  exact ⟨r, h1.drop hS hL hL' (by simpa using e1) (by simpa using e2), h2⟩
theorem Inv.set (h : Inv S L noE F l q) (hS : S.length = 2048) (hL : Gm.Okay L) (p : Int) (pl : Gm.Pl) (hL' : Gm.Okay (Gm.setL L p pl)) : Inv S (Gm.setL L p pl) noE F l q := by
  refine ⟨h.i19, h.er, h.own, fun x hx e1 e2 f1 f2 => ?_, fun x hx e => (h.pg x hx rfl).congr (at_set L p _ pl (h.pg x hx rfl).th), h.tl⟩
  obtain ⟨r, h1, h2⟩ := h.tr x hx rfl rfl f1 f2
  exact ⟨r, h1.set hS hL hL', h2⟩
/-- what is remembered lies where the map says -/
theorem alw_bits {L : List Gm.Pl} {ep ef er : Int} (hL : Lay L) (h : Pg L ep ef er) : ((bits .and .i64 er 2 == 0) = false → (bits .and .i64 (Gm.atP L ep).2 2 == 0) = false) ∧ ((bits .and .i64 er 1 == 0) = false → (bits .and .i64 (Gm.atP L ep).2 1 == 0) = false) ∧ ((bits .and .i64 er 4 == 0) = false → ep < 8) := by
  have hbd : 0 ≤ ep ∧ ep < 12 := by
    by_cases h2 : 0 ≤ ep ∧ ep < 12
    · exact h2
    · have := h.th
      rw [Gm.atP_no (by omega)] at this
      exact absurd this (by decide)
  obtain ⟨j, rfl⟩ : ∃ j : Nat, ep = j := ⟨ep.toNat, by omega⟩
  have hpl : Gm.atP L (j : Int) = placeP j := by
    have := h.th
    rw [Gm.atP_is (by omega)] at this ⊢
    exact (lay_frame hL (by omega) this).1
  have hbit : ∀ c : Nat, c < 16 → (bits .and .i64 er (c : Int) == 0) = false → Pe.bitB er c = true := fun c hc e => by
    rw [bit_and er c hc] at e
    simpa using e
  have hal : ∀ k : Int, Gm.alwF (Gm.atP L (j : Int)) j k = 0 → Gm.mayB (Gm.atP L (j : Int)) j k = true := fun k h0 => by
    unfold Gm.alwF at h0
    rw [if_pos h.th] at h0
    by_cases hm : Gm.mayB (Gm.atP L (j : Int)) j k = true
    · exact hm
    · rw [if_neg hm] at h0; exact absurd h0 (by decide)
  refine ⟨fun e => ?_, fun e => ?_, fun e => ?_⟩
  · have hm := hal 2 (h.al 2 (by decide) (by decide) (hbit 2 (by decide) e))
    rw [hpl] at hm ⊢
    unfold Gm.mayB placeP at hm
    simp at hm
    unfold placeP
    dsimp only
    rw [show (3 : Int) - 2 * ((j : Int) / 9) = 3 by omega]
    decide
  · rw [hpl]
    unfold placeP
    dsimp only
    rcases (show (j : Int) / 9 = 0 ∨ (j : Int) / 9 = 1 by omega) with h9 | h9 <;> rw [h9] <;> decide
  · have hm := hal 0 (h.al 0 (by decide) (by decide) (hbit 4 (by decide) e))
    unfold Gm.mayB at hm
    simpa using hm
theorem Inv.held (h : Inv S L noE F l q) (hL : Lay L) : HeldP L (tabL l) (l.map Ln.kept ++ q.map Rc.l) := fun z hz => by
  have hbit : ∀ (er : Int) (c : Nat), c < 16 → (bits .and .i64 er (c : Int) == 0) = false → Pe.bitB er c = true := fun er c hc e => by
    rw [bit_and er c hc] at e
    simpa using e
  have key : ∀ x ∈ l, ∀ er : Int, SubR er x.er → ((bits .and .i64 er 2 == 0) = false → (bits .and .i64 (Gm.atP L x.ep).2 2 == 0) = false ∧ tabL l x.ep = false) ∧ ((bits .and .i64 er 1 == 0) = false → (bits .and .i64 (Gm.atP L x.ep).2 1 == 0) = false) ∧ ((bits .and .i64 er 4 == 0) = false → x.ep < 8) := fun x hx er hs => by
    have hp := h.pg x hx rfl
    have hp2 : Pg L x.ep x.ef er := ⟨hp.th, hp.fr, fun k k0 k1 hb => hp.al k k0 k1 (hs _ (Pe.kind_lt k) hb)⟩
    obtain ⟨a1, a2, a3⟩ := alw_bits hL hp2
    refine ⟨fun e => ⟨a1 e, ?_⟩, a2, a3⟩
    cases ht : tabL l x.ep with
    | false => rfl
    | true =>
      have h0 := h.i19.p x hx ht
      have h1 := hs 2 (by decide) (hbit er 2 (by decide) e)
      have h2 := bit_and x.er 2 (by decide)
      rw [h1] at h2
      simp at h2
      exact absurd h0 h2
  rcases List.mem_append.1 hz with hz | hz
  · obtain ⟨x, hx, rfl⟩ := List.mem_map.1 hz
    have hp := h.pg x hx rfl
    obtain ⟨a1, a2, a3⟩ := key x hx x.er (SubR.refl _)
    exact ⟨_, _, _, _, _, rfl, hp.th, hp.fr, a1, a2, a3⟩
  · obtain ⟨y, hy, rfl⟩ := List.mem_map.1 hz
    obtain ⟨x, hx, e1, e2, e3, e4, hs, _⟩ := h.tl y hy
    have hp := h.pg x hx rfl
    obtain ⟨a1, a2, a3⟩ := key x hx y.er hs
    rw [e3] at hp a1 a2 a3
    rw [e4] at hp
    exact ⟨_, _, _, _, _, rfl, hp.th, hp.fr, a1, a2, a3⟩
end
end Go.Proofs.YteaincdeoajkeaaGreatDoor.Mm
end
section
/- Drawn regions whose invariant looks at which operations are done and at what they yielded: blocks made in them, whose numbers hang on the order drawn, calls that write, stores in the middle. Serves all packages. -/
namespace Go.Proofs.YteaincdeoajkeaaGreatDoor.Ut
open Go.RowKit
set_option linter.unusedVariables false

section
variable {P : Program} {ops : Array Oper} {Q : Exit → Act → World → Prop} {T : (Nat → Value) → Array Value} {d : List Deferred} {R : Nat → Value → Prop} {WI : (Nat → Bool) → (Nat → Value) → World → Prop}
/-- what is asked of operation o, number i -/
def StepX (P : Program) (ops : Array Oper) (Q : Exit → Act → World → Prop) (T : (Nat → Value) → Array Value) (d : List Deferred) (R : Nat → Value → Prop) (WI : (Nat → Bool) → (Nat → Value) → World → Prop) (i : Nat) (o : Oper) : Prop :=
  ∀ (L : Nat → Bool) (x : Nat → Value) (w : World), L i = false → Closed ops L → WI L x w → (∀ j ∈ depsOf o, L j = true ∧ R j (x j)) → ∀ K : Act → World → Prop, (∀ v w' tm, tm = T (upd x i v) → R i v → WI (fun j => if j = i then true else L j) (upd x i v) w' → K { tmps := tm, defers := d } w') →
    if Region.wanted o (yielded ops (T x)) = true then Oper.wp P o { tmps := T x, defers := d } w K Q else K (Act.put { tmps := T x, defers := d } o.dst undef) w
/-- .. of the last one -/
def LastX (P : Program) (ops : Array Oper) (Q : Exit → Act → World → Prop) (T : (Nat → Value) → Array Value) (d : List Deferred) (R : Nat → Value → Prop) (WI : (Nat → Bool) → (Nat → Value) → World → Prop) (i : Nat) (o : Oper) : Prop :=
  ∀ (L : Nat → Bool) (x : Nat → Value) (w : World), L i = false → (∀ j, j < i → L j = true) → WI L x w → (∀ j, j < i → R j (x j)) → ∀ K : Act → World → Prop, (∀ a' w', Q .normal a' w' → K a' w') →
    if Region.wanted o (yielded ops (T x)) = true then Oper.wp P o { tmps := T x, defers := d } w K Q else K (Act.put { tmps := T x, defers := d } o.dst undef) w
/-- the operations from number k on -/
def StepsX (P : Program) (ops : Array Oper) (Q : Exit → Act → World → Prop) (T : (Nat → Value) → Array Value) (d : List Deferred) (R : Nat → Value → Prop) (WI : (Nat → Bool) → (Nat → Value) → World → Prop) (k : Nat) (l : List Oper) : Prop :=
  ∀ j o, l[j]? = some o → if j + 1 = l.length then LastX P ops Q T d R WI (k + j) o else StepX P ops Q T d R WI (k + j) o
theorem x_steps_last {k : Nat} {o : Oper} (h : LastX P ops Q T d R WI k o) : StepsX P ops Q T d R WI k [o] := fun j o' hj => by
  cases j with
  | zero => simp at hj; subst hj; simpa using h
  | succ j => simp at hj
theorem x_steps_cons {k : Nat} {o o' : Oper} {l : List Oper} (h : StepX P ops Q T d R WI k o) (hs : StepsX P ops Q T d R WI (k + 1) (o' :: l)) : StepsX P ops Q T d R WI k (o :: o' :: l) := fun j p hj => by
  cases j with
  | zero =>
    simp at hj
    subst hj
    simpa using h
  | succ j =>
    have := hs j p (by simpa using hj)
    simp only [List.length_cons] at this ⊢
    have e : k + (j + 1) = k + 1 + j := by omega
    rw [e]
    by_cases hl : j + 1 = l.length + 1
    · rw [if_pos (by omega)]; rwa [if_pos hl] at this
    · rw [if_neg (by omega)]; rwa [if_neg hl] at this
theorem wpAny_x (hok : goodOrder ops = true) (hs : StepsX P ops Q T d R WI 0 ops.toList) :
    ∀ (fuel : Nat) (L : Array Bool) (x : Nat → Value) (w : World), L.size = ops.size → L.toList.count false ≤ fuel → L.getD (ops.size - 1) true = false →
      (∀ k o, ops[k]? = some o → L.getD k true = true → ∀ j ∈ depsOf o, L.getD j true = true) → WI (fun j => L.getD j true) x w → (∀ j, j < ops.size → L.getD j true = true → R j (x j)) →
      wpAny P .any ops Q fuel L { tmps := T x, defers := d } w := by
  unfold goodOrder at hok
  simp only [Bool.and_eq_true, List.all_eq_true, List.mem_range, List.any_eq_true, decide_eq_true_eq] at hok
  obtain ⟨ho1, ho2⟩ := hok
  have hdep : ∀ k o, ops[k]? = some o → ∀ j ∈ depsOf o, j < k := fun k o hk j hj => by
    have hlt : k < ops.size := (Array.getElem?_eq_some_iff.1 hk).1
    have := ho1 k hlt
    simp only [hk, Option.map_some, Option.getD_some, List.all_eq_true, decide_eq_true_eq] at this
    exact this j hj
  have hnext : ∀ j, j < ops.size - 1 → ∃ k o, ops[k]? = some o ∧ j < k ∧ j ∈ depsOf o := fun j hj => by
    obtain ⟨k, hk, hjk, hc⟩ := ho2 j hj
    refine ⟨k, ops[k], by simp [hk], hjk, ?_⟩
    simpa [hk] using hc
  intro fuel
  induction fuel with
  | zero =>
    intro L x w hsz hc hlast _ _ _
    exfalso
    have h2 : false ∈ L.toList := by
      have hlt : ops.size - 1 < L.size := by
        rcases Nat.lt_or_ge (ops.size - 1) L.size with h | h
        · exact h
        · rw [Array.getD, dif_neg (by omega)] at hlast; cases hlast
      rw [Array.getD, dif_pos hlt] at hlast
      rw [← hlast]; exact Array.mem_toList_iff.2 (Array.getElem_mem hlt)
    have := List.count_pos_iff.2 h2
    omega
  | succ fuel ih =>
    intro L x w hsz hc hlast hcl hw hR
    have hlt : ops.size - 1 < ops.size := by
      rcases Nat.lt_or_ge (ops.size - 1) L.size with h | h
      · omega
      · rw [Array.getD, dif_neg (by omega)] at hlast; cases hlast
    have hready : ∀ i, i ∈ Region.ready .any ops L ↔ ∃ o, ops[i]? = some o ∧ L.getD i true = false ∧ ∀ j ∈ depsOf o, L.getD j true = true := fun i => by
      unfold Region.ready
      simp only [List.mem_filter, List.mem_range, Bool.and_eq_true, Bool.not_eq_true']
      constructor
      · rintro ⟨hi, hn, hd⟩
        refine ⟨ops[i], by simp [hi], hn, fun j hj => ?_⟩
        have hj' := hdep i ops[i] (by simp [hi]) j hj
        simp only [depsOf, List.mem_map, List.mem_filter, Array.mem_toList_iff] at hj
        obtain ⟨e, ⟨he, hb⟩, rfl⟩ := hj
        simp only [Array.getElem?_eq_getElem hi, Option.map_some, Option.getD_some, Array.all_eq_true'] at hd
        have := hd e he
        simp only [hb, Bool.not_true, Bool.false_or] at this
        rw [Array.getD, dif_pos (by omega)] at this ⊢
        exact this
      · rintro ⟨o, ho, hn, hd⟩
        have hi : i < ops.size := (Array.getElem?_eq_some_iff.1 ho).1
        refine ⟨hi, hn, ?_⟩
        simp only [ho, Option.map_some, Option.getD_some, Array.all_eq_true']
        intro e he
        cases hb : Region.binds .any e with
        | false => rfl
        | true =>
          have hmem : e.on ∈ depsOf o := by
            simp only [depsOf, List.mem_map, List.mem_filter, Array.mem_toList_iff]
            exact ⟨e, ⟨he, hb⟩, rfl⟩
          have h1 := hd _ hmem
          have h2 := hdep i o ho _ hmem
          simp only [Bool.not_true, Bool.false_or]
          rw [Array.getD, dif_pos (by omega)] at h1 ⊢
          exact h1
    refine ⟨fun h0 => ?_, fun i hi => ?_⟩
    · -- the least one that is not listed may come up
      exfalso
      have key : ∀ i, i < ops.size → L.getD i true = true := by
        intro i
        induction i using Nat.strongRecOn with
        | _ i ihi =>
          intro hi
          cases hLi : L.getD i true with
          | true => rfl
          | false =>
            have : i ∈ Region.ready .any ops L := (hready i).2 ⟨ops[i], by simp [hi], hLi, fun j hj => by
              have hj' := hdep i ops[i] (by simp [hi]) j hj
              exact ihi j hj' (by omega)⟩
            rw [h0] at this; cases this
      rw [key _ hlt] at hlast; cases hlast
    · obtain ⟨o, ho, hn, hd⟩ := (hready i).1 hi
      have hil : i < ops.size := (Array.getElem?_eq_some_iff.1 ho).1
      have hstep := hs i o (by simpa using ho)
      simp only [Array.length_toList, Nat.zero_add] at hstep
      by_cases hlst : i + 1 = ops.size
      · rw [if_pos hlst] at hstep
        obtain rfl : i = ops.size - 1 := by omega
        have hall : ∀ m j, ops.size - 1 - j = m → j < ops.size - 1 → L.getD j true = true := by
          intro m
          induction m using Nat.strongRecOn with
          | _ m ihm =>
            intro j hjm hj
            obtain ⟨k, p, hk, hjk, hmem⟩ := hnext j hj
            have hkl : k < ops.size := (Array.getElem?_eq_some_iff.1 hk).1
            by_cases hkl' : k = ops.size - 1
            · subst hkl'
              rw [ho] at hk; cases hk
              exact hd j hmem
            · exact hcl k p hk (ihm (ops.size - 1 - k) (by omega) k rfl (by omega)) j hmem
        refine wpOp_step ho fun K hK => hstep (fun j => L.getD j true) x w hn (fun j hj => hall _ j rfl hj) hw (fun j hj => hR j (by omega) (hall _ j rfl hj)) K fun a' w' hq => hK _ _ ?_
        refine wpAny_done ?_ hq _
        unfold Region.ready
        rw [List.filter_eq_nil_iff]
        intro j hj
        simp only [List.mem_range] at hj
        rw [getD_set]
        by_cases e : j = ops.size - 1
        · simp [e]
        · simp [e, hall _ j rfl (by omega)]
      · rw [if_neg hlst] at hstep
        refine wpOp_step ho fun K hK => hstep (fun j => L.getD j true) x w hn hcl hw (fun j hj => ⟨hd j hj, hR j (by have := hdep i o ho j hj; omega) (hd j hj)⟩) K fun v w' tm htm hv hw' => hK _ _ ?_
        subst htm
        have hcnt := count_set L i hn
        refine ih _ _ _ (by simpa using hsz) (by omega) ?_ ?_ (by rw [show (fun j => (L.setIfInBounds i true).getD j true) = fun j => if j = i then true else L.getD j true from funext fun j => getD_set L i j]; exact hw') ?_
        · rw [getD_set, if_neg (by omega)]; exact hlast
        · intro k p hk hk2 j hj
          rw [getD_set] at hk2 ⊢
          split
          · rfl
          · by_cases e : k = i
            · subst e
              rw [ho] at hk; cases hk
              exact hd j hj
            · rw [if_neg e] at hk2
              exact hcl k p hk hk2 j hj
        · intro j hj hlj
          rw [getD_set] at hlj
          unfold upd
          by_cases e : j = i
          · subst e; rw [if_pos rfl]; exact hv
          · rw [if_neg e] at hlj ⊢
            exact hR j hj hlj


/-- all that comes ahead lies ahead -/
def aheadAll (ops : Array Oper) : Bool := (List.range ops.size).all fun i => ((ops[i]?).map fun o => (depsOf o).all fun j => decide (j < i)).getD true
theorem wpAny_xa (hok : aheadAll ops = true) (hs : ∀ i o, ops[i]? = some o → StepX P ops Q T d R WI i o) (he : ∀ (L : Nat → Bool) (x : Nat → Value) (w : World), (∀ j, j < ops.size → L j = true) → WI L x w → (∀ j, j < ops.size → R j (x j)) → Q .normal { tmps := T x, defers := d } w) :
    ∀ (fuel : Nat) (L : Array Bool) (x : Nat → Value) (w : World), L.size = ops.size → L.toList.count false ≤ fuel → 
      (∀ k o, ops[k]? = some o → L.getD k true = true → ∀ j ∈ depsOf o, L.getD j true = true) → WI (fun j => L.getD j true) x w → (∀ j, j < ops.size → L.getD j true = true → R j (x j)) →
      wpAny P .any ops Q fuel L { tmps := T x, defers := d } w := by
  unfold aheadAll at hok
  simp only [List.all_eq_true, List.mem_range] at hok
  have ho1 := hok
  have hdep : ∀ k o, ops[k]? = some o → ∀ j ∈ depsOf o, j < k := fun k o hk j hj => by
    have hlt : k < ops.size := (Array.getElem?_eq_some_iff.1 hk).1
    have := ho1 k hlt
    simp only [hk, Option.map_some, Option.getD_some, List.all_eq_true, decide_eq_true_eq] at this
    exact this j hj
  intro fuel
  induction fuel with
  | zero =>
    intro L x w hsz hc hcl hw hR
    have hall : ∀ j, j < ops.size → L.getD j true = true := fun j hj => by
      cases hLj : L.getD j true with
      | true => rfl
      | false =>
        have h2 : false ∈ L.toList := by
          rw [Array.getD, dif_pos (by omega)] at hLj
          rw [← hLj]; exact Array.mem_toList_iff.2 (Array.getElem_mem (by omega))
        have := List.count_pos_iff.2 h2
        omega
    refine wpAny_done ?_ (he _ _ _ hall hw (fun j hj => hR j hj (hall j hj))) _
    unfold Region.ready
    rw [List.filter_eq_nil_iff]
    intro j hj
    simp only [List.mem_range] at hj
    simp [hall j hj]
  | succ fuel ih =>
    intro L x w hsz hc hcl hw hR
    have hready : ∀ i, i ∈ Region.ready .any ops L ↔ ∃ o, ops[i]? = some o ∧ L.getD i true = false ∧ ∀ j ∈ depsOf o, L.getD j true = true := fun i => by
      unfold Region.ready
      simp only [List.mem_filter, List.mem_range, Bool.and_eq_true, Bool.not_eq_true']
      constructor
      · rintro ⟨hi, hn, hd⟩
        refine ⟨ops[i], by simp [hi], hn, fun j hj => ?_⟩
        have hj' := hdep i ops[i] (by simp [hi]) j hj
        simp only [depsOf, List.mem_map, List.mem_filter, Array.mem_toList_iff] at hj
        obtain ⟨e, ⟨he, hb⟩, rfl⟩ := hj
        simp only [Array.getElem?_eq_getElem hi, Option.map_some, Option.getD_some, Array.all_eq_true'] at hd
        have := hd e he
        simp only [hb, Bool.not_true, Bool.false_or] at this
        rw [Array.getD, dif_pos (by omega)] at this ⊢
        exact this
      · rintro ⟨o, ho, hn, hd⟩
        have hi : i < ops.size := (Array.getElem?_eq_some_iff.1 ho).1
        refine ⟨hi, hn, ?_⟩
        simp only [ho, Option.map_some, Option.getD_some, Array.all_eq_true']
        intro e he
        cases hb : Region.binds .any e with
        | false => rfl
        | true =>
          have hmem : e.on ∈ depsOf o := by
            simp only [depsOf, List.mem_map, List.mem_filter, Array.mem_toList_iff]
            exact ⟨e, ⟨he, hb⟩, rfl⟩
          have h1 := hd _ hmem
          have h2 := hdep i o ho _ hmem
          simp only [Bool.not_true, Bool.false_or]
          rw [Array.getD, dif_pos (by omega)] at h1 ⊢
          exact h1
    refine ⟨fun h0 => ?_, fun i hi => ?_⟩
    · -- the least one that is not listed may come up
      have key : ∀ i, i < ops.size → L.getD i true = true := by
        intro i
        induction i using Nat.strongRecOn with
        | _ i ihi =>
          intro hi
          cases hLi : L.getD i true with
          | true => rfl
          | false =>
            have : i ∈ Region.ready .any ops L := (hready i).2 ⟨ops[i], by simp [hi], hLi, fun j hj => by
              have hj' := hdep i ops[i] (by simp [hi]) j hj
              exact ihi j hj' (by omega)⟩
            rw [h0] at this; cases this
      exact he _ _ _ key hw (fun j hj => hR j hj (key j hj))
    · obtain ⟨o, ho, hn, hd⟩ := (hready i).1 hi
      have hil : i < ops.size := (Array.getElem?_eq_some_iff.1 ho).1
      have hstep := hs i o ho
      · refine wpOp_step ho fun K hK => hstep (fun j => L.getD j true) x w hn hcl hw (fun j hj => ⟨hd j hj, hR j (by have := hdep i o ho j hj; omega) (hd j hj)⟩) K fun v w' tm htm hv hw' => hK _ _ ?_
        subst htm
        have hcnt := count_set L i hn
        refine ih _ _ _ (by simpa using hsz) (by omega) ?_ (by rw [show (fun j => (L.setIfInBounds i true).getD j true) = fun j => if j = i then true else L.getD j true from funext fun j => getD_set L i j]; exact hw') ?_
        · intro k p hk hk2 j hj
          rw [getD_set] at hk2 ⊢
          split
          · rfl
          · by_cases e : k = i
            · subst e
              rw [ho] at hk; cases hk
              exact hd j hj
            · rw [if_neg e] at hk2
              exact hcl k p hk hk2 j hj
        · intro j hj hlj
          rw [getD_set] at hlj
          unfold upd
          by_cases e : j = i
          · subst e; rw [if_pos rfl]; exact hv
          · rw [if_neg e] at hlj ⊢
            exact hR j hj hlj


/-- what each operation yields, but those of ns, of which the invariant alone speaks -/
def XR (ns : List Nat) (vals : List Value) (j : Nat) (v : Value) : Prop := ns.contains j = true ∨ v = nth vals j
variable {ns : List Nat} {vals : List Value}
theorem xR_nth {j : Nat} {v u : Value} (h : XR ns vals j v) (hb : ns.contains j = false) (hu : vals[j]? = some u) : v = u := by
  rcases h with h | h
  · rw [hb] at h; cases h
  · exact hd_nth' h hu
theorem x_op {k : Nat} {o o' : Oper} {l : List Oper} (s : Nat) (ds : List Nat) (hd : depsOf o = ds)
    (h : ∀ (L : Nat → Bool) (x : Nat → Value) (w : World), L k = false → Closed ops L → WI L x w → (∀ j ∈ ds, L j = true ∧ XR ns vals j (x j)) → ∀ K : Act → World → Prop, (∀ tm w', tm = T (upd x k (tm.getD s undef)) → tm.getD s undef = nth vals k → WI (fun j => if j = k then true else L j) (upd x k (tm.getD s undef)) w' → K { tmps := tm, defers := d } w') →
      if Region.wanted o (yielded ops (T x)) = true then Oper.wp P o { tmps := T x, defers := d } w K Q else K (Act.put { tmps := T x, defers := d } o.dst undef) w)
    (hs : StepsX P ops Q T d (XR ns vals) WI (k + 1) (o' :: l)) : StepsX P ops Q T d (XR ns vals) WI k (o :: o' :: l) := by
  subst hd
  refine x_steps_cons (fun L x w hL hC hw hR K hK => h L x w hL hC hw hR K fun tm w' ht hv hw' => ?_) hs
  exact hK _ w' tm ht (.inr hv) hw'
/-- an operation whose value is not known ahead -/
theorem x_one {k : Nat} {o o' : Oper} {l : List Oper} (s : Nat) (ds : List Nat) (hd : depsOf o = ds) (hk : ns.contains k = true)
    (h : ∀ (L : Nat → Bool) (x : Nat → Value) (w : World), L k = false → Closed ops L → WI L x w → (∀ j ∈ ds, L j = true ∧ XR ns vals j (x j)) → ∀ K : Act → World → Prop, (∀ tm w', tm = T (upd x k (tm.getD s undef)) → WI (fun j => if j = k then true else L j) (upd x k (tm.getD s undef)) w' → K { tmps := tm, defers := d } w') →
      if Region.wanted o (yielded ops (T x)) = true then Oper.wp P o { tmps := T x, defers := d } w K Q else K (Act.put { tmps := T x, defers := d } o.dst undef) w)
    (hs : StepsX P ops Q T d (XR ns vals) WI (k + 1) (o' :: l)) : StepsX P ops Q T d (XR ns vals) WI k (o :: o' :: l) := by
  subst hd
  refine x_steps_cons (fun L x w hL hC hw hR K hK => h L x w hL hC hw hR K fun tm w' ht hw' => ?_) hs
  exact hK _ w' tm ht (.inl hk) hw'
theorem x_last {k : Nat} {o : Oper}
    (h : ∀ (L : Nat → Bool) (x : Nat → Value) (w : World), (∀ j, j < k → L j = true) → WI L x w → (∀ j, j < k → XR ns vals j (x j)) → ∀ K : Act → World → Prop, (∀ a' w', Q .normal a' w' → K a' w') →
      if Region.wanted o (yielded ops (T x)) = true then Oper.wp P o { tmps := T x, defers := d } w K Q else K (Act.put { tmps := T x, defers := d } o.dst undef) w) : StepsX P ops Q T d (XR ns vals) WI k [o] :=
  x_steps_last fun L x w _ hall hw hR K hK => h L x w hall hw hR K hK
/-- THE REGION: apply it; T and the values come by unification -/
theorem wp_region_x {id : Nat} {a : Act} {w : World} (slots : List Nat) (vals : List Value) (ns : List Nat) (WI : (Nat → Bool) → (Nat → Value) → World → Prop) (hm : P.follows .mixedOrders = true) (hT : ∀ y, setAll a.tmps slots 0 y = T y) (hok : goodOrder ops = true) (hn : 0 < ops.size)
    (hw : ∀ (L : Nat → Bool) (x : Nat → Value), (∀ j, j < ops.size → L j = false) → WI L x w.drew)
    (hs : StepsX P ops Q T a.defers (XR ns vals) WI 0 ops.toList) : (Code.region id ops true).wp P Q a w := by
  refine wp_region_any hm ?_
  have hx : a = { tmps := T (fun j => a.tmps.getD (slots.getD j 0) undef), defers := a.defers } := by
    rw [← hT, setAll_self]
    intro j s hj
    simp [List.getD, hj]
  rw [hx]
  refine wpAny_x hok hs ops.size _ _ _ (by simp) (by simp) (by simp [Array.getD]; omega) (fun k o hk h => ?_) (hw _ _ fun j hj => by simp [Array.getD, hj]) (fun j hj h => ?_)
  · have hkl : k < ops.size := (Array.getElem?_eq_some_iff.1 hk).1
    simp [Array.getD, hkl] at h
  · simp [Array.getD, hj] at h
/-- .. where an operation may be left behind the last one: each is asked alike, and what follows when all are done -/
def StepsXA (P : Program) (ops : Array Oper) (Q : Exit → Act → World → Prop) (T : (Nat → Value) → Array Value) (d : List Deferred) (R : Nat → Value → Prop) (WI : (Nat → Bool) → (Nat → Value) → World → Prop) (k : Nat) (l : List Oper) : Prop :=
  ∀ j o, l[j]? = some o → StepX P ops Q T d R WI (k + j) o
theorem xa_nil {k : Nat} : StepsXA P ops Q T d R WI k [] := fun j o h => by simp at h
theorem xa_cons {k : Nat} {o : Oper} {l : List Oper} (h : StepX P ops Q T d R WI k o) (hs : StepsXA P ops Q T d R WI (k + 1) l) : StepsXA P ops Q T d R WI k (o :: l) := fun j p hj => by
  cases j with
  | zero =>
    simp at hj
    subst hj
    simpa using h
  | succ j =>
    have := hs j p (by simpa using hj)
    rw [show k + (j + 1) = k + 1 + j by omega]
    exact this
theorem xa_op {k : Nat} {o : Oper} {l : List Oper} (s : Nat) (ds : List Nat) (hd : depsOf o = ds)
    (h : ∀ (L : Nat → Bool) (x : Nat → Value) (w : World), L k = false → Closed ops L → WI L x w → (∀ j ∈ ds, L j = true ∧ XR ns vals j (x j)) → ∀ K : Act → World → Prop, (∀ tm w', tm = T (upd x k (tm.getD s undef)) → tm.getD s undef = nth vals k → WI (fun j => if j = k then true else L j) (upd x k (tm.getD s undef)) w' → K { tmps := tm, defers := d } w') →
      if Region.wanted o (yielded ops (T x)) = true then Oper.wp P o { tmps := T x, defers := d } w K Q else K (Act.put { tmps := T x, defers := d } o.dst undef) w)
    (hs : StepsXA P ops Q T d (XR ns vals) WI (k + 1) l) : StepsXA P ops Q T d (XR ns vals) WI k (o :: l) := by
  subst hd
  refine xa_cons (fun L x w hL hC hw hR K hK => h L x w hL hC hw hR K fun tm w' ht hv hw' => ?_) hs
  exact hK _ w' tm ht (.inr hv) hw'
theorem xa_one {k : Nat} {o : Oper} {l : List Oper} (s : Nat) (ds : List Nat) (hd : depsOf o = ds) (hk : ns.contains k = true)
    (h : ∀ (L : Nat → Bool) (x : Nat → Value) (w : World), L k = false → Closed ops L → WI L x w → (∀ j ∈ ds, L j = true ∧ XR ns vals j (x j)) → ∀ K : Act → World → Prop, (∀ tm w', tm = T (upd x k (tm.getD s undef)) → WI (fun j => if j = k then true else L j) (upd x k (tm.getD s undef)) w' → K { tmps := tm, defers := d } w') →
      if Region.wanted o (yielded ops (T x)) = true then Oper.wp P o { tmps := T x, defers := d } w K Q else K (Act.put { tmps := T x, defers := d } o.dst undef) w)
    (hs : StepsXA P ops Q T d (XR ns vals) WI (k + 1) l) : StepsXA P ops Q T d (XR ns vals) WI k (o :: l) := by
  subst hd
  refine xa_cons (fun L x w hL hC hw hR K hK => h L x w hL hC hw hR K fun tm w' ht hw' => ?_) hs
  exact hK _ w' tm ht (.inl hk) hw'
theorem wp_region_xa {id : Nat} {a : Act} {w : World} (slots : List Nat) (vals : List Value) (ns : List Nat) (WI : (Nat → Bool) → (Nat → Value) → World → Prop) (hm : P.follows .mixedOrders = true) (hT : ∀ y, setAll a.tmps slots 0 y = T y) (hok : aheadAll ops = true)
    (hw : ∀ (L : Nat → Bool) (x : Nat → Value), (∀ j, j < ops.size → L j = false) → WI L x w.drew)
    (hs : StepsXA P ops Q T a.defers (XR ns vals) WI 0 ops.toList)
    (he : ∀ (L : Nat → Bool) (y : Nat → Value) (w' : World), (∀ j, j < ops.size → L j = true) → WI L y w' → (∀ j, j < ops.size → XR ns vals j (y j)) → Q .normal { tmps := T y, defers := a.defers } w') : (Code.region id ops true).wp P Q a w := by
  refine wp_region_any hm ?_
  have hx : a = { tmps := T (fun j => a.tmps.getD (slots.getD j 0) undef), defers := a.defers } := by
    rw [← hT, setAll_self]
    intro j s hj
    simp [List.getD, hj]
  rw [hx]
  refine wpAny_xa hok (fun i o ho => ?_) he ops.size _ _ _ (by simp) (by simp) (fun k o hk h => ?_) (hw _ _ fun j hj => by simp [Array.getD, hj]) (fun j hj h => ?_)
  · have := hs i o (by simpa using ho)
    rw [Nat.zero_add] at this
    exact this
  · have hkl : k < ops.size := (Array.getElem?_eq_some_iff.1 hk).1
    simp [Array.getD, hkl] at h
  · simp [Array.getD, hj] at h
/-- what leans on number i is not done, as long as i isn't -/
theorem Closed.not' {L : Nat → Bool} (h : Closed ops L) (k i : Nat) (hd : ((ops[k]?).map fun o => (depsOf o).contains i).getD false = true) (hL : L i = false) : L k = false := by
  cases hk : L k with
  | false => rfl
  | true =>
    cases ho : ops[k]? with
    | none => rw [ho] at hd; cases hd
    | some o =>
      rw [ho] at hd
      have := h k o ho hk i (by simpa using hd)
      rw [hL] at this
      cases this

/-- operation a makes a block, operation s stores c1 there -/
def NewB (n0 a s : Nat) (t : TypeId) (c0 c1 : List Value) (L : Nat → Bool) (x : Nat → Value) (w : World) : Prop :=
  L a = true → ∃ p, x a = .pointer (some ⟨p, 0, none⟩) ∧ n0 ≤ p ∧ Blk w p t (cond (L s) c1 c0)
section
variable {n0 a s : Nat} {t : TypeId} {c0 c1 : List Value} {L L' : Nat → Bool} {x x' : Nat → Value} {w w' : World}
theorem NewB.no (h : L a = false) : NewB n0 a s t c0 c1 L x w := fun e => by rw [h] at e; cases e
theorem NewB.kq {S : List Nat} (h : NewB n0 a s t c0 c1 L x w) (k : Kq S w w') (hS : ∀ q ∈ S, q < n0) (h1 : L' a = L a) (h2 : L' s = L s) (h3 : x' a = x a) : NewB n0 a s t c0 c1 L' x' w' := fun e => by
  rw [h1] at e
  obtain ⟨p, q1, q2, q3⟩ := h e
  refine ⟨p, h3.trans q1, q2, ?_⟩
  rw [h2]
  exact q3.kq k (fun hm => by have := hS p hm; omega)
theorem NewB.made (hs : L' s = false) (hx : x' a = .pointer (some ⟨w.heap.size, 0, none⟩)) (hn : n0 ≤ w.heap.size) (hw : w' = w.alloc (.cells c0.toArray t)) : NewB n0 a s t c0 c1 L' x' w' := fun _ => by
  refine ⟨_, hx, hn, ?_⟩
  rw [hs, hw]
  exact Blk.new w t c0
theorem NewB.put {p : Nat} (hs : L' s = true) (hx : x' a = .pointer (some ⟨p, 0, none⟩)) (hn : n0 ≤ p) (hb : Blk w' p t c1) : NewB n0 a s t c0 c1 L' x' w' := fun _ => by
  refine ⟨_, hx, hn, ?_⟩
  rw [hs]
  exact hb
end
end
end Go.Proofs.YteaincdeoajkeaaGreatDoor.Ut
end
section
/- Package mmu: its memory (ST); what kinds of accesses ask for, as it lies in its variable; made, isWidth, key, place, fast. -/
namespace Go.Proofs.YteaincdeoajkeaaGreatDoor.Mm
open Go.RowKit Go.Shelf Ut Oc Vw Wa
open Sw (Ln tabL ownP fillS)
open Sb (Rc findL withoutL)
set_option linter.unusedVariables false
set_option maxRecDepth 100000
set_option maxHeartbeats 4000000

/-- the rights that kinds ask for, as they lie in their variable -/
def HasN (w : World) : Prop := ∃ t fr, w.heap[0]? = some (.cells #[.int .i64 4, .int .i64 1, .int .i64 2] t fr)
theorem HasN.lt {w : World} (h : HasN w) : 0 < w.heap.size := by
  obtain ⟨t, fr, h⟩ := h
  exact (Array.getElem?_eq_some_iff.1 h).1
theorem HasN.below {w w' : World} {B : Nat} (h : HasN w) (hb : Below B w w') (hB : 0 < B) : HasN w' := by
  obtain ⟨t, fr, h⟩ := h
  exact ⟨t, fr, (hb.block _ hB).trans h⟩
theorem HasN.kq {w w' : World} {T : List Nat} (h : HasN w) (k : Kq T w w') (hT : 0 ∉ T) : HasN w' := by
  have hl := h.lt
  obtain ⟨t, fr, h⟩ := h
  exact ⟨t, fr, (k.block _ hl hT).trans h⟩
theorem HasN.at {w : World} (h : HasN w) : w.cell? ⟨0, 0, none⟩ = some (.int .i64 4) ∧ w.cell? ⟨0, 1, none⟩ = some (.int .i64 1) ∧ w.cell? ⟨0, 2, none⟩ = some (.int .i64 2) := by
  obtain ⟨t, fr, h⟩ := h
  refine ⟨?_, ?_, ?_⟩ <;> simp [World.cell?, h]

/-- an Mmu's cells -/
def uCells (b t g : Nat) (Y : List Gm.Pl) : List Value := .pointer (some ⟨b, 0, none⟩) :: .pointer (some ⟨t, 0, none⟩) :: .pointer (some ⟨g, 0, none⟩) :: Gm.flatP Y
/-- the Mmu at u, its Tlb at t, its shadow at g, over the view at b: the shadow has l, the Tlb q; Y is where the pages lay when it was asked last -/
structure ST (W : World) (u t g b s m : Nat) (S : List Int) (L : List Gm.Pl) (D : List Bool) (l : List Ln) (q : List Rc) (Y : List Gm.Pl) : Prop where
  pv : PV W b s m 12 S L D
  lay : Lay L
  blk : Blk W u 80 (uCells b t g Y)
  y : Y.length = 12
  sh : Sw.LS19 W g true l
  tl : Sb.QT W t q
  nd : HasN W
  ns : 0 < s
  bt : b < t
  bg : b < g
  bu : b < u
  tg : t ≠ g
  tu : t ≠ u
  gu : g ≠ u
section
variable {W W' : World} {u t g b s m : Nat} {S S' : List Int} {L L' : List Gm.Pl} {D D' : List Bool} {l l' : List Ln} {q q' : List Rc} {Y Y' : List Gm.Pl}
theorem ST.kq {T : List Nat} (h : ST W u t g b s m S L D l q Y) (k : Kq T W W') (hT : ∀ x ∈ [u, t, g, b, s, m, 0], x ∉ T) : ST W' u t g b s m S L D l q Y :=
  ⟨h.pv.kq k (hT _ (by simp)) (hT _ (by simp)) (hT _ (by simp)), h.lay, h.blk.kq k (hT _ (by simp)), h.y, h.sh.kq k (hT _ (by simp)), h.tl.kq k (hT _ (by simp)), h.nd.kq k (hT _ (by simp)), h.ns, h.bt, h.bg, h.bu, h.tg, h.tu, h.gu⟩
theorem ST.more (h : ST W u t g b s m S L D l q Y) (hb : Below W.heap.size W W') : ST W' u t g b s m S L D l q Y := h.kq (T := []) (Kq.of_below hb) (fun _ _ => by simp)
theorem ST.tlb (h : ST W u t g b s m S L D l q Y) (k : Kq [t] W W') (hq : Sb.QT W' t q') : ST W' u t g b s m S L D l q' Y := by
  have h1 := h.pv.sm
  have h2 := h.pv.mb
  have h3 := h.bt
  have h4 := h.ns
  have h5 := h.tg
  have h6 := h.tu
  exact ⟨h.pv.kq k (by simp; omega) (by simp; omega) (by simp; omega), h.lay, h.blk.kq k (by simp; omega), h.y, h.sh.kq k (by simp; omega), hq, h.nd.kq k (by simp; omega), h.ns, h.bt, h.bg, h.bu, h.tg, h.tu, h.gu⟩
theorem ST.shd (h : ST W u t g b s m S L D l q Y) (k : Kq [g] W W') (hl : Sw.LS19 W' g true l') : ST W' u t g b s m S L D l' q Y := by
  have h1 := h.pv.sm
  have h2 := h.pv.mb
  have h3 := h.bg
  have h4 := h.ns
  have h5 := h.tg
  have h6 := h.gu
  exact ⟨h.pv.kq k (by simp; omega) (by simp; omega) (by simp; omega), h.lay, h.blk.kq k (by simp; omega), h.y, hl, h.tl.kq k (by simp; omega), h.nd.kq k (by simp; omega), h.ns, h.bt, h.bg, h.bu, h.tg, h.tu, h.gu⟩
theorem ST.view {T : List Nat} (h : ST W u t g b s m S L D l q Y) (k : Kq T W W') (hT : ∀ x ∈ T, x = b ∨ x = s ∨ x = m) (hp : PV W' b s m 12 S' L' D') (hL : Lay L') : ST W' u t g b s m S' L' D' l q Y := by
  have h1 := h.pv.sm
  have h2 := h.pv.mb
  have h3 := h.bt
  have h4 := h.ns
  have h5 := h.bg
  have h6 := h.bu
  have hn : ∀ x, x ≠ b → x ≠ s → x ≠ m → x ∉ T := fun x a1 a2 a3 hm => by rcases hT x hm with e | e | e <;> contradiction
  exact ⟨hp, hL, h.blk.kq k (hn _ (by omega) (by omega) (by omega)), h.y, h.sh.kq k (hn _ (by omega) (by omega) (by omega)), h.tl.kq k (hn _ (by omega) (by omega) (by omega)), h.nd.kq k (hn _ (by omega) (by omega) (by omega)), h.ns, h.bt, h.bg, h.bu, h.tg, h.tu, h.gu⟩
theorem ST.cell0 (h : ST W u t g b s m S L D l q Y) : W.cell? ⟨u, 0, none⟩ = some (.pointer (some ⟨b, 0, none⟩)) := h.blk.cell rfl
theorem ST.cell1 (h : ST W u t g b s m S L D l q Y) : W.cell? ⟨u, 1, none⟩ = some (.pointer (some ⟨t, 0, none⟩)) := h.blk.cell rfl
theorem ST.cell2 (h : ST W u t g b s m S L D l q Y) : W.cell? ⟨u, 2, none⟩ = some (.pointer (some ⟨g, 0, none⟩)) := h.blk.cell rfl
theorem ST.lt (h : ST W u t g b s m S L D l q Y) : u < W.heap.size := h.blk.lt
theorem ST.lay_at (h : ST W u t g b s m S L D l q Y) (k : Nat) (hk : k < 12) : W.cell? ⟨u, 3 + k * 2, none⟩ = some (.int .i64 (Gm.plN Y k).1) ∧ W.cell? ⟨u, 3 + k * 2 + 1, none⟩ = some (.int .i64 (Gm.plN Y k).2) := by
  have hf := Gm.flatP_get Y k (by rw [h.y]; exact hk)
  refine ⟨h.blk.cell ?_, h.blk.cell ?_⟩
  · rw [show 3 + k * 2 = 2 * k + 1 + 1 + 1 by omega]; simpa [uCells] using hf.1
  · rw [show 3 + k * 2 + 1 = 2 * k + 1 + 1 + 1 + 1 by omega]; simpa [uCells] using hf.2
theorem ST.lay_set (h : ST W u t g b s m S L D l q Y) (k : Nat) (hk : k < 12) (p : Gm.Pl) : ST ((W.setCell ⟨u, 3 + k * 2, none⟩ (.int .i64 p.1)).setCell ⟨u, 3 + k * 2 + 1, none⟩ (.int .i64 p.2)) u t g b s m S L D l q (Y.set k p) := by
  have h1 := h.pv.sm
  have h2 := h.pv.mb
  have h3 := h.bu
  have h4 := h.ns
  have h5 := h.tu
  have h6 := h.gu
  have K : Kq [u] W ((W.setCell ⟨u, 3 + k * 2, none⟩ (.int .i64 p.1)).setCell ⟨u, 3 + k * 2 + 1, none⟩ (.int .i64 p.2)) := ((Kq.refl [u] W).setCell u _ _ (.inl (by simp))).setCell u _ _ (.inl (by simp))
  refine ⟨h.pv.kq K (by simp; omega) (by simp; omega) (by simp; omega), h.lay, ?_, by rw [List.length_set]; exact h.y, h.sh.kq K (by simp; omega), h.tl.kq K (by simp; omega), h.nd.kq K (by simp; omega), h.ns, h.bt, h.bg, h.bu, h.tg, h.tu, h.gu⟩
  have e : ((uCells b t g Y).set (3 + k * 2) (.int .i64 p.1)).set (3 + k * 2 + 1) (.int .i64 p.2) = uCells b t g (Y.set k p) := by
    unfold uCells
    rw [Gm.flatP_set Y k p (by rw [h.y]; exact hk), show 3 + k * 2 + 1 = 2 * k + 1 + 1 + 1 + 1 by omega, show 3 + k * 2 = 2 * k + 1 + 1 + 1 by omega]
    rfl
  rw [← e]
  exact (h.blk.set _ _).set _ _

theorem made_yes20 (W : World) (u b : Nat) (c : W.cell? ⟨u, 0, none⟩ = some (.pointer (some ⟨b, 0, none⟩))) (hl : u < W.heap.size) : Calls Tryz.prog 36 #[.pointer (some ⟨u, 0, none⟩)] W fun e w' => e = .returned (.bool true) ∧ W = w' := by
  go_enter Tryz.func36, Tryz.ntmps36
  go_wp2
  go_ret
  exact ⟨rfl, rfl⟩
theorem made_nil20 (W : World) : Calls Tryz.prog 36 #[.pointer none] W fun e w' => e = .returned (.bool false) ∧ W = w' := by
  go_enter Tryz.func36, Tryz.ntmps36
  go_wp2
  go_ret
  exact ⟨rfl, rfl⟩
theorem made_no20 (W : World) (u : Nat) (c : W.cell? ⟨u, 0, none⟩ = some (.pointer none)) (hl : u < W.heap.size) : Calls Tryz.prog 36 #[.pointer (some ⟨u, 0, none⟩)] W fun e w' => e = .returned (.bool false) ∧ W = w' := by
  go_enter Tryz.func36, Tryz.ntmps36
  go_wp2
  go_ret
  exact ⟨rfl, rfl⟩
theorem isWidth20_any (q : Int) (t : Bool) (ht : isW q = t) (w : World) : Calls Tryz.prog 84 #[.int .i64 q] w fun e w' => e = .returned (.bool t) ∧ w = w' := by
  subst ht
  have hc : (q = 1 ∧ isW q = true) ∨ (q = 2 ∧ isW q = true) ∨ (q = 4 ∧ isW q = true) ∨ (¬ q = 1 ∧ ¬ q = 2 ∧ ¬ q = 4 ∧ isW q = false) := by
    unfold isW
    by_cases h1 : q = 1
    · exact .inl ⟨h1, by simp [h1]⟩
    · by_cases h2 : q = 2
      · exact .inr (.inl ⟨h2, by simp [h2]⟩)
      · by_cases h4 : q = 4
        · exact .inr (.inr (.inl ⟨h4, by simp [h4]⟩))
        · exact .inr (.inr (.inr ⟨h1, h2, h4, by simp [h1, h2, h4]⟩))
  rcases hc with ⟨rfl, h⟩ | ⟨rfl, h⟩ | ⟨rfl, h⟩ | ⟨h1, h2, h4, h⟩
  all_goals
    rw [h]
    clear h
    go_enter Tryz.func84, Tryz.ntmps84
    go_wp2
    go_ret
    first | exact ⟨rfl, rfl⟩ | exact ⟨by simp [h1, h2, h4], rfl⟩
abbrev accV (on : Bool) (rt : Int) (us : Bool) (z k : Int) : Value := .agg #[.bool on, .int .i64 rt, .bool us, .int .u32 z, .int .i64 k]
abbrev accC (on : Bool) (rt : Int) (us : Bool) (z k : Int) : List Value := [.bool on, .int .i64 rt, .bool us, .int .u32 z, .int .i64 k]
theorem key20_any (on us : Bool) (rt z k : Int) (h0 : 0 ≤ z) (h1 : z < 4294967296) (w : World) : Calls Tryz.prog 72 #[accV on rt us z k] w fun e w' => e = .returned (.agg #[.int .i64 rt, .int .i64 (z / 64)]) ∧ Below w.heap.size w w' := by
  have HB : Hid (Below w.heap.size w ((w.alloc (.cells #[.bool on, .int .i64 rt, .bool us, .int .u32 z, .int .i64 k] 105)).alloc (.cells #[.int .i64 rt, .int .i64 (z / 64)] 48))) := Lib.hid (((Below.refl _ _).alloc (Nat.le_refl _) _).alloc (by simp) _)
  have HSet : Hid (∀ (X : World) (j : Nat) (v : Value), Below w.heap.size w X → Below w.heap.size w (X.setCell ⟨w.heap.size + 1, j, none⟩ v)) := Lib.hid fun X j v h => h.setCell (p := ⟨w.heap.size + 1, j, none⟩) (by simp) _
  go_enter Tryz.func72, Tryz.ntmps72
  go_wp2
  exact bodyPost_ret (v := .agg #[.int .i64 rt, .int .i64 (z / 64)]) (by simp [results, Tryz.results72, go_sem]) rfl ⟨rfl, by (repeat (first | refine HSet.out _ _ _ ?_)); exact HB.out⟩
end

/-- where a page lies, or lay -/
def plF (L Y : List Gm.Pl) (p : Int) : Gm.Pl := if Gm.thB (Gm.atP L p) = true then Gm.atP L p else Gm.plN Y p.toNat
section
variable {W : World} {u t g b s m : Nat} {S : List Int} {L : List Gm.Pl} {D : List Bool} {l : List Ln} {q : List Rc} {Y : List Gm.Pl}
theorem place20_at (p : Nat) (hp : p < 12) (x : Gm.Pl) (hx : plF L Y p = x) (h : ST W u t g b s m S L D l q Y) : Calls Tryz.prog 91 #[.pointer (some ⟨u, 0, none⟩), .int .i64 p] W fun e w' => e = .returned (Gm.plV x) ∧ Below W.heap.size W w' := by
  obtain ⟨U, hU⟩ : ∃ U, U = W.alloc (.cells #[.int .i64 0, .int .i64 0] 54) := ⟨_, rfl⟩
  have hB : Below W.heap.size W U := by rw [hU]; exact (Below.refl _ _).alloc (Nat.le_refl _) _
  have hN : Blk U W.heap.size 54 [.int .i64 0, .int .i64 0] := by rw [hU]; exact Blk.new W _ _
  have hs := h.more hB
  have c0 := hs.cell0
  have ul := hs.lt
  have HMP := Lib.hid (map_any U hs.pv)
  have HG : Hid (∀ (w : World), Below U.heap.size U w → Calls Tryz.prog 16 #[.pointer (some ⟨m, 0, none⟩), .int .i64 p] w fun e w' => e = .returned (.tuple #[Gm.plV (Gm.atP L p), .bool (Gm.thB (Gm.atP L p))]) ∧ Below w.heap.size w w') := Lib.hid fun w hw => Gm.get_any m L p _ _ rfl rfl w (hs.more hw).pv.mp
  have HS := Lib.hid hs
  have HU := Lib.hid hU
  have HB := Lib.hid hB
  have HN := Lib.hid hN
  have hun : W.heap.size ≠ u := by have := h.lt; omega
  have p0 : (0 : Int) ≤ (p : Int) := by omega
  have p1 : (p : Int) < 12 := by omega
  unfold plF at hx
  rw [Int.toNat_natCast] at hx
  generalize Gm.atP L p = pl at hx HG
  obtain ⟨x0, x1⟩ := pl
  unfold Gm.plV at HG
  dsimp only at HG
  have HP := Lib.hid hp
  clear hU hB hN hs h hp
  go_enter Tryz.func91, Tryz.ntmps91
  go_upto_region 1 with fail
  rw [← HU.out]
  clear HU
  go_wp2_with fail
  refine HMP.out.mono ?_
  rintro e w1 ⟨rfl, rfl⟩
  go_wp2_with fail
  refine (HG.out _ (Below.refl _ _)).mono ?_
  rintro e w2 ⟨rfl, hb2⟩
  have HS2 := Lib.hid (HS.out.more hb2)
  have HN2 := Lib.hid (HN.out.more hb2)
  have HB2 := Lib.hid (HB.out.trans (hb2.mono HB.out.size))
  obtain ⟨V, hV⟩ : ∃ V, V = w2.alloc (.cells #[.int .i64 x0, .int .i64 x1] 54) := ⟨_, rfl⟩
  have hBV : Below w2.heap.size w2 V := by rw [hV]; exact (Below.refl _ _).alloc (Nat.le_refl _) _
  have hNV : Blk V w2.heap.size 54 [.int .i64 x0, .int .i64 x1] := by rw [hV]; exact Blk.new w2 _ _
  have HV := Lib.hid hV
  have HSet : Hid (∀ (X : World) (j : Nat) (v : Value), Below W.heap.size W X → Below W.heap.size W (X.setCell ⟨W.heap.size, j, none⟩ v)) := Lib.hid fun X j v h => h.setCell (p := ⟨W.heap.size, j, none⟩) (by simp) _
  have hs3 := HS2.out.more hBV
  have hn3 := HN2.out.more hBV
  have HB3 := Lib.hid (HB2.out.trans (hBV.mono HB2.out.size))
  have r0 := hn3.cell (j := 0) rfl
  have r1 := hn3.cell (j := 1) rfl
  have f0 := hn3.frozen 0
  have f1 := hn3.frozen 1
  have rl := hn3.lt
  have v0 := hNV.cell (j := 0) rfl
  have v1 := hNV.cell (j := 1) rfl
  have vl := hNV.lt
  clear HN2 HB2 HS2 HG HMP HS HN hb2 hV hBV hn3 hNV c0 ul
  obtain ⟨y0, y1⟩ := hs3.lay_at p HP.out
  have ul := hs3.lt
  clear hs3
  generalize hpy : Gm.plN Y p = py at hx y0 y1
  clear hpy
  by_cases ht : Gm.thB (x0, x1) = true
  · rw [if_pos ht] at hx
    rw [ht] at *
    subst hx
    go_upto_region 2 with fail
    rw [← HV.out]
    clear HV ht
    generalize w2.heap.size = vb at v0 v1 vl ⊢
    go_wp2
    exact bodyPost_ret (v := Gm.plV (x0, x1)) (by simp [results, Tryz.results91, go_sem, Gm.plV, r0, r1]) rfl ⟨rfl, by (repeat (first | refine HSet.out _ _ _ ?_)); exact HB3.out⟩
  · rw [if_neg ht] at hx
    rw [Bool.not_eq_true] at ht
    rw [ht] at *
    subst hx
    go_upto_region 2 with fail
    rw [← HV.out]
    clear HV ht
    generalize w2.heap.size = vb at v0 v1 vl ⊢
    go_wp2
    exact bodyPost_ret (v := Gm.plV _) (by simp [results, Tryz.results91, go_sem, Gm.plV, r0, r1]) rfl ⟨rfl, by (repeat (first | refine HSet.out _ _ _ ?_)); exact HB3.out⟩
end
end Go.Proofs.YteaincdeoajkeaaGreatDoor.Mm
end
