/- Several texts in one: Bh Zf Zh Im Io -/
import Derived.Test.YteaincdeoajkeaaGreatDoorV22
import Derived.Test.YteaincdeoajkeaaGreatDoorV23
import Derived.Test.YteaincdeoajkeaaGreatDoorV24
import Derived.Test.YteaincdeoajkeaaGreatDoorV20
import Derived.Test.YteaincdeoajkeaaGreatDoorV26
section
/- Package pte: the document's Table and Leaf. -/
namespace Go.Proofs.YteaincdeoajkeaaGreatDoor.Pe
open Go.RowKit Ut
set_option linter.unusedVariables false
set_option maxRecDepth 100000
set_option maxHeartbeats 4000000

end Go.Proofs.YteaincdeoajkeaaGreatDoor.Pe
end
section
/- Package walk: the document's Walk. -/
namespace Go.Proofs.YteaincdeoajkeaaGreatDoor.Wa
open Go.RowKit Go.Shelf Ut Oc Vw
set_option maxRecDepth 100000
set_option linter.unusedVariables false
set_option maxHeartbeats 4000000

/-- the document's walk stands at t -/
structure RS (w W : World) (t : Stp) : Prop where
 b : Below w.heap.size w W
 r : Blk W w.heap.size 114 stz.cs
 s : Blk W (w.heap.size + 1) 114 t.cs
theorem RS.more {w W W' : World} {t : Stp} (h : RS w W t) (hb : Below W.heap.size W W') : RS w W' t := ⟨h.b.trans (hb.mono h.b.size), h.r.more hb, h.s.more hb⟩
theorem RS.set {w W : World} {t : Stp} (h : RS w W t) (j : Nat) (v : Value) (t' : Stp) (e : t.cs.set j v = t'.cs) : RS w (W.setCell ⟨w.heap.size + 1, j, none⟩ v) t' :=
 ⟨h.b.setCell (p := ⟨w.heap.size + 1, j, none⟩) (by simp) _, h.r.of_block (Below.heap_setCell _ _ _ _ (by simp)), e ▸ h.s.set j v⟩
section
variable {g bt B q n gv cap : Nat} {S : List Int} {L : List Gm.Pl} {D : List Bool}
end
end Go.Proofs.YteaincdeoajkeaaGreatDoor.Wa
end
section
/- Package walk: the document's Find. -/
namespace Go.Proofs.YteaincdeoajkeaaGreatDoor.Wa
open Go.RowKit Go.Shelf Ut Oc Vw
set_option maxRecDepth 100000
set_option linter.unusedVariables false
set_option maxHeartbeats 4000000

section
variable {g bt B q n gv cap : Nat} {S : List Int} {L : List Gm.Pl} {D : List Bool}
end
end Go.Proofs.YteaincdeoajkeaaGreatDoor.Wa
end
section
/- Stage 20, plainly: what Load and Save by an address say; the document's Load, Save (hermitageref20). -/
namespace Go.Proofs.YteaincdeoajkeaaGreatDoor.Mm
open Go.RowKit Go.Shelf Ut Oc Vw Wa
set_option maxRecDepth 100000
set_option linter.unusedVariables false
set_option maxHeartbeats 4000000

/-- may so many bytes lie there; the number at a hit; the bytes behind one that is saved -/
def okZ (wd z : Int) : Bool := isW wd && (z % wd == 0)
def ldU (S : List Int) (h : Int × Int × Int) (wd : Int) : Int := num (((Fr.frameL S h.2.1.toNat).drop h.2.2.toNat).take wd.toNat)
def svL (S : List Int) (h : Int × Int × Int) (wd x : Int) : List Int := Fr.layF S h.2.1.toNat (putZ (Fr.frameL S h.2.1.toNat) h.2.2.toNat wd.toNat x)
def ld20 (n : Nat) (S : List Int) (L : List Gm.Pl) (on : Bool) (rt : Int) (us : Bool) (z wd k : Int) : Int × Int :=
 if okZ wd z = true then (if (locF n S L on rt us z k).2 = 0 then (ldU S (locF n S L on rt us z k).1 wd, 0) else (0, (locF n S L on rt us z k).2)) else (0, 1)
def sc20 (n : Nat) (S : List Int) (L : List Gm.Pl) (on : Bool) (rt : Int) (us : Bool) (z wd : Int) : Int :=
 if okZ wd z = true then (locF n S L on rt us z 2).2 else 1
def ss20 (n : Nat) (S : List Int) (L : List Gm.Pl) (on : Bool) (rt : Int) (us : Bool) (z wd x : Int) : List Int :=
 if okZ wd z = true then (if (locF n S L on rt us z 2).2 = 0 then svL S (locF n S L on rt us z 2).1 wd x else S) else S
section
variable {g bt B q n gv cap : Nat} {S : List Int} {L : List Gm.Pl} {D : List Bool}
end
end Go.Proofs.YteaincdeoajkeaaGreatDoor.Mm
end
section
/- Stage 20: what the program is to keep (MmuC: to be shown of the program that lands); both sides' memory in one world (MZ), and what each act leaves of it. -/
namespace Go.Proofs.YteaincdeoajkeaaGreatDoor.Mm
open Go.RowKit Go.Shelf Ut Oc Vw Wa
set_option maxRecDepth 100000
set_option linter.unusedVariables false
set_option maxHeartbeats 4000000

/-- where law20's pages lie; a map whose pages lie there, those that are there -/
def placeP (p : Int) : Gm.Pl := (11 - p, 3 - 2 * (p / 9))
def Lay (L : List Gm.Pl) : Prop := Gm.Okay L ∧ ∀ i : Nat, i < 12 → Gm.plN L i = (0, 0) ∨ Gm.plN L i = placeP i
/-- what none of the document's rows begins with -/
def notRow : Value → Prop
 | .int .u8 _ => False
 | .slice _ _ _ => False
 | _ => True
/-- blocks below the document's, or that begin otherwise than its rows: the document's memory stays -/
theorem dv_kqN {w w' : World} {g bt B q n gv cap : Nat} {S : List Int} {L : List Gm.Pl} {D : List Bool} {T : List Nat} (h : DV w g bt B q n gv cap S L D) (k : Kq T w w') (hg : g ∉ T) (hq : q ∉ T)
  (hT : ∀ x ∈ T, x < B ∨ ∃ v, w.cell? ⟨x, 0, none⟩ = some v ∧ notRow v) : DV w' g bt B q n gv cap S L D := by
 obtain ⟨vs, h1⟩ := h.st
 refine ⟨h.blk.kq k hg, ⟨vs, ?_⟩, ⟨h.mp.1.kq k hq, h.mp.2⟩, h.len, h.pos, h.s0, h.s1, h.n32, h.bq, h.qg⟩
 have hn := h.pos
 have hno : ∀ x v, B ≤ x → w.cell? ⟨x, 0, none⟩ = some v → ¬ notRow v → x ∉ T := fun x v hx hc h2 hm => by
  rcases hT x hm with h | ⟨u, h, h3⟩
  ·omega
  ·rw [hc] at h; injection h with h; subst h; exact h2 h3
 have hbt : bt ∉ T := hno bt _ h1.lo h1.cell0 (fun e => e)
 have hgB := (h1.own.lt gv rfl).1
 have hgl := (h1.own.lt gv rfl).2
 obtain ⟨g0, c0, hg0, _⟩ := h1.at_ 0 hn
 have hgv : gv ∉ T := hno gv _ hgB hg0 (fun e => e)
 refine ⟨(k.block bt h1.lt hbt).trans h1.box, h1.lo, ?_, h1.len, fun i hi => ?_, h1.bytes, fun e => by omega⟩
 ·refine ⟨h1.own.1, ?_⟩
  rcases h1.own.2 with ⟨e, _⟩ | ⟨g, c, cur, e, hb, hg, rest⟩
  ·cases e
  ·refine .inr ⟨g, c, cur, e, hb, ?_, rest⟩
   injection e with e
   injection e with e
   injection e with e
   subst e
   exact (k.block gv hgl hgv).trans hg
 ·obtain ⟨g, c, hv, hB, h2, h3, h4⟩ := h1.rows i hi
  refine ⟨g, c, hv, hB, h2, h3, h4.1, fun j hj => ?_⟩
  have hgT : g ∉ T := by
   obtain ⟨x, e, _, hc⟩ := h4.2 0 (by omega)
   injection e with e
   subst e
   rw [add_plain] at hc
   exact hno g _ hB hc (fun e => e)
  obtain ⟨x, e, hx, hc⟩ := h4.2 j hj
  injection e with e
  subst e
  refine ⟨_, rfl, Nat.lt_of_lt_of_le hx k.size, ?_⟩
  rw [World.cell?_of_block (w := w)]
  ·exact hc
  ·rw [block_of_add]
   exact k.block g hx hgT

/-- a slice of records of k integers that the call made -/
def Recs20 (k : Nat) (W w' : World) (v : Value) (xs : List (List Int)) : Prop := ∃ a c, v = .slice a xs.length c ∧ IRow k w' a xs ∧ ∀ y, a = some y → W.heap.size ≤ y.block
abbrev hitX (h : Int × Int × Int) (f : Bool) : Value := .agg #[.int .i64 h.1, .int .i64 h.2.1, .int .i64 h.2.2, .bool f]
abbrev modeV (on : Bool) (rt : Int) (us : Bool) : Value := .agg #[.bool on, .int .i64 rt, .bool us]
/-- what is remembered lies where the map says, with no right of its own; tb says which pages are tables -/
def HeldP (L : List Gm.Pl) (tb : Int → Bool) (κ : List (List Int)) : Prop := ∀ x ∈ κ, ∃ kr kp ep ef er : Int, x = [kr, kp, ep, ef, er] ∧ Gm.thB (Gm.atP L ep) = true ∧ (Gm.atP L ep).1 = ef ∧
 ((bits .and .i64 er 2 == 0) = false → (bits .and .i64 (Gm.atP L ep).2 2 == 0) = false ∧ tb ep = false) ∧ ((bits .and .i64 er 1 == 0) = false → (bits .and .i64 (Gm.atP L ep).2 1 == 0) = false) ∧ ((bits .and .i64 er 4 == 0) = false → ep < 8)
/-- the program's predicate: world, the Mmu's block, what turns of it, the view's blocks, the guest's bytes, its map, what is remembered, which pages are tables -/
structure PMt where
 /-- blocks below this one never turn; what holds of them (package variables), if anything -/
 nb : Nat
 G : World → Prop
 P : World → Nat → List Nat → Nat → Nat → Nat → List Int → List Gm.Pl → List (List Int) → (Int → Bool) → Prop
/-- an act left bytes S and map L, in blocks of T or new ones -/
structure StepM (PM : PMt) (W W' : World) (u : Nat) (T : List Nat) (b s m : Nat) (S : List Int) (L : List Gm.Pl) : Prop where
 ex : ∃ T' κ tb, PM.P W' u T' b s m S L κ tb ∧ ∀ x ∈ T', x ∈ T ∨ W.heap.size ≤ x
 kq : Kq (b :: s :: T) W W'
/-- what the program is to keep -/
structure MmuC (PM : PMt) : Prop where
 lt : ∀ {W u T b s m S L κ tb}, PM.P W u T b s m S L κ tb → ∀ x ∈ T, x < W.heap.size
 tag : ∀ {W u T b s m S L κ tb}, PM.P W u T b s m S L κ tb → ∀ x ∈ T, ∃ v, W.cell? ⟨x, 0, none⟩ = some v ∧ notRow v
 pv : ∀ {W u T b s m S L κ tb}, PM.P W u T b s m S L κ tb → ∃ D, PV W b s m 12 S L D
 gb : ∀ {W W'}, PM.G W → Below PM.nb W W' → PM.G W'
 kq : ∀ {W W' u T b s m S L κ tb X}, PM.P W u T b s m S L κ tb → Kq X W W' → (∀ x ∈ b :: s :: m :: T, x ∉ X) → (∀ x ∈ X, PM.nb ≤ x) → PM.P W' u T b s m S L κ tb
 held : ∀ {W u T b s m S L κ tb}, PM.P W u T b s m S L κ tb → HeldP L tb κ
 new : ∀ {W b s m S L D} (r : Int), PM.G W → PM.nb ≤ s → Lay L → PV W b s m 12 S L D → 0 ≤ r → r ≤ 4 → Calls Tryz.prog 22 #[.pointer (some ⟨b, 0, none⟩), .int .i64 r] W fun e w' => (∃ u, e = .returned (.tuple #[.pointer (some ⟨u, 0, none⟩), .int .i64 0]) ∧ Hid (∃ T tb, PM.P w' u T b s m S L [] tb ∧ ∀ x ∈ T, W.heap.size ≤ x)) ∧ Kq [b] W w'
 find : ∀ {W u T b s m S L κ tb} (on us : Bool) (rt z k : Int), PM.P W u T b s m S L κ tb → 0 ≤ z → z < 4294967296 →
  Calls Tryz.prog 9 #[.pointer (some ⟨u, 0, none⟩), modeV on rt us, .int .u32 z, .int .i64 k] W fun e w' => (∃ fast, e = .returned (.tuple #[hitX (locF 12 S L on rt us z k).1 fast, .int .i64 (locF 12 S L on rt us z k).2]) ∧ (fast = true → on = true ∧ (locF 12 S L on rt us z k).2 = 0)) ∧ Hid (StepM PM W w' u T b s m S L)
 twice : ∀ {W u T b s m S L tb} (rt z : Int) (us : Bool), PM.P W u T b s m S L [] tb → 0 ≤ z → z < 4294967296 → (locF 12 S L true rt us z 1).2 = 0 →
  Calls Tryz.prog 9 #[.pointer (some ⟨u, 0, none⟩), modeV true rt us, .int .u32 z, .int .i64 1] W fun e w' => e = .returned (.tuple #[hitX (locF 12 S L true rt us z 1).1 false, .int .i64 0]) ∧
   Hid (∀ V, Below w'.heap.size w' V → Calls Tryz.prog 9 #[.pointer (some ⟨u, 0, none⟩), modeV true rt us, .int .u32 z, .int .i64 1] V fun e w'' => e = .returned (.tuple #[hitX (locF 12 S L true rt us z 1).1 true, .int .i64 0]) ∧ ∃ Y, Kq Y V w'' ∧ ∀ y ∈ Y, y ∈ b :: s :: T ∨ (W.heap.size ≤ y ∧ y < w'.heap.size)) ∧ Kq (b :: s :: T) W w'
 load : ∀ {W u T b s m S L κ tb} (on us : Bool) (rt z wd k : Int), PM.P W u T b s m S L κ tb → 0 ≤ z → z < 4294967296 →
  Calls Tryz.prog 11 #[.pointer (some ⟨u, 0, none⟩), modeV on rt us, .int .u32 z, .int .i64 wd, .int .i64 k] W fun e w' => e = .returned (.tuple #[.int .u32 (ld20 12 S L on rt us z wd k).1, .int .i64 (ld20 12 S L on rt us z wd k).2]) ∧ Hid (StepM PM W w' u T b s m S L)
 save : ∀ {W u T b s m S L κ tb} (on us : Bool) (rt z wd x : Int), PM.P W u T b s m S L κ tb → 0 ≤ z → z < 4294967296 → 0 ≤ x → x < 4294967296 →
  Calls Tryz.prog 18 #[.pointer (some ⟨u, 0, none⟩), modeV on rt us, .int .u32 z, .int .i64 wd, .int .u32 x] W fun e w' => e = .returned (.int .i64 (sc20 12 S L on rt us z wd)) ∧ Hid (StepM PM W w' u T b s m (ss20 12 S L on rt us z wd x) L)
 vsave : ∀ {W W' u T b s m S L κ tb D D'} (z wd x : Int), PM.P W u T b s m S L κ tb → PV W b s m 12 S L D → 0 ≤ z → saveD 12 L D z wd = D' → PV W' b s m 12 (saveS 12 S L z wd x) L D' → Kq [s, b] W W' → PM.P W' u T b s m (saveS 12 S L z wd x) L κ tb
 gone : ∀ {W V u T b s m S L κ tb X} (p : Int), PM.P W u T b s m S L κ tb → Kq X W V → (∀ x ∈ b :: s :: T, x ∉ X) → (∀ x ∈ X, PM.nb ≤ x) → Gm.MAt V m (Gm.drL L p) → 0 ≤ p → p < 12 →
  Calls Tryz.prog 23 #[.pointer (some ⟨u, 0, none⟩), .int .i64 p] V fun e w' => e = .returned (.int .i64 0) ∧ Hid (StepM PM V w' u T b s m S (Gm.drL L p))
 set : ∀ {W V u T b s m S L κ tb X} (p : Int), PM.P W u T b s m S L κ tb → Kq X W V → (∀ x ∈ b :: s :: T, x ∉ X) → (∀ x ∈ X, PM.nb ≤ x) → Gm.MAt V m (Gm.setL L p (placeP p)) → 0 ≤ p → p < 12 → ∃ κ tb, PM.P V u T b s m S (Gm.setL L p (placeP p)) κ tb
 flush : ∀ {W u T b s m S L κ tb}, PM.P W u T b s m S L κ tb → Calls Tryz.prog 24 #[.pointer (some ⟨u, 0, none⟩)] W fun e w' => (∃ n, e = .returned (.int .i64 n)) ∧ Hid (StepM PM W w' u T b s m S L)
 kept : ∀ {W u T b s m S L κ tb}, PM.P W u T b s m S L κ tb → Calls Tryz.prog 14 #[.pointer (some ⟨u, 0, none⟩)] W fun e w' => (∃ v, e = .returned v ∧ Hid (∃ T' κ' tb', PM.P w' u T' b s m S L κ' tb' ∧ Recs20 5 W w' v κ' ∧ κ'.length ≤ 1000 ∧ (∀ y n c, v = .slice (some y) n c → y.block ∉ T') ∧ ∀ x ∈ T', x ∈ T ∨ W.heap.size ≤ x)) ∧ Kq (b :: s :: T) W w'
 table : ∀ {W u T b s m S L κ tb} (p : Int), PM.P W u T b s m S L κ tb → Calls Tryz.prog 17 #[.pointer (some ⟨u, 0, none⟩), .int .i64 p] W fun e w' => (∃ t, e = .returned (.bool t) ∧ (t = true → tb p = true)) ∧ Hid (∃ T' κ' tb', PM.P w' u T' b s m S L κ' tb' ∧ (∀ p, tb' p = true → tb p = true) ∧ ∀ x ∈ T', x ∈ T ∨ W.heap.size ≤ x) ∧ Kq (b :: s :: T) W w'

/-- block numbers: the Mmu's, the view's, the document's -/
structure BK where
 u : Nat
 b : Nat
 s : Nat
 m : Nat
 g : Nat
 bt : Nat
 B : Nat
 q : Nat
 gv : Nat
 cap : Nat
structure BKo (n0 : Nat) (K : BK) : Prop where
 ws : n0 ≤ K.s
 sm : K.s < K.m
 mB : K.m < K.B
 Bq : K.B ≤ K.q
 qb : K.q < K.b
 bg : K.b < K.g
 gvl : K.B ≤ K.gv
 gvg : K.gv < K.g
 bgv : K.b ≠ K.gv
/-- both sides' memory; the blocks of X have stayed as they were in V -/
structure MZT (PM : PMt) (V : World) (X : List Nat) (w0 w : World) (K : BK) (T : List Nat) (κ : List (List Int)) (tb : Int → Bool) (Sp : List Int) (Lp : List Gm.Pl) (Sd : List Int) (Ld : List Gm.Pl) : Prop where
 pm : PM.P w K.u T K.b K.s K.m Sp Lp κ tb
 tT : ∀ t ∈ T, K.g < t ∧ t ∉ X
 dv : ∃ D, DV w K.g K.bt K.B K.q 12 K.gv K.cap Sd Ld D
 o : BKo w0.heap.size K
 nb : PM.nb ≤ w0.heap.size
 st : ∀ x ∈ X, K.g < x ∧ x < w.heap.size ∧ w.heap[x]? = V.heap[x]?
 b : Below w0.heap.size w0 w
def MZ (PM : PMt) (V : World) (X : List Nat) (w0 w : World) (K : BK) (Sp : List Int) (Lp : List Gm.Pl) (Sd : List Int) (Ld : List Gm.Pl) : Prop := ∃ T κ tb, MZT PM V X w0 w K T κ tb Sp Lp Sd Ld
/-- .. with the tables known -/
def MZB (PM : PMt) (V : World) (X : List Nat) (w0 w : World) (K : BK) (tb : Int → Bool) (Sp : List Int) (Lp : List Gm.Pl) (Sd : List Int) (Ld : List Gm.Pl) : Prop := ∃ T κ, MZT PM V X w0 w K T κ tb Sp Lp Sd Ld
/-- a page was dropped from the program's map, and nothing else was done about it yet -/
structure MZd (PM : PMt) (V : World) (X : List Nat) (w0 w : World) (K : BK) (p : Int) (Sp : List Int) (Lp : List Gm.Pl) (Sd : List Int) (Ld : List Gm.Pl) : Prop where
 ex : ∃ W T κ tb, PM.P W K.u T K.b K.s K.m Sp Lp κ tb ∧ (∀ t ∈ T, K.g < t ∧ t ∉ X) ∧ Kq [K.m, K.q] W w
 mp : Gm.MAt w K.m (Gm.drL Lp p)
 dv : ∃ D, DV w K.g K.bt K.B K.q 12 K.gv K.cap Sd Ld D
 o : BKo w0.heap.size K
 nb : PM.nb ≤ w0.heap.size
 st : ∀ x ∈ X, K.g < x ∧ x < w.heap.size ∧ w.heap[x]? = V.heap[x]?
 b : Below w0.heap.size w0 w
section
variable {PM : PMt} (C : MmuC PM) {V U w0 w w' : World} {X Y T T' : List Nat} {K : BK} {κ : List (List Int)} {tb : Int → Bool} {Sp Sp' Sd Sd' : List Int} {Lp Lp' Ld Ld' : List Gm.Pl}
theorem MZT.glt (h : MZT PM V X w0 w K T κ tb Sp Lp Sd Ld) : K.g < w.heap.size := h.dv.elim fun _ h => h.lt
theorem MZ.glt (h : MZ PM V X w0 w K Sp Lp Sd Ld) : K.g < w.heap.size := h.elim fun _ h => h.elim fun _ h => h.elim fun _ h => h.glt
theorem MZ.nb (h : MZ PM V X w0 w K Sp Lp Sd Ld) : PM.nb ≤ w0.heap.size := h.elim fun _ h => h.elim fun _ h => h.elim fun _ h => h.nb
theorem MZ.b (h : MZ PM V X w0 w K Sp Lp Sd Ld) : Below w0.heap.size w0 w := h.elim fun _ h => h.elim fun _ h => h.elim fun _ h => h.b
theorem MZ.dv (h : MZ PM V X w0 w K Sp Lp Sd Ld) : ∃ D, DV w K.g K.bt K.B K.q 12 K.gv K.cap Sd Ld D := h.elim fun _ h => h.elim fun _ h => h.elim fun _ h => h.dv
theorem MZ.st (h : MZ PM V X w0 w K Sp Lp Sd Ld) : ∀ x ∈ X, K.g < x ∧ x < w.heap.size ∧ w.heap[x]? = V.heap[x]? := h.elim fun _ h => h.elim fun _ h => h.elim fun _ h => h.st
theorem MZ.blk (h : MZ PM V X w0 w K Sp Lp Sd Ld) {x : Nat} {t : TypeId} {cs : List Value} (hx : x ∈ X) (hb : Blk V x t cs) : Blk w x t cs := hb.of_block (h.st x hx).2.2
include C
theorem MZT.step (h : MZT PM V X w0 w K T κ tb Sp Lp Sd Ld) {κ' : List (List Int)} {tb' : Int → Bool} (hp : PM.P w' K.u T' K.b K.s K.m Sp' Lp' κ' tb') (hT : ∀ x ∈ T', x ∈ T ∨ w.heap.size ≤ x) (hk : Kq (K.b :: K.s :: T) w w') : MZT PM V X w0 w' K T' κ' tb' Sp' Lp' Sd Ld := by
 have o := h.o
 have h1 := o.ws
 have h2 := o.sm
 have h3 := o.mB
 have h4 := o.Bq
 have h5 := o.qb
 have h6 := o.bg
 have hgl := h.glt
 obtain ⟨D, hd⟩ := h.dv
 obtain ⟨Dp, hpv⟩ := C.pv h.pm
 have hgT : K.g ∉ K.b :: K.s :: T := by
  simp only [List.mem_cons, not_or]
  exact ⟨by omega, by omega, fun hm => by have := (h.tT _ hm).1; omega⟩
 have hqT : K.q ∉ K.b :: K.s :: T := by
  simp only [List.mem_cons, not_or]
  exact ⟨by omega, by omega, fun hm => by have := (h.tT _ hm).1; omega⟩
 refine ⟨hp, fun t ht => ?_, ⟨D, dv_kqN hd hk hgT hqT fun x hx => ?_⟩, o, h.nb, fun x hx => ?_, h.b.trans (hk.under (fun y hy => ?_) h.b.size)⟩
 ·rcases hT t ht with h7 | h7
  ·exact h.tT t h7
  ·exact ⟨by omega, fun hm => by have := (h.st t hm).2.1; omega⟩
 ·rcases List.mem_cons.1 hx with rfl | hx
  ·exact .inr ⟨_, hpv.cell0, trivial⟩
  rcases List.mem_cons.1 hx with rfl | hx
  ·exact .inl (by omega)
  ·exact .inr (C.tag h.pm x hx)
 ·obtain ⟨s1, s2, s3⟩ := h.st x hx
  refine ⟨s1, Nat.lt_of_lt_of_le s2 hk.size, (hk.block x s2 ?_).trans s3⟩
  simp only [List.mem_cons, not_or]
  exact ⟨by omega, by omega, fun hm => (h.tT x hm).2 hx⟩
 ·rcases List.mem_cons.1 hy with rfl | hy
  ·omega
  rcases List.mem_cons.1 hy with rfl | hy
  ·omega
  ·have := (h.tT y hy).1
   omega
theorem MZT.more (h : MZT PM V X w0 w K T κ tb Sp Lp Sd Ld) (hb : Below w.heap.size w w') : MZT PM V X w0 w' K T κ tb Sp Lp Sd Ld :=
 ⟨C.kq h.pm (X := []) (Kq.of_below hb) (fun _ _ => by simp) (fun _ hx => absurd hx (by simp)), h.tT, h.dv.elim fun D hd => ⟨D, hd.more hb⟩, h.o, h.nb, fun x hx => by
  obtain ⟨s1, s2, s3⟩ := h.st x hx
  exact ⟨s1, Nat.lt_of_lt_of_le s2 hb.size, (hb.block x s2).trans s3⟩, h.b.trans (hb.mono h.b.size)⟩
theorem MZ.more (h : MZ PM V X w0 w K Sp Lp Sd Ld) (hb : Below w.heap.size w w') : MZ PM V X w0 w' K Sp Lp Sd Ld := by
 obtain ⟨T, κ, tb, h⟩ := h
 exact ⟨T, κ, tb, h.more C hb⟩
theorem MZB.more (h : MZB PM V X w0 w K tb Sp Lp Sd Ld) (hb : Below w.heap.size w w') : MZB PM V X w0 w' K tb Sp Lp Sd Ld := by
 obtain ⟨T, κ, h⟩ := h
 exact ⟨T, κ, h.more C hb⟩
/-- new blocks to be kept from here on -/
theorem MZ.enter (h : MZ PM V X w0 w K Sp Lp Sd Ld) (hb : Below w.heap.size w U) (Y : List Nat) (hY : ∀ y ∈ Y, w.heap.size ≤ y ∧ y < U.heap.size) : MZ PM U (Y ++ X) w0 U K Sp Lp Sd Ld := by
 obtain ⟨T, κ, tb, h⟩ := h
 have h1 := h.more C hb
 have hgl := h.glt
 refine ⟨T, κ, tb, h1.pm, fun t ht => ⟨(h1.tT t ht).1, fun hm => ?_⟩, h1.dv, h1.o, h1.nb, fun x hx => ?_, h1.b⟩
 ·rcases List.mem_append.1 hm with hm | hm
  ·have := (hY t hm).1
   have := C.lt h.pm t ht
   omega
  ·exact (h1.tT t ht).2 hm
 ·rcases List.mem_append.1 hx with hx | hx
  ·have := hY x hx
   exact ⟨by omega, this.2, rfl⟩
  ·obtain ⟨s1, s2, s3⟩ := h1.st x hx
   exact ⟨s1, s2, rfl⟩
omit C in
theorem MZ.leave (h : MZ PM V X w0 w K Sp Lp Sd Ld) (hb : Below w.heap.size w U) (h' : MZ PM U (Y ++ X) w0 w' K Sp' Lp' Sd' Ld') : MZ PM V X w0 w' K Sp' Lp' Sd' Ld' := by
 have hst := h.st
 obtain ⟨T, κ, tb, h'⟩ := h'
 refine ⟨T, κ, tb, h'.pm, fun t ht => ⟨(h'.tT t ht).1, fun hm => (h'.tT t ht).2 (List.mem_append_right _ hm)⟩, h'.dv, h'.o, h'.nb, fun x hx => ?_, h'.b⟩
 obtain ⟨s1, s2, s3⟩ := h'.st x (List.mem_append_right _ hx)
 obtain ⟨t1, t2, t3⟩ := hst x hx
 exact ⟨s1, s2, s3.trans ((hb.block x t2).trans t3)⟩
end
end Go.Proofs.YteaincdeoajkeaaGreatDoor.Mm
end
