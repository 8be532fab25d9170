/- Package core: what one instruction comes to, plainly, by cases of the operation; which old blocks stay as they were. -/
import Derived.Test.YtniaclhmfmkikaaDoorUi
import Derived.Test.YtniaclhmfmkikaaDoorTe
import Derived.Test.YtniaclhmfmkikaaDoorMh
import Derived.Test.YtniaclhmfmkikaaDoorMg
import Derived.Test.YtniaclhmfmkikaaDoorNh
namespace Go.Proofs.YtniaclhmfmkikaaDoor.Ex
open Go.RowKit Ut
set_option maxRecDepth 100000
set_option linter.unusedVariables false

/-- all old blocks but those of S are as they were -/
structure Kp (S : List Nat) (w w' : World) : Prop where
  os : w'.os = w.os
  tape : w'.tape = w.tape
  output : w'.output = w.output
  size : w.heap.size ≤ w'.heap.size
  block : ∀ q, q < w.heap.size → q ∉ S → w'.heap[q]? = w.heap[q]?
section
variable {S : List Nat} {w w' w'' : World} {b : Nat}
theorem Kp.refl (S : List Nat) (w : World) : Kp S w w := ⟨rfl, rfl, rfl, Nat.le_refl _, fun _ _ _ => rfl⟩
theorem Kp.trans (h : Kp S w w') (k : Kp S w' w'') : Kp S w w'' :=
  ⟨k.os.trans h.os, k.tape.trans h.tape, k.output.trans h.output, Nat.le_trans h.size k.size, fun q hq hn => (k.block q (Nat.lt_of_lt_of_le hq h.size) hn).trans (h.block q hq hn)⟩
theorem Kp.of_below (h : Below w.heap.size w w') : Kp S w w' := ⟨h.os, h.tape, h.output, h.size, fun q hq _ => h.block q hq⟩
theorem Kp.of_grown (h : w.grownBy w' (some b)) (hb : b ∈ S) : Kp S w w' := ⟨h.os, h.tape, h.output, h.size, fun q hq hn => h.block q hq (fun e => hn (by injection e with e; rw [e]; exact hb))⟩
theorem Kp.more {S' : List Nat} (h : Kp S w w') (hs : ∀ q ∈ S, q ∈ S') : Kp S' w w' := ⟨h.os, h.tape, h.output, h.size, fun q hq hn => h.block q hq (fun e => hn (hs q e))⟩
/-- of blocks made later than the first B nothing is said -/
theorem Kp.under {B : Nat} (h : Kp S w w') (hs : ∀ q ∈ S, B ≤ q) (hB : B ≤ w.heap.size) : Below B w w' := by
  refine ⟨h.os, h.tape, h.output, h.size, fun q hq => h.block q (Nat.lt_of_lt_of_le hq hB) (fun e => ?_)⟩
  have := hs q e
  omega
/-- blocks that are made on the way are the way's own -/
theorem Kp.later {n : Nat} (h : Kp (n :: S) w w') (hn : w.heap.size ≤ n) : Kp S w w' := ⟨h.os, h.tape, h.output, h.size, fun q hq hs => h.block q hq (fun e => by
  rcases List.mem_cons.1 e with e | e
  · omega
  · exact hs e)⟩
theorem Blk.kp {t : TypeId} {cs : List Value} (h : Blk w b t cs) (k : Kp S w w') (hb : b ∉ S) : Blk w' b t cs := h.of_block (k.block b h.lt hb)
end

/-- an effect -/
structure Eff where
  k : Int
  pc : Int
  ad : Int
  wd : Int
  sg : Bool
  d : Int
  v : Int
  ca : Int
  tv : Int
def Eff.cs (E : Eff) : List Value := [.int .i64 E.k, .int .u32 E.pc, .int .u32 E.ad, .int .i64 E.wd, .bool E.sg, .int .i64 E.d, .int .u32 E.v, .int .u32 E.ca, .int .u32 E.tv]
def Eff.val (E : Eff) : Value := .agg E.cs.toArray
def effV (k pc ad wd : Int) (sg : Bool) (d v ca tv : Int) : Value := (Eff.mk k pc ad wd sg d v ca tv).val
abbrev zeroE : Eff := ⟨0, 0, 0, 0, false, 0, 0, 0, 0⟩
abbrev doneE (pc : Int) : Eff := ⟨0, pc, 0, 0, false, 0, 0, 0, 0⟩
abbrev trapE (c t : Int) : Eff := ⟨3, 0, 0, 0, false, 0, 0, c, t⟩
abbrev askE (k pc : Int) : Eff := ⟨k, pc, 0, 0, false, 0, 0, 0, 0⟩
abbrev loadE (pc ad wd : Int) (sg : Bool) (d : Int) : Eff := ⟨1, pc, ad, wd, sg, d, 0, 0, 0⟩
abbrev storeE (pc ad wd v : Int) : Eff := ⟨2, pc, ad, wd, false, 0, v, 0, 0⟩

/-- where it goes on, where a load or a store is, how far a branch goes -/
def nxt (p : Int) : Int := (p + 4) % 4294967296
def adr (x m : Int) : Int := (x + m) % 4294967296
def tgt (p m : Int) : Int := (p + 4 * m) % 4294967296

/-- what an instruction came to: its effect, the registers, where it goes on, the kernel's registers -/
structure Res where
  E : Eff
  R : List Int
  p : Int
  Q : List Nat
def giveX (R : List Int) (p : Int) (Q : List Nat) (d v : Int) : Res := ⟨doneE (nxt p), Rg.setR R d v, nxt p, Q⟩
def jumpX (R : List Int) (p : Int) (Q : List Nat) (d q : Int) : Res := ⟨doneE q, Rg.setR R d (nxt p), q, Q⟩
def goX (R : List Int) (q : Int) (Q : List Nat) : Res := ⟨doneE q, R, q, Q⟩
def stayX (E : Eff) (R : List Int) (p : Int) (Q : List Nat) : Res := ⟨E, R, p, Q⟩
/-- an operation of the kernel's mode, in it -/
def kernX (R : List Int) (p : Int) (Q : List Nat) (i : Nat) (clock o d a b m : Int) : Res :=
  if o = 35 then stayX (askE 4 (nxt p)) R p Q
  else if o = 40 then stayX (askE 5 (nxt p)) R p Q
  else if o = 39 then stayX (askE 6 (nxt p)) R p Q
  else if o = 36 then goX R ((Q.getD 2 0 : Nat) : Int) (Cs.lvR Q)
  else if o = 37 then giveX R p Q d (Cs.rdZ Q i m clock)
  else if Cs.errZ Q m 7 = 0 then goX R (nxt p) (Cs.wrR Q m (Rg.getR R a).toNat)
  else stayX (trapE 1 (Is.encZ o d a b m)) R p Q
/-- any other -/
def userX (R : List Int) (p : Int) (Q : List Nat) (o d a b m : Int) : Res :=
  if 1 ≤ o ∧ o ≤ 13 then giveX R p Q d (Al.reckN o (Rg.getR R a).toNat (Rg.getR R b).toNat : Nat)
  else if 14 ≤ o ∧ o ≤ 21 then giveX R p Q d (Al.reckN (Al.plainN o) (Rg.getR R a).toNat (m % 4294967296).toNat : Nat)
  else if o = 22 then giveX R p Q d (m % 4294967296 * 262144 % 4294967296)
  else if (o = 23 ∨ o = 26) ∧ adr (Rg.getR R a) m % 4 ≠ 0 then stayX (trapE 2 (adr (Rg.getR R a) m)) R p Q
  else if o = 23 then stayX (loadE (nxt p) (adr (Rg.getR R a) m) 4 false d) R p Q
  else if o = 24 then stayX (loadE (nxt p) (adr (Rg.getR R a) m) 1 true d) R p Q
  else if o = 25 then stayX (loadE (nxt p) (adr (Rg.getR R a) m) 1 false d) R p Q
  else if o = 26 then stayX (storeE (nxt p) (adr (Rg.getR R a) m) 4 (Rg.getR R b)) R p Q
  else if o = 27 then stayX (storeE (nxt p) (adr (Rg.getR R a) m) 1 (Rg.getR R b)) R p Q
  else if 28 ≤ o ∧ o ≤ 31 then goX R (if Al.takeN o (Rg.getR R a).toNat (Rg.getR R b).toNat = true then tgt p m else nxt p) Q
  else if o = 32 then jumpX R p Q d (tgt p m)
  else if o = 33 then jumpX R p Q d (adr (Rg.getR R a) m)
  else if o = 34 then stayX (trapE 6 0) R p Q
  else stayX (trapE 8 p) R p Q
def exX (R : List Int) (p : Int) (Q : List Nat) (i : Nat) (clock o d a b m : Int) : Res :=
  if Is.validB o d a b m = true then
    (if Is.kernB o = true then (if Cs.hasB (Cs.st Q) 4 = true then kernX R p Q i clock o d a b m else stayX (trapE 7 (Is.encZ o d a b m)) R p Q)
    else userX R p Q o d a b m)
  else stayX zeroE R p Q
def exZ (o d a b m : Int) : Int := if Is.validB o d a b m = true then 0 else 6

/-- the registers' words are words -/
def RegOk (R : List Int) : Prop := R.length = 16 ∧ ∀ x ∈ R, 0 ≤ x ∧ x < 4294967296
theorem RegOk.get {R : List Int} (h : RegOk R) (i : Int) : 0 ≤ Rg.getR R i ∧ Rg.getR R i < 4294967296 := by
  unfold Rg.getR
  split
  · rw [List.getD_eq_getElem?_getD]
    by_cases hk : i.toNat < R.length
    · rw [List.getElem?_eq_getElem hk]
      exact h.2 _ (List.getElem_mem hk)
    · rw [List.getElem?_eq_none (by omega)]
      exact ⟨Int.le_refl _, by decide⟩
  · exact ⟨Int.le_refl _, by decide⟩
theorem RegOk.word {R : List Int} (h : RegOk R) (i : Int) : ∃ x : Nat, Rg.getR R i = (x : Int) ∧ x < 4294967296 := by
  have := h.get i
  exact ⟨(Rg.getR R i).toNat, by omega, by omega⟩
theorem RegOk.set {R : List Int} (h : RegOk R) (i v : Int) (hv : 0 ≤ v ∧ v < 4294967296) : RegOk (Rg.setR R i v) := by
  unfold Rg.setR
  split
  · refine ⟨by rw [List.length_set]; exact h.1, fun x hx => ?_⟩
    rcases List.mem_or_eq_of_mem_set hx with h' | h'
    · exact h.2 x h'
    · rw [h']; exact hv
  · exact h
theorem regOk_zer : RegOk Rg.zer := ⟨rfl, by decide⟩
theorem nxt_in (p : Int) : 0 ≤ nxt p ∧ nxt p < 4294967296 := by unfold nxt; omega
theorem adr_in (x m : Int) : 0 ≤ adr x m ∧ adr x m < 4294967296 := by unfold adr; omega
theorem tgt_in (p m : Int) : 0 ≤ tgt p m ∧ tgt p m < 4294967296 := by unfold tgt; omega
end Go.Proofs.YtniaclhmfmkikaaDoor.Ex
