/- Several texts in one: Nh Va Vb -/
import Derived.Test.YtniaclhmfmkikaaGreatDoorZ16
import Derived.Test.YtniaclhmfmkikaaGreatDoorZ07
import Derived.Test.YtniaclhmfmkikaaGreatDoorZ09
import Derived.Test.YtniaclhmfmkikaaGreatDoorZ12
import Derived.Test.YtniaclhmfmkikaaGreatDoorZ13
import Derived.Test.YtniaclhmfmkikaaGreatDoorZ03
section
/- Package isa: Writes of both; what is carried on from the world in which a walk began; awake. -/
namespace Go.Proofs.YtniaclhmfmkikaaGreatDoor.Is
open Go.RowKit Ut
set_option linter.unusedVariables false
set_option maxRecDepth 100000
set_option maxHeartbeats 4000000

/-- what Writes answers -/
def wrB (o d a b m : Int) : Bool := validB o d a b m && hD o.toNat
def wrZ (o d a b m : Int) : Int := if wrB o d a b m = true then d else 0

theorem writes_none (o d a b m : Int) (hv : validB o d a b m = false) (w : World) (hw : HasT w) :
    Calls Tryz.prog 17 #[insV o d a b m] w fun e w' => e = .returned (.tuple #[.int .i64 0, .bool false]) ∧ Below w.heap.size w w' := by
  have hb := Lib.hid (ins_below o d a b m w)
  have HT := Lib.hid (hw.more hb.out)
  have HK : Hid (∀ w, HasT w → Calls Tryz.prog 29 #[insV o d a b m] w fun e w' => e = .returned (.bool false) ∧ Below w.heap.size w w') := Lib.hid fun w hw => valid_any o d a b m false hv w hw
  clear hv hw
  go_enter Tryz.func17, Tryz.ntmps17
  go_wp2_with fail
  refine (HK.out _ HT.out).mono ?_
  rintro e w1 ⟨rfl, hb1⟩
  have HB1 := Lib.hid (hb.out.trans (hb1.mono hb.out.size))
  clear hb1
  go_wp2
  go_ret2
  exact ⟨rfl, HB1.out⟩
theorem writes_some (n : Nat) (d a b m : Int) (t : Bool) (h2 : n ≤ 41) (hv : validB n d a b m = true) (ht : hD n = t) (w : World) (hw : HasT w) :
    Calls Tryz.prog 17 #[insV n d a b m] w fun e w' => e = .returned (.tuple #[.int .i64 (if t = true then d else 0), .bool t]) ∧ Below w.heap.size w w' := by
  have hb := Lib.hid (ins_below n d a b m w)
  have HT := Lib.hid (hw.more hb.out)
  have HK : Hid (∀ w, HasT w → Calls Tryz.prog 29 #[insV n d a b m] w fun e w' => e = .returned (.bool true) ∧ Below w.heap.size w w') := Lib.hid fun w hw => valid_any n d a b m true hv w hw
  have hc : Hid (∀ w, HasT w → w.cell? ⟨0, n, none⟩ = some (.int .u8 (hasN n : Nat))) := Lib.hid fun w hw => hw.at n (by omega)
  have hbit : (bits .and .u8 ((hasN n : Nat) : Int) 1 == 0) = !t := by
    rw [show (1 : Int) = ((1 : Nat) : Int) from rfl, u8_and_nat (hasN n) 1 (has_le n) (by omega), ← ht, Bool.eq_iff_iff]
    unfold hD
    simp
    omega
  have hx : (n : Int) < 42 := by omega
  generalize hasN n = z at hc hbit
  clear hv hw ht
  cases t
  · rw [if_neg (by decide)]
    have hbit2 : (bits .and .u8 (z : Int) 1 == 0) = true := hbit
    clear hbit
    go_enter Tryz.func17, Tryz.ntmps17
    go_wp2_with fail
    refine (HK.out _ HT.out).mono ?_
    rintro e w1 ⟨rfl, hb1⟩
    obtain ⟨r0, r1, r2, r3, r4⟩ := ((ins_at n d a b m w).more hb1).cells
    have rc := hc.out _ (HT.out.more hb1)
    have HB1 := Lib.hid (hb.out.trans (hb1.mono hb.out.size))
    clear hb1
    go_wp2
    go_ret2
    exact ⟨rfl, HB1.out⟩
  · rw [if_pos rfl]
    have hbit2 : (bits .and .u8 (z : Int) 1 == 0) = false := hbit
    clear hbit
    go_enter Tryz.func17, Tryz.ntmps17
    go_wp2_with fail
    refine (HK.out _ HT.out).mono ?_
    rintro e w1 ⟨rfl, hb1⟩
    obtain ⟨r0, r1, r2, r3, r4⟩ := ((ins_at n d a b m w).more hb1).cells
    have rc := hc.out _ (HT.out.more hb1)
    have HB1 := Lib.hid (hb.out.trans (hb1.mono hb.out.size))
    clear hb1
    go_wp2
    go_ret2
    exact ⟨rfl, HB1.out⟩
theorem writes_any (o d a b m x : Int) (t : Bool) (hx : wrZ o d a b m = x) (ht : wrB o d a b m = t) (w : World) (hw : HasT w) :
    Calls Tryz.prog 17 #[insV o d a b m] w fun e w' => e = .returned (.tuple #[.int .i64 x, .bool t]) ∧ Below w.heap.size w w' := by
  subst hx ht
  unfold wrZ
  by_cases h : validB o d a b m = true
  · obtain ⟨ho, _⟩ := valid_bounds h
    obtain ⟨n, rfl⟩ : ∃ n : Nat, o = n := ⟨o.toNat, by omega⟩
    rw [show wrB n d a b m = hD n by unfold wrB; rw [h, Int.toNat_natCast, Bool.true_and]]
    exact writes_some n d a b m _ (by omega) h rfl w hw
  · have hf : validB o d a b m = false := by simpa using h
    rw [show wrB o d a b m = false by unfold wrB; rw [hf, Bool.false_and], if_neg (by decide)]
    exact writes_none o d a b m hf w hw

/-- a call, carried on from the world in which the walk began -/
theorem keep {f : Nat} {args : Array Value} {r : Ending} {w0 w : World} (h : Below w0.heap.size w0 w) (H : Calls Tryz.prog f args w fun e w' => e = r ∧ Below w.heap.size w w') :
    Calls Tryz.prog f args w fun e w' => e = r ∧ Below w0.heap.size w0 w' := H.mono fun _ _ ⟨he, hb⟩ => ⟨he, h.trans (hb.mono h.size)⟩

theorem enc_told : encZ 14 1 2 0 (-1) = 4294707278 := by decide +kernel
theorem enc_good : encE 14 1 2 0 (-1) = 0 := by decide +kernel
theorem dec_told : decT 0 = false := by decide +kernel
theorem dec_zero : decV 0 = insV 0 0 0 0 0 := by unfold decV; rw [dec_told]; rfl
end Go.Proofs.YtniaclhmfmkikaaGreatDoor.Is
end
section
/- Package core: what one instruction comes to, plainly, by cases of the operation; which old blocks stay as they were. -/
namespace Go.Proofs.YtniaclhmfmkikaaGreatDoor.Ex
open Go.RowKit Ut
set_option maxRecDepth 100000
set_option linter.unusedVariables false

/-- all old blocks but those of S are as they were -/
structure Kp (S : List Nat) (w w' : World) : Prop where
  os : w'.os = w.os
  tape : w'.tape = w.tape
  output : w'.output = w.output
  size : w.heap.size ≤ w'.heap.size
  block : ∀ q, q < w.heap.size → q ∉ S → w'.heap[q]? = w.heap[q]?
section
variable {S : List Nat} {w w' w'' : World} {b : Nat}
theorem Kp.refl (S : List Nat) (w : World) : Kp S w w := ⟨rfl, rfl, rfl, Nat.le_refl _, fun _ _ _ => rfl⟩
theorem Kp.trans (h : Kp S w w') (k : Kp S w' w'') : Kp S w w'' :=
  ⟨k.os.trans h.os, k.tape.trans h.tape, k.output.trans h.output, Nat.le_trans h.size k.size, fun q hq hn => (k.block q (Nat.lt_of_lt_of_le hq h.size) hn).trans (h.block q hq hn)⟩
theorem Kp.of_below (h : Below w.heap.size w w') : Kp S w w' := ⟨h.os, h.tape, h.output, h.size, fun q hq _ => h.block q hq⟩
theorem Kp.of_grown (h : w.grownBy w' (some b)) (hb : b ∈ S) : Kp S w w' := ⟨h.os, h.tape, h.output, h.size, fun q hq hn => h.block q hq (fun e => hn (by injection e with e; rw [e]; exact hb))⟩
theorem Kp.more {S' : List Nat} (h : Kp S w w') (hs : ∀ q ∈ S, q ∈ S') : Kp S' w w' := ⟨h.os, h.tape, h.output, h.size, fun q hq hn => h.block q hq (fun e => hn (hs q e))⟩
/-- of blocks made later than the first B nothing is said -/
theorem Kp.under {B : Nat} (h : Kp S w w') (hs : ∀ q ∈ S, B ≤ q) (hB : B ≤ w.heap.size) : Below B w w' := by
  refine ⟨h.os, h.tape, h.output, h.size, fun q hq => h.block q (Nat.lt_of_lt_of_le hq hB) (fun e => ?_)⟩
  have := hs q e
  omega
/-- blocks that are made on the way are the way's own -/
theorem Kp.later {n : Nat} (h : Kp (n :: S) w w') (hn : w.heap.size ≤ n) : Kp S w w' := ⟨h.os, h.tape, h.output, h.size, fun q hq hs => h.block q hq (fun e => by
  rcases List.mem_cons.1 e with e | e
  · omega
  · exact hs e)⟩
theorem Blk.kp {t : TypeId} {cs : List Value} (h : Blk w b t cs) (k : Kp S w w') (hb : b ∉ S) : Blk w' b t cs := h.of_block (k.block b h.lt hb)
end

/-- an effect -/
structure Eff where
  k : Int
  pc : Int
  ad : Int
  wd : Int
  sg : Bool
  d : Int
  v : Int
  ca : Int
  tv : Int
def Eff.cs (E : Eff) : List Value := [.int .i64 E.k, .int .u32 E.pc, .int .u32 E.ad, .int .i64 E.wd, .bool E.sg, .int .i64 E.d, .int .u32 E.v, .int .u32 E.ca, .int .u32 E.tv]
def Eff.val (E : Eff) : Value := .agg E.cs.toArray
def effV (k pc ad wd : Int) (sg : Bool) (d v ca tv : Int) : Value := (Eff.mk k pc ad wd sg d v ca tv).val
abbrev zeroE : Eff := ⟨0, 0, 0, 0, false, 0, 0, 0, 0⟩
abbrev doneE (pc : Int) : Eff := ⟨0, pc, 0, 0, false, 0, 0, 0, 0⟩
abbrev trapE (c t : Int) : Eff := ⟨3, 0, 0, 0, false, 0, 0, c, t⟩
abbrev askE (k pc : Int) : Eff := ⟨k, pc, 0, 0, false, 0, 0, 0, 0⟩
abbrev loadE (pc ad wd : Int) (sg : Bool) (d : Int) : Eff := ⟨1, pc, ad, wd, sg, d, 0, 0, 0⟩
abbrev storeE (pc ad wd v : Int) : Eff := ⟨2, pc, ad, wd, false, 0, v, 0, 0⟩

/-- where it goes on, where a load or a store is, how far a branch goes -/
def nxt (p : Int) : Int := (p + 4) % 4294967296
def adr (x m : Int) : Int := (x + m) % 4294967296
def tgt (p m : Int) : Int := (p + 4 * m) % 4294967296

/-- what an instruction came to: its effect, the registers, where it goes on, the kernel's registers -/
structure Res where
  E : Eff
  R : List Int
  p : Int
  Q : List Nat
def giveX (R : List Int) (p : Int) (Q : List Nat) (d v : Int) : Res := ⟨doneE (nxt p), Rg.setR R d v, nxt p, Q⟩
def jumpX (R : List Int) (p : Int) (Q : List Nat) (d q : Int) : Res := ⟨doneE q, Rg.setR R d (nxt p), q, Q⟩
def goX (R : List Int) (q : Int) (Q : List Nat) : Res := ⟨doneE q, R, q, Q⟩
def stayX (E : Eff) (R : List Int) (p : Int) (Q : List Nat) : Res := ⟨E, R, p, Q⟩
/-- an operation of the kernel's mode, in it -/
def kernX (R : List Int) (p : Int) (Q : List Nat) (i : Nat) (clock o d a b m : Int) : Res :=
  if o = 35 then stayX (askE 4 (nxt p)) R p Q
  else if o = 40 then stayX (askE 5 (nxt p)) R p Q
  else if o = 39 then stayX (askE 6 (nxt p)) R p Q
  else if o = 36 then goX R ((Q.getD 2 0 : Nat) : Int) (Cs.lvR Q)
  else if o = 37 then giveX R p Q d (Cs.rdZ Q i m clock)
  else if Cs.errZ Q m 7 = 0 then goX R (nxt p) (Cs.wrR Q m (Rg.getR R a).toNat)
  else stayX (trapE 1 (Is.encZ o d a b m)) R p Q
/-- any other -/
def userX (R : List Int) (p : Int) (Q : List Nat) (o d a b m : Int) : Res :=
  if 1 ≤ o ∧ o ≤ 13 then giveX R p Q d (Al.reckN o (Rg.getR R a).toNat (Rg.getR R b).toNat : Nat)
  else if 14 ≤ o ∧ o ≤ 21 then giveX R p Q d (Al.reckN (Al.plainN o) (Rg.getR R a).toNat (m % 4294967296).toNat : Nat)
  else if o = 22 then giveX R p Q d (m % 4294967296 * 262144 % 4294967296)
  else if (o = 23 ∨ o = 26) ∧ adr (Rg.getR R a) m % 4 ≠ 0 then stayX (trapE 2 (adr (Rg.getR R a) m)) R p Q
  else if o = 23 then stayX (loadE (nxt p) (adr (Rg.getR R a) m) 4 false d) R p Q
  else if o = 24 then stayX (loadE (nxt p) (adr (Rg.getR R a) m) 1 true d) R p Q
  else if o = 25 then stayX (loadE (nxt p) (adr (Rg.getR R a) m) 1 false d) R p Q
  else if o = 26 then stayX (storeE (nxt p) (adr (Rg.getR R a) m) 4 (Rg.getR R b)) R p Q
  else if o = 27 then stayX (storeE (nxt p) (adr (Rg.getR R a) m) 1 (Rg.getR R b)) R p Q
  else if 28 ≤ o ∧ o ≤ 31 then goX R (if Al.takeN o (Rg.getR R a).toNat (Rg.getR R b).toNat = true then tgt p m else nxt p) Q
  else if o = 32 then jumpX R p Q d (tgt p m)
  else if o = 33 then jumpX R p Q d (adr (Rg.getR R a) m)
  else if o = 34 then stayX (trapE 6 0) R p Q
  else stayX (trapE 8 p) R p Q
def exX (R : List Int) (p : Int) (Q : List Nat) (i : Nat) (clock o d a b m : Int) : Res :=
  if Is.validB o d a b m = true then
    (if Is.kernB o = true then (if Cs.hasB (Cs.st Q) 4 = true then kernX R p Q i clock o d a b m else stayX (trapE 7 (Is.encZ o d a b m)) R p Q)
    else userX R p Q o d a b m)
  else stayX zeroE R p Q
def exZ (o d a b m : Int) : Int := if Is.validB o d a b m = true then 0 else 6

/-- the registers' words are words -/
def RegOk (R : List Int) : Prop := R.length = 16 ∧ ∀ x ∈ R, 0 ≤ x ∧ x < 4294967296
theorem RegOk.get {R : List Int} (h : RegOk R) (i : Int) : 0 ≤ Rg.getR R i ∧ Rg.getR R i < 4294967296 := by
  unfold Rg.getR
  split
  · rw [List.getD_eq_getElem?_getD]
    by_cases hk : i.toNat < R.length
    · rw [List.getElem?_eq_getElem hk]
      exact h.2 _ (List.getElem_mem hk)
    · rw [List.getElem?_eq_none (by omega)]
      exact ⟨Int.le_refl _, by decide⟩
  · exact ⟨Int.le_refl _, by decide⟩
theorem RegOk.word {R : List Int} (h : RegOk R) (i : Int) : ∃ x : Nat, Rg.getR R i = (x : Int) ∧ x < 4294967296 := by
  have := h.get i
  exact ⟨(Rg.getR R i).toNat, by omega, by omega⟩
theorem RegOk.set {R : List Int} (h : RegOk R) (i v : Int) (hv : 0 ≤ v ∧ v < 4294967296) : RegOk (Rg.setR R i v) := by
  unfold Rg.setR
  split
  · refine ⟨by rw [List.length_set]; exact h.1, fun x hx => ?_⟩
    rcases List.mem_or_eq_of_mem_set hx with h' | h'
    · exact h.2 x h'
    · rw [h']; exact hv
  · exact h
theorem regOk_zer : RegOk Rg.zer := ⟨rfl, by decide⟩
theorem nxt_in (p : Int) : 0 ≤ nxt p ∧ nxt p < 4294967296 := by unfold nxt; omega
theorem adr_in (x m : Int) : 0 ≤ adr x m ∧ adr x m < 4294967296 := by unfold adr; omega
theorem tgt_in (p m : Int) : 0 ≤ tgt p m ∧ tgt p m < 4294967296 := by unfold tgt; omega
end Go.Proofs.YtniaclhmfmkikaaGreatDoor.Ex
end
section
/- Package core: a job's block, told with both files; its small methods that only read; an Effect's block. -/
namespace Go.Proofs.YtniaclhmfmkikaaGreatDoor.Ex
open Go.RowKit Ut
set_option maxRecDepth 100000
set_option linter.unusedVariables false
set_option maxHeartbeats 4000000

/-- a job: the instruction, the clock, what alu does for it, where it is, what comes next, what the registers A and B have -/
structure Job where
  o : Int
  d : Int
  a : Int
  b : Int
  m : Int
  clock : Int
  plain : Int
  pc : Int
  nx : Int
  va : Int
  vb : Int
def Job.cs (J : Job) (rb cb : Nat) : List Value := [.int .i64 J.o, .int .i64 J.d, .int .i64 J.a, .int .i64 J.b, .int .i64 J.m, .pointer (some ⟨rb, 0, none⟩), .pointer (some ⟨cb, 0, none⟩), .int .i64 J.clock, .int .i64 J.plain, .int .u32 J.pc, .int .u32 J.nx, .int .u32 J.va, .int .u32 J.vb]
def JAt (W : World) (j rb cb : Nat) (J : Job) : Prop := Blk W j 103 (J.cs rb cb)

section
variable {w w' W : World} {j rb cb i : Nat} {J : Job} {p : Int} {R : List Int} {Q : List Nat} {S : List Nat}
theorem JAt.lt (h : JAt W j rb cb J) : j < W.heap.size := Blk.lt h
theorem JAt.below {B : Nat} (h : JAt w j rb cb J) (hb : Below B w w') (hB : j < B) : JAt w' j rb cb J := Blk.below h hb hB
theorem JAt.more (h : JAt w j rb cb J) (hb : Below w.heap.size w w') : JAt w' j rb cb J := h.below hb h.lt
theorem JAt.cell (h : JAt W j rb cb J) (k : Nat) (v : Value) (hk : (J.cs rb cb)[k]? = some v) : W.cell? ⟨j, k, none⟩ = some v := Blk.cell h hk
/-- isa's table and a file are blocks of their own -/
theorem has_ne (h : Is.HasT w) {b : Nat} {t : TypeId} {cs : List Value} (hb : Blk w b t cs) (hl : cs.length ≠ 42) : 0 ≠ b := by
  rintro rfl
  obtain ⟨t', fr, h⟩ := h
  unfold Blk at hb
  rw [h] at hb
  injection hb with hb
  injection hb with h1
  have h2 := congrArg Array.size h1
  simp [Is.hasL] at h2
  exact hl h2.symm

/-- a job with its files -/
structure Env (w : World) (j rb cb i : Nat) (J : Job) (p : Int) (R : List Int) (Q : List Nat) : Prop where
  job : JAt w j rb cb J
  reg : Rg.FAt w rb p R
  csr : Cs.FAt w cb i Q
  tab : Is.HasT w
  n1 : j ≠ rb
  n2 : j ≠ cb
  n3 : rb ≠ cb
theorem Env.lts (h : Env w j rb cb i J p R Q) : j < w.heap.size ∧ rb < w.heap.size ∧ cb < w.heap.size ∧ 0 < w.heap.size := ⟨h.job.lt, h.reg.1.lt, h.csr.1.lt, h.tab.lt⟩
theorem not_old {n g : Nat} (h : j < n ∧ rb < n ∧ cb < n ∧ g < n) : n ∉ [rb, cb] := by
  obtain ⟨_, h1, h2, _⟩ := h
  simp
  omega
theorem Env.at {B : Nat} (h : Env w j rb cb i J p R Q) (hb : Below B w w') (hl : j < B ∧ rb < B ∧ cb < B ∧ 0 < B) : Env w' j rb cb i J p R Q :=
  ⟨h.job.below hb hl.1, h.reg.below hb hl.2.1, h.csr.below hb hl.2.2.1, h.tab.below hb hl.2.2.2, h.n1, h.n2, h.n3⟩
theorem Env.below (h : Env w j rb cb i J p R Q) (hb : Below w.heap.size w w') : Env w' j rb cb i J p R Q := h.at hb h.lts
theorem tab_grown {b : Nat} (h : Is.HasT w) (hg : w.grownBy w' (some b)) (hn : 0 ≠ b) : Is.HasT w' := by
  have hl := h.lt
  obtain ⟨t, fr, h⟩ := h
  exact ⟨t, fr, (hg.block _ hl (fun e => hn (by injection e))).trans h⟩
theorem reg_len (h : Rg.FAt w rb p R) : (Rg.fCells p R).length ≠ 42 := by
  have := h.2
  simp [Rg.fCells, Rg.wordsV, this]
theorem csr_len (h : Cs.FAt w cb i Q) : (Cs.fCells i Q).length ≠ 42 := by
  have := h.2.1.len
  simp [Cs.fCells, Cs.wordsV, this]
/-- the registers turned -/
theorem Env.regs {p' : Int} {R' : List Int} (h : Env w j rb cb i J p R Q) (hF : Rg.FAt w' rb p' R') (hg : w.grownBy w' (some rb)) : Env w' j rb cb i J p' R' Q :=
  ⟨Blk.kept h.job hg (fun e => h.n1 (by injection e)), hF, h.csr.kept hg (fun e => h.n3 (by injection e with e; exact e.symm)), tab_grown h.tab hg (has_ne h.tab h.reg.1 (reg_len h.reg)), h.n1, h.n2, h.n3⟩
/-- the kernel's registers turned -/
theorem Env.csrs {Q' : List Nat} (h : Env w j rb cb i J p R Q) (hF : Cs.FAt w' cb i Q') (hg : w.grownBy w' (some cb)) : Env w' j rb cb i J p R Q' :=
  ⟨Blk.kept h.job hg (fun e => h.n2 (by injection e)), h.reg.kept hg (fun e => h.n3 (by injection e)), hF, tab_grown h.tab hg (has_ne h.tab h.csr.1 (csr_len h.csr)), h.n1, h.n2, h.n3⟩
/-- the job turned -/
theorem Env.jobs {J' : Job} (h : Env w j rb cb i J p R Q) (hF : JAt w' j rb cb J') (hg : w.grownBy w' (some j)) : Env w' j rb cb i J' p R Q :=
  ⟨hF, h.reg.kept hg (fun e => h.n1 (by injection e with e; exact e.symm)), h.csr.kept hg (fun e => h.n2 (by injection e with e; exact e.symm)), tab_grown h.tab hg (has_ne h.tab h.job (by simp [Job.cs])), h.n1, h.n2, h.n3⟩
theorem kp_regs (hg : w.grownBy w' (some rb)) : Kp [rb, cb] w w' := Kp.of_grown hg (by simp)
theorem kp_csrs (hg : w.grownBy w' (some cb)) : Kp [rb, cb] w w' := Kp.of_grown hg (by simp)
end

theorem eff_run (w : World) : Hid (∀ (ρ : Operand → Value) (o : Oper), o.op = .alloc 32 → (execOp ρ o).run Tryz.prog w = .ok (.value (.pointer (some ⟨w.heap.size, 0, none⟩))) (w.alloc (.cells zeroE.cs.toArray 32))) := Lib.hid fun ρ o ho => by
  unfold execOp
  rw [ho]
  kernel_rfl
theorem eff_below (w : World) : Below w.heap.size w (w.alloc (.cells zeroE.cs.toArray 32)) := (Below.refl _ _).alloc (Nat.le_refl _) _
theorem eff_blk (w : World) : Blk (w.alloc (.cells zeroE.cs.toArray 32)) w.heap.size 32 zeroE.cs := Blk.new w _ _
theorem size_eff (E : Eff) : (Tryz.prog.info? 32).map (·.size) = some E.cs.toArray.size := by kernel_rfl
theorem size_effL (E : Eff) : (Tryz.prog.info? 32).map (·.size) = some E.cs.length := by kernel_rfl
theorem one_eff (E : Eff) : E.cs.toArray.all (·.oneCell') = true := by kernel_rfl
theorem one_effL (E : Eff) : ∀ v ∈ E.cs, v.oneCell' = true := by
  have := one_eff E
  simpa using this
/-- the Effect is stored whole into its own block -/
theorem fin_eff {w V : World} {j rb cb i : Nat} {J : Job} {p : Int} {R : List Int} {Q : List Nat} {cs : List Value} (hK : Kp [rb, cb] w V) (hE : Env V j rb cb i J p R Q) (hl : j < w.heap.size ∧ rb < w.heap.size ∧ cb < w.heap.size ∧ 0 < w.heap.size)
    (hN : Blk V w.heap.size 32 cs) (E : Eff) :
    Env (V.setRow w.heap.size E.cs.toArray) j rb cb i J p R Q ∧ Kp [rb, cb] w (V.setRow w.heap.size E.cs.toArray) ∧ Blk (V.setRow w.heap.size E.cs.toArray) w.heap.size 32 E.cs := by
  have hb := below_setRow (Below.refl w.heap.size V) (Nat.le_refl w.heap.size) E.cs.toArray
  refine ⟨hE.at hb hl, ⟨hb.os.trans hK.os, hb.tape.trans hK.tape, hb.output.trans hK.output, Nat.le_trans hK.size hb.size, fun q hq hn => (hb.block q hq).trans (hK.block q hq hn)⟩, hN.row _⟩

theorem adr_wrap (x m : Int) : IntKind.u32.wrap (x + m % 4294967296) = adr x m := by
  simp [IntKind.wrap, IntKind.bits, IntKind.signed, adr]
theorem tgt_wrap (p m : Int) : IntKind.u32.wrap (p + IntKind.u32.wrap (4 * (m % 4294967296))) = tgt p m := by
  simp [IntKind.wrap, IntKind.bits, IntKind.signed, tgt]
  omega

theorem number_any (j rb cb : Nat) (J : Job) (w : World) (h : JAt w j rb cb J) :
    Calls Tryz.prog 58 #[.pointer (some ⟨j, 0, none⟩)] w fun e w' => e = .returned (.int .u32 (J.m % 4294967296)) ∧ w = w' := by
  have c4 : w.cell? ⟨j, 4, none⟩ = some (.int .i64 J.m) := h.cell 4 _ rfl
  clear h
  generalize J.m = m at c4 ⊢
  go_enter Tryz.func58, Tryz.ntmps58
  go_wp2
  go_ret
  exact ⟨rfl, rfl⟩
theorem address_any (j rb cb : Nat) (J : Job) (w : World) (h : JAt w j rb cb J) :
    Calls Tryz.prog 92 #[.pointer (some ⟨j, 0, none⟩)] w fun e w' => e = .returned (.int .u32 (adr J.va J.m)) ∧ Below w.heap.size w w' := by
  have c11 : w.cell? ⟨j, 11, none⟩ = some (.int .u32 J.va) := h.cell 11 _ rfl
  have hlt := h.lt
  have HM : Hid (∀ W, Below w.heap.size w W → Calls Tryz.prog 58 #[.pointer (some ⟨j, 0, none⟩)] W fun e w' => e = .returned (.int .u32 (J.m % 4294967296)) ∧ W = w') := Lib.hid fun W hb => number_any j rb cb J W (h.more hb)
  have HX := Lib.hid (adr_wrap J.va J.m)
  clear h
  generalize J.m % 4294967296 = n at HM HX
  generalize adr J.va J.m = z at HX ⊢
  generalize J.va = x at c11 HX
  go_enter Tryz.func92, Tryz.ntmps92
  go_upto_region 1 with fail
  apply wp_region_auto [3, 4, 5, 6, 7, 8, 9] [_, _, _, _, _, _, _] (fun W' => Below w.heap.size w W')
  case hm => kernel_rfl
  case hT => intro y; simp only [setAll, List.setIfInBounds_toArray, List.set_cons_succ, List.set_cons_zero]; exact rfl
  case hok => kernel_rfl
  case hn => decide
  case hw => exact (Below.refl _ _).drew
  case hs =>
    refine auto_op 3 [] (by kernel_rfl) (fun y w' HW hd K hK => ?_) ?_
    · go_simp
      refine hK _ _ ?_ ?_ HW
      · simp [upd]
      · exact rfl
    refine auto_op 4 [0] (by kernel_rfl) (fun y w' HW hd K hK => ?_) ?_
    · have e0 := hd_nth (hd 0 (by simp)) rfl
      go_simp
      refine hK _ _ ?_ ?_ HW
      · simp [upd, e0]
      · exact rfl
    refine auto_op 5 [1] (by kernel_rfl) (fun y w' HW hd K hK => ?_) ?_
    · have e1 := hd_nth (hd 1 (by simp)) rfl
      go_simp
      refine hK _ _ ?_ ?_ HW
      · simp [upd, e1]
      · exact rfl
    refine auto_op 6 [2] (by kernel_rfl) (fun y w' HW hd K hK => ?_) ?_
    · have e2 := hd_nth (hd 2 (by simp)) rfl
      have hcl : ∀ p : Addr, p.block < w.heap.size → w'.cell? p = w.cell? p := fun p hp => HW.cell hp
      go_simp
      refine hK _ _ ?_ ?_ HW
      · simp [upd, e2]
      · exact rfl
    refine auto_op 7 [] (by kernel_rfl) (fun y w' HW hd K hK => ?_) ?_
    · go_simp
      refine hK _ _ ?_ ?_ HW
      · simp [upd]
      · exact rfl
    refine auto_op 8 [4] (by kernel_rfl) (fun y w' HW hd K hK => ?_) ?_
    · have e4 := hd_nth (hd 4 (by simp)) rfl
      go_simp
      refine (HM.out _ HW).mono ?_
      rintro e w3 ⟨rfl, rfl⟩
      refine hK _ _ ?_ ?_ HW
      · simp [upd, e4]
      · exact rfl
    refine auto_op 9 [3, 5] (by kernel_rfl) (fun y w' HW hd K hK => ?_) ?_
    · have e3 := hd_nth (hd 3 (by simp)) rfl
      have e5 := hd_nth (hd 5 (by simp)) rfl
      go_simp
      refine hK _ _ ?_ ?_ HW
      · simp [upd, e3, e5]
      · exact rfl
    refine auto_last fun y w' HW hd K hK => ?_
    have e0 := hd_nth (hd 0 (by omega)) rfl
    have e1 := hd_nth (hd 1 (by omega)) rfl
    have e2 := hd_nth (hd 2 (by omega)) rfl
    have e3 := hd_nth (hd 3 (by omega)) rfl
    have e4 := hd_nth (hd 4 (by omega)) rfl
    have e5 := hd_nth (hd 5 (by omega)) rfl
    have e6 := hd_nth (hd 6 (by omega)) rfl
    go_simp
    refine hK _ _ ?_
    clear hd hK K e0 e1 e2 e3 e4 e5 e6
    go_wp2
    go_ret
    exact ⟨by rw [HX.out]; rfl, HW⟩
theorem target_any (j rb cb : Nat) (J : Job) (w : World) (h : JAt w j rb cb J) :
    Calls Tryz.prog 97 #[.pointer (some ⟨j, 0, none⟩)] w fun e w' => e = .returned (.int .u32 (tgt J.pc J.m)) ∧ Below w.heap.size w w' := by
  have c9 : w.cell? ⟨j, 9, none⟩ = some (.int .u32 J.pc) := h.cell 9 _ rfl
  have hlt := h.lt
  have HM : Hid (∀ W, Below w.heap.size w W → Calls Tryz.prog 58 #[.pointer (some ⟨j, 0, none⟩)] W fun e w' => e = .returned (.int .u32 (J.m % 4294967296)) ∧ W = w') := Lib.hid fun W hb => number_any j rb cb J W (h.more hb)
  have HX := Lib.hid (tgt_wrap J.pc J.m)
  clear h
  generalize J.m % 4294967296 = n at HM HX
  generalize tgt J.pc J.m = z at HX ⊢
  generalize J.pc = x at c9 HX
  go_enter Tryz.func97, Tryz.ntmps97
  go_upto_region 1 with fail
  apply wp_region_auto [3, 4, 5, 6, 7, 8, 9, 10] [_, _, _, _, _, _, _, _] (fun W' => Below w.heap.size w W')
  case hm => kernel_rfl
  case hT => intro y; simp only [setAll, List.setIfInBounds_toArray, List.set_cons_succ, List.set_cons_zero]; exact rfl
  case hok => kernel_rfl
  case hn => decide
  case hw => exact (Below.refl _ _).drew
  case hs =>
    refine auto_op 3 [] (by kernel_rfl) (fun y w' HW hd K hK => ?_) ?_
    · go_simp
      refine hK _ _ ?_ ?_ HW
      · simp [upd]
      · exact rfl
    refine auto_op 4 [0] (by kernel_rfl) (fun y w' HW hd K hK => ?_) ?_
    · have e0 := hd_nth (hd 0 (by simp)) rfl
      go_simp
      refine hK _ _ ?_ ?_ HW
      · simp [upd, e0]
      · exact rfl
    refine auto_op 5 [1] (by kernel_rfl) (fun y w' HW hd K hK => ?_) ?_
    · have e1 := hd_nth (hd 1 (by simp)) rfl
      go_simp
      refine hK _ _ ?_ ?_ HW
      · simp [upd, e1]
      · exact rfl
    refine auto_op 6 [2] (by kernel_rfl) (fun y w' HW hd K hK => ?_) ?_
    · have e2 := hd_nth (hd 2 (by simp)) rfl
      have hcl : ∀ p : Addr, p.block < w.heap.size → w'.cell? p = w.cell? p := fun p hp => HW.cell hp
      go_simp
      refine hK _ _ ?_ ?_ HW
      · simp [upd, e2]
      · exact rfl
    refine auto_op 7 [] (by kernel_rfl) (fun y w' HW hd K hK => ?_) ?_
    · go_simp
      refine hK _ _ ?_ ?_ HW
      · simp [upd]
      · exact rfl
    refine auto_op 8 [4] (by kernel_rfl) (fun y w' HW hd K hK => ?_) ?_
    · have e4 := hd_nth (hd 4 (by simp)) rfl
      go_simp
      refine (HM.out _ HW).mono ?_
      rintro e w3 ⟨rfl, rfl⟩
      refine hK _ _ ?_ ?_ HW
      · simp [upd, e4]
      · exact rfl
    refine auto_op 9 [5] (by kernel_rfl) (fun y w' HW hd K hK => ?_) ?_
    · have e5 := hd_nth (hd 5 (by simp)) rfl
      go_simp
      refine hK _ _ ?_ ?_ HW
      · simp [upd, e5]
      · exact rfl
    refine auto_op 10 [3, 6] (by kernel_rfl) (fun y w' HW hd K hK => ?_) ?_
    · have e3 := hd_nth (hd 3 (by simp)) rfl
      have e6 := hd_nth (hd 6 (by simp)) rfl
      go_simp
      refine hK _ _ ?_ ?_ HW
      · simp [upd, e3, e6]
      · exact rfl
    refine auto_last fun y w' HW hd K hK => ?_
    have e0 := hd_nth (hd 0 (by omega)) rfl
    have e1 := hd_nth (hd 1 (by omega)) rfl
    have e2 := hd_nth (hd 2 (by omega)) rfl
    have e3 := hd_nth (hd 3 (by omega)) rfl
    have e4 := hd_nth (hd 4 (by omega)) rfl
    have e5 := hd_nth (hd 5 (by omega)) rfl
    have e6 := hd_nth (hd 6 (by omega)) rfl
    have e7 := hd_nth (hd 7 (by omega)) rfl
    go_simp
    refine hK _ _ ?_
    clear hd hK K e0 e1 e2 e3 e4 e5 e6 e7
    go_wp2
    go_ret
    exact ⟨by rw [HX.out]; rfl, HW⟩
theorem askew_is (j rb cb : Nat) (J : Job) (w : World) (h : JAt w j rb cb J) (q : Bool) (hq : (adr J.va J.m % 4 != 0) = q) :
    Calls Tryz.prog 61 #[.pointer (some ⟨j, 0, none⟩)] w fun e w' => e = .returned (.bool q) ∧ Below w.heap.size w w' := by
  have HA := Lib.hid (address_any j rb cb J w h)
  have hz := adr_in J.va J.m
  clear h
  generalize adr J.va J.m = z at HA hq hz
  have hq2 : (z.tmod 4 != 0) = q := by rw [Int.tmod_eq_emod_of_nonneg hz.1]; exact hq
  have HQ := Lib.hid hq
  clear hq hq2
  obtain ⟨h0, h1⟩ := hz
  go_enter Tryz.func61, Tryz.ntmps61
  go_wp2_with fail
  refine HA.out.mono ?_
  rintro e w1 ⟨rfl, hb⟩
  have HB := Lib.hid hb
  clear hb
  go_wp2
  go_ret
  exact ⟨by rw [← HQ.out]; rfl, HB.out⟩
/-- how wide -/
def wdZ (o : Int) : Int := if o = 23 ∨ o = 26 then 4 else 1
theorem width_any (j rb cb : Nat) (J : Job) (w : World) (h : JAt w j rb cb J) (z : Int) (hz : wdZ J.o = z) :
    Calls Tryz.prog 94 #[.pointer (some ⟨j, 0, none⟩)] w fun e w' => e = .returned (.int .i64 z) ∧ w = w' := by
  subst hz
  have c0 : w.cell? ⟨j, 0, none⟩ = some (.int .i64 J.o) := h.cell 0 _ rfl
  clear h
  unfold wdZ
  generalize J.o = o at c0 ⊢
  by_cases h1 : o = 23
  · subst h1
    go_enter Tryz.func94, Tryz.ntmps94
    go_wp2
    go_ret
    exact ⟨rfl, rfl⟩
  by_cases h2 : o = 26
  · subst h2
    go_enter Tryz.func94, Tryz.ntmps94
    go_wp2
    go_ret
    exact ⟨rfl, rfl⟩
  · have e1 : (o == 23) = false := by rw [beq_eq_false_iff_ne]; exact h1
    have e2 : (o == 26) = false := by rw [beq_eq_false_iff_ne]; exact h2
    rw [if_neg (by omega)]
    clear h1 h2
    go_enter Tryz.func94, Tryz.ntmps94
    go_wp2
    go_ret
    exact ⟨rfl, rfl⟩
theorem trap_any (c t : Int) (w : World) :
    Calls Tryz.prog 93 #[.int .u32 c, .int .u32 t] w fun e w' => e = .returned (Eff.val (trapE c t)) ∧ Below w.heap.size w w' := by
  have HRUN := eff_run w
  have HB := Lib.hid (eff_below w)
  have HN := Lib.hid (eff_blk w)
  go_enter Tryz.func93, Tryz.ntmps93
  generalize hQQ : bodyPost _ _ _ = QQ
  have HQQ := Lib.hid hQQ
  clear hQQ
  go_upto_region 0 with fail
  refine wp_region_lit ?_
  refine Great.wpList_allocTo rfl (some 4) rfl (.pointer (some ⟨w.heap.size, 0, none⟩)) (.cells zeroE.cs.toArray 32) (HRUN.out _ _ rfl) ?_
  generalize hW : w.alloc (.cells zeroE.cs.toArray 32) = W at HB HN ⊢
  clear HRUN hW
  go_upto_region 1 with fail
  refine wp_region_lit ?_
  refine Great.wpList_readTo rfl _ rfl (.int .u32 c) (by kernel_rfl) ?_
  refine Great.wpList_readTo rfl _ rfl (.int .u32 t) (by kernel_rfl) ?_
  refine wpList_buildTo rfl 32 _ rfl _ rfl (Eff.cs (trapE c t)).toArray (by kernel_rfl) ?_
  refine wpList_store_rowTo rfl 32 _ _ rfl rfl w.heap.size (Eff.cs (trapE c t)).toArray (by kernel_rfl) (by kernel_rfl) 32 zeroE.cs.toArray HN.out (size_eff _) rfl (one_eff _) ?_
  have HB9 := Lib.hid (below_setRow HB.out (Nat.le_refl _) (Eff.cs (trapE c t)).toArray)
  have HN9 := Lib.hid (HN.out.row (Eff.cs (trapE c t)))
  generalize World.setRow _ w.heap.size (Eff.cs (trapE c t)).toArray = W9 at HB9 HN9 ⊢
  go_wp2
  rw [← HQQ.out]
  exact bodyPost_ret (v := Eff.val (trapE c t)) (results_cell_row Tryz.results93 _ _ _ _ _ _ _ rfl HN9.out Tryz.underlying32 rfl (size_eff _)) rfl ⟨rfl, HB9.out⟩
end Go.Proofs.YtniaclhmfmkikaaGreatDoor.Ex
end
