/- Several texts in one: Vi -/
import Derived.Test.YtniaclhmfmkikaaGreatDoorZ17
section
/- Package core: areMade, newJob. -/
namespace Go.Proofs.YtniaclhmfmkikaaGreatDoor.Ex
open Go.RowKit Ut
set_option maxRecDepth 100000
set_option linter.unusedVariables false
set_option maxHeartbeats 4000000

/-- both files, and isa's table -/
structure Fil (w : World) (rb cb i : Nat) (p : Int) (R : List Int) (Q : List Nat) : Prop where
  reg : Rg.FAt w rb p R
  csr : Cs.FAt w cb i Q
  tab : Is.HasT w
  n3 : rb ≠ cb
section
variable {w w' : World} {j rb cb i : Nat} {J : Job} {p : Int} {R : List Int} {Q : List Nat}
theorem Fil.lts (h : Fil w rb cb i p R Q) : rb < w.heap.size ∧ cb < w.heap.size ∧ 0 < w.heap.size := ⟨h.reg.1.lt, h.csr.1.lt, h.tab.lt⟩
theorem Fil.at {B : Nat} (h : Fil w rb cb i p R Q) (hb : Below B w w') (hl : rb < B ∧ cb < B ∧ 0 < B) : Fil w' rb cb i p R Q := ⟨h.reg.below hb hl.1, h.csr.below hb hl.2.1, h.tab.below hb hl.2.2, h.n3⟩
theorem Fil.below (h : Fil w rb cb i p R Q) (hb : Below w.heap.size w w') : Fil w' rb cb i p R Q := h.at hb h.lts
theorem Env.fil (h : Env w j rb cb i J p R Q) : Fil w rb cb i p R Q := ⟨h.reg, h.csr, h.tab, h.n3⟩
theorem Fil.env (h : Fil w rb cb i p R Q) (hj : JAt w j rb cb J) (h1 : j ≠ rb) (h2 : j ≠ cb) : Env w j rb cb i J p R Q := ⟨hj, h.reg, h.csr, h.tab, h1, h2, h.n3⟩
/-- the registers alone turned -/
theorem Fil.regs {p' : Int} {R' : List Int} (h : Fil w rb cb i p R Q) (hF : Rg.FAt w' rb p' R') (hg : w.grownBy w' (some rb)) : Fil w' rb cb i p' R' Q :=
  ⟨hF, h.csr.kept hg (fun e => h.n3 (by injection e with e; exact e.symm)), tab_grown h.tab hg (has_ne h.tab h.reg.1 (reg_len h.reg)), h.n3⟩
theorem Fil.csrs {Q' : List Nat} (h : Fil w rb cb i p R Q) (hF : Cs.FAt w' cb i Q') (hg : w.grownBy w' (some cb)) : Fil w' rb cb i p R Q' :=
  ⟨h.reg.kept hg (fun e => h.n3 (by injection e)), hF, tab_grown h.tab hg (has_ne h.tab h.csr.1 (csr_len h.csr)), h.n3⟩
/-- what writes elsewhere leaves them -/
theorem Fil.kp {S : List Nat} (h : Fil w rb cb i p R Q) (k : Kp S w w') (h1 : rb ∉ S) (h2 : cb ∉ S) (h3 : 0 ∉ S) : Fil w' rb cb i p R Q :=
  ⟨⟨Blk.kp h.reg.1 k h1, h.reg.2⟩, ⟨Blk.kp h.csr.1 k h2, h.csr.2⟩, by
    have hl := h.tab.lt
    obtain ⟨t, fr, hh⟩ := h.tab
    exact ⟨t, fr, (k.block _ hl h3).trans hh⟩, h.n3⟩
end

theorem err_not7 (Q : List Nat) (n c : Int) : (Cs.errZ Q n c != 7) = true := by
  rcases Cs.errZ_cases Q n c with ⟨_, e⟩ | ⟨_, _, e⟩ | ⟨_, _, _, e⟩ | ⟨_, _, _, e⟩ <;> rw [e] <;> rfl
theorem areMade_yes (rb cb i : Nat) (p : Int) (R : List Int) (Q : List Nat) (w : World) (h : Fil w rb cb i p R Q) :
    Calls Tryz.prog 28 #[.pointer (some ⟨rb, 0, none⟩), .pointer (some ⟨cb, 0, none⟩)] w fun e w' => e = .returned (.bool true) ∧ Below w.heap.size w w' := by
  have e0 : Rg.errZ 0 = 0 := rfl
  have A1 := Lib.hid (Rg.get_any rb p 0 R w h.reg)
  rw [e0] at A1
  obtain ⟨x, hx⟩ : ∃ x, Cs.rdZ Q i 0 0 = x := ⟨_, rfl⟩
  obtain ⟨z, hz⟩ : ∃ z, Cs.errZ Q 0 9 = z := ⟨_, rfl⟩
  have A2 := Cs.read_at cb i 0 0 Q x z hx hz
  have hz7 : (z != 7) = true := by rw [← hz]; exact err_not7 Q 0 9
  have HC := Lib.hid h.csr
  clear h hx hz e0
  go_enter Tryz.func28, Tryz.ntmps28
  go_wp2_with fail
  refine A1.out.mono ?_
  rintro e w1 ⟨rfl, rfl⟩
  go_wp2_with fail
  refine (A2.out w HC.out).mono ?_
  rintro e w1 ⟨rfl, hb⟩
  have HB := Lib.hid hb
  clear hb
  go_wp2
  go_ret
  exact ⟨by first | rfl | (rw [hz7]; rfl), HB.out⟩
/-- without registers, or without the kernel's ones -/
theorem areMade_no1 (a c : Option Addr) (w : World) (h : Rg.NotMade a w) (HC : Hid (∃ x z, Calls Tryz.prog 53 #[.pointer c, .int .i64 0, .int .i64 0] w fun e w' => e = .returned (.tuple #[.int .u32 x, .int .i64 z]) ∧ Below w.heap.size w w')) :
    Calls Tryz.prog 28 #[.pointer a, .pointer c] w fun e w' => e = .returned (.bool false) ∧ Below w.heap.size w w' := by
  have A1 := Lib.hid (Rg.get_zero a 0 w h)
  obtain ⟨x, z, hc⟩ := HC.out
  have A2 := Lib.hid hc
  clear h HC hc
  go_enter Tryz.func28, Tryz.ntmps28
  go_wp2_with fail
  refine A1.out.mono ?_
  rintro e w1 ⟨rfl, rfl⟩
  go_wp2_with fail
  refine A2.out.mono ?_
  rintro e w1 ⟨rfl, hb⟩
  have HB := Lib.hid hb
  clear hb
  go_wp2
  go_ret
  exact ⟨rfl, HB.out⟩
theorem areMade_no2 (rb : Nat) (c : Option Addr) (p : Int) (R : List Int) (w : World) (h : Rg.FAt w rb p R) (hc : Cs.NotMade c w) :
    Calls Tryz.prog 28 #[.pointer (some ⟨rb, 0, none⟩), .pointer c] w fun e w' => e = .returned (.bool false) ∧ Below w.heap.size w w' := by
  have e0 : Rg.errZ 0 = 0 := rfl
  have A1 := Lib.hid (Rg.get_any rb p 0 R w h)
  rw [e0] at A1
  have A2 := Lib.hid (Cs.read_zero c 0 0 w hc)
  clear h hc e0
  go_enter Tryz.func28, Tryz.ntmps28
  go_wp2_with fail
  refine A1.out.mono ?_
  rintro e w1 ⟨rfl, rfl⟩
  go_wp2_with fail
  refine A2.out.mono ?_
  rintro e w1 ⟨rfl, rfl⟩
  go_wp2
  go_ret
  exact ⟨rfl, Below.refl _ _⟩

/-- the job of an instruction, as it is made -/
def jobOf (R : List Int) (p clock o d a b m : Int) : Job := ⟨o, d, a, b, m, clock, o, p, nxt p, Rg.getR R a, Rg.getR R b⟩
theorem newJob_any (rb cb i : Nat) (p : Int) (R : List Int) (Q : List Nat) (clock o d a b m : Int) (w : World) (h : Fil w rb cb i p R Q) :
    Calls Tryz.prog 30 #[Is.insV o d a b m, .pointer (some ⟨rb, 0, none⟩), .pointer (some ⟨cb, 0, none⟩), .int .i64 clock] w fun e w' =>
      e = .returned (.pointer (some ⟨w.heap.size + 1, 0, none⟩)) ∧ JAt w' (w.heap.size + 1) rb cb (jobOf R p clock o d a b m) ∧ Below w.heap.size w w' := by
  have hb := Lib.hid (Is.ins_below o d a b m w)
  have HF := Lib.hid (h.below hb.out)
  obtain ⟨U, hU⟩ : ∃ U, U = Is.insW o d a b m w := ⟨_, rfl⟩
  have HU := Lib.hid hU
  have HI : Hid (Is.InsAt U w.heap.size o d a b m) := Lib.hid (hU ▸ Is.ins_at o d a b m w)
  rw [← hU] at HF hb
  have hs : U.heap.size = w.heap.size + 1 := by rw [hU]; simp
  obtain ⟨r0, r1, r2, r3, r4⟩ := HI.out.cells
  obtain ⟨va, hva⟩ : ∃ x, Rg.getR R a = x := ⟨_, rfl⟩
  obtain ⟨vb, hvb⟩ : ∃ x, Rg.getR R b = x := ⟨_, rfl⟩
  obtain ⟨ea, hea⟩ : ∃ x, Rg.errZ a = x := ⟨_, rfl⟩
  obtain ⟨eb, heb⟩ : ∃ x, Rg.errZ b = x := ⟨_, rfl⟩
  have A1 := Lib.hid (Rg.get_any rb p a R U HF.out.reg)
  rw [hva, hea] at A1
  have A2 := Lib.hid (Rg.get_any rb p b R U HF.out.reg)
  rw [hvb, heb] at A2
  have A3 := Lib.hid (Rg.pc_any rb p R U HF.out.reg)
  have HN : Hid (JAt (U.alloc (.cells (Job.cs (jobOf R p clock o d a b m) rb cb).toArray 103)) (w.heap.size + 1) rb cb (jobOf R p clock o d a b m)) := by
    rw [← hs]
    exact Blk.new U _ _
  have HB : Hid (Below w.heap.size w (U.alloc (.cells (Job.cs (jobOf R p clock o d a b m) rb cb).toArray 103))) := Lib.hid (hb.out.trans (((Below.refl _ U).alloc (Nat.le_refl _) _).mono hb.out.size))
  have HX : Hid (U.alloc (.cells #[.int .i64 o, .int .i64 d, .int .i64 a, .int .i64 b, .int .i64 m, .pointer (some ⟨rb, 0, none⟩), .pointer (some ⟨cb, 0, none⟩), .int .i64 clock, .int .i64 o, .int .u32 p, .int .u32 ((p + 4) % 4294967296), .int .u32 va, .int .u32 vb] 103) = U.alloc (.cells (Job.cs (jobOf R p clock o d a b m) rb cb).toArray 103)) := by
    rw [← hva, ← hvb]
    rfl
  have HSZ := Lib.hid hs
  have hlt := HI.out.lt
  clear h hva hvb hea heb hU hs
  go_enter Tryz.func30, Tryz.ntmps30
  go_wp2_with fail
  rw [show w.alloc (.cells #[.int .i64 o, .int .i64 d, .int .i64 a, .int .i64 b, .int .i64 m] 37) = U from HU.out.symm]
  refine A1.out.mono ?_
  rintro e w1 ⟨rfl, rfl⟩
  go_wp2_with fail
  refine A2.out.mono ?_
  rintro e w1 ⟨rfl, rfl⟩
  go_wp2_with fail
  refine A3.out.mono ?_
  rintro e w1 ⟨rfl, rfl⟩
  go_wp2
  go_ret
  rw [HX.out]
  exact ⟨by rw [← HSZ.out]; rfl, HN.out, HB.out⟩
end Go.Proofs.YtniaclhmfmkikaaGreatDoor.Ex
end
