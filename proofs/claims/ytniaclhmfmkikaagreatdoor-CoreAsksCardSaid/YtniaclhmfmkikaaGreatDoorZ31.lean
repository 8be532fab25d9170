/- Several texts in one: Vo -/
import Derived.Test.YtniaclhmfmkikaaGreatDoorZ26
import Derived.Test.YtniaclhmfmkikaaGreatDoorZ27
import Derived.Test.YtniaclhmfmkikaaGreatDoorZ21
import Derived.Test.YtniaclhmfmkikaaGreatDoorZ28
import Derived.Test.YtniaclhmfmkikaaGreatDoorZ29
import Derived.Test.YtniaclhmfmkikaaGreatDoorZ30
import Derived.Test.YtniaclhmfmkikaaGreatDoorZ20
section
/- Package core: Exec of both files, whatever the instruction. -/
namespace Go.Proofs.YtniaclhmfmkikaaGreatDoor.Ex
open Go.RowKit Ut
set_option maxRecDepth 100000
set_option linter.unusedVariables false
set_option maxHeartbeats 4000000

/-- what is told of Exec: the result, behind the call both files -/
def Done (rb cb i : Nat) (r : Res) (z : Int) (w : World) (e : Ending) (w' : World) : Prop := e = .returned (.tuple #[r.E.val, .int .i64 z]) ∧ Fil w' rb cb i r.p r.R r.Q ∧ Kp [rb, cb] w w'
abbrev ExecC (rb cb i : Nat) (p : Int) (R : List Int) (Q : List Nat) (clock o d a b m : Int) (r : Res) (z : Int) (w : World) : Prop :=
  Calls Tryz.prog 8 #[Is.insV o d a b m, .pointer (some ⟨rb, 0, none⟩), .pointer (some ⟨cb, 0, none⟩), .int .i64 clock] w (Done rb cb i r z w)

section
variable {rb cb i : Nat} {p : Int} {R : List Int} {Q : List Nat} {clock o d a b m : Int}
/-- of no operation of the kernel's mode -/
theorem ex_user (hv : Is.validB o d a b m = true) (hk : Is.kernB o = false) : exX R p Q i clock o d a b m = userX R p Q o d a b m := by
  unfold exX
  rw [if_pos hv, hk, if_neg (by decide)]
theorem ex_kern (hv : Is.validB o d a b m = true) (hk : Is.kernB o = true) (hq : Cs.hasB (Cs.st Q) 4 = true) : exX R p Q i clock o d a b m = kernX R p Q i clock o d a b m := by
  unfold exX
  rw [if_pos hv, if_pos hk, if_pos hq]
theorem ex_forb (hv : Is.validB o d a b m = true) (hk : Is.kernB o = true) (hq : Cs.hasB (Cs.st Q) 4 = false) : exX R p Q i clock o d a b m = stayX (trapE 7 (Is.encZ o d a b m)) R p Q := by
  unfold exX
  rw [if_pos hv, if_pos hk, hq, if_neg (by decide)]
theorem kern_no (h : o < 35 ∨ 40 < o) : Is.kernB o = false := by
  unfold Is.kernB
  simp
  omega
/-- the way and the method, put together -/
theorem exec_two (f : Nat) (r : Res) (hv : Is.validB o d a b m = true)
    (hway : ∀ V j, Env V j rb cb i (jobOf R p clock o d a b m) p R Q → Calls Tryz.prog 31 #[.pointer (some ⟨j, 0, none⟩)] V fun e w' => e = .returned (wayV f j) ∧ Below V.heap.size V w')
    (hcall : ∀ V j, Env V j rb cb i (jobOf R p clock o d a b m) p R Q → Calls Tryz.prog f #[.pointer (some ⟨j, 0, none⟩)] V fun e w' => e = .returned r.E.val ∧ Env w' j rb cb i (jobOf R p clock o d a b m) r.p r.R r.Q ∧ Kp [rb, cb] V w')
    (hen : ∀ (args : Array Value) (w : World), (callFunc f args).run Tryz.prog w = .ok (.enter f args) w) (hx : exX R p Q i clock o d a b m = r) (w : World) (h : Fil w rb cb i p R Q) :
    ExecC rb cb i p R Q clock o d a b m (exX R p Q i clock o d a b m) (exZ o d a b m) w := by
  rw [hx, show exZ o d a b m = 0 from if_pos hv]
  exact exec_by f rb cb i p R Q clock o d a b m _ r.E r.p r.R r.Q (fun V j hE => (hway V j hE).mono fun e w' ⟨he, hb⟩ => ⟨he, hE.below hb, Kp.of_below hb⟩) hcall hen hv w h

theorem ex_reck (hR : RegOk R) (hv : Is.validB o d a b m = true) (ho : 1 ≤ o ∧ o ≤ 13) (w : World) (h : Fil w rb cb i p R Q) : ExecC rb cb i p R Q clock o d a b m (exX R p Q i clock o d a b m) (exZ o d a b m) w := by
  obtain ⟨x, ex, hx⟩ := hR.word a
  obtain ⟨y, ey, hy⟩ := hR.word b
  refine exec_two 59 (giveX R p Q d (Al.reckN o x y : Nat)) hv (fun V j hE => way_reck j rb cb _ V hE.job (by show o = 1 ∨ o = 2 ∨ o = 3 ∨ o = 4 ∨ o = 5 ∨ o = 6 ∨ o = 7 ∨ o = 8 ∨ o = 9 ∨ o = 10 ∨ o = 11 ∨ o = 12 ∨ o = 13; omega))
    (fun V j hE => reckon_is j rb cb i _ p R Q V hE _ (Al.reckE o) (fun V => by
      have := Al.do_any o x y hx hy V
      rw [← ex, ← ey] at this
      exact this)) (fun _ _ => rfl) ?_ w h
  rw [ex_user hv (kern_no (by omega))]
  unfold userX
  rw [if_pos ho, ex, ey, Int.toNat_natCast, Int.toNat_natCast]
theorem ex_imm (hR : RegOk R) (hv : Is.validB o d a b m = true) (ho : 14 ≤ o ∧ o ≤ 21) (w : World) (h : Fil w rb cb i p R Q) : ExecC rb cb i p R Q clock o d a b m (exX R p Q i clock o d a b m) (exZ o d a b m) w := by
  obtain ⟨x, ex, hx⟩ := hR.word a
  obtain ⟨y, ey, hy⟩ : ∃ y : Nat, m % 4294967296 = (y : Int) ∧ y < 4294967296 := ⟨(m % 4294967296).toNat, by omega, by omega⟩
  have hx2 : exX R p Q i clock o d a b m = giveX R p Q d (Al.reckN (Al.plainN o) x y : Nat) := by
    rw [ex_user hv (kern_no (by omega))]
    unfold userX
    rw [if_neg (by omega), if_pos ho, ex, ey, Int.toNat_natCast, Int.toNat_natCast]
  rw [hx2, show exZ o d a b m = 0 from if_pos hv]
  refine exec_by 59 rb cb i p R Q clock o d a b m ((jobOf R p clock o d a b m).imm (Al.plainN o) (m % 4294967296)) _ _ _ _ (fun V j hE => (way_imm j rb cb _ V hE.job (by show o = 14 ∨ o = 15 ∨ o = 16 ∨ o = 17 ∨ o = 18 ∨ o = 19 ∨ o = 20 ∨ o = 21; omega) (Al.plainN o) rfl).mono fun e w' ⟨he, hj, hg⟩ => ⟨he, hE.jobs hj hg, Kp.of_grown hg (by simp)⟩)
    (fun V j hE => reckon_is j rb cb i _ p R Q V hE (Al.reckN (Al.plainN o) x y : Nat) (Al.reckE (Al.plainN o)) (fun V => by
      have := Al.do_any (Al.plainN o) x y hx hy V
      rw [← ex, ← ey] at this
      exact this)) (fun _ _ => rfl) hv w h
theorem ex_upper (hv : Is.validB o d a b m = true) (ho : o = 22) (w : World) (h : Fil w rb cb i p R Q) : ExecC rb cb i p R Q clock o d a b m (exX R p Q i clock o d a b m) (exZ o d a b m) w := by
  refine exec_two 60 (giveX R p Q d (m % 4294967296 * 262144 % 4294967296)) hv (fun V j hE => way_upper j rb cb _ V hE.job ho)
    (fun V j hE => upper_is j rb cb i _ p R Q V hE) (fun _ _ => rfl) ?_ w h
  rw [ex_user hv (kern_no (by omega))]
  unfold userX
  rw [if_neg (by omega), if_neg (by omega), if_pos ho]
/-- what is no multiple of four -/
theorem ex_askew (hv : Is.validB o d a b m = true) (ho : o = 23 ∨ o = 26) (hq : adr (Rg.getR R a) m % 4 ≠ 0) (w : World) (h : Fil w rb cb i p R Q) : ExecC rb cb i p R Q clock o d a b m (exX R p Q i clock o d a b m) (exZ o d a b m) w := by
  have hq2 : (adr (Rg.getR R a) m % 4 != 0) = true := by simpa using hq
  refine exec_two 62 (stayX (trapE 2 (adr (Rg.getR R a) m)) R p Q) hv (fun V j hE => by
      rcases ho with ho | ho
      · exact way_lw_true j rb cb _ V hE.job ho hq2
      · exact way_sw_true j rb cb _ V hE.job ho hq2)
    (fun V j hE => askew_any j rb cb i _ p R Q V hE) (fun _ _ => rfl) ?_ w h
  rw [ex_user hv (kern_no (by omega))]
  unfold userX
  rw [if_neg (by omega), if_neg (by omega), if_neg (by omega), if_pos ⟨ho, hq⟩]
theorem ex_load (hv : Is.validB o d a b m = true) (ho : o = 23 ∨ o = 24 ∨ o = 25) (hq : o = 23 → adr (Rg.getR R a) m % 4 = 0) (w : World) (h : Fil w rb cb i p R Q) : ExecC rb cb i p R Q clock o d a b m (exX R p Q i clock o d a b m) (exZ o d a b m) w := by
  refine exec_two 63 (stayX (loadE (nxt p) (adr (Rg.getR R a) m) (wdZ o) (o == 24) d) R p Q) hv (fun V j hE => by
      rcases ho with ho | ho | ho
      · exact way_lw_false j rb cb _ V hE.job ho (by show (adr (Rg.getR R a) m % 4 != 0) = false; rw [hq ho]; rfl)
      · exact way_load j rb cb _ V hE.job (.inl ho)
      · exact way_load j rb cb _ V hE.job (.inr ho))
    (fun V j hE => load_is j rb cb i _ p R Q V hE) (fun _ _ => rfl) ?_ w h
  rw [ex_user hv (kern_no (by omega))]
  unfold userX
  rcases ho with rfl | rfl | rfl
  · rw [if_neg (by decide), if_neg (by decide), if_neg (by decide), if_neg (fun hh => hh.2 (hq rfl)), if_pos rfl]; rfl
  · rw [if_neg (by decide), if_neg (by decide), if_neg (by decide), if_neg (fun hh => absurd hh.1 (by decide)), if_neg (by decide), if_pos rfl]; rfl
  · rw [if_neg (by decide), if_neg (by decide), if_neg (by decide), if_neg (fun hh => absurd hh.1 (by decide)), if_neg (by decide), if_neg (by decide), if_pos rfl]; rfl
theorem ex_store (hv : Is.validB o d a b m = true) (ho : o = 26 ∨ o = 27) (hq : o = 26 → adr (Rg.getR R a) m % 4 = 0) (w : World) (h : Fil w rb cb i p R Q) : ExecC rb cb i p R Q clock o d a b m (exX R p Q i clock o d a b m) (exZ o d a b m) w := by
  refine exec_two 64 (stayX (storeE (nxt p) (adr (Rg.getR R a) m) (wdZ o) (Rg.getR R b)) R p Q) hv (fun V j hE => by
      rcases ho with ho | ho
      · exact way_sw_false j rb cb _ V hE.job ho (by show (adr (Rg.getR R a) m % 4 != 0) = false; rw [hq ho]; rfl)
      · exact way_store j rb cb _ V hE.job ho)
    (fun V j hE => store_is j rb cb i _ p R Q V hE) (fun _ _ => rfl) ?_ w h
  rw [ex_user hv (kern_no (by omega))]
  unfold userX
  rcases ho with rfl | rfl
  · rw [if_neg (by decide), if_neg (by decide), if_neg (by decide), if_neg (fun hh => hh.2 (hq rfl)), if_neg (by decide), if_neg (by decide), if_neg (by decide), if_pos rfl]; rfl
  · rw [if_neg (by decide), if_neg (by decide), if_neg (by decide), if_neg (fun hh => absurd hh.1 (by decide)), if_neg (by decide), if_neg (by decide), if_neg (by decide), if_neg (by decide), if_pos rfl]; rfl
theorem user_far (ho : 28 ≤ o) : userX R p Q o d a b m = if 28 ≤ o ∧ o ≤ 31 then goX R (if Al.takeN o (Rg.getR R a).toNat (Rg.getR R b).toNat = true then tgt p m else nxt p) Q
  else if o = 32 then jumpX R p Q d (tgt p m) else if o = 33 then jumpX R p Q d (adr (Rg.getR R a) m) else if o = 34 then stayX (trapE 6 0) R p Q else stayX (trapE 8 p) R p Q := by
  unfold userX
  rw [if_neg (by omega), if_neg (by omega), if_neg (by omega), if_neg (by omega), if_neg (by omega), if_neg (by omega), if_neg (by omega), if_neg (by omega), if_neg (by omega)]
theorem ex_branch (hR : RegOk R) (hv : Is.validB o d a b m = true) (ho : 28 ≤ o ∧ o ≤ 31) (w : World) (h : Fil w rb cb i p R Q) : ExecC rb cb i p R Q clock o d a b m (exX R p Q i clock o d a b m) (exZ o d a b m) w := by
  obtain ⟨x, ex, hx⟩ := hR.word a
  obtain ⟨y, ey, hy⟩ := hR.word b
  obtain ⟨t, ht⟩ : ∃ t, Al.takeN o x y = t := ⟨_, rfl⟩
  have hT : ∀ V, Calls Tryz.prog 95 #[.int .i64 o, .int .u32 (Rg.getR R a), .int .u32 (Rg.getR R b)] V fun e w' => e = .returned (.tuple #[.bool t, .int .i64 (Al.takeE o)]) ∧ Below V.heap.size V w' := fun V => by
    have := Al.taken_any o x y hx hy V
    rw [← ex, ← ey, ht] at this
    exact this
  have hx2 : exX R p Q i clock o d a b m = goX R (if t = true then tgt p m else nxt p) Q := by
    rw [ex_user hv (kern_no (by omega)), user_far ho.1, if_pos ho, ex, ey, Int.toNat_natCast, Int.toNat_natCast, ht]
  have hway : ∀ V j, Env V j rb cb i (jobOf R p clock o d a b m) p R Q → _ := fun V j hE => way_branch j rb cb _ V hE.job (by show o = 28 ∨ o = 29 ∨ o = 30 ∨ o = 31; omega)
  cases t
  · exact exec_two 65 (goX R (nxt p) Q) hv hway (fun V j hE => branch_no j rb cb i _ p R Q V hE (Al.takeE o) hT) (fun _ _ => rfl) hx2 w h
  · exact exec_two 65 (goX R (tgt p m) Q) hv hway (fun V j hE => branch_yes j rb cb i _ p R Q V hE (Al.takeE o) hT) (fun _ _ => rfl) hx2 w h
theorem ex_far (hv : Is.validB o d a b m = true) (ho : o = 32 ∨ o = 33 ∨ o = 34 ∨ o = 41) (w : World) (h : Fil w rb cb i p R Q) : ExecC rb cb i p R Q clock o d a b m (exX R p Q i clock o d a b m) (exZ o d a b m) w := by
  have hx := ex_user (R := R) (p := p) (Q := Q) (i := i) (clock := clock) hv (kern_no (by omega))
  rw [user_far (by omega), if_neg (by omega)] at hx
  rcases ho with rfl | rfl | rfl | rfl
  · exact exec_two 66 (jumpX R p Q d (tgt p m)) hv (fun V j hE => way_jump j rb cb _ V hE.job rfl) (fun V j hE => jump_is j rb cb i _ p R Q V hE) (fun _ _ => rfl) (by rw [hx, if_pos rfl]) w h
  · exact exec_two 67 (jumpX R p Q d (adr (Rg.getR R a) m)) hv (fun V j hE => way_jumpr j rb cb _ V hE.job rfl) (fun V j hE => jumpr_is j rb cb i _ p R Q V hE) (fun _ _ => rfl) (by rw [hx, if_neg (by decide), if_pos rfl]) w h
  · exact exec_two 68 (stayX (trapE 6 0) R p Q) hv (fun V j hE => way_call j rb cb _ V hE.job rfl) (fun V j hE => call_is j rb cb i _ p R Q V hE) (fun _ _ => rfl) (by rw [hx, if_neg (by decide), if_neg (by decide), if_pos rfl]) w h
  · exact exec_two 69 (stayX (trapE 8 p) R p Q) hv (fun V j hE => way_stop j rb cb _ V hE.job rfl) (fun V j hE => stop_is j rb cb i _ p R Q V hE) (fun _ _ => rfl) (by rw [hx, if_neg (by decide), if_neg (by decide), if_neg (by decide)]) w h
theorem kern_six (h : Is.kernB o = true) : o = 35 ∨ o = 36 ∨ o = 37 ∨ o = 38 ∨ o = 39 ∨ o = 40 := by
  unfold Is.kernB at h
  simp at h
  omega
theorem ex_forbidden (hv : Is.validB o d a b m = true) (hk : Is.kernB o = true) (hq : Cs.hasB (Cs.st Q) 4 = false) (w : World) (h : Fil w rb cb i p R Q) : ExecC rb cb i p R Q clock o d a b m (exX R p Q i clock o d a b m) (exZ o d a b m) w :=
  exec_two 81 (stayX (trapE 7 (Is.encZ o d a b m)) R p Q) hv (fun V j hE => way_forb j rb cb i _ p R Q V hE (kern_six hk) hq) (fun V j hE => forbidden_is j rb cb i _ p R Q V hE) (fun _ _ => rfl) (ex_forb hv hk hq) w h
theorem ex_kernel (hR : RegOk R) (hv : Is.validB o d a b m = true) (hk : Is.kernB o = true) (hq : Cs.hasB (Cs.st Q) 4 = true) (w : World) (h : Fil w rb cb i p R Q) : ExecC rb cb i p R Q clock o d a b m (exX R p Q i clock o d a b m) (exZ o d a b m) w := by
  have hx := ex_kern (R := R) (p := p) (i := i) (clock := clock) hv hk hq
  unfold kernX at hx
  rcases kern_six hk with rfl | rfl | rfl | rfl | rfl | rfl
  · exact exec_two 82 (stayX (askE 4 (nxt p)) R p Q) hv (fun V j hE => way_ask j rb cb i _ p R Q V hE rfl hq) (fun V j hE => ask_is j rb cb i _ p R Q V hE) (fun _ _ => rfl) (by rw [hx, if_pos rfl]) w h
  · exact exec_two 85 (goX R ((Q.getD 2 0 : Nat) : Int) (Cs.lvR Q)) hv (fun V j hE => way_leave j rb cb i _ p R Q V hE rfl hq) (fun V j hE => leave_is j rb cb i _ p R Q V hE) (fun _ _ => rfl) (by rw [hx, if_neg (by decide), if_neg (by decide), if_neg (by decide), if_pos rfl]) w h
  · exact exec_two 86 (giveX R p Q d (Cs.rdZ Q i m clock)) hv (fun V j hE => way_readc j rb cb i _ p R Q V hE rfl hq) (fun V j hE => readc_is j rb cb i _ p R Q V hE _ _ rfl rfl) (fun _ _ => rfl) (by rw [hx, if_neg (by decide), if_neg (by decide), if_neg (by decide), if_neg (by decide), if_pos rfl]) w h
  · obtain ⟨x, ex, hl⟩ := hR.word a
    rw [if_neg (by decide), if_neg (by decide), if_neg (by decide), if_neg (by decide), if_neg (by decide), ex, Int.toNat_natCast] at hx
    by_cases hz : Cs.errZ Q m 7 = 0
    · rw [if_pos hz] at hx
      exact exec_two 87 (goX R (nxt p) (Cs.wrR Q m x)) hv (fun V j hE => way_writec j rb cb i _ p R Q V hE rfl hq) (fun V j hE => writec_yes j rb cb i _ p R Q V hE x ex hl hz) (fun _ _ => rfl) hx w h
    · rw [if_neg hz] at hx
      exact exec_two 87 (stayX (trapE 1 (Is.encZ 38 d a b m)) R p Q) hv (fun V j hE => way_writec j rb cb i _ p R Q V hE rfl hq) (fun V j hE => writec_no j rb cb i _ p R Q V hE x ex hl _ rfl hz) (fun _ _ => rfl) hx w h
  · exact exec_two 84 (stayX (askE 6 (nxt p)) R p Q) hv (fun V j hE => way_forget j rb cb i _ p R Q V hE rfl hq) (fun V j hE => forget_is j rb cb i _ p R Q V hE) (fun _ _ => rfl) (by rw [hx, if_neg (by decide), if_neg (by decide), if_pos rfl]) w h
  · exact exec_two 83 (stayX (askE 5 (nxt p)) R p Q) hv (fun V j hE => way_halt j rb cb i _ p R Q V hE rfl hq) (fun V j hE => halt_is j rb cb i _ p R Q V hE) (fun _ _ => rfl) (by rw [hx, if_neg (by decide), if_pos rfl]) w h
/-- Exec, whatever the instruction -/
theorem exec_any (hR : RegOk R) (clock o d a b m : Int) (w : World) (h : Fil w rb cb i p R Q) : ExecC rb cb i p R Q clock o d a b m (exX R p Q i clock o d a b m) (exZ o d a b m) w := by
  cases hv : Is.validB o d a b m
  · rw [show exX R p Q i clock o d a b m = stayX zeroE R p Q by unfold exX; rw [hv, if_neg (by decide)], show exZ o d a b m = 6 by unfold exZ; rw [hv, if_neg (by decide)]]
    exact exec_form rb cb i p R Q clock o d a b m hv w h
  · obtain ⟨⟨h1, h41⟩, _⟩ := Is.valid_bounds hv
    cases hk : Is.kernB o
    · have hno : ¬ (35 ≤ o ∧ o ≤ 40) := fun hh => by
        unfold Is.kernB at hk
        simp at hk
        omega
      by_cases c1 : o ≤ 13
      · exact ex_reck hR hv ⟨h1, c1⟩ w h
      by_cases c2 : o ≤ 21
      · exact ex_imm hR hv ⟨by omega, c2⟩ w h
      by_cases c3 : o = 22
      · exact ex_upper hv c3 w h
      by_cases c4 : (o = 23 ∨ o = 26) ∧ adr (Rg.getR R a) m % 4 ≠ 0
      · exact ex_askew hv c4.1 c4.2 w h
      by_cases c5 : o ≤ 25
      · exact ex_load hv (by omega) (fun e => Classical.byContradiction fun hn => c4 ⟨.inl e, hn⟩) w h
      by_cases c6 : o ≤ 27
      · exact ex_store hv (by omega) (fun e => Classical.byContradiction fun hn => c4 ⟨.inr e, hn⟩) w h
      by_cases c7 : o ≤ 31
      · exact ex_branch hR hv ⟨by omega, c7⟩ w h
      · exact ex_far hv (by omega) w h
    · cases hq : Cs.hasB (Cs.st Q) 4
      · exact ex_forbidden hv hk hq w h
      · exact ex_kernel hR hv hk hq w h
end
end Go.Proofs.YtniaclhmfmkikaaGreatDoor.Ex
end
