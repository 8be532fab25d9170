/- Several texts in one: Ev Fj Eu -/
import Derived.Test.YtikkfapgmbamlaaDoorZ28
import Derived.Test.YtikkfapgmbamlaaDoorZ37
import Derived.Test.YtikkfapgmbamlaaDoorZ38
import Derived.Test.YtikkfapgmbamlaaDoorRows
import Derived.Test.YtikkfapgmbamlaaDoorZ07
import Derived.ProofKit
import Derived.LaidMore
import Derived.OpenShut
import Derived.Stop.Joined
import Derived.Deep.Fields
section
/- plan: awake, and the comparison of texts that the laws use. -/
namespace Go.Proofs.YtikkfapgmbamlaaDoor.Pl
open Go.RowKit Ut
set_option linter.unusedVariables false
set_option maxRecDepth 100000

theorem own_slice {k : Nat} {w : World} {B : Nat} {e : TypeId} {v : Value} {xs : List (List Int)} (h : OwnT k w B e v xs) : ∃ a cap, v = .slice a xs.length cap := by
  rcases h.1.2 with ⟨rfl, h0⟩ | ⟨g, cap, cur, rfl, _⟩
  · exact ⟨none, 0, by rw [h0]⟩
  · exact ⟨_, _, rfl⟩
def pAw : PC := ⟨1, [[1, 4, 0]], [], [], [], [[0, 5]], -1, 0⟩
theorem aw_ok : OkP pAw := by
  refine ⟨?_, ?_, ?_, ?_, ?_, ?_, ?_⟩
  all_goals simp [pAw, kf, OkVs, OkV]
theorem aw_chk : (chk pAw).1 = 0 := by decide +kernel
def awB : List UInt8 := [99, 97, 116, 115, 32, 49, 10, 103, 117, 101, 115, 116, 32, 97, 32, 52, 32, 48, 10, 115, 108, 111, 116, 32, 48, 32, 53, 10]
theorem aw_text : pAw.text = awB := by
  have d : ∀ n, n < 100 → Lib.decDigits n = dd n := dec_dd
  simp only [PC.text, PC.recs, pAw, List.map_nil, List.map_cons, List.nil_append, List.cons_append, if_true, List.append_nil, lineL, bodyL, tailL, kf, kw, wordL]
  simp [d, dd, awB]
  decide +kernel
theorem aw_read : readL awB = .inr pAw := by rw [← aw_text]; exact text_read aw_ok
theorem parse_aw (B : Nat) (w : World) (hB : B ≤ w.heap.size) (hK : Kinds w) :
    Calls Tryd.prog 14 #[.string (tb awB)] w fun e w' => ∃ ga gc ra rc pa qc na nc sa sc, e = .returned (.tuple #[.agg #[.int .i64 1, .slice ga 1 gc, .slice ra 0 rc, .slice pa 0 qc, .slice na 0 nc, .slice sa 1 sc, .int .i64 (-1), .int .i64 0], .int .i64 0, .int .i64 0]) ∧ Below B w w' := by
  refine (parse_any (tb awB) (by rw [tb_size]; decide) B w hB hK).mono fun e w' ⟨h1, h2⟩ => ?_
  unfold ParsePost at h1
  rw [tb_list, if_neg (by decide), aw_read] at h1
  simp only at h1
  rw [if_pos aw_chk] at h1
  obtain ⟨vg, vr, vp, vn, vs, he, hr⟩ := h1
  obtain ⟨ga, gc, rfl⟩ := own_slice hr.og
  obtain ⟨ra, rc, rfl⟩ := own_slice hr.or
  obtain ⟨pa, qc, rfl⟩ := own_slice hr.op
  obtain ⟨na, nc, rfl⟩ := own_slice hr.on
  obtain ⟨sa, sc, rfl⟩ := own_slice hr.os
  exact ⟨ga, gc, ra, rc, pa, qc, na, nc, sa, sc, he, h2⟩
theorem awake5_any (B : Nat) (w : World) (hB : B ≤ w.heap.size) (hK : Kinds w) :
    Calls Tryd.prog 6 #[] w fun e w' => e = .returned (.bool true) ∧ Below B w w' := by
  have hp := parse_aw B w hB hK
  go_enter Tryd.func6, Tryd.ntmps6
  go_wp2_with (go_at_call 14; refine hp.mono ?_; rintro e w2 ⟨ga, gc, ra, rc, pa, qc, na, nc, sa, sc, rfl, hb2⟩; have hsz := hb2.size)
  go_ret
  exact ⟨rfl, hb2.alloc (Nat.le_trans hB hb2.size) _⟩
end Go.Proofs.YtikkfapgmbamlaaDoor.Pl
end
section
/- The walk of hermitagelaw05.PlanReads. -/
namespace Go.Proofs.YtikkfapgmbamlaaDoor.Pl
open Go.RowKit Ut
set_option linter.unusedVariables false
set_option maxRecDepth 100000

def pcz : PC := ⟨0, [], [], [], [], [], 0, 0⟩
theorem pcz_in : PIn pcz := by
  refine ⟨?_, by simp [pcz], by simp [pcz], by simp [pcz], by simp [pcz], by simp [pcz], ?_, ?_⟩ <;> (unfold InB pcz; simp)
/-- whatever the text is: one configuration, one error, one number -/
theorem parse_shape (l : List UInt8) (hl : l.length ≤ 16384) : ∃ (p : PC) (e1 i1 : Int), PIn p ∧ p.gs.length + p.rs.length + p.ps.length + p.ns.length + p.ss.length ≤ 16384 ∧
    ∀ B e w', ParsePost l B e w' → ∃ ga gc ra rc pa qc na nc sa sc, e = .returned (.tuple #[cfgV p (.slice ga p.gs.length gc) (.slice ra p.rs.length rc) (.slice pa p.ps.length qc) (.slice na p.ns.length nc) (.slice sa p.ss.length sc), .int .i64 e1, .int .i64 i1]) ∧ (p.cfg ga gc ra rc pa qc na nc sa sc).At w' w'.heap.size := by
  have hz : ∀ (w' : World), (pcz.cfg none 0 none 0 none 0 none 0 none 0).At w' w'.heap.size := fun w' => by
    refine ⟨?_, ?_, ?_, ?_, ?_, ⟨Nat.le_refl _, by decide⟩, ⟨Nat.le_refl _, by decide⟩, ⟨Nat.le_refl _, by decide⟩, ⟨Nat.le_refl _, by decide⟩, ⟨Nat.le_refl _, by decide⟩, pcz_in.cats, pcz_in.gate, pcz_in.quota⟩
    all_goals exact fun i hi => absurd hi (by simp [PC.cfg, pcz])
  have hn : ¬ 16384 < l.length := by omega
  cases hr : readL l with
  | inl n =>
    refine ⟨pcz, 6, n, pcz_in, by simp [pcz], fun B e w' h => ?_⟩
    unfold ParsePost at h
    rw [if_neg hn, hr] at h
    exact ⟨none, 0, none, 0, none, 0, none, 0, none, 0, h, hz w'⟩
  | inr p =>
    have hin := readL_in hr
    have hsz := readL_size hr
    by_cases he : (chk p).1 = 0
    · refine ⟨p, 0, 0, hin, by omega, fun B e w' h => ?_⟩
      unfold ParsePost at h
      rw [if_neg hn, hr] at h
      simp only at h
      rw [if_pos he] at h
      obtain ⟨vg, vr, vp, vn, vs, rfl, hrow⟩ := h
      obtain ⟨ga, gc, ra, rc, pa, qc, na, nc, sa, sc, rfl, rfl, rfl, rfl, rfl, hat⟩ := cfg_at hrow hin (by omega)
      exact ⟨_, _, _, _, _, _, _, _, _, _, rfl, hat⟩
    · refine ⟨pcz, (chk p).1, 0, pcz_in, by simp [pcz], fun B e w' h => ?_⟩
      unfold ParsePost at h
      rw [if_neg hn, hr] at h
      simp only at h
      rw [if_neg he] at h
      exact ⟨none, 0, none, 0, none, 0, none, 0, none, 0, h, hz w'⟩
/-- same, of two that lie apart and read alike -/
theorem same_cfg (p : PC) (ga : Option Addr) (gc : Nat) (ra : Option Addr) (rc : Nat) (pa : Option Addr) (qc : Nat) (na : Option Addr) (nc : Nat) (sa : Option Addr) (sc : Nat)
    (ga2 : Option Addr) (gc2 : Nat) (ra2 : Option Addr) (rc2 : Nat) (pa2 : Option Addr) (qc2 : Nat) (na2 : Option Addr) (nc2 : Nat) (sa2 : Option Addr) (sc2 : Nat) (w : World)
    (h1 : (p.cfg ga gc ra rc pa qc na nc sa sc).At w w.heap.size) (h2 : (p.cfg ga2 gc2 ra2 rc2 pa2 qc2 na2 nc2 sa2 sc2).At w w.heap.size) :
    Calls Tryd.prog 16 #[cfgV p (.slice ga p.gs.length gc) (.slice ra p.rs.length rc) (.slice pa p.ps.length qc) (.slice na p.ns.length nc) (.slice sa p.ss.length sc), cfgV p (.slice ga2 p.gs.length gc2) (.slice ra2 p.rs.length rc2) (.slice pa2 p.ps.length qc2) (.slice na2 p.ns.length nc2) (.slice sa2 p.ss.length sc2)] w fun e w' => e = .returned (.bool true) ∧ Below w.heap.size w w' :=
  same_true p.cats p.gate p.quota p.gs.length p.rs.length p.ps.length p.ns.length p.ss.length _ _ _ _ _ ga ra pa na sa ga2 ra2 pa2 na2 sa2 gc rc qc nc sc gc2 rc2 qc2 nc2 sc2 w h1.g h2.g h1.lg.2 h1.r h2.r h1.lr.2 h1.p h2.p h1.lp.2 h1.n h2.n h1.ln.2 h1.s h2.s h1.ls.2
set_option maxHeartbeats 8000000 in
theorem reads_any (s : ByteArray) (hm : s.size ≤ 140737488355328) (w : World) (hK : Kinds w) :
    Calls Tryd.prog 4 #[.string s] w fun e w' => e = .returned (.bool true) ∧ Below w.heap.size w w' := by
  have HK := Lib.hid hK
  have HK0 := Lib.hid hK.lt
  clear hK
  by_cases hl : 4000 < s.size
  · go_enter Tryd.func4, Tryd.ntmps4
    go_wp2_with (go_at_call 6; refine (awake5_any _ _ (Nat.le_refl _) HK.out).mono ?_; rintro e w1 ⟨rfl, hb1⟩)
    go_ret
    exact ⟨rfl, hb1⟩
  · obtain ⟨p, e1, i1, hin, hsz, hsh⟩ := parse_shape s.data.toList (by simp; omega)
    have HSH := Lib.hid hsh
    have hx := fun (W : World) (hW : Kinds W) => parse_any s (by omega) W.heap.size W (Nat.le_refl _) hW
    have hy := fun (W : World) => refParse_any5 s (by omega) W
    have HX := Lib.hid hx
    have HY := Lib.hid hy
    clear hin hsz hsh hx hy
    go_enter Tryd.func4, Tryd.ntmps4
    go_upto_region 5 with (first
      | (go_at_call 14; refine (HX.out _ HK.out).mono ?_; rintro e w1 ⟨hp, hb1⟩; obtain ⟨ga, gc, ra, rc, pa, qc, na, nc, sa, sc, rfl, hat⟩ := HSH.out _ _ _ hp; have HAT := Lib.hid hat; clear hp hat)
      | (go_at_call 15; refine (HY.out _).mono ?_; rintro e w2 ⟨hp, hb2⟩; obtain ⟨ga2, gc2, ra2, rc2, pa2, qc2, na2, nc2, sa2, sc2, rfl, hat⟩ := HSH.out _ _ _ hp; have HAT2 := Lib.hid hat; have HB2 := Lib.hid hb2; clear hp hat hb2))
    have hal1 : Below w1.heap.size w1 (w1.alloc (.cells #[.int .i64 p.cats, .slice ga p.gs.length gc, .slice ra p.rs.length rc, .slice pa p.ps.length qc, .slice na p.ns.length nc, .slice sa p.ss.length sc, .int .i64 p.gate, .int .i64 p.quota] 36 (0, 0))) := (Below.refl _ _).alloc (Nat.le_refl _) _
    have hal2 : Below w2.heap.size w2 (w2.alloc (.cells #[.int .i64 p.cats, .slice ga2 p.gs.length gc2, .slice ra2 p.rs.length rc2, .slice pa2 p.ps.length qc2, .slice na2 p.ns.length nc2, .slice sa2 p.ss.length sc2, .int .i64 p.gate, .int .i64 p.quota] 36 (0, 0))) := (Below.refl _ _).alloc (Nat.le_refl _) _
    have hz1 := (hal2.block w1.heap.size (by have := HB2.out.size; simp at this; omega)).trans ((HB2.out.block _ (by simp)).trans (heap_alloc_new w1 (.cells #[.int .i64 p.cats, .slice ga p.gs.length gc, .slice ra p.rs.length rc, .slice pa p.ps.length qc, .slice na p.ns.length nc, .slice sa p.ss.length sc, .int .i64 p.gate, .int .i64 p.quota] 36 (0, 0))))
    have hz2 := heap_alloc_new w2 (.cells #[.int .i64 p.cats, .slice ga2 p.gs.length gc2, .slice ra2 p.rs.length rc2, .slice pa2 p.ps.length qc2, .slice na2 p.ns.length nc2, .slice sa2 p.ss.length sc2, .int .i64 p.gate, .int .i64 p.quota] 36 (0, 0))
    have hb13 := (hal1.trans (HB2.out.mono hal1.size)).trans (hal2.mono (Nat.le_trans hal1.size HB2.out.size))
    have hat1 := (HAT.out.below hb13).more_at hb13.size
    have hat2 := (HAT2.out.below hal2).more_at hal2.size
    have hb03 := hb1.trans (hb13.mono hb1.size)
    obtain ⟨W3, hW3⟩ : ∃ W3, w2.alloc (.cells #[.int .i64 p.cats, .slice ga2 p.gs.length gc2, .slice ra2 p.rs.length rc2, .slice pa2 p.ps.length qc2, .slice na2 p.ns.length nc2, .slice sa2 p.ss.length sc2, .int .i64 p.gate, .int .i64 p.quota] 36 (0, 0)) = W3 := ⟨_, rfl⟩
    rw [hW3] at hz1 hz2 hat1 hat2 hb03
    rw [hW3]
    obtain ⟨⟨c0, c1, c2, c3, c4, c5, c6, c7⟩, _⟩ := cells8 hz1
    obtain ⟨⟨d0, d1, d2, d3, d4, d5, d6, d7⟩, _⟩ := cells8 hz2
    have HS := Lib.hid (same_cfg p ga gc ra rc pa qc na nc sa sc ga2 gc2 ra2 rc2 pa2 qc2 na2 nc2 sa2 sc2 W3 hat1 hat2)
    clear hW3 hz1 hz2 hat1 hat2 hb13 hal1 hal2 hb1
    go_wp2_with (first
      | (go_at_call 16; refine HS.out.mono ?_; rintro e w4 ⟨rfl, hb4⟩; have hb5 := hb03.trans (hb4.mono hb03.size); have hk4 := HK.out.below hb5 HK0.out)
      | (go_at_call 6; refine (awake5_any _ _ (Nat.le_refl _) hk4).mono ?_; rintro e w5 ⟨rfl, hb6⟩; have hb7 := hb5.trans (hb6.mono hb5.size)))
    go_ret
    exact ⟨rfl, hb7⟩
end Go.Proofs.YtikkfapgmbamlaaDoor.Pl
end
section
/- The table of kinds, out of what the row says that lies in its variable. -/
namespace Go.Proofs.YtikkfapgmbamlaaDoor.Pl
open Go.ChangeShapes Go.WideShapes Go.ChangeAt Go.WideMaps Go.WideElems Go.RowKit Ut
set_option linter.unusedVariables false
set_option maxRecDepth 100000

theorem gKinds : Tryd.prog.globalNamed "hermitage/plan.kinds" = some 0 := by kernel_rfl
theorem tKinds : (Tryd.prog.globals[0]?).map (·.type) = some 100 := by kernel_rfl
theorem kind_of {H : Type} {enc : TypeId × Value → H} {W : World} {sp : Nat → Bool} {held : Bool} {base fuel : Nat} {l : List Value} {a b : List UInt8} {m : Bool} {q : DataW H × List MemPlace} (h : DataW.trod enc Tryd.prog W base sp held fuel 99 l = some q) (hq : q.1 = .agg [.lit (.string a), .lit (.string b), .lit (.bool m)]) : l = [.string (tb a), .string (tb b), .bool m] := by
  obtain ⟨xs, n, _, hx, hlen, hn, hf⟩ := DataW.trod_struct Tryd.underlying99 h
  have c3 : Tryd.prog.cellsOf 99 = 3 := by kernel_rfl
  have cs : Tryd.prog.cellsOf 9 = 1 := by kernel_rfl
  have cb : Tryd.prog.cellsOf 4 = 1 := by kernel_rfl
  rw [c3] at hlen
  have h0 := hf 0 _ rfl
  have h1 := hf 1 _ rfl
  have h2 := hf 2 _ rfl
  match l, hlen, xs, hn, hx, h0, h1, h2 with
  | [u0, u1, u2], _, [x0, x1, x2], _, hx, h0, h1, h2 =>
    have e0 : DataW.trod enc Tryd.prog W base sp held n 9 [u0] = some x0 := by simpa [cs] using h0
    have e1 : DataW.trod enc Tryd.prog W base sp held n 9 [u1] = some x1 := by simpa [cs] using h1
    have e2 : DataW.trod enc Tryd.prog W base sp held n 4 [u2] = some x2 := by simpa [cb] using h2
    obtain ⟨s0, g0, k0, _⟩ := DataW.trod_string Tryd.underlying9 e0
    obtain ⟨s1, g1, k1, _⟩ := DataW.trod_string Tryd.underlying9 e1
    obtain ⟨b2, g2, k2⟩ := DataW.trod_bool Tryd.underlying4 e2
    rw [hx] at hq
    simp only [List.map_cons, List.map_nil, DataW.agg.injEq, List.cons.injEq, and_true, k0, k1, k2, DataW.lit.injEq, Lit.string.injEq, Lit.bool.injEq] at hq
    simp only [List.cons.injEq, and_true] at g0 g1 g2
    rw [g0, g1, g2, ← hq.1, ← hq.2.1, ← hq.2.2, tb_of, tb_of]
theorem kinds_of_laid {W : World} (h : laidMetH Tryd.prog [("hermitage/plan.kinds", Rows.laid_hermitage_plan_kinds)] W) : Kinds W := by
  rw [MakeChecks.laidMetH_plain _ _ _ (by kernel_rfl)] at h
  obtain ⟨ps, ⟨g0, t0, cs0, f0, p0, q0, hg0, ht0, hv0, hd0, hrest⟩, _, _⟩ := h
  obtain rfl := Option.some.inj (gKinds.symm.trans hg0)
  obtain rfl := Option.some.inj (tKinds.symm.trans ht0)
  obtain ⟨xs, m1, _, hx, hlen, hn, hel⟩ := DataW.trod_array Tryd.underlying100 hd0
  have c3 : Tryd.prog.cellsOf 99 = 3 := by kernel_rfl
  have c21 : Tryd.prog.cellsOf 100 = 21 := by kernel_rfl
  rw [c21] at hlen
  rw [c3] at hel
  simp only [Prod.mk.injEq] at hx
  have hx1 := hx.1
  have hcs : cs0.toList = kcells := by
    generalize cs0.toList = l at hlen hel
    match xs, hn, hx1, hel with
    | [x0, x1, x2, x3, x4, x5, x6], _, hx1, hel =>
      simp only [Rows.laid_hermitage_plan_kinds, List.map_cons, List.map_nil, DataW.agg.injEq, List.cons.injEq, and_true] at hx1
      obtain ⟨y0, y1, y2, y3, y4, y5, y6⟩ := hx1
      have z0 := kind_of (hel 0 (by decide)) y0.symm
      have z1 := kind_of (hel 1 (by decide)) y1.symm
      have z2 := kind_of (hel 2 (by decide)) y2.symm
      have z3 := kind_of (hel 3 (by decide)) y3.symm
      have z4 := kind_of (hel 4 (by decide)) y4.symm
      have z5 := kind_of (hel 5 (by decide)) y5.symm
      have z6 := kind_of (hel 6 (by decide)) y6.symm
      match l, hlen with
      | [a0, a1, a2, a3, a4, a5, a6, a7, a8, a9, a10, a11, a12, a13, a14, a15, a16, a17, a18, a19, a20], _ =>
        simp only [List.drop, List.take, List.cons.injEq, and_true] at z0 z1 z2 z3 z4 z5 z6
        obtain ⟨rfl, rfl, rfl⟩ := z0
        obtain ⟨rfl, rfl, rfl⟩ := z1
        obtain ⟨rfl, rfl, rfl⟩ := z2
        obtain ⟨rfl, rfl, rfl⟩ := z3
        obtain ⟨rfl, rfl, rfl⟩ := z4
        obtain ⟨rfl, rfl, rfl⟩ := z5
        obtain ⟨rfl, rfl, rfl⟩ := z6
        rfl
  simp only [World.var?, gKinds, Option.bind_some] at hv0
  split at hv0
  · rename_i cs t fr hh
    injection hv0 with hv0
    subst hv0
    refine ⟨t, fr, ?_⟩
    rw [hh]
    congr 2
    rw [← hcs]
  · cases hv0
end Go.Proofs.YtikkfapgmbamlaaDoor.Pl
end
