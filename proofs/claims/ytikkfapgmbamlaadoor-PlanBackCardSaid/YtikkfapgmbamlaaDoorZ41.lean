/- Several texts in one: Ev Fj Gf -/
import Derived.Test.YtikkfapgmbamlaaDoorZ26
import Derived.Test.YtikkfapgmbamlaaDoorZ40
import Derived.Test.YtikkfapgmbamlaaDoorZ30
import Derived.Test.YtikkfapgmbamlaaDoorZ29
section
/- plan: awake, and the comparison of texts that the laws use. -/
namespace Go.Proofs.YtikkfapgmbamlaaDoor.Pl
open Go.RowKit Ut
set_option linter.unusedVariables false
set_option maxRecDepth 100000

theorem own_slice {k : Nat} {w : World} {B : Nat} {e : TypeId} {v : Value} {xs : List (List Int)} (h : OwnT k w B e v xs) : ∃ a cap, v = .slice a xs.length cap := by
  rcases h.1.2 with ⟨rfl, h0⟩ | ⟨g, cap, cur, rfl, _⟩
  · exact ⟨none, 0, by rw [h0]⟩
  · exact ⟨_, _, rfl⟩
def pAw : PC := ⟨1, [[1, 4, 0]], [], [], [], [[0, 5]], -1, 0⟩
theorem aw_ok : OkP pAw := by
  refine ⟨?_, ?_, ?_, ?_, ?_, ?_, ?_⟩
  all_goals simp [pAw, kf, OkVs, OkV]
theorem aw_chk : (chk pAw).1 = 0 := by decide +kernel
def awB : List UInt8 := [99, 97, 116, 115, 32, 49, 10, 103, 117, 101, 115, 116, 32, 97, 32, 52, 32, 48, 10, 115, 108, 111, 116, 32, 48, 32, 53, 10]
theorem aw_text : pAw.text = awB := by
  have d : ∀ n, n < 100 → Lib.decDigits n = dd n := dec_dd
  simp only [PC.text, PC.recs, pAw, List.map_nil, List.map_cons, List.nil_append, List.cons_append, if_true, List.append_nil, lineL, bodyL, tailL, kf, kw, wordL]
  simp [d, dd, awB]
  decide +kernel
theorem aw_read : readL awB = .inr pAw := by rw [← aw_text]; exact text_read aw_ok
theorem parse_aw (B : Nat) (w : World) (hB : B ≤ w.heap.size) (hK : Kinds w) :
    Calls Tryd.prog 14 #[.string (tb awB)] w fun e w' => ∃ ga gc ra rc pa qc na nc sa sc, e = .returned (.tuple #[.agg #[.int .i64 1, .slice ga 1 gc, .slice ra 0 rc, .slice pa 0 qc, .slice na 0 nc, .slice sa 1 sc, .int .i64 (-1), .int .i64 0], .int .i64 0, .int .i64 0]) ∧ Below B w w' := by
  refine (parse_any (tb awB) (by rw [tb_size]; decide) B w hB hK).mono fun e w' ⟨h1, h2⟩ => ?_
  unfold ParsePost at h1
  rw [tb_list, if_neg (by decide), aw_read] at h1
  simp only at h1
  rw [if_pos aw_chk] at h1
  obtain ⟨vg, vr, vp, vn, vs, he, hr⟩ := h1
  obtain ⟨ga, gc, rfl⟩ := own_slice hr.og
  obtain ⟨ra, rc, rfl⟩ := own_slice hr.or
  obtain ⟨pa, qc, rfl⟩ := own_slice hr.op
  obtain ⟨na, nc, rfl⟩ := own_slice hr.on
  obtain ⟨sa, sc, rfl⟩ := own_slice hr.os
  exact ⟨ga, gc, ra, rc, pa, qc, na, nc, sa, sc, he, h2⟩
theorem awake5_any (B : Nat) (w : World) (hB : B ≤ w.heap.size) (hK : Kinds w) :
    Calls Tryd.prog 6 #[] w fun e w' => e = .returned (.bool true) ∧ Below B w w' := by
  have hp := parse_aw B w hB hK
  go_enter Tryd.func6, Tryd.ntmps6
  go_wp2_with (go_at_call 14; refine hp.mono ?_; rintro e w2 ⟨ga, gc, ra, rc, pa, qc, na, nc, sa, sc, rfl, hb2⟩; have hsz := hb2.size)
  go_ret
  exact ⟨rfl, hb2.alloc (Nat.le_trans hB hb2.size) _⟩
end Go.Proofs.YtikkfapgmbamlaaDoor.Pl
end
section
/- The walk of hermitagelaw05.PlanReads. -/
namespace Go.Proofs.YtikkfapgmbamlaaDoor.Pl
open Go.RowKit Ut
set_option linter.unusedVariables false
set_option maxRecDepth 100000

def pcz : PC := ⟨0, [], [], [], [], [], 0, 0⟩
theorem pcz_in : PIn pcz := by
  refine ⟨?_, by simp [pcz], by simp [pcz], by simp [pcz], by simp [pcz], by simp [pcz], ?_, ?_⟩ <;> (unfold InB pcz; simp)
/-- whatever the text is: one configuration, one error, one number -/
theorem parse_shape (l : List UInt8) (hl : l.length ≤ 16384) : ∃ (p : PC) (e1 i1 : Int), PIn p ∧ p.gs.length + p.rs.length + p.ps.length + p.ns.length + p.ss.length ≤ 16384 ∧
    ∀ B e w', ParsePost l B e w' → ∃ ga gc ra rc pa qc na nc sa sc, e = .returned (.tuple #[cfgV p (.slice ga p.gs.length gc) (.slice ra p.rs.length rc) (.slice pa p.ps.length qc) (.slice na p.ns.length nc) (.slice sa p.ss.length sc), .int .i64 e1, .int .i64 i1]) ∧ (p.cfg ga gc ra rc pa qc na nc sa sc).At w' w'.heap.size := by
  have hz : ∀ (w' : World), (pcz.cfg none 0 none 0 none 0 none 0 none 0).At w' w'.heap.size := fun w' => by
    refine ⟨?_, ?_, ?_, ?_, ?_, ⟨Nat.le_refl _, by decide⟩, ⟨Nat.le_refl _, by decide⟩, ⟨Nat.le_refl _, by decide⟩, ⟨Nat.le_refl _, by decide⟩, ⟨Nat.le_refl _, by decide⟩, pcz_in.cats, pcz_in.gate, pcz_in.quota⟩
    all_goals exact fun i hi => absurd hi (by simp [PC.cfg, pcz])
  have hn : ¬ 16384 < l.length := by omega
  cases hr : readL l with
  | inl n =>
    refine ⟨pcz, 6, n, pcz_in, by simp [pcz], fun B e w' h => ?_⟩
    unfold ParsePost at h
    rw [if_neg hn, hr] at h
    exact ⟨none, 0, none, 0, none, 0, none, 0, none, 0, h, hz w'⟩
  | inr p =>
    have hin := readL_in hr
    have hsz := readL_size hr
    by_cases he : (chk p).1 = 0
    · refine ⟨p, 0, 0, hin, by omega, fun B e w' h => ?_⟩
      unfold ParsePost at h
      rw [if_neg hn, hr] at h
      simp only at h
      rw [if_pos he] at h
      obtain ⟨vg, vr, vp, vn, vs, rfl, hrow⟩ := h
      obtain ⟨ga, gc, ra, rc, pa, qc, na, nc, sa, sc, rfl, rfl, rfl, rfl, rfl, hat⟩ := cfg_at hrow hin (by omega)
      exact ⟨_, _, _, _, _, _, _, _, _, _, rfl, hat⟩
    · refine ⟨pcz, (chk p).1, 0, pcz_in, by simp [pcz], fun B e w' h => ?_⟩
      unfold ParsePost at h
      rw [if_neg hn, hr] at h
      simp only at h
      rw [if_neg he] at h
      exact ⟨none, 0, none, 0, none, 0, none, 0, none, 0, h, hz w'⟩
/-- same, of two that lie apart and read alike -/
theorem same_cfg (p : PC) (ga : Option Addr) (gc : Nat) (ra : Option Addr) (rc : Nat) (pa : Option Addr) (qc : Nat) (na : Option Addr) (nc : Nat) (sa : Option Addr) (sc : Nat)
    (ga2 : Option Addr) (gc2 : Nat) (ra2 : Option Addr) (rc2 : Nat) (pa2 : Option Addr) (qc2 : Nat) (na2 : Option Addr) (nc2 : Nat) (sa2 : Option Addr) (sc2 : Nat) (w : World)
    (h1 : (p.cfg ga gc ra rc pa qc na nc sa sc).At w w.heap.size) (h2 : (p.cfg ga2 gc2 ra2 rc2 pa2 qc2 na2 nc2 sa2 sc2).At w w.heap.size) :
    Calls Tryd.prog 16 #[cfgV p (.slice ga p.gs.length gc) (.slice ra p.rs.length rc) (.slice pa p.ps.length qc) (.slice na p.ns.length nc) (.slice sa p.ss.length sc), cfgV p (.slice ga2 p.gs.length gc2) (.slice ra2 p.rs.length rc2) (.slice pa2 p.ps.length qc2) (.slice na2 p.ns.length nc2) (.slice sa2 p.ss.length sc2)] w fun e w' => e = .returned (.bool true) ∧ Below w.heap.size w w' :=
  same_true p.cats p.gate p.quota p.gs.length p.rs.length p.ps.length p.ns.length p.ss.length _ _ _ _ _ ga ra pa na sa ga2 ra2 pa2 na2 sa2 gc rc qc nc sc gc2 rc2 qc2 nc2 sc2 w h1.g h2.g h1.lg.2 h1.r h2.r h1.lr.2 h1.p h2.p h1.lp.2 h1.n h2.n h1.ln.2 h1.s h2.s h1.ls.2
set_option maxHeartbeats 8000000 in
theorem reads_any (s : ByteArray) (hm : s.size ≤ 140737488355328) (w : World) (hK : Kinds w) :
    Calls Tryd.prog 4 #[.string s] w fun e w' => e = .returned (.bool true) ∧ Below w.heap.size w w' := by
  have HK := Lib.hid hK
  have HK0 := Lib.hid hK.lt
  clear hK
  by_cases hl : 4000 < s.size
  · go_enter Tryd.func4, Tryd.ntmps4
    go_wp2_with (go_at_call 6; refine (awake5_any _ _ (Nat.le_refl _) HK.out).mono ?_; rintro e w1 ⟨rfl, hb1⟩)
    go_ret
    exact ⟨rfl, hb1⟩
  · obtain ⟨p, e1, i1, hin, hsz, hsh⟩ := parse_shape s.data.toList (by simp; omega)
    have HSH := Lib.hid hsh
    have hx := fun (W : World) (hW : Kinds W) => parse_any s (by omega) W.heap.size W (Nat.le_refl _) hW
    have hy := fun (W : World) => refParse_any5 s (by omega) W
    have HX := Lib.hid hx
    have HY := Lib.hid hy
    clear hin hsz hsh hx hy
    go_enter Tryd.func4, Tryd.ntmps4
    go_upto_region 5 with (first
      | (go_at_call 14; refine (HX.out _ HK.out).mono ?_; rintro e w1 ⟨hp, hb1⟩; obtain ⟨ga, gc, ra, rc, pa, qc, na, nc, sa, sc, rfl, hat⟩ := HSH.out _ _ _ hp; have HAT := Lib.hid hat; clear hp hat)
      | (go_at_call 15; refine (HY.out _).mono ?_; rintro e w2 ⟨hp, hb2⟩; obtain ⟨ga2, gc2, ra2, rc2, pa2, qc2, na2, nc2, sa2, sc2, rfl, hat⟩ := HSH.out _ _ _ hp; have HAT2 := Lib.hid hat; have HB2 := Lib.hid hb2; clear hp hat hb2))
    have hal1 : Below w1.heap.size w1 (w1.alloc (.cells #[.int .i64 p.cats, .slice ga p.gs.length gc, .slice ra p.rs.length rc, .slice pa p.ps.length qc, .slice na p.ns.length nc, .slice sa p.ss.length sc, .int .i64 p.gate, .int .i64 p.quota] 36 (0, 0))) := (Below.refl _ _).alloc (Nat.le_refl _) _
    have hal2 : Below w2.heap.size w2 (w2.alloc (.cells #[.int .i64 p.cats, .slice ga2 p.gs.length gc2, .slice ra2 p.rs.length rc2, .slice pa2 p.ps.length qc2, .slice na2 p.ns.length nc2, .slice sa2 p.ss.length sc2, .int .i64 p.gate, .int .i64 p.quota] 36 (0, 0))) := (Below.refl _ _).alloc (Nat.le_refl _) _
    have hz1 := (hal2.block w1.heap.size (by have := HB2.out.size; simp at this; omega)).trans ((HB2.out.block _ (by simp)).trans (heap_alloc_new w1 (.cells #[.int .i64 p.cats, .slice ga p.gs.length gc, .slice ra p.rs.length rc, .slice pa p.ps.length qc, .slice na p.ns.length nc, .slice sa p.ss.length sc, .int .i64 p.gate, .int .i64 p.quota] 36 (0, 0))))
    have hz2 := heap_alloc_new w2 (.cells #[.int .i64 p.cats, .slice ga2 p.gs.length gc2, .slice ra2 p.rs.length rc2, .slice pa2 p.ps.length qc2, .slice na2 p.ns.length nc2, .slice sa2 p.ss.length sc2, .int .i64 p.gate, .int .i64 p.quota] 36 (0, 0))
    have hb13 := (hal1.trans (HB2.out.mono hal1.size)).trans (hal2.mono (Nat.le_trans hal1.size HB2.out.size))
    have hat1 := (HAT.out.below hb13).more_at hb13.size
    have hat2 := (HAT2.out.below hal2).more_at hal2.size
    have hb03 := hb1.trans (hb13.mono hb1.size)
    obtain ⟨W3, hW3⟩ : ∃ W3, w2.alloc (.cells #[.int .i64 p.cats, .slice ga2 p.gs.length gc2, .slice ra2 p.rs.length rc2, .slice pa2 p.ps.length qc2, .slice na2 p.ns.length nc2, .slice sa2 p.ss.length sc2, .int .i64 p.gate, .int .i64 p.quota] 36 (0, 0)) = W3 := ⟨_, rfl⟩
    rw [hW3] at hz1 hz2 hat1 hat2 hb03
    rw [hW3]
    obtain ⟨⟨c0, c1, c2, c3, c4, c5, c6, c7⟩, _⟩ := cells8 hz1
    obtain ⟨⟨d0, d1, d2, d3, d4, d5, d6, d7⟩, _⟩ := cells8 hz2
    have HS := Lib.hid (same_cfg p ga gc ra rc pa qc na nc sa sc ga2 gc2 ra2 rc2 pa2 qc2 na2 nc2 sa2 sc2 W3 hat1 hat2)
    clear hW3 hz1 hz2 hat1 hat2 hb13 hal1 hal2 hb1
    go_wp2_with (first
      | (go_at_call 16; refine HS.out.mono ?_; rintro e w4 ⟨rfl, hb4⟩; have hb5 := hb03.trans (hb4.mono hb03.size); have hk4 := HK.out.below hb5 HK0.out)
      | (go_at_call 6; refine (awake5_any _ _ (Nat.le_refl _) hk4).mono ?_; rintro e w5 ⟨rfl, hb6⟩; have hb7 := hb5.trans (hb6.mono hb5.size)))
    go_ret
    exact ⟨rfl, hb7⟩
end Go.Proofs.YtikkfapgmbamlaaDoor.Pl
end
section
/- The walk of hermitagelaw05.PlanBack. -/
namespace Go.Proofs.YtikkfapgmbamlaaDoor.Pl
open Go.RowKit Ut
set_option linter.unusedVariables false
set_option maxRecDepth 100000

theorem zero_at (w : World) : (pcz.cfg none 0 none 0 none 0 none 0 none 0).At w w.heap.size := by
  refine ⟨?_, ?_, ?_, ?_, ?_, ⟨Nat.le_refl _, by decide⟩, ⟨Nat.le_refl _, by decide⟩, ⟨Nat.le_refl _, by decide⟩, ⟨Nat.le_refl _, by decide⟩, ⟨Nat.le_refl _, by decide⟩, pcz_in.cats, pcz_in.gate, pcz_in.quota⟩
  all_goals exact fun i hi => absurd hi (by simp [PC.cfg, pcz])
/-- a configuration that came in, plainly -/
def ofCfg (c : Cf.Cfg) : PC := ⟨c.cats, (List.range c.gn).map fun i => [c.G i 0, c.G i 1, c.G i 2], (List.range c.rn).map fun i => [c.R i 0, c.R i 1, c.R i 2], (List.range c.pn).map fun i => [c.P i 0, c.P i 1], (List.range c.nn).map fun i => [c.N i 0, c.N i 1], (List.range c.sn).map fun i => [c.S i 0, c.S i 1], c.gate, c.quota⟩
theorem of_len (c : Cf.Cfg) : PLen (ofCfg c) := by
  refine ⟨?_, ?_, ?_, ?_, ?_⟩ <;> (intro v hv; simp only [ofCfg, List.mem_map] at hv; obtain ⟨i, _, rfl⟩ := hv; rfl)
theorem row_of {k : Nat} {w : World} {B n : Nat} {a : Option Addr} {Z Y : Nat → Nat → Int} (h : Cf.RowT k w B a n Z) (he : ∀ i, i < n → ∀ j, j < k → Y i j = Z i j) : Cf.RowT k w B a n Y := fun i hi => by
  obtain ⟨x, e, hx, hc⟩ := h i hi
  exact ⟨x, e, hx, fun j hj => by rw [he i hi j hj]; exact hc j hj⟩
theorem at_get {n i : Nat} (hi : i < n) (f : Nat → List Int) : ((List.range n).map f).getD i [] = f i := by
  simp [List.getD, hi]
theorem of_at {c : Cf.Cfg} {w : World} {B : Nat} (h : c.At w B) : ((ofCfg c).cfg c.ga c.gc c.ra c.rc c.pa c.pc c.na c.nc c.sa c.sc).At w B := by
  have g3 : ∀ (n : Nat) (Z : Nat → Nat → Int) (i : Nat), i < n → ∀ j, j < 3 → (((List.range n).map fun i => [Z i 0, Z i 1, Z i 2]).getD i []).getD j 0 = Z i j := fun n Z i hi j hj => by
    rw [at_get hi]
    match j, hj with
    | 0, _ => rfl
    | 1, _ => rfl
    | 2, _ => rfl
    | j + 3, h => omega
  have g2 : ∀ (n : Nat) (Z : Nat → Nat → Int) (i : Nat), i < n → ∀ j, j < 2 → (((List.range n).map fun i => [Z i 0, Z i 1]).getD i []).getD j 0 = Z i j := fun n Z i hi j hj => by
    rw [at_get hi]
    match j, hj with
    | 0, _ => rfl
    | 1, _ => rfl
    | j + 2, h => omega
  have ll : ∀ (n : Nat) (f : Nat → List Int), ((List.range n).map f).length = n := fun n f => by simp
  refine ⟨?_, ?_, ?_, ?_, ?_, ?_, ?_, ?_, ?_, ?_, h.i1, h.i2, h.i3⟩
  · show Cf.RowT 3 w B c.ga (((List.range c.gn).map _).length) _
    rw [ll]; exact row_of h.g (g3 _ _)
  · show Cf.RowT 3 w B c.ra (((List.range c.rn).map _).length) _
    rw [ll]; exact row_of h.r (g3 _ _)
  · show Cf.RowT 2 w B c.pa (((List.range c.pn).map _).length) _
    rw [ll]; exact row_of h.p (g2 _ _)
  · show Cf.RowT 2 w B c.na (((List.range c.nn).map _).length) _
    rw [ll]; exact row_of h.n (g2 _ _)
  · show Cf.RowT 2 w B c.sa (((List.range c.sn).map _).length) _
    rw [ll]; exact row_of h.s (g2 _ _)
  · show ((List.range c.gn).map _).length ≤ c.gc ∧ ((List.range c.gn).map _).length ≤ _
    rw [ll]; exact h.lg
  · show ((List.range c.rn).map _).length ≤ c.rc ∧ ((List.range c.rn).map _).length ≤ _
    rw [ll]; exact h.lr
  · show ((List.range c.pn).map _).length ≤ c.pc ∧ ((List.range c.pn).map _).length ≤ _
    rw [ll]; exact h.lp
  · show ((List.range c.nn).map _).length ≤ c.nc ∧ ((List.range c.nn).map _).length ≤ _
    rw [ll]; exact h.ln
  · show ((List.range c.sn).map _).length ≤ c.sc ∧ ((List.range c.sn).map _).length ≤ _
    rw [ll]; exact h.ls
theorem of_v (c : Cf.Cfg) : c.v = ((ofCfg c).cfg c.ga c.gc c.ra c.rc c.pa c.pc c.na c.nc c.sa c.sc).v := by
  simp [Cf.Cfg.v, Cf.Cfg.cs, PC.cfg, ofCfg]
theorem text_len {p : PC} (hl : PLen p) (h : (chk p).1 = 0) : p.text.length ≤ 1600 := by
  obtain ⟨hok, l1, l2, l3, l4, l5⟩ := okp_of hl h
  have hrl : p.recs.length ≤ 40 := by
    unfold PC.recs
    simp only [List.length_cons, List.length_append, List.length_map]
    split <;> simp <;> omega
  have h1 := flat_len (l := p.recs.map lineL) fun x hx => by
    obtain ⟨q, hq, rfl⟩ := List.mem_map.1 hx
    exact line_len (recs_ok hok q hq).2
  rw [List.length_map] at h1
  show ((p.recs.map lineL).flatten).length ≤ _
  omega
/-- what Parse answers of a right one's text -/
theorem parse_text5 {p : PC} (hl : PLen p) (h : (chk p).1 = 0) (w : World) (hK : Kinds w) :
    Calls Tryd.prog 14 #[.string (tb p.text)] w fun e w' => ∃ ga gc ra rc pa qc na nc sa sc, e = .returned (.tuple #[.agg #[.int .i64 p.cats, .slice ga p.gs.length gc, .slice ra p.rs.length rc, .slice pa p.ps.length qc, .slice na p.ns.length nc, .slice sa p.ss.length sc, .int .i64 p.gate, .int .i64 p.quota], .int .i64 0, .int .i64 0]) ∧ (p.cfg ga gc ra rc pa qc na nc sa sc).At w' w'.heap.size ∧ Below w.heap.size w w' := by
  have htl := text_len hl h
  have hrd := text_read (okp_of hl h).1
  refine (parse_any (tb p.text) (by rw [tb_size]; omega) w.heap.size w (Nat.le_refl _) hK).mono fun e w' ⟨h1, h2⟩ => ?_
  unfold ParsePost at h1
  rw [tb_list, if_neg (by omega), hrd] at h1
  simp only at h1
  rw [if_pos h] at h1
  obtain ⟨vg, vr, vp, vn, vs, rfl, hrow⟩ := h1
  have hsz := readL_size hrd
  obtain ⟨ga, gc, ra, rc, pa, qc, na, nc, sa, sc, rfl, rfl, rfl, rfl, rfl, hat⟩ := cfg_at hrow (readL_in hrd) (by omega)
  exact ⟨_, _, _, _, _, _, _, _, _, _, rfl, hat, h2⟩
/-- what Parse answers of any text: an error, or a right configuration whose text it is -/
theorem parse_two (s : ByteArray) (hm : s.size ≤ 140737488355328) : (∃ g i1 : Int, ¬ g = 0 ∧ ∀ w, Kinds w → Calls Tryd.prog 14 #[.string s] w fun e w' => e = .returned (.tuple #[zeroC, .int .i64 g, .int .i64 i1]) ∧ Below w.heap.size w w') ∨
    (∃ q : PC, (chk q).1 = 0 ∧ tb q.text = s ∧ ∀ w, Kinds w → Calls Tryd.prog 14 #[.string s] w fun e w' => ∃ ga3 gc3 ra3 rc3 pa3 qc3 na3 nc3 sa3 sc3, e = .returned (.tuple #[.agg #[.int .i64 q.cats, .slice ga3 q.gs.length gc3, .slice ra3 q.rs.length rc3, .slice pa3 q.ps.length qc3, .slice na3 q.ns.length nc3, .slice sa3 q.ss.length sc3, .int .i64 q.gate, .int .i64 q.quota], .int .i64 0, .int .i64 0]) ∧ (q.cfg ga3 gc3 ra3 rc3 pa3 qc3 na3 nc3 sa3 sc3).At w' w'.heap.size ∧ PLen q ∧ Below w.heap.size w w') := by
  have hp := fun w hK => parse_any s hm w.heap.size w (Nat.le_refl _) hK
  by_cases hl : 16384 < s.data.toList.length
  · refine .inl ⟨10, 0, by omega, fun w hK => (hp w hK).mono fun e w' ⟨h1, h2⟩ => ⟨?_, h2⟩⟩
    unfold ParsePost at h1
    rwa [if_pos hl] at h1
  · cases hr : readL s.data.toList with
    | inl n =>
      refine .inl ⟨6, n, by omega, fun w hK => (hp w hK).mono fun e w' ⟨h1, h2⟩ => ⟨?_, h2⟩⟩
      unfold ParsePost at h1
      rwa [if_neg hl, hr] at h1
    | inr q =>
      by_cases he : (chk q).1 = 0
      · refine .inr ⟨q, he, by rw [read_text hr]; rfl, fun w hK => (hp w hK).mono fun e w' ⟨h1, h2⟩ => ?_⟩
        unfold ParsePost at h1
        rw [if_neg hl, hr] at h1
        simp only at h1
        rw [if_pos he] at h1
        obtain ⟨vg, vr, vp, vn, vs, rfl, hrow⟩ := h1
        have hsz := readL_size hr
        have hpl : PLen q := ⟨hrow.og.2, hrow.or.2, hrow.op.2, hrow.on.2, hrow.os.2⟩
        obtain ⟨ga, gc, ra, rc, pa, qc, na, nc, sa, sc, rfl, rfl, rfl, rfl, rfl, hat⟩ := cfg_at hrow (readL_in hr) (by omega)
        exact ⟨_, _, _, _, _, _, _, _, _, _, rfl, hat, hpl, h2⟩
      · refine .inl ⟨_, 0, he, fun w hK => (hp w hK).mono fun e w' ⟨h1, h2⟩ => ⟨?_, h2⟩⟩
        unfold ParsePost at h1
        rw [if_neg hl, hr] at h1
        simp only at h1
        rwa [if_neg he] at h1
set_option maxHeartbeats 8000000 in
theorem back_any (p : PC) (ga : Option Addr) (gc : Nat) (ra : Option Addr) (rc : Nat) (pa : Option Addr) (qc : Nat) (na : Option Addr) (nc : Nat) (sa : Option Addr) (sc : Nat) (s : ByteArray) (hm : s.size ≤ 140737488355328) (w : World) (h : (p.cfg ga gc ra rc pa qc na nc sa sc).At w w.heap.size) (hl : PLen p) (hK : Kinds w) :
    Calls Tryd.prog 5 #[.agg #[.int .i64 p.cats, .slice ga p.gs.length gc, .slice ra p.rs.length rc, .slice pa p.ps.length qc, .slice na p.ns.length nc, .slice sa p.ss.length sc, .int .i64 p.gate, .int .i64 p.quota], .string s] w fun e w' => e = .returned (.bool true) ∧ Below w.heap.size w w' := by
  have hal : Below w.heap.size w (w.alloc (.cells #[.int .i64 p.cats, .slice ga p.gs.length gc, .slice ra p.rs.length rc, .slice pa p.ps.length qc, .slice na p.ns.length nc, .slice sa p.ss.length sc, .int .i64 p.gate, .int .i64 p.quota] 36 (0, 0))) := (Below.refl _ _).alloc (Nat.le_refl _) _
  have HAL := Lib.hid hal
  have HZ := Lib.hid (heap_alloc_new w (.cells #[.int .i64 p.cats, .slice ga p.gs.length gc, .slice ra p.rs.length rc, .slice pa p.ps.length qc, .slice na p.ns.length nc, .slice sa p.ss.length sc, .int .i64 p.gate, .int .i64 p.quota] 36 (0, 0)))
  have HAT : Hid (∀ W, Below w.heap.size w W → (p.cfg ga gc ra rc pa qc na nc sa sc).At W W.heap.size) := Lib.hid fun W hW => (h.below hW).more_at hW.size
  have HK := Lib.hid hK
  have HK0 := Lib.hid hK.lt
  have HKK : Hid (∀ W, Below w.heap.size w W → Kinds W) := Lib.hid fun W hW => HK.out.below hW HK0.out
  have HPL := Lib.hid hl
  obtain ⟨e2, he2⟩ : ∃ e2, (chk p).2 = e2 := ⟨_, rfl⟩
  obtain ⟨e1, he1⟩ : ∃ e1, (chk p).1 = e1 := ⟨_, rfl⟩
  have HC : Hid (∀ W, Below w.heap.size w W → Calls Tryd.prog 18 #[.agg #[.int .i64 p.cats, .slice ga p.gs.length gc, .slice ra p.rs.length rc, .slice pa p.ps.length qc, .slice na p.ns.length nc, .slice sa p.ss.length sc, .int .i64 p.gate, .int .i64 p.quota]] W fun e w' => e = .returned (.tuple #[.int .i64 e1, .int .i64 e2]) ∧ Below W.heap.size W w') := Lib.hid fun W hW => by
    have := Cf.check_any (p.cfg ga gc ra rc pa qc na nc sa sc) W.heap.size W (Nat.le_refl _) (HAT.out W hW)
    rw [chk_at, he1, he2] at this
    exact this
  have HTW := Lib.hid (parse_two s hm)
  clear hal h hl hK he2
  by_cases hne : e1 = 0
  · subst hne
    have HP : Hid (∀ W, Below w.heap.size w W → Calls Tryd.prog 17 #[.agg #[.int .i64 p.cats, .slice ga p.gs.length gc, .slice ra p.rs.length rc, .slice pa p.ps.length qc, .slice na p.ns.length nc, .slice sa p.ss.length sc, .int .i64 p.gate, .int .i64 p.quota]] W fun e w' => e = .returned (.tuple #[.string (tb p.text), .int .i64 0]) ∧ Below W.heap.size W w') := Lib.hid fun W hW => print_good p ga gc ra rc pa qc na nc sa sc _ W (Nat.le_refl _) (HAT.out W hW) HPL.out he1 (HKK.out W hW)
    have HPT : Hid (∀ W, Kinds W → _) := Lib.hid fun W hW => parse_text5 HPL.out he1 W hW
    clear he1
    generalize tb p.text = tx at HP HPT
    go_enter Tryd.func5, Tryd.ntmps5
    go_upto_region 7 with (first
      | (go_at_call 17; refine (HP.out _ HAL.out).mono ?_; rintro e w1 ⟨rfl, hb1⟩; have hz1 := (hb1.block _ (by simp)).trans HZ.out; obtain ⟨⟨c0, c1, c2, c3, c4, c5, c6, c7⟩, _⟩ := cells8 hz1; have HZ1 := Lib.hid hz1; have hb01 := HAL.out.trans (hb1.mono HAL.out.size); clear hb1 hz1)
      | (go_at_call 18; refine (HC.out _ hb01).mono ?_; rintro e w2 ⟨rfl, hb2⟩; have hb02 := hb01.trans (hb2.mono hb01.size); have hz2 := (hb2.block _ (Array.getElem?_eq_some_iff.1 HZ1.out).1).trans HZ1.out; have HZ2 := Lib.hid hz2; clear hb2 hz2 hb01 c0 c1 c2 c3 c4 c5 c6 c7)
      | (go_at_call 14; refine (HPT.out _ (HKK.out _ hb02)).mono ?_; rintro e w3 ⟨ga2, gc2, ra2, rc2, pa2, qc2, na2, nc2, sa2, sc2, rfl, hat2, hb3⟩; have HA2 := Lib.hid hat2; have hz3 := (hb3.block _ (Array.getElem?_eq_some_iff.1 HZ2.out).1).trans HZ2.out; have HZ3 := Lib.hid hz3; have hb03 := hb02.trans (hb3.mono hb02.size); clear hb3 hz3 hat2 hb02))
    have hal3 : Below w3.heap.size w3 (w3.alloc (.cells #[.int .i64 p.cats, .slice ga2 p.gs.length gc2, .slice ra2 p.rs.length rc2, .slice pa2 p.ps.length qc2, .slice na2 p.ns.length nc2, .slice sa2 p.ss.length sc2, .int .i64 p.gate, .int .i64 p.quota] 36 (0, 0))) := (Below.refl _ _).alloc (Nat.le_refl _) _
    have hz4 := (hal3.block _ (Array.getElem?_eq_some_iff.1 HZ3.out).1).trans HZ3.out
    have hy4 := heap_alloc_new w3 (.cells #[.int .i64 p.cats, .slice ga2 p.gs.length gc2, .slice ra2 p.rs.length rc2, .slice pa2 p.ps.length qc2, .slice na2 p.ns.length nc2, .slice sa2 p.ss.length sc2, .int .i64 p.gate, .int .i64 p.quota] 36 (0, 0))
    have hb04 := hb03.trans (hal3.mono hb03.size)
    have hat4 := (HA2.out.below hal3).more_at hal3.size
    have hat5 := HAT.out _ hb04
    obtain ⟨W4, hW4⟩ : ∃ W4, w3.alloc (.cells #[.int .i64 p.cats, .slice ga2 p.gs.length gc2, .slice ra2 p.rs.length rc2, .slice pa2 p.ps.length qc2, .slice na2 p.ns.length nc2, .slice sa2 p.ss.length sc2, .int .i64 p.gate, .int .i64 p.quota] 36 (0, 0)) = W4 := ⟨_, rfl⟩
    rw [hW4] at hz4 hy4 hb04 hat4 hat5
    rw [hW4]
    obtain ⟨⟨c0, c1, c2, c3, c4, c5, c6, c7⟩, _⟩ := cells8 hz4
    obtain ⟨⟨d0, d1, d2, d3, d4, d5, d6, d7⟩, _⟩ := cells8 hy4
    have HS := Lib.hid (same_cfg p ga gc ra rc pa qc na nc sa sc ga2 gc2 ra2 rc2 pa2 qc2 na2 nc2 sa2 sc2 W4 hat5 hat4)
    clear hW4 hal3 hz4 hy4 hat4 hat5 hb03
    go_upto_region 9 with (go_at_call 16; refine HS.out.mono ?_; rintro e wz ⟨rfl, hb5⟩; have hbz := hb04.trans (hb5.mono hb04.size); clear hb5 hb04)
    clear c0 c1 c2 c3 c4 c5 c6 c7 d0 d1 d2 d3 d4 d5 d6 d7
    rcases HTW.out with ⟨g, i1, hg, hq⟩ | ⟨q, hq0, hqs, hq⟩
    · have HQ := Lib.hid hq
      clear hq
      go_upto_region 11 with (go_at_call 14; refine (HQ.out _ (HKK.out _ hbz)).mono ?_; rintro e w6 ⟨rfl, hb6⟩; have hb06 := hbz.trans (hb6.mono hbz.size); clear hb6)
      have hb07 := hb06.alloc hb06.size (.cells zeroL.toArray 36 (0, 0))
      have HS := Lib.hid (same_cfg pcz none 0 none 0 none 0 none 0 none 0 none 0 none 0 none 0 none 0 none 0 _ (zero_at (w6.alloc (.cells zeroL.toArray 36 (0, 0)))) (zero_at (w6.alloc (.cells zeroL.toArray 36 (0, 0)))))
      go_wp2_with (first
        | (go_at_call 16; refine HS.out.mono ?_; rintro e w8 ⟨rfl, hb8⟩; have hb08 := hb07.trans (hb8.mono hb07.size); have hk8 := HKK.out _ hb08)
        | (go_at_call 6; refine (awake5_any _ _ (Nat.le_refl _) hk8).mono ?_; rintro e w9 ⟨rfl, hb9⟩; have hb09 := hb08.trans (hb9.mono hb08.size)))
      go_ret
      exact ⟨rfl, hb09⟩
    · have HQ := Lib.hid hq
      have HQ0 := Lib.hid hq0
      have HQS := Lib.hid hqs
      clear hq hq0 hqs
      go_wp2_with (first
        | (go_at_call 14; refine (HQ.out _ (HKK.out _ hbz)).mono ?_; rintro e w6 ⟨ga3, gc3, ra3, rc3, pa3, qc3, na3, nc3, sa3, sc3, rfl, hat6, hpl6, hb6⟩; have hb06 := hbz.trans (hb6.mono hbz.size); have hal6 : Below w6.heap.size w6 (w6.alloc (.cells #[.int .i64 q.cats, .slice ga3 q.gs.length gc3, .slice ra3 q.rs.length rc3, .slice pa3 q.ps.length qc3, .slice na3 q.ns.length nc3, .slice sa3 q.ss.length sc3, .int .i64 q.gate, .int .i64 q.quota] 36 (0, 0))) := ((Below.refl _ _).alloc (Nat.le_refl _) _); have hb07 := hb06.trans (hal6.mono hb06.size); have HPG := Lib.hid (print_good q ga3 gc3 ra3 rc3 pa3 qc3 na3 nc3 sa3 sc3 _ _ (Nat.le_refl _) ((hat6.below hal6).more_at hal6.size) hpl6 HQ0.out (HKK.out _ hb07)); rw [HQS.out] at HPG; clear hb6 hat6 hpl6 hal6)
        | (go_at_call 17; refine HPG.out.mono ?_; rintro e w8 ⟨rfl, hb8⟩; have hb08 := hb07.trans (hb8.mono hb07.size); have hk8 := HKK.out _ hb08; clear HPG)
        | (go_at_call 6; refine (awake5_any _ _ (Nat.le_refl _) hk8).mono ?_; rintro e w9 ⟨rfl, hb9⟩; have hb09 := hb08.trans (hb9.mono hb08.size)))
      go_ret
      exact ⟨rfl, hb09⟩
  · have HP : Hid (∀ W, Below w.heap.size w W → Calls Tryd.prog 17 #[.agg #[.int .i64 p.cats, .slice ga p.gs.length gc, .slice ra p.rs.length rc, .slice pa p.ps.length qc, .slice na p.ns.length nc, .slice sa p.ss.length sc, .int .i64 p.gate, .int .i64 p.quota]] W fun e w' => e = .returned (.tuple #[.string ByteArray.empty, .int .i64 e1]) ∧ Below W.heap.size W w') := Lib.hid fun W hW => print_bad p ga gc ra rc pa qc na nc sa sc _ W (Nat.le_refl _) (HAT.out W hW) e1 he1 hne
    clear he1
    go_enter Tryd.func5, Tryd.ntmps5
    go_upto_region 9 with (first
      | (go_at_call 17; refine (HP.out _ HAL.out).mono ?_; rintro e w1 ⟨rfl, hb1⟩; have hz1 := (hb1.block _ (by simp)).trans HZ.out; obtain ⟨⟨c0, c1, c2, c3, c4, c5, c6, c7⟩, _⟩ := cells8 hz1; have HZ1 := Lib.hid hz1; have hb01 := HAL.out.trans (hb1.mono HAL.out.size); clear hb1 hz1)
      | (go_at_call 18; refine (HC.out _ hb01).mono ?_; rintro e wz ⟨rfl, hb2⟩; have hbz := hb01.trans (hb2.mono hb01.size); have hz2 := (hb2.block _ (Array.getElem?_eq_some_iff.1 HZ1.out).1).trans HZ1.out; have HZ2 := Lib.hid hz2; clear hb2 hz2 hb01 c0 c1 c2 c3 c4 c5 c6 c7))
    rcases HTW.out with ⟨g, i1, hg, hq⟩ | ⟨q, hq0, hqs, hq⟩
    · have HQ := Lib.hid hq
      clear hq
      go_upto_region 11 with (go_at_call 14; refine (HQ.out _ (HKK.out _ hbz)).mono ?_; rintro e w6 ⟨rfl, hb6⟩; have hb06 := hbz.trans (hb6.mono hbz.size); clear hb6)
      have hb07 := hb06.alloc hb06.size (.cells zeroL.toArray 36 (0, 0))
      have HS := Lib.hid (same_cfg pcz none 0 none 0 none 0 none 0 none 0 none 0 none 0 none 0 none 0 none 0 _ (zero_at (w6.alloc (.cells zeroL.toArray 36 (0, 0)))) (zero_at (w6.alloc (.cells zeroL.toArray 36 (0, 0)))))
      go_wp2_with (first
        | (go_at_call 16; refine HS.out.mono ?_; rintro e w8 ⟨rfl, hb8⟩; have hb08 := hb07.trans (hb8.mono hb07.size); have hk8 := HKK.out _ hb08)
        | (go_at_call 6; refine (awake5_any _ _ (Nat.le_refl _) hk8).mono ?_; rintro e w9 ⟨rfl, hb9⟩; have hb09 := hb08.trans (hb9.mono hb08.size)))
      go_ret
      exact ⟨rfl, hb09⟩
    · have HQ := Lib.hid hq
      have HQ0 := Lib.hid hq0
      have HQS := Lib.hid hqs
      clear hq hq0 hqs
      go_wp2_with (first
        | (go_at_call 14; refine (HQ.out _ (HKK.out _ hbz)).mono ?_; rintro e w6 ⟨ga3, gc3, ra3, rc3, pa3, qc3, na3, nc3, sa3, sc3, rfl, hat6, hpl6, hb6⟩; have hb06 := hbz.trans (hb6.mono hbz.size); have hal6 : Below w6.heap.size w6 (w6.alloc (.cells #[.int .i64 q.cats, .slice ga3 q.gs.length gc3, .slice ra3 q.rs.length rc3, .slice pa3 q.ps.length qc3, .slice na3 q.ns.length nc3, .slice sa3 q.ss.length sc3, .int .i64 q.gate, .int .i64 q.quota] 36 (0, 0))) := ((Below.refl _ _).alloc (Nat.le_refl _) _); have hb07 := hb06.trans (hal6.mono hb06.size); have HPG := Lib.hid (print_good q ga3 gc3 ra3 rc3 pa3 qc3 na3 nc3 sa3 sc3 _ _ (Nat.le_refl _) ((hat6.below hal6).more_at hal6.size) hpl6 HQ0.out (HKK.out _ hb07)); rw [HQS.out] at HPG; clear hb6 hat6 hpl6 hal6)
        | (go_at_call 17; refine HPG.out.mono ?_; rintro e w8 ⟨rfl, hb8⟩; have hb08 := hb07.trans (hb8.mono hb07.size); have hk8 := HKK.out _ hb08; clear HPG)
        | (go_at_call 6; refine (awake5_any _ _ (Nat.le_refl _) hk8).mono ?_; rintro e w9 ⟨rfl, hb9⟩; have hb09 := hb08.trans (hb9.mono hb08.size)))
      go_ret
      exact ⟨rfl, hb09⟩
theorem back_cfg (c : Cf.Cfg) (s : ByteArray) (hm : s.size ≤ 140737488355328) (w : World) (h : c.At w w.heap.size) (hK : Kinds w) :
    Calls Tryd.prog 5 #[c.v, .string s] w fun e w' => e = .returned (.bool true) ∧ Below w.heap.size w w' := by
  rw [of_v c]
  exact back_any (ofCfg c) c.ga c.gc c.ra c.rc c.pa c.pc c.na c.nc c.sa c.sc s hm w (of_at h) (of_len c) hK
end Go.Proofs.YtikkfapgmbamlaaDoor.Pl
end
