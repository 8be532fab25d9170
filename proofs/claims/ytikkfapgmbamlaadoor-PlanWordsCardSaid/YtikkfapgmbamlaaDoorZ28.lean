/- Several texts in one: Eo Ev Ep -/
import Derived.Test.YtikkfapgmbamlaaDoorZ11
import Derived.Test.YtikkfapgmbamlaaDoorZ12
import Derived.Test.YtikkfapgmbamlaaDoorZ27
import Derived.Deep.Cut
import Derived.Deep.DeepCutAuto
import Derived.Deep.CutBlock
import Derived.Test.YtikkfapgmbamlaaDoorZ07
import Derived.Test.YtikkfapgmbamlaaDoorZ01
section
/- plan: Parse. -/
namespace Go.Proofs.YtikkfapgmbamlaaDoor.Pl
open Go.RowKit Ut
set_option linter.unusedVariables false

/-- a plain configuration, as it lies in memory -/
def PC.cfg (p : PC) (ga : Option Addr) (gc : Nat) (ra : Option Addr) (rc : Nat) (pa : Option Addr) (qc : Nat) (na : Option Addr) (nc : Nat) (sa : Option Addr) (sc : Nat) : Cf.Cfg :=
  { cats := p.cats, ga := ga, gn := p.gs.length, gc := gc, ra := ra, rn := p.rs.length, rc := rc, pa := pa, pn := p.ps.length, pc := qc, na := na, nn := p.ns.length, nc := nc, sa := sa, sn := p.ss.length, sc := sc, gate := p.gate, quota := p.quota,
    G := fun i j => (p.gs.getD i []).getD j 0, R := fun i j => (p.rs.getD i []).getD j 0, P := fun i j => (p.ps.getD i []).getD j 0, N := fun i j => (p.ns.getD i []).getD j 0, S := fun i j => (p.ss.getD i []).getD j 0 }
/-- what config.Check says of it -/
def chk (p : PC) : Int × Int := Cf.check (p.cfg none 0 none 0 none 0 none 0 none 0)
theorem secs_at (p : PC) (ga : Option Addr) (gc : Nat) (ra : Option Addr) (rc : Nat) (pa : Option Addr) (qc : Nat) (na : Option Addr) (nc : Nat) (sa : Option Addr) (sc : Nat) : ∀ k, Cf.secs (p.cfg ga gc ra rc pa qc na nc sa sc) k = Cf.secs (p.cfg none 0 none 0 none 0 none 0 none 0) k
  | 0 => rfl
  | k + 1 => by
    unfold Cf.secs
    rw [secs_at p ga gc ra rc pa qc na nc sa sc k]
    rfl
theorem wrR_at (p : PC) (ga : Option Addr) (gc : Nat) (ra : Option Addr) (rc : Nat) (pa : Option Addr) (qc : Nat) (na : Option Addr) (nc : Nat) (sa : Option Addr) (sc : Nat) (j i : Nat) : Cf.wrR (p.cfg ga gc ra rc pa qc na nc sa sc) j i = Cf.wrR (p.cfg none 0 none 0 none 0 none 0 none 0) j i := by
  unfold Cf.wrR
  split
  all_goals first
    | rfl
    | (unfold Cf.wrongR; rw [secs_at]; rfl)
theorem chk_at (p : PC) (ga : Option Addr) (gc : Nat) (ra : Option Addr) (rc : Nat) (pa : Option Addr) (qc : Nat) (na : Option Addr) (nc : Nat) (sa : Option Addr) (sc : Nat) : Cf.check (p.cfg ga gc ra rc pa qc na nc sa sc) = chk p := by
  have h1 : Cf.cntR (p.cfg ga gc ra rc pa qc na nc sa sc) = Cf.cntR (p.cfg none 0 none 0 none 0 none 0 none 0) := by
    funext j
    unfold Cf.cntR
    split <;> rfl
  have h2 : Cf.wrR (p.cfg ga gc ra rc pa qc na nc sa sc) = Cf.wrR (p.cfg none 0 none 0 none 0 none 0 none 0) := by
    funext j i
    exact wrR_at p ga gc ra rc pa qc na nc sa sc j i
  unfold chk Cf.check
  rw [h1, h2]
theorem cfg_at {w : World} {B : Nat} {p : PC} {vg vr vp vn vs : Value} (h : RowsP w B p vg vr vp vn vs) (hin : PIn p) (hsz : p.gs.length + p.rs.length + p.ps.length + p.ns.length + p.ss.length ≤ 140737488355328) :
    ∃ ga gc ra rc pa qc na nc sa sc, vg = .slice ga p.gs.length gc ∧ vr = .slice ra p.rs.length rc ∧ vp = .slice pa p.ps.length qc ∧ vn = .slice na p.ns.length nc ∧ vs = .slice sa p.ss.length sc ∧ (p.cfg ga gc ra rc pa qc na nc sa sc).At w w.heap.size := by
  obtain ⟨ga, gc, e1, l1, r1⟩ := ownT_row h.og hin.gs
  obtain ⟨ra, rc, e2, l2, r2⟩ := ownT_row h.or hin.rs
  obtain ⟨pa, qc, e3, l3, r3⟩ := ownT_row h.op hin.ps
  obtain ⟨na, nc, e4, l4, r4⟩ := ownT_row h.on hin.ns
  obtain ⟨sa, sc, e5, l5, r5⟩ := ownT_row h.os hin.ss
  exact ⟨ga, gc, ra, rc, pa, qc, na, nc, sa, sc, e1, e2, e3, e4, e5, r1, r2, r3, r4, r5, ⟨l1, by show p.gs.length ≤ _; omega⟩, ⟨l2, by show p.rs.length ≤ _; omega⟩, ⟨l3, by show p.ps.length ≤ _; omega⟩, ⟨l4, by show p.ns.length ≤ _; omega⟩, ⟨l5, by show p.ss.length ≤ _; omega⟩, hin.cats, hin.gate, hin.quota⟩
theorem results_parse (tmps : Array Value) (w : World) (g : Nat) (cs : Array Value) (x y : Value) (h2 : tmps.getD 2 undef = .pointer (some ⟨g, 0, none⟩)) (h3 : tmps.getD 3 undef = x) (h4 : tmps.getD 4 undef = y) (hg : w.heap[g]? = some (.cells cs 36 (0, 0))) (hn : (Tryd.prog.info? 36).map (·.size) = some cs.size) :
    (results Tryd.f14 tmps).run Tryd.prog w = .ok (.tuple #[.agg cs, x, y]) w := by
  have hp' : tmps[2]?.getD undef = .pointer (some ⟨g, 0, none⟩) := by simpa using h2
  have hp3 : tmps[3]?.getD undef = x := by simpa using h3
  have hp4 : tmps[4]?.getD undef = y := by simpa using h4
  simp [results, Tryd.results14, hp', hp3, hp4, asAddr, run_loadVar_row w g 36 36 cs (0, 0) _ hg Tryd.underlying36 rfl hn]
/-- what Parse answers -/
def ParsePost (l : List UInt8) (B : Nat) (e : Ending) (w' : World) : Prop :=
  if 16384 < l.length then e = .returned (.tuple #[zeroC, .int .i64 10, .int .i64 0])
  else match readL l with
    | .inl n => e = .returned (.tuple #[zeroC, .int .i64 6, .int .i64 n])
    | .inr p => if (chk p).1 = 0 then ∃ vg vr vp vn vs, e = .returned (.tuple #[cfgV p vg vr vp vn vs, .int .i64 0, .int .i64 0]) ∧ RowsP w' B p vg vr vp vn vs
      else e = .returned (.tuple #[zeroC, .int .i64 (chk p).1, .int .i64 0])
set_option maxHeartbeats 1000000 in
set_option maxRecDepth 100000 in
theorem parse_long (s : ByteArray) (hs : 16384 < s.size) (hm : s.size ≤ 140737488355328) (B : Nat) (w : World) (hB : B ≤ w.heap.size) :
    Calls Tryd.prog 14 #[.string s] w fun e w' => ParsePost s.data.toList B e w' ∧ Below B w w' := by
  have HP : Hid (∀ e w', e = .returned (.tuple #[zeroC, .int .i64 10, .int .i64 0]) → ParsePost s.data.toList B e w') := Lib.hid fun e w' h => by
    unfold ParsePost
    rw [if_pos (by simpa using hs)]; exact h
  generalize ParsePost s.data.toList B = PP at HP ⊢
  go_enter Tryd.func14, Tryd.ntmps14
  go_wp2
  have hrow := heap_alloc_new w (.cells zeroL.toArray 36 (0, 0))
  exact bodyPost_ret (v := .tuple #[zeroC, .int .i64 10, .int .i64 0]) (results_parse _ _ w.heap.size zeroL.toArray _ _ rfl rfl rfl hrow (by kernel_rfl)) rfl ⟨HP.out _ _ rfl, (Below.refl B w).alloc hB _⟩
theorem ownT_mono {k : Nat} {w : World} {B B' : Nat} {e : TypeId} {v : Value} {xs : List (List Int)} (h : OwnT k w B' e v xs) (hB : B ≤ B') : OwnT k w B e v xs := by
  refine ⟨⟨h.1.1, ?_⟩, h.2⟩
  rcases h.1.2 with h0 | ⟨g, cap, cur, hv, hb, r⟩
  · exact .inl h0
  · exact .inr ⟨g, cap, cur, hv, Nat.le_trans hB hb, r⟩
theorem RowsP.mono {w : World} {B B' : Nat} {p : PC} {vg vr vp vn vs : Value} (h : RowsP w B' p vg vr vp vn vs) (hB : B ≤ B') : RowsP w B p vg vr vp vn vs := ⟨ownT_mono h.og hB, ownT_mono h.or hB, ownT_mono h.op hB, ownT_mono h.on hB, ownT_mono h.os hB⟩
theorem read_inl (s : ByteArray) (hs : s.size ≤ 16384) (n : Nat) (h : readL s.data.toList = .inl n) (w : World) (hK : Kinds w) :
    Calls Tryd.prog 21 #[.string s] w fun e w' => e = .returned (.tuple #[zeroC, .int .i64 n]) ∧ Below w.heap.size w w' := by
  have := read_any s hs w.heap.size w (Nat.le_refl _) hK.lt hK
  rw [h] at this
  exact this
theorem read_inr (s : ByteArray) (hs : s.size ≤ 16384) (p : PC) (h : readL s.data.toList = .inr p) (w : World) (hK : Kinds w) :
    Calls Tryd.prog 21 #[.string s] w fun e w' => ∃ ga gc ra rc pa qc na nc sa sc, e = .returned (.tuple #[cfgV p (.slice ga p.gs.length gc) (.slice ra p.rs.length rc) (.slice pa p.ps.length qc) (.slice na p.ns.length nc) (.slice sa p.ss.length sc), .int .i64 0]) ∧ RowsP w' w.heap.size p (.slice ga p.gs.length gc) (.slice ra p.rs.length rc) (.slice pa p.ps.length qc) (.slice na p.ns.length nc) (.slice sa p.ss.length sc) ∧ (p.cfg ga gc ra rc pa qc na nc sa sc).At w' w'.heap.size ∧ Below w.heap.size w w' := by
  refine (read_any s hs w.heap.size w (Nat.le_refl _) hK.lt hK).mono fun e w' ⟨h1, h2⟩ => ?_
  rw [h] at h1
  obtain ⟨vg, vr, vp, vn, vs, he, hr⟩ := h1
  have hsz := readL_size h
  have hl : s.data.toList.length = s.size := by simp
  obtain ⟨ga, gc, ra, rc, pa, qc, na, nc, sa, sc, rfl, rfl, rfl, rfl, rfl, hat⟩ := cfg_at hr (readL_in h) (by omega)
  exact ⟨ga, gc, ra, rc, pa, qc, na, nc, sa, sc, he, hr, hat, h2⟩
set_option maxHeartbeats 1000000 in
set_option maxRecDepth 100000 in
theorem parse_inl (s : ByteArray) (hs : s.size ≤ 16384) (B : Nat) (w : World) (hB : B ≤ w.heap.size) (hK : Kinds w) (n : Nat) (h : readL s.data.toList = .inl n) :
    Calls Tryd.prog 14 #[.string s] w fun e w' => ParsePost s.data.toList B e w' ∧ Below B w w' := by
  have HP : Hid (∀ e w', e = .returned (.tuple #[zeroC, .int .i64 6, .int .i64 n]) → ParsePost s.data.toList B e w') := Lib.hid fun e w' he => by
    unfold ParsePost
    rw [if_neg (by have : s.data.toList.length = s.size := by simp
                   omega), h]; exact he
  have hn1 := readL_pos h
  generalize hPP : ParsePost s.data.toList B = PP at HP ⊢
  clear hPP
  have hal : Below w.heap.size w (w.alloc (.cells zeroL.toArray 36 (0, 0))) := (Below.refl _ _).alloc (Nat.le_refl _) _
  have hr := read_inl s hs n h _ (hK.below hal hK.lt)
  have HZ := Lib.hid (heap_alloc_new w (.cells zeroL.toArray 36 (0, 0)))
  have HAL := Lib.hid hal
  clear h hK hal
  go_enter Tryd.func14, Tryd.ntmps14
  go_upto_region 5 with (go_at_call 21; refine hr.mono ?_; rintro e w2 ⟨rfl, hb2⟩; have hz2 := (hb2.block _ (by simp)).trans HZ.out; have hl2 : w.heap.size < w2.heap.size := (Array.getElem?_eq_some_iff.1 hz2).1; have HZ3 := Lib.hid ((Below.heap_alloc w2 (.cells zeroL.toArray 36 (0, 0)) _ hl2).trans hz2); have hb3 := ((HAL.out.mono hB).trans (hb2.mono (by simp; omega))).alloc (by omega) (.cells zeroL.toArray 36 (0, 0)); clear hr hb2 hz2)
  refine wp_region_lit ?_
  refine wpList_build rfl 36 #[] rfl (by kernel_rfl) ?_
  refine wpList_value rfl (.int .i64 n) (by kernel_rfl) ?_
  refine wpList_store_row rfl 36 (.tmp 2) (.tmp 20) rfl w.heap.size zeroL.toArray rfl (by kernel_rfl) 36 _ HZ3.out (by kernel_rfl) rfl (by kernel_rfl) ?_
  have hrow4 := Lib.hid (setRow_heap _ w.heap.size _ zeroL.toArray _ _ HZ3.out)
  have hbe := below_setRow hb3 hB zeroL.toArray
  go_wp2
  exact bodyPost_ret (v := .tuple #[zeroC, .int .i64 6, .int .i64 n]) (results_parse _ _ w.heap.size zeroL.toArray _ _ rfl rfl rfl hrow4.out (by kernel_rfl)) rfl ⟨HP.out _ _ rfl, hbe⟩
set_option maxHeartbeats 2000000 in
set_option maxRecDepth 100000 in
theorem parse_bad (s : ByteArray) (hs : s.size ≤ 16384) (B : Nat) (w : World) (hB : B ≤ w.heap.size) (hK : Kinds w) (p : PC) (h : readL s.data.toList = .inr p) (e1 : Int) (he1 : (chk p).1 = e1) (hne : ¬ e1 = 0) :
    Calls Tryd.prog 14 #[.string s] w fun e w' => ParsePost s.data.toList B e w' ∧ Below B w w' := by
  have HP : Hid (∀ e w', e = .returned (.tuple #[zeroC, .int .i64 e1, .int .i64 0]) → ParsePost s.data.toList B e w') := Lib.hid fun e w' he => by
    unfold ParsePost
    rw [if_neg (by have : s.data.toList.length = s.size := by simp
                   omega), h]
    simp only
    rw [he1, if_neg hne]; exact he
  generalize hPP : ParsePost s.data.toList B = PP at HP ⊢
  clear hPP
  have hal : Below w.heap.size w (w.alloc (.cells zeroL.toArray 36 (0, 0))) := (Below.refl _ _).alloc (Nat.le_refl _) _
  have hr := read_inr s hs p h _ (hK.below hal hK.lt)
  have HZ := Lib.hid (heap_alloc_new w (.cells zeroL.toArray 36 (0, 0)))
  have HAL := Lib.hid hal
  have HC := Lib.hid he1
  clear h hK hal he1
  obtain ⟨e2, he2⟩ : ∃ e2, (chk p).2 = e2 := ⟨_, rfl⟩
  have HC2 := Lib.hid he2
  clear he2
  go_enter Tryd.func14, Tryd.ntmps14
  go_upto_region 8 with (first | (go_at_call 21; refine hr.mono ?_; rintro e w2 ⟨ga, gc, ra, rc, pa, qc, na, nc, sa, sc, rfl, hrows, hat, hb2⟩; have hz2 := (hb2.block _ (by simp)).trans HZ.out; have hl2 : w.heap.size < w2.heap.size := (Array.getElem?_eq_some_iff.1 hz2).1; have hal2 : Below w2.heap.size w2 (w2.alloc (.cells #[.int .i64 p.cats, .slice ga p.gs.length gc, .slice ra p.rs.length rc, .slice pa p.ps.length qc, .slice na p.ns.length nc, .slice sa p.ss.length sc, .int .i64 p.gate, .int .i64 p.quota] 36 (0, 0))) := (Below.refl _ _).alloc (Nat.le_refl _) _; have HZ3 := Lib.hid ((hal2.block _ hl2).trans hz2); have HAT := Lib.hid ((hat.below hal2).more_at hal2.size); have hb3 := ((HAL.out.mono hB).trans (hb2.mono (by simp; omega))).trans (hal2.mono (by omega)); have hl3 : w.heap.size < (w2.alloc (.cells #[.int .i64 p.cats, .slice ga p.gs.length gc, .slice ra p.rs.length rc, .slice pa p.ps.length qc, .slice na p.ns.length nc, .slice sa p.ss.length sc, .int .i64 p.gate, .int .i64 p.quota] 36 (0, 0))).heap.size := (by simp; omega); clear hr hb2 hz2 hrows hat hal2) | (go_at_call 18; refine (Cf.check_any (p.cfg ga gc ra rc pa qc na nc sa sc) _ _ (Nat.le_refl _) HAT.out).mono ?_; rw [chk_at, HC.out, HC2.out]; rintro e w4 ⟨rfl, hb4⟩; have HZ4 := Lib.hid ((hb4.block _ hl3).trans HZ3.out); have hb5 := hb3.trans (hb4.mono (by omega)); clear hb4 hb3))
  refine wp_region_lit ?_
  refine wpList_build rfl 36 #[] rfl (by kernel_rfl) ?_
  refine wpList_value rfl (.int .i64 e1) (by kernel_rfl) ?_
  refine wpList_store_row rfl 36 (.tmp 2) (.tmp 29) rfl w.heap.size zeroL.toArray rfl (by kernel_rfl) 36 _ HZ4.out (by kernel_rfl) rfl (by kernel_rfl) ?_
  have hrow4 := Lib.hid (setRow_heap _ w.heap.size _ zeroL.toArray _ _ HZ4.out)
  have hbe := below_setRow hb5 hB zeroL.toArray
  go_wp2
  exact bodyPost_ret (v := .tuple #[zeroC, .int .i64 e1, .int .i64 0]) (results_parse _ _ w.heap.size zeroL.toArray _ _ rfl rfl rfl hrow4.out (by kernel_rfl)) rfl ⟨HP.out _ _ rfl, hbe⟩
set_option maxHeartbeats 2000000 in
set_option maxRecDepth 100000 in
theorem parse_good (s : ByteArray) (hs : s.size ≤ 16384) (B : Nat) (w : World) (hB : B ≤ w.heap.size) (hK : Kinds w) (p : PC) (h : readL s.data.toList = .inr p) (e1 : Int) (he1 : (chk p).1 = e1) (hne : e1 = 0) :
    Calls Tryd.prog 14 #[.string s] w fun e w' => ParsePost s.data.toList B e w' ∧ Below B w w' := by
  have HP : Hid (∀ e w', (∃ vg vr vp vn vs, e = .returned (.tuple #[cfgV p vg vr vp vn vs, .int .i64 0, .int .i64 0]) ∧ RowsP w' B p vg vr vp vn vs) → ParsePost s.data.toList B e w') := Lib.hid fun e w' he => by
    unfold ParsePost
    rw [if_neg (by have : s.data.toList.length = s.size := by simp
                   omega), h]
    simp only
    rw [he1, if_pos hne]; exact he
  generalize hPP : ParsePost s.data.toList B = PP at HP ⊢
  clear hPP
  have hal : Below w.heap.size w (w.alloc (.cells zeroL.toArray 36 (0, 0))) := (Below.refl _ _).alloc (Nat.le_refl _) _
  have hr := read_inr s hs p h _ (hK.below hal hK.lt)
  have HZ := Lib.hid (heap_alloc_new w (.cells zeroL.toArray 36 (0, 0)))
  have HAL := Lib.hid hal
  subst hne
  have HC := Lib.hid he1
  clear h hK hal he1
  obtain ⟨e2, he2⟩ : ∃ e2, (chk p).2 = e2 := ⟨_, rfl⟩
  have HC2 := Lib.hid he2
  clear he2
  go_enter Tryd.func14, Tryd.ntmps14
  go_upto_region 9 with (first | (go_at_call 21; refine hr.mono ?_; rintro e w2 ⟨ga, gc, ra, rc, pa, qc, na, nc, sa, sc, rfl, hrows, hat, hb2⟩; have hz2 := (hb2.block _ (by simp)).trans HZ.out; have hl2 : w.heap.size < w2.heap.size := (Array.getElem?_eq_some_iff.1 hz2).1; have hal2 : Below w2.heap.size w2 (w2.alloc (.cells #[.int .i64 p.cats, .slice ga p.gs.length gc, .slice ra p.rs.length rc, .slice pa p.ps.length qc, .slice na p.ns.length nc, .slice sa p.ss.length sc, .int .i64 p.gate, .int .i64 p.quota] 36 (0, 0))) := (Below.refl _ _).alloc (Nat.le_refl _) _; have HZ3 := Lib.hid ((hal2.block _ hl2).trans hz2); have HAT := Lib.hid ((hat.below hal2).more_at hal2.size); have hb3 := ((HAL.out.mono hB).trans (hb2.mono (by simp; omega))).trans (hal2.mono (by omega)); have hl3 : w.heap.size < (w2.alloc (.cells #[.int .i64 p.cats, .slice ga p.gs.length gc, .slice ra p.rs.length rc, .slice pa p.ps.length qc, .slice na p.ns.length nc, .slice sa p.ss.length sc, .int .i64 p.gate, .int .i64 p.quota] 36 (0, 0))).heap.size := (by simp; omega); have HRW := Lib.hid (hrows.below hal2); have HCF := Lib.hid (heap_alloc_new w2 (.cells #[.int .i64 p.cats, .slice ga p.gs.length gc, .slice ra p.rs.length rc, .slice pa p.ps.length qc, .slice na p.ns.length nc, .slice sa p.ss.length sc, .int .i64 p.gate, .int .i64 p.quota] 36 (0, 0))); have hcl : w2.heap.size < (w2.alloc (.cells #[.int .i64 p.cats, .slice ga p.gs.length gc, .slice ra p.rs.length rc, .slice pa p.ps.length qc, .slice na p.ns.length nc, .slice sa p.ss.length sc, .int .i64 p.gate, .int .i64 p.quota] 36 (0, 0))).heap.size := (by simp); clear hr hb2 hz2 hrows hat hal2) | (go_at_call 18; refine (Cf.check_any (p.cfg ga gc ra rc pa qc na nc sa sc) _ _ (Nat.le_refl _) HAT.out).mono ?_; rw [chk_at, HC.out, HC2.out]; rintro e w4 ⟨rfl, hb4⟩; have HZ4 := Lib.hid ((hb4.block _ hl3).trans HZ3.out); have hb5 := hb3.trans (hb4.mono (by omega)); have HRW4 := Lib.hid (HRW.out.below hb4); have HCF4 := Lib.hid ((hb4.block _ hcl).trans HCF.out); clear hb4 hb3))
  refine wp_region_lit ?_
  refine wpList_load_row rfl 36 _ rfl _ rfl 36 #[.int .i64 p.cats, .slice ga p.gs.length gc, .slice ra p.rs.length rc, .slice pa p.ps.length qc, .slice na p.ns.length nc, .slice sa p.ss.length sc, .int .i64 p.gate, .int .i64 p.quota] (0, 0) _ HCF4.out Tryd.underlying36 rfl (by kernel_rfl) ?_
  refine wpList_store_row rfl 36 (.tmp 2) (.tmp 31) rfl w.heap.size #[.int .i64 p.cats, .slice ga p.gs.length gc, .slice ra p.rs.length rc, .slice pa p.ps.length qc, .slice na p.ns.length nc, .slice sa p.ss.length sc, .int .i64 p.gate, .int .i64 p.quota] rfl rfl 36 _ HZ4.out (by kernel_rfl) rfl (by kernel_rfl) ?_
  have hrow4 := Lib.hid (setRow_heap _ w.heap.size _ #[.int .i64 p.cats, .slice ga p.gs.length gc, .slice ra p.rs.length rc, .slice pa p.ps.length qc, .slice na p.ns.length nc, .slice sa p.ss.length sc, .int .i64 p.gate, .int .i64 p.quota] _ _ HZ4.out)
  have hbe := below_setRow hb5 hB #[.int .i64 p.cats, .slice ga p.gs.length gc, .slice ra p.rs.length rc, .slice pa p.ps.length qc, .slice na p.ns.length nc, .slice sa p.ss.length sc, .int .i64 p.gate, .int .i64 p.quota]
  have hrw5 := Lib.hid ((HRW4.out.mono (B := B) (by simp; omega)).setRow (new := #[.int .i64 p.cats, .slice ga p.gs.length gc, .slice ra p.rs.length rc, .slice pa p.ps.length qc, .slice na p.ns.length nc, .slice sa p.ss.length sc, .int .i64 p.gate, .int .i64 p.quota]) HZ4.out)
  go_wp2
  exact bodyPost_ret (v := .tuple #[cfgV p (.slice ga p.gs.length gc) (.slice ra p.rs.length rc) (.slice pa p.ps.length qc) (.slice na p.ns.length nc) (.slice sa p.ss.length sc), .int .i64 0, .int .i64 0]) (results_parse _ _ w.heap.size _ _ _ rfl rfl rfl hrow4.out (by kernel_rfl)) rfl ⟨HP.out _ _ ⟨_, _, _, _, _, rfl, hrw5.out⟩, hbe⟩
theorem parse_any (s : ByteArray) (hm : s.size ≤ 140737488355328) (B : Nat) (w : World) (hB : B ≤ w.heap.size) (hK : Kinds w) :
    Calls Tryd.prog 14 #[.string s] w fun e w' => ParsePost s.data.toList B e w' ∧ Below B w w' := by
  by_cases hs : 16384 < s.size
  · exact parse_long s hs hm B w hB
  · cases h : readL s.data.toList with
    | inl n => exact parse_inl s (by omega) B w hB hK n h
    | inr p =>
      by_cases he : (chk p).1 = 0
      · exact parse_good s (by omega) B w hB hK p h _ rfl he
      · exact parse_bad s (by omega) B w hB hK p h _ rfl he
end Go.Proofs.YtikkfapgmbamlaaDoor.Pl
end
section
/- plan: awake, and the comparison of texts that the laws use. -/
namespace Go.Proofs.YtikkfapgmbamlaaDoor.Pl
open Go.RowKit Ut
set_option linter.unusedVariables false
set_option maxRecDepth 100000

theorem own_slice {k : Nat} {w : World} {B : Nat} {e : TypeId} {v : Value} {xs : List (List Int)} (h : OwnT k w B e v xs) : ∃ a cap, v = .slice a xs.length cap := by
  rcases h.1.2 with ⟨rfl, h0⟩ | ⟨g, cap, cur, rfl, _⟩
  · exact ⟨none, 0, by rw [h0]⟩
  · exact ⟨_, _, rfl⟩
def pAw : PC := ⟨1, [[1, 4, 0]], [], [], [], [[0, 5]], -1, 0⟩
theorem aw_ok : OkP pAw := by
  refine ⟨?_, ?_, ?_, ?_, ?_, ?_, ?_⟩
  all_goals simp [pAw, kf, OkVs, OkV]
theorem aw_chk : (chk pAw).1 = 0 := by decide +kernel
def awB : List UInt8 := [99, 97, 116, 115, 32, 49, 10, 103, 117, 101, 115, 116, 32, 97, 32, 52, 32, 48, 10, 115, 108, 111, 116, 32, 48, 32, 53, 10]
theorem aw_text : pAw.text = awB := by
  have d : ∀ n, n < 100 → Lib.decDigits n = dd n := dec_dd
  simp only [PC.text, PC.recs, pAw, List.map_nil, List.map_cons, List.nil_append, List.cons_append, if_true, List.append_nil, lineL, bodyL, tailL, kf, kw, wordL]
  simp [d, dd, awB]
  decide +kernel
theorem aw_read : readL awB = .inr pAw := by rw [← aw_text]; exact text_read aw_ok
theorem parse_aw (B : Nat) (w : World) (hB : B ≤ w.heap.size) (hK : Kinds w) :
    Calls Tryd.prog 14 #[.string (tb awB)] w fun e w' => ∃ ga gc ra rc pa qc na nc sa sc, e = .returned (.tuple #[.agg #[.int .i64 1, .slice ga 1 gc, .slice ra 0 rc, .slice pa 0 qc, .slice na 0 nc, .slice sa 1 sc, .int .i64 (-1), .int .i64 0], .int .i64 0, .int .i64 0]) ∧ Below B w w' := by
  refine (parse_any (tb awB) (by rw [tb_size]; decide) B w hB hK).mono fun e w' ⟨h1, h2⟩ => ?_
  unfold ParsePost at h1
  rw [tb_list, if_neg (by decide), aw_read] at h1
  simp only at h1
  rw [if_pos aw_chk] at h1
  obtain ⟨vg, vr, vp, vn, vs, he, hr⟩ := h1
  obtain ⟨ga, gc, rfl⟩ := own_slice hr.og
  obtain ⟨ra, rc, rfl⟩ := own_slice hr.or
  obtain ⟨pa, qc, rfl⟩ := own_slice hr.op
  obtain ⟨na, nc, rfl⟩ := own_slice hr.on
  obtain ⟨sa, sc, rfl⟩ := own_slice hr.os
  exact ⟨ga, gc, ra, rc, pa, qc, na, nc, sa, sc, he, h2⟩
theorem awake_any (B : Nat) (w : World) (hB : B ≤ w.heap.size) (hK : Kinds w) :
    Calls Tryd.prog 6 #[] w fun e w' => e = .returned (.bool true) ∧ Below B w w' := by
  have hp := parse_aw B w hB hK
  go_enter Tryd.func6, Tryd.ntmps6
  go_wp2_with (go_at_call 14; refine hp.mono ?_; rintro e w2 ⟨ga, gc, ra, rc, pa, qc, na, nc, sa, sc, rfl, hb2⟩; have hsz := hb2.size)
  go_ret
  exact ⟨rfl, hb2.alloc (Nat.le_trans hB hb2.size) _⟩
end Go.Proofs.YtikkfapgmbamlaaDoor.Pl
end
section
/- The document's Lines and Split of layer 5. -/
namespace Go.Proofs.YtikkfapgmbamlaaDoor.Pl
open Go.RowKit Ut
set_option linter.unusedVariables false

theorem info_u8' : (Tryd.prog.info? 5).map (fun i => (i.zero, i.size, i.bytes)) = some (some (.int .u8 0), 1, 1) := by kernel_rfl
theorem cutL_more (c : UInt8) (a d : List UInt8) : ∃ t, (cutL c (a ++ d)).1 = (cutL c a).1 ++ t := by
  refine snoc_ind (P := fun d => ∃ t, (cutL c (a ++ d)).1 = (cutL c a).1 ++ t) ⟨[], by simp⟩ (fun d b ih => ?_) d
  obtain ⟨t, ht⟩ := ih
  rw [← List.append_assoc, cutL_snoc]
  unfold cutS
  split
  · exact ⟨t ++ [(cutL c (a ++ d)).2], by simp [ht]⟩
  · exact ⟨t, ht⟩
/-- the bytes as numbers -/
def bz (l : List UInt8) : List Int := l.map fun b => (b.toNat : Int)
theorem bz_len (l : List UInt8) : (bz l).length = l.length := by simp [bz]
theorem str_bz (l : List UInt8) : strOfNums (bz l) = tb l := by
  unfold strOfNums tb bz
  congr 2
  induction l with
  | nil => rfl
  | cons b r ih => simp [ih]
/-- what both loops know at place k -/
structure RefAt (c : UInt8) (s : ByteArray) (k : Nat) (ps : List (List UInt8)) (cur : List UInt8) : Prop where
  cut : cutL c (s.data.toList.take k) = (ps, cur)
  len : ps.length + cur.length ≤ k
theorem RefAt.start (c : UInt8) (s : ByteArray) : RefAt c s 0 [] [] := ⟨by simp [cutL], by simp⟩
theorem RefAt.put {c : UInt8} {s : ByteArray} {k : Nat} {ps : List (List UInt8)} {cur : List UInt8} (h : RefAt c s k ps cur) (hk : k < s.size) (hb : ¬ s[k]'hk = c) : RefAt c s (k + 1) ps (cur ++ [s[k]'hk]) := by
  refine ⟨?_, by have := h.len; simp; omega⟩
  have e : s.data.toList.take (k + 1) = s.data.toList.take k ++ [s[k]'hk] := by
    rw [List.take_add_one, List.getElem?_eq_getElem (by simpa using hk)]
    rfl
  rw [e, cutL_snoc, h.cut]
  simp [cutS, hb]
theorem RefAt.hit {c : UInt8} {s : ByteArray} {k : Nat} {ps : List (List UInt8)} {cur : List UInt8} (h : RefAt c s k ps cur) (hk : k < s.size) (hb : s[k]'hk = c) : RefAt c s (k + 1) (ps ++ [cur]) [] := by
  refine ⟨?_, by have := h.len; simp; omega⟩
  have e : s.data.toList.take (k + 1) = s.data.toList.take k ++ [s[k]'hk] := by
    rw [List.take_add_one, List.getElem?_eq_getElem (by simpa using hk)]
    rfl
  rw [e, cutL_snoc, h.cut]
  simp [cutS, hb]
theorem RefAt.done {c : UInt8} {s : ByteArray} {k : Nat} {ps : List (List UInt8)} {cur : List UInt8} (h : RefAt c s k ps cur) (hk : k = s.size) : cutL c s.data.toList = (ps, cur) := by
  have := h.cut
  rwa [List.take_of_length_le (by simp [hk])] at this

set_option maxHeartbeats 1000000 in
set_option maxRecDepth 100000 in
theorem refLines_any (s : ByteArray) (hs : s.size ≤ 1099511627776) (B : Nat) (w : World) (hB : B ≤ w.heap.size) :
    Calls Tryd.prog 13 #[.string s] w fun e w' => ∃ v, e = .returned (.tuple #[v, .bool (linesL s.data.toList).isSome]) ∧ OwnS w' B 9 v ((linesL s.data.toList).getD []).length ((linesL s.data.toList).getD []) ∧ ((linesL s.data.toList).getD []).length ≤ s.size ∧ Below B w w' := by
  obtain ⟨i0, hi, hz0, hz1, hz2⟩ := info_parts info_str
  obtain ⟨j0, hj, hy0, hy1, hy2⟩ := info_parts info_u8'
  obtain ⟨o, ho⟩ : ∃ o, linesL s.data.toList = o := ⟨_, rfl⟩
  rw [ho]
  have HO := Lib.hid ho
  clear ho
  obtain ⟨ws, hws⟩ : ∃ ws, o.getD [] = ws := ⟨_, rfl⟩
  obtain ⟨b, hb⟩ : ∃ b, o.isSome = b := ⟨_, rfl⟩
  rw [hws, hb]
  have HW := Lib.hid hws
  have HB := Lib.hid hb
  clear hws hb
  go_enter Tryd.func13, Tryd.ntmps13
  go_wp2
  go_loopw [4, 5, 6] (fun v u i wr => ∃ (k : Nat) (ps : List (List UInt8)) (cur : List UInt8), k ≤ s.size ∧ i = .int .i64 k ∧ RefAt 10 s k ps cur ∧ OwnS wr B 9 v ps.length ps ∧ OwnI .u8 wr B 5 u cur.length (bz cur) ∧ Below B w wr) (fun _ _ i _ => s.size - (intOf i).toNat)
  case atStart => exact ⟨0, [], [], Nat.zero_le _, rfl, RefAt.start _ _, OwnS.nil _ _ _, OwnI.nil _ _ _ _, Below.refl _ _⟩
  case round =>
    obtain ⟨k, ps, cur, hk, rfl, hat, hown, hcur, hbel⟩ := hrel
    have hbs := Nat.le_trans hB hbel.size
    have HAT := Lib.hid hat
    have hlen := hat.len
    by_cases hlt : k < s.size
    · by_cases he : (((s[k]'hlt).toNat : Nat) : Int) = 10
      · have HN := Lib.hid (hat.hit hlt (UInt8.toNat_inj.1 (by simp; omega)))
        obtain ⟨a, cap, rfl, hcap, hcm, hrow⟩ := OwnI.row hcur
        have hcv : ∀ W, Below wr.heap.size wr W → (convert 51 9 (.slice a cur.length cap)).run Tryd.prog W = .ok (.string (tb cur)) W := fun W hW => by
          rw [← str_bz]
          exact run_convert_row Tryd.underlying51 Tryd.underlying5 Tryd.underlying9 (hrow.below hW)
        have hc0 := hcv wr (Below.refl _ _)
        clear hcv hrow hat hcur
        go_wp2_with (at_builtin; refine wpList_append_own _ rfl _ _ 23 rfl B 9 i0 (.string ⟨#[]⟩) 1 16 Tryd.underlying23 hi hz0 hz1 hz2 rfl (by decide) _ _ _ rfl (World.ownsRow.alloc hown _) ⟨wr.heap.size, 0, none⟩ 1 1 [.string (tb cur)] rfl rfl ?c1 ?c2 ?c3 ?c4 ?c5 ?_)
        case c1 => exact cell_one_new _ _ _
        case c2 => intro u hu; simp at hu; subst hu; rfl
        case c3 => unfold maxLen; omega
        case c4 => omega
        case c5 => simp; omega
        · intro v' w1 hown' hgrow _
          have hb1 : Below B w w1 := (hbel.alloc hbs _).grown hgrow (by simp; omega) (fun q hq => (World.ownsRow.lt hown q hq).1)
          have ho1 : OwnS w1 B 9 v' (ps ++ [cur]).length (ps ++ [cur]) := by
            unfold OwnS
            rw [List.map_append, List.length_append]
            simpa [encS] using hown'
          clear hown' hgrow hown hbel hc0
          go_wp2
          go_roundw
          case rel => exact ⟨k + 1, _, _, by omega, by go_num, HN.out, ho1, OwnI.nil _ _ _ _, hb1⟩
          case measure => simp [intOf]; omega
      · have HN := Lib.hid (hat.put hlt (fun h => he (by rw [h]; rfl)))
        clear hat
        go_wp2_with (at_builtin; refine wpList_append_own _ rfl _ _ 51 rfl B 5 j0 (.int .u8 0) 1 1 Tryd.underlying51 hj hy0 hy1 hy2 rfl (by decide) _ _ _ rfl (World.ownsRow.alloc hcur _) ⟨wr.heap.size, 0, none⟩ 1 1 [.int .u8 ((s[k]'hlt).toNat : Nat)] rfl rfl ?c1 ?c2 ?c3 ?c4 ?c5 ?_)
        case c1 => exact cell_one_new _ _ _
        case c2 => intro u hu; simp at hu; subst hu; rfl
        case c3 => unfold maxLen; omega
        case c4 => omega
        case c5 => simp; omega
        · intro v' w1 hown' hgrow _
          have hb1 : Below B w w1 := (hbel.alloc hbs _).grown hgrow (by simp; omega) (fun q hq => (World.ownsRow.lt hcur q hq).1)
          have ho1 : OwnI .u8 w1 B 5 v' (cur ++ [s[k]'hlt]).length (bz (cur ++ [s[k]'hlt])) := by
            unfold OwnI bz
            rw [List.map_append, List.map_append, List.length_append]
            simpa [bz] using hown'
          have ho2 : OwnS w1 B 9 _ ps.length ps := ownsRow_other (World.ownsRow.alloc hown _) hgrow (fun q cs e' f h1 h2 => by have := own_tag (World.ownsRow.alloc hcur _) q cs e' f h1 h2; rw [this]; decide)
          clear hown' hgrow hown hcur hbel
          go_wp2
          go_roundw
          case rel => exact ⟨k + 1, _, _, by omega, by go_num, HN.out, ho2, ho1, hb1⟩
          case measure => simp [intOf]; omega
    · have HD := Lib.hid (hat.done (by omega))
      have hcl : (cur = [] ↔ cur.length = 0) := List.length_eq_zero_iff.symm
      obtain ⟨a, cap, rfl, hcap, hcm, hrow⟩ := OwnI.row hcur
      clear hrow hat
      by_cases h0 : cur.length = 0
      · have h00 := hcl.2 h0
        have HC := Lib.hid h00
        have e : linesL s.data.toList = some ps := by unfold linesL; rw [HD.out]; simp [h00]
        have eo := HO.out.symm.trans e
        have e1 : ws = ps := by rw [← HW.out, eo]; rfl
        have e2 : b = true := by rw [← HB.out, eo]; rfl
        subst e2
        clear hcl h00 hcur eo e
        have hpl : ps.length ≤ s.size := by omega
        have HE := Lib.hid e1
        clear e1
        go_wp2
        go_ret2
        rw [HE.out]
        exact ⟨_, rfl, hown, hpl, hbel⟩
      · have h00 : ¬ cur = [] := fun h => h0 (hcl.1 h)
        have e : linesL s.data.toList = none := by unfold linesL; rw [HD.out]; simp [h00]
        have eo := HO.out.symm.trans e
        have e1 : ws = [] := by rw [← HW.out, eo]; rfl
        have e2 : b = false := by rw [← HB.out, eo]; rfl
        subst e1
        subst e2
        clear hcl h00 hcur eo e
        go_wp2
        go_ret2
        exact ⟨_, rfl, OwnS.nil _ _ _, Nat.zero_le _, hbel⟩
end Go.Proofs.YtikkfapgmbamlaaDoor.Pl
end
