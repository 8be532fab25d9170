/- Several texts in one: Ck Eo -/
import Derived.Test.YtikkfapgmbamlaaGreatDoorZ25
import Derived.WalkMore
import Derived.Laws.EntriesVeiled
import Derived.Test.YtikkfapgmbamlaaGreatDoorZ13
import Derived.Test.YtikkfapgmbamlaaGreatDoorZ14
import Derived.Deep.Cut
import Derived.Deep.DeepCutAuto
import Derived.Deep.CutBlock
section
/- The walk of config.Check. -/
namespace Go.Proofs.YtikkfapgmbamlaaGreatDoor.Cf
open Go.RowKit Ut
set_option maxRecDepth 100000
set_option linter.unusedVariables false

theorem cells3 {W : World} {b : Nat} {x y z : Value} {t : TypeId} {f : Nat × Nat} (h : W.heap[b]? = some (.cells #[x, y, z] t f)) : W.cell? ⟨b, 0, none⟩ = some x ∧ W.cell? ⟨b, 1, none⟩ = some y ∧ W.cell? ⟨b, 2, none⟩ = some z := by
  refine ⟨?_, ?_, ?_⟩ <;> simp [World.cell?, h]
theorem more_false {p : Nat → Bool} {k : Nat} (h : ∀ j, j < k → p j = false) (hk : p k = false) : ∀ j, j < k + 1 → p j = false := fun j hj => by
  by_cases e : j = k
  · rw [e]; exact hk
  · exact h j (by omega)

set_option maxRecDepth 100000 in
set_option maxHeartbeats 2000000 in
theorem check_any (c : Cfg) (B : Nat) (w : World) (hB : B ≤ w.heap.size) (hc : c.At w B) :
    Calls Tryz.prog 7 #[c.v] w fun e w' => e = .returned (.tuple #[.int .i64 (check c).1, .int .i64 (check c).2]) ∧ Below w.heap.size w w' := by
  have hcn : ∀ j, cntR c j ≤ 140737488355328 := cntR_bd hc
  have HCN := Lib.hid hcn
  have HC := Lib.hid hc
  have hb0 : ∀ o : Obj, Below w.heap.size w (w.alloc o) := fun o => (Below.refl _ _).alloc (Nat.le_refl _) _
  have HB0 := Lib.hid hb0
  obtain ⟨PQ, hPQ⟩ : ∃ PQ : Int × Int → World → Prop, PQ = fun q w' => Below w.heap.size w w' ∧ q = check c := ⟨_, rfl⟩
  have HPQ : Hid (∀ q w', Below w.heap.size w w' → check c = q → PQ q w') := Lib.hid fun q w' h1 h2 => by rw [hPQ]; exact ⟨h1, h2.symm⟩
  suffices hh : Calls Tryz.prog 7 #[c.v] w fun e w' => ∃ q : Int × Int, e = .returned (.tuple #[.int .i64 q.1, .int .i64 q.2]) ∧ PQ q w' from hh.mono fun e w' ⟨q, h1, h2⟩ => by
    rw [hPQ] at h2
    obtain ⟨h2, rfl⟩ := h2
    exact ⟨h1, h2⟩
  obtain ⟨PE, hPE⟩ : ∃ PE : Ending → World → Prop, PE = fun e w' => ∃ q : Int × Int, e = .returned (.tuple #[.int .i64 q.1, .int .i64 q.2]) ∧ PQ q w' := ⟨_, rfl⟩
  have HPE : Hid (∀ (a b : Int) w', PQ (a, b) w' → PE (.returned (.tuple #[.int .i64 a, .int .i64 b])) w') := Lib.hid fun a b w' h => by rw [hPE]; exact ⟨(a, b), rfl, h⟩
  rw [← hPE]
  clear hc hcn hb0 hPQ hPE
  go_enter Tryz.func7, Tryz.ntmps7
  go_wp2
  go_step3
  go_wp2
  go_step3
  go_wp2_with fail
  refine (rules_any c _).mono ?_
  rintro e W1 hp
  obtain ⟨g, bc, bs, bt, rfl, hR, hx, hs, hT, o1, o2, o3, o4, n1, n2, n3, hb⟩ := hp.all
  clear hp
  have hb1 : Below w.heap.size w W1 := (HB0.out _).trans (hb.mono (by simp))
  have hbt : w.heap.size ≤ bt := by simp at o3; omega
  have HR := Lib.hid hR
  have HX := Lib.hid hx
  have HS := Lib.hid hs
  have h0 : CkAt c bt W1 W1 0 0 := ⟨World.grownBy.refl _ _, hT⟩
  have H0 := Lib.hid h0
  clear hR hx hs hT h0 hb o1 o2 o3 o4
  go_wp2
  go_loopw [4, 5, 12] (fun e p i wr => ∃ j : Nat, j ≤ 13 ∧ e = .int .i64 0 ∧ p = .int .i64 0 ∧ i = .int .i64 j ∧ Hid (Passed c j) ∧ Hid (CkAt c bt W1 wr j 0)) (fun _ _ i _ => 13 - (intOf i).toNat)
  case atStart => exact ⟨0, by omega, rfl, rfl, rfl, fun j' h => absurd h (by omega), H0.out⟩
  case round =>
    obtain ⟨j, hj, rfl, rfl, rfl, HP, HI⟩ := hrel
    by_cases hlt : j < 13
    · obtain ⟨c0, c1, c2⟩ := rules_cells (HR.out.kept HI.out.grown n3) j hlt
      obtain ⟨fn, hfn⟩ : ∃ fn, fn = fnR j := ⟨_, rfl⟩
      obtain ⟨cap, hcap⟩ : ∃ cap, cap = capR bc bs j := ⟨_, rfl⟩
      obtain ⟨cnt, hcnt⟩ : ∃ cnt, cnt = cntR c j := ⟨_, rfl⟩
      obtain ⟨er, her⟩ : ∃ er, er = errR j := ⟨_, rfl⟩
      have hcb : cnt ≤ 140737488355328 := by rw [hcnt]; exact HCN.out j
      have hen : ∀ (args : Array Value) (w : World), (callFunc fn args).run Tryz.prog w = .ok (.enter fn args) w := by rw [hfn]; exact fnR_enters j
      have HA : Hid (∀ (i : Nat) W, i < cnt → CkAt c bt W1 W j i → Calls Tryz.prog fn (#[.int .i64 i] ++ cap) W fun e W' => e = .returned (.bool (wrR c j i)) ∧ Hid (W.grownBy W' (some bt)) ∧ Hid (wrR c j i = false → CkAt c bt W1 W' j (i + 1))) := Lib.hid fun i W hi hI => by
        rw [hfn, hcap]
        rw [hcnt] at hi
        exact ask_any (B := w.heap.size) hb1.size ((HC.out.more_at hB).below hb1) HX.out HS.out n1 n2 hbt hI hlt hi HP.out
      have HCnt := Lib.hid hcnt
      have HEr := Lib.hid her
      rw [← hfn, ← hcap] at c2
      rw [← hcnt] at c1
      rw [← her] at c0
      clear hfn hcap hcnt her
      have b0 : (0 : Int) ≤ (j : Int) := by omega
      have b1 : (j : Int) < 13 := by omega
      have hbl : bt < wr.heap.size := by obtain ⟨q, hq⟩ := HI.out.tab.block; exact (Array.getElem?_eq_some_iff.1 hq).1
      go_wp2
      go_loopw [4, 5, 18] (fun e p q W => ∃ i : Nat, i ≤ cnt ∧ e = .int .i64 0 ∧ p = .int .i64 0 ∧ q = .int .i64 i ∧ Hid (∀ i', i' < i → wrR c j i' = false) ∧ Hid (CkAt c bt W1 W j i) ∧ Hid (W.heap[wr.heap.size]? = some (.cells #[.int .i64 er, .int .i64 cnt, .func (.func fn) #[] cap] 72 (0, 0)))) (fun _ _ q _ => cnt - (intOf q).toNat)
      case atStart => exact ⟨0, Nat.zero_le _, rfl, rfl, rfl, fun i' h => absurd h (by omega), Lib.hid (HI.out.below ((Below.refl _ _).alloc (Nat.le_refl _) _)), Lib.hid (by rw [heap_alloc_new])⟩
      case round =>
        obtain ⟨i, hi, rfl, rfl, rfl, hno, HJ, HRb⟩ := hrel
        by_cases hli : i < cnt
        · obtain ⟨d0, d1, d2⟩ := cells3 HRb.out
          have HK := Lib.hid (HA.out i wr hli HJ.out)
          have i0 : (0 : Int) ≤ (i : Int) := by omega
          have i1 : (i : Int) < (cnt : Int) := by omega
          obtain ⟨b, hbw⟩ : ∃ b, b = wrR c j i := ⟨_, rfl⟩
          rw [← hbw] at HK
          have HBw := Lib.hid hbw
          clear hbw
          cases b
          · go_wp2_with fail
            refine HK.out.mono ?_
            rintro e W3 ⟨rfl, hg3, hI3⟩
            have HRb3 : Hid (W3.heap[_]? = _) := Lib.hid ((hg3.out.block _ (Array.getElem?_eq_some_iff.1 HRb.out).1 (fun e => by injection e with e; omega)).trans HRb.out)
            clear d0 d1 d2
            go_wp2
            go_roundw
            case rel => exact ⟨i + 1, by omega, rfl, rfl, by go_num, Lib.hid (more_false hno.out HBw.out.symm), Lib.hid (by first | exact hI3.out rfl | exact hI3.out trivial | exact hI3.out), HRb3⟩
            case measure => simp [intOf]; omega
          · go_wp2_with fail
            refine HK.out.mono ?_
            rintro e W3 ⟨rfl, hg3, hI3⟩
            obtain ⟨d0, d1, d2⟩ := cells3 ((hg3.out.block _ (Array.getElem?_eq_some_iff.1 HRb.out).1 (fun e => by injection e with e; omega)).trans HRb.out)
            have hck := HPE.out er (i : Int) W3 (HPQ.out (er, (i : Int)) W3 (hb1.grown (Pt.grownBy_trans HJ.out.grown hg3.out) hb1.size (fun q e => by injection e with e; omega)) (by rw [HEr.out]; exact check_at hlt HP.out (by rw [← HCnt.out]; exact hli) HBw.out.symm hno.out))
            have HCk := Lib.hid hck
            clear hck
            go_wp2
            exact HCk.out
        · have hic : i = cnt := by omega
          subst hic
          have i1 : ¬ (i : Int) < (i : Int) := by omega
          go_wp2
          go_roundw
          case rel => exact ⟨j + 1, by omega, rfl, rfl, by go_num, Lib.hid (HP.out.next (by rw [← HCnt.out]; exact hno.out)), Lib.hid (CkAt.next (by rw [← HCnt.out]; exact HJ.out))⟩
          case measure => simp [intOf]; omega
    · have hj13 : j = 13 := by omega
      subst hj13
      have hck := HPE.out 0 0 wr (HPQ.out (0, 0) wr (hb1.grown HI.out.grown hb1.size (fun q e => by injection e with e; omega)) (check_ok HP.out))
      have HCk := Lib.hid hck
      clear hck
      go_wp2
      exact HCk.out
end Go.Proofs.YtikkfapgmbamlaaGreatDoor.Cf
end
section
/- plan: Parse. -/
namespace Go.Proofs.YtikkfapgmbamlaaGreatDoor.Pl
open Go.RowKit Ut
set_option linter.unusedVariables false

/-- a plain configuration, as it lies in memory -/
def PC.cfg (p : PC) (ga : Option Addr) (gc : Nat) (ra : Option Addr) (rc : Nat) (pa : Option Addr) (qc : Nat) (na : Option Addr) (nc : Nat) (sa : Option Addr) (sc : Nat) : Cf.Cfg :=
  { cats := p.cats, ga := ga, gn := p.gs.length, gc := gc, ra := ra, rn := p.rs.length, rc := rc, pa := pa, pn := p.ps.length, pc := qc, na := na, nn := p.ns.length, nc := nc, sa := sa, sn := p.ss.length, sc := sc, gate := p.gate, quota := p.quota,
    G := fun i j => (p.gs.getD i []).getD j 0, R := fun i j => (p.rs.getD i []).getD j 0, P := fun i j => (p.ps.getD i []).getD j 0, N := fun i j => (p.ns.getD i []).getD j 0, S := fun i j => (p.ss.getD i []).getD j 0 }
/-- what config.Check says of it -/
def chk (p : PC) : Int × Int := Cf.check (p.cfg none 0 none 0 none 0 none 0 none 0)
theorem secs_at (p : PC) (ga : Option Addr) (gc : Nat) (ra : Option Addr) (rc : Nat) (pa : Option Addr) (qc : Nat) (na : Option Addr) (nc : Nat) (sa : Option Addr) (sc : Nat) : ∀ k, Cf.secs (p.cfg ga gc ra rc pa qc na nc sa sc) k = Cf.secs (p.cfg none 0 none 0 none 0 none 0 none 0) k
  | 0 => rfl
  | k + 1 => by
    unfold Cf.secs
    rw [secs_at p ga gc ra rc pa qc na nc sa sc k]
    rfl
theorem wrR_at (p : PC) (ga : Option Addr) (gc : Nat) (ra : Option Addr) (rc : Nat) (pa : Option Addr) (qc : Nat) (na : Option Addr) (nc : Nat) (sa : Option Addr) (sc : Nat) (j i : Nat) : Cf.wrR (p.cfg ga gc ra rc pa qc na nc sa sc) j i = Cf.wrR (p.cfg none 0 none 0 none 0 none 0 none 0) j i := by
  unfold Cf.wrR
  split
  all_goals first
    | rfl
    | (unfold Cf.wrongR; rw [secs_at]; rfl)
theorem chk_at (p : PC) (ga : Option Addr) (gc : Nat) (ra : Option Addr) (rc : Nat) (pa : Option Addr) (qc : Nat) (na : Option Addr) (nc : Nat) (sa : Option Addr) (sc : Nat) : Cf.check (p.cfg ga gc ra rc pa qc na nc sa sc) = chk p := by
  have h1 : Cf.cntR (p.cfg ga gc ra rc pa qc na nc sa sc) = Cf.cntR (p.cfg none 0 none 0 none 0 none 0 none 0) := by
    funext j
    unfold Cf.cntR
    split <;> rfl
  have h2 : Cf.wrR (p.cfg ga gc ra rc pa qc na nc sa sc) = Cf.wrR (p.cfg none 0 none 0 none 0 none 0 none 0) := by
    funext j i
    exact wrR_at p ga gc ra rc pa qc na nc sa sc j i
  unfold chk Cf.check
  rw [h1, h2]
theorem cfg_at {w : World} {B : Nat} {p : PC} {vg vr vp vn vs : Value} (h : RowsP w B p vg vr vp vn vs) (hin : PIn p) (hsz : p.gs.length + p.rs.length + p.ps.length + p.ns.length + p.ss.length ≤ 140737488355328) :
    ∃ ga gc ra rc pa qc na nc sa sc, vg = .slice ga p.gs.length gc ∧ vr = .slice ra p.rs.length rc ∧ vp = .slice pa p.ps.length qc ∧ vn = .slice na p.ns.length nc ∧ vs = .slice sa p.ss.length sc ∧ (p.cfg ga gc ra rc pa qc na nc sa sc).At w w.heap.size := by
  obtain ⟨ga, gc, e1, l1, r1⟩ := ownT_row h.og hin.gs
  obtain ⟨ra, rc, e2, l2, r2⟩ := ownT_row h.or hin.rs
  obtain ⟨pa, qc, e3, l3, r3⟩ := ownT_row h.op hin.ps
  obtain ⟨na, nc, e4, l4, r4⟩ := ownT_row h.on hin.ns
  obtain ⟨sa, sc, e5, l5, r5⟩ := ownT_row h.os hin.ss
  exact ⟨ga, gc, ra, rc, pa, qc, na, nc, sa, sc, e1, e2, e3, e4, e5, r1, r2, r3, r4, r5, ⟨l1, by show p.gs.length ≤ _; omega⟩, ⟨l2, by show p.rs.length ≤ _; omega⟩, ⟨l3, by show p.ps.length ≤ _; omega⟩, ⟨l4, by show p.ns.length ≤ _; omega⟩, ⟨l5, by show p.ss.length ≤ _; omega⟩, hin.cats, hin.gate, hin.quota⟩
theorem results_parse (tmps : Array Value) (w : World) (g : Nat) (cs : Array Value) (x y : Value) (h2 : tmps.getD 2 undef = .pointer (some ⟨g, 0, none⟩)) (h3 : tmps.getD 3 undef = x) (h4 : tmps.getD 4 undef = y) (hg : w.heap[g]? = some (.cells cs 28 (0, 0))) (hn : (Tryz.prog.info? 28).map (·.size) = some cs.size) :
    (results Tryz.f12 tmps).run Tryz.prog w = .ok (.tuple #[.agg cs, x, y]) w := by
  have hp' : tmps[2]?.getD undef = .pointer (some ⟨g, 0, none⟩) := by simpa using h2
  have hp3 : tmps[3]?.getD undef = x := by simpa using h3
  have hp4 : tmps[4]?.getD undef = y := by simpa using h4
  simp [results, Tryz.results12, hp', hp3, hp4, asAddr, run_loadVar_row w g 28 28 cs (0, 0) _ hg Tryz.underlying28 rfl hn]
/-- what Parse answers -/
def ParsePost (l : List UInt8) (B : Nat) (e : Ending) (w' : World) : Prop :=
  if 16384 < l.length then e = .returned (.tuple #[zeroC, .int .i64 10, .int .i64 0])
  else match readL l with
    | .inl n => e = .returned (.tuple #[zeroC, .int .i64 6, .int .i64 n])
    | .inr p => if (chk p).1 = 0 then ∃ vg vr vp vn vs, e = .returned (.tuple #[cfgV p vg vr vp vn vs, .int .i64 0, .int .i64 0]) ∧ RowsP w' B p vg vr vp vn vs
      else e = .returned (.tuple #[zeroC, .int .i64 (chk p).1, .int .i64 0])
set_option maxHeartbeats 1000000 in
set_option maxRecDepth 100000 in
theorem parse_long (s : ByteArray) (hs : 16384 < s.size) (hm : s.size ≤ 140737488355328) (B : Nat) (w : World) (hB : B ≤ w.heap.size) :
    Calls Tryz.prog 12 #[.string s] w fun e w' => ParsePost s.data.toList B e w' ∧ Below B w w' := by
  have HP : Hid (∀ e w', e = .returned (.tuple #[zeroC, .int .i64 10, .int .i64 0]) → ParsePost s.data.toList B e w') := Lib.hid fun e w' h => by
    unfold ParsePost
    rw [if_pos (by simpa using hs)]; exact h
  generalize ParsePost s.data.toList B = PP at HP ⊢
  go_enter Tryz.func12, Tryz.ntmps12
  go_wp2
  have hrow := heap_alloc_new w (.cells zeroL.toArray 28 (0, 0))
  exact bodyPost_ret (v := .tuple #[zeroC, .int .i64 10, .int .i64 0]) (results_parse _ _ w.heap.size zeroL.toArray _ _ rfl rfl rfl hrow (by kernel_rfl)) rfl ⟨HP.out _ _ rfl, (Below.refl B w).alloc hB _⟩
theorem ownT_mono {k : Nat} {w : World} {B B' : Nat} {e : TypeId} {v : Value} {xs : List (List Int)} (h : OwnT k w B' e v xs) (hB : B ≤ B') : OwnT k w B e v xs := by
  refine ⟨⟨h.1.1, ?_⟩, h.2⟩
  rcases h.1.2 with h0 | ⟨g, cap, cur, hv, hb, r⟩
  · exact .inl h0
  · exact .inr ⟨g, cap, cur, hv, Nat.le_trans hB hb, r⟩
theorem RowsP.mono {w : World} {B B' : Nat} {p : PC} {vg vr vp vn vs : Value} (h : RowsP w B' p vg vr vp vn vs) (hB : B ≤ B') : RowsP w B p vg vr vp vn vs := ⟨ownT_mono h.og hB, ownT_mono h.or hB, ownT_mono h.op hB, ownT_mono h.on hB, ownT_mono h.os hB⟩
theorem read_inl (s : ByteArray) (hs : s.size ≤ 16384) (n : Nat) (h : readL s.data.toList = .inl n) (w : World) (hK : Kinds w) :
    Calls Tryz.prog 20 #[.string s] w fun e w' => e = .returned (.tuple #[zeroC, .int .i64 n]) ∧ Below w.heap.size w w' := by
  have := read_any s hs w.heap.size w (Nat.le_refl _) hK.lt hK
  rw [h] at this
  exact this
theorem read_inr (s : ByteArray) (hs : s.size ≤ 16384) (p : PC) (h : readL s.data.toList = .inr p) (w : World) (hK : Kinds w) :
    Calls Tryz.prog 20 #[.string s] w fun e w' => ∃ ga gc ra rc pa qc na nc sa sc, e = .returned (.tuple #[cfgV p (.slice ga p.gs.length gc) (.slice ra p.rs.length rc) (.slice pa p.ps.length qc) (.slice na p.ns.length nc) (.slice sa p.ss.length sc), .int .i64 0]) ∧ RowsP w' w.heap.size p (.slice ga p.gs.length gc) (.slice ra p.rs.length rc) (.slice pa p.ps.length qc) (.slice na p.ns.length nc) (.slice sa p.ss.length sc) ∧ (p.cfg ga gc ra rc pa qc na nc sa sc).At w' w'.heap.size ∧ Below w.heap.size w w' := by
  refine (read_any s hs w.heap.size w (Nat.le_refl _) hK.lt hK).mono fun e w' ⟨h1, h2⟩ => ?_
  rw [h] at h1
  obtain ⟨vg, vr, vp, vn, vs, he, hr⟩ := h1
  have hsz := readL_size h
  have hl : s.data.toList.length = s.size := by simp
  obtain ⟨ga, gc, ra, rc, pa, qc, na, nc, sa, sc, rfl, rfl, rfl, rfl, rfl, hat⟩ := cfg_at hr (readL_in h) (by omega)
  exact ⟨ga, gc, ra, rc, pa, qc, na, nc, sa, sc, he, hr, hat, h2⟩
set_option maxHeartbeats 1000000 in
set_option maxRecDepth 100000 in
theorem parse_inl (s : ByteArray) (hs : s.size ≤ 16384) (B : Nat) (w : World) (hB : B ≤ w.heap.size) (hK : Kinds w) (n : Nat) (h : readL s.data.toList = .inl n) :
    Calls Tryz.prog 12 #[.string s] w fun e w' => ParsePost s.data.toList B e w' ∧ Below B w w' := by
  have HP : Hid (∀ e w', e = .returned (.tuple #[zeroC, .int .i64 6, .int .i64 n]) → ParsePost s.data.toList B e w') := Lib.hid fun e w' he => by
    unfold ParsePost
    rw [if_neg (by have : s.data.toList.length = s.size := by simp
                   omega), h]; exact he
  have hn1 := readL_pos h
  generalize hPP : ParsePost s.data.toList B = PP at HP ⊢
  clear hPP
  have hal : Below w.heap.size w (w.alloc (.cells zeroL.toArray 28 (0, 0))) := (Below.refl _ _).alloc (Nat.le_refl _) _
  have hr := read_inl s hs n h _ (hK.below hal hK.lt)
  have HZ := Lib.hid (heap_alloc_new w (.cells zeroL.toArray 28 (0, 0)))
  have HAL := Lib.hid hal
  clear h hK hal
  go_enter Tryz.func12, Tryz.ntmps12
  go_upto_region 5 with (go_at_call 20; refine hr.mono ?_; rintro e w2 ⟨rfl, hb2⟩; have hz2 := (hb2.block _ (by simp)).trans HZ.out; have hl2 : w.heap.size < w2.heap.size := (Array.getElem?_eq_some_iff.1 hz2).1; have HZ3 := Lib.hid ((Below.heap_alloc w2 (.cells zeroL.toArray 28 (0, 0)) _ hl2).trans hz2); have hb3 := ((HAL.out.mono hB).trans (hb2.mono (by simp; omega))).alloc (by omega) (.cells zeroL.toArray 28 (0, 0)); clear hr hb2 hz2)
  refine wp_region_lit ?_
  refine wpList_build rfl 28 #[] rfl (by kernel_rfl) ?_
  refine wpList_value rfl (.int .i64 n) (by kernel_rfl) ?_
  refine wpList_store_row rfl 28 (.tmp 2) (.tmp 20) rfl w.heap.size zeroL.toArray rfl (by kernel_rfl) 28 _ HZ3.out (by kernel_rfl) rfl (by kernel_rfl) ?_
  have hrow4 := Lib.hid (setRow_heap _ w.heap.size _ zeroL.toArray _ _ HZ3.out)
  have hbe := below_setRow hb3 hB zeroL.toArray
  go_wp2
  exact bodyPost_ret (v := .tuple #[zeroC, .int .i64 6, .int .i64 n]) (results_parse _ _ w.heap.size zeroL.toArray _ _ rfl rfl rfl hrow4.out (by kernel_rfl)) rfl ⟨HP.out _ _ rfl, hbe⟩
set_option maxHeartbeats 2000000 in
set_option maxRecDepth 100000 in
theorem parse_bad (s : ByteArray) (hs : s.size ≤ 16384) (B : Nat) (w : World) (hB : B ≤ w.heap.size) (hK : Kinds w) (p : PC) (h : readL s.data.toList = .inr p) (e1 : Int) (he1 : (chk p).1 = e1) (hne : ¬ e1 = 0) :
    Calls Tryz.prog 12 #[.string s] w fun e w' => ParsePost s.data.toList B e w' ∧ Below B w w' := by
  have HP : Hid (∀ e w', e = .returned (.tuple #[zeroC, .int .i64 e1, .int .i64 0]) → ParsePost s.data.toList B e w') := Lib.hid fun e w' he => by
    unfold ParsePost
    rw [if_neg (by have : s.data.toList.length = s.size := by simp
                   omega), h]
    simp only
    rw [he1, if_neg hne]; exact he
  generalize hPP : ParsePost s.data.toList B = PP at HP ⊢
  clear hPP
  have hal : Below w.heap.size w (w.alloc (.cells zeroL.toArray 28 (0, 0))) := (Below.refl _ _).alloc (Nat.le_refl _) _
  have hr := read_inr s hs p h _ (hK.below hal hK.lt)
  have HZ := Lib.hid (heap_alloc_new w (.cells zeroL.toArray 28 (0, 0)))
  have HAL := Lib.hid hal
  have HC := Lib.hid he1
  clear h hK hal he1
  obtain ⟨e2, he2⟩ : ∃ e2, (chk p).2 = e2 := ⟨_, rfl⟩
  have HC2 := Lib.hid he2
  clear he2
  go_enter Tryz.func12, Tryz.ntmps12
  go_upto_region 8 with (first | (go_at_call 20; refine hr.mono ?_; rintro e w2 ⟨ga, gc, ra, rc, pa, qc, na, nc, sa, sc, rfl, hrows, hat, hb2⟩; have hz2 := (hb2.block _ (by simp)).trans HZ.out; have hl2 : w.heap.size < w2.heap.size := (Array.getElem?_eq_some_iff.1 hz2).1; have hal2 : Below w2.heap.size w2 (w2.alloc (.cells #[.int .i64 p.cats, .slice ga p.gs.length gc, .slice ra p.rs.length rc, .slice pa p.ps.length qc, .slice na p.ns.length nc, .slice sa p.ss.length sc, .int .i64 p.gate, .int .i64 p.quota] 28 (0, 0))) := (Below.refl _ _).alloc (Nat.le_refl _) _; have HZ3 := Lib.hid ((hal2.block _ hl2).trans hz2); have HAT := Lib.hid ((hat.below hal2).more_at hal2.size); have hb3 := ((HAL.out.mono hB).trans (hb2.mono (by simp; omega))).trans (hal2.mono (by omega)); have hl3 : w.heap.size < (w2.alloc (.cells #[.int .i64 p.cats, .slice ga p.gs.length gc, .slice ra p.rs.length rc, .slice pa p.ps.length qc, .slice na p.ns.length nc, .slice sa p.ss.length sc, .int .i64 p.gate, .int .i64 p.quota] 28 (0, 0))).heap.size := (by simp; omega); clear hr hb2 hz2 hrows hat hal2) | (go_at_call 7; refine (Cf.check_any (p.cfg ga gc ra rc pa qc na nc sa sc) _ _ (Nat.le_refl _) HAT.out).mono ?_; rw [chk_at, HC.out, HC2.out]; rintro e w4 ⟨rfl, hb4⟩; have HZ4 := Lib.hid ((hb4.block _ hl3).trans HZ3.out); have hb5 := hb3.trans (hb4.mono (by omega)); clear hb4 hb3))
  refine wp_region_lit ?_
  refine wpList_build rfl 28 #[] rfl (by kernel_rfl) ?_
  refine wpList_value rfl (.int .i64 e1) (by kernel_rfl) ?_
  refine wpList_store_row rfl 28 (.tmp 2) (.tmp 29) rfl w.heap.size zeroL.toArray rfl (by kernel_rfl) 28 _ HZ4.out (by kernel_rfl) rfl (by kernel_rfl) ?_
  have hrow4 := Lib.hid (setRow_heap _ w.heap.size _ zeroL.toArray _ _ HZ4.out)
  have hbe := below_setRow hb5 hB zeroL.toArray
  go_wp2
  exact bodyPost_ret (v := .tuple #[zeroC, .int .i64 e1, .int .i64 0]) (results_parse _ _ w.heap.size zeroL.toArray _ _ rfl rfl rfl hrow4.out (by kernel_rfl)) rfl ⟨HP.out _ _ rfl, hbe⟩
set_option maxHeartbeats 2000000 in
set_option maxRecDepth 100000 in
theorem parse_good (s : ByteArray) (hs : s.size ≤ 16384) (B : Nat) (w : World) (hB : B ≤ w.heap.size) (hK : Kinds w) (p : PC) (h : readL s.data.toList = .inr p) (e1 : Int) (he1 : (chk p).1 = e1) (hne : e1 = 0) :
    Calls Tryz.prog 12 #[.string s] w fun e w' => ParsePost s.data.toList B e w' ∧ Below B w w' := by
  have HP : Hid (∀ e w', (∃ vg vr vp vn vs, e = .returned (.tuple #[cfgV p vg vr vp vn vs, .int .i64 0, .int .i64 0]) ∧ RowsP w' B p vg vr vp vn vs) → ParsePost s.data.toList B e w') := Lib.hid fun e w' he => by
    unfold ParsePost
    rw [if_neg (by have : s.data.toList.length = s.size := by simp
                   omega), h]
    simp only
    rw [he1, if_pos hne]; exact he
  generalize hPP : ParsePost s.data.toList B = PP at HP ⊢
  clear hPP
  have hal : Below w.heap.size w (w.alloc (.cells zeroL.toArray 28 (0, 0))) := (Below.refl _ _).alloc (Nat.le_refl _) _
  have hr := read_inr s hs p h _ (hK.below hal hK.lt)
  have HZ := Lib.hid (heap_alloc_new w (.cells zeroL.toArray 28 (0, 0)))
  have HAL := Lib.hid hal
  subst hne
  have HC := Lib.hid he1
  clear h hK hal he1
  obtain ⟨e2, he2⟩ : ∃ e2, (chk p).2 = e2 := ⟨_, rfl⟩
  have HC2 := Lib.hid he2
  clear he2
  go_enter Tryz.func12, Tryz.ntmps12
  go_upto_region 9 with (first | (go_at_call 20; refine hr.mono ?_; rintro e w2 ⟨ga, gc, ra, rc, pa, qc, na, nc, sa, sc, rfl, hrows, hat, hb2⟩; have hz2 := (hb2.block _ (by simp)).trans HZ.out; have hl2 : w.heap.size < w2.heap.size := (Array.getElem?_eq_some_iff.1 hz2).1; have hal2 : Below w2.heap.size w2 (w2.alloc (.cells #[.int .i64 p.cats, .slice ga p.gs.length gc, .slice ra p.rs.length rc, .slice pa p.ps.length qc, .slice na p.ns.length nc, .slice sa p.ss.length sc, .int .i64 p.gate, .int .i64 p.quota] 28 (0, 0))) := (Below.refl _ _).alloc (Nat.le_refl _) _; have HZ3 := Lib.hid ((hal2.block _ hl2).trans hz2); have HAT := Lib.hid ((hat.below hal2).more_at hal2.size); have hb3 := ((HAL.out.mono hB).trans (hb2.mono (by simp; omega))).trans (hal2.mono (by omega)); have hl3 : w.heap.size < (w2.alloc (.cells #[.int .i64 p.cats, .slice ga p.gs.length gc, .slice ra p.rs.length rc, .slice pa p.ps.length qc, .slice na p.ns.length nc, .slice sa p.ss.length sc, .int .i64 p.gate, .int .i64 p.quota] 28 (0, 0))).heap.size := (by simp; omega); have HRW := Lib.hid (hrows.below hal2); have HCF := Lib.hid (heap_alloc_new w2 (.cells #[.int .i64 p.cats, .slice ga p.gs.length gc, .slice ra p.rs.length rc, .slice pa p.ps.length qc, .slice na p.ns.length nc, .slice sa p.ss.length sc, .int .i64 p.gate, .int .i64 p.quota] 28 (0, 0))); have hcl : w2.heap.size < (w2.alloc (.cells #[.int .i64 p.cats, .slice ga p.gs.length gc, .slice ra p.rs.length rc, .slice pa p.ps.length qc, .slice na p.ns.length nc, .slice sa p.ss.length sc, .int .i64 p.gate, .int .i64 p.quota] 28 (0, 0))).heap.size := (by simp); clear hr hb2 hz2 hrows hat hal2) | (go_at_call 7; refine (Cf.check_any (p.cfg ga gc ra rc pa qc na nc sa sc) _ _ (Nat.le_refl _) HAT.out).mono ?_; rw [chk_at, HC.out, HC2.out]; rintro e w4 ⟨rfl, hb4⟩; have HZ4 := Lib.hid ((hb4.block _ hl3).trans HZ3.out); have hb5 := hb3.trans (hb4.mono (by omega)); have HRW4 := Lib.hid (HRW.out.below hb4); have HCF4 := Lib.hid ((hb4.block _ hcl).trans HCF.out); clear hb4 hb3))
  refine wp_region_lit ?_
  refine wpList_load_row rfl 28 _ rfl _ rfl 28 #[.int .i64 p.cats, .slice ga p.gs.length gc, .slice ra p.rs.length rc, .slice pa p.ps.length qc, .slice na p.ns.length nc, .slice sa p.ss.length sc, .int .i64 p.gate, .int .i64 p.quota] (0, 0) _ HCF4.out Tryz.underlying28 rfl (by kernel_rfl) ?_
  refine wpList_store_row rfl 28 (.tmp 2) (.tmp 31) rfl w.heap.size #[.int .i64 p.cats, .slice ga p.gs.length gc, .slice ra p.rs.length rc, .slice pa p.ps.length qc, .slice na p.ns.length nc, .slice sa p.ss.length sc, .int .i64 p.gate, .int .i64 p.quota] rfl rfl 28 _ HZ4.out (by kernel_rfl) rfl (by kernel_rfl) ?_
  have hrow4 := Lib.hid (setRow_heap _ w.heap.size _ #[.int .i64 p.cats, .slice ga p.gs.length gc, .slice ra p.rs.length rc, .slice pa p.ps.length qc, .slice na p.ns.length nc, .slice sa p.ss.length sc, .int .i64 p.gate, .int .i64 p.quota] _ _ HZ4.out)
  have hbe := below_setRow hb5 hB #[.int .i64 p.cats, .slice ga p.gs.length gc, .slice ra p.rs.length rc, .slice pa p.ps.length qc, .slice na p.ns.length nc, .slice sa p.ss.length sc, .int .i64 p.gate, .int .i64 p.quota]
  have hrw5 := Lib.hid ((HRW4.out.mono (B := B) (by simp; omega)).setRow (new := #[.int .i64 p.cats, .slice ga p.gs.length gc, .slice ra p.rs.length rc, .slice pa p.ps.length qc, .slice na p.ns.length nc, .slice sa p.ss.length sc, .int .i64 p.gate, .int .i64 p.quota]) HZ4.out)
  go_wp2
  exact bodyPost_ret (v := .tuple #[cfgV p (.slice ga p.gs.length gc) (.slice ra p.rs.length rc) (.slice pa p.ps.length qc) (.slice na p.ns.length nc) (.slice sa p.ss.length sc), .int .i64 0, .int .i64 0]) (results_parse _ _ w.heap.size _ _ _ rfl rfl rfl hrow4.out (by kernel_rfl)) rfl ⟨HP.out _ _ ⟨_, _, _, _, _, rfl, hrw5.out⟩, hbe⟩
theorem parse_any (s : ByteArray) (hm : s.size ≤ 140737488355328) (B : Nat) (w : World) (hB : B ≤ w.heap.size) (hK : Kinds w) :
    Calls Tryz.prog 12 #[.string s] w fun e w' => ParsePost s.data.toList B e w' ∧ Below B w w' := by
  by_cases hs : 16384 < s.size
  · exact parse_long s hs hm B w hB
  · cases h : readL s.data.toList with
    | inl n => exact parse_inl s (by omega) B w hB hK n h
    | inr p =>
      by_cases he : (chk p).1 = 0
      · exact parse_good s (by omega) B w hB hK p h _ rfl he
      · exact parse_bad s (by omega) B w hB hK p h _ rfl he
end Go.Proofs.YtikkfapgmbamlaaGreatDoor.Pl
end
