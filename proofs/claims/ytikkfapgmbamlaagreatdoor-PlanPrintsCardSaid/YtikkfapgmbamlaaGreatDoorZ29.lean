/- Several texts in one: Ge Gg Ev -/
import Derived.Test.YtikkfapgmbamlaaGreatDoorZ28
import Derived.Test.YtikkfapgmbamlaaGreatDoorZ26
section
/- plan: Print. -/
namespace Go.Proofs.YtikkfapgmbamlaaGreatDoor.Pl
open Go.RowKit Ut
set_option linter.unusedVariables false
set_option maxRecDepth 100000

theorem builder_below {T e : TypeId} {B b : Nat} {bs : List Value} {w w' : World} (h : Lib.IsBuilderF T e B b bs w) (hb : Below w.heap.size w w') : Lib.IsBuilderF T e B b bs w' := by
  have key : ∀ p, Lib.BuilderAtF T e B b p bs w → Lib.BuilderAtF T e B b p bs w' := fun p ⟨hB, v, hbk, hown, hne⟩ => by
    refine ⟨hB, v, (hb.block b (Array.getElem?_eq_some_iff.1 hbk).1).trans hbk, ⟨hown.1, ?_⟩, hne⟩
    rcases hown.2 with h0 | ⟨g, cap, cur, fz, hv, hg0, hg, r⟩
    · exact .inl h0
    · exact .inr ⟨g, cap, cur, fz, hv, hg0, (hb.block g (Array.getElem?_eq_some_iff.1 hg).1).trans hg, r⟩
  exact h.elim (fun x => .inl (key _ x)) (fun x => .inr (key _ x))
theorem builder_new (w : World) : Lib.IsBuilderF 41 5 w.heap.size w.heap.size (Lib.byteCells []) (w.alloc (.cells #[.pointer none, .slice none 0 0] 41 (0, 0))) :=
  .inl ⟨Nat.le_refl _, .slice none 0 0, heap_alloc_new _ _, World.ownsRowF_nil _ _ _ _, by simp [Value.ownBlock]⟩
theorem ownT_others {k : Nat} {w w' : World} {B b : Nat} {e : TypeId} {v : Value} {xs : List (List Int)} (h : OwnT k w B e v xs) (hk : Lib.OthersKept 5 (some b) w w') (he : e ≠ 5) (hb : ∀ cs f, w.heap[b]? ≠ some (.cells cs e f)) : OwnT k w' B e v xs := by
  refine ⟨⟨h.1.1, ?_⟩, h.2⟩
  rcases h.1.2 with h0 | ⟨g, cap, cur, hv, hB, hg, r⟩
  · exact .inl h0
  · refine .inr ⟨g, cap, cur, hv, hB, hk g _ hg ?_ ?_, r⟩
    · intro q
      injection q with q
      subst q
      exact hb _ _ hg
    · intro c fz q
      injection q with _ q
      exact he q
/-- record number k of an own row of records -/
theorem ownT_at4 {w : World} {B : Nat} {e : TypeId} {v : Value} {xs : List (List Int)} (h : OwnT 4 w B e v xs) {n : Nat} (hn : xs.length = n) :
    ∃ a cap, v = .slice a n cap ∧ ∀ k, k < n → ∃ x, a = some x ∧ x.block < w.heap.size ∧ w.cell? (x.add (k * 4)) = some (.int .i64 ((xs.getD k []).getD 0 0)) ∧ w.cell? ⟨(x.add (k * 4)).block, (x.add (k * 4)).off + 1, none⟩ = some (.int .i64 ((xs.getD k []).getD 1 0)) ∧ w.cell? ⟨(x.add (k * 4)).block, (x.add (k * 4)).off + 2, none⟩ = some (.int .i64 ((xs.getD k []).getD 2 0)) ∧ w.cell? ⟨(x.add (k * 4)).block, (x.add (k * 4)).off + 3, none⟩ = some (.int .i64 ((xs.getD k []).getD 3 0)) := by
  subst hn
  rcases h.1.2 with ⟨rfl, h0⟩ | ⟨g, cap, cur, rfl, hb, hg, hnc, hm, hsz, hcur⟩
  · exact ⟨none, 0, by rw [h0], fun k hk => absurd hk (by omega)⟩
  · refine ⟨some ⟨g, 0, none⟩, cap, rfl, fun k hk => ⟨_, rfl, (Array.getElem?_eq_some_iff.1 hg).1, ?_⟩⟩
    have hc : ∀ j, j < 4 → w.cell? ((⟨g, 0, none⟩ : Addr).add (k * 4 + j)) = some (.int .i64 ((xs.getD k []).getD j 0)) := fun j hj => by
      have hlt : k * 4 + j < xs.length * 4 := by omega
      rw [add_plain, World.ownsRow.cellAt h.1 _ hlt]
      exact encR_get k j h.2 hk hj
    refine ⟨hc 0 (by omega), ?_, ?_, ?_⟩
    · rw [← Cf.add_some _ _ 1 (by omega)]; exact hc 1 (by omega)
    · rw [← Cf.add_some _ _ 2 (by omega)]; exact hc 2 (by omega)
    · rw [← Cf.add_some _ _ 3 (by omega)]; exact hc 3 (by omega)
theorem flat_step {l : List (Nat × List Int)} {k : Nat} (hk : k < l.length) : ((l.take (k + 1)).map lineL).flatten = ((l.take k).map lineL).flatten ++ lineL (l.getD k (0, [])) := by
  rw [List.take_add_one, List.map_append, List.getElem?_eq_getElem hk, List.flatten_append]
  simp [List.getD, hk]
theorem map_get {l : List (Nat × List Int)} {k : Nat} (hk : k < l.length) : (l.map rowOf).getD k [] = rowOf (l.getD k (0, [])) ∧ l.getD k (0, []) ∈ l := by
  refine ⟨by simp [List.getD, hk], ?_⟩
  simp only [List.getD, List.getElem?_eq_getElem hk, Option.getD_some]
  exact List.getElem_mem hk
set_option maxHeartbeats 4000000 in
theorem print_bad (p : PC) (ga : Option Addr) (gc : Nat) (ra : Option Addr) (rc : Nat) (pa : Option Addr) (qc : Nat) (na : Option Addr) (nc : Nat) (sa : Option Addr) (sc : Nat) (B : Nat) (w : World) (hB : B ≤ w.heap.size) (h : (p.cfg ga gc ra rc pa qc na nc sa sc).At w B) (e1 : Int) (he1 : (chk p).1 = e1) (hne : ¬ e1 = 0) :
    Calls Tryz.prog 4 #[.agg #[.int .i64 p.cats, .slice ga p.gs.length gc, .slice ra p.rs.length rc, .slice pa p.ps.length qc, .slice na p.ns.length nc, .slice sa p.ss.length sc, .int .i64 p.gate, .int .i64 p.quota]] w fun e w' => e = .returned (.tuple #[.string ByteArray.empty, .int .i64 e1]) ∧ Below w.heap.size w w' := by
  have HC := Lib.hid he1
  obtain ⟨e2, he2⟩ : ∃ e2, (chk p).2 = e2 := ⟨_, rfl⟩
  have HC2 := Lib.hid he2
  have hal : Below w.heap.size w (w.alloc (.cells #[.int .i64 p.cats, .slice ga p.gs.length gc, .slice ra p.rs.length rc, .slice pa p.ps.length qc, .slice na p.ns.length nc, .slice sa p.ss.length sc, .int .i64 p.gate, .int .i64 p.quota] 28 (0, 0))) := (Below.refl _ _).alloc (Nat.le_refl _) _
  have hx := Cf.check_any (p.cfg ga gc ra rc pa qc na nc sa sc) B (w.alloc (.cells #[.int .i64 p.cats, .slice ga p.gs.length gc, .slice ra p.rs.length rc, .slice pa p.ps.length qc, .slice na p.ns.length nc, .slice sa p.ss.length sc, .int .i64 p.gate, .int .i64 p.quota] 28 (0, 0))) (Nat.le_trans hB hal.size) (h.below (hal.mono hB))
  rw [chk_at, HC.out, HC2.out] at hx
  have HAL := Lib.hid hal
  clear he1 he2 h hal
  go_enter Tryz.func4, Tryz.ntmps4
  go_wp2_with (go_at_call 7; refine hx.mono ?_; rintro e w2 ⟨rfl, hb2⟩)
  go_ret2
  exact ⟨rfl, HAL.out.trans (hb2.mono HAL.out.size)⟩
set_option maxHeartbeats 8000000 in
theorem print_good (p : PC) (ga : Option Addr) (gc : Nat) (ra : Option Addr) (rc : Nat) (pa : Option Addr) (qc : Nat) (na : Option Addr) (nc : Nat) (sa : Option Addr) (sc : Nat) (B : Nat) (w : World) (hB : B ≤ w.heap.size) (h : (p.cfg ga gc ra rc pa qc na nc sa sc).At w B) (hl : PLen p) (he1 : (chk p).1 = 0) (hK : Kinds w) :
    Calls Tryz.prog 4 #[.agg #[.int .i64 p.cats, .slice ga p.gs.length gc, .slice ra p.rs.length rc, .slice pa p.ps.length qc, .slice na p.ns.length nc, .slice sa p.ss.length sc, .int .i64 p.gate, .int .i64 p.quota]] w fun e w' => e = .returned (.tuple #[.string (tb p.text), .int .i64 0]) ∧ Below w.heap.size w w' := by
  obtain ⟨hok, l1, l2, l3, l4, l5⟩ := okp_of hl he1
  have hro := recs_ok hok
  have hrr := rows_recs hl
  have HC := Lib.hid he1
  obtain ⟨e2, he2⟩ : ∃ e2, (chk p).2 = e2 := ⟨_, rfl⟩
  have HC2 := Lib.hid he2
  have hal : Below w.heap.size w (w.alloc (.cells #[.int .i64 p.cats, .slice ga p.gs.length gc, .slice ra p.rs.length rc, .slice pa p.ps.length qc, .slice na p.ns.length nc, .slice sa p.ss.length sc, .int .i64 p.gate, .int .i64 p.quota] 28 (0, 0))) := (Below.refl _ _).alloc (Nat.le_refl _) _
  have hx := Cf.check_any (p.cfg ga gc ra rc pa qc na nc sa sc) B (w.alloc (.cells #[.int .i64 p.cats, .slice ga p.gs.length gc, .slice ra p.rs.length rc, .slice pa p.ps.length qc, .slice na p.ns.length nc, .slice sa p.ss.length sc, .int .i64 p.gate, .int .i64 p.quota] 28 (0, 0))) (Nat.le_trans hB hal.size) (h.below (hal.mono hB))
  rw [chk_at, HC.out, HC2.out] at hx
  have HAL := Lib.hid hal
  have HZ := Lib.hid (heap_alloc_new w (.cells #[.int .i64 p.cats, .slice ga p.gs.length gc, .slice ra p.rs.length rc, .slice pa p.ps.length qc, .slice na p.ns.length nc, .slice sa p.ss.length sc, .int .i64 p.gate, .int .i64 p.quota] 28 (0, 0)))
  have HAT : Hid (∀ W, Below w.heap.size w W → (p.cfg ga gc ra rc pa qc na nc sa sc).At W W.heap.size) := Lib.hid fun W hW => (h.below (hW.mono hB)).more_at (Nat.le_trans hB hW.size)
  have HK := Lib.hid hK
  have HK0 := Lib.hid hK.lt
  have hrl : p.recs.length ≤ 40 := by
    unfold PC.recs
    simp only [List.length_cons, List.length_append, List.length_map]
    split <;> simp <;> omega
  have hsize : p.size ≤ 1000000 := by unfold PC.size; omega
  obtain ⟨n, hn⟩ : ∃ n, p.recs.length = n := ⟨_, rfl⟩
  have HROW := Lib.hid hrr
  have HRN : Hid (p.rows.length = n) := Lib.hid (by rw [hrr, List.length_map, hn])
  have HRO := Lib.hid hro
  have HN := Lib.hid hn
  have HTX : Hid (p.text = ((p.recs.take n).map lineL).flatten) := Lib.hid (by rw [← hn, List.take_length]; rfl)
  have HLN : Hid (∀ k, (((p.recs.take k).map lineL).flatten).length ≤ 1600) := Lib.hid fun k => by
    have h1 := flat_len (l := (p.recs.take k).map lineL) fun x hx => by
      obtain ⟨q, hq, rfl⟩ := List.mem_map.1 hx
      exact line_len (hro q (List.mem_of_mem_take hq)).2
    simp only [List.length_map, List.length_take] at h1
    omega
  rw [hn] at hrl
  clear he1 he2 h hal hK hl hok hro hrr hn
  go_enter Tryz.func4, Tryz.ntmps4
  go_wp2_with (first
    | (go_at_call 7; refine hx.mono ?_; rintro e w2 ⟨rfl, hb2⟩; have hz2 := (hb2.block _ (by simp)).trans HZ.out; obtain ⟨⟨c0, c1, c2, c3, c4, c5, c6, c7⟩, _⟩ := cells8 hz2; have hl2 : w.heap.size < w2.heap.size := (Array.getElem?_eq_some_iff.1 hz2).1; have hb02 := HAL.out.trans (hb2.mono HAL.out.size); have hbn := hb02.alloc hb02.size (.cells #[.pointer none, .slice none 0 0] 41 (0, 0)); have HR := Lib.hid (records_any p ga gc ra rc pa qc na nc sa sc _ (HAT.out _ hbn) hsize); have HBN := Lib.hid hbn; clear hb2 hz2 hx hbn)
    | (go_at_call 8; refine HR.out.mono ?_; rintro e w3 ⟨v, rfl, hown, hb3⟩; obtain ⟨va, vc, rfl, _⟩ := ownT_at4 hown HRN.out; have hb03 := HBN.out.trans (hb3.mono HBN.out.size); have HBD := Lib.hid (builder_below (builder_new w2) hb3); have HOW := Lib.hid hown; clear hown hb3 HR c0 c1 c2 c3 c4 c5 c6 c7))
  have hbsz : w2.heap.size < w3.heap.size := by
    rcases HBD.out with h | h
    · exact h.lt
    · exact h.lt
  obtain ⟨b, hb⟩ : ∃ b, w2.heap.size = b := ⟨_, rfl⟩
  rw [hb] at hbsz HBD hl2
  rw [hb]
  have hb3z : Hid ((w2.alloc (.cells #[.pointer none, .slice none 0 0] 41 (0, 0))).heap.size = b + 1) := Lib.hid (by simp [hb])
  rw [hb3z.out] at HOW
  clear hb hb3z HBN hb02
  go_loopw [20] (fun i wr => ∃ k : Nat, k ≤ n ∧ i = .int .i64 k ∧ Lib.IsBuilderF 41 5 b b (Lib.byteCells (((p.recs.take k).map lineL).flatten)) wr ∧ OwnT 4 wr (b + 1) 46 (.slice va n vc) p.rows ∧ Below w.heap.size w wr ∧ b < wr.heap.size) (fun i _ => n - (intOf i).toNat)
  case atStart => exact ⟨0, Nat.zero_le _, rfl, HBD.out, HOW.out, hb03, hbsz⟩
  case round =>
    clear hb03 hbsz
    obtain ⟨k, hk, rfl, hbd, hown, hbw, hbl⟩ := hrel
    have HBD := Lib.hid hbd
    have HOW := Lib.hid hown
    by_cases hlt : k < n
    · obtain ⟨va', vc', e0, hat⟩ := ownT_at4 hown HRN.out
      obtain ⟨x, rfl, hxb, k0, k1, k2, k3⟩ := hat k hlt
      obtain ⟨rfl, _, rfl⟩ : va = some x ∧ n = n ∧ vc = vc' := by
        injection e0 with i1 i2 i3
        exact ⟨i1, rfl, i3⟩
      obtain ⟨m1, m2⟩ := map_get (l := p.recs) (k := k) (by have := HN.out; omega)
      rw [← HROW.out] at m1
      rw [m1] at k0 k1 k2 k3
      have HST := Lib.hid (flat_step (l := p.recs) (k := k) (by have := HN.out; omega))
      obtain ⟨q, hq⟩ : ∃ q, p.recs.getD k (0, []) = q := ⟨_, rfl⟩
      rw [hq] at m2 k0 k1 k2 k3 HST
      obtain ⟨hq7, hqv⟩ := HRO.out q m2
      have HTR := Lib.hid (take_row hqv)
      have HLL := Lib.hid (line_len hqv)
      obtain ⟨r, vs⟩ := q
      have hv2 : OkVs (kf r) ([vs.getD 0 0, vs.getD 1 0, vs.getD 2 0].take (kf r).length) := by rw [show [vs.getD 0 0, vs.getD 1 0, vs.getD 2 0].take (kf r).length = vs from HTR.out]; exact hqv
      have HLI : Hid (∀ W, Kinds W → Calls Tryz.prog 10 #[.agg #[.int .i64 r, .int .i64 (vs.getD 0 0), .int .i64 (vs.getD 1 0), .int .i64 (vs.getD 2 0)]] W fun e w' => e = .returned (.string (tb (lineL (r, vs)))) ∧ Below W.heap.size W w') := Lib.hid fun W hW => by
        have := line_any r hq7 _ _ _ hv2 W hW
        rwa [show [vs.getD 0 0, vs.getD 1 0, vs.getD 2 0].take (kf r).length = vs from HTR.out] at this
      change wr.cell? (x.add (k * 4)) = some (.int .i64 (r : Int)) at k0
      change wr.cell? ⟨(x.add (k * 4)).block, (x.add (k * 4)).off + 1, none⟩ = some (.int .i64 (vs.getD 0 0)) at k1
      change wr.cell? ⟨(x.add (k * 4)).block, (x.add (k * 4)).off + 2, none⟩ = some (.int .i64 (vs.getD 1 0)) at k2
      change wr.cell? ⟨(x.add (k * 4)).block, (x.add (k * 4)).off + 3, none⟩ = some (.int .i64 (vs.getD 2 0)) at k3
      generalize vs.getD 0 0 = a0 at k1 HLI
      generalize vs.getD 1 0 = a1 at k2 HLI
      generalize vs.getD 2 0 = a2 at k3 HLI
      obtain ⟨tx, htx⟩ : ∃ tx, lineL (r, vs) = tx := ⟨_, rfl⟩
      rw [htx] at HLI HST HLL
      have HKW := Lib.hid (HK.out.below hbw HK0.out)
      have hki : (k : Int) < (n : Int) := by omega
      clear hv2 hqv m1 m2 hq hat hown hbd htx HTR e0
      have hal : Below wr.heap.size wr (wr.alloc (.cells #[.int .i64 r, .int .i64 a0, .int .i64 a1, .int .i64 a2] 46 (0, 0))) := (Below.refl _ _).alloc (Nat.le_refl _) _
      have HB1 := Lib.hid (builder_below HBD.out hal)
      have HO1 := Lib.hid (HOW.out.below hal)
      have HK1 := Lib.hid (HKW.out.below hal HKW.out.lt)
      have hbA := hbw.trans (hal.mono hbw.size)
      have hlA := hal.size
      clear hal hbw
      have HLEN : Hid ((Lib.byteCells (((p.recs.take k).map lineL).flatten)).length ≤ 1600) := Lib.hid (by rw [Lib.byteCells_length]; exact HLN.out k)
      generalize hX : ((p.recs.take k).map lineL).flatten = X at HB1 HST HLEN HBD
      clear hX
      go_wp2_with (first
        | (go_at_call 10; refine (HLI.out _ HK1.out).mono ?_; rintro e w4 ⟨rfl, hb4⟩; have HB4 := Lib.hid (builder_below HB1.out hb4); have HO4 := Lib.hid (HO1.out.below hb4); have hbB := hbA.trans (hb4.mono hbA.size); have hlB : b < w4.heap.size := (Nat.lt_of_lt_of_le hbl (Nat.le_trans hlA hb4.size)); clear hb4)
        | (go_at_call 9; refine (writeString_any b b _ (tb tx) _ HB4.out (by rw [tb_size]; have := HLEN.out; have := HLL.out; omega) (by omega)).mono ?_; rintro e w5 ⟨rfl, hB5, hb5, hk5⟩; have HB5 := Lib.hid hB5; have HK5 := Lib.hid hk5; have hbC := hbB.trans (hb5.mono (by omega)); have hlC : b < w5.heap.size := (Nat.lt_of_lt_of_le hlB hb5.size); clear hB5 hk5))
      go_roundw
      case rel =>
        refine ⟨k + 1, by omega, by go_num, ?_, ?_, hbC, hlC⟩
        · rw [HST.out, Lib.byteCells_append]
          exact .inr HB5.out
        · refine ownT_others HO4.out HK5.out (by decide) fun cs f hcs => ?_
          rcases HB4.out with ⟨_, v, hv, _⟩ | ⟨_, v, hv, _⟩ <;> (rw [hv] at hcs; injection hcs with hcs; injection hcs with _ hcs; revert hcs; decide)
      case measure => simp [intOf]; omega
    · obtain rfl : k = n := by omega
      have HT : Hid (tb p.text = ⟨((((p.recs.take k).map lineL).flatten)).toArray⟩) := Lib.hid (by rw [HTX.out]; rfl)
      have hs := Sh.Builder_String_any_k b b _ wr hbd (by omega)
      clear hown hbd
      generalize ((p.recs.take k).map lineL).flatten = X at hs HBD HT
      go_wp2_with (go_at_call 11; refine hs.mono ?_; rintro e w4 ⟨rfl, _, hb4, _⟩)
      go_ret2
      exact ⟨by rw [HT.out]; rfl, hbw.trans (hb4.mono (by omega))⟩
end Go.Proofs.YtikkfapgmbamlaaGreatDoor.Pl
end
section
/- A configuration that came in, plainly. -/
namespace Go.Proofs.YtikkfapgmbamlaaGreatDoor.Pl
open Go.RowKit Ut
set_option linter.unusedVariables false

/-- a configuration that came in, plainly -/
def ofCfg (c : Cf.Cfg) : PC := ⟨c.cats, (List.range c.gn).map fun i => [c.G i 0, c.G i 1, c.G i 2], (List.range c.rn).map fun i => [c.R i 0, c.R i 1, c.R i 2], (List.range c.pn).map fun i => [c.P i 0, c.P i 1], (List.range c.nn).map fun i => [c.N i 0, c.N i 1], (List.range c.sn).map fun i => [c.S i 0, c.S i 1], c.gate, c.quota⟩
theorem of_len (c : Cf.Cfg) : PLen (ofCfg c) := by
  refine ⟨?_, ?_, ?_, ?_, ?_⟩ <;> (intro v hv; simp only [ofCfg, List.mem_map] at hv; obtain ⟨i, _, rfl⟩ := hv; rfl)
theorem row_of {k : Nat} {w : World} {B n : Nat} {a : Option Addr} {Z Y : Nat → Nat → Int} (h : Cf.RowT k w B a n Z) (he : ∀ i, i < n → ∀ j, j < k → Y i j = Z i j) : Cf.RowT k w B a n Y := fun i hi => by
  obtain ⟨x, e, hx, hc⟩ := h i hi
  exact ⟨x, e, hx, fun j hj => by rw [he i hi j hj]; exact hc j hj⟩
theorem at_get {n i : Nat} (hi : i < n) (f : Nat → List Int) : ((List.range n).map f).getD i [] = f i := by
  simp [List.getD, hi]
theorem of_at {c : Cf.Cfg} {w : World} {B : Nat} (h : c.At w B) : ((ofCfg c).cfg c.ga c.gc c.ra c.rc c.pa c.pc c.na c.nc c.sa c.sc).At w B := by
  have g3 : ∀ (n : Nat) (Z : Nat → Nat → Int) (i : Nat), i < n → ∀ j, j < 3 → (((List.range n).map fun i => [Z i 0, Z i 1, Z i 2]).getD i []).getD j 0 = Z i j := fun n Z i hi j hj => by
    rw [at_get hi]
    match j, hj with
    | 0, _ => rfl
    | 1, _ => rfl
    | 2, _ => rfl
    | j + 3, h => omega
  have g2 : ∀ (n : Nat) (Z : Nat → Nat → Int) (i : Nat), i < n → ∀ j, j < 2 → (((List.range n).map fun i => [Z i 0, Z i 1]).getD i []).getD j 0 = Z i j := fun n Z i hi j hj => by
    rw [at_get hi]
    match j, hj with
    | 0, _ => rfl
    | 1, _ => rfl
    | j + 2, h => omega
  have ll : ∀ (n : Nat) (f : Nat → List Int), ((List.range n).map f).length = n := fun n f => by simp
  refine ⟨?_, ?_, ?_, ?_, ?_, ?_, ?_, ?_, ?_, ?_, h.i1, h.i2, h.i3⟩
  · show Cf.RowT 3 w B c.ga (((List.range c.gn).map _).length) _
    rw [ll]; exact row_of h.g (g3 _ _)
  · show Cf.RowT 3 w B c.ra (((List.range c.rn).map _).length) _
    rw [ll]; exact row_of h.r (g3 _ _)
  · show Cf.RowT 2 w B c.pa (((List.range c.pn).map _).length) _
    rw [ll]; exact row_of h.p (g2 _ _)
  · show Cf.RowT 2 w B c.na (((List.range c.nn).map _).length) _
    rw [ll]; exact row_of h.n (g2 _ _)
  · show Cf.RowT 2 w B c.sa (((List.range c.sn).map _).length) _
    rw [ll]; exact row_of h.s (g2 _ _)
  · show ((List.range c.gn).map _).length ≤ c.gc ∧ ((List.range c.gn).map _).length ≤ _
    rw [ll]; exact h.lg
  · show ((List.range c.rn).map _).length ≤ c.rc ∧ ((List.range c.rn).map _).length ≤ _
    rw [ll]; exact h.lr
  · show ((List.range c.pn).map _).length ≤ c.pc ∧ ((List.range c.pn).map _).length ≤ _
    rw [ll]; exact h.lp
  · show ((List.range c.nn).map _).length ≤ c.nc ∧ ((List.range c.nn).map _).length ≤ _
    rw [ll]; exact h.ln
  · show ((List.range c.sn).map _).length ≤ c.sc ∧ ((List.range c.sn).map _).length ≤ _
    rw [ll]; exact h.ls
theorem of_v (c : Cf.Cfg) : c.v = ((ofCfg c).cfg c.ga c.gc c.ra c.rc c.pa c.pc c.na c.nc c.sa c.sc).v := by
  simp [Cf.Cfg.v, Cf.Cfg.cs, PC.cfg, ofCfg]
end Go.Proofs.YtikkfapgmbamlaaGreatDoor.Pl
end
section
/- plan: awake, and the comparison of texts that the laws use. -/
namespace Go.Proofs.YtikkfapgmbamlaaGreatDoor.Pl
open Go.RowKit Ut
set_option linter.unusedVariables false
set_option maxRecDepth 100000

theorem own_slice {k : Nat} {w : World} {B : Nat} {e : TypeId} {v : Value} {xs : List (List Int)} (h : OwnT k w B e v xs) : ∃ a cap, v = .slice a xs.length cap := by
  rcases h.1.2 with ⟨rfl, h0⟩ | ⟨g, cap, cur, rfl, _⟩
  · exact ⟨none, 0, by rw [h0]⟩
  · exact ⟨_, _, rfl⟩
def pAw : PC := ⟨1, [[1, 4, 0]], [], [], [], [[0, 5]], -1, 0⟩
theorem aw_ok : OkP pAw := by
  refine ⟨?_, ?_, ?_, ?_, ?_, ?_, ?_⟩
  all_goals simp [pAw, kf, OkVs, OkV]
theorem aw_chk : (chk pAw).1 = 0 := by decide +kernel
def awB : List UInt8 := [99, 97, 116, 115, 32, 49, 10, 103, 117, 101, 115, 116, 32, 97, 32, 52, 32, 48, 10, 115, 108, 111, 116, 32, 48, 32, 53, 10]
theorem aw_text : pAw.text = awB := by
  have d : ∀ n, n < 100 → Lib.decDigits n = dd n := dec_dd
  simp only [PC.text, PC.recs, pAw, List.map_nil, List.map_cons, List.nil_append, List.cons_append, if_true, List.append_nil, lineL, bodyL, tailL, kf, kw, wordL]
  simp [d, dd, awB]
  decide +kernel
theorem aw_read : readL awB = .inr pAw := by rw [← aw_text]; exact text_read aw_ok
theorem parse_aw (B : Nat) (w : World) (hB : B ≤ w.heap.size) (hK : Kinds w) :
    Calls Tryz.prog 12 #[.string (tb awB)] w fun e w' => ∃ ga gc ra rc pa qc na nc sa sc, e = .returned (.tuple #[.agg #[.int .i64 1, .slice ga 1 gc, .slice ra 0 rc, .slice pa 0 qc, .slice na 0 nc, .slice sa 1 sc, .int .i64 (-1), .int .i64 0], .int .i64 0, .int .i64 0]) ∧ Below B w w' := by
  refine (parse_any (tb awB) (by rw [tb_size]; decide) B w hB hK).mono fun e w' ⟨h1, h2⟩ => ?_
  unfold ParsePost at h1
  rw [tb_list, if_neg (by decide), aw_read] at h1
  simp only at h1
  rw [if_pos aw_chk] at h1
  obtain ⟨vg, vr, vp, vn, vs, he, hr⟩ := h1
  obtain ⟨ga, gc, rfl⟩ := own_slice hr.og
  obtain ⟨ra, rc, rfl⟩ := own_slice hr.or
  obtain ⟨pa, qc, rfl⟩ := own_slice hr.op
  obtain ⟨na, nc, rfl⟩ := own_slice hr.on
  obtain ⟨sa, sc, rfl⟩ := own_slice hr.os
  exact ⟨ga, gc, ra, rc, pa, qc, na, nc, sa, sc, he, h2⟩
theorem awake5_any (B : Nat) (w : World) (hB : B ≤ w.heap.size) (hK : Kinds w) :
    Calls Tryz.prog 5 #[] w fun e w' => e = .returned (.bool true) ∧ Below B w w' := by
  have hp := parse_aw B w hB hK
  go_enter Tryz.func5, Tryz.ntmps5
  go_wp2_with (go_at_call 12; refine hp.mono ?_; rintro e w2 ⟨ga, gc, ra, rc, pa, qc, na, nc, sa, sc, rfl, hb2⟩; have hsz := hb2.size)
  go_ret
  exact ⟨rfl, hb2.alloc (Nat.le_trans hB hb2.size) _⟩
end Go.Proofs.YtikkfapgmbamlaaGreatDoor.Pl
end
