/- Several texts in one: Fb Fc -/
import Derived.Test.YtikkfapgmbamlaaDoorZ07
import Derived.Test.YtikkfapgmbamlaaDoorZ11
import Derived.Deep.Cut
import Derived.Deep.DeepCutAuto
import Derived.Deep.CutBlock
section
/- The document's port and take of layer 5: a line of a rank laid into a configuration that comes and goes by value. -/
namespace Go.Proofs.YtikkfapgmbamlaaDoor.Pl
open Go.RowKit Ut
set_option linter.unusedVariables false
set_option maxRecDepth 100000

theorem port_split (x y : List UInt8) : valsL [108, 112] [x, y] = if (La.parseF x).2 = 0 then (if y = [111, 117, 116] then some [(La.parseF x).1, -1] else (numL y).map fun n => [(La.parseF x).1, (n : Int)]) else none := by
  have hn : valL 112 y = if y = [111, 117, 116] then some (-1) else (numL y).map Int.ofNat := by
    unfold valL
    rw [if_neg (by decide)]
    by_cases h : y = [111, 117, 116]
    · rw [if_pos ⟨rfl, h⟩, if_pos h]
    · rw [if_neg (fun e => h e.2), if_neg h]
  have hl : valL 108 x = if (La.parseF x).2 = 0 then some (La.parseF x).1 else none := by unfold valL; rw [if_pos rfl]
  simp only [valsL, hn, hl]
  by_cases h : (La.parseF x).2 = 0
  · rw [if_pos h, if_pos h]
    by_cases h2 : y = [111, 117, 116]
    · rw [if_pos h2, if_pos h2]
    · rw [if_neg h2, if_neg h2]
      cases numL y <;> rfl
  · rw [if_neg h, if_neg h]
/-- what port answers -/
def portV (x y : List UInt8) : Value := if (La.parseF x).2 = 0 then (if y = [111, 117, 116] then .tuple #[.agg #[.int .i64 (La.parseF x).1, .int .i64 (-1)], .bool true] else match numL y with
    | some m => .tuple #[.agg #[.int .i64 (La.parseF x).1, .int .i64 (m : Int)], .bool true]
    | none => .tuple #[.agg #[.int .i64 (La.parseF x).1, .int .i64 0], .bool false])
  else .tuple #[.agg #[.int .i64 0, .int .i64 0], .bool false]
theorem portV_cases (x y : List UInt8) : (∃ l g, valsL [108, 112] [x, y] = some [l, g] ∧ portV x y = .tuple #[.agg #[.int .i64 l, .int .i64 g], .bool true]) ∨ (valsL [108, 112] [x, y] = none ∧ ∃ l g, portV x y = .tuple #[.agg #[.int .i64 l, .int .i64 g], .bool false]) := by
  rw [port_split]
  unfold portV
  by_cases h : (La.parseF x).2 = 0
  · simp only [if_pos h]
    by_cases h2 : y = [111, 117, 116]
    · simp only [if_pos h2]
      exact .inl ⟨_, _, rfl, rfl⟩
    · simp only [if_neg h2]
      cases numL y with
      | none => exact .inr ⟨rfl, _, _, rfl⟩
      | some m => exact .inl ⟨_, _, rfl, rfl⟩
  · simp only [if_neg h]
    exact .inr ⟨trivial, _, _, rfl⟩
theorem set2 {W : World} {b : Nat} {v0 v1 : Value} {t : TypeId} (h : W.heap[b]? = some (.cells [v0, v1].toArray t (0, 0))) (u0 u1 : Value) :
    ((W.setCell ⟨b, 0, none⟩ u0).setCell ⟨b, 1, none⟩ u1).heap[b]? = some (.cells [u0, u1].toArray t (0, 0)) := box_set (box_set h 0 u0) 1 u1
theorem cells2 {W : World} {b : Nat} {v0 v1 : Value} {t : TypeId} (h : W.heap[b]? = some (.cells [v0, v1].toArray t (0, 0))) :
    W.cell? ⟨b, 0, none⟩ = some v0 ∧ W.cell? ⟨b, 1, none⟩ = some v1 ∧ W.frozen? ⟨b, 0, none⟩ = false ∧ W.frozen? ⟨b, 1, none⟩ = false ∧ b < W.heap.size :=
  ⟨(box_cell h 0 _ rfl).1, (box_cell h 1 _ rfl).1, (box_cell h 0 _ rfl).2, (box_cell h 1 _ rfl).2, (Array.getElem?_eq_some_iff.1 h).1⟩
set_option maxHeartbeats 1000000 in
theorem refPort_any (ad : Addr) (cap : Nat) (x y h0 : List UInt8) (hy : y.length ≤ 1099511627776) (w : World) (hrow : RowS w w.heap.size (some ad) 3 [h0, x, y]) :
    Calls Tryd.prog 69 #[.slice (some ad) 3 cap] w fun e w' => e = .returned (portV x y) ∧ Below w.heap.size w w' := by
  obtain ⟨a1, e1, ha1, hc1⟩ := hrow.at 1 (by omega)
  obtain rfl : ad = a1 := by injection e1
  obtain ⟨a2, e2, ha2, hc2⟩ := hrow.at 2 (by omega)
  obtain rfl : ad = a2 := by injection e2
  clear e1 e2
  have hal : Below w.heap.size w (w.alloc (.cells #[.int .i64 0, .int .i64 0] 62)) := (Below.refl _ _).alloc (Nat.le_refl _) _
  have hp := fun (W : World) (hW : Below w.heap.size w W) => La.refParse_any (tb x) (B := w.heap.size) (w0 := w) (w := W) (Nat.le_refl _) hW
  have hq := refNumber_any (tb y) (by rw [tb_size]; exact hy)
  rw [tb_list] at hp hq
  have HCX : Hid (∀ W, Below w.heap.size w W → W.cell? ⟨ad.block, ad.off + 1, none⟩ = some (.string (tb x))) := Lib.hid fun W hW => by
    rw [← add_pos ad 1 (by omega), hW.cell (p := ad.add 1) (by rw [block_of_add]; exact ha1)]; exact hc1
  have HCY : Hid (∀ W, Below w.heap.size w W → W.cell? ⟨ad.block, ad.off + 2, none⟩ = some (.string (tb y))) := Lib.hid fun W hW => by
    rw [← add_pos ad 2 (by omega), hW.cell (p := ad.add 2) (by rw [block_of_add]; exact ha1)]; exact hc2
  clear hc1 hc2 hrow ha2
  have hcx := HCX.out _ hal
  unfold portV
  have hw := ref_word (tb y) [111, 117, 116]
  rw [tb_list] at hw
  have HZ0 : Hid (∀ W, Below (w.alloc (.cells #[.int .i64 0, .int .i64 0] 62)).heap.size (w.alloc (.cells #[.int .i64 0, .int .i64 0] 62)) W → W.heap[w.heap.size]? = some (.cells [.int .i64 0, .int .i64 0].toArray 62 (0, 0))) := Lib.hid fun W hW => (hW.block _ (by simp)).trans (heap_alloc_new _ _)
  have HP : Hid (∀ W, Below w.heap.size w W → Calls Tryd.prog 86 #[.string (tb x)] W fun e w' => e = .returned (.tuple #[.int .i64 (La.parseF x).1, .int .i64 (La.parseF x).2]) ∧ Below W.heap.size W w') := Lib.hid fun W hW => by
    have := La.refParse_any (tb x) (B := W.heap.size) (w0 := W) (w := W) (Nat.le_refl _) (Below.refl _ _)
    rwa [tb_list] at this
  clear hp
  cases hpf : La.parseF x with
  | mk q1 q2 =>
  rw [hpf] at HP
  simp only at HP ⊢
  generalize tb x = tx at hcx HCX HP
  generalize tb y = ty at HCY hq hw
  have HAL := Lib.hid hal
  clear hal hpf
  by_cases hq2 : q2 = 0
  · subst hq2
    simp only [if_true]
    by_cases ho : y = [111, 117, 116]
    · have ht : (ty.toList == [111, 117, 116]) = true := by rw [hw]; simp [ho]
      simp only [if_pos ho]
      clear hw hq ho
      go_enter Tryd.func69, Tryd.ntmps69
      go_wp2_with (go_at_call 86; refine (HP.out _ HAL.out).mono ?_; rintro e w1 ⟨rfl, hb1⟩; have hz := HZ0.out _ hb1; have hb2 := HAL.out.trans (hb1.mono (by simp)); have hcy := HCY.out _ hb2; obtain ⟨r0, r1, f0, f1, hlt⟩ := cells2 hz; have HZ := Lib.hid hz; clear hz hb1)
      obtain ⟨s0, s1, _, _, _⟩ := cells2 (set2 HZ.out (.int .i64 q1) (.int .i64 (-1)))
      exact bodyPost_ret (v := .tuple #[.agg #[.int .i64 q1, .int .i64 (-1)], .bool true]) (by simp [results, Tryd.results69, go_sem, s0, s1]) rfl ⟨rfl, (hb2.setCell (Nat.le_refl _) _).setCell (Nat.le_refl _) _⟩
    · have ht : (ty.toList == [111, 117, 116]) = false := by rw [hw]; simp [ho]
      simp only [if_neg ho]
      clear hw ho
      cases hn : numL y with
      | none =>
        have hq2 := fun W => hq W
        rw [numV_none hn] at hq2
        clear hq hn
        go_enter Tryd.func69, Tryd.ntmps69
        go_wp2_with (first | (go_at_call 86; refine (HP.out _ HAL.out).mono ?_; rintro e w1 ⟨rfl, hb1⟩; have hz := HZ0.out _ hb1; have hb2 := HAL.out.trans (hb1.mono (by simp)); have hcy := HCY.out _ hb2; obtain ⟨r0, r1, f0, f1, hlt⟩ := cells2 hz; have HZ := Lib.hid hz; clear hz hb1) | (go_at_call 11; refine (hq2 _).mono ?_; rintro e w2 ⟨rfl, rfl⟩))
        obtain ⟨s0, s1, _, _, _⟩ := cells2 (set2 HZ.out (.int .i64 q1) (.int .i64 0))
        exact bodyPost_ret (v := .tuple #[.agg #[.int .i64 q1, .int .i64 0], .bool false]) (by simp [results, Tryd.results69, go_sem, s0, s1]) rfl ⟨rfl, (hb2.setCell (Nat.le_refl _) _).setCell (Nat.le_refl _) _⟩
      | some m =>
        have hq2 := fun W => hq W
        rw [numV_some hn] at hq2
        clear hq hn
        go_enter Tryd.func69, Tryd.ntmps69
        go_wp2_with (first | (go_at_call 86; refine (HP.out _ HAL.out).mono ?_; rintro e w1 ⟨rfl, hb1⟩; have hz := HZ0.out _ hb1; have hb2 := HAL.out.trans (hb1.mono (by simp)); have hcy := HCY.out _ hb2; obtain ⟨r0, r1, f0, f1, hlt⟩ := cells2 hz; have HZ := Lib.hid hz; clear hz hb1) | (go_at_call 11; refine (hq2 _).mono ?_; rintro e w2 ⟨rfl, rfl⟩))
        obtain ⟨s0, s1, _, _, _⟩ := cells2 (set2 HZ.out (.int .i64 q1) (.int .i64 m))
        exact bodyPost_ret (v := .tuple #[.agg #[.int .i64 q1, .int .i64 m], .bool true]) (by simp [results, Tryd.results69, go_sem, s0, s1]) rfl ⟨rfl, (hb2.setCell (Nat.le_refl _) _).setCell (Nat.le_refl _) _⟩
  · simp only [if_neg hq2]
    clear hw hq
    go_enter Tryd.func69, Tryd.ntmps69
    go_wp2_with (go_at_call 86; refine (HP.out _ HAL.out).mono ?_; rintro e w1 ⟨rfl, hb1⟩; have hz := HZ0.out _ hb1; have hb2 := HAL.out.trans (hb1.mono (by simp)); have hcy := HCY.out _ hb2; obtain ⟨r0, r1, f0, f1, hlt⟩ := cells2 hz; have HZ := Lib.hid hz; clear hz hb1)
    obtain ⟨s0, s1, _, _, _⟩ := cells2 (set2 HZ.out (.int .i64 0) (.int .i64 0))
    exact bodyPost_ret (v := .tuple #[.agg #[.int .i64 0, .int .i64 0], .bool false]) (by simp [results, Tryd.results69, go_sem, s0, s1]) rfl ⟨rfl, (hb2.setCell (Nat.le_refl _) _).setCell (Nat.le_refl _) _⟩
end Go.Proofs.YtikkfapgmbamlaaDoor.Pl
end
section
/- The document's take of layer 5: a line with a label laid into a configuration that comes and goes by value. -/
namespace Go.Proofs.YtikkfapgmbamlaaDoor.Pl
open Go.RowKit Ut
set_option linter.unusedVariables false
set_option maxRecDepth 100000

/-- one record more, outside a drawn region -/
theorem wpList_append_rec {P : Program} {w : World} {ops : Array Oper} {rest : List Oper} {o : Oper} {a : Act} {Q : Exit → Act → World → Prop} (hgd : o.guard = none) (s x : Operand) (t : TypeId)
    (ho : o.op = .call { callee := .builtin .append, args := #[s, x], argTypes := #[t, t] })
    (k base : Nat) (e : TypeId) (i : TypeInfo) (z : Value) (bytes : Nat) (ht : P.underlying t = some (.slice e)) (hi : P.info? e = some i) (hz : i.zero = some z) (hs : i.size = k) (hb : i.bytes = bytes) (hzs : z.cells.size = k) (hk : 0 < k)
    (v : Value) (xs : List (List Int)) (hv : a.eval s = v) (hown : OwnT k w base e v xs) (ad : Addr) (c : Nat) (y : List Int) (hx : a.eval x = .slice (some ad) 1 c) (hy : y.length = k)
    (hc : ∀ j u, (encI y)[j]? = some u → w.cell? (ad.add j) = some u) (h63 : xs.length + 1 ≤ 1099511627776) (hbytes : bytes ≤ 64) (hbase : base ≤ w.heap.size)
    (h : ∀ v' w', Hid (OwnT k w' base e v' (xs ++ [y])) → Hid (w.grownBy w' v.ownBlock) → wpList P ops Q rest (a.put o.dst v') w') : wpList P ops Q (o :: rest) a w :=
  wpList_plain hgd fun K hK => by
    have := step_append_rec (ops := ops) (E := True) (Q := Q) (K := K) (P := P) (w := w) (a := a) hgd s x t ho k base e i z bytes ht hi hz hs hb hzs hk v xs hv hown ad c y hx hy hc h63 hbytes hbase (fun v' w' h1 h2 => hK _ _ (h v' w' h1 h2))
    have hw : Region.wanted o (yielded ops a.tmps) = true := by simp [Region.wanted, hgd]
    rwa [if_pos hw] at this
theorem own_sl {k : Nat} {w : World} {B : Nat} {e : TypeId} {v : Value} {xs : List (List Int)} (h : OwnT k w B e v xs) : ∃ a cap, v = .slice a xs.length cap := by
  rcases h.1.2 with ⟨rfl, h0⟩ | ⟨g, cap, cur, rfl, _⟩
  · exact ⟨none, 0, by rw [h0]⟩
  · exact ⟨_, _, rfl⟩
theorem rows_sl {w : World} {B : Nat} {p : PC} {vg vr vp vn vs : Value} (h : RowsP w B p vg vr vp vn vs) : ∃ ga gc ra rc pa qc na nc sa sc, vg = .slice ga p.gs.length gc ∧ vr = .slice ra p.rs.length rc ∧ vp = .slice pa p.ps.length qc ∧ vn = .slice na p.ns.length nc ∧ vs = .slice sa p.ss.length sc := by
  obtain ⟨a1, c1, e1⟩ := own_sl h.og
  obtain ⟨a2, c2, e2⟩ := own_sl h.or
  obtain ⟨a3, c3, e3⟩ := own_sl h.op
  obtain ⟨a4, c4, e4⟩ := own_sl h.on
  obtain ⟨a5, c5, e5⟩ := own_sl h.os
  exact ⟨a1, c1, a2, c2, a3, c3, a4, c4, a5, c5, e1, e2, e3, e4, e5⟩
theorem KeptS.new {b c : Nat} {w w' : World} (h : KeptS b w w') (hb : w.heap.size ≤ b) : KeptS c w w' :=
  ⟨h.1, fun g cs t f _ ht hc => h.2 g cs t f (by have := (Array.getElem?_eq_some_iff.1 hc).1; omega) ht hc⟩
theorem KeptS.setRow {b : Nat} {w : World} {cs : Array Value} : KeptS b w (w.setRow b cs) :=
  ⟨by simp [World.setRow], fun g cs' t' f' hg _ hc => by rw [setRow_other _ _ _ _ hg]; exact hc⟩
theorem BoxP.rows {w : World} {B b : Nat} {p : PC} {vg vr vp vn vs : Value} (h : BoxP w B b p vg vr vp vn vs) : RowsP w B p vg vr vp vn vs := ⟨h.og, h.or, h.op, h.on, h.os⟩
abbrev cfgO (p : PC) (vg vr vp vn vs : Value) : Obj := .cells #[.int .i64 p.cats, vg, vr, vp, vn, vs, .int .i64 p.gate, .int .i64 p.quota] 36 (0, 0)
/-- a configuration that came by value, boxed twice, with the result between -/
theorem take_box {w W3 : World} {B : Nat} {p : PC} {vg vr vp vn vs : Value} (h : RowsP w B p vg vr vp vn vs) (hB : B ≤ w.heap.size)
    (hb : Below (((w.alloc (cfgO p vg vr vp vn vs)).alloc (.cells zeroL.toArray 36 (0, 0))).alloc (cfgO p vg vr vp vn vs)).heap.size (((w.alloc (cfgO p vg vr vp vn vs)).alloc (.cells zeroL.toArray 36 (0, 0))).alloc (cfgO p vg vr vp vn vs)) W3) :
    BoxP W3 B (w.heap.size + 2) p vg vr vp vn vs ∧ W3.heap[w.heap.size + 1]? = some (.cells zeroL.toArray 36 (0, 0)) ∧ Below w.heap.size w W3 := by
  have hal : Below w.heap.size w (((w.alloc (cfgO p vg vr vp vn vs)).alloc (.cells zeroL.toArray 36 (0, 0))).alloc (cfgO p vg vr vp vn vs)) := (((Below.refl _ _).alloc (Nat.le_refl _) _).alloc (by simp) _).alloc (by simp; omega) _
  have hbb : Below w.heap.size w W3 := hal.trans (hb.mono (by simp; omega))
  have hr := h.below hbb
  refine ⟨⟨(hb.block _ (by simp)).trans ?_, by omega, hr.og, hr.or, hr.op, hr.on, hr.os⟩, (hb.block _ (by simp)).trans ?_, hbb⟩
  · have := heap_alloc_new ((w.alloc (cfgO p vg vr vp vn vs)).alloc (.cells zeroL.toArray 36 (0, 0))) (cfgO p vg vr vp vn vs)
    simpa using this
  · rw [Below.heap_alloc _ _ _ (by simp)]
    have := heap_alloc_new (w.alloc (cfgO p vg vr vp vn vs)) (.cells zeroL.toArray 36 (0, 0))
    simpa using this
theorem results_ct {fn : Func} {t u : Tmp} (h : fn.results = #[.cell t 36, .tmp u]) (tmps : Array Value) (w : World) (g : Nat) (cs : Array Value) (x : Value) (h2 : tmps.getD t undef = .pointer (some ⟨g, 0, none⟩)) (h3 : tmps.getD u undef = x) (hg : w.heap[g]? = some (.cells cs 36 (0, 0))) (hn : (Tryd.prog.info? 36).map (·.size) = some cs.size) :
    (results fn tmps).run Tryd.prog w = .ok (.tuple #[.agg cs, x]) w := by
  have hp' : tmps[t]?.getD undef = .pointer (some ⟨g, 0, none⟩) := by simpa using h2
  have hp3 : tmps[u]?.getD undef = x := by simpa using h3
  simp [results, h, hp', hp3, asAddr, run_loadVar_row w g 36 36 cs (0, 0) _ hg Tryd.underlying36 rfl hn]
/-- what take answers of values that were read -/
def TakeAt (p : PC) (k : Nat) (v : List Int) (ok : Bool) (B : Nat) (w : World) (e : Ending) (w' : World) : Prop :=
  ∃ vg vr vp vn vs, e = .returned (.tuple #[cfgV (p.put k v) vg vr vp vn vs, .bool ok]) ∧ RowsP w' B (p.put k v) vg vr vp vn vs ∧ Below B w w' ∧ KeptS w.heap.size w w'
set_option maxHeartbeats 4000000 in
theorem take_1 (p : PC) (vg vr vp vn vs : Value) (sl : Value) (x a b : Int) (ok : Bool) (B : Nat) (w : World) (hB : B ≤ w.heap.size) (h : RowsP w B p vg vr vp vn vs) (hn : p.gs.length ≤ 1000000)
    (hl : ∀ W, Below w.heap.size w W → Calls Tryd.prog 68 #[sl] W fun e w' => e = .returned (.tuple #[.int .i64 x, .int .i64 a, .int .i64 b, .bool ok]) ∧ Below W.heap.size W w') :
    Calls Tryd.prog 34 #[cfgV p vg vr vp vn vs, .int .i64 1, sl] w fun e w' => TakeAt p 1 [x, a, b] ok B w e w' := by
  obtain ⟨i0, hi, hz0, hz1, hz2⟩ := info_parts info_guest
  have HR := Lib.hid h
  have HLL := Lib.hid hl
  clear hl
  obtain ⟨ga, gc, ra, rc, pa, qc, na, nc, sa, sc, rfl, rfl, rfl, rfl, rfl⟩ := rows_sl h
  have HBX := Lib.hid (fun (W : World) => take_box (W3 := W) h hB)
  have hal : Below w.heap.size w (((w.alloc (cfgO p (.slice ga p.gs.length gc) (.slice ra p.rs.length rc) (.slice pa p.ps.length qc) (.slice na p.ns.length nc) (.slice sa p.ss.length sc))).alloc (.cells zeroL.toArray 36 (0, 0))).alloc (cfgO p (.slice ga p.gs.length gc) (.slice ra p.rs.length rc) (.slice pa p.ps.length qc) (.slice na p.ns.length nc) (.slice sa p.ss.length sc))) := (((Below.refl _ _).alloc (Nat.le_refl _) _).alloc (by simp) _).alloc (by simp; omega) _
  have HL := Lib.hid (HLL.out _ hal)
  clear h hal
  go_enter Tryd.func34, Tryd.ntmps34
  go_upto_region 7 with (first | (go_at_call 68; refine HL.out.mono ?_; rintro e w3 ⟨rfl, hb3⟩; obtain ⟨hbx, hz, hbw⟩ := HBX.out _ hb3; have cb := (box_cell hbx.box 1 _ rfl).1; have fb := (box_cell hbx.box 1 _ rfl).2; have hlt := (Array.getElem?_eq_some_iff.1 hbx.box).1; have HX := Lib.hid hbx; have HZ := Lib.hid hz; clear hbx hz hb3) | (at_builtin; refine wpList_append_rec rfl (.tmp 32) (.tmp 37) 30 rfl 3 B 58 i0 _ 24 Tryd.underlying30 hi hz0 hz1 hz2 rfl (by decide) (.slice ga p.gs.length gc) p.gs rfl (HX.out.og.alloc _) ⟨w3.heap.size, 0, none⟩ 1 [x, a, b] rfl rfl (fun j u hj => cells_new w3 [.int .i64 x, .int .i64 a, .int .i64 b] 58 j u hj) (by omega) (by decide) (by simp; have := hbw.size; omega) ?_; intro v' w4 hO hG; have hX2 := HX.out.below ((Below.refl w3.heap.size w3).alloc (Nat.le_refl _) (.cells #[.int .i64 x, .int .i64 a, .int .i64 b] 58)); have hkp : Kept 58 _ w4 := Kept.grown hG.out (own_tag hX2.og.1); have hbx4 := hkp.2 _ _ _ _ (by decide) hX2.box; obtain ⟨c4, f4⟩ := box_cell hbx4 1 _ rfl; have hlt4 := (Array.getElem?_eq_some_iff.1 hbx4).1; have hz4 := hkp.2 _ _ _ _ (by decide) ((((Below.refl w3.heap.size w3).alloc (Nat.le_refl _) (.cells #[.int .i64 x, .int .i64 a, .int .i64 b] 58)).block _ (by omega)).trans HZ.out); have HF := Lib.hid (hX2.set1 hkp hO.out); have HZ5 := Lib.hid ((Below.heap_setCell w4 ⟨w.heap.size + 2, 1, none⟩ v' _ (by simp)).trans hz4); have hB4 : Below B w (w4.setCell ⟨w.heap.size + 2, 1, none⟩ v') := (((hbw.mono hB).alloc (by have := hbw.size; omega) (.cells #[.int .i64 x, .int .i64 a, .int .i64 b] 58)).grown hG.out (by simp; have := hbw.size; omega) (fun q hq => (World.ownsRow.lt hX2.og.1 q hq).1)).setCell (show B ≤ w.heap.size + 2 by omega) _; have hK4 : KeptS (w.heap.size + 1) w (w4.setCell ⟨w.heap.size + 2, 1, none⟩ v') := ((KeptS.of_below (b := w.heap.size + 2) hbw).trans ((KeptS.of_below ((Below.refl w3.heap.size w3).alloc (Nat.le_refl _) (.cells #[.int .i64 x, .int .i64 a, .int .i64 b] 58))).trans ((KeptS.of_kept hkp (by decide)).trans KeptS.setCell))).new (by omega); obtain ⟨gg, gcap, rfl⟩ := OwnT.form hO.out; clear hX2 hkp hbx4 hz4 hO hG))
  refine wp_region_lit ?_
  refine wpList_load_row rfl 36 _ rfl (w.heap.size + 2) (by kernel_rfl) 36 #[.int .i64 p.cats, .slice (some ⟨gg, 0, none⟩) (p.gs.length + 1) gcap, .slice ra p.rs.length rc, .slice pa p.ps.length qc, .slice na p.ns.length nc, .slice sa p.ss.length sc, .int .i64 p.gate, .int .i64 p.quota] (0, 0) _ HF.out.box Tryd.underlying36 rfl (by kernel_rfl) ?_
  refine wpList_value rfl (.bool ok) (by kernel_rfl) ?_
  refine wpList_store_row rfl 36 (.tmp 6) (.tmp 49) rfl (w.heap.size + 1) #[.int .i64 p.cats, .slice (some ⟨gg, 0, none⟩) (p.gs.length + 1) gcap, .slice ra p.rs.length rc, .slice pa p.ps.length qc, .slice na p.ns.length nc, .slice sa p.ss.length sc, .int .i64 p.gate, .int .i64 p.quota] (by kernel_rfl) (by kernel_rfl) 36 _ HZ5.out (by kernel_rfl) rfl (by kernel_rfl) ?_
  have hrow := Lib.hid (setRow_heap _ (w.heap.size + 1) _ #[.int .i64 p.cats, .slice (some ⟨gg, 0, none⟩) (p.gs.length + 1) gcap, .slice ra p.rs.length rc, .slice pa p.ps.length qc, .slice na p.ns.length nc, .slice sa p.ss.length sc, .int .i64 p.gate, .int .i64 p.quota] _ _ HZ5.out)
  have hbe := below_setRow hB4 (show B ≤ w.heap.size + 1 by omega) #[.int .i64 p.cats, .slice (some ⟨gg, 0, none⟩) (p.gs.length + 1) gcap, .slice ra p.rs.length rc, .slice pa p.ps.length qc, .slice na p.ns.length nc, .slice sa p.ss.length sc, .int .i64 p.gate, .int .i64 p.quota]
  have hke := (hK4.trans (KeptS.setRow (cs := #[.int .i64 p.cats, .slice (some ⟨gg, 0, none⟩) (p.gs.length + 1) gcap, .slice ra p.rs.length rc, .slice pa p.ps.length qc, .slice na p.ns.length nc, .slice sa p.ss.length sc, .int .i64 p.gate, .int .i64 p.quota]))).new (c := w.heap.size) (by omega)
  have hre := Lib.hid (HF.out.rows.setRow (new := #[.int .i64 p.cats, .slice (some ⟨gg, 0, none⟩) (p.gs.length + 1) gcap, .slice ra p.rs.length rc, .slice pa p.ps.length qc, .slice na p.ns.length nc, .slice sa p.ss.length sc, .int .i64 p.gate, .int .i64 p.quota]) HZ5.out)
  go_wp2
  exact bodyPost_ret (v := .tuple #[cfgV (p.put 1 [x, a, b]) (.slice (some ⟨gg, 0, none⟩) (p.gs.length + 1) gcap) (.slice ra p.rs.length rc) (.slice pa p.ps.length qc) (.slice na p.ns.length nc) (.slice sa p.ss.length sc), .bool ok]) (results_ct rfl _ _ (w.heap.size + 1) _ _ rfl rfl hrow.out (by kernel_rfl)) rfl ⟨_, _, _, _, _, rfl, hre.out, hbe, hke⟩
set_option maxHeartbeats 4000000 in
theorem take_2 (p : PC) (vg vr vp vn vs : Value) (sl : Value) (x a b : Int) (ok : Bool) (B : Nat) (w : World) (hB : B ≤ w.heap.size) (h : RowsP w B p vg vr vp vn vs) (hn : p.rs.length ≤ 1000000)
    (hl : ∀ W, Below w.heap.size w W → Calls Tryd.prog 68 #[sl] W fun e w' => e = .returned (.tuple #[.int .i64 x, .int .i64 a, .int .i64 b, .bool ok]) ∧ Below W.heap.size W w') :
    Calls Tryd.prog 34 #[cfgV p vg vr vp vn vs, .int .i64 2, sl] w fun e w' => TakeAt p 2 [x, a, b] ok B w e w' := by
  obtain ⟨i0, hi, hz0, hz1, hz2⟩ := info_parts info_range
  have HR := Lib.hid h
  have HLL := Lib.hid hl
  clear hl
  obtain ⟨ga, gc, ra, rc, pa, qc, na, nc, sa, sc, rfl, rfl, rfl, rfl, rfl⟩ := rows_sl h
  have HBX := Lib.hid (fun (W : World) => take_box (W3 := W) h hB)
  have hal : Below w.heap.size w (((w.alloc (cfgO p (.slice ga p.gs.length gc) (.slice ra p.rs.length rc) (.slice pa p.ps.length qc) (.slice na p.ns.length nc) (.slice sa p.ss.length sc))).alloc (.cells zeroL.toArray 36 (0, 0))).alloc (cfgO p (.slice ga p.gs.length gc) (.slice ra p.rs.length rc) (.slice pa p.ps.length qc) (.slice na p.ns.length nc) (.slice sa p.ss.length sc))) := (((Below.refl _ _).alloc (Nat.le_refl _) _).alloc (by simp) _).alloc (by simp; omega) _
  have HL := Lib.hid (HLL.out _ hal)
  clear h hal
  go_enter Tryd.func34, Tryd.ntmps34
  go_upto_region 7 with (first | (go_at_call 68; refine HL.out.mono ?_; rintro e w3 ⟨rfl, hb3⟩; obtain ⟨hbx, hz, hbw⟩ := HBX.out _ hb3; have cb := (box_cell hbx.box 2 _ rfl).1; have fb := (box_cell hbx.box 2 _ rfl).2; have hlt := (Array.getElem?_eq_some_iff.1 hbx.box).1; have HX := Lib.hid hbx; have HZ := Lib.hid hz; clear hbx hz hb3) | (at_builtin; refine wpList_append_rec rfl (.tmp 41) (.tmp 46) 31 rfl 3 B 60 i0 _ 24 Tryd.underlying31 hi hz0 hz1 hz2 rfl (by decide) (.slice ra p.rs.length rc) p.rs rfl (HX.out.or.alloc _) ⟨w3.heap.size, 0, none⟩ 1 [x, a, b] rfl rfl (fun j u hj => cells_new w3 [.int .i64 x, .int .i64 a, .int .i64 b] 60 j u hj) (by omega) (by decide) (by simp; have := hbw.size; omega) ?_; intro v' w4 hO hG; have hX2 := HX.out.below ((Below.refl w3.heap.size w3).alloc (Nat.le_refl _) (.cells #[.int .i64 x, .int .i64 a, .int .i64 b] 60)); have hkp : Kept 60 _ w4 := Kept.grown hG.out (own_tag hX2.or.1); have hbx4 := hkp.2 _ _ _ _ (by decide) hX2.box; obtain ⟨c4, f4⟩ := box_cell hbx4 2 _ rfl; have hlt4 := (Array.getElem?_eq_some_iff.1 hbx4).1; have hz4 := hkp.2 _ _ _ _ (by decide) ((((Below.refl w3.heap.size w3).alloc (Nat.le_refl _) (.cells #[.int .i64 x, .int .i64 a, .int .i64 b] 60)).block _ (by omega)).trans HZ.out); have HF := Lib.hid (hX2.set2 hkp hO.out); have HZ5 := Lib.hid ((Below.heap_setCell w4 ⟨w.heap.size + 2, 2, none⟩ v' _ (by simp)).trans hz4); have hB4 : Below B w (w4.setCell ⟨w.heap.size + 2, 2, none⟩ v') := (((hbw.mono hB).alloc (by have := hbw.size; omega) (.cells #[.int .i64 x, .int .i64 a, .int .i64 b] 60)).grown hG.out (by simp; have := hbw.size; omega) (fun q hq => (World.ownsRow.lt hX2.or.1 q hq).1)).setCell (show B ≤ w.heap.size + 2 by omega) _; have hK4 : KeptS (w.heap.size + 1) w (w4.setCell ⟨w.heap.size + 2, 2, none⟩ v') := ((KeptS.of_below (b := w.heap.size + 2) hbw).trans ((KeptS.of_below ((Below.refl w3.heap.size w3).alloc (Nat.le_refl _) (.cells #[.int .i64 x, .int .i64 a, .int .i64 b] 60))).trans ((KeptS.of_kept hkp (by decide)).trans KeptS.setCell))).new (by omega); obtain ⟨gg, gcap, rfl⟩ := OwnT.form hO.out; clear hX2 hkp hbx4 hz4 hO hG))
  refine wp_region_lit ?_
  refine wpList_load_row rfl 36 _ rfl (w.heap.size + 2) (by kernel_rfl) 36 #[.int .i64 p.cats, .slice ga p.gs.length gc, .slice (some ⟨gg, 0, none⟩) (p.rs.length + 1) gcap, .slice pa p.ps.length qc, .slice na p.ns.length nc, .slice sa p.ss.length sc, .int .i64 p.gate, .int .i64 p.quota] (0, 0) _ HF.out.box Tryd.underlying36 rfl (by kernel_rfl) ?_
  refine wpList_value rfl (.bool ok) (by kernel_rfl) ?_
  refine wpList_store_row rfl 36 (.tmp 6) (.tmp 49) rfl (w.heap.size + 1) #[.int .i64 p.cats, .slice ga p.gs.length gc, .slice (some ⟨gg, 0, none⟩) (p.rs.length + 1) gcap, .slice pa p.ps.length qc, .slice na p.ns.length nc, .slice sa p.ss.length sc, .int .i64 p.gate, .int .i64 p.quota] (by kernel_rfl) (by kernel_rfl) 36 _ HZ5.out (by kernel_rfl) rfl (by kernel_rfl) ?_
  have hrow := Lib.hid (setRow_heap _ (w.heap.size + 1) _ #[.int .i64 p.cats, .slice ga p.gs.length gc, .slice (some ⟨gg, 0, none⟩) (p.rs.length + 1) gcap, .slice pa p.ps.length qc, .slice na p.ns.length nc, .slice sa p.ss.length sc, .int .i64 p.gate, .int .i64 p.quota] _ _ HZ5.out)
  have hbe := below_setRow hB4 (show B ≤ w.heap.size + 1 by omega) #[.int .i64 p.cats, .slice ga p.gs.length gc, .slice (some ⟨gg, 0, none⟩) (p.rs.length + 1) gcap, .slice pa p.ps.length qc, .slice na p.ns.length nc, .slice sa p.ss.length sc, .int .i64 p.gate, .int .i64 p.quota]
  have hke := (hK4.trans (KeptS.setRow (cs := #[.int .i64 p.cats, .slice ga p.gs.length gc, .slice (some ⟨gg, 0, none⟩) (p.rs.length + 1) gcap, .slice pa p.ps.length qc, .slice na p.ns.length nc, .slice sa p.ss.length sc, .int .i64 p.gate, .int .i64 p.quota]))).new (c := w.heap.size) (by omega)
  have hre := Lib.hid (HF.out.rows.setRow (new := #[.int .i64 p.cats, .slice ga p.gs.length gc, .slice (some ⟨gg, 0, none⟩) (p.rs.length + 1) gcap, .slice pa p.ps.length qc, .slice na p.ns.length nc, .slice sa p.ss.length sc, .int .i64 p.gate, .int .i64 p.quota]) HZ5.out)
  go_wp2
  exact bodyPost_ret (v := .tuple #[cfgV (p.put 2 [x, a, b]) (.slice ga p.gs.length gc) (.slice (some ⟨gg, 0, none⟩) (p.rs.length + 1) gcap) (.slice pa p.ps.length qc) (.slice na p.ns.length nc) (.slice sa p.ss.length sc), .bool ok]) (results_ct rfl _ _ (w.heap.size + 1) _ _ rfl rfl hrow.out (by kernel_rfl)) rfl ⟨_, _, _, _, _, rfl, hre.out, hbe, hke⟩
set_option maxHeartbeats 4000000 in
theorem take_3 (p : PC) (vg vr vp vn vs : Value) (sl : Value) (x a : Int) (ok : Bool) (B : Nat) (w : World) (hB : B ≤ w.heap.size) (h : RowsP w B p vg vr vp vn vs) (hn : p.ps.length ≤ 1000000)
    (hl : ∀ W, Below w.heap.size w W → Calls Tryd.prog 69 #[sl] W fun e w' => e = .returned (.tuple #[.agg #[.int .i64 x, .int .i64 a], .bool ok]) ∧ Below W.heap.size W w') :
    Calls Tryd.prog 34 #[cfgV p vg vr vp vn vs, .int .i64 3, sl] w fun e w' => TakeAt p 3 [x, a] ok B w e w' := by
  obtain ⟨i0, hi, hz0, hz1, hz2⟩ := info_parts info_port
  have HR := Lib.hid h
  have HLL := Lib.hid hl
  clear hl
  obtain ⟨ga, gc, ra, rc, pa, qc, na, nc, sa, sc, rfl, rfl, rfl, rfl, rfl⟩ := rows_sl h
  have HBX := Lib.hid (fun (W : World) => take_box (W3 := W) h hB)
  have hal : Below w.heap.size w (((w.alloc (cfgO p (.slice ga p.gs.length gc) (.slice ra p.rs.length rc) (.slice pa p.ps.length qc) (.slice na p.ns.length nc) (.slice sa p.ss.length sc))).alloc (.cells zeroL.toArray 36 (0, 0))).alloc (cfgO p (.slice ga p.gs.length gc) (.slice ra p.rs.length rc) (.slice pa p.ps.length qc) (.slice na p.ns.length nc) (.slice sa p.ss.length sc))) := (((Below.refl _ _).alloc (Nat.le_refl _) _).alloc (by simp) _).alloc (by simp; omega) _
  have HL := Lib.hid (HLL.out _ hal)
  clear h hal
  go_enter Tryd.func34, Tryd.ntmps34
  go_upto_region 11 with (first | (go_at_call 69; refine HL.out.mono ?_; rintro e w3 ⟨rfl, hb3⟩; obtain ⟨hbx, hz, hbw⟩ := HBX.out _ hb3; have cb := (box_cell hbx.box 3 _ rfl).1; have fb := (box_cell hbx.box 3 _ rfl).2; have hlt := (Array.getElem?_eq_some_iff.1 hbx.box).1; have HX := Lib.hid hbx; have HZ := Lib.hid hz; clear hbx hz hb3) | (at_builtin; refine wpList_append_rec rfl (.tmp 59) (.tmp 61) 32 rfl 2 B 62 i0 _ 16 Tryd.underlying32 hi hz0 hz1 hz2 rfl (by decide) (.slice pa p.ps.length qc) p.ps rfl ((HX.out.op.alloc _).alloc _) ⟨w3.heap.size + 1, 0, none⟩ 1 [x, a] rfl rfl (fun j u hj => by have h0 := cells_new (w3.alloc (.cells #[.int .i64 x, .int .i64 a] 62)) [.int .i64 x, .int .i64 a] 62 j u hj; simpa using h0) (by omega) (by decide) (by simp; have := hbw.size; omega) ?_; intro v' w4 hO hG; have hX2 := HX.out.below (((Below.refl w3.heap.size w3).alloc (Nat.le_refl _) (.cells #[.int .i64 x, .int .i64 a] 62)).alloc (by simp) (.cells #[.int .i64 x, .int .i64 a] 62)); have hkp : Kept 62 _ w4 := Kept.grown hG.out (own_tag hX2.op.1); have hbx4 := hkp.2 _ _ _ _ (by decide) hX2.box; obtain ⟨c4, f4⟩ := box_cell hbx4 3 _ rfl; have hlt4 := (Array.getElem?_eq_some_iff.1 hbx4).1; have hz4 := hkp.2 _ _ _ _ (by decide) (((((Below.refl w3.heap.size w3).alloc (Nat.le_refl _) (.cells #[.int .i64 x, .int .i64 a] 62)).alloc (by simp) (.cells #[.int .i64 x, .int .i64 a] 62)).block _ (by omega)).trans HZ.out); have HF := Lib.hid (hX2.set3 hkp hO.out); have HZ5 := Lib.hid ((Below.heap_setCell w4 ⟨w.heap.size + 2, 3, none⟩ v' _ (by simp)).trans hz4); have hB4 : Below B w (w4.setCell ⟨w.heap.size + 2, 3, none⟩ v') := ((((hbw.mono hB).alloc (by have := hbw.size; omega) (.cells #[.int .i64 x, .int .i64 a] 62)).alloc (by simp; have := hbw.size; omega) (.cells #[.int .i64 x, .int .i64 a] 62)).grown hG.out (by simp; have := hbw.size; omega) (fun q hq => (World.ownsRow.lt hX2.op.1 q hq).1)).setCell (show B ≤ w.heap.size + 2 by omega) _; have hK4 : KeptS (w.heap.size + 1) w (w4.setCell ⟨w.heap.size + 2, 3, none⟩ v') := ((KeptS.of_below (b := w.heap.size + 2) hbw).trans ((KeptS.of_below (((Below.refl w3.heap.size w3).alloc (Nat.le_refl _) (.cells #[.int .i64 x, .int .i64 a] 62)).alloc (by simp) (.cells #[.int .i64 x, .int .i64 a] 62))).trans ((KeptS.of_kept hkp (by decide)).trans KeptS.setCell))).new (by omega); obtain ⟨gg, gcap, rfl⟩ := OwnT.form hO.out; clear hX2 hkp hbx4 hz4 hO hG))
  refine wp_region_lit ?_
  refine wpList_load_row rfl 36 _ rfl (w.heap.size + 2) (by kernel_rfl) 36 #[.int .i64 p.cats, .slice ga p.gs.length gc, .slice ra p.rs.length rc, .slice (some ⟨gg, 0, none⟩) (p.ps.length + 1) gcap, .slice na p.ns.length nc, .slice sa p.ss.length sc, .int .i64 p.gate, .int .i64 p.quota] (0, 0) _ HF.out.box Tryd.underlying36 rfl (by kernel_rfl) ?_
  refine wpList_value rfl (.bool ok) (by kernel_rfl) ?_
  refine wpList_store_row rfl 36 (.tmp 6) (.tmp 64) rfl (w.heap.size + 1) #[.int .i64 p.cats, .slice ga p.gs.length gc, .slice ra p.rs.length rc, .slice (some ⟨gg, 0, none⟩) (p.ps.length + 1) gcap, .slice na p.ns.length nc, .slice sa p.ss.length sc, .int .i64 p.gate, .int .i64 p.quota] (by kernel_rfl) (by kernel_rfl) 36 _ HZ5.out (by kernel_rfl) rfl (by kernel_rfl) ?_
  have hrow := Lib.hid (setRow_heap _ (w.heap.size + 1) _ #[.int .i64 p.cats, .slice ga p.gs.length gc, .slice ra p.rs.length rc, .slice (some ⟨gg, 0, none⟩) (p.ps.length + 1) gcap, .slice na p.ns.length nc, .slice sa p.ss.length sc, .int .i64 p.gate, .int .i64 p.quota] _ _ HZ5.out)
  have hbe := below_setRow hB4 (show B ≤ w.heap.size + 1 by omega) #[.int .i64 p.cats, .slice ga p.gs.length gc, .slice ra p.rs.length rc, .slice (some ⟨gg, 0, none⟩) (p.ps.length + 1) gcap, .slice na p.ns.length nc, .slice sa p.ss.length sc, .int .i64 p.gate, .int .i64 p.quota]
  have hke := (hK4.trans (KeptS.setRow (cs := #[.int .i64 p.cats, .slice ga p.gs.length gc, .slice ra p.rs.length rc, .slice (some ⟨gg, 0, none⟩) (p.ps.length + 1) gcap, .slice na p.ns.length nc, .slice sa p.ss.length sc, .int .i64 p.gate, .int .i64 p.quota]))).new (c := w.heap.size) (by omega)
  have hre := Lib.hid (HF.out.rows.setRow (new := #[.int .i64 p.cats, .slice ga p.gs.length gc, .slice ra p.rs.length rc, .slice (some ⟨gg, 0, none⟩) (p.ps.length + 1) gcap, .slice na p.ns.length nc, .slice sa p.ss.length sc, .int .i64 p.gate, .int .i64 p.quota]) HZ5.out)
  go_wp2
  exact bodyPost_ret (v := .tuple #[cfgV (p.put 3 [x, a]) (.slice ga p.gs.length gc) (.slice ra p.rs.length rc) (.slice (some ⟨gg, 0, none⟩) (p.ps.length + 1) gcap) (.slice na p.ns.length nc) (.slice sa p.ss.length sc), .bool ok]) (results_ct rfl _ _ (w.heap.size + 1) _ _ rfl rfl hrow.out (by kernel_rfl)) rfl ⟨_, _, _, _, _, rfl, hre.out, hbe, hke⟩
end Go.Proofs.YtikkfapgmbamlaaDoor.Pl
end
