/- Several texts in one: Fb Fc -/
import Derived.Test.YtikkfapgmbamlaaGreatDoorZ07
import Derived.Test.YtikkfapgmbamlaaGreatDoorZ11
import Derived.Deep.Cut
import Derived.Deep.DeepCutAuto
import Derived.Deep.CutBlock
section
/- The document's port and take of layer 5: a line of a rank laid into a configuration that comes and goes by value. -/
namespace Go.Proofs.YtikkfapgmbamlaaGreatDoor.Pl
open Go.RowKit Ut
set_option linter.unusedVariables false
set_option maxRecDepth 100000

theorem port_split (x y : List UInt8) : valsL [108, 112] [x, y] = if (La.parseF x).2 = 0 then (if y = [111, 117, 116] then some [(La.parseF x).1, -1] else (numL y).map fun n => [(La.parseF x).1, (n : Int)]) else none := by
  have hn : valL 112 y = if y = [111, 117, 116] then some (-1) else (numL y).map Int.ofNat := by
    unfold valL
    rw [if_neg (by decide)]
    by_cases h : y = [111, 117, 116]
    · rw [if_pos ⟨rfl, h⟩, if_pos h]
    · rw [if_neg (fun e => h e.2), if_neg h]
  have hl : valL 108 x = if (La.parseF x).2 = 0 then some (La.parseF x).1 else none := by unfold valL; rw [if_pos rfl]
  simp only [valsL, hn, hl]
  by_cases h : (La.parseF x).2 = 0
  · rw [if_pos h, if_pos h]
    by_cases h2 : y = [111, 117, 116]
    · rw [if_pos h2, if_pos h2]
    · rw [if_neg h2, if_neg h2]
      cases numL y <;> rfl
  · rw [if_neg h, if_neg h]
/-- what port answers -/
def portV (x y : List UInt8) : Value := if (La.parseF x).2 = 0 then (if y = [111, 117, 116] then .tuple #[.agg #[.int .i64 (La.parseF x).1, .int .i64 (-1)], .bool true] else match numL y with
    | some m => .tuple #[.agg #[.int .i64 (La.parseF x).1, .int .i64 (m : Int)], .bool true]
    | none => .tuple #[.agg #[.int .i64 (La.parseF x).1, .int .i64 0], .bool false])
  else .tuple #[.agg #[.int .i64 0, .int .i64 0], .bool false]
theorem portV_cases (x y : List UInt8) : (∃ l g, valsL [108, 112] [x, y] = some [l, g] ∧ portV x y = .tuple #[.agg #[.int .i64 l, .int .i64 g], .bool true]) ∨ (valsL [108, 112] [x, y] = none ∧ ∃ l g, portV x y = .tuple #[.agg #[.int .i64 l, .int .i64 g], .bool false]) := by
  rw [port_split]
  unfold portV
  by_cases h : (La.parseF x).2 = 0
  · simp only [if_pos h]
    by_cases h2 : y = [111, 117, 116]
    · simp only [if_pos h2]
      exact .inl ⟨_, _, rfl, rfl⟩
    · simp only [if_neg h2]
      cases numL y with
      | none => exact .inr ⟨rfl, _, _, rfl⟩
      | some m => exact .inl ⟨_, _, rfl, rfl⟩
  · simp only [if_neg h]
    exact .inr ⟨trivial, _, _, rfl⟩
theorem set2 {W : World} {b : Nat} {v0 v1 : Value} {t : TypeId} (h : W.heap[b]? = some (.cells [v0, v1].toArray t (0, 0))) (u0 u1 : Value) :
    ((W.setCell ⟨b, 0, none⟩ u0).setCell ⟨b, 1, none⟩ u1).heap[b]? = some (.cells [u0, u1].toArray t (0, 0)) := box_set (box_set h 0 u0) 1 u1
theorem cells2 {W : World} {b : Nat} {v0 v1 : Value} {t : TypeId} (h : W.heap[b]? = some (.cells [v0, v1].toArray t (0, 0))) :
    W.cell? ⟨b, 0, none⟩ = some v0 ∧ W.cell? ⟨b, 1, none⟩ = some v1 ∧ W.frozen? ⟨b, 0, none⟩ = false ∧ W.frozen? ⟨b, 1, none⟩ = false ∧ b < W.heap.size :=
  ⟨(box_cell h 0 _ rfl).1, (box_cell h 1 _ rfl).1, (box_cell h 0 _ rfl).2, (box_cell h 1 _ rfl).2, (Array.getElem?_eq_some_iff.1 h).1⟩
end Go.Proofs.YtikkfapgmbamlaaGreatDoor.Pl
end
section
/- The document's take of layer 5: a line with a label laid into a configuration that comes and goes by value. -/
namespace Go.Proofs.YtikkfapgmbamlaaGreatDoor.Pl
open Go.RowKit Ut
set_option linter.unusedVariables false
set_option maxRecDepth 100000

/-- one record more, outside a drawn region -/
theorem wpList_append_rec {P : Program} {w : World} {ops : Array Oper} {rest : List Oper} {o : Oper} {a : Act} {Q : Exit → Act → World → Prop} (hgd : o.guard = none) (s x : Operand) (t : TypeId)
    (ho : o.op = .call { callee := .builtin .append, args := #[s, x], argTypes := #[t, t] })
    (k base : Nat) (e : TypeId) (i : TypeInfo) (z : Value) (bytes : Nat) (ht : P.underlying t = some (.slice e)) (hi : P.info? e = some i) (hz : i.zero = some z) (hs : i.size = k) (hb : i.bytes = bytes) (hzs : z.cells.size = k) (hk : 0 < k)
    (v : Value) (xs : List (List Int)) (hv : a.eval s = v) (hown : OwnT k w base e v xs) (ad : Addr) (c : Nat) (y : List Int) (hx : a.eval x = .slice (some ad) 1 c) (hy : y.length = k)
    (hc : ∀ j u, (encI y)[j]? = some u → w.cell? (ad.add j) = some u) (h63 : xs.length + 1 ≤ 1099511627776) (hbytes : bytes ≤ 64) (hbase : base ≤ w.heap.size)
    (h : ∀ v' w', Hid (OwnT k w' base e v' (xs ++ [y])) → Hid (w.grownBy w' v.ownBlock) → wpList P ops Q rest (a.put o.dst v') w') : wpList P ops Q (o :: rest) a w :=
  wpList_plain hgd fun K hK => by
    have := step_append_rec (ops := ops) (E := True) (Q := Q) (K := K) (P := P) (w := w) (a := a) hgd s x t ho k base e i z bytes ht hi hz hs hb hzs hk v xs hv hown ad c y hx hy hc h63 hbytes hbase (fun v' w' h1 h2 => hK _ _ (h v' w' h1 h2))
    have hw : Region.wanted o (yielded ops a.tmps) = true := by simp [Region.wanted, hgd]
    rwa [if_pos hw] at this
theorem own_sl {k : Nat} {w : World} {B : Nat} {e : TypeId} {v : Value} {xs : List (List Int)} (h : OwnT k w B e v xs) : ∃ a cap, v = .slice a xs.length cap := by
  rcases h.1.2 with ⟨rfl, h0⟩ | ⟨g, cap, cur, rfl, _⟩
  · exact ⟨none, 0, by rw [h0]⟩
  · exact ⟨_, _, rfl⟩
theorem rows_sl {w : World} {B : Nat} {p : PC} {vg vr vp vn vs : Value} (h : RowsP w B p vg vr vp vn vs) : ∃ ga gc ra rc pa qc na nc sa sc, vg = .slice ga p.gs.length gc ∧ vr = .slice ra p.rs.length rc ∧ vp = .slice pa p.ps.length qc ∧ vn = .slice na p.ns.length nc ∧ vs = .slice sa p.ss.length sc := by
  obtain ⟨a1, c1, e1⟩ := own_sl h.og
  obtain ⟨a2, c2, e2⟩ := own_sl h.or
  obtain ⟨a3, c3, e3⟩ := own_sl h.op
  obtain ⟨a4, c4, e4⟩ := own_sl h.on
  obtain ⟨a5, c5, e5⟩ := own_sl h.os
  exact ⟨a1, c1, a2, c2, a3, c3, a4, c4, a5, c5, e1, e2, e3, e4, e5⟩
theorem KeptS.new {b c : Nat} {w w' : World} (h : KeptS b w w') (hb : w.heap.size ≤ b) : KeptS c w w' :=
  ⟨h.1, fun g cs t f _ ht hc => h.2 g cs t f (by have := (Array.getElem?_eq_some_iff.1 hc).1; omega) ht hc⟩
theorem KeptS.setRow {b : Nat} {w : World} {cs : Array Value} : KeptS b w (w.setRow b cs) :=
  ⟨by simp [World.setRow], fun g cs' t' f' hg _ hc => by rw [setRow_other _ _ _ _ hg]; exact hc⟩
theorem BoxP.rows {w : World} {B b : Nat} {p : PC} {vg vr vp vn vs : Value} (h : BoxP w B b p vg vr vp vn vs) : RowsP w B p vg vr vp vn vs := ⟨h.og, h.or, h.op, h.on, h.os⟩
abbrev cfgO (p : PC) (vg vr vp vn vs : Value) : Obj := .cells #[.int .i64 p.cats, vg, vr, vp, vn, vs, .int .i64 p.gate, .int .i64 p.quota] 28 (0, 0)
/-- a configuration that came by value, boxed twice, with the result between -/
theorem take_box {w W3 : World} {B : Nat} {p : PC} {vg vr vp vn vs : Value} (h : RowsP w B p vg vr vp vn vs) (hB : B ≤ w.heap.size)
    (hb : Below (((w.alloc (cfgO p vg vr vp vn vs)).alloc (.cells zeroL.toArray 28 (0, 0))).alloc (cfgO p vg vr vp vn vs)).heap.size (((w.alloc (cfgO p vg vr vp vn vs)).alloc (.cells zeroL.toArray 28 (0, 0))).alloc (cfgO p vg vr vp vn vs)) W3) :
    BoxP W3 B (w.heap.size + 2) p vg vr vp vn vs ∧ W3.heap[w.heap.size + 1]? = some (.cells zeroL.toArray 28 (0, 0)) ∧ Below w.heap.size w W3 := by
  have hal : Below w.heap.size w (((w.alloc (cfgO p vg vr vp vn vs)).alloc (.cells zeroL.toArray 28 (0, 0))).alloc (cfgO p vg vr vp vn vs)) := (((Below.refl _ _).alloc (Nat.le_refl _) _).alloc (by simp) _).alloc (by simp; omega) _
  have hbb : Below w.heap.size w W3 := hal.trans (hb.mono (by simp; omega))
  have hr := h.below hbb
  refine ⟨⟨(hb.block _ (by simp)).trans ?_, by omega, hr.og, hr.or, hr.op, hr.on, hr.os⟩, (hb.block _ (by simp)).trans ?_, hbb⟩
  · have := heap_alloc_new ((w.alloc (cfgO p vg vr vp vn vs)).alloc (.cells zeroL.toArray 28 (0, 0))) (cfgO p vg vr vp vn vs)
    simpa using this
  · rw [Below.heap_alloc _ _ _ (by simp)]
    have := heap_alloc_new (w.alloc (cfgO p vg vr vp vn vs)) (.cells zeroL.toArray 28 (0, 0))
    simpa using this
theorem results_ct {fn : Func} {t u : Tmp} (h : fn.results = #[.cell t 28, .tmp u]) (tmps : Array Value) (w : World) (g : Nat) (cs : Array Value) (x : Value) (h2 : tmps.getD t undef = .pointer (some ⟨g, 0, none⟩)) (h3 : tmps.getD u undef = x) (hg : w.heap[g]? = some (.cells cs 28 (0, 0))) (hn : (Tryz.prog.info? 28).map (·.size) = some cs.size) :
    (results fn tmps).run Tryz.prog w = .ok (.tuple #[.agg cs, x]) w := by
  have hp' : tmps[t]?.getD undef = .pointer (some ⟨g, 0, none⟩) := by simpa using h2
  have hp3 : tmps[u]?.getD undef = x := by simpa using h3
  simp [results, h, hp', hp3, asAddr, run_loadVar_row w g 28 28 cs (0, 0) _ hg Tryz.underlying28 rfl hn]
/-- what take answers of values that were read -/
def TakeAt (p : PC) (k : Nat) (v : List Int) (ok : Bool) (B : Nat) (w : World) (e : Ending) (w' : World) : Prop :=
  ∃ vg vr vp vn vs, e = .returned (.tuple #[cfgV (p.put k v) vg vr vp vn vs, .bool ok]) ∧ RowsP w' B (p.put k v) vg vr vp vn vs ∧ Below B w w' ∧ KeptS w.heap.size w w'
end Go.Proofs.YtikkfapgmbamlaaGreatDoor.Pl
end
