/- A right configuration of which one thing is made wrong is not right, and it is told which. For any configuration and any number of 8 bits, hermitagelaw04.ConfigOne returns true and leaves its lists as they were; it asks for no condition. -/
import Derived.Test.YtmekoanobicddaaVt
import Derived.Deep.Slices
import Derived.Deep.Fields
import Derived.ChangeSame
import Derived.SizedLaws
import Derived.Lib.SmallJoins
import Derived.Test.YtmekoanobicddaaCa
import Derived.Test.YtmekoanobicddaaCm
import Derived.Test.YtmekoanobicddaaRows
import Derived.WalkKit
import Derived.ProofKit
import Derived.OpenShut
import Derived.ShutString
import Derived.ChangeOld
import Derived.Below
namespace Go.Proofs.Ytmekoanobicddaa.Ut
open Go.ChangeShapes Go.WideShapes Go.Deep Go.RowKit

theorem cell_lt {w : World} {a : Addr} {v : Value} (h : w.cell? a = some v) : a.block < w.heap.size := by
  rcases Nat.lt_or_ge a.block w.heap.size with hl | hl
  · exact hl
  · simp [World.cell?, Array.getElem?_eq_none hl] at h

section
variable {H : Type} {enc : TypeId × Value → H} {P : Program} {w : World} {base : Nat} {held : Bool}

/-- the fields of a struct that came in by value -/
theorem open_fields {r : Reach} {b0 : Nat} {t : TypeId} {fs : Array Field} {v : Value} {d : DataW H} {p : List MemPlace} {spare : Nat → Bool} (hs : P.underlying t = some (.struct fs)) (hone : oneCellFields P fs = true) (hC : P.cellsOf t = fs.size)
    (hv : Value.okWide P w r b0 t v) (h : DataW.Trod enc P w base spare held t v d p) :
    ∃ (cs : List Value) (ys : List (DataW H × List MemPlace)) (n : Nat), v = .agg cs.toArray ∧ cs.length = fs.size ∧ d = .agg (ys.map (·.1)) ∧ ys.length = fs.size ∧
      ∀ (j : Nat) (f : Field), fs[j]? = some f → ∃ c y, cs[j]? = some c ∧ ys[j]? = some y ∧ DataW.trod enc P w base spare held n f.type [c] = some y := by
  obtain ⟨cs, rfl, hsz⟩ := okWide_struct hs hv
  obtain ⟨l⟩ := cs
  have hl : l.length = fs.size := by simpa using hsz.trans hC
  obtain ⟨fuel, hf⟩ := h
  obtain ⟨ys, n, _, hx, _, hlen, hg⟩ := DataW.trod_struct hs hf
  simp only [Prod.mk.injEq] at hx
  refine ⟨l, ys, n, rfl, hl, hx.1, hlen, fun j f hj => ?_⟩
  obtain ⟨o1, k1⟩ := hone_of hone j f hj
  have hjl : j < fs.size := (Array.getElem?_eq_some_iff.1 hj).1
  have h1 := hg j f hj
  simp only [Value.cells] at h1
  rw [o1, k1] at h1
  have hd1 : (l.drop j).take 1 = [l[j]'(by omega)] := by
    rw [List.drop_eq_getElem_cons (by omega)]
    rfl
  rw [hd1] at h1
  have hy : ys[j]? = some (ys[j]'(by omega)) := List.getElem?_eq_getElem (by omega)
  exact ⟨_, _, List.getElem?_eq_getElem (by omega), hy, h1.trans hy⟩

/-- a slice of structs of integers -/
theorem open_recs {t e : TypeId} {fs : Array Field} {fuel : Nat} {c : Value} {x : DataW H × List MemPlace} (ht : P.underlying t = some (.slice e)) (he : P.underlying e = some (.struct fs)) (hone : oneCellFields P fs = true) (hC : P.cellsOf e = fs.size)
    (hint : ∀ (j : Nat) (f : Field), fs[j]? = some f → P.underlying f.type = some (.int .i64)) (h0 : 0 < fs.size) (h : DataW.trod enc P w base (fun _ => true) held fuel t [c] = some x) :
    ∃ (a : Option Addr) (n cap : Nat) (Z : Nat → Nat → Int), c = .slice a n cap ∧ n ≤ cap ∧ ((cap = 0) ∨ ∃ el sp, x.1 = .slice el sp ∧ el.length + sp.length = cap) ∧
      ∀ i, i < n → ∃ y, a = some y ∧ y.block < w.heap.size ∧ ∀ j, j < fs.size → w.cell? (y.add (i * fs.size + j)) = some (.int .i64 (Z i j)) ∧ -9223372036854775808 ≤ Z i j ∧ Z i j < 9223372036854775808 := by
  rcases Go.Deep.open_slice ht h with ⟨hc, _⟩ | ⟨a, n, cap, m, q, D, Pl, hc, hb, hl, hm, hmm, hx, hi⟩
  · simp only [List.cons.injEq, and_true] at hc
    exact ⟨none, 0, 0, fun _ _ => 0, hc, Nat.le_refl _, .inl rfl, fun i hi => absurd hi (by omega)⟩
  · simp only [List.cons.injEq, and_true] at hc
    simp only [if_true] at hmm
    subst hmm
    have key : ∀ i j, ∃ z : Int, i < n → j < fs.size → w.cell? (a.add (i * fs.size + j)) = some (.int .i64 z) ∧ -9223372036854775808 ≤ z ∧ z < 9223372036854775808 := fun i j => by
      by_cases h1 : i < n ∧ j < fs.size
      · obtain ⟨cs', hcs, ht'⟩ := hi i (by omega)
        rw [hC] at hcs
        obtain ⟨ys, n', _, _, _, hyl, hf⟩ := DataW.trod_struct he ht'
        obtain ⟨_, hcl, hat⟩ := World.cells?_some hcs
        have hj : fs[j]? = some fs[j] := by simp [h1.2]
        obtain ⟨o1, k1⟩ := hone_of hone j _ hj
        have h2 := hf j _ hj
        rw [o1, k1] at h2
        have hd1 : (cs'.drop j).take 1 = [cs'[j]'(by omega)] := by
          rw [List.drop_eq_getElem_cons (by omega)]
          rfl
        rw [hd1] at h2
        have hy : ys[j]? = some (ys[j]'(by omega)) := List.getElem?_eq_getElem (by omega)
        rw [hy] at h2
        obtain ⟨z, hz, _, hw⟩ := DataW.trod_int (hint j _ hj) h2
        simp only [List.cons.injEq, and_true] at hz
        refine ⟨z, fun _ _ => ⟨?_, wf_i64 hw⟩⟩
        rw [← add_of_add, hat j h1.2, List.getElem?_eq_getElem (by omega), hz]
      · exact ⟨0, fun h2 h3 => absurd ⟨h2, h3⟩ h1⟩
    refine ⟨some a, n, m, fun i j => Classical.choose (key i j), hc, hl, .inr ⟨_, _, by rw [hx], by simp; omega⟩, fun i hin => ?_⟩
    refine ⟨a, rfl, ?_, fun j hj => Classical.choose_spec (key i j) hin hj⟩
    have h1 := Classical.choose_spec (key i 0) hin h0
    have h2 := cell_lt h1.1
    rwa [block_of_add] at h2

/-- what a slice in a field of a struct may take -/
theorem sized_field {ts : List TypeId} {ds : List (DataW H)} (h : (DataW.weightsEach P ts ds).all (· ≤ reachBytes) = true) {j : Nat} {t : TypeId} {fs : Array Field} {parts : List (DataW H)} (ht : ts[j]? = some t) (hd : ds[j]? = some (.agg parts))
    (hu : P.underlying t = some (.struct fs)) {i : Nat} {f : Field} {e : TypeId} {el sp : List (DataW H)} (hf : fs[i]? = some f) (hp : parts[i]? = some (.slice el sp)) (he : P.underlying f.type = some (.slice e)) : (el.length + sp.length) * P.bytesOf e ≤ reachBytes := by
  refine sized_slice (P := P) (ts := fs.toList.map (·.type)) (ds := parts) (j := i) (t := f.type) ?_ (by simp [hf]) hp he
  rw [List.all_eq_true]
  intro q hq
  refine List.all_eq_true.1 h q (DataW.weights_mem_each ht hd q ?_)
  simp only [DataW.weights, hu]
  exact hq
end
end Go.Proofs.Ytmekoanobicddaa.Ut
namespace Go.Proofs.Ytmekoanobicddaa.Cf
open Go.ChangeShapes Go.WideShapes Go.Deep Go.RowKit Ut
set_option linter.unusedVariables false

theorem ints3 {fs : Array Field} {f0 f1 f2 : Field} (h : fs = #[f0, f1, f2]) (h0 : f0.type = 3) (h1 : f1.type = 3) (h2 : f2.type = 3) : ∀ (j : Nat) (f : Field), fs[j]? = some f → Try.prog.underlying f.type = some (.int .i64) := fun j f hj => by
  subst h
  match j, hj with
  | 0, hj => simp at hj; subst hj; rw [h0]; exact Try.underlying3
  | 1, hj => simp at hj; subst hj; rw [h1]; exact Try.underlying3
  | 2, hj => simp at hj; subst hj; rw [h2]; exact Try.underlying3
  | j + 3, hj => simp at hj
theorem ints2 {fs : Array Field} {f0 f1 : Field} (h : fs = #[f0, f1]) (h0 : f0.type = 3) (h1 : f1.type = 3) : ∀ (j : Nat) (f : Field), fs[j]? = some f → Try.prog.underlying f.type = some (.int .i64) := fun j f hj => by
  subst h
  match j, hj with
  | 0, hj => simp at hj; subst hj; rw [h0]; exact Try.underlying3
  | 1, hj => simp at hj; subst hj; rw [h1]; exact Try.underlying3
  | j + 2, hj => simp at hj

section
variable {H : Type} {enc : TypeId × Value → H} {W : World}
set_option maxRecDepth 100000 in
theorem cfg_arg {b0 : Nat} {v : Value} {d : DataW H} {p : List MemPlace} {ts : List TypeId} {ds : List (DataW H)} {j : Nat} (hv : Value.okWide Try.prog W .any b0 44 v) (h : DataW.Trod enc Try.prog W 0 (fun _ => true) true 44 v d p)
    (hsz : (DataW.weightsEach Try.prog ts ds).all (· ≤ reachBytes) = true) (ht : ts[j]? = some 44) (hd : ds[j]? = some d) : ∃ c : Cfg, v = c.v ∧ c.At W W.heap.size := by
  obtain ⟨cs, ys, n, rfl, hl, rfl, hyl, hf⟩ := open_fields Try.underlying44 (by kernel_rfl) (by kernel_rfl) hv h
  obtain ⟨c0, y0, e0, g0, t0⟩ := hf 0 _ rfl
  obtain ⟨c1, y1, e1, g1, t1⟩ := hf 1 _ rfl
  obtain ⟨c2, y2, e2, g2, t2⟩ := hf 2 _ rfl
  obtain ⟨c3, y3, e3, g3, t3⟩ := hf 3 _ rfl
  obtain ⟨c4, y4, e4, g4, t4⟩ := hf 4 _ rfl
  obtain ⟨c5, y5, e5, g5, t5⟩ := hf 5 _ rfl
  obtain ⟨c6, y6, e6, g6, t6⟩ := hf 6 _ rfl
  obtain ⟨c7, y7, e7, g7, t7⟩ := hf 7 _ rfl
  match cs, hl, e0, e1, e2, e3, e4, e5, e6, e7 with
  | [x0, x1, x2, x3, x4, x5, x6, x7], _, e0, e1, e2, e3, e4, e5, e6, e7 =>
    simp only [List.getElem?_cons_zero, List.getElem?_cons_succ, Option.some.injEq] at e0 e1 e2 e3 e4 e5 e6 e7
    subst e0 e1 e2 e3 e4 e5 e6 e7
    obtain ⟨cats, q0, _, w0⟩ := DataW.trod_int Try.underlying3 t0
    obtain ⟨gate, q6, _, w6⟩ := DataW.trod_int Try.underlying3 t6
    obtain ⟨quota, q7, _, w7⟩ := DataW.trod_int Try.underlying3 t7
    simp only [List.cons.injEq, and_true] at q0 q6 q7
    subst q0 q6 q7
    obtain ⟨ga, gn, gc, G, rfl, l1, s1, r1⟩ := open_recs Try.underlying38 Try.underlying57 (by kernel_rfl) (by kernel_rfl) (ints3 rfl rfl rfl rfl) (by decide) t1
    obtain ⟨ra, rn, rc, R, rfl, l2, s2, r2⟩ := open_recs Try.underlying39 Try.underlying90 (by kernel_rfl) (by kernel_rfl) (ints3 rfl rfl rfl rfl) (by decide) t2
    obtain ⟨pa, pn, pc, P, rfl, l3, s3, r3⟩ := open_recs Try.underlying40 Try.underlying62 (by kernel_rfl) (by kernel_rfl) (ints2 rfl rfl rfl) (by decide) t3
    obtain ⟨na, nn, nc, N, rfl, l4, s4, r4⟩ := open_recs Try.underlying41 Try.underlying59 (by kernel_rfl) (by kernel_rfl) (ints2 rfl rfl rfl) (by decide) t4
    obtain ⟨sa, sn, sc, S, rfl, l5, s5, r5⟩ := open_recs Try.underlying42 Try.underlying64 (by kernel_rfl) (by kernel_rfl) (ints2 rfl rfl rfl) (by decide) t5
    have big : ∀ {fs : Array Field} {i : Nat} {f : Field} {e : TypeId} {y : DataW H × List MemPlace} {cap b : Nat}, ys[i]? = some y → (cap = 0 ∨ ∃ el sp, y.1 = .slice el sp ∧ el.length + sp.length = cap) → fs[i]? = some f → Try.prog.underlying f.type = some (.slice e) → Try.prog.bytesOf e = b → 1 ≤ b → Try.prog.underlying 44 = some (.struct fs) → cap ≤ 140737488355328 := by
      intro fs i f e y cap b hy hc hfi hu hb hb1 hst
      rcases hc with rfl | ⟨el, sp, hy1, rfl⟩
      · omega
      · have h1 := sized_field hsz ht hd hst hfi (i := i) (el := el) (sp := sp) (by simp [hy, hy1]) hu
        rw [hb] at h1
        unfold reachBytes at h1
        have h2 : (el.length + sp.length) * 1 ≤ (el.length + sp.length) * b := Nat.mul_le_mul_left _ hb1
        omega
    refine ⟨⟨cats, ga, gn, gc, ra, rn, rc, pa, pn, pc, na, nn, nc, sa, sn, sc, gate, quota, G, R, P, N, S⟩, rfl, r1, r2, r3, r4, r5, ⟨l1, ?_⟩, ⟨l2, ?_⟩, ⟨l3, ?_⟩, ⟨l4, ?_⟩, ⟨l5, ?_⟩, wf_i64 w0, wf_i64 w6, wf_i64 w7⟩
    · refine Nat.le_trans l1 ?_
      exact big (b := 24) g1 s1 rfl Try.underlying38 (by kernel_rfl) (by omega) Try.underlying44
    · refine Nat.le_trans l2 ?_
      exact big (b := 24) g2 s2 rfl Try.underlying39 (by kernel_rfl) (by omega) Try.underlying44
    · refine Nat.le_trans l3 ?_
      exact big (b := 16) g3 s3 rfl Try.underlying40 (by kernel_rfl) (by omega) Try.underlying44
    · refine Nat.le_trans l4 ?_
      exact big (b := 16) g4 s4 rfl Try.underlying41 (by kernel_rfl) (by omega) Try.underlying44
    · refine Nat.le_trans l5 ?_
      exact big (b := 16) g5 s5 rfl Try.underlying42 (by kernel_rfl) (by omega) Try.underlying44
end
end Go.Proofs.Ytmekoanobicddaa.Cf
namespace Go.Proofs.Ytmekoanobicddaa.Ut
open Go.RowKit

def recRow (k : Nat) (Z : Nat → Nat → Int) (i : Nat) : List Value := (List.range k).map fun j => Value.int .i64 (Z i j)
def recRows (k : Nat) (Z : Nat → Nat → Int) : Nat → List Value
  | 0 => []
  | n + 1 => recRows k Z n ++ recRow k Z n
theorem recRow_length (k : Nat) (Z : Nat → Nat → Int) (i : Nat) : (recRow k Z i).length = k := by simp [recRow]
theorem recRows_length (k : Nat) (Z : Nat → Nat → Int) : ∀ n, (recRows k Z n).length = n * k
  | 0 => by simp [recRows]
  | n + 1 => by simp [recRows, recRows_length k Z n, recRow_length, Nat.succ_mul]
theorem recRows_get (k : Nat) (Z : Nat → Nat → Int) : ∀ n i j, i < n → j < k → (recRows k Z n)[i * k + j]? = some (.int .i64 (Z i j))
  | 0, i, j, h, _ => by omega
  | n + 1, i, j, hi, hj => by
    unfold recRows
    by_cases h : i < n
    · have hlt : i * k + j < n * k := by
        have h2 : (i + 1) * k ≤ n * k := Nat.mul_le_mul_right k (by omega)
        rw [Nat.succ_mul] at h2
        omega
      rw [List.getElem?_append_left (by rw [recRows_length]; exact hlt)]
      exact recRows_get k Z n i j h hj
    · obtain rfl : i = n := by omega
      rw [List.getElem?_append_right (by rw [recRows_length]; omega), recRows_length, Nat.add_sub_cancel_left]
      simp [recRow, hj]
theorem recRows_one (k : Nat) (Z : Nat → Nat → Int) : ∀ n, ∀ u ∈ recRows k Z n, u.oneCell' = true
  | 0, u, h => by simp [recRows] at h
  | n + 1, u, h => by
    unfold recRows at h
    rcases List.mem_append.1 h with h | h
    · exact recRows_one k Z n u h
    · simp [recRow] at h
      obtain ⟨j, _, rfl⟩ := h
      rfl
theorem recRows_back (k : Nat) (Z : Nat → Nat → Int) (n : Nat) (hk : 0 < k) (j : Nat) (u : Value) (h : (recRows k Z n)[j]? = some u) : ∃ a b, a < n ∧ b < k ∧ j = a * k + b ∧ u = .int .i64 (Z a b) := by
  have hlt : j < n * k := by
    have := (List.getElem?_eq_some_iff.1 h).1
    rwa [recRows_length] at this
  have h1 : j / k < n := Nat.div_lt_of_lt_mul (by rwa [Nat.mul_comm])
  have h2 : j % k < k := Nat.mod_lt _ hk
  have h3 : j = j / k * k + j % k := by rw [Nat.mul_comm]; exact (Nat.div_add_mod j k).symm
  refine ⟨j / k, j % k, h1, h2, h3, ?_⟩
  rw [h3, recRows_get k Z n _ _ h1 h2] at h
  injection h with h
  exact h.symm

/-- append(own empty slice, x...): x a row of records -/
theorem wpList_append_recs {P : Program} {w : World} {ops : Array Oper} {rest : List Oper} {o : Oper} {act : Act} {Q : Exit → Act → World → Prop} (hgd : o.guard = none) (s x : Operand) (t : TypeId)
    (ho : o.op = .call { callee := .builtin .append, args := #[s, x], argTypes := #[t, t] })
    (base : Nat) (e : TypeId) (i : TypeInfo) (z : Value) (k bytes : Nat) (ht : P.underlying t = some (.slice e)) (hi : P.info? e = some i) (hz : i.zero = some z) (hs : i.size = k) (hb : i.bytes = bytes) (hzs : z.cells.size = k) (hk : 0 < k)
    (v : Value) (hv : act.eval s = v) (hown : w.ownsRow base e k v 0 []) (a : Addr) (m c : Nat) (Z : Nat → Nat → Int) (hx : act.eval x = .slice (some a) m c)
    (hr : ∀ i, i < m → ∀ j, j < k → w.cell? (a.add (i * k + j)) = some (.int .i64 (Z i j))) (h63 : m ≤ maxLen) (hbytes : m * bytes ≤ 140737488355328) (hm : 0 < m) (hbase : base ≤ w.heap.size)
    (h : ∀ g cap w', base ≤ g → g < w'.heap.size → m ≤ cap → cap ≤ 9223372036854775807 → Hid (w'.ownsRow base e k (.slice (some ⟨g, 0, none⟩) m cap) m (recRows k Z m)) → Below base w w' → wpList P ops Q rest (act.put o.dst (.slice (some ⟨g, 0, none⟩) m cap)) w') :
    wpList P ops Q (o :: rest) act w := by
  obtain ⟨v', w', hrun, h2, h3, h4, h5⟩ := run_append_own_at (P := P) w base t o.type e i z k bytes ht hi hz hs hb hzs hk v 0 [] hown a m c (recRows k Z m) (recRows_length k Z m)
    (fun j u hj => by
      obtain ⟨p, q, hp, hq, rfl, rfl⟩ := recRows_back k Z m hk j u hj
      exact hr p hp q hq) (recRows_one k Z m) (by omega) (by simpa using hbytes) hbase
  simp only [Nat.zero_add, List.nil_append] at h2
  have hbl := (Below.refl base w).grown h3 hbase fun q hq => (World.ownsRow.lt hown q hq).1
  rcases h2.2 with ⟨rfl, h0⟩ | ⟨g, cap, cur, rfl, hgb, hg, hnc, hcm, hsz, hcur⟩
  · omega
  · refine wpList_plain hgd fun _ hK => ?_
    unfold Oper.wp execOp
    simp only [ho, resolve, invoke, builtin, Sem.run_bind, Sem.run_pure, Result.andThen_ok, List.map_toArray, List.map_cons, List.map_nil, hv, hx, hrun]
    exact hK _ _ (h g cap w' hgb (Array.getElem?_eq_some_iff.1 hg).1 hnc (by unfold maxLen at hcm; exact hcm) h2 hbl)
end Go.Proofs.Ytmekoanobicddaa.Ut
namespace Go.Proofs.Ytmekoanobicddaa.Cf
open Go.RowKit Ut
set_option linter.unusedVariables false

/-- one guest, one slot -/
def smallC (a b : Nat) : Cfg where
  cats := 1
  ga := some ⟨a, 0, none⟩
  gn := 1
  gc := 1
  ra := none
  rn := 0
  rc := 0
  pa := none
  pn := 0
  pc := 0
  na := none
  nn := 0
  nc := 0
  sa := some ⟨b, 0, none⟩
  sn := 1
  sc := 1
  gate := -1
  quota := 0
  G := fun _ j => if j = 0 then 1 else if j = 1 then 4 else 0
  R := fun _ _ => 0
  P := fun _ _ => 0
  N := fun _ _ => 0
  S := fun _ j => if j = 0 then 0 else 5
theorem small_check (a b : Nat) : check (smallC a b) = (0, 0) := by kernel_rfl
theorem small_frames (a b : Nat) : framesZ (smallC a b) = 4 := by kernel_rfl
theorem small_period (a b : Nat) : periodZ (smallC a b) = 5 := by kernel_rfl
theorem small_at {W : World} {a b : Nat} {t t' : TypeId} (ha : W.heap[a]? = some (.cells #[.int .i64 1, .int .i64 4, .int .i64 0] t (0, 0))) (hb : W.heap[b]? = some (.cells #[.int .i64 0, .int .i64 5] t' (0, 0))) : (smallC a b).At W W.heap.size where
  g := fun i hi => ⟨⟨a, 0, none⟩, rfl, (Array.getElem?_eq_some_iff.1 ha).1, fun j hj => by
    have hi' : i < 1 := hi
    obtain rfl : i = 0 := by omega
    rw [add_plain]
    match j, hj with
    | 0, _ => exact ⟨by simp [World.cell?, ha, smallC], by simp [smallC], by simp [smallC]⟩
    | 1, _ => exact ⟨by simp [World.cell?, ha, smallC], by simp [smallC], by simp [smallC]⟩
    | 2, _ => exact ⟨by simp [World.cell?, ha, smallC], by simp [smallC], by simp [smallC]⟩
    | j + 3, hj => omega⟩
  r := fun i hi => absurd hi (Nat.not_lt_zero _)
  p := fun i hi => absurd hi (Nat.not_lt_zero _)
  n := fun i hi => absurd hi (Nat.not_lt_zero _)
  s := fun i hi => ⟨⟨b, 0, none⟩, rfl, (Array.getElem?_eq_some_iff.1 hb).1, fun j hj => by
    have hi' : i < 1 := hi
    obtain rfl : i = 0 := by omega
    rw [add_plain]
    match j, hj with
    | 0, _ => exact ⟨by simp [World.cell?, hb, smallC], by simp [smallC], by simp [smallC]⟩
    | 1, _ => exact ⟨by simp [World.cell?, hb, smallC], by simp [smallC], by simp [smallC]⟩
    | j + 2, hj => omega⟩
  lg := ⟨by simp [smallC], by simp [smallC]⟩
  lr := ⟨by simp [smallC], by simp [smallC]⟩
  lp := ⟨by simp [smallC], by simp [smallC]⟩
  ln := ⟨by simp [smallC], by simp [smallC]⟩
  ls := ⟨by simp [smallC], by simp [smallC]⟩
  i1 := ⟨by simp [smallC], by simp [smallC]⟩
  i2 := ⟨by simp [smallC], by simp [smallC]⟩
  i3 := ⟨by simp [smallC], by simp [smallC]⟩

structure SmallPost (w : World) (e : Ending) (W : World) : Prop where
  all : ∃ a b, e = .returned (smallC a b).v ∧ (smallC a b).At W W.heap.size ∧ Below w.heap.size w W
set_option maxRecDepth 100000 in
theorem small_any (w : World) : Calls Try.prog 45 #[] w (SmallPost w) := by
  obtain ⟨PR, hPR⟩ : ∃ PR, PR = SmallPost w := ⟨_, rfl⟩
  have HPR : Hid (∀ e W, SmallPost w e W → PR e W) := Lib.hid fun e W h => by rw [hPR]; exact h
  rw [← hPR]
  clear hPR
  go_enter Try.func45, Try.ntmps45
  go_wp2
  have h3 : ∀ A B C : Obj, (((w.alloc A).alloc B).alloc C).heap[w.heap.size + 1]? = some B ∧ (((w.alloc A).alloc B).alloc C).heap[w.heap.size + 1 + 1]? = some C ∧ Below w.heap.size w (((w.alloc A).alloc B).alloc C) := fun A B C => by
    obtain ⟨t1, t2, t3⟩ := two_new (w.alloc A) B C
    exact ⟨by simpa using t2, by simpa using t1, ((Below.refl _ _).alloc (Nat.le_refl _) _).trans (t3.mono (by simp))⟩
  refine bodyPost_ret (v := (smallC (w.heap.size + 1) (w.heap.size + 1 + 1)).v) (by simp [results, Try.results45, go_sem, smallC]) rfl (HPR.out _ _ ⟨_, _, rfl, small_at (h3 _ _ _).1 (h3 _ _ _).2.1, (h3 _ _ _).2.2⟩)

set_option maxRecDepth 100000 in
theorem awake_any (w : World) : Calls Try.prog 17 #[] w fun e w' => e = .returned (.bool true) ∧ Below w.heap.size w w' := by
  go_enter Try.func17, Try.ntmps17
  go_wp2_with fail
  refine (small_any _).mono ?_
  rintro e w1 hp
  obtain ⟨a, b, rfl, hat, hb1⟩ := hp.all
  have HC := check_any (smallC a b) _ w1 (Nat.le_refl _) hat
  rw [small_check] at HC
  have HC2 := Lib.hid HC
  clear hp hat HC
  go_wp2_with fail
  refine HC2.out.mono ?_
  rintro e w2 ⟨rfl, hb2⟩
  have hb20 := hb1.trans (hb2.mono hb1.size)
  clear HC2
  go_wp2_with fail
  refine (small_any _).mono ?_
  rintro e w3 hp
  obtain ⟨a', b', rfl, hat, hb3⟩ := hp.all
  have HC := Frames_any (smallC a' b') _ w3 (Nat.le_refl _) hat
  rw [small_frames] at HC
  have HC2 := Lib.hid HC
  have hb30 := hb20.trans (hb3.mono hb20.size)
  clear hp hat HC
  go_wp2_with fail
  refine HC2.out.mono ?_
  rintro e w4 ⟨rfl, hb4⟩
  have hb40 := hb30.trans (hb4.mono hb30.size)
  clear HC2
  go_wp2_with fail
  refine (small_any _).mono ?_
  rintro e w5 hp
  obtain ⟨a'', b'', rfl, hat, hb5⟩ := hp.all
  have HC := Period_any (smallC a'' b'') _ w5 (Nat.le_refl _) hat
  rw [small_period] at HC
  have HC2 := Lib.hid HC
  have hb50 := hb40.trans (hb5.mono hb40.size)
  clear hp hat HC
  go_wp2_with fail
  refine HC2.out.mono ?_
  rintro e w6 ⟨rfl, hb6⟩
  have hb60 := hb50.trans (hb6.mono hb50.size)
  clear HC2
  go_wp2
  go_ret
  exact ⟨rfl, hb60⟩

def fewB (c : Cfg) : Bool := decide (c.gn ≤ 20) && decide (c.rn ≤ 40) && decide (c.pn ≤ 40) && decide (c.nn ≤ 40) && decide (c.sn ≤ 40)
theorem few_any (c : Cfg) (w : World) (hg : c.gn ≤ 140737488355328) (hr : c.rn ≤ 140737488355328) (hp : c.pn ≤ 140737488355328) (hn : c.nn ≤ 140737488355328) (hs : c.sn ≤ 140737488355328) :
    Calls Try.prog 15 #[c.v] w fun e w' => e = .returned (.bool (fewB c)) ∧ Below w.heap.size w w' := by
  have HB0 := one_new w
  obtain ⟨r, hr0⟩ : ∃ r, r = fewB c := ⟨_, rfl⟩
  have hr1 := hr0
  unfold fewB at hr1
  rw [← hr0]
  clear hr0
  by_cases h1 : c.gn ≤ 20
  · rw [decide_eq_true h1] at hr1
    have h1' : (c.gn : Int) ≤ 20 := by omega
    by_cases h2 : c.rn ≤ 40
    · rw [decide_eq_true h2] at hr1
      have h2' : (c.rn : Int) ≤ 40 := by omega
      by_cases h3 : c.pn ≤ 40
      · rw [decide_eq_true h3] at hr1
        have h3' : (c.pn : Int) ≤ 40 := by omega
        by_cases h4 : c.nn ≤ 40
        · rw [decide_eq_true h4] at hr1
          have h4' : (c.nn : Int) ≤ 40 := by omega
          by_cases h5 : c.sn ≤ 40
          · rw [decide_eq_true h5] at hr1
            have h5' : (c.sn : Int) ≤ 40 := by omega
            simp only [Bool.and_self] at hr1
            subst hr1
            go_enter Try.func15, Try.ntmps15
            go_wp2
            go_ret
            exact ⟨rfl, HB0.out _⟩
          · rw [decide_eq_false h5] at hr1
            have h5' : ¬ (c.sn : Int) ≤ 40 := by omega
            simp only [Bool.and_false] at hr1
            subst hr1
            go_enter Try.func15, Try.ntmps15
            go_wp2
            go_ret
            exact ⟨rfl, HB0.out _⟩
        · rw [decide_eq_false h4] at hr1
          have h4' : ¬ (c.nn : Int) ≤ 40 := by omega
          simp only [Bool.and_false, Bool.false_and] at hr1
          subst hr1
          go_enter Try.func15, Try.ntmps15
          go_wp2
          go_ret
          exact ⟨rfl, HB0.out _⟩
      · rw [decide_eq_false h3] at hr1
        have h3' : ¬ (c.pn : Int) ≤ 40 := by omega
        simp only [Bool.and_false, Bool.false_and] at hr1
        subst hr1
        go_enter Try.func15, Try.ntmps15
        go_wp2
        go_ret
        exact ⟨rfl, HB0.out _⟩
    · rw [decide_eq_false h2] at hr1
      have h2' : ¬ (c.rn : Int) ≤ 40 := by omega
      simp only [Bool.and_false, Bool.false_and] at hr1
      subst hr1
      go_enter Try.func15, Try.ntmps15
      go_wp2
      go_ret
      exact ⟨rfl, HB0.out _⟩
  · rw [decide_eq_false h1] at hr1
    have h1' : ¬ (c.gn : Int) ≤ 20 := by omega
    simp only [Bool.false_and] at hr1
    subst hr1
    go_enter Try.func15, Try.ntmps15
    go_wp2
    go_ret
    exact ⟨rfl, HB0.out _⟩
end Go.Proofs.Ytmekoanobicddaa.Cf
namespace Go.Proofs.Ytmekoanobicddaa.Cf
open Go.RowKit Ut
set_option linter.unusedVariables false

def patch (Z : Nat → Nat → Int) (i j : Nat) (v : Int) : Nat → Nat → Int := fun a b => if a = i ∧ b = j then v else Z a b
theorem patch_at (Z : Nat → Nat → Int) (i j : Nat) (v : Int) : patch Z i j v i j = v := by simp [patch]
theorem patch_off (Z : Nat → Nat → Int) (i j : Nat) (v : Int) (a b : Nat) (h : a ≠ i ∨ b ≠ j) : patch Z i j v a b = Z a b := by
  unfold patch
  rw [if_neg]
  omega
theorem RowT.own {k n cap g B base : Nat} {e : TypeId} {W : World} {Z : Nat → Nat → Int} (h : W.ownsRow base e k (.slice (some ⟨g, 0, none⟩) n cap) n (recRows k Z n)) (hg : g < B) (hb : ∀ i j, i < n → j < k → -9223372036854775808 ≤ Z i j ∧ Z i j < 9223372036854775808) : RowT k W B (some ⟨g, 0, none⟩) n Z := fun i hi => by
  refine ⟨_, rfl, hg, fun j hj => ⟨?_, hb i j hi hj⟩⟩
  rw [add_plain]
  have hlt : i * k + j < n * k := by
    have h2 : (i + 1) * k ≤ n * k := Nat.mul_le_mul_right k (by omega)
    rw [Nat.succ_mul] at h2
    omega
  rw [World.ownsRow.cellAt h _ hlt]
  exact recRows_get k Z n i j hi hj
theorem RowT.patched {k n g B : Nat} {W : World} {Z : Nat → Nat → Int} (h : RowT k W B (some ⟨g, 0, none⟩) n Z) (i j : Nat) (v : Int) (hi : i < n) (hj : j < k) (hv : -9223372036854775808 ≤ v ∧ v < 9223372036854775808) :
    RowT k (W.setCell ⟨g, i * k + j, none⟩ (.int .i64 v)) B (some ⟨g, 0, none⟩) n (patch Z i j v) := fun a ha => by
  obtain ⟨x, e, hx, hc⟩ := h a ha
  obtain rfl : (⟨g, 0, none⟩ : Addr) = x := by injection e
  refine ⟨_, rfl, hx, fun b hb => ?_⟩
  have hcb := hc b hb
  rw [add_plain] at hcb ⊢
  by_cases he : a = i ∧ b = j
  · obtain ⟨rfl, rfl⟩ := he
    rw [World.cell?_setCell_same (h := hcb.1), patch_at]
    exact ⟨rfl, hv⟩
  · have hne : (⟨g, i * k + j, none⟩ : Addr) ≠ ⟨g, a * k + b, none⟩ := fun e => by
      have h1 : i * k + j = a * k + b := by injection e
      apply he
      have h2 : a = i := by
        have e1 : (i * k + j) / k = i := by rw [Nat.mul_comm, Nat.mul_add_div (by omega), Nat.div_eq_of_lt hj]; omega
        have e2 : (a * k + b) / k = a := by rw [Nat.mul_comm, Nat.mul_add_div (by omega), Nat.div_eq_of_lt hb]; omega
        rw [h1] at e1; omega
      subst h2
      exact ⟨rfl, by omega⟩
    rw [World.cell?_setCell_other (h := hne), patch_off Z i j v a b (by omega)]
    exact hcb

abbrev oneG (c : Cfg) (i g cap : Nat) : Cfg := { c with ga := some ⟨g, 0, none⟩, gc := cap, G := patch c.G i 1 0 }
abbrev oneS (c : Cfg) (i g cap : Nat) : Cfg := { c with sa := some ⟨g, 0, none⟩, sc := cap, S := patch c.S i 1 0 }
abbrev oneN (c : Cfg) (i g cap : Nat) : Cfg := { c with na := some ⟨g, 0, none⟩, nc := cap, N := patch c.N i 1 (c.N i 0) }
theorem secs_same {c c' : Cfg} (h : c'.R = c.R) : ∀ k, secs c' k = secs c k
  | 0 => rfl
  | k + 1 => by
    show Pt.giveL (secs c' k) _ _ _ = Pt.giveL (secs c k) _ _ _
    rw [secs_same h k, h]
theorem wrongR_same {c c' : Cfg} (h : c'.R = c.R) (h2 : c'.cats = c.cats) (i : Nat) : wrongR c' i = wrongR c i := by
  unfold wrongR
  rw [secs_same h i, h, h2]
theorem one_g {c : Cfg} (h : rightB c = true) (i g cap : Nat) (hi : i < c.gn) : check (oneG c i g cap) = (13, (i : Int)) := by
  have hp := right_passed h
  refine check_at (j := 2) (i := i) (by omega) (fun j' hj' i' hi' => ?_) hi ?_ (fun i' hi' => ?_)
  · match j', hj', hi' with
    | 0, _, hi' => exact hp 0 (by omega) i' hi'
    | 1, _, hi' => exact hp 1 (by omega) i' hi'
    | j + 2, hj, _ => omega
  · show wrongG (oneG c i g cap) i = true
    unfold wrongG
    show (!La.validB (patch c.G i 1 0 i 0) c.cats || !inB (patch c.G i 1 0 i 1) 1 8 || !inB (patch c.G i 1 0 i 2) 0 (8 - patch c.G i 1 0 i 1)) = true
    rw [patch_at]
    have : inB 0 1 8 = false := by decide
    rw [this]
    simp
  · have h1 : wrongG c i' = false := hp 2 (by omega) i' (by show i' < c.gn; omega)
    rw [← h1]
    show wrongG (oneG c i g cap) i' = wrongG c i'
    unfold wrongG
    show (!La.validB (patch c.G i 1 0 i' 0) c.cats || !inB (patch c.G i 1 0 i' 1) 1 8 || !inB (patch c.G i 1 0 i' 2) 0 (8 - patch c.G i 1 0 i' 1)) = _
    rw [patch_off _ _ _ _ _ _ (.inl (by omega)), patch_off _ _ _ _ _ _ (.inl (by omega)), patch_off _ _ _ _ _ _ (.inl (by omega))]
theorem one_s {c : Cfg} (h : rightB c = true) (i g cap : Nat) (hi : i < c.sn) : check (oneS c i g cap) = (17, (i : Int)) := by
  have hp := right_passed h
  refine check_at (j := 10) (i := i) (by omega) (fun j' hj' i' hi' => ?_) hi ?_ (fun i' hi' => ?_)
  · match j', hj', hi' with
    | 0, _, hi' => exact hp 0 (by omega) i' hi'
    | 1, _, hi' => exact hp 1 (by omega) i' hi'
    | 2, _, hi' => exact hp 2 (by omega) i' hi'
    | 3, _, hi' => exact hp 3 (by omega) i' hi'
    | 4, _, hi' => exact (wrongR_same (c := c) (c' := oneS c i g cap) rfl rfl i').trans (hp 4 (by omega) i' hi')
    | 5, _, hi' => exact hp 5 (by omega) i' hi'
    | 6, _, hi' => exact hp 6 (by omega) i' hi'
    | 7, _, hi' => exact hp 7 (by omega) i' hi'
    | 8, _, hi' => exact hp 8 (by omega) i' hi'
    | 9, _, hi' => exact hp 9 (by omega) i' hi'
    | j + 10, hj, _ => omega
  · show (!isG c (patch c.S i 1 0 i 0) || !inB (patch c.S i 1 0 i 1) 1 32) = true
    rw [patch_at]
    have : inB 0 1 32 = false := by decide
    rw [this]
    simp
  · have h1 : wrongS c i' = false := hp 10 (by omega) i' (by show i' < c.sn; omega)
    rw [← h1]
    show (!isG c (patch c.S i 1 0 i' 0) || !inB (patch c.S i 1 0 i' 1) 1 32) = wrongS c i'
    rw [patch_off _ _ _ _ _ _ (.inl (by omega)), patch_off _ _ _ _ _ _ (.inl (by omega))]
    rfl
theorem one_nw (c : Cfg) (i g cap : Nat) : wrongN (oneN c i g cap) i = true := by
  have e0 : (oneN c i g cap).N i 0 = c.N i 0 := patch_off c.N i 1 (c.N i 0) i 0 (.inr (by omega))
  have e1 : (oneN c i g cap).N i 1 = c.N i 0 := patch_at c.N i 1 (c.N i 0)
  unfold wrongN
  rw [e0, e1]
  simp
theorem one_no (c : Cfg) (i g cap i' : Nat) (h : i' ≠ i) : wrongN (oneN c i g cap) i' = wrongN c i' := by
  have e0 : (oneN c i g cap).N i' 0 = c.N i' 0 := patch_off c.N i 1 (c.N i 0) i' 0 (.inl h)
  have e1 : (oneN c i g cap).N i' 1 = c.N i' 1 := patch_off c.N i 1 (c.N i 0) i' 1 (.inl h)
  unfold wrongN
  rw [e0, e1]
  rfl
theorem keep_N (c : Cfg) (na : Option Addr) (nc : Nat) (N : Nat → Nat → Int) (j : Nat) (hj : j < 8) (i : Nat) (h : ∀ i, i < cntR c j → wrR c j i = false) (hi : i < cntR { c with na := na, nc := nc, N := N } j) : wrR { c with na := na, nc := nc, N := N } j i = false := by
  match j, hj, hi, h with
  | 0, _, hi, h => have h := h i hi; simp only [wrR] at h ⊢; exact h
  | 1, _, hi, h => have h := h i hi; simp only [wrR] at h ⊢; exact h
  | 2, _, hi, h => have h := h i hi; simp only [wrR] at h ⊢; exact h
  | 3, _, hi, h => have h := h i hi; simp only [wrR] at h ⊢; exact h
  | 4, _, hi, h => exact (wrongR_same (c := c) (c' := { c with na := na, nc := nc, N := N }) rfl rfl i).trans (h i hi)
  | 5, _, hi, h => have h := h i hi; simp only [wrR] at h ⊢; exact h
  | 6, _, hi, h => have h := h i hi; simp only [wrR] at h ⊢; exact h
  | 7, _, hi, h => have h := h i hi; simp only [wrR] at h ⊢; exact h
  | j + 8, hj, _, _ => omega
theorem one_n {c : Cfg} (h : rightB c = true) (i g cap : Nat) (hi : i < c.nn) : check (oneN c i g cap) = (16, (i : Int)) := by
  have hp := right_passed h
  exact check_at (c := oneN c i g cap) (j := 8) (i := i) (by omega) (fun j' hj' i' hi' => keep_N c _ _ _ j' hj' i' (fun i hi => hp j' (by omega) i hi) hi') hi (one_nw c i g cap)
    (fun i' hi' => (one_no c i g cap i' (by omega)).trans (hp 8 (by omega) i' (by show i' < c.nn; omega)))
theorem BoxC.frozen {W : World} {b : Nat} {c : Cfg} (h : BoxC W b c) (o : Nat) : W.frozen? ⟨b, o, none⟩ = false := by
  unfold BoxC at h
  simp [World.frozen?, h]

theorem at_G {c : Cfg} {B i g cap : Nat} {W Z : World} (hc : c.At W B) (hb : Below B W Z) (hB : B ≤ Z.heap.size) (hr : RowT 3 Z Z.heap.size (some ⟨g, 0, none⟩) c.gn (patch c.G i 1 0)) (hcap : c.gn ≤ cap) : (oneG c i g cap).At Z Z.heap.size :=
  have h2 := (hc.below hb).more_at hB
  { h2 with g := hr, lg := ⟨hcap, h2.lg.2⟩ }

theorem at_S {c : Cfg} {B i g cap : Nat} {W Z : World} (hc : c.At W B) (hb : Below B W Z) (hB : B ≤ Z.heap.size) (hr : RowT 2 Z Z.heap.size (some ⟨g, 0, none⟩) c.sn (patch c.S i 1 0)) (hcap : c.sn ≤ cap) : (oneS c i g cap).At Z Z.heap.size :=
  have h2 := (hc.below hb).more_at hB
  { h2 with s := hr, ls := ⟨hcap, h2.ls.2⟩ }

theorem at_N {c : Cfg} {B i g cap : Nat} {W Z : World} (hc : c.At W B) (hb : Below B W Z) (hB : B ≤ Z.heap.size) (hr : RowT 2 Z Z.heap.size (some ⟨g, 0, none⟩) c.nn (patch c.N i 1 (c.N i 0))) (hcap : c.nn ≤ cap) : (oneN c i g cap).At Z Z.heap.size :=
  have h2 := (hc.below hb).more_at hB
  { h2 with n := hr, ln := ⟨hcap, h2.ln.2⟩ }
theorem cell_far (w : World) (p a : Addr) (v : Value) (h : p.block ≠ a.block) : (w.setCell p v).cell? a = w.cell? a := World.cell?_setCell_other _ _ _ _ (fun e => h (by rw [e]))
theorem RowT.far {k n g B : Nat} {W : World} {Z : Nat → Nat → Int} (h : RowT k W B (some ⟨g, 0, none⟩) n Z) (p : Addr) (v : Value) (hp : p.block ≠ g) : RowT k (W.setCell p v) B (some ⟨g, 0, none⟩) n Z := fun a ha => by
  obtain ⟨x, ex, hx, hcx⟩ := h a ha
  obtain rfl : (⟨g, 0, none⟩ : Addr) = x := by injection ex
  exact ⟨_, rfl, hx, fun b hb2 => ⟨by rw [cell_far _ _ _ _ (by rw [block_of_add]; exact hp)]; exact (hcx b hb2).1, (hcx b hb2).2⟩⟩

set_option maxRecDepth 100000 in
set_option maxHeartbeats 8000000 in
theorem one_law (c : Cfg) (at_ : Int) (B : Nat) (w : World) (hB : B ≤ w.heap.size) (hc : c.At w B) (ha0 : 0 ≤ at_) (ha1 : at_ < 256) :
    Calls Try.prog 7 #[c.v, .int .u8 at_] w fun e w' => e = .returned (.bool true) ∧ Below w.heap.size w w' := by
  have HB0 := one_new w
  have HAw : Hid (∀ W : World, Calls Try.prog 17 #[] W fun e w' => e = .returned (.bool true) ∧ Below W.heap.size W w') := Lib.hid awake_any
  have HC1 : Hid (∀ W, Below w.heap.size w W → Calls Try.prog 16 #[c.v] W fun e w' => e = .returned (.tuple #[.int .i64 (check c).1, .int .i64 (check c).2]) ∧ Below W.heap.size W w') := Lib.hid fun W hW => check_any c B W (by have := hW.size; omega) (hc.below (hW.mono hB))
  have HCk : Hid (∀ (d : Cfg) W, d.At W W.heap.size → Calls Try.prog 16 #[d.v] W fun e w' => e = .returned (.tuple #[.int .i64 (check d).1, .int .i64 (check d).2]) ∧ Below W.heap.size W w') := Lib.hid fun d W h => check_any d W.heap.size W (Nat.le_refl _) h
  have hrt : ((check c).1 = 0 → rightB c = true) := fun h => decide_eq_true h
  obtain ⟨cka, hcka⟩ : ∃ a, a = (check c).1 := ⟨_, rfl⟩
  obtain ⟨ckb, hckb⟩ : ∃ a, a = (check c).2 := ⟨_, rfl⟩
  rw [← hcka] at HC1 hrt
  rw [← hckb] at HC1
  clear hcka hckb
  by_cases hck : cka = 0
  · subst hck
    have hr := hrt rfl
    obtain ⟨hn4, hn1, _⟩ := right_small hr
    obtain ⟨hs1, hs8⟩ := right_slots hr
    have hnn := right_rings hr
    have HEG : Hid (∀ i g cap, i < c.gn → check (oneG c i g cap) = (13, (i : Int))) := Lib.hid fun i g cap hi => one_g hr i g cap hi
    have HES : Hid (∀ i g cap, i < c.sn → check (oneS c i g cap) = (17, (i : Int))) := Lib.hid fun i g cap hi => one_s hr i g cap hi
    have HEN : Hid (∀ i g cap, i < c.nn → check (oneN c i g cap) = (16, (i : Int))) := Lib.hid fun i g cap hi => one_n hr i g cap hi
    have HGr : Hid (RowT 3 w B c.ga c.gn c.G) := Lib.hid hc.g
    have HSr : Hid (RowT 2 w B c.sa c.sn c.S) := Lib.hid hc.s
    have HNr : Hid (RowT 2 w B c.na c.nn c.N) := Lib.hid hc.n
    have HAt := Lib.hid hc
    have hx0 : BoxC (w.alloc (.cells c.cs 44)) w.heap.size c := heap_alloc_new w _
    have HX0 := Lib.hid hx0
    have lg := hc.lg
    have ls := hc.ls
    have ln := hc.ln
    clear hrt hr hx0 hc
    obtain ⟨cats, ga, gn, gc, ra, rn, rc, pa, pn, pc, na, nn, nc, sa, sn, sc, gate, quota, G, R, P, N, S⟩ := c
    dsimp only at HEG HES HEN HGr HSr HNr HAt HX0 HC1 hn4 hn1 hs1 hs8 hnn lg ls ln
    obtain ⟨xg, rfl, _⟩ := HGr.out.at3 0 (by omega)
    obtain ⟨xs, rfl, _⟩ := HSr.out.at2 0 (by omega)
    obtain ⟨I, hI⟩ : ∃ I : Nat, at_ % (gn : Int) = (I : Int) := ⟨(at_ % (gn : Int)).toNat, by have := Int.emod_nonneg at_ (show (gn : Int) ≠ 0 by omega); omega⟩
    obtain ⟨J, hJ⟩ : ∃ J : Nat, at_ % (sn : Int) = (J : Int) := ⟨(at_ % (sn : Int)).toNat, by have := Int.emod_nonneg at_ (show (sn : Int) ≠ 0 by omega); omega⟩
    have hIl : I < gn := by have := Int.emod_lt_of_pos at_ (show (0 : Int) < (gn : Int) by omega); omega
    have hJl : J < sn := by have := Int.emod_lt_of_pos at_ (show (0 : Int) < (sn : Int) by omega); omega
    have HEG1 : Hid (∀ g cap, _) := Lib.hid fun g cap => HEG.out I g cap hIl
    have HES1 : Hid (∀ g cap, _) := Lib.hid fun g cap => HES.out J g cap hJl
    clear HEG HES
    have HEG := HEG1
    have HES := HES1
    clear HEG1 HES1
    have i0 : (0 : Int) ≤ (I : Int) := by omega
    have i1 : (I : Int) < (gn : Int) := by omega
    have j0 : (0 : Int) ≤ (J : Int) := by omega
    have j1 : (J : Int) < (sn : Int) := by omega
    have p1 : ¬ (gn : Int) = 0 := by omega
    have p2 : ¬ (sn : Int) = 0 := by omega
    have p1b : ((gn : Int) == 0) = false := by simp; omega
    have p2b : ((sn : Int) == 0) = false := by simp; omega
    have p3 : ¬ gn = 0 := by omega
    have p4 : ¬ sn = 0 := by omega
    go_enter Try.func7, Try.ntmps7
    go_wp2_with fail
    refine (HC1.out _ (HB0.out _)).mono ?_
    rintro e w1 ⟨rfl, hb⟩
    have hbw1 := (HB0.out _).trans (hb.mono (by simp))
    have HBw1 := Lib.hid (HX0.out.below hb)
    clear HX0 hb
    -- G
    obtain ⟨k0, k1, k2, k3, k4, k5, k6, k7⟩ := HBw1.out.cells
    dsimp only at k0 k1 k2 k3 k4 k5 k6 k7
    have sW : w.heap.size < w1.heap.size := HBw1.out.lt
    go_wp2_with (
      at_builtin
      obtain ⟨ti, hti, hz, hs, hby⟩ := info_parts (P := Try.prog) (e := 57) (z := .agg #[.int .i64 0, .int .i64 0, .int .i64 0]) (size := 3) (bytes := 24) (by kernel_rfl)
      have hown0 := World.ownsRow_made (base := w1.heap.size + 1) (e := 57) (size := 3) (w1.alloc (.cells #[.int .i64 cats, .slice (some xg) gn gc, .slice ra rn rc, .slice pa pn pc, .slice na nn nc, .slice (some xs) sn sc, .int .i64 gate, .int .i64 quota] 44)) #[] 0 (by simp) (by unfold maxLen; omega) (by simp)
      rw [show (w1.alloc (.cells #[.int .i64 cats, .slice (some xg) gn gc, .slice ra rn rc, .slice pa pn pc, .slice na nn nc, .slice (some xs) sn sc, .int .i64 gate, .int .i64 quota] 44)).heap.size = w1.heap.size + 1 by simp] at hown0
      obtain ⟨t1, t2, t3⟩ := two_new w1 (.cells #[.int .i64 cats, .slice (some xg) gn gc, .slice ra rn rc, .slice pa pn pc, .slice na nn nc, .slice (some xs) sn sc, .int .i64 gate, .int .i64 quota] 44) (.cells #[] 57)
      have hrow := HGr.out.below ((hbw1.trans (t3.mono hbw1.size)).mono hB)
      have hsrc : ∀ i, i < gn → ∀ j, j < 3 → ((w1.alloc (.cells #[.int .i64 cats, .slice (some xg) gn gc, .slice ra rn rc, .slice pa pn pc, .slice na nn nc, .slice (some xs) sn sc, .int .i64 gate, .int .i64 quota] 44)).alloc (.cells #[] 57)).cell? (xg.add (i * 3 + j)) = some (.int .i64 (G i j)) := fun i hi j hj => by
        obtain ⟨y, hy, _, hc⟩ := hrow i hi
        obtain rfl : xg = y := by injection hy
        exact (hc j hj).1
      refine wpList_append_recs (o := ⟨some 47, _, _, _, _, _⟩) rfl (.tmp 44) (.tmp 46) 38 rfl (w1.heap.size + 1) 57 ti (.agg #[.int .i64 0, .int .i64 0, .int .i64 0]) 3 24 Try.underlying38 hti hz hs hby rfl (by decide) _ rfl hown0 xg gn gc G rfl hsrc (by unfold maxLen; omega) (by omega) (by omega) (by simp) ?_
      intro g cap w2 hg1 hg2 hg3 hg4 ho hb2
      have HO := Lib.hid ho.out
      have hW2 : Below w1.heap.size w1 w2 := t3.trans (hb2.mono (by omega))
      have HX : Hid (BoxC w2 w1.heap.size ⟨cats, (some xg), gn, gc, ra, rn, rc, pa, pn, pc, na, nn, nc, (some xs), sn, sc, gate, quota, G, R, P, N, S⟩) := Lib.hid ((hb2.block _ (by omega)).trans t2)
      have HC2 : Hid (BoxC w2 w.heap.size ⟨cats, (some xg), gn, gc, ra, rn, rc, pa, pn, pc, na, nn, nc, (some xs), sn, sc, gate, quota, G, R, P, N, S⟩) := Lib.hid ((hW2.block _ sW).trans HBw1.out)
      have rc1 : w2.cell? ⟨g, I * 3 + 1, none⟩ = some (.int .i64 (G I 1)) := by rw [World.ownsRow.cellAt HO.out _ (by omega)]; exact recRows_get 3 G gn I 1 (by omega) (by omega)
      have fg1 : w2.frozen? ⟨g, I * 3 + 1, none⟩ = false := World.ownsRow.frozenAt HO.out _
      have fX : w2.frozen? ⟨w1.heap.size, 1, none⟩ = false := HX.out.frozen 1
      have g1 : ¬ g = w1.heap.size := by omega
      have g2 : ¬ w1.heap.size = g := by omega
      have g3 : ¬ g = w.heap.size := by omega
      have g4 : ¬ w.heap.size = g := by omega
      have g5 : ¬ w1.heap.size = w.heap.size := by omega
      have g6 : ¬ w.heap.size = w1.heap.size := by omega
      clear ho hown0 hsrc hrow hti hz hs hby t1 t2 t3 hb2 k0 k1 k2 k3 k4 k5 k6 k7 
      obtain ⟨x0, x1, x2, x3, x4, x5, x6, x7⟩ := HX.out.cells
      dsimp only at x0 x1 x2 x3 x4 x5 x6 x7
      obtain ⟨k0, k1, k2, k3, k4, k5, k6, k7⟩ := HC2.out.cells
      dsimp only at k0 k1 k2 k3 k4 k5 k6 k7)
    have hbd1 := HGr.out.bd
    have hro := (RowT.own HO.out hg2 (fun i j hi hj => hbd1 i j hi hj)).far ⟨w1.heap.size, 1, none⟩ (.slice (some ⟨g, 0, none⟩) gn cap) g2
    have hZ : Below w1.heap.size w1 ((w2.setCell ⟨w1.heap.size, 1, none⟩ (.slice (some ⟨g, 0, none⟩) gn cap)).setCell ⟨g, I * 3 + 1, none⟩ (.int .i64 0)) := (hW2.setCell (p := ⟨w1.heap.size, 1, none⟩) (Nat.le_refl _) _).setCell (p := ⟨g, _, none⟩) (by simp; omega) _
    have hat := at_G (c := ⟨cats, (some xg), gn, gc, ra, rn, rc, pa, pn, pc, na, nn, nc, (some xs), sn, sc, gate, quota, G, R, P, N, S⟩) (i := I) (g := g) (cap := cap) HAt.out ((hbw1.trans (hZ.mono hbw1.size)).mono hB) (by simp; have := hW2.size; have := hbw1.size; omega) (by simpa using hro.patched I 1 0 (by omega) (by omega) (by omega)) (by simpa using hg3)
    have HK0 := HCk.out _ _ hat
    rw [HEG.out] at HK0
    have HK := Lib.hid HK0
    have HZ := Lib.hid hZ
    clear hbd1 hro hZ hat HK0
    refine HK.out.mono ?_
    rintro e w5 ⟨rfl, hb4⟩
    have hWV : Below w1.heap.size w1 w5 := HZ.out.trans (hb4.mono (by simp; exact hW2.size))
    have hbw5 := hbw1.trans (hWV.mono hbw1.size)
    have HBw5 : Hid (BoxC w5 w.heap.size ⟨cats, (some xg), gn, gc, ra, rn, rc, pa, pn, pc, na, nn, nc, (some xs), sn, sc, gate, quota, G, R, P, N, S⟩) := Lib.hid ((hWV.block _ sW).trans HBw1.out)
    clear HK HZ hb4 hWV HO HX HC2 rc1 fg1 fX g1 g2 g3 g4 g5 g6 hW2 hg1 hg2 hg3 hg4 sW x0 x1 x2 x3 x4 x5 x6 x7 k0 k1 k2 k3 k4 k5 k6 k7
    clear hI HEG
    -- S
    obtain ⟨k0, k1, k2, k3, k4, k5, k6, k7⟩ := HBw5.out.cells
    dsimp only at k0 k1 k2 k3 k4 k5 k6 k7
    have sW : w.heap.size < w5.heap.size := HBw5.out.lt
    go_wp2_with (
      at_builtin
      obtain ⟨ti, hti, hz, hs, hby⟩ := info_parts (P := Try.prog) (e := 64) (z := .agg #[.int .i64 0, .int .i64 0]) (size := 2) (bytes := 16) (by kernel_rfl)
      have hown0 := World.ownsRow_made (base := w5.heap.size + 1) (e := 64) (size := 2) (w5.alloc (.cells #[.int .i64 cats, .slice (some xg) gn gc, .slice ra rn rc, .slice pa pn pc, .slice na nn nc, .slice (some xs) sn sc, .int .i64 gate, .int .i64 quota] 44)) #[] 0 (by simp) (by unfold maxLen; omega) (by simp)
      rw [show (w5.alloc (.cells #[.int .i64 cats, .slice (some xg) gn gc, .slice ra rn rc, .slice pa pn pc, .slice na nn nc, .slice (some xs) sn sc, .int .i64 gate, .int .i64 quota] 44)).heap.size = w5.heap.size + 1 by simp] at hown0
      obtain ⟨t1, t2, t3⟩ := two_new w5 (.cells #[.int .i64 cats, .slice (some xg) gn gc, .slice ra rn rc, .slice pa pn pc, .slice na nn nc, .slice (some xs) sn sc, .int .i64 gate, .int .i64 quota] 44) (.cells #[] 64)
      have hrow := HSr.out.below ((hbw5.trans (t3.mono hbw5.size)).mono hB)
      have hsrc : ∀ i, i < sn → ∀ j, j < 2 → ((w5.alloc (.cells #[.int .i64 cats, .slice (some xg) gn gc, .slice ra rn rc, .slice pa pn pc, .slice na nn nc, .slice (some xs) sn sc, .int .i64 gate, .int .i64 quota] 44)).alloc (.cells #[] 64)).cell? (xs.add (i * 2 + j)) = some (.int .i64 (S i j)) := fun i hi j hj => by
        obtain ⟨y, hy, _, hc⟩ := hrow i hi
        obtain rfl : xs = y := by injection hy
        exact (hc j hj).1
      refine wpList_append_recs (o := ⟨some 69, _, _, _, _, _⟩) rfl (.tmp 66) (.tmp 68) 42 rfl (w5.heap.size + 1) 64 ti (.agg #[.int .i64 0, .int .i64 0]) 2 16 Try.underlying42 hti hz hs hby rfl (by decide) _ rfl hown0 xs sn sc S rfl hsrc (by unfold maxLen; omega) (by omega) (by omega) (by simp) ?_
      intro g cap w2 hg1 hg2 hg3 hg4 ho hb2
      have HO := Lib.hid ho.out
      have hW2 : Below w5.heap.size w5 w2 := t3.trans (hb2.mono (by omega))
      have HX : Hid (BoxC w2 w5.heap.size ⟨cats, (some xg), gn, gc, ra, rn, rc, pa, pn, pc, na, nn, nc, (some xs), sn, sc, gate, quota, G, R, P, N, S⟩) := Lib.hid ((hb2.block _ (by omega)).trans t2)
      have HC2 : Hid (BoxC w2 w.heap.size ⟨cats, (some xg), gn, gc, ra, rn, rc, pa, pn, pc, na, nn, nc, (some xs), sn, sc, gate, quota, G, R, P, N, S⟩) := Lib.hid ((hW2.block _ sW).trans HBw5.out)
      have rc1 : w2.cell? ⟨g, J * 2 + 1, none⟩ = some (.int .i64 (S J 1)) := by rw [World.ownsRow.cellAt HO.out _ (by omega)]; exact recRows_get 2 S sn J 1 (by omega) (by omega)
      have fg1 : w2.frozen? ⟨g, J * 2 + 1, none⟩ = false := World.ownsRow.frozenAt HO.out _
      have fX : w2.frozen? ⟨w5.heap.size, 5, none⟩ = false := HX.out.frozen 5
      have g1 : ¬ g = w5.heap.size := by omega
      have g2 : ¬ w5.heap.size = g := by omega
      have g3 : ¬ g = w.heap.size := by omega
      have g4 : ¬ w.heap.size = g := by omega
      have g5 : ¬ w5.heap.size = w.heap.size := by omega
      have g6 : ¬ w.heap.size = w5.heap.size := by omega
      clear ho hown0 hsrc hrow hti hz hs hby t1 t2 t3 hb2 k0 k1 k2 k3 k4 k5 k6 k7 
      obtain ⟨x0, x1, x2, x3, x4, x5, x6, x7⟩ := HX.out.cells
      dsimp only at x0 x1 x2 x3 x4 x5 x6 x7
      obtain ⟨k0, k1, k2, k3, k4, k5, k6, k7⟩ := HC2.out.cells
      dsimp only at k0 k1 k2 k3 k4 k5 k6 k7)
    have hbd1 := HSr.out.bd
    have hro := (RowT.own HO.out hg2 (fun i j hi hj => hbd1 i j hi hj)).far ⟨w5.heap.size, 5, none⟩ (.slice (some ⟨g, 0, none⟩) sn cap) g2
    have hZ : Below w5.heap.size w5 ((w2.setCell ⟨w5.heap.size, 5, none⟩ (.slice (some ⟨g, 0, none⟩) sn cap)).setCell ⟨g, J * 2 + 1, none⟩ (.int .i64 0)) := (hW2.setCell (p := ⟨w5.heap.size, 5, none⟩) (Nat.le_refl _) _).setCell (p := ⟨g, _, none⟩) (by simp; omega) _
    have hat := at_S (c := ⟨cats, (some xg), gn, gc, ra, rn, rc, pa, pn, pc, na, nn, nc, (some xs), sn, sc, gate, quota, G, R, P, N, S⟩) (i := J) (g := g) (cap := cap) HAt.out ((hbw5.trans (hZ.mono hbw5.size)).mono hB) (by simp; have := hW2.size; have := hbw5.size; omega) (by simpa using hro.patched J 1 0 (by omega) (by omega) (by omega)) (by simpa using hg3)
    have HK0 := HCk.out _ _ hat
    rw [HES.out] at HK0
    have HK := Lib.hid HK0
    have HZ := Lib.hid hZ
    clear hbd1 hro hZ hat HK0
    refine HK.out.mono ?_
    rintro e w9 ⟨rfl, hb4⟩
    have hWV : Below w5.heap.size w5 w9 := HZ.out.trans (hb4.mono (by simp; exact hW2.size))
    have hbw9 := hbw5.trans (hWV.mono hbw5.size)
    have HBw9 : Hid (BoxC w9 w.heap.size ⟨cats, (some xg), gn, gc, ra, rn, rc, pa, pn, pc, na, nn, nc, (some xs), sn, sc, gate, quota, G, R, P, N, S⟩) := Lib.hid ((hWV.block _ sW).trans HBw5.out)
    clear HK HZ hb4 hWV HO HX HC2 rc1 fg1 fX g1 g2 g3 g4 g5 g6 hW2 hg1 hg2 hg3 hg4 sW x0 x1 x2 x3 x4 x5 x6 x7 k0 k1 k2 k3 k4 k5 k6 k7
    clear hJ HES
    by_cases hn0 : nn = 0
    · have q1 : ¬ 0 < (nn : Int) := by omega
      have q1b : decide (0 < (nn : Int)) = false := decide_eq_false q1
      obtain ⟨k0, k1, k2, k3, k4, k5, k6, k7⟩ := HBw9.out.cells
      dsimp only at k0 k1 k2 k3 k4 k5 k6 k7
      go_wp2_with fail
      refine (HAw.out _).mono ?_
      rintro e w12 ⟨rfl, hb12⟩
      go_wp2
      go_ret
      exact ⟨rfl, hbw9.trans (hb12.mono hbw9.size)⟩
    · obtain ⟨xn, rfl, _⟩ := HNr.out.at2 0 (by omega)
      obtain ⟨L, hL⟩ : ∃ L : Nat, at_ % (nn : Int) = (L : Int) := ⟨(at_ % (nn : Int)).toNat, by have := Int.emod_nonneg at_ (show (nn : Int) ≠ 0 by omega); omega⟩
      have hLl : L < nn := by have := Int.emod_lt_of_pos at_ (show (0 : Int) < (nn : Int) by omega); omega
      have HEN1 : Hid (∀ g cap, _) := Lib.hid fun g cap => HEN.out L g cap hLl
      clear HEN
      have HEN := HEN1
      clear HEN1
      have q1 : 0 < (nn : Int) := by omega
      have q2 : ¬ (nn : Int) = 0 := by omega
      -- N
      obtain ⟨k0, k1, k2, k3, k4, k5, k6, k7⟩ := HBw9.out.cells
      dsimp only at k0 k1 k2 k3 k4 k5 k6 k7
      have sW : w.heap.size < w9.heap.size := HBw9.out.lt
      go_wp2_with (
        at_builtin
        obtain ⟨ti, hti, hz, hs, hby⟩ := info_parts (P := Try.prog) (e := 59) (z := .agg #[.int .i64 0, .int .i64 0]) (size := 2) (bytes := 16) (by kernel_rfl)
        have hown0 := World.ownsRow_made (base := w9.heap.size + 1) (e := 59) (size := 2) (w9.alloc (.cells #[.int .i64 cats, .slice (some xg) gn gc, .slice ra rn rc, .slice pa pn pc, .slice (some xn) nn nc, .slice (some xs) sn sc, .int .i64 gate, .int .i64 quota] 44)) #[] 0 (by simp) (by unfold maxLen; omega) (by simp)
        rw [show (w9.alloc (.cells #[.int .i64 cats, .slice (some xg) gn gc, .slice ra rn rc, .slice pa pn pc, .slice (some xn) nn nc, .slice (some xs) sn sc, .int .i64 gate, .int .i64 quota] 44)).heap.size = w9.heap.size + 1 by simp] at hown0
        obtain ⟨t1, t2, t3⟩ := two_new w9 (.cells #[.int .i64 cats, .slice (some xg) gn gc, .slice ra rn rc, .slice pa pn pc, .slice (some xn) nn nc, .slice (some xs) sn sc, .int .i64 gate, .int .i64 quota] 44) (.cells #[] 59)
        have hrow := HNr.out.below ((hbw9.trans (t3.mono hbw9.size)).mono hB)
        have hsrc : ∀ i, i < nn → ∀ j, j < 2 → ((w9.alloc (.cells #[.int .i64 cats, .slice (some xg) gn gc, .slice ra rn rc, .slice pa pn pc, .slice (some xn) nn nc, .slice (some xs) sn sc, .int .i64 gate, .int .i64 quota] 44)).alloc (.cells #[] 59)).cell? (xn.add (i * 2 + j)) = some (.int .i64 (N i j)) := fun i hi j hj => by
          obtain ⟨y, hy, _, hc⟩ := hrow i hi
          obtain rfl : xn = y := by injection hy
          exact (hc j hj).1
        refine wpList_append_recs (o := ⟨some 111, _, _, _, _, _⟩) rfl (.tmp 108) (.tmp 110) 41 rfl (w9.heap.size + 1) 59 ti (.agg #[.int .i64 0, .int .i64 0]) 2 16 Try.underlying41 hti hz hs hby rfl (by decide) _ rfl hown0 xn nn nc N rfl hsrc (by unfold maxLen; omega) (by omega) (by omega) (by simp) ?_
        intro g cap w2 hg1 hg2 hg3 hg4 ho hb2
        have HO := Lib.hid ho.out
        have hW2 : Below w9.heap.size w9 w2 := t3.trans (hb2.mono (by omega))
        have HX : Hid (BoxC w2 w9.heap.size ⟨cats, (some xg), gn, gc, ra, rn, rc, pa, pn, pc, (some xn), nn, nc, (some xs), sn, sc, gate, quota, G, R, P, N, S⟩) := Lib.hid ((hb2.block _ (by omega)).trans t2)
        have HC2 : Hid (BoxC w2 w.heap.size ⟨cats, (some xg), gn, gc, ra, rn, rc, pa, pn, pc, (some xn), nn, nc, (some xs), sn, sc, gate, quota, G, R, P, N, S⟩) := Lib.hid ((hW2.block _ sW).trans HBw9.out)
        have rc1 : w2.cell? ⟨g, L * 2 + 1, none⟩ = some (.int .i64 (N L 1)) := by rw [World.ownsRow.cellAt HO.out _ (by omega)]; exact recRows_get 2 N nn L 1 (by omega) (by omega)
        have fg1 : w2.frozen? ⟨g, L * 2 + 1, none⟩ = false := World.ownsRow.frozenAt HO.out _
        have rc0 : w2.cell? ⟨g, L * 2, none⟩ = some (.int .i64 (N L 0)) := by rw [World.ownsRow.cellAt HO.out _ (by omega)]; exact recRows_get 2 N nn L 0 (by omega) (by omega)
        have fX : w2.frozen? ⟨w9.heap.size, 4, none⟩ = false := HX.out.frozen 4
        have g1 : ¬ g = w9.heap.size := by omega
        have g2 : ¬ w9.heap.size = g := by omega
        have g3 : ¬ g = w.heap.size := by omega
        have g4 : ¬ w.heap.size = g := by omega
        have g5 : ¬ w9.heap.size = w.heap.size := by omega
        have g6 : ¬ w.heap.size = w9.heap.size := by omega
        clear ho hown0 hsrc hrow hti hz hs hby t1 t2 t3 hb2 k0 k1 k2 k3 k4 k5 k6 k7 
        obtain ⟨x0, x1, x2, x3, x4, x5, x6, x7⟩ := HX.out.cells
        dsimp only at x0 x1 x2 x3 x4 x5 x6 x7
        obtain ⟨k0, k1, k2, k3, k4, k5, k6, k7⟩ := HC2.out.cells
        dsimp only at k0 k1 k2 k3 k4 k5 k6 k7)
      obtain ⟨X0, hX0⟩ : ∃ X0, X0 = w9.heap.size := ⟨_, rfl⟩
      obtain ⟨Y, hY⟩ : ∃ Y, Y = w2.setCell ⟨w9.heap.size, 4, none⟩ (.slice (some ⟨g, 0, none⟩) nn cap) := ⟨_, rfl⟩
      have HY := Lib.hid hY
      have y0 : Y.cell? ⟨w9.heap.size, 0, none⟩ = some (.int .i64 cats) := by rw [hY]; rw [World.cell?_setCell_other (h := by simp)]; exact x0
      have y1 : Y.cell? ⟨w9.heap.size, 1, none⟩ = some (.slice (some xg) gn gc) := by rw [hY]; rw [World.cell?_setCell_other (h := by simp)]; exact x1
      have y2 : Y.cell? ⟨w9.heap.size, 2, none⟩ = some (.slice ra rn rc) := by rw [hY]; rw [World.cell?_setCell_other (h := by simp)]; exact x2
      have y3 : Y.cell? ⟨w9.heap.size, 3, none⟩ = some (.slice pa pn pc) := by rw [hY]; rw [World.cell?_setCell_other (h := by simp)]; exact x3
      have y4 : Y.cell? ⟨w9.heap.size, 4, none⟩ = some (.slice (some ⟨g, 0, none⟩) nn cap) := by rw [hY]; rw [World.cell?_setCell_same (h := x4)]
      have y5 : Y.cell? ⟨w9.heap.size, 5, none⟩ = some (.slice (some xs) sn sc) := by rw [hY]; rw [World.cell?_setCell_other (h := by simp)]; exact x5
      have y6 : Y.cell? ⟨w9.heap.size, 6, none⟩ = some (.int .i64 gate) := by rw [hY]; rw [World.cell?_setCell_other (h := by simp)]; exact x6
      have y7 : Y.cell? ⟨w9.heap.size, 7, none⟩ = some (.int .i64 quota) := by rw [hY]; rw [World.cell?_setCell_other (h := by simp)]; exact x7
      have rc0Y : Y.cell? ⟨g, L * 2, none⟩ = some (.int .i64 (N L 0)) := by rw [hY, cell_far _ _ _ _ g2]; exact rc0
      have rc1Y : Y.cell? ⟨g, L * 2 + 1, none⟩ = some (.int .i64 (N L 1)) := by rw [hY, cell_far _ _ _ _ g2]; exact rc1
      have fgY : Y.frozen? ⟨g, L * 2 + 1, none⟩ = false := by rw [hY]; simpa using fg1
      have sY : Y.heap.size = w2.heap.size := by rw [hY]; simp
      have sY1 : g < Y.heap.size := by omega
      have sY2 : w9.heap.size < Y.heap.size := by have := hW2.size; have := HX.out.lt; omega
      have hro : RowT 2 Y Y.heap.size (some ⟨g, 0, none⟩) nn N := by rw [sY, hY]; exact (RowT.own HO.out hg2 (fun i j hi hj => HNr.out.bd i j hi hj)).far ⟨w9.heap.size, 4, none⟩ _ g2
      have HRo := Lib.hid hro
      have hWY : Below w9.heap.size w9 Y := by rw [hY]; exact hW2.setCell (p := ⟨w9.heap.size, 4, none⟩) (Nat.le_refl _) _
      have HWY := Lib.hid hWY
      clear hY hro hWY sY
      go_wp2
      have hY2 := HY.out
      rw [← hY2]
      clear hY2 x0 x1 x2 x3 x4 x5 x6 x7 k0 k1 k2 k3 k4 k5 k6 k7 rc0 rc1 fg1 fX
      have l0 : (0 : Int) ≤ (L : Int) := by omega
      have l1 : (L : Int) < (nn : Int) := by omega
      apply wp_region_auto [113, 114, 115, 116, 117, 118, 119, 120, 121, 122, 123] [_, _, _, _, _, _, _, _, _, _, _] (fun W' => Below Y.heap.size Y W')
      case hm => kernel_rfl
      case hT => intro y; simp only [setAll, List.setIfInBounds_toArray, List.set_cons_succ, List.set_cons_zero]; exact rfl
      case hok => kernel_rfl
      case hn => decide
      case hw => exact (Below.refl _ _).drew
      case hs =>
        refine auto_op 113 [] (by kernel_rfl) (fun y w' HW hd K hK => ?_) ?_
        · go_simp
          refine hK _ _ ?_ ?_ HW
          · simp [upd]
          · exact rfl
        refine auto_op 114 [0] (by kernel_rfl) (fun y w' HW hd K hK => ?_) ?_
        · have e0 := hd_nth (hd 0 (by simp)) rfl
          have hcl : ∀ p : Addr, p.block < Y.heap.size → w'.cell? p = Y.cell? p := fun p hp => HW.cell hp
          go_simp
          refine hK _ _ ?_ ?_ HW
          · simp [upd, e0]
          · exact rfl
        refine auto_op 115 [] (by kernel_rfl) (fun y w' HW hd K hK => ?_) ?_
        · go_simp
          refine hK _ _ ?_ ?_ HW
          · simp [upd]
          · exact rfl
        refine auto_op 116 [] (by kernel_rfl) (fun y w' HW hd K hK => ?_) ?_
        · go_simp
          refine hK _ _ ?_ ?_ HW
          · simp [upd]
          · exact rfl
        refine auto_op 117 [3] (by kernel_rfl) (fun y w' HW hd K hK => ?_) ?_
        · have e3 := hd_nth (hd 3 (by simp)) rfl
          have hcl : ∀ p : Addr, p.block < Y.heap.size → w'.cell? p = Y.cell? p := fun p hp => HW.cell hp
          go_simp
          refine hK _ _ ?_ ?_ HW
          · simp [upd, e3]
          · exact rfl
        refine auto_op 118 [] (by kernel_rfl) (fun y w' HW hd K hK => ?_) ?_
        · go_simp
          refine hK _ _ ?_ ?_ HW
          · simp [upd]
          · exact rfl
        refine auto_op 119 [4, 5] (by kernel_rfl) (fun y w' HW hd K hK => ?_) ?_
        · have e4 := hd_nth (hd 4 (by simp)) rfl
          have e5 := hd_nth (hd 5 (by simp)) rfl
          go_simp
          refine hK _ _ ?_ ?_ HW
          · simp [upd, e4, e5]
          · exact rfl
        refine auto_op 120 [6] (by kernel_rfl) (fun y w' HW hd K hK => ?_) ?_
        · have e6 := hd_nth (hd 6 (by simp)) rfl
          go_simp
          refine hK _ _ ?_ ?_ HW
          · simp [upd, e6]
          · exact rfl
        refine auto_op 121 [7] (by kernel_rfl) (fun y w' HW hd K hK => ?_) ?_
        · have e7 := hd_nth (hd 7 (by simp)) rfl
          have hcl : ∀ p : Addr, p.block < Y.heap.size → w'.cell? p = Y.cell? p := fun p hp => HW.cell hp
          go_simp
          refine hK _ _ ?_ ?_ HW
          · simp [upd, e7]
          · exact rfl
        refine auto_op 122 [1, 2, 0, 1, 2, 3, 4, 5, 6, 7, 8] (by kernel_rfl) (fun y w' HW hd K hK => ?_) ?_
        · have e0 := hd_nth (hd 0 (by simp)) rfl
          have e1 := hd_nth (hd 1 (by simp)) rfl
          have e2 := hd_nth (hd 2 (by simp)) rfl
          have e3 := hd_nth (hd 3 (by simp)) rfl
          have e4 := hd_nth (hd 4 (by simp)) rfl
          have e5 := hd_nth (hd 5 (by simp)) rfl
          have e6 := hd_nth (hd 6 (by simp)) rfl
          have e7 := hd_nth (hd 7 (by simp)) rfl
          have e8 := hd_nth (hd 8 (by simp)) rfl
          go_simp
          refine hK _ _ ?_ ?_ HW
          · simp [upd, e0, e1, e2, e3, e4, e5, e6, e7, e8]
          · exact rfl
        refine auto_op 123 [9, 0, 1, 2, 3, 4, 5, 6, 7, 8] (by kernel_rfl) (fun y w' HW hd K hK => ?_) ?_
        · have e0 := hd_nth (hd 0 (by simp)) rfl
          have e1 := hd_nth (hd 1 (by simp)) rfl
          have e2 := hd_nth (hd 2 (by simp)) rfl
          have e3 := hd_nth (hd 3 (by simp)) rfl
          have e4 := hd_nth (hd 4 (by simp)) rfl
          have e5 := hd_nth (hd 5 (by simp)) rfl
          have e6 := hd_nth (hd 6 (by simp)) rfl
          have e7 := hd_nth (hd 7 (by simp)) rfl
          have e8 := hd_nth (hd 8 (by simp)) rfl
          have e9 := hd_nth (hd 9 (by simp)) rfl
          go_simp
          refine hK _ _ ?_ ?_ HW
          · simp [upd, e0, e1, e2, e3, e4, e5, e6, e7, e8, e9]
          · exact rfl
        refine auto_last fun y w' HW hd K hK => ?_
        have e0 := hd_nth (hd 0 (by omega)) rfl
        have e1 := hd_nth (hd 1 (by omega)) rfl
        have e2 := hd_nth (hd 2 (by omega)) rfl
        have e3 := hd_nth (hd 3 (by omega)) rfl
        have e4 := hd_nth (hd 4 (by omega)) rfl
        have e5 := hd_nth (hd 5 (by omega)) rfl
        have e6 := hd_nth (hd 6 (by omega)) rfl
        have e7 := hd_nth (hd 7 (by omega)) rfl
        have e8 := hd_nth (hd 8 (by omega)) rfl
        have e9 := hd_nth (hd 9 (by omega)) rfl
        have e10 := hd_nth (hd 10 (by omega)) rfl
        have hcl : ∀ p : Addr, p.block < Y.heap.size → w'.cell? p = Y.cell? p := fun p hp => HW.cell hp
        have hfr : ∀ p : Addr, p.block < Y.heap.size → w'.frozen? p = Y.frozen? p := fun p hp => HW.frozen hp
        have e10x : y 10 = .pointer (some ⟨g, L * 2 + 1, none⟩) := e10
        clear e10
        have e10 := e10x
        clear e10x
        go_simp
        refine hK _ _ ?_
        clear hd hK K e0 e1 e2 e3 e4 e5 e6 e7 e8 e9 e10
        have v0 := (hcl ⟨w9.heap.size, 0, none⟩ sY2).trans y0
        have v1 := (hcl ⟨w9.heap.size, 1, none⟩ sY2).trans y1
        have v2 := (hcl ⟨w9.heap.size, 2, none⟩ sY2).trans y2
        have v3 := (hcl ⟨w9.heap.size, 3, none⟩ sY2).trans y3
        have v4 := (hcl ⟨w9.heap.size, 4, none⟩ sY2).trans y4
        have v5 := (hcl ⟨w9.heap.size, 5, none⟩ sY2).trans y5
        have v6 := (hcl ⟨w9.heap.size, 6, none⟩ sY2).trans y6
        have v7 := (hcl ⟨w9.heap.size, 7, none⟩ sY2).trans y7
        have HV0 := Lib.hid ((hcl ⟨g, L * 2 + 1, none⟩ sY1).trans rc1Y)
        clear hcl hfr y0 y1 y2 y3 y4 y5 y6 y7 rc0Y rc1Y fgY
        have hro2 := (HRo.out.below HW).patched L 1 (N L 0) (by omega) (by omega) (HNr.out.bd L 0 (by omega) (by omega))
        have hZ : Below w9.heap.size w9 (w'.setCell ⟨g, L * 2 + 1, none⟩ (.int .i64 (N L 0))) := (HWY.out.trans (HW.mono HWY.out.size)).setCell (p := ⟨g, _, none⟩) (by simp; omega) _
        have hat := at_N (c := ⟨cats, (some xg), gn, gc, ra, rn, rc, pa, pn, pc, (some xn), nn, nc, (some xs), sn, sc, gate, quota, G, R, P, N, S⟩) (i := L) (g := g) (cap := cap) HAt.out ((hbw9.trans (hZ.mono hbw9.size)).mono hB) (by simp; have := HWY.out.size; have := HW.size; have := hbw9.size; omega) (by simpa using hro2.more (by simpa using HW.size)) (by simpa using hg3)
        have HK0 := HCk.out _ _ hat
        rw [HEN.out] at HK0
        have HK := Lib.hid HK0
        have HZ := Lib.hid hZ
        clear hro2 hZ hat HK0
        go_wp2_with fail
        refine HK.out.mono ?_
        rintro e w12 ⟨rfl, hb4⟩
        have hWV : Below w9.heap.size w9 w12 := HZ.out.trans (hb4.mono (by simp; have := HWY.out.size; have := HW.size; omega))
        have hbw12 := hbw9.trans (hWV.mono hbw9.size)
        clear HK HZ hb4 hWV
        go_wp2_with fail
        refine (HAw.out _).mono ?_
        rintro e w13 ⟨rfl, hb13⟩
        go_wp2
        go_ret
        exact ⟨rfl, hbw12.trans (hb13.mono hbw12.size)⟩
  · have hne : (cka != 0) = true := by simpa using hck
    clear hrt hc
    go_enter Try.func7, Try.ntmps7
    go_wp2_with fail
    refine (HC1.out _ (HB0.out _)).mono ?_
    rintro e w1 ⟨rfl, hb⟩
    have hbw := (HB0.out _).trans (hb.mono (by simp))
    go_wp2_with fail
    refine (HAw.out _).mono ?_
    rintro e w2 ⟨rfl, hb2⟩
    go_wp2
    go_ret
    exact ⟨rfl, hbw.trans (hb2.mono hbw.size)⟩
end Go.Proofs.Ytmekoanobicddaa.Cf
namespace Go.Proofs.Ytmekoanobicddaa.configOne
open Go.ChangeShapes Go.WideShapes Go.ChangeAt Go.RowKit
set_option linter.unusedVariables false

theorem own : ownKnob Try.prog.godebug = none := by kernel_rfl
theorem laidOut : laidOutB Try.prog = true := by kernel_rfl

set_option maxRecDepth 100000 in
theorem lifted (os : Os) (started : os.Started) (H : Type) (enc : TypeId × Value → H) :
    ReturnsInHanded {} Try.checked os 7 .any (Rows.configOneSpec.pre6 enc Try.prog Try.f7 Rows.configOneRow.domain false) (Rows.configOneSpec.post enc Try.prog Try.f7 false true false false) := by
  refine returnsInHanded_of_change_sized (C := Try.checked) own started (by kernel_rfl) Try.func7
    (ChangeSpec.witness6 (enc := enc) (C := Try.checked) false ⟨#[], #[.agg #[.int .i64 0, .slice none 0 0, .slice none 0 0, .slice none 0 0, .slice none 0 0, .slice none 0 0, .int .i64 0, .int .i64 0], .int .u8 0], []⟩ 8 (by kernel_rfl) (by kernel_rfl) (by kernel_rfl) (by kernel_rfl)) ?_
  intro W base args ds gs before hval0 hW hcnd hsz0 _
  have hsz : (DataW.weightsEach Try.prog (Try.f7.params.toList ++ Rows.configOneSpec.plain.varTypes Try.prog) (ds ++ gs)).all (· ≤ reachBytes) = true := hsz0
  clear hsz0
  have hval : ∀ (j : Nat) t v, Try.f7.params[j]? = some t → args[j]? = some v → Value.okWide Try.prog W .any base t v := hval0
  have hW' := hW
  obtain ⟨p, q, hA0, hV, rfl, hfz, hnd⟩ := hW
  have hA : DataW.TrodAll enc Try.prog W 0 (fun _ => true) true Try.f7.params.toList args.toList ds p := hA0
  rw [Try.params7] at hA hval hsz
  obtain ⟨v0, vs0, d0, ds0, p0, q0, hargs, rfl, rfl, h0, r0⟩ := trodAll_cons hA
  obtain ⟨v1, vs1, d1, ds1, p1, q1, rfl, rfl, rfl, h1, r1⟩ := trodAll_cons r0
  obtain ⟨rfl, rfl, rfl⟩ := trodAll_nil r1
  obtain rfl : args = #[v0, v1] := by cases args; simp_all
  obtain ⟨rfl, rfl⟩ := trodVars_none hV
  have k0 := h0
  have lt0 : ∀ x ∈ p0, x.block < W.heap.size := by obtain ⟨m, hm⟩ := k0; exact DataW.trod_lt m _ _ _ hm
  obtain ⟨c0, rfl, hc0⟩ := Cf.cfg_arg (hval 0 44 v0 rfl rfl) h0 hsz (j := 0) rfl rfl
  obtain ⟨a1, rfl, rfl, rfl, w1⟩ := open_int Try.underlying5 (hval 1 5 v1 rfl rfl) h1
  clear hA0 hval0
  refine (Cf.one_law c0 a1 _ W (Nat.le_refl _) hc0 (Ut.wf_u8 w1).1 (Ut.wf_u8 w1).2 : Calls Try.prog 7 _ W fun e w' => e = .returned (.bool true) ∧ Below W.heap.size W w').mono fun e W' ⟨he, bel⟩ => ?_
  subst he
  exact ⟨_, rfl, _, _, _, [], _, [], hW', trodAll_mk1 (shut_bool Try.underlying4 _), (trodAll_cons_mk (Below.trod laidOut (by kernel_rfl) (of_decide_eq_true (by kernel_rfl)) k0 bel lt0) (trodAll_cons_mk (shut_int Try.underlying5 w1) trodAll_mk0)), rfl, bel.frame _, fun h => by cases h⟩

theorem over : Rows.configOneRow.holds Try.pinned (OpenSpec.ofChange Rows.configOneSpec) :=
  OpenClaim.holds_of_wide 7 Try.f7 rfl rfl rfl rfl rfl rfl rfl ⟨rfl, rfl, rfl, rfl, rfl⟩ rfl rfl rfl rfl rfl (by kernel_rfl) Try.func7 (by kernel_rfl)
    (of_decide_eq_true (by kernel_rfl)) (by unfold Func.isWrapper; first | (rw [if_pos (by decide +kernel)]; kernel_rfl) | (rw [if_neg (by decide +kernel)]; exact ⟨rfl, rfl⟩))
    (fun os started H enc _ => lifted os started H enc)

theorem proved : Rows.ConfigOneSaid := over
#print axioms proved
end Go.Proofs.Ytmekoanobicddaa.configOne
