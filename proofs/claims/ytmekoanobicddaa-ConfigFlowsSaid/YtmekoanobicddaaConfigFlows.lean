/- In a right configuration each ring goes where labels flow, and each guest's port has its label. For any configuration, hermitagelaw04.ConfigFlows returns true and leaves its lists as they were; it asks for no condition. -/
import Derived.Test.YtmekoanobicddaaVt
import Derived.Deep.Slices
import Derived.Deep.Fields
import Derived.ChangeSame
import Derived.SizedLaws
import Derived.Lib.SmallJoins
import Derived.Test.YtmekoanobicddaaCa
import Derived.Test.YtmekoanobicddaaCu
import Derived.Test.YtmekoanobicddaaRows
import Derived.WalkKit
import Derived.ProofKit
import Derived.OpenShut
import Derived.ShutString
import Derived.ChangeOld
import Derived.Below
namespace Go.Proofs.Ytmekoanobicddaa.Ut
open Go.ChangeShapes Go.WideShapes Go.Deep Go.RowKit

theorem cell_lt {w : World} {a : Addr} {v : Value} (h : w.cell? a = some v) : a.block < w.heap.size := by
  rcases Nat.lt_or_ge a.block w.heap.size with hl | hl
  · exact hl
  · simp [World.cell?, Array.getElem?_eq_none hl] at h

section
variable {H : Type} {enc : TypeId × Value → H} {P : Program} {w : World} {base : Nat} {held : Bool}

/-- the fields of a struct that came in by value -/
theorem open_fields {r : Reach} {b0 : Nat} {t : TypeId} {fs : Array Field} {v : Value} {d : DataW H} {p : List MemPlace} {spare : Nat → Bool} (hs : P.underlying t = some (.struct fs)) (hone : oneCellFields P fs = true) (hC : P.cellsOf t = fs.size)
    (hv : Value.okWide P w r b0 t v) (h : DataW.Trod enc P w base spare held t v d p) :
    ∃ (cs : List Value) (ys : List (DataW H × List MemPlace)) (n : Nat), v = .agg cs.toArray ∧ cs.length = fs.size ∧ d = .agg (ys.map (·.1)) ∧ ys.length = fs.size ∧
      ∀ (j : Nat) (f : Field), fs[j]? = some f → ∃ c y, cs[j]? = some c ∧ ys[j]? = some y ∧ DataW.trod enc P w base spare held n f.type [c] = some y := by
  obtain ⟨cs, rfl, hsz⟩ := okWide_struct hs hv
  obtain ⟨l⟩ := cs
  have hl : l.length = fs.size := by simpa using hsz.trans hC
  obtain ⟨fuel, hf⟩ := h
  obtain ⟨ys, n, _, hx, _, hlen, hg⟩ := DataW.trod_struct hs hf
  simp only [Prod.mk.injEq] at hx
  refine ⟨l, ys, n, rfl, hl, hx.1, hlen, fun j f hj => ?_⟩
  obtain ⟨o1, k1⟩ := hone_of hone j f hj
  have hjl : j < fs.size := (Array.getElem?_eq_some_iff.1 hj).1
  have h1 := hg j f hj
  simp only [Value.cells] at h1
  rw [o1, k1] at h1
  have hd1 : (l.drop j).take 1 = [l[j]'(by omega)] := by
    rw [List.drop_eq_getElem_cons (by omega)]
    rfl
  rw [hd1] at h1
  have hy : ys[j]? = some (ys[j]'(by omega)) := List.getElem?_eq_getElem (by omega)
  exact ⟨_, _, List.getElem?_eq_getElem (by omega), hy, h1.trans hy⟩

/-- a slice of structs of integers -/
theorem open_recs {t e : TypeId} {fs : Array Field} {fuel : Nat} {c : Value} {x : DataW H × List MemPlace} (ht : P.underlying t = some (.slice e)) (he : P.underlying e = some (.struct fs)) (hone : oneCellFields P fs = true) (hC : P.cellsOf e = fs.size)
    (hint : ∀ (j : Nat) (f : Field), fs[j]? = some f → P.underlying f.type = some (.int .i64)) (h0 : 0 < fs.size) (h : DataW.trod enc P w base (fun _ => true) held fuel t [c] = some x) :
    ∃ (a : Option Addr) (n cap : Nat) (Z : Nat → Nat → Int), c = .slice a n cap ∧ n ≤ cap ∧ ((cap = 0) ∨ ∃ el sp, x.1 = .slice el sp ∧ el.length + sp.length = cap) ∧
      ∀ i, i < n → ∃ y, a = some y ∧ y.block < w.heap.size ∧ ∀ j, j < fs.size → w.cell? (y.add (i * fs.size + j)) = some (.int .i64 (Z i j)) ∧ -9223372036854775808 ≤ Z i j ∧ Z i j < 9223372036854775808 := by
  rcases Go.Deep.open_slice ht h with ⟨hc, _⟩ | ⟨a, n, cap, m, q, D, Pl, hc, hb, hl, hm, hmm, hx, hi⟩
  · simp only [List.cons.injEq, and_true] at hc
    exact ⟨none, 0, 0, fun _ _ => 0, hc, Nat.le_refl _, .inl rfl, fun i hi => absurd hi (by omega)⟩
  · simp only [List.cons.injEq, and_true] at hc
    simp only [if_true] at hmm
    subst hmm
    have key : ∀ i j, ∃ z : Int, i < n → j < fs.size → w.cell? (a.add (i * fs.size + j)) = some (.int .i64 z) ∧ -9223372036854775808 ≤ z ∧ z < 9223372036854775808 := fun i j => by
      by_cases h1 : i < n ∧ j < fs.size
      · obtain ⟨cs', hcs, ht'⟩ := hi i (by omega)
        rw [hC] at hcs
        obtain ⟨ys, n', _, _, _, hyl, hf⟩ := DataW.trod_struct he ht'
        obtain ⟨_, hcl, hat⟩ := World.cells?_some hcs
        have hj : fs[j]? = some fs[j] := by simp [h1.2]
        obtain ⟨o1, k1⟩ := hone_of hone j _ hj
        have h2 := hf j _ hj
        rw [o1, k1] at h2
        have hd1 : (cs'.drop j).take 1 = [cs'[j]'(by omega)] := by
          rw [List.drop_eq_getElem_cons (by omega)]
          rfl
        rw [hd1] at h2
        have hy : ys[j]? = some (ys[j]'(by omega)) := List.getElem?_eq_getElem (by omega)
        rw [hy] at h2
        obtain ⟨z, hz, _, hw⟩ := DataW.trod_int (hint j _ hj) h2
        simp only [List.cons.injEq, and_true] at hz
        refine ⟨z, fun _ _ => ⟨?_, wf_i64 hw⟩⟩
        rw [← add_of_add, hat j h1.2, List.getElem?_eq_getElem (by omega), hz]
      · exact ⟨0, fun h2 h3 => absurd ⟨h2, h3⟩ h1⟩
    refine ⟨some a, n, m, fun i j => Classical.choose (key i j), hc, hl, .inr ⟨_, _, by rw [hx], by simp; omega⟩, fun i hin => ?_⟩
    refine ⟨a, rfl, ?_, fun j hj => Classical.choose_spec (key i j) hin hj⟩
    have h1 := Classical.choose_spec (key i 0) hin h0
    have h2 := cell_lt h1.1
    rwa [block_of_add] at h2

/-- what a slice in a field of a struct may take -/
theorem sized_field {ts : List TypeId} {ds : List (DataW H)} (h : (DataW.weightsEach P ts ds).all (· ≤ reachBytes) = true) {j : Nat} {t : TypeId} {fs : Array Field} {parts : List (DataW H)} (ht : ts[j]? = some t) (hd : ds[j]? = some (.agg parts))
    (hu : P.underlying t = some (.struct fs)) {i : Nat} {f : Field} {e : TypeId} {el sp : List (DataW H)} (hf : fs[i]? = some f) (hp : parts[i]? = some (.slice el sp)) (he : P.underlying f.type = some (.slice e)) : (el.length + sp.length) * P.bytesOf e ≤ reachBytes := by
  refine sized_slice (P := P) (ts := fs.toList.map (·.type)) (ds := parts) (j := i) (t := f.type) ?_ (by simp [hf]) hp he
  rw [List.all_eq_true]
  intro q hq
  refine List.all_eq_true.1 h q (DataW.weights_mem_each ht hd q ?_)
  simp only [DataW.weights, hu]
  exact hq
end
end Go.Proofs.Ytmekoanobicddaa.Ut
namespace Go.Proofs.Ytmekoanobicddaa.Cf
open Go.ChangeShapes Go.WideShapes Go.Deep Go.RowKit Ut
set_option linter.unusedVariables false

theorem ints3 {fs : Array Field} {f0 f1 f2 : Field} (h : fs = #[f0, f1, f2]) (h0 : f0.type = 3) (h1 : f1.type = 3) (h2 : f2.type = 3) : ∀ (j : Nat) (f : Field), fs[j]? = some f → Try.prog.underlying f.type = some (.int .i64) := fun j f hj => by
  subst h
  match j, hj with
  | 0, hj => simp at hj; subst hj; rw [h0]; exact Try.underlying3
  | 1, hj => simp at hj; subst hj; rw [h1]; exact Try.underlying3
  | 2, hj => simp at hj; subst hj; rw [h2]; exact Try.underlying3
  | j + 3, hj => simp at hj
theorem ints2 {fs : Array Field} {f0 f1 : Field} (h : fs = #[f0, f1]) (h0 : f0.type = 3) (h1 : f1.type = 3) : ∀ (j : Nat) (f : Field), fs[j]? = some f → Try.prog.underlying f.type = some (.int .i64) := fun j f hj => by
  subst h
  match j, hj with
  | 0, hj => simp at hj; subst hj; rw [h0]; exact Try.underlying3
  | 1, hj => simp at hj; subst hj; rw [h1]; exact Try.underlying3
  | j + 2, hj => simp at hj

section
variable {H : Type} {enc : TypeId × Value → H} {W : World}
set_option maxRecDepth 100000 in
theorem cfg_arg {b0 : Nat} {v : Value} {d : DataW H} {p : List MemPlace} {ts : List TypeId} {ds : List (DataW H)} {j : Nat} (hv : Value.okWide Try.prog W .any b0 44 v) (h : DataW.Trod enc Try.prog W 0 (fun _ => true) true 44 v d p)
    (hsz : (DataW.weightsEach Try.prog ts ds).all (· ≤ reachBytes) = true) (ht : ts[j]? = some 44) (hd : ds[j]? = some d) : ∃ c : Cfg, v = c.v ∧ c.At W W.heap.size := by
  obtain ⟨cs, ys, n, rfl, hl, rfl, hyl, hf⟩ := open_fields Try.underlying44 (by kernel_rfl) (by kernel_rfl) hv h
  obtain ⟨c0, y0, e0, g0, t0⟩ := hf 0 _ rfl
  obtain ⟨c1, y1, e1, g1, t1⟩ := hf 1 _ rfl
  obtain ⟨c2, y2, e2, g2, t2⟩ := hf 2 _ rfl
  obtain ⟨c3, y3, e3, g3, t3⟩ := hf 3 _ rfl
  obtain ⟨c4, y4, e4, g4, t4⟩ := hf 4 _ rfl
  obtain ⟨c5, y5, e5, g5, t5⟩ := hf 5 _ rfl
  obtain ⟨c6, y6, e6, g6, t6⟩ := hf 6 _ rfl
  obtain ⟨c7, y7, e7, g7, t7⟩ := hf 7 _ rfl
  match cs, hl, e0, e1, e2, e3, e4, e5, e6, e7 with
  | [x0, x1, x2, x3, x4, x5, x6, x7], _, e0, e1, e2, e3, e4, e5, e6, e7 =>
    simp only [List.getElem?_cons_zero, List.getElem?_cons_succ, Option.some.injEq] at e0 e1 e2 e3 e4 e5 e6 e7
    subst e0 e1 e2 e3 e4 e5 e6 e7
    obtain ⟨cats, q0, _, w0⟩ := DataW.trod_int Try.underlying3 t0
    obtain ⟨gate, q6, _, w6⟩ := DataW.trod_int Try.underlying3 t6
    obtain ⟨quota, q7, _, w7⟩ := DataW.trod_int Try.underlying3 t7
    simp only [List.cons.injEq, and_true] at q0 q6 q7
    subst q0 q6 q7
    obtain ⟨ga, gn, gc, G, rfl, l1, s1, r1⟩ := open_recs Try.underlying38 Try.underlying57 (by kernel_rfl) (by kernel_rfl) (ints3 rfl rfl rfl rfl) (by decide) t1
    obtain ⟨ra, rn, rc, R, rfl, l2, s2, r2⟩ := open_recs Try.underlying39 Try.underlying90 (by kernel_rfl) (by kernel_rfl) (ints3 rfl rfl rfl rfl) (by decide) t2
    obtain ⟨pa, pn, pc, P, rfl, l3, s3, r3⟩ := open_recs Try.underlying40 Try.underlying62 (by kernel_rfl) (by kernel_rfl) (ints2 rfl rfl rfl) (by decide) t3
    obtain ⟨na, nn, nc, N, rfl, l4, s4, r4⟩ := open_recs Try.underlying41 Try.underlying59 (by kernel_rfl) (by kernel_rfl) (ints2 rfl rfl rfl) (by decide) t4
    obtain ⟨sa, sn, sc, S, rfl, l5, s5, r5⟩ := open_recs Try.underlying42 Try.underlying64 (by kernel_rfl) (by kernel_rfl) (ints2 rfl rfl rfl) (by decide) t5
    have big : ∀ {fs : Array Field} {i : Nat} {f : Field} {e : TypeId} {y : DataW H × List MemPlace} {cap b : Nat}, ys[i]? = some y → (cap = 0 ∨ ∃ el sp, y.1 = .slice el sp ∧ el.length + sp.length = cap) → fs[i]? = some f → Try.prog.underlying f.type = some (.slice e) → Try.prog.bytesOf e = b → 1 ≤ b → Try.prog.underlying 44 = some (.struct fs) → cap ≤ 140737488355328 := by
      intro fs i f e y cap b hy hc hfi hu hb hb1 hst
      rcases hc with rfl | ⟨el, sp, hy1, rfl⟩
      · omega
      · have h1 := sized_field hsz ht hd hst hfi (i := i) (el := el) (sp := sp) (by simp [hy, hy1]) hu
        rw [hb] at h1
        unfold reachBytes at h1
        have h2 : (el.length + sp.length) * 1 ≤ (el.length + sp.length) * b := Nat.mul_le_mul_left _ hb1
        omega
    refine ⟨⟨cats, ga, gn, gc, ra, rn, rc, pa, pn, pc, na, nn, nc, sa, sn, sc, gate, quota, G, R, P, N, S⟩, rfl, r1, r2, r3, r4, r5, ⟨l1, ?_⟩, ⟨l2, ?_⟩, ⟨l3, ?_⟩, ⟨l4, ?_⟩, ⟨l5, ?_⟩, wf_i64 w0, wf_i64 w6, wf_i64 w7⟩
    · exact big (b := 24) g1 s1 rfl Try.underlying38 (by kernel_rfl) (by omega) Try.underlying44
    · exact big (b := 24) g2 s2 rfl Try.underlying39 (by kernel_rfl) (by omega) Try.underlying44
    · exact big (b := 16) g3 s3 rfl Try.underlying40 (by kernel_rfl) (by omega) Try.underlying44
    · exact big (b := 16) g4 s4 rfl Try.underlying41 (by kernel_rfl) (by omega) Try.underlying44
    · exact big (b := 16) g5 s5 rfl Try.underlying42 (by kernel_rfl) (by omega) Try.underlying44
end
end Go.Proofs.Ytmekoanobicddaa.Cf
namespace Go.Proofs.Ytmekoanobicddaa.Cf
open Go.RowKit Ut
set_option linter.unusedVariables false

theorem old_frozen {W V : World} (h : Below W.heap.size W V) (b o : Nat) (hb : b < W.heap.size) : V.frozen? ⟨b, o, none⟩ = W.frozen? ⟨b, o, none⟩ := h.frozen (p := ⟨b, o, none⟩) hb
/-- the result's own two cells -/
def Res2 (W : World) (b : Nat) : Prop := W.heap[b]? = some (.cells #[.int .i64 0, .int .i64 0] 52 (0, 0))
theorem Res2.lt {W : World} {b : Nat} (h : Res2 W b) : b < W.heap.size := (Array.getElem?_eq_some_iff.1 h).1
theorem Res2.below {W V : World} {b : Nat} (h : Res2 W b) (hb : Below W.heap.size W V) : Res2 V b := (hb.block _ h.lt).trans h
theorem Res2.cells {W : World} {b : Nat} (h : Res2 W b) : W.cell? ⟨b, 0, none⟩ = some (.int .i64 0) ∧ W.cell? ⟨b, 1, none⟩ = some (.int .i64 0) ∧ W.frozen? ⟨b, 0, none⟩ = false ∧ W.frozen? ⟨b, 1, none⟩ = false := by
  unfold Res2 at h
  refine ⟨?_, ?_, ?_, ?_⟩ <;> simp [World.cell?, World.frozen?, h]

set_option maxRecDepth 100000 in
set_option maxHeartbeats 4000000 in
theorem Owner_any (c : Cfg) (f : Int) (B : Nat) (w : World) (hB : B ≤ w.heap.size) (hc : c.At w B) :
    Calls Try.prog 25 #[c.v, .int .i64 f] w fun e w' => e = .returned (ownV (ownZ c f)) ∧ Below w.heap.size w w' := by
  have HB0 : Hid (∀ o o' : Obj, Below w.heap.size w ((w.alloc o).alloc o')) := Lib.hid fun o o' => ((Below.refl _ _).alloc (Nat.le_refl _) _).alloc (by simp) _
  have HSet : Hid (∀ (W : World) (o : Nat) (v : Value), Below w.heap.size w W → Below w.heap.size w (W.setCell ⟨w.heap.size + 1, o, none⟩ v)) := Lib.hid fun W o v h => h.setCell (p := ⟨w.heap.size + 1, o, none⟩) (by simp) _
  cases hr : rightB c
  · have HR := isRight_keep c B w hB hc _ hr
    rw [ownZ_not (.inl hr)]
    clear hr hc
    go_enter Try.func25, Try.ntmps25
    go_wp2_with fail
    refine (HR.out _ (HB0.out _ _)).mono ?_
    rintro e w1 ⟨rfl, hb⟩
    have hq := old_cells hb
    have hf := old_frozen hb
    have hz : w.heap.size + 1 < w1.heap.size := by have := hb.size; simp at this; omega
    have hbw : Below w.heap.size w w1 := (HB0.out _ _).trans (hb.mono (by simp; omega))
    go_wp2
    exact bodyPost_ret (v := ownV (0, 0)) (by simp [results, Try.results25, go_sem, hq]) rfl ⟨rfl, HSet.out _ _ _ (HSet.out _ _ _ hbw)⟩
  · have HR := isRight_keep c B w hB hc _ hr
    obtain ⟨hn4, _, hs⟩ := right_small hr
    have hnn := right_rings hr
    have hbd := sumG_bd hs c.gn (Nat.le_refl _)
    have HS := Lib.hid hs
    have HN : Hid (need c = sumG c.G c.gn + c.nn) := Lib.hid rfl
    have HF : Hid (∀ W, Below w.heap.size w W → Calls Try.prog 54 #[c.v] W fun e w' => e = .returned (.int .i64 (need c)) ∧ Below W.heap.size W w') := Lib.hid fun W hW => frames_any c B W (by have := hW.size; omega) (hc.below (hW.mono hB)) hn4 hs
    by_cases h0 : f < 0
    · rw [ownZ_not (.inr (.inl h0))]
      clear hr hc hs HF
      go_enter Try.func25, Try.ntmps25
      go_wp2_with fail
      refine (HR.out _ (HB0.out _ _)).mono ?_
      rintro e w1 ⟨rfl, hb⟩
      have hq := old_cells hb
      have hf := old_frozen hb
      have hz : w.heap.size + 1 < w1.heap.size := by have := hb.size; simp at this; omega
      have hbw : Below w.heap.size w w1 := (HB0.out _ _).trans (hb.mono (by simp; omega))
      go_wp2
      exact bodyPost_ret (v := ownV (0, 0)) (by simp [results, Try.results25, go_sem, hq]) rfl ⟨rfl, HSet.out _ _ _ (HSet.out _ _ _ hbw)⟩
    · obtain ⟨nd, hnd⟩ : ∃ nd, nd = need c := ⟨_, rfl⟩
      have HNd := Lib.hid hnd
      rw [← hnd] at HF HN
      clear hnd
      by_cases h1 : nd ≤ f
      · rw [ownZ_not (.inr (.inr (by rw [← HNd.out]; exact h1)))]
        clear hr hc hs
        have h1b : decide (nd ≤ f) = true := decide_eq_true h1
        go_enter Try.func25, Try.ntmps25
        go_wp2_with fail
        refine (HR.out _ (HB0.out _ _)).mono ?_
        rintro e w1 ⟨rfl, hb⟩
        have hq := old_cells hb
        have hz : w.heap.size + 1 < w1.heap.size := by have := hb.size; simp at this; omega
        have hz0 : w.heap.size < w1.heap.size := by omega
        have hbw : Below w.heap.size w w1 := (HB0.out _ _).trans (hb.mono (by simp; omega))
        have HRs : Hid (Res2 w1 (w.heap.size + 1)) := Lib.hid ((hb.block _ (by simp)).trans (by simpa using heap_alloc_new (w.alloc (.cells c.cs 44)) (.cells #[.int .i64 0, .int .i64 0] 52)))
        go_wp2_with fail
        refine (HF.out _ hbw).mono ?_
        rintro e w2 ⟨rfl, hb2⟩
        clear hq hb
        obtain ⟨r0, r1, r2, r3⟩ := (HRs.out.below hb2).cells
        have hbw2 := hbw.trans (hb2.mono (by omega))
        go_wp2
        exact bodyPost_ret (v := ownV (0, 0)) (by simp [results, Try.results25, go_sem, r0, r1]) rfl ⟨rfl, HSet.out _ _ _ (HSet.out _ _ _ hbw2)⟩
      · have HG : Hid (RowT 3 w B c.ga c.gn c.G) := Lib.hid hc.g
        have HOg : Hid (∀ k, k < c.gn → f < sumG c.G (k + 1) → (∀ j, j < k → sumG c.G (j + 1) ≤ f) → ownZ c f = (1, (k : Int))) := Lib.hid fun k hk h2 h3 => ownZ_guest hr (by omega) (by rw [← HNd.out]; omega) hk h2 h3
        have HOr : Hid ((∀ j, j < c.gn → sumG c.G (j + 1) ≤ f) → ownZ c f = (2, f - sumG c.G c.gn)) := Lib.hid fun h3 => ownZ_ring hr (by omega) (by rw [← HNd.out]; omega) h3
        obtain ⟨ow, how⟩ : ∃ ow, ow = ownZ c f := ⟨_, rfl⟩
        rw [← how] at HOg HOr ⊢
        have hlg := hc.lg
        clear hr hc how hs HNd
        have hfb : f < 40 := by have := HN.out; omega
        clear hbd
        obtain ⟨cats, ga, gn, gc, ra, rn, rc, pa, pn, pc, na, nn, nc, sa, sn, sc, gate, quota, G, R, P, N, S⟩ := c
        dsimp only at HG HOg HOr HF HN HR HS hn4 hnn hlg
        go_enter Try.func25, Try.ntmps25
        go_wp2_with fail
        refine (HR.out _ (HB0.out _ _)).mono ?_
        rintro e w1 ⟨rfl, hb⟩
        have hq := old_cells hb
        have hz : w.heap.size + 1 < w1.heap.size := by have := hb.size; simp at this; omega
        have hz0 : w.heap.size < w1.heap.size := by omega
        have hbw : Below w.heap.size w w1 := (HB0.out _ _).trans (hb.mono (by simp; omega))
        have HRs : Hid (Res2 w1 (w.heap.size + 1)) := Lib.hid ((hb.block _ (by simp)).trans (by simpa using heap_alloc_new (w.alloc (.cells #[.int .i64 cats, .slice ga gn gc, .slice ra rn rc, .slice pa pn pc, .slice na nn nc, .slice sa sn sc, .int .i64 gate, .int .i64 quota] 44)) (.cells #[.int .i64 0, .int .i64 0] 52)))
        have HK1 : Hid (w1.cell? ⟨w.heap.size, 1, none⟩ = some (.slice ga gn gc)) := Lib.hid (by rw [hq _ 1 (by simp; omega)]; simp)
        go_wp2_with fail
        refine (HF.out _ hbw).mono ?_
        rintro e w2 ⟨rfl, hb2⟩
        clear hq hb
        have HRs2 := Lib.hid (HRs.out.below hb2)
        have k1 := (old_cells hb2 _ 1 hz0).trans HK1.out
        have hbw2 := hbw.trans (hb2.mono (by omega))
        have hz2 : w.heap.size < w2.heap.size := by have := hb2.size; omega
        clear hb2 HK1 HRs
        go_wp2
        clear k1
        go_loopw [1, 24] (fun v i wr => ∃ k : Nat, k ≤ gn ∧ v = .int .i64 (f - sumG G k) ∧ i = .int .i64 k ∧ Hid (∀ j, j < k → sumG G (j + 1) ≤ f) ∧ Hid (sumG G k ≤ f) ∧ Below w.heap.size w wr ∧ Hid (Res2 wr (w.heap.size + 1))) (fun _ i _ => gn - (intOf i).toNat)
        case atStart => exact ⟨0, Nat.zero_le _, by simp [sumG], rfl, fun j hj => absurd hj (by omega), Lib.hid (by simp [sumG]; omega), hbw2, HRs2⟩
        case round =>
          obtain ⟨k, hk, rfl, rfl, hno, hle, hb, HRw⟩ := hrel
          obtain ⟨r0, r1, r2, r3⟩ := HRw.out.cells
          by_cases hlt : k < gn
          · obtain ⟨x, rfl, hx, c0, c1, c2⟩ := (HG.out.below (hb.mono hB)).at3 k hlt
            have hbl := (HG.out.bd k 0 hlt (by omega))
            have hsb := sumG_bd HS.out k hk
            have hst := HS.out k hlt
            have hsn : Hid (sumG G (k + 1) = sumG G k + (G k 1 + G k 2)) := Lib.hid rfl
            have hle2 := hle.out
            have b0 : (0 : Int) ≤ (k : Int) := by omega
            have b1 : (k : Int) < (gn : Int) := by omega
            obtain ⟨s, hs⟩ : ∃ s, s = sumG G k := ⟨_, rfl⟩
            obtain ⟨l, hl⟩ : ∃ l, l = G k 0 := ⟨_, rfl⟩
            obtain ⟨p, hp⟩ : ∃ p, p = G k 1 := ⟨_, rfl⟩
            obtain ⟨q, hq⟩ : ∃ q, q = G k 2 := ⟨_, rfl⟩
            rw [← hs, ← hp, ← hq] at hsn
            rw [← hs] at hsb hle2 ⊢
            rw [← hp, ← hq] at hst
            rw [← hl] at c0 hbl
            rw [← hp] at c1
            rw [← hq] at c2
            clear hs hl hp hq
            have HOne : Hid (∀ (b : Nat) (W : World), W.heap[b]? = some (.cells #[.int .i64 l, .int .i64 p, .int .i64 q] 57 (0, 0)) → Calls Try.prog 56 #[.slice (some ⟨b, 0, none⟩) 1 1] W fun e w' => e = .returned (.int .i64 (p + q)) ∧ Below W.heap.size W w') :=
              Lib.hid fun b W h => oneGuest_any l p q b W (Array.getElem?_eq_some_iff.1 h).1 h hst hbl
            obtain ⟨t1, t2, t3⟩ := two_new wr (.cells #[.int .i64 l, .int .i64 p, .int .i64 q] 57) (.cells #[.int .i64 l, .int .i64 p, .int .i64 q] 57)
            have T1 := Lib.hid t1
            have T2 := Lib.hid t2
            have T3 := Lib.hid t3
            clear t1 t2 t3
            by_cases hf : f < s + (p + q)
            · have HE : Hid (ow = (1, (k : Int))) := Lib.hid (HOg.out k hlt (by rw [hsn.out]; exact hf) hno.out)
              have hfd : f - s < p + q := by omega
              have hfd2 : decide (f - s < p + q) = true := decide_eq_true hfd
              go_wp2_with fail
              refine (HOne.out _ _ T1.out).mono ?_
              rintro e w3 ⟨rfl, hb3⟩
              have hb30 := T3.out.trans (hb3.mono T3.out.size)
              have hb31 : Below w.heap.size w w3 := hb.trans (hb30.mono hb.size)
              have HRw3 := Lib.hid (HRw.out.below hb30)
              clear r0 r1 r2 r3
              obtain ⟨r0, r1, r2, r3⟩ := HRw3.out.cells
              go_wp2
              exact bodyPost_ret (v := ownV (1, (k : Int))) (by simp [results, Try.results25, go_sem, r0, r1]) rfl ⟨by rw [HE.out], HSet.out _ _ _ (HSet.out _ _ _ hb31)⟩
            · have hfd : ¬ f - s < p + q := by omega
              have hfd2 : decide (f - s < p + q) = false := decide_eq_false hfd
              have HN1 : Hid (∀ j, j < k + 1 → sumG G (j + 1) ≤ f) := Lib.hid fun j hj => by
                by_cases e : j = k
                · rw [e, hsn.out]; omega
                · exact hno.out j (by omega)
              go_wp2_with fail
              refine (HOne.out _ _ T1.out).mono ?_
              rintro e w3 ⟨rfl, hb3⟩
              have hb30 := T3.out.trans (hb3.mono T3.out.size)
              have hb31 : Below w.heap.size w w3 := hb.trans (hb30.mono hb.size)
              have HRw3 := Lib.hid (HRw.out.below hb30)
              have HG3 : Hid (w3.heap[wr.heap.size]? = some (.cells #[.int .i64 l, .int .i64 p, .int .i64 q] 57 (0, 0))) := Lib.hid ((hb3.block _ (by simp; omega)).trans T2.out)
              clear r0 r1 r2 r3 c0 c1 c2
              obtain ⟨g0, g1, g2⟩ := cells3 HG3.out
              obtain ⟨rb, hrb⟩ : ∃ rb, rb = wr.heap.size := ⟨_, rfl⟩
              rw [← hrb] at HG3 g0 g1 g2 ⊢
              clear hrb
              obtain ⟨u1, _, u3⟩ := two_new w3 (.cells #[.int .i64 l, .int .i64 p, .int .i64 q] 57) (.cells #[.int .i64 l, .int .i64 p, .int .i64 q] 57)
              have U := Lib.hid (heap_alloc_new w3 (.cells #[.int .i64 l, .int .i64 p, .int .i64 q] 57))
              have U3 : Hid (Below w3.heap.size w3 (w3.alloc (.cells #[.int .i64 l, .int .i64 p, .int .i64 q] 57))) := Lib.hid ((Below.refl _ _).alloc (Nat.le_refl _) _)
              clear u1 u3
              go_wp2_with fail
              refine (HOne.out _ _ U.out).mono ?_
              rintro e w4 ⟨rfl, hb4⟩
              have hb40 := U3.out.trans (hb4.mono U3.out.size)
              go_wp2
              go_roundw
              case rel => exact ⟨k + 1, by omega, by rw [hsn.out]; congr 1; omega, by go_num, HN1, Lib.hid (by rw [hsn.out]; omega), hb31.trans (hb40.mono hb31.size), Lib.hid (HRw3.out.below hb40)⟩
              case measure => simp [intOf]; omega
          · have hkn : k = gn := by omega
            subst hkn
            have b1 : ¬ (k : Int) < (k : Int) := by omega
            have HE : Hid (ow = (2, f - sumG G k)) := Lib.hid (HOr.out hno.out)
            go_wp2
            exact bodyPost_ret (v := ownV (2, f - sumG G k)) (by simp [results, Try.results25, go_sem, r0, r1]) rfl ⟨by rw [HE.out], HSet.out _ _ _ (HSet.out _ _ _ hb)⟩
end Go.Proofs.Ytmekoanobicddaa.Cf
namespace Go.Proofs.Ytmekoanobicddaa.Cf
open Go.RowKit Ut
set_option linter.unusedVariables false

set_option maxRecDepth 100000 in
set_option maxHeartbeats 4000000 in
theorem refOwner_any (c : Cfg) (f : Int) (B : Nat) (w : World) (hB : B ≤ w.heap.size) (hc : c.At w B) (hf63 : f < 9223372036854775808) :
    Calls Try.prog 26 #[c.v, .int .i64 f] w fun e w' => e = .returned (ownV (ownZ c f)) ∧ Below w.heap.size w w' := by
  have HB0 : Hid (∀ o o' : Obj, Below w.heap.size w ((w.alloc o).alloc o')) := Lib.hid fun o o' => ((Below.refl _ _).alloc (Nat.le_refl _) _).alloc (by simp) _
  have HSet : Hid (∀ (W : World) (o : Nat) (v : Value), Below w.heap.size w W → Below w.heap.size w (W.setCell ⟨w.heap.size + 1, o, none⟩ v)) := Lib.hid fun W o v h => h.setCell (p := ⟨w.heap.size + 1, o, none⟩) (by simp) _
  cases hr : rightB c
  · have HR := refRight_keep c B w hB hc _ hr
    rw [ownZ_not (.inl hr)]
    clear hr hc
    go_enter Try.func26, Try.ntmps26
    go_wp2_with fail
    refine (HR.out _ (HB0.out _ _)).mono ?_
    rintro e w1 ⟨rfl, hb⟩
    have hq := old_cells hb
    have hf := old_frozen hb
    have hz : w.heap.size + 1 < w1.heap.size := by have := hb.size; simp at this; omega
    have hbw : Below w.heap.size w w1 := (HB0.out _ _).trans (hb.mono (by simp; omega))
    go_wp2
    exact bodyPost_ret (v := ownV (0, 0)) (by simp [results, Try.results26, go_sem, hq]) rfl ⟨rfl, HSet.out _ _ _ (HSet.out _ _ _ hbw)⟩
  · have HR := refRight_keep c B w hB hc _ hr
    obtain ⟨hn4, _, hs⟩ := right_small hr
    have hnn := right_rings hr
    have hbd := sumG_bd hs c.gn (Nat.le_refl _)
    have HS := Lib.hid hs
    have HN : Hid (need c = sumG c.G c.gn + c.nn) := Lib.hid rfl
    by_cases h0 : f < 0
    · rw [ownZ_not (.inr (.inl h0))]
      clear hr hc hs
      go_enter Try.func26, Try.ntmps26
      go_wp2_with fail
      refine (HR.out _ (HB0.out _ _)).mono ?_
      rintro e w1 ⟨rfl, hb⟩
      have hq := old_cells hb
      have hf := old_frozen hb
      have hz : w.heap.size + 1 < w1.heap.size := by have := hb.size; simp at this; omega
      have hbw : Below w.heap.size w w1 := (HB0.out _ _).trans (hb.mono (by simp; omega))
      go_wp2
      exact bodyPost_ret (v := ownV (0, 0)) (by simp [results, Try.results26, go_sem, hq]) rfl ⟨rfl, HSet.out _ _ _ (HSet.out _ _ _ hbw)⟩
    · have HG : Hid (RowT 3 w B c.ga c.gn c.G) := Lib.hid hc.g
      have HOg : Hid (∀ k, k < c.gn → f < sumG c.G (k + 1) → (∀ j, j < k → sumG c.G (j + 1) ≤ f) → ownZ c f = (1, (k : Int))) := Lib.hid fun k hk h2 h3 => ownZ_guest hr (by omega) (by
        have h4 : ∀ m, k + 1 ≤ m → m ≤ c.gn → sumG c.G (k + 1) ≤ sumG c.G m := fun m h5 => by
          induction m with
          | zero => omega
          | succ m ih =>
            intro h6
            by_cases e : k = m
            · rw [e]; exact Int.le_refl _
            · have h7 := ih (by omega) (by omega)
              have h8 := hs m (by omega)
              have h9 : sumG c.G (m + 1) = sumG c.G m + (c.G m 1 + c.G m 2) := rfl
              omega
        have h5 := h4 c.gn (by omega) (Nat.le_refl _)
        have h6 := HN.out
        omega) hk h2 h3
      have HOr : Hid ((∀ j, j < c.gn → sumG c.G (j + 1) ≤ f) → (f - sumG c.G c.gn < c.nn ∧ ownZ c f = (2, f - sumG c.G c.gn)) ∨ ((c.nn : Int) ≤ f - sumG c.G c.gn ∧ ownZ c f = (0, 0))) := Lib.hid fun h3 => by
        by_cases h4 : f < need c
        · exact .inl ⟨by have := HN.out; omega, ownZ_ring hr (by omega) h4 h3⟩
        · exact .inr ⟨by have := HN.out; omega, ownZ_not (.inr (.inr (by omega)))⟩
      obtain ⟨ow, how⟩ : ∃ ow, ow = ownZ c f := ⟨_, rfl⟩
      rw [← how] at HOg HOr ⊢
      have hlg := hc.lg
      have HBd : Hid (0 ≤ sumG c.G c.gn ∧ sumG c.G c.gn ≤ 32) := Lib.hid (by omega)
      clear hr hc how hs hbd HN
      obtain ⟨cats, ga, gn, gc, ra, rn, rc, pa, pn, pc, na, nn, nc, sa, sn, sc, gate, quota, G, R, P, N, S⟩ := c
      dsimp only at HG HOg HOr HR HS hn4 hnn hlg HBd
      go_enter Try.func26, Try.ntmps26
      go_wp2_with fail
      refine (HR.out _ (HB0.out _ _)).mono ?_
      rintro e w1 ⟨rfl, hb⟩
      have hq := old_cells hb
      have hz : w.heap.size + 1 < w1.heap.size := by have := hb.size; simp at this; omega
      have hz0 : w.heap.size < w1.heap.size := by omega
      have hbw : Below w.heap.size w w1 := (HB0.out _ _).trans (hb.mono (by simp; omega))
      have HRs : Hid (Res2 w1 (w.heap.size + 1)) := Lib.hid ((hb.block _ (by simp)).trans (by simpa using heap_alloc_new (w.alloc (.cells #[.int .i64 cats, .slice ga gn gc, .slice ra rn rc, .slice pa pn pc, .slice na nn nc, .slice sa sn sc, .int .i64 gate, .int .i64 quota] 44)) (.cells #[.int .i64 0, .int .i64 0] 52)))
      have HK1 : Hid (w1.cell? ⟨w.heap.size, 1, none⟩ = some (.slice ga gn gc)) := Lib.hid (by rw [hq _ 1 (by simp; omega)]; simp)
      have HK4 : Hid (w1.cell? ⟨w.heap.size, 4, none⟩ = some (.slice na nn nc)) := Lib.hid (by rw [hq _ 4 (by simp; omega)]; simp)
      clear hb hq
      go_wp2
      go_loopw [5, 6] (fun v i wr => ∃ k : Nat, k ≤ gn ∧ v = .int .i64 (sumG G k) ∧ i = .int .i64 k ∧ Hid (∀ j, j < k → sumG G (j + 1) ≤ f) ∧ Below w1.heap.size w1 wr) (fun _ i _ => gn - (intOf i).toNat)
      case atStart => exact ⟨0, Nat.zero_le _, by simp [sumG], rfl, fun j hj => absurd hj (by omega), Below.refl _ _⟩
      case round =>
        obtain ⟨k, hk, rfl, rfl, hno, hb⟩ := hrel
        obtain ⟨r0, r1, r2, r3⟩ := (HRs.out.below hb).cells
        have k1 := (old_cells hb _ 1 hz0).trans HK1.out
        have k4 := (old_cells hb _ 4 hz0).trans HK4.out
        have hbk : Below w.heap.size w wr := hbw.trans (hb.mono (by omega))
        have sr : w.heap.size < wr.heap.size := by have := hb.size; omega
        by_cases hlt : k < gn
        · obtain ⟨x, rfl, hx, c0, c1, c2⟩ := (HG.out.below (hbk.mono hB)).at3 k hlt
          have hxs : (x.add (k * 3)).block < wr.heap.size := by rw [block_of_add]; omega
          have hsb := sumG_bd HS.out k hk
          have hst := HS.out k hlt
          have hsn : Hid (sumG G (k + 1) = sumG G k + (G k 1 + G k 2)) := Lib.hid rfl
          have b0 : (0 : Int) ≤ (k : Int) := by omega
          have b1 : (k : Int) < (gn : Int) := by omega
          obtain ⟨s, hs⟩ : ∃ s, s = sumG G k := ⟨_, rfl⟩
          obtain ⟨p, hp⟩ : ∃ p, p = G k 1 := ⟨_, rfl⟩
          obtain ⟨q, hq⟩ : ∃ q, q = G k 2 := ⟨_, rfl⟩
          rw [← hs, ← hp, ← hq] at hsn
          rw [← hs] at hsb ⊢
          rw [← hp, ← hq] at hst
          rw [← hp] at c1
          rw [← hq] at c2
          clear hs hp hq c0
          have hw1 : IntKind.i64.wrap (s + p) = s + p := IntWalk.i64_in _ (by omega)
          have hw2 : IntKind.i64.wrap (s + p + q) = s + p + q := IntWalk.i64_in _ (by omega)
          go_wp2
          apply wp_region_auto [22, 23, 24, 25, 26, 27, 28, 29, 30, 31, 32, 33, 34, 35, 36] [_, _, _, _, _, _, _, _, _, _, _, _, _, _, _] (fun W' => Below wr.heap.size wr W')
          case hm => kernel_rfl
          case hT => intro y; simp only [setAll, List.setIfInBounds_toArray, List.set_cons_succ, List.set_cons_zero]; exact rfl
          case hok => kernel_rfl
          case hn => decide
          case hw => exact (Below.refl _ _).drew
          case hs =>
            refine auto_op 22 [] (by kernel_rfl) (fun y w' HW hd K hK => ?_) ?_
            · go_simp
              refine hK _ _ ?_ ?_ HW
              · simp [upd]
              · exact rfl
            refine auto_op 23 [] (by kernel_rfl) (fun y w' HW hd K hK => ?_) ?_
            · go_simp
              refine hK _ _ ?_ ?_ HW
              · simp [upd]
              · exact rfl
            refine auto_op 24 [1] (by kernel_rfl) (fun y w' HW hd K hK => ?_) ?_
            · have e1 := hd_nth (hd 1 (by simp)) rfl
              have hcl : ∀ p : Addr, p.block < wr.heap.size → w'.cell? p = wr.cell? p := fun p hp => HW.cell hp
              go_simp
              refine hK _ _ ?_ ?_ HW
              · simp [upd, e1]
              · exact rfl
            refine auto_op 25 [] (by kernel_rfl) (fun y w' HW hd K hK => ?_) ?_
            · go_simp
              refine hK _ _ ?_ ?_ HW
              · simp [upd]
              · exact rfl
            refine auto_op 26 [2, 3] (by kernel_rfl) (fun y w' HW hd K hK => ?_) ?_
            · have e2 := hd_nth (hd 2 (by simp)) rfl
              have e3 := hd_nth (hd 3 (by simp)) rfl
              go_simp
              refine hK _ _ ?_ ?_ HW
              · simp [upd, e2, e3]
              · exact rfl
            refine auto_op 27 [4] (by kernel_rfl) (fun y w' HW hd K hK => ?_) ?_
            · have e4 := hd_nth (hd 4 (by simp)) rfl
              go_simp
              refine hK _ _ ?_ ?_ HW
              · simp [upd, e4]
              · exact rfl
            refine auto_op 28 [5] (by kernel_rfl) (fun y w' HW hd K hK => ?_) ?_
            · have e5 := hd_nth (hd 5 (by simp)) rfl
              have hcl : ∀ p : Addr, p.block < wr.heap.size → w'.cell? p = wr.cell? p := fun p hp => HW.cell hp
              go_simp
              refine hK _ _ ?_ ?_ HW
              · simp [upd, e5]
              · exact rfl
            refine auto_op 29 [0, 6] (by kernel_rfl) (fun y w' HW hd K hK => ?_) ?_
            · have e0 := hd_nth (hd 0 (by simp)) rfl
              have e6 := hd_nth (hd 6 (by simp)) rfl
              go_simp
              refine hK _ _ ?_ ?_ HW
              · simp [upd, e0, e6]
              · exact rfl
            refine auto_op 30 [] (by kernel_rfl) (fun y w' HW hd K hK => ?_) ?_
            · go_simp
              refine hK _ _ ?_ ?_ HW
              · simp [upd]
              · exact rfl
            refine auto_op 31 [8] (by kernel_rfl) (fun y w' HW hd K hK => ?_) ?_
            · have e8 := hd_nth (hd 8 (by simp)) rfl
              have hcl : ∀ p : Addr, p.block < wr.heap.size → w'.cell? p = wr.cell? p := fun p hp => HW.cell hp
              go_simp
              refine hK _ _ ?_ ?_ HW
              · simp [upd, e8]
              · exact rfl
            refine auto_op 32 [] (by kernel_rfl) (fun y w' HW hd K hK => ?_) ?_
            · go_simp
              refine hK _ _ ?_ ?_ HW
              · simp [upd]
              · exact rfl
            refine auto_op 33 [9, 10] (by kernel_rfl) (fun y w' HW hd K hK => ?_) ?_
            · have e9 := hd_nth (hd 9 (by simp)) rfl
              have e10 := hd_nth (hd 10 (by simp)) rfl
              go_simp
              refine hK _ _ ?_ ?_ HW
              · simp [upd, e9, e10]
              · exact rfl
            refine auto_op 34 [11] (by kernel_rfl) (fun y w' HW hd K hK => ?_) ?_
            · have e11 := hd_nth (hd 11 (by simp)) rfl
              go_simp
              refine hK _ _ ?_ ?_ HW
              · simp [upd, e11]
              · exact rfl
            refine auto_op 35 [12] (by kernel_rfl) (fun y w' HW hd K hK => ?_) ?_
            · have e12 := hd_nth (hd 12 (by simp)) rfl
              have hcl : ∀ p : Addr, p.block < wr.heap.size → w'.cell? p = wr.cell? p := fun p hp => HW.cell hp
              go_simp
              refine hK _ _ ?_ ?_ HW
              · simp [upd, e12]
              · exact rfl
            refine auto_op 36 [7, 13] (by kernel_rfl) (fun y w' HW hd K hK => ?_) ?_
            · have e7 := hd_nth (hd 7 (by simp)) rfl
              have e13 := hd_nth (hd 13 (by simp)) rfl
              go_simp
              refine hK _ _ ?_ ?_ HW
              · simp [upd, e7, e13]
              · exact rfl
            refine auto_last fun y w' HW hd K hK => ?_
            have e0 := hd_nth (hd 0 (by omega)) rfl
            have e1 := hd_nth (hd 1 (by omega)) rfl
            have e2 := hd_nth (hd 2 (by omega)) rfl
            have e3 := hd_nth (hd 3 (by omega)) rfl
            have e4 := hd_nth (hd 4 (by omega)) rfl
            have e5 := hd_nth (hd 5 (by omega)) rfl
            have e6 := hd_nth (hd 6 (by omega)) rfl
            have e7 := hd_nth (hd 7 (by omega)) rfl
            have e8 := hd_nth (hd 8 (by omega)) rfl
            have e9 := hd_nth (hd 9 (by omega)) rfl
            have e10 := hd_nth (hd 10 (by omega)) rfl
            have e11 := hd_nth (hd 11 (by omega)) rfl
            have e12 := hd_nth (hd 12 (by omega)) rfl
            have e13 := hd_nth (hd 13 (by omega)) rfl
            have e14 := hd_nth (hd 14 (by omega)) rfl
            go_simp
            refine hK _ _ ?_
            clear hd hK K e0 e1 e2 e3 e4 e5 e6 e7 e8 e9 e10 e11 e12 e13 e14
            clear hw1 hw2 c1 c2 k1 k4 r0 r1 r2 r3
            obtain ⟨r0, r1, r2, r3⟩ := (HRs.out.below (hb.trans (HW.mono hb.size))).cells
            have hbk2 := hbk.trans (HW.mono hbk.size)
            have hb2 := hb.trans (HW.mono hb.size)
            clear HW
            by_cases hf : f < s + p + q
            · have HE : Hid (ow = (1, (k : Int))) := Lib.hid (HOg.out k hlt (by rw [hsn.out]; omega) hno.out)
              have hfd2 : decide (f < s + p + q) = true := decide_eq_true hf
              go_wp2
              exact bodyPost_ret (v := ownV (1, (k : Int))) (by simp [results, Try.results26, go_sem, r0, r1]) rfl ⟨by rw [HE.out], HSet.out _ _ _ (HSet.out _ _ _ hbk2)⟩
            · have hfd2 : decide (f < s + p + q) = false := decide_eq_false hf
              have HN1 : Hid (∀ j, j < k + 1 → sumG G (j + 1) ≤ f) := Lib.hid fun j hj => by
                by_cases e : j = k
                · rw [e, hsn.out]; omega
                · exact hno.out j (by omega)
              go_wp2
              go_roundw
              case rel => exact ⟨k + 1, by omega, by rw [hsn.out]; congr 1; omega, by go_num, HN1, hb2⟩
              case measure => simp [intOf]; omega
        · have hkn : k = gn := by omega
          subst hkn
          have b1 : ¬ (k : Int) < (k : Int) := by omega
          obtain ⟨s, hs⟩ : ∃ s, s = sumG G k := ⟨_, rfl⟩
          have hbs := HBd.out
          have hor := HOr.out hno.out
          rw [← hs] at hbs hor ⊢
          clear hs
          rcases hor with ⟨t1, hF⟩ | ⟨t1, hF⟩
          · have HE := Lib.hid hF
            have t1b : decide (f - s < (nn : Int)) = true := decide_eq_true t1
            clear hF
            go_wp2
            exact bodyPost_ret (v := ownV (2, f - s)) (by simp [results, Try.results26, go_sem, r0, r1]) rfl ⟨by rw [HE.out], HSet.out _ _ _ (HSet.out _ _ _ hbk)⟩
          · have HE := Lib.hid hF
            have t1n : ¬ f - s < (nn : Int) := by omega
            have t1b : decide (f - s < (nn : Int)) = false := decide_eq_false t1n
            clear hF
            go_wp2
            exact bodyPost_ret (v := ownV (0, 0)) (by simp [results, Try.results26, go_sem, r0, r1]) rfl ⟨by rw [HE.out], HSet.out _ _ _ (HSet.out _ _ _ hbk)⟩
end Go.Proofs.Ytmekoanobicddaa.Cf
namespace Go.Proofs.Ytmekoanobicddaa.Cf
open Go.RowKit Ut
set_option linter.unusedVariables false

/-- one guest, one slot -/
def smallC (a b : Nat) : Cfg where
  cats := 1
  ga := some ⟨a, 0, none⟩
  gn := 1
  gc := 1
  ra := none
  rn := 0
  rc := 0
  pa := none
  pn := 0
  pc := 0
  na := none
  nn := 0
  nc := 0
  sa := some ⟨b, 0, none⟩
  sn := 1
  sc := 1
  gate := -1
  quota := 0
  G := fun _ j => if j = 0 then 1 else if j = 1 then 4 else 0
  R := fun _ _ => 0
  P := fun _ _ => 0
  N := fun _ _ => 0
  S := fun _ j => if j = 0 then 0 else 5
theorem small_check (a b : Nat) : check (smallC a b) = (0, 0) := by kernel_rfl
theorem small_frames (a b : Nat) : framesZ (smallC a b) = 4 := by kernel_rfl
theorem small_period (a b : Nat) : periodZ (smallC a b) = 5 := by kernel_rfl
theorem small_at {W : World} {a b : Nat} {t t' : TypeId} (ha : W.heap[a]? = some (.cells #[.int .i64 1, .int .i64 4, .int .i64 0] t (0, 0))) (hb : W.heap[b]? = some (.cells #[.int .i64 0, .int .i64 5] t' (0, 0))) : (smallC a b).At W W.heap.size where
  g := fun i hi => ⟨⟨a, 0, none⟩, rfl, (Array.getElem?_eq_some_iff.1 ha).1, fun j hj => by
    have hi' : i < 1 := hi
    obtain rfl : i = 0 := by omega
    rw [add_plain]
    match j, hj with
    | 0, _ => exact ⟨by simp [World.cell?, ha, smallC], by simp [smallC], by simp [smallC]⟩
    | 1, _ => exact ⟨by simp [World.cell?, ha, smallC], by simp [smallC], by simp [smallC]⟩
    | 2, _ => exact ⟨by simp [World.cell?, ha, smallC], by simp [smallC], by simp [smallC]⟩
    | j + 3, hj => omega⟩
  r := fun i hi => absurd hi (Nat.not_lt_zero _)
  p := fun i hi => absurd hi (Nat.not_lt_zero _)
  n := fun i hi => absurd hi (Nat.not_lt_zero _)
  s := fun i hi => ⟨⟨b, 0, none⟩, rfl, (Array.getElem?_eq_some_iff.1 hb).1, fun j hj => by
    have hi' : i < 1 := hi
    obtain rfl : i = 0 := by omega
    rw [add_plain]
    match j, hj with
    | 0, _ => exact ⟨by simp [World.cell?, hb, smallC], by simp [smallC], by simp [smallC]⟩
    | 1, _ => exact ⟨by simp [World.cell?, hb, smallC], by simp [smallC], by simp [smallC]⟩
    | j + 2, hj => omega⟩
  lg := ⟨by simp [smallC], by simp [smallC]⟩
  lr := ⟨by simp [smallC], by simp [smallC]⟩
  lp := ⟨by simp [smallC], by simp [smallC]⟩
  ln := ⟨by simp [smallC], by simp [smallC]⟩
  ls := ⟨by simp [smallC], by simp [smallC]⟩
  i1 := ⟨by simp [smallC], by simp [smallC]⟩
  i2 := ⟨by simp [smallC], by simp [smallC]⟩
  i3 := ⟨by simp [smallC], by simp [smallC]⟩

structure SmallPost (w : World) (e : Ending) (W : World) : Prop where
  all : ∃ a b, e = .returned (smallC a b).v ∧ (smallC a b).At W W.heap.size ∧ Below w.heap.size w W
set_option maxRecDepth 100000 in
theorem small_any (w : World) : Calls Try.prog 45 #[] w (SmallPost w) := by
  obtain ⟨PR, hPR⟩ : ∃ PR, PR = SmallPost w := ⟨_, rfl⟩
  have HPR : Hid (∀ e W, SmallPost w e W → PR e W) := Lib.hid fun e W h => by rw [hPR]; exact h
  rw [← hPR]
  clear hPR
  go_enter Try.func45, Try.ntmps45
  go_wp2
  have h3 : ∀ A B C : Obj, (((w.alloc A).alloc B).alloc C).heap[w.heap.size + 1]? = some B ∧ (((w.alloc A).alloc B).alloc C).heap[w.heap.size + 1 + 1]? = some C ∧ Below w.heap.size w (((w.alloc A).alloc B).alloc C) := fun A B C => by
    obtain ⟨t1, t2, t3⟩ := two_new (w.alloc A) B C
    exact ⟨by simpa using t2, by simpa using t1, ((Below.refl _ _).alloc (Nat.le_refl _) _).trans (t3.mono (by simp))⟩
  refine bodyPost_ret (v := (smallC (w.heap.size + 1) (w.heap.size + 1 + 1)).v) (by simp [results, Try.results45, go_sem, smallC]) rfl (HPR.out _ _ ⟨_, _, rfl, small_at (h3 _ _ _).1 (h3 _ _ _).2.1, (h3 _ _ _).2.2⟩)

set_option maxRecDepth 100000 in
theorem awake_any (w : World) : Calls Try.prog 17 #[] w fun e w' => e = .returned (.bool true) ∧ Below w.heap.size w w' := by
  go_enter Try.func17, Try.ntmps17
  go_wp2_with fail
  refine (small_any _).mono ?_
  rintro e w1 hp
  obtain ⟨a, b, rfl, hat, hb1⟩ := hp.all
  have HC := check_any (smallC a b) _ w1 (Nat.le_refl _) hat
  rw [small_check] at HC
  have HC2 := Lib.hid HC
  clear hp hat HC
  go_wp2_with fail
  refine HC2.out.mono ?_
  rintro e w2 ⟨rfl, hb2⟩
  have hb20 := hb1.trans (hb2.mono hb1.size)
  clear HC2
  go_wp2_with fail
  refine (small_any _).mono ?_
  rintro e w3 hp
  obtain ⟨a', b', rfl, hat, hb3⟩ := hp.all
  have HC := Frames_any (smallC a' b') _ w3 (Nat.le_refl _) hat
  rw [small_frames] at HC
  have HC2 := Lib.hid HC
  have hb30 := hb20.trans (hb3.mono hb20.size)
  clear hp hat HC
  go_wp2_with fail
  refine HC2.out.mono ?_
  rintro e w4 ⟨rfl, hb4⟩
  have hb40 := hb30.trans (hb4.mono hb30.size)
  clear HC2
  go_wp2_with fail
  refine (small_any _).mono ?_
  rintro e w5 hp
  obtain ⟨a'', b'', rfl, hat, hb5⟩ := hp.all
  have HC := Period_any (smallC a'' b'') _ w5 (Nat.le_refl _) hat
  rw [small_period] at HC
  have HC2 := Lib.hid HC
  have hb50 := hb40.trans (hb5.mono hb40.size)
  clear hp hat HC
  go_wp2_with fail
  refine HC2.out.mono ?_
  rintro e w6 ⟨rfl, hb6⟩
  have hb60 := hb50.trans (hb6.mono hb50.size)
  clear HC2
  go_wp2
  go_ret
  exact ⟨rfl, hb60⟩

def fewB (c : Cfg) : Bool := decide (c.gn ≤ 20) && decide (c.rn ≤ 40) && decide (c.pn ≤ 40) && decide (c.nn ≤ 40) && decide (c.sn ≤ 40)
theorem few_any (c : Cfg) (w : World) (hg : c.gn ≤ 140737488355328) (hr : c.rn ≤ 140737488355328) (hp : c.pn ≤ 140737488355328) (hn : c.nn ≤ 140737488355328) (hs : c.sn ≤ 140737488355328) :
    Calls Try.prog 15 #[c.v] w fun e w' => e = .returned (.bool (fewB c)) ∧ Below w.heap.size w w' := by
  have HB0 := one_new w
  obtain ⟨r, hr0⟩ : ∃ r, r = fewB c := ⟨_, rfl⟩
  have hr1 := hr0
  unfold fewB at hr1
  rw [← hr0]
  clear hr0
  by_cases h1 : c.gn ≤ 20
  · rw [decide_eq_true h1] at hr1
    have h1' : (c.gn : Int) ≤ 20 := by omega
    by_cases h2 : c.rn ≤ 40
    · rw [decide_eq_true h2] at hr1
      have h2' : (c.rn : Int) ≤ 40 := by omega
      by_cases h3 : c.pn ≤ 40
      · rw [decide_eq_true h3] at hr1
        have h3' : (c.pn : Int) ≤ 40 := by omega
        by_cases h4 : c.nn ≤ 40
        · rw [decide_eq_true h4] at hr1
          have h4' : (c.nn : Int) ≤ 40 := by omega
          by_cases h5 : c.sn ≤ 40
          · rw [decide_eq_true h5] at hr1
            have h5' : (c.sn : Int) ≤ 40 := by omega
            simp only [Bool.and_self] at hr1
            subst hr1
            go_enter Try.func15, Try.ntmps15
            go_wp2
            go_ret
            exact ⟨rfl, HB0.out _⟩
          · rw [decide_eq_false h5] at hr1
            have h5' : ¬ (c.sn : Int) ≤ 40 := by omega
            simp only [Bool.and_false] at hr1
            subst hr1
            go_enter Try.func15, Try.ntmps15
            go_wp2
            go_ret
            exact ⟨rfl, HB0.out _⟩
        · rw [decide_eq_false h4] at hr1
          have h4' : ¬ (c.nn : Int) ≤ 40 := by omega
          simp only [Bool.and_false, Bool.false_and] at hr1
          subst hr1
          go_enter Try.func15, Try.ntmps15
          go_wp2
          go_ret
          exact ⟨rfl, HB0.out _⟩
      · rw [decide_eq_false h3] at hr1
        have h3' : ¬ (c.pn : Int) ≤ 40 := by omega
        simp only [Bool.and_false, Bool.false_and] at hr1
        subst hr1
        go_enter Try.func15, Try.ntmps15
        go_wp2
        go_ret
        exact ⟨rfl, HB0.out _⟩
    · rw [decide_eq_false h2] at hr1
      have h2' : ¬ (c.rn : Int) ≤ 40 := by omega
      simp only [Bool.and_false, Bool.false_and] at hr1
      subst hr1
      go_enter Try.func15, Try.ntmps15
      go_wp2
      go_ret
      exact ⟨rfl, HB0.out _⟩
  · rw [decide_eq_false h1] at hr1
    have h1' : ¬ (c.gn : Int) ≤ 20 := by omega
    simp only [Bool.false_and] at hr1
    subst hr1
    go_enter Try.func15, Try.ntmps15
    go_wp2
    go_ret
    exact ⟨rfl, HB0.out _⟩
end Go.Proofs.Ytmekoanobicddaa.Cf
namespace Go.Proofs.Ytmekoanobicddaa.Cf
open Go.RowKit Ut
set_option linter.unusedVariables false

theorem right_ring {c : Cfg} (h : rightB c = true) (i : Nat) (hi : i < c.nn) : ∃ f t : Nat, c.N i 0 = f ∧ c.N i 1 = t ∧ f < c.gn ∧ t < c.gn ∧ f ≠ t ∧ La.flowsZ (c.G f 0) (c.G t 0) = true := by
  have h1 : wrongN c i = false := right_passed h 8 (by omega) i (by simpa [cntR] using hi)
  rcases wrongN_cases c i with ⟨_, h2⟩ | ⟨_, ⟨_, h2⟩ | ⟨_, ⟨_, h2⟩ | ⟨h3, f, t, hf, ht, hf2, ht2, h2⟩⟩⟩
  · rw [h2] at h1; cases h1
  · rw [h2] at h1; cases h1
  · rw [h2] at h1; cases h1
  · refine ⟨f, t, hf, ht, hf2, ht2, fun e => h3 (by rw [hf, ht, e]), ?_⟩
    rw [h2] at h1
    simpa using h1
theorem right_portL {c : Cfg} (h : rightB c = true) (g : Nat) (hg : g < c.gn) : portZ c g = -1 ∨ ∃ k : Nat, portZ c g = k ∧ k < c.pn ∧ c.P k 1 = g ∧ c.P k 0 = c.G g 0 := by
  rw [portZ_of h g (by omega)]
  rcases firstI_cases c.pn fun k => decide (c.P k 1 = (g : Int)) with ⟨h1, _⟩ | ⟨k, h1, hk, hp, _⟩
  · left
    show atI (firstI c.pn fun k => decide (c.P k 1 = (g : Int))) = -1
    rw [h1]; rfl
  · right
    have hpk : c.P k 1 = (g : Int) := by simpa using hp
    refine ⟨k, ?_, hk, hpk, ?_⟩
    · show atI (firstI c.pn fun k => decide (c.P k 1 = (g : Int))) = k
      rw [h1]; rfl
    · have h2 : wrongP c k = false := right_passed h 6 (by omega) k (by simpa [cntR] using hk)
      rcases wrongP_cases c k with ⟨h3, _⟩ | ⟨_, ⟨_, h3⟩ | ⟨_, g', hg', hg2, ⟨_, h3⟩ | ⟨h3, _⟩⟩⟩
      · omega
      · rw [h3] at h2; cases h2
      · rw [h3] at h2; cases h2
      · obtain rfl : g' = g := by omega
        exact h3

set_option maxRecDepth 100000 in
set_option maxHeartbeats 4000000 in
theorem flows_law (c : Cfg) (B : Nat) (w : World) (hB : B ≤ w.heap.size) (hc : c.At w B) :
    Calls Try.prog 6 #[c.v] w fun e w' => e = .returned (.bool true) ∧ Below w.heap.size w w' := by
  have HB0 := one_new w
  have HAw : Hid (∀ W : World, Calls Try.prog 17 #[] W fun e w' => e = .returned (.bool true) ∧ Below W.heap.size W w') := Lib.hid awake_any
  have HC1 : Hid (∀ W, Below w.heap.size w W → Calls Try.prog 16 #[c.v] W fun e w' => e = .returned (.tuple #[.int .i64 (check c).1, .int .i64 (check c).2]) ∧ Below W.heap.size W w') := Lib.hid fun W hW => check_any c B W (by have := hW.size; omega) (hc.below (hW.mono hB))
  have hrt : ((check c).1 = 0 → rightB c = true) := fun h => decide_eq_true h
  obtain ⟨cka, hcka⟩ : ∃ a, a = (check c).1 := ⟨_, rfl⟩
  obtain ⟨ckb, hckb⟩ : ∃ a, a = (check c).2 := ⟨_, rfl⟩
  rw [← hcka] at HC1 hrt
  rw [← hckb] at HC1
  clear hcka hckb
  by_cases hck : cka = 0
  · subst hck
    have hr := hrt rfl
    have HRi : Hid (∀ i, i < c.nn → ∃ f t : Nat, c.N i 0 = f ∧ c.N i 1 = t ∧ f < c.gn ∧ t < c.gn ∧ f ≠ t ∧ La.flowsZ (c.G f 0) (c.G t 0) = true) := Lib.hid (right_ring hr)
    have HPo : Hid (∀ g : Nat, g < c.gn → portZ c g = -1 ∨ ∃ k : Nat, portZ c g = k ∧ k < c.pn ∧ c.P k 1 = g ∧ c.P k 0 = c.G g 0) := Lib.hid (right_portL hr)
    have HPC : Hid (∀ (g : Int) W, Below w.heap.size w W → Calls Try.prog 31 #[c.v, .int .i64 g] W fun e w' => e = .returned (.int .i64 (portZ c g)) ∧ Below W.heap.size W w') := Lib.hid fun g W hW => PortOf_any c g B W (by have := hW.size; omega) (hc.below (hW.mono hB))
    have HG : Hid (RowT 3 w B c.ga c.gn c.G) := Lib.hid hc.g
    have HN : Hid (RowT 2 w B c.na c.nn c.N) := Lib.hid hc.n
    have HP : Hid (RowT 2 w B c.pa c.pn c.P) := Lib.hid hc.p
    have l1 := hc.lg
    have l3 := hc.lp
    have l4 := hc.ln
    have HFl : Hid (∀ (a b : Int) (W : World), Calls Try.prog 35 #[.int .i64 a, .int .i64 b] W fun e w' => e = .returned (.bool (La.flowsZ a b)) ∧ Below W.heap.size W w') := Lib.hid fun a b W => La.flows_any a b _ W (Nat.le_refl _)
    obtain ⟨PZ, hPZ⟩ : ∃ PZ, PZ = portZ c := ⟨_, rfl⟩
    rw [← hPZ] at HPo HPC
    clear hrt hr hc hPZ
    obtain ⟨cats, ga, gn, gc, ra, rn, rc, pa, pn, pc, na, nn, nc, sa, sn, sc, gate, quota, G, R, P, N, S⟩ := c
    dsimp only at HRi HPo HPC HG HN HP HC1 l1 l3 l4
    go_enter Try.func6, Try.ntmps6
    go_wp2_with fail
    refine (HC1.out _ (HB0.out _)).mono ?_
    rintro e w1 ⟨rfl, hb⟩
    have hbw := (HB0.out _).trans (hb.mono (by simp))
    have s1 : w.heap.size < w1.heap.size := by have := hb.size; simp at this; omega
    have hq := old_cells hb
    have HK0 : Hid (w1.cell? ⟨w.heap.size, 0, none⟩ = some (.int .i64 cats)) := Lib.hid (by rw [hq _ 0 (by simp)]; simp)
    have HK1 : Hid (w1.cell? ⟨w.heap.size, 1, none⟩ = some (.slice ga gn gc)) := Lib.hid (by rw [hq _ 1 (by simp)]; simp)
    have HK2 : Hid (w1.cell? ⟨w.heap.size, 2, none⟩ = some (.slice ra rn rc)) := Lib.hid (by rw [hq _ 2 (by simp)]; simp)
    have HK3 : Hid (w1.cell? ⟨w.heap.size, 3, none⟩ = some (.slice pa pn pc)) := Lib.hid (by rw [hq _ 3 (by simp)]; simp)
    have HK4 : Hid (w1.cell? ⟨w.heap.size, 4, none⟩ = some (.slice na nn nc)) := Lib.hid (by rw [hq _ 4 (by simp)]; simp)
    have HK5 : Hid (w1.cell? ⟨w.heap.size, 5, none⟩ = some (.slice sa sn sc)) := Lib.hid (by rw [hq _ 5 (by simp)]; simp)
    have HK6 : Hid (w1.cell? ⟨w.heap.size, 6, none⟩ = some (.int .i64 gate)) := Lib.hid (by rw [hq _ 6 (by simp)]; simp)
    have HK7 : Hid (w1.cell? ⟨w.heap.size, 7, none⟩ = some (.int .i64 quota)) := Lib.hid (by rw [hq _ 7 (by simp)]; simp)
    clear hb hq
    go_wp2
    go_loopw [5] (fun i wr => ∃ k : Nat, k ≤ nn ∧ i = .int .i64 k ∧ Below w1.heap.size w1 wr) (fun i _ => nn - (intOf i).toNat)
    case atStart => exact ⟨0, Nat.zero_le _, rfl, Below.refl _ _⟩
    case round =>
      obtain ⟨k, hk, rfl, hb⟩ := hrel
      have hbk : Below w.heap.size w wr := hbw.trans (hb.mono (by omega))
      have k1 := (old_cells hb _ 1 s1).trans HK1.out
      have k4 := (old_cells hb _ 4 s1).trans HK4.out
      have sr : w.heap.size < wr.heap.size := by have := hb.size; omega
      by_cases hlt : k < nn
      · obtain ⟨x, rfl, hx, c0, c1⟩ := (HN.out.below (hbk.mono hB)).at2 k hlt
        obtain ⟨f, t, e1, e2, hf2, ht2, hne, hfl⟩ := HRi.out k hlt
        rw [e1] at c0
        rw [e2] at c1
        clear e1 e2
        have b0 : (0 : Int) ≤ (k : Int) := by omega
        have b1 : (k : Int) < (nn : Int) := by omega
        obtain ⟨V, hV⟩ : ∃ V, V = wr.alloc (.cells #[.int .i64 f, .int .i64 t] 59) := ⟨_, rfl⟩
        have HV := Lib.hid hV
        have hbr : Below wr.heap.size wr V := by rw [hV]; exact (Below.refl _ _).alloc (Nat.le_refl _) _
        have HD0 : Hid (V.cell? ⟨wr.heap.size, 0, none⟩ = some (.int .i64 f)) := Lib.hid (by rw [hV]; simp)
        have HD1 : Hid (V.cell? ⟨wr.heap.size, 1, none⟩ = some (.int .i64 t)) := Lib.hid (by rw [hV]; simp)
        have sv : wr.heap.size < V.heap.size := by rw [hV]; simp
        have sv2 : w.heap.size < V.heap.size := by omega
        have HM1 := Lib.hid ((old_cells hbr _ 1 sr).trans k1)
        have hbV : Below w.heap.size w V := hbk.trans (hbr.mono hbk.size)
        have hbV1 : Below w1.heap.size w1 V := hb.trans (hbr.mono hb.size)
        clear hV hbr
        obtain ⟨y, rfl, hyb, e0, _, _⟩ := (HG.out.below (hbV.mono hB)).at3 f hf2
        obtain ⟨y', hyy, _, e1, _, _⟩ := (HG.out.below (hbV.mono hB)).at3 t ht2
        obtain rfl : y = y' := by injection hyy
        clear hyy
        have sy1 : (y.add (f * 3)).block < V.heap.size := by have := hbV.size; rw [block_of_add]; omega
        have sy2 : (y.add (t * 3)).block < V.heap.size := by have := hbV.size; rw [block_of_add]; omega
        have HFk : Hid (∀ W : World, Calls Try.prog 35 #[.int .i64 (G f 0), .int .i64 (G t 0)] W fun e w' => e = .returned (.bool true) ∧ Below W.heap.size W w') := Lib.hid fun W => by have h := HFl.out (G f 0) (G t 0) W; rwa [hfl] at h
        obtain ⟨u, hu⟩ : ∃ u, u = G f 0 := ⟨_, rfl⟩
        obtain ⟨v, hv⟩ : ∃ v, v = G t 0 := ⟨_, rfl⟩
        rw [← hu] at e0 HFk
        rw [← hv] at e1 HFk
        clear hu hv hfl
        have hft : ((f : Int) == (t : Int)) = false := by simp; omega
        have d1 : decide (gn ≤ f) = false := decide_eq_false (by omega)
        have d2 : decide (gn ≤ t) = false := decide_eq_false (by omega)
        have d1i : decide ((gn : Int) ≤ (f : Int)) = false := decide_eq_false (by omega)
        have d2i : decide ((gn : Int) ≤ (t : Int)) = false := decide_eq_false (by omega)
        have z1 : decide ((f : Int) < 0) = false := decide_eq_false (by omega)
        have z2 : decide ((t : Int) < 0) = false := decide_eq_false (by omega)
        have f0 : (0 : Int) ≤ (f : Int) := by omega
        have f1 : (f : Int) < (gn : Int) := by omega
        have t0 : (0 : Int) ≤ (t : Int) := by omega
        have t1 : (t : Int) < (gn : Int) := by omega
        go_wp2
        have hV2 := HV.out
        rw [← hV2]
        clear hV2 k1 k4 c0 c1
        have d0 := HD0.out
        have d01 := HD1.out
        have m1 := HM1.out
        apply wp_region_auto [29, 30, 31, 32, 33, 34, 35, 36, 37, 38, 39, 40, 41, 42, 43, 44, 45, 46, 47, 48, 49, 50, 51, 52, 53, 54, 55, 56, 57, 58, 59, 60, 61, 62, 63, 64, 65, 66, 67, 68, 69, 70, 71, 72, 73, 74, 75, 76] [_, _, _, _, _, _, _, _, _, _, _, _, _, _, _, _, _, _, _, _, _, _, _, _, _, _, _, _, _, _, _, _, _, _, _, _, _, _, _, _, _, _, _, _, _, _, _, _] (fun W' => Below V.heap.size V W')
        case hm => kernel_rfl
        case hT => intro y; simp only [setAll, List.setIfInBounds_toArray, List.set_cons_succ, List.set_cons_zero]; exact rfl
        case hok => kernel_rfl
        case hn => decide
        case hw => exact (Below.refl _ _).drew
        case hs =>
          refine auto_op 29 [] (by kernel_rfl) (fun y w' HW hd K hK => ?_) ?_
          · go_simp
            refine hK _ _ ?_ ?_ HW
            · simp [upd]
            · exact rfl
          refine auto_op 30 [0] (by kernel_rfl) (fun y w' HW hd K hK => ?_) ?_
          · have e0 := hd_nth (hd 0 (by simp)) rfl
            have hcl : ∀ p : Addr, p.block < V.heap.size → w'.cell? p = V.cell? p := fun p hp => HW.cell hp
            go_simp
            refine hK _ _ ?_ ?_ HW
            · simp [upd, e0]
            · exact rfl
          refine auto_op 31 [] (by kernel_rfl) (fun y w' HW hd K hK => ?_) ?_
          · go_simp
            refine hK _ _ ?_ ?_ HW
            · simp [upd]
            · exact rfl
          refine auto_op 32 [2] (by kernel_rfl) (fun y w' HW hd K hK => ?_) ?_
          · have e2 := hd_nth (hd 2 (by simp)) rfl
            have hcl : ∀ p : Addr, p.block < V.heap.size → w'.cell? p = V.cell? p := fun p hp => HW.cell hp
            go_simp
            refine hK _ _ ?_ ?_ HW
            · simp [upd, e2]
            · exact rfl
          refine auto_op 33 [1, 3] (by kernel_rfl) (fun y w' HW hd K hK => ?_) ?_
          · have e1 := hd_nth (hd 1 (by simp)) rfl
            have e3 := hd_nth (hd 3 (by simp)) rfl
            go_simp
            refine hK _ _ ?_ ?_ HW
            · simp [upd, e1, e3]
            · exact rfl
          refine auto_op 34 [4] (by kernel_rfl) (fun y w' HW hd K hK => ?_) ?_
          · have e4 := hd_nth (hd 4 (by simp)) rfl
            go_simp
            refine hK _ _ ?_ ?_ HW
            · simp [upd, e4]
            · exact rfl
          refine auto_op 35 [5] (by kernel_rfl) (fun y w' HW hd K hK => ?_) ?_
          · have e5 := hd_nth (hd 5 (by simp)) rfl
            go_simp
            refine hK _ _ ?_ ?_ HW
            · simp [upd, e5]
            · exact rfl
          refine auto_op 36 [6, 5] (by kernel_rfl) (fun y w' HW hd K hK => ?_) ?_
          · have e5 := hd_nth (hd 5 (by simp)) rfl
            have e6 := hd_nth (hd 6 (by simp)) rfl
            have hcl : ∀ p : Addr, p.block < V.heap.size → w'.cell? p = V.cell? p := fun p hp => HW.cell hp
            go_simp
            refine hK _ _ ?_ ?_ HW
            · simp [upd, e5, e6]
            · exact rfl
          refine auto_op 37 [7, 5] (by kernel_rfl) (fun y w' HW hd K hK => ?_) ?_
          · have e5 := hd_nth (hd 5 (by simp)) rfl
            have e7 := hd_nth (hd 7 (by simp)) rfl
            go_simp
            refine hK _ _ ?_ ?_ HW
            · simp [upd, e5, e7]
            · exact rfl
          refine auto_op 38 [5, 8] (by kernel_rfl) (fun y w' HW hd K hK => ?_) ?_
          · have e5 := hd_nth (hd 5 (by simp)) rfl
            have e8 := hd_nth (hd 8 (by simp)) rfl
            go_simp
            refine hK _ _ ?_ ?_ HW
            · simp [upd, e5, e8]
            · exact rfl
          refine auto_op 39 [9, 5] (by kernel_rfl) (fun y w' HW hd K hK => ?_) ?_
          · have e5 := hd_nth (hd 5 (by simp)) rfl
            have e9 := hd_nth (hd 9 (by simp)) rfl
            go_simp
            refine hK _ _ ?_ ?_ HW
            · simp [upd, e5, e9]
            · exact rfl
          refine auto_op 40 [10] (by kernel_rfl) (fun y w' HW hd K hK => ?_) ?_
          · have e10 := hd_nth (hd 10 (by simp)) rfl
            go_simp
            refine hK _ _ ?_ ?_ HW
            · simp [upd, e10]
            · exact rfl
          refine auto_op 41 [11, 10] (by kernel_rfl) (fun y w' HW hd K hK => ?_) ?_
          · have e10 := hd_nth (hd 10 (by simp)) rfl
            have e11 := hd_nth (hd 11 (by simp)) rfl
            have hcl : ∀ p : Addr, p.block < V.heap.size → w'.cell? p = V.cell? p := fun p hp => HW.cell hp
            go_simp
            refine hK _ _ ?_ ?_ HW
            · simp [upd, e10, e11]
            · exact rfl
          refine auto_op 42 [10] (by kernel_rfl) (fun y w' HW hd K hK => ?_) ?_
          · have e10 := hd_nth (hd 10 (by simp)) rfl
            go_simp
            refine hK _ _ ?_ ?_ HW
            · simp [upd, e10]
            · exact rfl
          refine auto_op 43 [13, 10] (by kernel_rfl) (fun y w' HW hd K hK => ?_) ?_
          · have e10 := hd_nth (hd 10 (by simp)) rfl
            have e13 := hd_nth (hd 13 (by simp)) rfl
            have hcl : ∀ p : Addr, p.block < V.heap.size → w'.cell? p = V.cell? p := fun p hp => HW.cell hp
            go_simp
            refine hK _ _ ?_ ?_ HW
            · simp [upd, e10, e13]
            · exact rfl
          refine auto_op 44 [14, 10] (by kernel_rfl) (fun y w' HW hd K hK => ?_) ?_
          · have e10 := hd_nth (hd 10 (by simp)) rfl
            have e14 := hd_nth (hd 14 (by simp)) rfl
            go_simp
            refine hK _ _ ?_ ?_ HW
            · simp [upd, e10, e14]
            · exact rfl
          refine auto_op 45 [12, 15, 10] (by kernel_rfl) (fun y w' HW hd K hK => ?_) ?_
          · have e10 := hd_nth (hd 10 (by simp)) rfl
            have e12 := hd_nth (hd 12 (by simp)) rfl
            have e15 := hd_nth (hd 15 (by simp)) rfl
            go_simp
            refine hK _ _ ?_ ?_ HW
            · simp [upd, e10, e12, e15]
            · exact rfl
          refine auto_op 46 [10, 16] (by kernel_rfl) (fun y w' HW hd K hK => ?_) ?_
          · have e10 := hd_nth (hd 10 (by simp)) rfl
            have e16 := hd_nth (hd 16 (by simp)) rfl
            go_simp
            refine hK _ _ ?_ ?_ HW
            · simp [upd, e10, e16]
            · exact rfl
          refine auto_op 47 [17, 10] (by kernel_rfl) (fun y w' HW hd K hK => ?_) ?_
          · have e10 := hd_nth (hd 10 (by simp)) rfl
            have e17 := hd_nth (hd 17 (by simp)) rfl
            go_simp
            refine hK _ _ ?_ ?_ HW
            · simp [upd, e10, e17]
            · exact rfl
          refine auto_op 48 [18] (by kernel_rfl) (fun y w' HW hd K hK => ?_) ?_
          · have e18 := hd_nth (hd 18 (by simp)) rfl
            go_simp
            refine hK _ _ ?_ ?_ HW
            · simp [upd, e18]
            · exact rfl
          refine auto_op 49 [19, 18] (by kernel_rfl) (fun y w' HW hd K hK => ?_) ?_
          · have e18 := hd_nth (hd 18 (by simp)) rfl
            have e19 := hd_nth (hd 19 (by simp)) rfl
            have hcl : ∀ p : Addr, p.block < V.heap.size → w'.cell? p = V.cell? p := fun p hp => HW.cell hp
            go_simp
            refine hK _ _ ?_ ?_ HW
            · simp [upd, e18, e19]
            · exact rfl
          refine auto_op 50 [20, 18] (by kernel_rfl) (fun y w' HW hd K hK => ?_) ?_
          · have e18 := hd_nth (hd 18 (by simp)) rfl
            have e20 := hd_nth (hd 20 (by simp)) rfl
            go_simp
            refine hK _ _ ?_ ?_ HW
            · simp [upd, e18, e20]
            · exact rfl
          refine auto_op 51 [18, 21] (by kernel_rfl) (fun y w' HW hd K hK => ?_) ?_
          · have e18 := hd_nth (hd 18 (by simp)) rfl
            have e21 := hd_nth (hd 21 (by simp)) rfl
            go_simp
            refine hK _ _ ?_ ?_ HW
            · simp [upd, e18, e21]
            · exact rfl
          refine auto_op 52 [22, 18] (by kernel_rfl) (fun y w' HW hd K hK => ?_) ?_
          · have e18 := hd_nth (hd 18 (by simp)) rfl
            have e22 := hd_nth (hd 22 (by simp)) rfl
            go_simp
            refine hK _ _ ?_ ?_ HW
            · simp [upd, e18, e22]
            · exact rfl
          refine auto_op 53 [23] (by kernel_rfl) (fun y w' HW hd K hK => ?_) ?_
          · have e23 := hd_nth (hd 23 (by simp)) rfl
            go_simp
            refine hK _ _ ?_ ?_ HW
            · simp [upd, e23]
            · exact rfl
          refine auto_op 54 [24, 23] (by kernel_rfl) (fun y w' HW hd K hK => ?_) ?_
          · have e23 := hd_nth (hd 23 (by simp)) rfl
            have e24 := hd_nth (hd 24 (by simp)) rfl
            have hcl : ∀ p : Addr, p.block < V.heap.size → w'.cell? p = V.cell? p := fun p hp => HW.cell hp
            go_simp
            refine hK _ _ ?_ ?_ HW
            · simp [upd, e23, e24]
            · exact rfl
          refine auto_op 55 [23] (by kernel_rfl) (fun y w' HW hd K hK => ?_) ?_
          · have e23 := hd_nth (hd 23 (by simp)) rfl
            go_simp
            refine hK _ _ ?_ ?_ HW
            · simp [upd, e23]
            · exact rfl
          refine auto_op 56 [26, 23] (by kernel_rfl) (fun y w' HW hd K hK => ?_) ?_
          · have e23 := hd_nth (hd 23 (by simp)) rfl
            have e26 := hd_nth (hd 26 (by simp)) rfl
            have hcl : ∀ p : Addr, p.block < V.heap.size → w'.cell? p = V.cell? p := fun p hp => HW.cell hp
            go_simp
            refine hK _ _ ?_ ?_ HW
            · simp [upd, e23, e26]
            · exact rfl
          refine auto_op 57 [27, 23] (by kernel_rfl) (fun y w' HW hd K hK => ?_) ?_
          · have e23 := hd_nth (hd 23 (by simp)) rfl
            have e27 := hd_nth (hd 27 (by simp)) rfl
            go_simp
            refine hK _ _ ?_ ?_ HW
            · simp [upd, e23, e27]
            · exact rfl
          refine auto_op 58 [25, 28, 23] (by kernel_rfl) (fun y w' HW hd K hK => ?_) ?_
          · have e23 := hd_nth (hd 23 (by simp)) rfl
            have e25 := hd_nth (hd 25 (by simp)) rfl
            have e28 := hd_nth (hd 28 (by simp)) rfl
            go_simp
            refine hK _ _ ?_ ?_ HW
            · simp [upd, e23, e25, e28]
            · exact rfl
          refine auto_op 59 [23, 29] (by kernel_rfl) (fun y w' HW hd K hK => ?_) ?_
          · have e23 := hd_nth (hd 23 (by simp)) rfl
            have e29 := hd_nth (hd 29 (by simp)) rfl
            go_simp
            refine hK _ _ ?_ ?_ HW
            · simp [upd, e23, e29]
            · exact rfl
          refine auto_op 60 [30, 23] (by kernel_rfl) (fun y w' HW hd K hK => ?_) ?_
          · have e23 := hd_nth (hd 23 (by simp)) rfl
            have e30 := hd_nth (hd 30 (by simp)) rfl
            go_simp
            refine hK _ _ ?_ ?_ HW
            · simp [upd, e23, e30]
            · exact rfl
          refine auto_op 61 [31] (by kernel_rfl) (fun y w' HW hd K hK => ?_) ?_
          · have e31 := hd_nth (hd 31 (by simp)) rfl
            go_simp
            refine hK _ _ ?_ ?_ HW
            · simp [upd, e31]
            · exact rfl
          refine auto_op 62 [32, 31] (by kernel_rfl) (fun y w' HW hd K hK => ?_) ?_
          · have e31 := hd_nth (hd 31 (by simp)) rfl
            have e32 := hd_nth (hd 32 (by simp)) rfl
            have hcl : ∀ p : Addr, p.block < V.heap.size → w'.cell? p = V.cell? p := fun p hp => HW.cell hp
            go_simp
            refine hK _ _ ?_ ?_ HW
            · simp [upd, e31, e32]
            · exact rfl
          refine auto_op 63 [31] (by kernel_rfl) (fun y w' HW hd K hK => ?_) ?_
          · have e31 := hd_nth (hd 31 (by simp)) rfl
            go_simp
            refine hK _ _ ?_ ?_ HW
            · simp [upd, e31]
            · exact rfl
          refine auto_op 64 [34, 31] (by kernel_rfl) (fun y w' HW hd K hK => ?_) ?_
          · have e31 := hd_nth (hd 31 (by simp)) rfl
            have e34 := hd_nth (hd 34 (by simp)) rfl
            have hcl : ∀ p : Addr, p.block < V.heap.size → w'.cell? p = V.cell? p := fun p hp => HW.cell hp
            go_simp
            refine hK _ _ ?_ ?_ HW
            · simp [upd, e31, e34]
            · exact rfl
          refine auto_op 65 [33, 35, 31] (by kernel_rfl) (fun y w' HW hd K hK => ?_) ?_
          · have e31 := hd_nth (hd 31 (by simp)) rfl
            have e33 := hd_nth (hd 33 (by simp)) rfl
            have e35 := hd_nth (hd 35 (by simp)) rfl
            go_simp
            refine hK _ _ ?_ ?_ HW
            · simp [upd, e31, e33, e35]
            · exact rfl
          refine auto_op 66 [36, 31] (by kernel_rfl) (fun y w' HW hd K hK => ?_) ?_
          · have e31 := hd_nth (hd 31 (by simp)) rfl
            have e36 := hd_nth (hd 36 (by simp)) rfl
            go_simp
            refine hK _ _ ?_ ?_ HW
            · simp [upd, e31, e36]
            · exact rfl
          refine auto_op 67 [37, 31] (by kernel_rfl) (fun y w' HW hd K hK => ?_) ?_
          · have e31 := hd_nth (hd 31 (by simp)) rfl
            have e37 := hd_nth (hd 37 (by simp)) rfl
            have hcl : ∀ p : Addr, p.block < V.heap.size → w'.cell? p = V.cell? p := fun p hp => HW.cell hp
            go_simp
            refine hK _ _ ?_ ?_ HW
            · simp [upd, e31, e37]
            · exact rfl
          refine auto_op 68 [31] (by kernel_rfl) (fun y w' HW hd K hK => ?_) ?_
          · have e31 := hd_nth (hd 31 (by simp)) rfl
            go_simp
            refine hK _ _ ?_ ?_ HW
            · simp [upd, e31]
            · exact rfl
          refine auto_op 69 [39, 31] (by kernel_rfl) (fun y w' HW hd K hK => ?_) ?_
          · have e31 := hd_nth (hd 31 (by simp)) rfl
            have e39 := hd_nth (hd 39 (by simp)) rfl
            have hcl : ∀ p : Addr, p.block < V.heap.size → w'.cell? p = V.cell? p := fun p hp => HW.cell hp
            go_simp
            refine hK _ _ ?_ ?_ HW
            · simp [upd, e31, e39]
            · exact rfl
          refine auto_op 70 [31] (by kernel_rfl) (fun y w' HW hd K hK => ?_) ?_
          · have e31 := hd_nth (hd 31 (by simp)) rfl
            go_simp
            refine hK _ _ ?_ ?_ HW
            · simp [upd, e31]
            · exact rfl
          refine auto_op 71 [41, 31] (by kernel_rfl) (fun y w' HW hd K hK => ?_) ?_
          · have e31 := hd_nth (hd 31 (by simp)) rfl
            have e41 := hd_nth (hd 41 (by simp)) rfl
            have hcl : ∀ p : Addr, p.block < V.heap.size → w'.cell? p = V.cell? p := fun p hp => HW.cell hp
            go_simp
            refine hK _ _ ?_ ?_ HW
            · simp [upd, e31, e41]
            · exact rfl
          refine auto_op 72 [40, 42, 31] (by kernel_rfl) (fun y w' HW hd K hK => ?_) ?_
          · have e31 := hd_nth (hd 31 (by simp)) rfl
            have e40 := hd_nth (hd 40 (by simp)) rfl
            have e42 := hd_nth (hd 42 (by simp)) rfl
            go_simp
            refine hK _ _ ?_ ?_ HW
            · simp [upd, e31, e40, e42]
            · exact rfl
          refine auto_op 73 [43, 31] (by kernel_rfl) (fun y w' HW hd K hK => ?_) ?_
          · have e31 := hd_nth (hd 31 (by simp)) rfl
            have e43 := hd_nth (hd 43 (by simp)) rfl
            go_simp
            refine hK _ _ ?_ ?_ HW
            · simp [upd, e31, e43]
            · exact rfl
          refine auto_op 74 [44, 31] (by kernel_rfl) (fun y w' HW hd K hK => ?_) ?_
          · have e31 := hd_nth (hd 31 (by simp)) rfl
            have e44 := hd_nth (hd 44 (by simp)) rfl
            have hcl : ∀ p : Addr, p.block < V.heap.size → w'.cell? p = V.cell? p := fun p hp => HW.cell hp
            go_simp
            refine hK _ _ ?_ ?_ HW
            · simp [upd, e31, e44]
            · exact rfl
          refine auto_op 75 [38, 45, 31, 31] (by kernel_rfl) (fun y w' HW hd K hK => ?_) ?_
          · have e31 := hd_nth (hd 31 (by simp)) rfl
            have e38 := hd_nth (hd 38 (by simp)) rfl
            have e45 := hd_nth (hd 45 (by simp)) rfl
            go_simp
            refine (HFk.out _).mono ?_
            rintro e w3 ⟨rfl, hb3⟩
            refine hK _ _ ?_ ?_ (HW.trans (hb3.mono HW.size))
            · simp [upd, e31, e38, e45]
            · exact rfl
          refine auto_op 76 [46, 31] (by kernel_rfl) (fun y w' HW hd K hK => ?_) ?_
          · have e31 := hd_nth (hd 31 (by simp)) rfl
            have e46 := hd_nth (hd 46 (by simp)) rfl
            go_simp
            refine hK _ _ ?_ ?_ HW
            · simp [upd, e31, e46]
            · exact rfl
          refine auto_last fun y w' HW hd K hK => ?_
          have e0 := hd_nth (hd 0 (by omega)) rfl
          have e1 := hd_nth (hd 1 (by omega)) rfl
          have e2 := hd_nth (hd 2 (by omega)) rfl
          have e3 := hd_nth (hd 3 (by omega)) rfl
          have e4 := hd_nth (hd 4 (by omega)) rfl
          have e5 := hd_nth (hd 5 (by omega)) rfl
          have e6 := hd_nth (hd 6 (by omega)) rfl
          have e7 := hd_nth (hd 7 (by omega)) rfl
          have e8 := hd_nth (hd 8 (by omega)) rfl
          have e9 := hd_nth (hd 9 (by omega)) rfl
          have e10 := hd_nth (hd 10 (by omega)) rfl
          have e11 := hd_nth (hd 11 (by omega)) rfl
          have e12 := hd_nth (hd 12 (by omega)) rfl
          have e13 := hd_nth (hd 13 (by omega)) rfl
          have e14 := hd_nth (hd 14 (by omega)) rfl
          have e15 := hd_nth (hd 15 (by omega)) rfl
          have e16 := hd_nth (hd 16 (by omega)) rfl
          have e17 := hd_nth (hd 17 (by omega)) rfl
          have e18 := hd_nth (hd 18 (by omega)) rfl
          have e19 := hd_nth (hd 19 (by omega)) rfl
          have e20 := hd_nth (hd 20 (by omega)) rfl
          have e21 := hd_nth (hd 21 (by omega)) rfl
          have e22 := hd_nth (hd 22 (by omega)) rfl
          have e23 := hd_nth (hd 23 (by omega)) rfl
          have e24 := hd_nth (hd 24 (by omega)) rfl
          have e25 := hd_nth (hd 25 (by omega)) rfl
          have e26 := hd_nth (hd 26 (by omega)) rfl
          have e27 := hd_nth (hd 27 (by omega)) rfl
          have e28 := hd_nth (hd 28 (by omega)) rfl
          have e29 := hd_nth (hd 29 (by omega)) rfl
          have e30 := hd_nth (hd 30 (by omega)) rfl
          have e31 := hd_nth (hd 31 (by omega)) rfl
          have e32 := hd_nth (hd 32 (by omega)) rfl
          have e33 := hd_nth (hd 33 (by omega)) rfl
          have e34 := hd_nth (hd 34 (by omega)) rfl
          have e35 := hd_nth (hd 35 (by omega)) rfl
          have e36 := hd_nth (hd 36 (by omega)) rfl
          have e37 := hd_nth (hd 37 (by omega)) rfl
          have e38 := hd_nth (hd 38 (by omega)) rfl
          have e39 := hd_nth (hd 39 (by omega)) rfl
          have e40 := hd_nth (hd 40 (by omega)) rfl
          have e41 := hd_nth (hd 41 (by omega)) rfl
          have e42 := hd_nth (hd 42 (by omega)) rfl
          have e43 := hd_nth (hd 43 (by omega)) rfl
          have e44 := hd_nth (hd 44 (by omega)) rfl
          have e45 := hd_nth (hd 45 (by omega)) rfl
          have e46 := hd_nth (hd 46 (by omega)) rfl
          have e47 := hd_nth (hd 47 (by omega)) rfl
          go_simp
          refine hK _ _ ?_
          clear hd hK K e0 e1 e2 e3 e4 e5 e6 e7 e8 e9 e10 e11 e12 e13 e14 e15 e16 e17 e18 e19 e20 e21 e22 e23 e24 e25 e26 e27 e28 e29 e30 e31 e32 e33 e34 e35 e36 e37 e38 e39 e40 e41 e42 e43 e44 e45 e46 e47
          go_wp2
          go_roundw
          case rel => exact ⟨k + 1, by omega, by go_num, hbV1.trans (HW.mono hbV1.size)⟩
          case measure => simp [intOf]; omega
      · have hkn : k = nn := by omega
        subst hkn
        have b1 : ¬ (k : Int) < (k : Int) := by omega
        clear k1 k4
        have k0 := (old_cells hb _ 0 s1).trans HK0.out
        have k1 := (old_cells hb _ 1 s1).trans HK1.out
        have k2 := (old_cells hb _ 2 s1).trans HK2.out
        have k3 := (old_cells hb _ 3 s1).trans HK3.out
        have k4 := (old_cells hb _ 4 s1).trans HK4.out
        have k5 := (old_cells hb _ 5 s1).trans HK5.out
        have k6 := (old_cells hb _ 6 s1).trans HK6.out
        have k7 := (old_cells hb _ 7 s1).trans HK7.out
        go_wp2
        clear k0 k1 k2 k3 k4 k5 k6 k7
        obtain ⟨w5, hw5⟩ : ∃ w5, w5 = wr := ⟨_, rfl⟩
        rw [← hw5] at hb hbk sr ⊢
        clear hw5
        go_loopw [7] (fun i wr => ∃ g : Nat, g ≤ gn ∧ i = .int .i64 g ∧ Below w5.heap.size w5 wr) (fun i _ => gn - (intOf i).toNat)
        case atStart => exact ⟨0, Nat.zero_le _, rfl, Below.refl _ _⟩
        case round =>
          obtain ⟨g, hg, rfl, hbi⟩ := hrel
          have hb1 : Below w1.heap.size w1 wr := hb.trans (hbi.mono hb.size)
          have hbk2 : Below w.heap.size w wr := hbw.trans (hb1.mono (by omega))
          have k0 := (old_cells hb1 _ 0 s1).trans HK0.out
          have k1 := (old_cells hb1 _ 1 s1).trans HK1.out
          have k2 := (old_cells hb1 _ 2 s1).trans HK2.out
          have k3 := (old_cells hb1 _ 3 s1).trans HK3.out
          have k4 := (old_cells hb1 _ 4 s1).trans HK4.out
          have k5 := (old_cells hb1 _ 5 s1).trans HK5.out
          have k6 := (old_cells hb1 _ 6 s1).trans HK6.out
          have k7 := (old_cells hb1 _ 7 s1).trans HK7.out
          by_cases hlt : g < gn
          · obtain ⟨y, rfl, hyb, _, _, _⟩ := (HG.out.below (hbk2.mono hB)).at3 g hlt
            have b0 : (0 : Int) ≤ (g : Int) := by omega
            have b1 : (g : Int) < (gn : Int) := by omega
            have sr2 : w.heap.size < wr.heap.size := by have := hb1.size; omega
            obtain ⟨pz, hpz⟩ : ∃ pz, pz = PZ (g : Int) := ⟨_, rfl⟩
            have hpo := HPo.out g hlt
            have HPC2 := HPC.out (g : Int)
            rw [← hpz] at hpo HPC2
            have HPC3 := Lib.hid HPC2
            clear hpz HPC2
            rcases hpo with rfl | ⟨p, rfl, hp2, hp3, hp4⟩
            · go_wp2_with fail
              refine (HPC3.out _ hbk2).mono ?_
              rintro e w6 ⟨rfl, hb6⟩
              have hbk6 := hbk2.trans (hb6.mono hbk2.size)
              have hb16 := hbi.trans (hb6.mono hbi.size)
              have m1 := (old_cells hb6 _ 1 sr2).trans k1
              have m3 := (old_cells hb6 _ 3 sr2).trans k3
              have sw : w.heap.size < w6.heap.size := by have := hb6.size; omega
              have z1 : decide ((pn : Int) ≤ -1) = false := decide_eq_false (by omega)
              have z2 : decide ((0 : Int) ≤ -1) = false := by decide
              clear k0 k1 k2 k3 k4 k5 k6 k7
              go_wp2
              apply wp_region_auto [88, 89, 90, 91, 92, 93, 94, 95, 96, 97, 98, 99, 100, 101, 102, 103, 104, 105, 106, 107, 108, 109, 110, 111, 112, 113, 114, 115, 116, 117, 118, 119, 120] [_, _, _, _, _, _, _, _, _, _, _, _, _, _, _, _, _, _, _, _, _, _, _, _, _, _, _, _, _, _, _, _, _] (fun W' => Below w6.heap.size w6 W')
              case hm => kernel_rfl
              case hT => intro y; simp only [setAll, List.setIfInBounds_toArray, List.set_cons_succ, List.set_cons_zero]; exact rfl
              case hok => kernel_rfl
              case hn => decide
              case hw => exact (Below.refl _ _).drew
              case hs =>
                refine auto_op 88 [] (by kernel_rfl) (fun y w' HW hd K hK => ?_) ?_
                · go_simp
                  refine hK _ _ ?_ ?_ HW
                  · simp [upd]
                  · exact rfl
                refine auto_op 89 [] (by kernel_rfl) (fun y w' HW hd K hK => ?_) ?_
                · go_simp
                  refine hK _ _ ?_ ?_ HW
                  · simp [upd]
                  · exact rfl
                refine auto_op 90 [1] (by kernel_rfl) (fun y w' HW hd K hK => ?_) ?_
                · have e1 := hd_nth (hd 1 (by simp)) rfl
                  have hcl : ∀ p : Addr, p.block < w6.heap.size → w'.cell? p = w6.cell? p := fun p hp => HW.cell hp
                  go_simp
                  refine hK _ _ ?_ ?_ HW
                  · simp [upd, e1]
                  · exact rfl
                refine auto_op 91 [2] (by kernel_rfl) (fun y w' HW hd K hK => ?_) ?_
                · have e2 := hd_nth (hd 2 (by simp)) rfl
                  go_simp
                  refine hK _ _ ?_ ?_ HW
                  · simp [upd, e2]
                  · exact rfl
                refine auto_op 92 [0, 3] (by kernel_rfl) (fun y w' HW hd K hK => ?_) ?_
                · have e0 := hd_nth (hd 0 (by simp)) rfl
                  have e3 := hd_nth (hd 3 (by simp)) rfl
                  go_simp
                  refine hK _ _ ?_ ?_ HW
                  · simp [upd, e0, e3]
                  · exact rfl
                refine auto_op 93 [4] (by kernel_rfl) (fun y w' HW hd K hK => ?_) ?_
                · have e4 := hd_nth (hd 4 (by simp)) rfl
                  go_simp
                  refine hK _ _ ?_ ?_ HW
                  · simp [upd, e4]
                  · exact rfl
                refine auto_op 94 [5] (by kernel_rfl) (fun y w' HW hd K hK => ?_) ?_
                · have e5 := hd_nth (hd 5 (by simp)) rfl
                  go_simp
                  refine hK _ _ ?_ ?_ HW
                  · simp [upd, e5]
                  · exact rfl
                refine auto_op 95 [6, 5] (by kernel_rfl) (fun y w' HW hd K hK => ?_) ?_
                · have e5 := hd_nth (hd 5 (by simp)) rfl
                  have e6 := hd_nth (hd 6 (by simp)) rfl
                  go_simp
                  refine hK _ _ ?_ ?_ HW
                  · simp [upd, e5, e6]
                  · exact rfl
                refine auto_op 96 [7, 5, 5] (by kernel_rfl) (fun y w' HW hd K hK => ?_) ?_
                · have e5 := hd_nth (hd 5 (by simp)) rfl
                  have e7 := hd_nth (hd 7 (by simp)) rfl
                  go_simp
                  refine hK _ _ ?_ ?_ HW
                  · simp [upd, e5, e7]
                  · exact rfl
                refine auto_op 97 [8] (by kernel_rfl) (fun y w' HW hd K hK => ?_) ?_
                · have e8 := hd_nth (hd 8 (by simp)) rfl
                  go_simp
                  refine hK _ _ ?_ ?_ HW
                  · simp [upd, e8]
                  · exact rfl
                refine auto_op 98 [9, 8] (by kernel_rfl) (fun y w' HW hd K hK => ?_) ?_
                · have e8 := hd_nth (hd 8 (by simp)) rfl
                  have e9 := hd_nth (hd 9 (by simp)) rfl
                  have hcl : ∀ p : Addr, p.block < w6.heap.size → w'.cell? p = w6.cell? p := fun p hp => HW.cell hp
                  go_simp
                  refine hK _ _ ?_ ?_ HW
                  · simp [upd, e8, e9]
                  · exact rfl
                refine auto_op 99 [8] (by kernel_rfl) (fun y w' HW hd K hK => ?_) ?_
                · have e8 := hd_nth (hd 8 (by simp)) rfl
                  go_simp
                  refine hK _ _ ?_ ?_ HW
                  · simp [upd, e8]
                  · exact rfl
                refine auto_op 100 [10, 11, 8] (by kernel_rfl) (fun y w' HW hd K hK => ?_) ?_
                · have e8 := hd_nth (hd 8 (by simp)) rfl
                  have e10 := hd_nth (hd 10 (by simp)) rfl
                  have e11 := hd_nth (hd 11 (by simp)) rfl
                  go_simp
                  refine hK _ _ ?_ ?_ HW
                  · simp [upd, e8, e10, e11]
                  · exact rfl
                refine auto_op 101 [12, 8] (by kernel_rfl) (fun y w' HW hd K hK => ?_) ?_
                · have e8 := hd_nth (hd 8 (by simp)) rfl
                  have e12 := hd_nth (hd 12 (by simp)) rfl
                  go_simp
                  refine hK _ _ ?_ ?_ HW
                  · simp [upd, e8, e12]
                  · exact rfl
                refine auto_op 102 [13, 8] (by kernel_rfl) (fun y w' HW hd K hK => ?_) ?_
                · have e8 := hd_nth (hd 8 (by simp)) rfl
                  have e13 := hd_nth (hd 13 (by simp)) rfl
                  have hcl : ∀ p : Addr, p.block < w6.heap.size → w'.cell? p = w6.cell? p := fun p hp => HW.cell hp
                  go_simp
                  refine hK _ _ ?_ ?_ HW
                  · simp [upd, e8, e13]
                  · exact rfl
                refine auto_op 103 [8] (by kernel_rfl) (fun y w' HW hd K hK => ?_) ?_
                · have e8 := hd_nth (hd 8 (by simp)) rfl
                  go_simp
                  refine hK _ _ ?_ ?_ HW
                  · simp [upd, e8]
                  · exact rfl
                refine auto_op 104 [14, 15, 8] (by kernel_rfl) (fun y w' HW hd K hK => ?_) ?_
                · have e8 := hd_nth (hd 8 (by simp)) rfl
                  have e14 := hd_nth (hd 14 (by simp)) rfl
                  have e15 := hd_nth (hd 15 (by simp)) rfl
                  go_simp
                  refine hK _ _ ?_ ?_ HW
                  · simp [upd, e8, e14, e15]
                  · exact rfl
                refine auto_op 105 [16, 8, 8] (by kernel_rfl) (fun y w' HW hd K hK => ?_) ?_
                · have e8 := hd_nth (hd 8 (by simp)) rfl
                  have e16 := hd_nth (hd 16 (by simp)) rfl
                  go_simp
                  refine hK _ _ ?_ ?_ HW
                  · simp [upd, e8, e16]
                  · exact rfl
                refine auto_op 106 [17] (by kernel_rfl) (fun y w' HW hd K hK => ?_) ?_
                · have e17 := hd_nth (hd 17 (by simp)) rfl
                  go_simp
                  refine hK _ _ ?_ ?_ HW
                  · simp [upd, e17]
                  · exact rfl
                refine auto_op 107 [18, 17] (by kernel_rfl) (fun y w' HW hd K hK => ?_) ?_
                · have e17 := hd_nth (hd 17 (by simp)) rfl
                  have e18 := hd_nth (hd 18 (by simp)) rfl
                  have hcl : ∀ p : Addr, p.block < w6.heap.size → w'.cell? p = w6.cell? p := fun p hp => HW.cell hp
                  go_simp
                  refine hK _ _ ?_ ?_ HW
                  · simp [upd, e17, e18]
                  · exact rfl
                refine auto_op 108 [17] (by kernel_rfl) (fun y w' HW hd K hK => ?_) ?_
                · have e17 := hd_nth (hd 17 (by simp)) rfl
                  go_simp
                  refine hK _ _ ?_ ?_ HW
                  · simp [upd, e17]
                  · exact rfl
                refine auto_op 109 [19, 20, 17] (by kernel_rfl) (fun y w' HW hd K hK => ?_) ?_
                · have e17 := hd_nth (hd 17 (by simp)) rfl
                  have e19 := hd_nth (hd 19 (by simp)) rfl
                  have e20 := hd_nth (hd 20 (by simp)) rfl
                  go_simp
                  refine hK _ _ ?_ ?_ HW
                  · simp [upd, e17, e19, e20]
                  · exact rfl
                refine auto_op 110 [21, 17] (by kernel_rfl) (fun y w' HW hd K hK => ?_) ?_
                · have e17 := hd_nth (hd 17 (by simp)) rfl
                  have e21 := hd_nth (hd 21 (by simp)) rfl
                  go_simp
                  refine hK _ _ ?_ ?_ HW
                  · simp [upd, e17, e21]
                  · exact rfl
                refine auto_op 111 [22, 17] (by kernel_rfl) (fun y w' HW hd K hK => ?_) ?_
                · have e17 := hd_nth (hd 17 (by simp)) rfl
                  have e22 := hd_nth (hd 22 (by simp)) rfl
                  have hcl : ∀ p : Addr, p.block < w6.heap.size → w'.cell? p = w6.cell? p := fun p hp => HW.cell hp
                  go_simp
                  refine hK _ _ ?_ ?_ HW
                  · simp [upd, e17, e22]
                  · exact rfl
                refine auto_op 112 [17] (by kernel_rfl) (fun y w' HW hd K hK => ?_) ?_
                · have e17 := hd_nth (hd 17 (by simp)) rfl
                  go_simp
                  refine hK _ _ ?_ ?_ HW
                  · simp [upd, e17]
                  · exact rfl
                refine auto_op 113 [24, 17] (by kernel_rfl) (fun y w' HW hd K hK => ?_) ?_
                · have e17 := hd_nth (hd 17 (by simp)) rfl
                  have e24 := hd_nth (hd 24 (by simp)) rfl
                  have hcl : ∀ p : Addr, p.block < w6.heap.size → w'.cell? p = w6.cell? p := fun p hp => HW.cell hp
                  go_simp
                  refine hK _ _ ?_ ?_ HW
                  · simp [upd, e17, e24]
                  · exact rfl
                refine auto_op 114 [17] (by kernel_rfl) (fun y w' HW hd K hK => ?_) ?_
                · have e17 := hd_nth (hd 17 (by simp)) rfl
                  go_simp
                  refine hK _ _ ?_ ?_ HW
                  · simp [upd, e17]
                  · exact rfl
                refine auto_op 115 [25, 26, 17] (by kernel_rfl) (fun y w' HW hd K hK => ?_) ?_
                · have e17 := hd_nth (hd 17 (by simp)) rfl
                  have e25 := hd_nth (hd 25 (by simp)) rfl
                  have e26 := hd_nth (hd 26 (by simp)) rfl
                  go_simp
                  refine hK _ _ ?_ ?_ HW
                  · simp [upd, e17, e25, e26]
                  · exact rfl
                refine auto_op 116 [27, 17] (by kernel_rfl) (fun y w' HW hd K hK => ?_) ?_
                · have e17 := hd_nth (hd 17 (by simp)) rfl
                  have e27 := hd_nth (hd 27 (by simp)) rfl
                  go_simp
                  refine hK _ _ ?_ ?_ HW
                  · simp [upd, e17, e27]
                  · exact rfl
                refine auto_op 117 [28, 17] (by kernel_rfl) (fun y w' HW hd K hK => ?_) ?_
                · have e17 := hd_nth (hd 17 (by simp)) rfl
                  have e28 := hd_nth (hd 28 (by simp)) rfl
                  have hcl : ∀ p : Addr, p.block < w6.heap.size → w'.cell? p = w6.cell? p := fun p hp => HW.cell hp
                  go_simp
                  refine hK _ _ ?_ ?_ HW
                  · simp [upd, e17, e28]
                  · exact rfl
                refine auto_op 118 [23, 29, 17] (by kernel_rfl) (fun y w' HW hd K hK => ?_) ?_
                · have e17 := hd_nth (hd 17 (by simp)) rfl
                  have e23 := hd_nth (hd 23 (by simp)) rfl
                  have e29 := hd_nth (hd 29 (by simp)) rfl
                  go_simp
                  refine hK _ _ ?_ ?_ HW
                  · simp [upd, e17, e23, e29]
                  · exact rfl
                refine auto_op 119 [17, 30, 8] (by kernel_rfl) (fun y w' HW hd K hK => ?_) ?_
                · have e8 := hd_nth (hd 8 (by simp)) rfl
                  have e17 := hd_nth (hd 17 (by simp)) rfl
                  have e30 := hd_nth (hd 30 (by simp)) rfl
                  go_simp
                  refine hK _ _ ?_ ?_ HW
                  · simp [upd, e8, e17, e30]
                  · exact rfl
                refine auto_op 120 [8, 31, 5] (by kernel_rfl) (fun y w' HW hd K hK => ?_) ?_
                · have e5 := hd_nth (hd 5 (by simp)) rfl
                  have e8 := hd_nth (hd 8 (by simp)) rfl
                  have e31 := hd_nth (hd 31 (by simp)) rfl
                  go_simp
                  refine hK _ _ ?_ ?_ HW
                  · simp [upd, e5, e8, e31]
                  · exact rfl
                refine auto_last fun y w' HW hd K hK => ?_
                have e0 := hd_nth (hd 0 (by omega)) rfl
                have e1 := hd_nth (hd 1 (by omega)) rfl
                have e2 := hd_nth (hd 2 (by omega)) rfl
                have e3 := hd_nth (hd 3 (by omega)) rfl
                have e4 := hd_nth (hd 4 (by omega)) rfl
                have e5 := hd_nth (hd 5 (by omega)) rfl
                have e6 := hd_nth (hd 6 (by omega)) rfl
                have e7 := hd_nth (hd 7 (by omega)) rfl
                have e8 := hd_nth (hd 8 (by omega)) rfl
                have e9 := hd_nth (hd 9 (by omega)) rfl
                have e10 := hd_nth (hd 10 (by omega)) rfl
                have e11 := hd_nth (hd 11 (by omega)) rfl
                have e12 := hd_nth (hd 12 (by omega)) rfl
                have e13 := hd_nth (hd 13 (by omega)) rfl
                have e14 := hd_nth (hd 14 (by omega)) rfl
                have e15 := hd_nth (hd 15 (by omega)) rfl
                have e16 := hd_nth (hd 16 (by omega)) rfl
                have e17 := hd_nth (hd 17 (by omega)) rfl
                have e18 := hd_nth (hd 18 (by omega)) rfl
                have e19 := hd_nth (hd 19 (by omega)) rfl
                have e20 := hd_nth (hd 20 (by omega)) rfl
                have e21 := hd_nth (hd 21 (by omega)) rfl
                have e22 := hd_nth (hd 22 (by omega)) rfl
                have e23 := hd_nth (hd 23 (by omega)) rfl
                have e24 := hd_nth (hd 24 (by omega)) rfl
                have e25 := hd_nth (hd 25 (by omega)) rfl
                have e26 := hd_nth (hd 26 (by omega)) rfl
                have e27 := hd_nth (hd 27 (by omega)) rfl
                have e28 := hd_nth (hd 28 (by omega)) rfl
                have e29 := hd_nth (hd 29 (by omega)) rfl
                have e30 := hd_nth (hd 30 (by omega)) rfl
                have e31 := hd_nth (hd 31 (by omega)) rfl
                have e32 := hd_nth (hd 32 (by omega)) rfl
                go_simp
                refine hK _ _ ?_
                clear hd hK K e0 e1 e2 e3 e4 e5 e6 e7 e8 e9 e10 e11 e12 e13 e14 e15 e16 e17 e18 e19 e20 e21 e22 e23 e24 e25 e26 e27 e28 e29 e30 e31 e32
                go_wp2
                go_roundw
                case rel => exact ⟨g + 1, by omega, by go_num, hb16.trans (HW.mono hb16.size)⟩
                case measure => simp [intOf]; omega
            · obtain ⟨x, rfl, hx, _, _⟩ := (HP.out.below (hbk2.mono hB)).at2 p hp2
              go_wp2_with fail
              refine (HPC3.out _ hbk2).mono ?_
              rintro e w6 ⟨rfl, hb6⟩
              have hbk6 := hbk2.trans (hb6.mono hbk2.size)
              have hb16 := hbi.trans (hb6.mono hbi.size)
              have m1 := (old_cells hb6 _ 1 sr2).trans k1
              have m3 := (old_cells hb6 _ 3 sr2).trans k3
              have sw : w.heap.size < w6.heap.size := by have := hb6.size; omega
              obtain ⟨x', hxx, hx2, c0, c1⟩ := (HP.out.below (hbk6.mono hB)).at2 p hp2
              obtain rfl : x = x' := by injection hxx
              obtain ⟨y', hyy, hy2, e0, _, _⟩ := (HG.out.below (hbk6.mono hB)).at3 g hlt
              obtain rfl : y = y' := by injection hyy
              clear hxx hyy
              rw [hp3] at c1
              rw [hp4] at c0
              obtain ⟨u, hu⟩ : ∃ u, u = G g 0 := ⟨_, rfl⟩
              rw [← hu] at c0 e0
              clear hu hp3 hp4
              have sx : (x.add (p * 2)).block < w6.heap.size := by have := hbk6.size; rw [block_of_add]; omega
              have sy : (y.add (g * 3)).block < w6.heap.size := by have := hbk6.size; rw [block_of_add]; omega
              have z1 : decide (pn ≤ p) = false := decide_eq_false (by omega)
              have z1i : decide ((pn : Int) ≤ (p : Int)) = false := decide_eq_false (by omega)
              have z2 : decide ((0 : Int) ≤ (p : Int)) = true := decide_eq_true (by omega)
              have p0 : (0 : Int) ≤ (p : Int) := by omega
              have p1 : (p : Int) < (pn : Int) := by omega
              clear k0 k1 k2 k3 k4 k5 k6 k7
              go_wp2
              apply wp_region_auto [88, 89, 90, 91, 92, 93, 94, 95, 96, 97, 98, 99, 100, 101, 102, 103, 104, 105, 106, 107, 108, 109, 110, 111, 112, 113, 114, 115, 116, 117, 118, 119, 120] [_, _, _, _, _, _, _, _, _, _, _, _, _, _, _, _, _, _, _, _, _, _, _, _, _, _, _, _, _, _, _, _, _] (fun W' => Below w6.heap.size w6 W')
              case hm => kernel_rfl
              case hT => intro y; simp only [setAll, List.setIfInBounds_toArray, List.set_cons_succ, List.set_cons_zero]; exact rfl
              case hok => kernel_rfl
              case hn => decide
              case hw => exact (Below.refl _ _).drew
              case hs =>
                refine auto_op 88 [] (by kernel_rfl) (fun y w' HW hd K hK => ?_) ?_
                · go_simp
                  refine hK _ _ ?_ ?_ HW
                  · simp [upd]
                  · exact rfl
                refine auto_op 89 [] (by kernel_rfl) (fun y w' HW hd K hK => ?_) ?_
                · go_simp
                  refine hK _ _ ?_ ?_ HW
                  · simp [upd]
                  · exact rfl
                refine auto_op 90 [1] (by kernel_rfl) (fun y w' HW hd K hK => ?_) ?_
                · have e1 := hd_nth (hd 1 (by simp)) rfl
                  have hcl : ∀ p : Addr, p.block < w6.heap.size → w'.cell? p = w6.cell? p := fun p hp => HW.cell hp
                  go_simp
                  refine hK _ _ ?_ ?_ HW
                  · simp [upd, e1]
                  · exact rfl
                refine auto_op 91 [2] (by kernel_rfl) (fun y w' HW hd K hK => ?_) ?_
                · have e2 := hd_nth (hd 2 (by simp)) rfl
                  go_simp
                  refine hK _ _ ?_ ?_ HW
                  · simp [upd, e2]
                  · exact rfl
                refine auto_op 92 [0, 3] (by kernel_rfl) (fun y w' HW hd K hK => ?_) ?_
                · have e0 := hd_nth (hd 0 (by simp)) rfl
                  have e3 := hd_nth (hd 3 (by simp)) rfl
                  go_simp
                  refine hK _ _ ?_ ?_ HW
                  · simp [upd, e0, e3]
                  · exact rfl
                refine auto_op 93 [4] (by kernel_rfl) (fun y w' HW hd K hK => ?_) ?_
                · have e4 := hd_nth (hd 4 (by simp)) rfl
                  go_simp
                  refine hK _ _ ?_ ?_ HW
                  · simp [upd, e4]
                  · exact rfl
                refine auto_op 94 [5] (by kernel_rfl) (fun y w' HW hd K hK => ?_) ?_
                · have e5 := hd_nth (hd 5 (by simp)) rfl
                  go_simp
                  refine hK _ _ ?_ ?_ HW
                  · simp [upd, e5]
                  · exact rfl
                refine auto_op 95 [6, 5] (by kernel_rfl) (fun y w' HW hd K hK => ?_) ?_
                · have e5 := hd_nth (hd 5 (by simp)) rfl
                  have e6 := hd_nth (hd 6 (by simp)) rfl
                  go_simp
                  refine hK _ _ ?_ ?_ HW
                  · simp [upd, e5, e6]
                  · exact rfl
                refine auto_op 96 [7, 5, 5] (by kernel_rfl) (fun y w' HW hd K hK => ?_) ?_
                · have e5 := hd_nth (hd 5 (by simp)) rfl
                  have e7 := hd_nth (hd 7 (by simp)) rfl
                  go_simp
                  refine hK _ _ ?_ ?_ HW
                  · simp [upd, e5, e7]
                  · exact rfl
                refine auto_op 97 [8] (by kernel_rfl) (fun y w' HW hd K hK => ?_) ?_
                · have e8 := hd_nth (hd 8 (by simp)) rfl
                  go_simp
                  refine hK _ _ ?_ ?_ HW
                  · simp [upd, e8]
                  · exact rfl
                refine auto_op 98 [9, 8] (by kernel_rfl) (fun y w' HW hd K hK => ?_) ?_
                · have e8 := hd_nth (hd 8 (by simp)) rfl
                  have e9 := hd_nth (hd 9 (by simp)) rfl
                  have hcl : ∀ p : Addr, p.block < w6.heap.size → w'.cell? p = w6.cell? p := fun p hp => HW.cell hp
                  go_simp
                  refine hK _ _ ?_ ?_ HW
                  · simp [upd, e8, e9]
                  · exact rfl
                refine auto_op 99 [8] (by kernel_rfl) (fun y w' HW hd K hK => ?_) ?_
                · have e8 := hd_nth (hd 8 (by simp)) rfl
                  go_simp
                  refine hK _ _ ?_ ?_ HW
                  · simp [upd, e8]
                  · exact rfl
                refine auto_op 100 [10, 11, 8] (by kernel_rfl) (fun y w' HW hd K hK => ?_) ?_
                · have e8 := hd_nth (hd 8 (by simp)) rfl
                  have e10 := hd_nth (hd 10 (by simp)) rfl
                  have e11 := hd_nth (hd 11 (by simp)) rfl
                  go_simp
                  refine hK _ _ ?_ ?_ HW
                  · simp [upd, e8, e10, e11]
                  · exact rfl
                refine auto_op 101 [12, 8] (by kernel_rfl) (fun y w' HW hd K hK => ?_) ?_
                · have e8 := hd_nth (hd 8 (by simp)) rfl
                  have e12 := hd_nth (hd 12 (by simp)) rfl
                  go_simp
                  refine hK _ _ ?_ ?_ HW
                  · simp [upd, e8, e12]
                  · exact rfl
                refine auto_op 102 [13, 8] (by kernel_rfl) (fun y w' HW hd K hK => ?_) ?_
                · have e8 := hd_nth (hd 8 (by simp)) rfl
                  have e13 := hd_nth (hd 13 (by simp)) rfl
                  have hcl : ∀ p : Addr, p.block < w6.heap.size → w'.cell? p = w6.cell? p := fun p hp => HW.cell hp
                  go_simp
                  refine hK _ _ ?_ ?_ HW
                  · simp [upd, e8, e13]
                  · exact rfl
                refine auto_op 103 [8] (by kernel_rfl) (fun y w' HW hd K hK => ?_) ?_
                · have e8 := hd_nth (hd 8 (by simp)) rfl
                  go_simp
                  refine hK _ _ ?_ ?_ HW
                  · simp [upd, e8]
                  · exact rfl
                refine auto_op 104 [14, 15, 8] (by kernel_rfl) (fun y w' HW hd K hK => ?_) ?_
                · have e8 := hd_nth (hd 8 (by simp)) rfl
                  have e14 := hd_nth (hd 14 (by simp)) rfl
                  have e15 := hd_nth (hd 15 (by simp)) rfl
                  go_simp
                  refine hK _ _ ?_ ?_ HW
                  · simp [upd, e8, e14, e15]
                  · exact rfl
                refine auto_op 105 [16, 8, 8] (by kernel_rfl) (fun y w' HW hd K hK => ?_) ?_
                · have e8 := hd_nth (hd 8 (by simp)) rfl
                  have e16 := hd_nth (hd 16 (by simp)) rfl
                  go_simp
                  refine hK _ _ ?_ ?_ HW
                  · simp [upd, e8, e16]
                  · exact rfl
                refine auto_op 106 [17] (by kernel_rfl) (fun y w' HW hd K hK => ?_) ?_
                · have e17 := hd_nth (hd 17 (by simp)) rfl
                  go_simp
                  refine hK _ _ ?_ ?_ HW
                  · simp [upd, e17]
                  · exact rfl
                refine auto_op 107 [18, 17] (by kernel_rfl) (fun y w' HW hd K hK => ?_) ?_
                · have e17 := hd_nth (hd 17 (by simp)) rfl
                  have e18 := hd_nth (hd 18 (by simp)) rfl
                  have hcl : ∀ p : Addr, p.block < w6.heap.size → w'.cell? p = w6.cell? p := fun p hp => HW.cell hp
                  go_simp
                  refine hK _ _ ?_ ?_ HW
                  · simp [upd, e17, e18]
                  · exact rfl
                refine auto_op 108 [17] (by kernel_rfl) (fun y w' HW hd K hK => ?_) ?_
                · have e17 := hd_nth (hd 17 (by simp)) rfl
                  go_simp
                  refine hK _ _ ?_ ?_ HW
                  · simp [upd, e17]
                  · exact rfl
                refine auto_op 109 [19, 20, 17] (by kernel_rfl) (fun y w' HW hd K hK => ?_) ?_
                · have e17 := hd_nth (hd 17 (by simp)) rfl
                  have e19 := hd_nth (hd 19 (by simp)) rfl
                  have e20 := hd_nth (hd 20 (by simp)) rfl
                  go_simp
                  refine hK _ _ ?_ ?_ HW
                  · simp [upd, e17, e19, e20]
                  · exact rfl
                refine auto_op 110 [21, 17] (by kernel_rfl) (fun y w' HW hd K hK => ?_) ?_
                · have e17 := hd_nth (hd 17 (by simp)) rfl
                  have e21 := hd_nth (hd 21 (by simp)) rfl
                  go_simp
                  refine hK _ _ ?_ ?_ HW
                  · simp [upd, e17, e21]
                  · exact rfl
                refine auto_op 111 [22, 17] (by kernel_rfl) (fun y w' HW hd K hK => ?_) ?_
                · have e17 := hd_nth (hd 17 (by simp)) rfl
                  have e22 := hd_nth (hd 22 (by simp)) rfl
                  have hcl : ∀ p : Addr, p.block < w6.heap.size → w'.cell? p = w6.cell? p := fun p hp => HW.cell hp
                  go_simp
                  refine hK _ _ ?_ ?_ HW
                  · simp [upd, e17, e22]
                  · exact rfl
                refine auto_op 112 [17] (by kernel_rfl) (fun y w' HW hd K hK => ?_) ?_
                · have e17 := hd_nth (hd 17 (by simp)) rfl
                  go_simp
                  refine hK _ _ ?_ ?_ HW
                  · simp [upd, e17]
                  · exact rfl
                refine auto_op 113 [24, 17] (by kernel_rfl) (fun y w' HW hd K hK => ?_) ?_
                · have e17 := hd_nth (hd 17 (by simp)) rfl
                  have e24 := hd_nth (hd 24 (by simp)) rfl
                  have hcl : ∀ p : Addr, p.block < w6.heap.size → w'.cell? p = w6.cell? p := fun p hp => HW.cell hp
                  go_simp
                  refine hK _ _ ?_ ?_ HW
                  · simp [upd, e17, e24]
                  · exact rfl
                refine auto_op 114 [17] (by kernel_rfl) (fun y w' HW hd K hK => ?_) ?_
                · have e17 := hd_nth (hd 17 (by simp)) rfl
                  go_simp
                  refine hK _ _ ?_ ?_ HW
                  · simp [upd, e17]
                  · exact rfl
                refine auto_op 115 [25, 26, 17] (by kernel_rfl) (fun y w' HW hd K hK => ?_) ?_
                · have e17 := hd_nth (hd 17 (by simp)) rfl
                  have e25 := hd_nth (hd 25 (by simp)) rfl
                  have e26 := hd_nth (hd 26 (by simp)) rfl
                  go_simp
                  refine hK _ _ ?_ ?_ HW
                  · simp [upd, e17, e25, e26]
                  · exact rfl
                refine auto_op 116 [27, 17] (by kernel_rfl) (fun y w' HW hd K hK => ?_) ?_
                · have e17 := hd_nth (hd 17 (by simp)) rfl
                  have e27 := hd_nth (hd 27 (by simp)) rfl
                  go_simp
                  refine hK _ _ ?_ ?_ HW
                  · simp [upd, e17, e27]
                  · exact rfl
                refine auto_op 117 [28, 17] (by kernel_rfl) (fun y w' HW hd K hK => ?_) ?_
                · have e17 := hd_nth (hd 17 (by simp)) rfl
                  have e28 := hd_nth (hd 28 (by simp)) rfl
                  have hcl : ∀ p : Addr, p.block < w6.heap.size → w'.cell? p = w6.cell? p := fun p hp => HW.cell hp
                  go_simp
                  refine hK _ _ ?_ ?_ HW
                  · simp [upd, e17, e28]
                  · exact rfl
                refine auto_op 118 [23, 29, 17] (by kernel_rfl) (fun y w' HW hd K hK => ?_) ?_
                · have e17 := hd_nth (hd 17 (by simp)) rfl
                  have e23 := hd_nth (hd 23 (by simp)) rfl
                  have e29 := hd_nth (hd 29 (by simp)) rfl
                  go_simp
                  refine hK _ _ ?_ ?_ HW
                  · simp [upd, e17, e23, e29]
                  · exact rfl
                refine auto_op 119 [17, 30, 8] (by kernel_rfl) (fun y w' HW hd K hK => ?_) ?_
                · have e8 := hd_nth (hd 8 (by simp)) rfl
                  have e17 := hd_nth (hd 17 (by simp)) rfl
                  have e30 := hd_nth (hd 30 (by simp)) rfl
                  go_simp
                  refine hK _ _ ?_ ?_ HW
                  · simp [upd, e8, e17, e30]
                  · exact rfl
                refine auto_op 120 [8, 31, 5] (by kernel_rfl) (fun y w' HW hd K hK => ?_) ?_
                · have e5 := hd_nth (hd 5 (by simp)) rfl
                  have e8 := hd_nth (hd 8 (by simp)) rfl
                  have e31 := hd_nth (hd 31 (by simp)) rfl
                  go_simp
                  refine hK _ _ ?_ ?_ HW
                  · simp [upd, e5, e8, e31]
                  · exact rfl
                refine auto_last fun y w' HW hd K hK => ?_
                have e0 := hd_nth (hd 0 (by omega)) rfl
                have e1 := hd_nth (hd 1 (by omega)) rfl
                have e2 := hd_nth (hd 2 (by omega)) rfl
                have e3 := hd_nth (hd 3 (by omega)) rfl
                have e4 := hd_nth (hd 4 (by omega)) rfl
                have e5 := hd_nth (hd 5 (by omega)) rfl
                have e6 := hd_nth (hd 6 (by omega)) rfl
                have e7 := hd_nth (hd 7 (by omega)) rfl
                have e8 := hd_nth (hd 8 (by omega)) rfl
                have e9 := hd_nth (hd 9 (by omega)) rfl
                have e10 := hd_nth (hd 10 (by omega)) rfl
                have e11 := hd_nth (hd 11 (by omega)) rfl
                have e12 := hd_nth (hd 12 (by omega)) rfl
                have e13 := hd_nth (hd 13 (by omega)) rfl
                have e14 := hd_nth (hd 14 (by omega)) rfl
                have e15 := hd_nth (hd 15 (by omega)) rfl
                have e16 := hd_nth (hd 16 (by omega)) rfl
                have e17 := hd_nth (hd 17 (by omega)) rfl
                have e18 := hd_nth (hd 18 (by omega)) rfl
                have e19 := hd_nth (hd 19 (by omega)) rfl
                have e20 := hd_nth (hd 20 (by omega)) rfl
                have e21 := hd_nth (hd 21 (by omega)) rfl
                have e22 := hd_nth (hd 22 (by omega)) rfl
                have e23 := hd_nth (hd 23 (by omega)) rfl
                have e24 := hd_nth (hd 24 (by omega)) rfl
                have e25 := hd_nth (hd 25 (by omega)) rfl
                have e26 := hd_nth (hd 26 (by omega)) rfl
                have e27 := hd_nth (hd 27 (by omega)) rfl
                have e28 := hd_nth (hd 28 (by omega)) rfl
                have e29 := hd_nth (hd 29 (by omega)) rfl
                have e30 := hd_nth (hd 30 (by omega)) rfl
                have e31 := hd_nth (hd 31 (by omega)) rfl
                have e32 := hd_nth (hd 32 (by omega)) rfl
                go_simp
                refine hK _ _ ?_
                clear hd hK K e0 e1 e2 e3 e4 e5 e6 e7 e8 e9 e10 e11 e12 e13 e14 e15 e16 e17 e18 e19 e20 e21 e22 e23 e24 e25 e26 e27 e28 e29 e30 e31 e32
                go_wp2
                go_roundw
                case rel => exact ⟨g + 1, by omega, by go_num, hb16.trans (HW.mono hb16.size)⟩
                case measure => simp [intOf]; omega
          · have hkn : g = gn := by omega
            subst hkn
            have b1 : ¬ (g : Int) < (g : Int) := by omega
            go_wp2_with fail
            refine (HAw.out _).mono ?_
            rintro e w7 ⟨rfl, hb7⟩
            go_wp2
            go_ret
            exact ⟨rfl, hbk2.trans (hb7.mono hbk2.size)⟩
  · have hne : (cka != 0) = true := by simpa using hck
    clear hrt hc
    go_enter Try.func6, Try.ntmps6
    go_wp2_with fail
    refine (HC1.out _ (HB0.out _)).mono ?_
    rintro e w1 ⟨rfl, hb⟩
    have hbw := (HB0.out _).trans (hb.mono (by simp))
    go_wp2_with fail
    refine (HAw.out _).mono ?_
    rintro e w2 ⟨rfl, hb2⟩
    go_wp2
    go_ret
    exact ⟨rfl, hbw.trans (hb2.mono hbw.size)⟩
end Go.Proofs.Ytmekoanobicddaa.Cf
namespace Go.Proofs.Ytmekoanobicddaa.configFlows
open Go.ChangeShapes Go.WideShapes Go.ChangeAt Go.RowKit
set_option linter.unusedVariables false

theorem own : ownKnob Try.prog.godebug = none := by kernel_rfl
theorem laidOut : laidOutB Try.prog = true := by kernel_rfl

set_option maxRecDepth 100000 in
theorem lifted (os : Os) (started : os.Started) (H : Type) (enc : TypeId × Value → H) :
    ReturnsInHanded {} Try.checked os 6 .any (Rows.configFlowsSpec.pre6 enc Try.prog Try.f6 Rows.configFlowsRow.domain false) (Rows.configFlowsSpec.post enc Try.prog Try.f6 false true false false) := by
  refine returnsInHanded_of_change_sized (C := Try.checked) own started (by kernel_rfl) Try.func6
    (ChangeSpec.witness6 (enc := enc) (C := Try.checked) false ⟨#[], #[.agg #[.int .i64 0, .slice none 0 0, .slice none 0 0, .slice none 0 0, .slice none 0 0, .slice none 0 0, .int .i64 0, .int .i64 0]], []⟩ 8 (by kernel_rfl) (by kernel_rfl) (by kernel_rfl) (by kernel_rfl)) ?_
  intro W base args ds gs before hval0 hW hcnd hsz0 _
  have hsz : (DataW.weightsEach Try.prog (Try.f6.params.toList ++ Rows.configFlowsSpec.plain.varTypes Try.prog) (ds ++ gs)).all (· ≤ reachBytes) = true := hsz0
  clear hsz0
  have hval : ∀ (j : Nat) t v, Try.f6.params[j]? = some t → args[j]? = some v → Value.okWide Try.prog W .any base t v := hval0
  have hW' := hW
  obtain ⟨p, q, hA0, hV, rfl, hfz, hnd⟩ := hW
  have hA : DataW.TrodAll enc Try.prog W 0 (fun _ => true) true Try.f6.params.toList args.toList ds p := hA0
  rw [Try.params6] at hA hval hsz
  obtain ⟨v0, vs0, d0, ds0, p0, q0, hargs, rfl, rfl, h0, r0⟩ := trodAll_cons hA
  obtain ⟨rfl, rfl, rfl⟩ := trodAll_nil r0
  obtain rfl : args = #[v0] := by cases args; simp_all
  obtain ⟨rfl, rfl⟩ := trodVars_none hV
  have k0 := h0
  have lt0 : ∀ x ∈ p0, x.block < W.heap.size := by obtain ⟨m, hm⟩ := k0; exact DataW.trod_lt m _ _ _ hm
  obtain ⟨c0, rfl, hc0⟩ := Cf.cfg_arg (hval 0 44 v0 rfl rfl) h0 hsz (j := 0) rfl rfl
  clear hA0 hval0
  refine (Cf.flows_law c0 _ W (Nat.le_refl _) hc0 : Calls Try.prog 6 _ W fun e w' => e = .returned (.bool true) ∧ Below W.heap.size W w').mono fun e W' ⟨he, bel⟩ => ?_
  subst he
  exact ⟨_, rfl, _, _, _, [], _, [], hW', trodAll_mk1 (shut_bool Try.underlying4 _), (trodAll_cons_mk (Below.trod laidOut (by kernel_rfl) (of_decide_eq_true (by kernel_rfl)) k0 bel lt0) trodAll_mk0), rfl, bel.frame _, fun h => by cases h⟩

theorem over : Rows.configFlowsRow.holds Try.pinned (OpenSpec.ofChange Rows.configFlowsSpec) :=
  OpenClaim.holds_of_wide 6 Try.f6 rfl rfl rfl rfl rfl rfl rfl ⟨rfl, rfl, rfl, rfl, rfl⟩ rfl rfl rfl rfl rfl (by kernel_rfl) Try.func6 (by kernel_rfl)
    (of_decide_eq_true (by kernel_rfl)) (by unfold Func.isWrapper; first | (rw [if_pos (by decide +kernel)]; kernel_rfl) | (rw [if_neg (by decide +kernel)]; exact ⟨rfl, rfl⟩))
    (fun os started H enc _ => lifted os started H enc)

theorem proved : Rows.ConfigFlowsSaid := over
#print axioms proved
end Go.Proofs.Ytmekoanobicddaa.configFlows
