/- Of a right configuration each frame belongs to one guest or one ring; of another one there are none. For any configuration, hermitagelaw04.ConfigApart returns true and leaves its lists as they were; it asks for no condition. -/
import Derived.Test.YtmekoanobicddaaVt
import Derived.Deep.Slices
import Derived.Deep.Fields
import Derived.ChangeSame
import Derived.SizedLaws
import Derived.Lib.SmallJoins
import Derived.Test.YtmekoanobicddaaCa
import Derived.Test.YtmekoanobicddaaCu
import Derived.Test.YtmekoanobicddaaRows
import Derived.WalkKit
import Derived.ProofKit
import Derived.OpenShut
import Derived.ShutString
import Derived.ChangeOld
import Derived.Below
namespace Go.Proofs.Ytmekoanobicddaa.Ut
open Go.ChangeShapes Go.WideShapes Go.Deep Go.RowKit

theorem cell_lt {w : World} {a : Addr} {v : Value} (h : w.cell? a = some v) : a.block < w.heap.size := by
  rcases Nat.lt_or_ge a.block w.heap.size with hl | hl
  · exact hl
  · simp [World.cell?, Array.getElem?_eq_none hl] at h

section
variable {H : Type} {enc : TypeId × Value → H} {P : Program} {w : World} {base : Nat} {held : Bool}

/-- the fields of a struct that came in by value -/
theorem open_fields {r : Reach} {b0 : Nat} {t : TypeId} {fs : Array Field} {v : Value} {d : DataW H} {p : List MemPlace} {spare : Nat → Bool} (hs : P.underlying t = some (.struct fs)) (hone : oneCellFields P fs = true) (hC : P.cellsOf t = fs.size)
    (hv : Value.okWide P w r b0 t v) (h : DataW.Trod enc P w base spare held t v d p) :
    ∃ (cs : List Value) (ys : List (DataW H × List MemPlace)) (n : Nat), v = .agg cs.toArray ∧ cs.length = fs.size ∧ d = .agg (ys.map (·.1)) ∧ ys.length = fs.size ∧
      ∀ (j : Nat) (f : Field), fs[j]? = some f → ∃ c y, cs[j]? = some c ∧ ys[j]? = some y ∧ DataW.trod enc P w base spare held n f.type [c] = some y := by
  obtain ⟨cs, rfl, hsz⟩ := okWide_struct hs hv
  obtain ⟨l⟩ := cs
  have hl : l.length = fs.size := by simpa using hsz.trans hC
  obtain ⟨fuel, hf⟩ := h
  obtain ⟨ys, n, _, hx, _, hlen, hg⟩ := DataW.trod_struct hs hf
  simp only [Prod.mk.injEq] at hx
  refine ⟨l, ys, n, rfl, hl, hx.1, hlen, fun j f hj => ?_⟩
  obtain ⟨o1, k1⟩ := hone_of hone j f hj
  have hjl : j < fs.size := (Array.getElem?_eq_some_iff.1 hj).1
  have h1 := hg j f hj
  simp only [Value.cells] at h1
  rw [o1, k1] at h1
  have hd1 : (l.drop j).take 1 = [l[j]'(by omega)] := by
    rw [List.drop_eq_getElem_cons (by omega)]
    rfl
  rw [hd1] at h1
  have hy : ys[j]? = some (ys[j]'(by omega)) := List.getElem?_eq_getElem (by omega)
  exact ⟨_, _, List.getElem?_eq_getElem (by omega), hy, h1.trans hy⟩

/-- a slice of structs of integers -/
theorem open_recs {t e : TypeId} {fs : Array Field} {fuel : Nat} {c : Value} {x : DataW H × List MemPlace} (ht : P.underlying t = some (.slice e)) (he : P.underlying e = some (.struct fs)) (hone : oneCellFields P fs = true) (hC : P.cellsOf e = fs.size)
    (hint : ∀ (j : Nat) (f : Field), fs[j]? = some f → P.underlying f.type = some (.int .i64)) (h0 : 0 < fs.size) (h : DataW.trod enc P w base (fun _ => true) held fuel t [c] = some x) :
    ∃ (a : Option Addr) (n cap : Nat) (Z : Nat → Nat → Int), c = .slice a n cap ∧ n ≤ cap ∧ ((cap = 0) ∨ ∃ el sp, x.1 = .slice el sp ∧ el.length + sp.length = cap) ∧
      ∀ i, i < n → ∃ y, a = some y ∧ y.block < w.heap.size ∧ ∀ j, j < fs.size → w.cell? (y.add (i * fs.size + j)) = some (.int .i64 (Z i j)) ∧ -9223372036854775808 ≤ Z i j ∧ Z i j < 9223372036854775808 := by
  rcases Go.Deep.open_slice ht h with ⟨hc, _⟩ | ⟨a, n, cap, m, q, D, Pl, hc, hb, hl, hm, hmm, hx, hi⟩
  · simp only [List.cons.injEq, and_true] at hc
    exact ⟨none, 0, 0, fun _ _ => 0, hc, Nat.le_refl _, .inl rfl, fun i hi => absurd hi (by omega)⟩
  · simp only [List.cons.injEq, and_true] at hc
    simp only [if_true] at hmm
    subst hmm
    have key : ∀ i j, ∃ z : Int, i < n → j < fs.size → w.cell? (a.add (i * fs.size + j)) = some (.int .i64 z) ∧ -9223372036854775808 ≤ z ∧ z < 9223372036854775808 := fun i j => by
      by_cases h1 : i < n ∧ j < fs.size
      · obtain ⟨cs', hcs, ht'⟩ := hi i (by omega)
        rw [hC] at hcs
        obtain ⟨ys, n', _, _, _, hyl, hf⟩ := DataW.trod_struct he ht'
        obtain ⟨_, hcl, hat⟩ := World.cells?_some hcs
        have hj : fs[j]? = some fs[j] := by simp [h1.2]
        obtain ⟨o1, k1⟩ := hone_of hone j _ hj
        have h2 := hf j _ hj
        rw [o1, k1] at h2
        have hd1 : (cs'.drop j).take 1 = [cs'[j]'(by omega)] := by
          rw [List.drop_eq_getElem_cons (by omega)]
          rfl
        rw [hd1] at h2
        have hy : ys[j]? = some (ys[j]'(by omega)) := List.getElem?_eq_getElem (by omega)
        rw [hy] at h2
        obtain ⟨z, hz, _, hw⟩ := DataW.trod_int (hint j _ hj) h2
        simp only [List.cons.injEq, and_true] at hz
        refine ⟨z, fun _ _ => ⟨?_, wf_i64 hw⟩⟩
        rw [← add_of_add, hat j h1.2, List.getElem?_eq_getElem (by omega), hz]
      · exact ⟨0, fun h2 h3 => absurd ⟨h2, h3⟩ h1⟩
    refine ⟨some a, n, m, fun i j => Classical.choose (key i j), hc, hl, .inr ⟨_, _, by rw [hx], by simp; omega⟩, fun i hin => ?_⟩
    refine ⟨a, rfl, ?_, fun j hj => Classical.choose_spec (key i j) hin hj⟩
    have h1 := Classical.choose_spec (key i 0) hin h0
    have h2 := cell_lt h1.1
    rwa [block_of_add] at h2

/-- what a slice in a field of a struct may take -/
theorem sized_field {ts : List TypeId} {ds : List (DataW H)} (h : (DataW.weightsEach P ts ds).all (· ≤ reachBytes) = true) {j : Nat} {t : TypeId} {fs : Array Field} {parts : List (DataW H)} (ht : ts[j]? = some t) (hd : ds[j]? = some (.agg parts))
    (hu : P.underlying t = some (.struct fs)) {i : Nat} {f : Field} {e : TypeId} {el sp : List (DataW H)} (hf : fs[i]? = some f) (hp : parts[i]? = some (.slice el sp)) (he : P.underlying f.type = some (.slice e)) : (el.length + sp.length) * P.bytesOf e ≤ reachBytes := by
  refine sized_slice (P := P) (ts := fs.toList.map (·.type)) (ds := parts) (j := i) (t := f.type) ?_ (by simp [hf]) hp he
  rw [List.all_eq_true]
  intro q hq
  refine List.all_eq_true.1 h q (DataW.weights_mem_each ht hd q ?_)
  simp only [DataW.weights, hu]
  exact hq
end
end Go.Proofs.Ytmekoanobicddaa.Ut
namespace Go.Proofs.Ytmekoanobicddaa.Cf
open Go.ChangeShapes Go.WideShapes Go.Deep Go.RowKit Ut
set_option linter.unusedVariables false

theorem ints3 {fs : Array Field} {f0 f1 f2 : Field} (h : fs = #[f0, f1, f2]) (h0 : f0.type = 3) (h1 : f1.type = 3) (h2 : f2.type = 3) : ∀ (j : Nat) (f : Field), fs[j]? = some f → Try.prog.underlying f.type = some (.int .i64) := fun j f hj => by
  subst h
  match j, hj with
  | 0, hj => simp at hj; subst hj; rw [h0]; exact Try.underlying3
  | 1, hj => simp at hj; subst hj; rw [h1]; exact Try.underlying3
  | 2, hj => simp at hj; subst hj; rw [h2]; exact Try.underlying3
  | j + 3, hj => simp at hj
theorem ints2 {fs : Array Field} {f0 f1 : Field} (h : fs = #[f0, f1]) (h0 : f0.type = 3) (h1 : f1.type = 3) : ∀ (j : Nat) (f : Field), fs[j]? = some f → Try.prog.underlying f.type = some (.int .i64) := fun j f hj => by
  subst h
  match j, hj with
  | 0, hj => simp at hj; subst hj; rw [h0]; exact Try.underlying3
  | 1, hj => simp at hj; subst hj; rw [h1]; exact Try.underlying3
  | j + 2, hj => simp at hj

section
variable {H : Type} {enc : TypeId × Value → H} {W : World}
set_option maxRecDepth 100000 in
theorem cfg_arg {b0 : Nat} {v : Value} {d : DataW H} {p : List MemPlace} {ts : List TypeId} {ds : List (DataW H)} {j : Nat} (hv : Value.okWide Try.prog W .any b0 44 v) (h : DataW.Trod enc Try.prog W 0 (fun _ => true) true 44 v d p)
    (hsz : (DataW.weightsEach Try.prog ts ds).all (· ≤ reachBytes) = true) (ht : ts[j]? = some 44) (hd : ds[j]? = some d) : ∃ c : Cfg, v = c.v ∧ c.At W W.heap.size := by
  obtain ⟨cs, ys, n, rfl, hl, rfl, hyl, hf⟩ := open_fields Try.underlying44 (by kernel_rfl) (by kernel_rfl) hv h
  obtain ⟨c0, y0, e0, g0, t0⟩ := hf 0 _ rfl
  obtain ⟨c1, y1, e1, g1, t1⟩ := hf 1 _ rfl
  obtain ⟨c2, y2, e2, g2, t2⟩ := hf 2 _ rfl
  obtain ⟨c3, y3, e3, g3, t3⟩ := hf 3 _ rfl
  obtain ⟨c4, y4, e4, g4, t4⟩ := hf 4 _ rfl
  obtain ⟨c5, y5, e5, g5, t5⟩ := hf 5 _ rfl
  obtain ⟨c6, y6, e6, g6, t6⟩ := hf 6 _ rfl
  obtain ⟨c7, y7, e7, g7, t7⟩ := hf 7 _ rfl
  match cs, hl, e0, e1, e2, e3, e4, e5, e6, e7 with
  | [x0, x1, x2, x3, x4, x5, x6, x7], _, e0, e1, e2, e3, e4, e5, e6, e7 =>
    simp only [List.getElem?_cons_zero, List.getElem?_cons_succ, Option.some.injEq] at e0 e1 e2 e3 e4 e5 e6 e7
    subst e0 e1 e2 e3 e4 e5 e6 e7
    obtain ⟨cats, q0, _, w0⟩ := DataW.trod_int Try.underlying3 t0
    obtain ⟨gate, q6, _, w6⟩ := DataW.trod_int Try.underlying3 t6
    obtain ⟨quota, q7, _, w7⟩ := DataW.trod_int Try.underlying3 t7
    simp only [List.cons.injEq, and_true] at q0 q6 q7
    subst q0 q6 q7
    obtain ⟨ga, gn, gc, G, rfl, l1, s1, r1⟩ := open_recs Try.underlying38 Try.underlying57 (by kernel_rfl) (by kernel_rfl) (ints3 rfl rfl rfl rfl) (by decide) t1
    obtain ⟨ra, rn, rc, R, rfl, l2, s2, r2⟩ := open_recs Try.underlying39 Try.underlying90 (by kernel_rfl) (by kernel_rfl) (ints3 rfl rfl rfl rfl) (by decide) t2
    obtain ⟨pa, pn, pc, P, rfl, l3, s3, r3⟩ := open_recs Try.underlying40 Try.underlying62 (by kernel_rfl) (by kernel_rfl) (ints2 rfl rfl rfl) (by decide) t3
    obtain ⟨na, nn, nc, N, rfl, l4, s4, r4⟩ := open_recs Try.underlying41 Try.underlying59 (by kernel_rfl) (by kernel_rfl) (ints2 rfl rfl rfl) (by decide) t4
    obtain ⟨sa, sn, sc, S, rfl, l5, s5, r5⟩ := open_recs Try.underlying42 Try.underlying64 (by kernel_rfl) (by kernel_rfl) (ints2 rfl rfl rfl) (by decide) t5
    have big : ∀ {fs : Array Field} {i : Nat} {f : Field} {e : TypeId} {y : DataW H × List MemPlace} {cap b : Nat}, ys[i]? = some y → (cap = 0 ∨ ∃ el sp, y.1 = .slice el sp ∧ el.length + sp.length = cap) → fs[i]? = some f → Try.prog.underlying f.type = some (.slice e) → Try.prog.bytesOf e = b → 1 ≤ b → Try.prog.underlying 44 = some (.struct fs) → cap ≤ 140737488355328 := by
      intro fs i f e y cap b hy hc hfi hu hb hb1 hst
      rcases hc with rfl | ⟨el, sp, hy1, rfl⟩
      · omega
      · have h1 := sized_field hsz ht hd hst hfi (i := i) (el := el) (sp := sp) (by simp [hy, hy1]) hu
        rw [hb] at h1
        unfold reachBytes at h1
        have h2 : (el.length + sp.length) * 1 ≤ (el.length + sp.length) * b := Nat.mul_le_mul_left _ hb1
        omega
    refine ⟨⟨cats, ga, gn, gc, ra, rn, rc, pa, pn, pc, na, nn, nc, sa, sn, sc, gate, quota, G, R, P, N, S⟩, rfl, r1, r2, r3, r4, r5, ⟨l1, ?_⟩, ⟨l2, ?_⟩, ⟨l3, ?_⟩, ⟨l4, ?_⟩, ⟨l5, ?_⟩, wf_i64 w0, wf_i64 w6, wf_i64 w7⟩
    · exact big (b := 24) g1 s1 rfl Try.underlying38 (by kernel_rfl) (by omega) Try.underlying44
    · exact big (b := 24) g2 s2 rfl Try.underlying39 (by kernel_rfl) (by omega) Try.underlying44
    · exact big (b := 16) g3 s3 rfl Try.underlying40 (by kernel_rfl) (by omega) Try.underlying44
    · exact big (b := 16) g4 s4 rfl Try.underlying41 (by kernel_rfl) (by omega) Try.underlying44
    · exact big (b := 16) g5 s5 rfl Try.underlying42 (by kernel_rfl) (by omega) Try.underlying44
end
end Go.Proofs.Ytmekoanobicddaa.Cf
namespace Go.Proofs.Ytmekoanobicddaa.Cf
open Go.RowKit Ut
set_option linter.unusedVariables false

theorem old_frozen {W V : World} (h : Below W.heap.size W V) (b o : Nat) (hb : b < W.heap.size) : V.frozen? ⟨b, o, none⟩ = W.frozen? ⟨b, o, none⟩ := h.frozen (p := ⟨b, o, none⟩) hb
/-- the result's own two cells -/
def Res2 (W : World) (b : Nat) : Prop := W.heap[b]? = some (.cells #[.int .i64 0, .int .i64 0] 52 (0, 0))
theorem Res2.lt {W : World} {b : Nat} (h : Res2 W b) : b < W.heap.size := (Array.getElem?_eq_some_iff.1 h).1
theorem Res2.below {W V : World} {b : Nat} (h : Res2 W b) (hb : Below W.heap.size W V) : Res2 V b := (hb.block _ h.lt).trans h
theorem Res2.cells {W : World} {b : Nat} (h : Res2 W b) : W.cell? ⟨b, 0, none⟩ = some (.int .i64 0) ∧ W.cell? ⟨b, 1, none⟩ = some (.int .i64 0) ∧ W.frozen? ⟨b, 0, none⟩ = false ∧ W.frozen? ⟨b, 1, none⟩ = false := by
  unfold Res2 at h
  refine ⟨?_, ?_, ?_, ?_⟩ <;> simp [World.cell?, World.frozen?, h]

set_option maxRecDepth 100000 in
set_option maxHeartbeats 4000000 in
theorem Owner_any (c : Cfg) (f : Int) (B : Nat) (w : World) (hB : B ≤ w.heap.size) (hc : c.At w B) :
    Calls Try.prog 25 #[c.v, .int .i64 f] w fun e w' => e = .returned (ownV (ownZ c f)) ∧ Below w.heap.size w w' := by
  have HB0 : Hid (∀ o o' : Obj, Below w.heap.size w ((w.alloc o).alloc o')) := Lib.hid fun o o' => ((Below.refl _ _).alloc (Nat.le_refl _) _).alloc (by simp) _
  have HSet : Hid (∀ (W : World) (o : Nat) (v : Value), Below w.heap.size w W → Below w.heap.size w (W.setCell ⟨w.heap.size + 1, o, none⟩ v)) := Lib.hid fun W o v h => h.setCell (p := ⟨w.heap.size + 1, o, none⟩) (by simp) _
  cases hr : rightB c
  · have HR := isRight_keep c B w hB hc _ hr
    rw [ownZ_not (.inl hr)]
    clear hr hc
    go_enter Try.func25, Try.ntmps25
    go_wp2_with fail
    refine (HR.out _ (HB0.out _ _)).mono ?_
    rintro e w1 ⟨rfl, hb⟩
    have hq := old_cells hb
    have hf := old_frozen hb
    have hz : w.heap.size + 1 < w1.heap.size := by have := hb.size; simp at this; omega
    have hbw : Below w.heap.size w w1 := (HB0.out _ _).trans (hb.mono (by simp; omega))
    go_wp2
    exact bodyPost_ret (v := ownV (0, 0)) (by simp [results, Try.results25, go_sem, hq]) rfl ⟨rfl, HSet.out _ _ _ (HSet.out _ _ _ hbw)⟩
  · have HR := isRight_keep c B w hB hc _ hr
    obtain ⟨hn4, _, hs⟩ := right_small hr
    have hnn := right_rings hr
    have hbd := sumG_bd hs c.gn (Nat.le_refl _)
    have HS := Lib.hid hs
    have HN : Hid (need c = sumG c.G c.gn + c.nn) := Lib.hid rfl
    have HF : Hid (∀ W, Below w.heap.size w W → Calls Try.prog 54 #[c.v] W fun e w' => e = .returned (.int .i64 (need c)) ∧ Below W.heap.size W w') := Lib.hid fun W hW => frames_any c B W (by have := hW.size; omega) (hc.below (hW.mono hB)) hn4 hs
    by_cases h0 : f < 0
    · rw [ownZ_not (.inr (.inl h0))]
      clear hr hc hs HF
      go_enter Try.func25, Try.ntmps25
      go_wp2_with fail
      refine (HR.out _ (HB0.out _ _)).mono ?_
      rintro e w1 ⟨rfl, hb⟩
      have hq := old_cells hb
      have hf := old_frozen hb
      have hz : w.heap.size + 1 < w1.heap.size := by have := hb.size; simp at this; omega
      have hbw : Below w.heap.size w w1 := (HB0.out _ _).trans (hb.mono (by simp; omega))
      go_wp2
      exact bodyPost_ret (v := ownV (0, 0)) (by simp [results, Try.results25, go_sem, hq]) rfl ⟨rfl, HSet.out _ _ _ (HSet.out _ _ _ hbw)⟩
    · obtain ⟨nd, hnd⟩ : ∃ nd, nd = need c := ⟨_, rfl⟩
      have HNd := Lib.hid hnd
      rw [← hnd] at HF HN
      clear hnd
      by_cases h1 : nd ≤ f
      · rw [ownZ_not (.inr (.inr (by rw [← HNd.out]; exact h1)))]
        clear hr hc hs
        have h1b : decide (nd ≤ f) = true := decide_eq_true h1
        go_enter Try.func25, Try.ntmps25
        go_wp2_with fail
        refine (HR.out _ (HB0.out _ _)).mono ?_
        rintro e w1 ⟨rfl, hb⟩
        have hq := old_cells hb
        have hz : w.heap.size + 1 < w1.heap.size := by have := hb.size; simp at this; omega
        have hz0 : w.heap.size < w1.heap.size := by omega
        have hbw : Below w.heap.size w w1 := (HB0.out _ _).trans (hb.mono (by simp; omega))
        have HRs : Hid (Res2 w1 (w.heap.size + 1)) := Lib.hid ((hb.block _ (by simp)).trans (by simpa using heap_alloc_new (w.alloc (.cells c.cs 44)) (.cells #[.int .i64 0, .int .i64 0] 52)))
        go_wp2_with fail
        refine (HF.out _ hbw).mono ?_
        rintro e w2 ⟨rfl, hb2⟩
        clear hq hb
        obtain ⟨r0, r1, r2, r3⟩ := (HRs.out.below hb2).cells
        have hbw2 := hbw.trans (hb2.mono (by omega))
        go_wp2
        exact bodyPost_ret (v := ownV (0, 0)) (by simp [results, Try.results25, go_sem, r0, r1]) rfl ⟨rfl, HSet.out _ _ _ (HSet.out _ _ _ hbw2)⟩
      · have HG : Hid (RowT 3 w B c.ga c.gn c.G) := Lib.hid hc.g
        have HOg : Hid (∀ k, k < c.gn → f < sumG c.G (k + 1) → (∀ j, j < k → sumG c.G (j + 1) ≤ f) → ownZ c f = (1, (k : Int))) := Lib.hid fun k hk h2 h3 => ownZ_guest hr (by omega) (by rw [← HNd.out]; omega) hk h2 h3
        have HOr : Hid ((∀ j, j < c.gn → sumG c.G (j + 1) ≤ f) → ownZ c f = (2, f - sumG c.G c.gn)) := Lib.hid fun h3 => ownZ_ring hr (by omega) (by rw [← HNd.out]; omega) h3
        obtain ⟨ow, how⟩ : ∃ ow, ow = ownZ c f := ⟨_, rfl⟩
        rw [← how] at HOg HOr ⊢
        have hlg := hc.lg
        clear hr hc how hs HNd
        have hfb : f < 40 := by have := HN.out; omega
        clear hbd
        obtain ⟨cats, ga, gn, gc, ra, rn, rc, pa, pn, pc, na, nn, nc, sa, sn, sc, gate, quota, G, R, P, N, S⟩ := c
        dsimp only at HG HOg HOr HF HN HR HS hn4 hnn hlg
        go_enter Try.func25, Try.ntmps25
        go_wp2_with fail
        refine (HR.out _ (HB0.out _ _)).mono ?_
        rintro e w1 ⟨rfl, hb⟩
        have hq := old_cells hb
        have hz : w.heap.size + 1 < w1.heap.size := by have := hb.size; simp at this; omega
        have hz0 : w.heap.size < w1.heap.size := by omega
        have hbw : Below w.heap.size w w1 := (HB0.out _ _).trans (hb.mono (by simp; omega))
        have HRs : Hid (Res2 w1 (w.heap.size + 1)) := Lib.hid ((hb.block _ (by simp)).trans (by simpa using heap_alloc_new (w.alloc (.cells #[.int .i64 cats, .slice ga gn gc, .slice ra rn rc, .slice pa pn pc, .slice na nn nc, .slice sa sn sc, .int .i64 gate, .int .i64 quota] 44)) (.cells #[.int .i64 0, .int .i64 0] 52)))
        have HK1 : Hid (w1.cell? ⟨w.heap.size, 1, none⟩ = some (.slice ga gn gc)) := Lib.hid (by rw [hq _ 1 (by simp; omega)]; simp)
        go_wp2_with fail
        refine (HF.out _ hbw).mono ?_
        rintro e w2 ⟨rfl, hb2⟩
        clear hq hb
        have HRs2 := Lib.hid (HRs.out.below hb2)
        have k1 := (old_cells hb2 _ 1 hz0).trans HK1.out
        have hbw2 := hbw.trans (hb2.mono (by omega))
        have hz2 : w.heap.size < w2.heap.size := by have := hb2.size; omega
        clear hb2 HK1 HRs
        go_wp2
        clear k1
        go_loopw [1, 24] (fun v i wr => ∃ k : Nat, k ≤ gn ∧ v = .int .i64 (f - sumG G k) ∧ i = .int .i64 k ∧ Hid (∀ j, j < k → sumG G (j + 1) ≤ f) ∧ Hid (sumG G k ≤ f) ∧ Below w.heap.size w wr ∧ Hid (Res2 wr (w.heap.size + 1))) (fun _ i _ => gn - (intOf i).toNat)
        case atStart => exact ⟨0, Nat.zero_le _, by simp [sumG], rfl, fun j hj => absurd hj (by omega), Lib.hid (by simp [sumG]; omega), hbw2, HRs2⟩
        case round =>
          obtain ⟨k, hk, rfl, rfl, hno, hle, hb, HRw⟩ := hrel
          obtain ⟨r0, r1, r2, r3⟩ := HRw.out.cells
          by_cases hlt : k < gn
          · obtain ⟨x, rfl, hx, c0, c1, c2⟩ := (HG.out.below (hb.mono hB)).at3 k hlt
            have hbl := (HG.out.bd k 0 hlt (by omega))
            have hsb := sumG_bd HS.out k hk
            have hst := HS.out k hlt
            have hsn : Hid (sumG G (k + 1) = sumG G k + (G k 1 + G k 2)) := Lib.hid rfl
            have hle2 := hle.out
            have b0 : (0 : Int) ≤ (k : Int) := by omega
            have b1 : (k : Int) < (gn : Int) := by omega
            obtain ⟨s, hs⟩ : ∃ s, s = sumG G k := ⟨_, rfl⟩
            obtain ⟨l, hl⟩ : ∃ l, l = G k 0 := ⟨_, rfl⟩
            obtain ⟨p, hp⟩ : ∃ p, p = G k 1 := ⟨_, rfl⟩
            obtain ⟨q, hq⟩ : ∃ q, q = G k 2 := ⟨_, rfl⟩
            rw [← hs, ← hp, ← hq] at hsn
            rw [← hs] at hsb hle2 ⊢
            rw [← hp, ← hq] at hst
            rw [← hl] at c0 hbl
            rw [← hp] at c1
            rw [← hq] at c2
            clear hs hl hp hq
            have HOne : Hid (∀ (b : Nat) (W : World), W.heap[b]? = some (.cells #[.int .i64 l, .int .i64 p, .int .i64 q] 57 (0, 0)) → Calls Try.prog 56 #[.slice (some ⟨b, 0, none⟩) 1 1] W fun e w' => e = .returned (.int .i64 (p + q)) ∧ Below W.heap.size W w') :=
              Lib.hid fun b W h => oneGuest_any l p q b W (Array.getElem?_eq_some_iff.1 h).1 h hst hbl
            obtain ⟨t1, t2, t3⟩ := two_new wr (.cells #[.int .i64 l, .int .i64 p, .int .i64 q] 57) (.cells #[.int .i64 l, .int .i64 p, .int .i64 q] 57)
            have T1 := Lib.hid t1
            have T2 := Lib.hid t2
            have T3 := Lib.hid t3
            clear t1 t2 t3
            by_cases hf : f < s + (p + q)
            · have HE : Hid (ow = (1, (k : Int))) := Lib.hid (HOg.out k hlt (by rw [hsn.out]; exact hf) hno.out)
              have hfd : f - s < p + q := by omega
              have hfd2 : decide (f - s < p + q) = true := decide_eq_true hfd
              go_wp2_with fail
              refine (HOne.out _ _ T1.out).mono ?_
              rintro e w3 ⟨rfl, hb3⟩
              have hb30 := T3.out.trans (hb3.mono T3.out.size)
              have hb31 : Below w.heap.size w w3 := hb.trans (hb30.mono hb.size)
              have HRw3 := Lib.hid (HRw.out.below hb30)
              clear r0 r1 r2 r3
              obtain ⟨r0, r1, r2, r3⟩ := HRw3.out.cells
              go_wp2
              exact bodyPost_ret (v := ownV (1, (k : Int))) (by simp [results, Try.results25, go_sem, r0, r1]) rfl ⟨by rw [HE.out], HSet.out _ _ _ (HSet.out _ _ _ hb31)⟩
            · have hfd : ¬ f - s < p + q := by omega
              have hfd2 : decide (f - s < p + q) = false := decide_eq_false hfd
              have HN1 : Hid (∀ j, j < k + 1 → sumG G (j + 1) ≤ f) := Lib.hid fun j hj => by
                by_cases e : j = k
                · rw [e, hsn.out]; omega
                · exact hno.out j (by omega)
              go_wp2_with fail
              refine (HOne.out _ _ T1.out).mono ?_
              rintro e w3 ⟨rfl, hb3⟩
              have hb30 := T3.out.trans (hb3.mono T3.out.size)
              have hb31 : Below w.heap.size w w3 := hb.trans (hb30.mono hb.size)
              have HRw3 := Lib.hid (HRw.out.below hb30)
              have HG3 : Hid (w3.heap[wr.heap.size]? = some (.cells #[.int .i64 l, .int .i64 p, .int .i64 q] 57 (0, 0))) := Lib.hid ((hb3.block _ (by simp; omega)).trans T2.out)
              clear r0 r1 r2 r3 c0 c1 c2
              obtain ⟨g0, g1, g2⟩ := cells3 HG3.out
              obtain ⟨rb, hrb⟩ : ∃ rb, rb = wr.heap.size := ⟨_, rfl⟩
              rw [← hrb] at HG3 g0 g1 g2 ⊢
              clear hrb
              obtain ⟨u1, _, u3⟩ := two_new w3 (.cells #[.int .i64 l, .int .i64 p, .int .i64 q] 57) (.cells #[.int .i64 l, .int .i64 p, .int .i64 q] 57)
              have U := Lib.hid (heap_alloc_new w3 (.cells #[.int .i64 l, .int .i64 p, .int .i64 q] 57))
              have U3 : Hid (Below w3.heap.size w3 (w3.alloc (.cells #[.int .i64 l, .int .i64 p, .int .i64 q] 57))) := Lib.hid ((Below.refl _ _).alloc (Nat.le_refl _) _)
              clear u1 u3
              go_wp2_with fail
              refine (HOne.out _ _ U.out).mono ?_
              rintro e w4 ⟨rfl, hb4⟩
              have hb40 := U3.out.trans (hb4.mono U3.out.size)
              go_wp2
              go_roundw
              case rel => exact ⟨k + 1, by omega, by rw [hsn.out]; congr 1; omega, by go_num, HN1, Lib.hid (by rw [hsn.out]; omega), hb31.trans (hb40.mono hb31.size), Lib.hid (HRw3.out.below hb40)⟩
              case measure => simp [intOf]; omega
          · have hkn : k = gn := by omega
            subst hkn
            have b1 : ¬ (k : Int) < (k : Int) := by omega
            have HE : Hid (ow = (2, f - sumG G k)) := Lib.hid (HOr.out hno.out)
            go_wp2
            exact bodyPost_ret (v := ownV (2, f - sumG G k)) (by simp [results, Try.results25, go_sem, r0, r1]) rfl ⟨by rw [HE.out], HSet.out _ _ _ (HSet.out _ _ _ hb)⟩
end Go.Proofs.Ytmekoanobicddaa.Cf
namespace Go.Proofs.Ytmekoanobicddaa.Cf
open Go.RowKit Ut
set_option linter.unusedVariables false

set_option maxRecDepth 100000 in
set_option maxHeartbeats 4000000 in
theorem refOwner_any (c : Cfg) (f : Int) (B : Nat) (w : World) (hB : B ≤ w.heap.size) (hc : c.At w B) (hf63 : f < 9223372036854775808) :
    Calls Try.prog 26 #[c.v, .int .i64 f] w fun e w' => e = .returned (ownV (ownZ c f)) ∧ Below w.heap.size w w' := by
  have HB0 : Hid (∀ o o' : Obj, Below w.heap.size w ((w.alloc o).alloc o')) := Lib.hid fun o o' => ((Below.refl _ _).alloc (Nat.le_refl _) _).alloc (by simp) _
  have HSet : Hid (∀ (W : World) (o : Nat) (v : Value), Below w.heap.size w W → Below w.heap.size w (W.setCell ⟨w.heap.size + 1, o, none⟩ v)) := Lib.hid fun W o v h => h.setCell (p := ⟨w.heap.size + 1, o, none⟩) (by simp) _
  cases hr : rightB c
  · have HR := refRight_keep c B w hB hc _ hr
    rw [ownZ_not (.inl hr)]
    clear hr hc
    go_enter Try.func26, Try.ntmps26
    go_wp2_with fail
    refine (HR.out _ (HB0.out _ _)).mono ?_
    rintro e w1 ⟨rfl, hb⟩
    have hq := old_cells hb
    have hf := old_frozen hb
    have hz : w.heap.size + 1 < w1.heap.size := by have := hb.size; simp at this; omega
    have hbw : Below w.heap.size w w1 := (HB0.out _ _).trans (hb.mono (by simp; omega))
    go_wp2
    exact bodyPost_ret (v := ownV (0, 0)) (by simp [results, Try.results26, go_sem, hq]) rfl ⟨rfl, HSet.out _ _ _ (HSet.out _ _ _ hbw)⟩
  · have HR := refRight_keep c B w hB hc _ hr
    obtain ⟨hn4, _, hs⟩ := right_small hr
    have hnn := right_rings hr
    have hbd := sumG_bd hs c.gn (Nat.le_refl _)
    have HS := Lib.hid hs
    have HN : Hid (need c = sumG c.G c.gn + c.nn) := Lib.hid rfl
    by_cases h0 : f < 0
    · rw [ownZ_not (.inr (.inl h0))]
      clear hr hc hs
      go_enter Try.func26, Try.ntmps26
      go_wp2_with fail
      refine (HR.out _ (HB0.out _ _)).mono ?_
      rintro e w1 ⟨rfl, hb⟩
      have hq := old_cells hb
      have hf := old_frozen hb
      have hz : w.heap.size + 1 < w1.heap.size := by have := hb.size; simp at this; omega
      have hbw : Below w.heap.size w w1 := (HB0.out _ _).trans (hb.mono (by simp; omega))
      go_wp2
      exact bodyPost_ret (v := ownV (0, 0)) (by simp [results, Try.results26, go_sem, hq]) rfl ⟨rfl, HSet.out _ _ _ (HSet.out _ _ _ hbw)⟩
    · have HG : Hid (RowT 3 w B c.ga c.gn c.G) := Lib.hid hc.g
      have HOg : Hid (∀ k, k < c.gn → f < sumG c.G (k + 1) → (∀ j, j < k → sumG c.G (j + 1) ≤ f) → ownZ c f = (1, (k : Int))) := Lib.hid fun k hk h2 h3 => ownZ_guest hr (by omega) (by
        have h4 : ∀ m, k + 1 ≤ m → m ≤ c.gn → sumG c.G (k + 1) ≤ sumG c.G m := fun m h5 => by
          induction m with
          | zero => omega
          | succ m ih =>
            intro h6
            by_cases e : k = m
            · rw [e]; exact Int.le_refl _
            · have h7 := ih (by omega) (by omega)
              have h8 := hs m (by omega)
              have h9 : sumG c.G (m + 1) = sumG c.G m + (c.G m 1 + c.G m 2) := rfl
              omega
        have h5 := h4 c.gn (by omega) (Nat.le_refl _)
        have h6 := HN.out
        omega) hk h2 h3
      have HOr : Hid ((∀ j, j < c.gn → sumG c.G (j + 1) ≤ f) → (f - sumG c.G c.gn < c.nn ∧ ownZ c f = (2, f - sumG c.G c.gn)) ∨ ((c.nn : Int) ≤ f - sumG c.G c.gn ∧ ownZ c f = (0, 0))) := Lib.hid fun h3 => by
        by_cases h4 : f < need c
        · exact .inl ⟨by have := HN.out; omega, ownZ_ring hr (by omega) h4 h3⟩
        · exact .inr ⟨by have := HN.out; omega, ownZ_not (.inr (.inr (by omega)))⟩
      obtain ⟨ow, how⟩ : ∃ ow, ow = ownZ c f := ⟨_, rfl⟩
      rw [← how] at HOg HOr ⊢
      have hlg := hc.lg
      have HBd : Hid (0 ≤ sumG c.G c.gn ∧ sumG c.G c.gn ≤ 32) := Lib.hid (by omega)
      clear hr hc how hs hbd HN
      obtain ⟨cats, ga, gn, gc, ra, rn, rc, pa, pn, pc, na, nn, nc, sa, sn, sc, gate, quota, G, R, P, N, S⟩ := c
      dsimp only at HG HOg HOr HR HS hn4 hnn hlg HBd
      go_enter Try.func26, Try.ntmps26
      go_wp2_with fail
      refine (HR.out _ (HB0.out _ _)).mono ?_
      rintro e w1 ⟨rfl, hb⟩
      have hq := old_cells hb
      have hz : w.heap.size + 1 < w1.heap.size := by have := hb.size; simp at this; omega
      have hz0 : w.heap.size < w1.heap.size := by omega
      have hbw : Below w.heap.size w w1 := (HB0.out _ _).trans (hb.mono (by simp; omega))
      have HRs : Hid (Res2 w1 (w.heap.size + 1)) := Lib.hid ((hb.block _ (by simp)).trans (by simpa using heap_alloc_new (w.alloc (.cells #[.int .i64 cats, .slice ga gn gc, .slice ra rn rc, .slice pa pn pc, .slice na nn nc, .slice sa sn sc, .int .i64 gate, .int .i64 quota] 44)) (.cells #[.int .i64 0, .int .i64 0] 52)))
      have HK1 : Hid (w1.cell? ⟨w.heap.size, 1, none⟩ = some (.slice ga gn gc)) := Lib.hid (by rw [hq _ 1 (by simp; omega)]; simp)
      have HK4 : Hid (w1.cell? ⟨w.heap.size, 4, none⟩ = some (.slice na nn nc)) := Lib.hid (by rw [hq _ 4 (by simp; omega)]; simp)
      clear hb hq
      go_wp2
      go_loopw [5, 6] (fun v i wr => ∃ k : Nat, k ≤ gn ∧ v = .int .i64 (sumG G k) ∧ i = .int .i64 k ∧ Hid (∀ j, j < k → sumG G (j + 1) ≤ f) ∧ Below w1.heap.size w1 wr) (fun _ i _ => gn - (intOf i).toNat)
      case atStart => exact ⟨0, Nat.zero_le _, by simp [sumG], rfl, fun j hj => absurd hj (by omega), Below.refl _ _⟩
      case round =>
        obtain ⟨k, hk, rfl, rfl, hno, hb⟩ := hrel
        obtain ⟨r0, r1, r2, r3⟩ := (HRs.out.below hb).cells
        have k1 := (old_cells hb _ 1 hz0).trans HK1.out
        have k4 := (old_cells hb _ 4 hz0).trans HK4.out
        have hbk : Below w.heap.size w wr := hbw.trans (hb.mono (by omega))
        have sr : w.heap.size < wr.heap.size := by have := hb.size; omega
        by_cases hlt : k < gn
        · obtain ⟨x, rfl, hx, c0, c1, c2⟩ := (HG.out.below (hbk.mono hB)).at3 k hlt
          have hxs : (x.add (k * 3)).block < wr.heap.size := by rw [block_of_add]; omega
          have hsb := sumG_bd HS.out k hk
          have hst := HS.out k hlt
          have hsn : Hid (sumG G (k + 1) = sumG G k + (G k 1 + G k 2)) := Lib.hid rfl
          have b0 : (0 : Int) ≤ (k : Int) := by omega
          have b1 : (k : Int) < (gn : Int) := by omega
          obtain ⟨s, hs⟩ : ∃ s, s = sumG G k := ⟨_, rfl⟩
          obtain ⟨p, hp⟩ : ∃ p, p = G k 1 := ⟨_, rfl⟩
          obtain ⟨q, hq⟩ : ∃ q, q = G k 2 := ⟨_, rfl⟩
          rw [← hs, ← hp, ← hq] at hsn
          rw [← hs] at hsb ⊢
          rw [← hp, ← hq] at hst
          rw [← hp] at c1
          rw [← hq] at c2
          clear hs hp hq c0
          have hw1 : IntKind.i64.wrap (s + p) = s + p := IntWalk.i64_in _ (by omega)
          have hw2 : IntKind.i64.wrap (s + p + q) = s + p + q := IntWalk.i64_in _ (by omega)
          go_wp2
          apply wp_region_auto [22, 23, 24, 25, 26, 27, 28, 29, 30, 31, 32, 33, 34, 35, 36] [_, _, _, _, _, _, _, _, _, _, _, _, _, _, _] (fun W' => Below wr.heap.size wr W')
          case hm => kernel_rfl
          case hT => intro y; simp only [setAll, List.setIfInBounds_toArray, List.set_cons_succ, List.set_cons_zero]; exact rfl
          case hok => kernel_rfl
          case hn => decide
          case hw => exact (Below.refl _ _).drew
          case hs =>
            refine auto_op 22 [] (by kernel_rfl) (fun y w' HW hd K hK => ?_) ?_
            · go_simp
              refine hK _ _ ?_ ?_ HW
              · simp [upd]
              · exact rfl
            refine auto_op 23 [] (by kernel_rfl) (fun y w' HW hd K hK => ?_) ?_
            · go_simp
              refine hK _ _ ?_ ?_ HW
              · simp [upd]
              · exact rfl
            refine auto_op 24 [1] (by kernel_rfl) (fun y w' HW hd K hK => ?_) ?_
            · have e1 := hd_nth (hd 1 (by simp)) rfl
              have hcl : ∀ p : Addr, p.block < wr.heap.size → w'.cell? p = wr.cell? p := fun p hp => HW.cell hp
              go_simp
              refine hK _ _ ?_ ?_ HW
              · simp [upd, e1]
              · exact rfl
            refine auto_op 25 [] (by kernel_rfl) (fun y w' HW hd K hK => ?_) ?_
            · go_simp
              refine hK _ _ ?_ ?_ HW
              · simp [upd]
              · exact rfl
            refine auto_op 26 [2, 3] (by kernel_rfl) (fun y w' HW hd K hK => ?_) ?_
            · have e2 := hd_nth (hd 2 (by simp)) rfl
              have e3 := hd_nth (hd 3 (by simp)) rfl
              go_simp
              refine hK _ _ ?_ ?_ HW
              · simp [upd, e2, e3]
              · exact rfl
            refine auto_op 27 [4] (by kernel_rfl) (fun y w' HW hd K hK => ?_) ?_
            · have e4 := hd_nth (hd 4 (by simp)) rfl
              go_simp
              refine hK _ _ ?_ ?_ HW
              · simp [upd, e4]
              · exact rfl
            refine auto_op 28 [5] (by kernel_rfl) (fun y w' HW hd K hK => ?_) ?_
            · have e5 := hd_nth (hd 5 (by simp)) rfl
              have hcl : ∀ p : Addr, p.block < wr.heap.size → w'.cell? p = wr.cell? p := fun p hp => HW.cell hp
              go_simp
              refine hK _ _ ?_ ?_ HW
              · simp [upd, e5]
              · exact rfl
            refine auto_op 29 [0, 6] (by kernel_rfl) (fun y w' HW hd K hK => ?_) ?_
            · have e0 := hd_nth (hd 0 (by simp)) rfl
              have e6 := hd_nth (hd 6 (by simp)) rfl
              go_simp
              refine hK _ _ ?_ ?_ HW
              · simp [upd, e0, e6]
              · exact rfl
            refine auto_op 30 [] (by kernel_rfl) (fun y w' HW hd K hK => ?_) ?_
            · go_simp
              refine hK _ _ ?_ ?_ HW
              · simp [upd]
              · exact rfl
            refine auto_op 31 [8] (by kernel_rfl) (fun y w' HW hd K hK => ?_) ?_
            · have e8 := hd_nth (hd 8 (by simp)) rfl
              have hcl : ∀ p : Addr, p.block < wr.heap.size → w'.cell? p = wr.cell? p := fun p hp => HW.cell hp
              go_simp
              refine hK _ _ ?_ ?_ HW
              · simp [upd, e8]
              · exact rfl
            refine auto_op 32 [] (by kernel_rfl) (fun y w' HW hd K hK => ?_) ?_
            · go_simp
              refine hK _ _ ?_ ?_ HW
              · simp [upd]
              · exact rfl
            refine auto_op 33 [9, 10] (by kernel_rfl) (fun y w' HW hd K hK => ?_) ?_
            · have e9 := hd_nth (hd 9 (by simp)) rfl
              have e10 := hd_nth (hd 10 (by simp)) rfl
              go_simp
              refine hK _ _ ?_ ?_ HW
              · simp [upd, e9, e10]
              · exact rfl
            refine auto_op 34 [11] (by kernel_rfl) (fun y w' HW hd K hK => ?_) ?_
            · have e11 := hd_nth (hd 11 (by simp)) rfl
              go_simp
              refine hK _ _ ?_ ?_ HW
              · simp [upd, e11]
              · exact rfl
            refine auto_op 35 [12] (by kernel_rfl) (fun y w' HW hd K hK => ?_) ?_
            · have e12 := hd_nth (hd 12 (by simp)) rfl
              have hcl : ∀ p : Addr, p.block < wr.heap.size → w'.cell? p = wr.cell? p := fun p hp => HW.cell hp
              go_simp
              refine hK _ _ ?_ ?_ HW
              · simp [upd, e12]
              · exact rfl
            refine auto_op 36 [7, 13] (by kernel_rfl) (fun y w' HW hd K hK => ?_) ?_
            · have e7 := hd_nth (hd 7 (by simp)) rfl
              have e13 := hd_nth (hd 13 (by simp)) rfl
              go_simp
              refine hK _ _ ?_ ?_ HW
              · simp [upd, e7, e13]
              · exact rfl
            refine auto_last fun y w' HW hd K hK => ?_
            have e0 := hd_nth (hd 0 (by omega)) rfl
            have e1 := hd_nth (hd 1 (by omega)) rfl
            have e2 := hd_nth (hd 2 (by omega)) rfl
            have e3 := hd_nth (hd 3 (by omega)) rfl
            have e4 := hd_nth (hd 4 (by omega)) rfl
            have e5 := hd_nth (hd 5 (by omega)) rfl
            have e6 := hd_nth (hd 6 (by omega)) rfl
            have e7 := hd_nth (hd 7 (by omega)) rfl
            have e8 := hd_nth (hd 8 (by omega)) rfl
            have e9 := hd_nth (hd 9 (by omega)) rfl
            have e10 := hd_nth (hd 10 (by omega)) rfl
            have e11 := hd_nth (hd 11 (by omega)) rfl
            have e12 := hd_nth (hd 12 (by omega)) rfl
            have e13 := hd_nth (hd 13 (by omega)) rfl
            have e14 := hd_nth (hd 14 (by omega)) rfl
            go_simp
            refine hK _ _ ?_
            clear hd hK K e0 e1 e2 e3 e4 e5 e6 e7 e8 e9 e10 e11 e12 e13 e14
            clear hw1 hw2 c1 c2 k1 k4 r0 r1 r2 r3
            obtain ⟨r0, r1, r2, r3⟩ := (HRs.out.below (hb.trans (HW.mono hb.size))).cells
            have hbk2 := hbk.trans (HW.mono hbk.size)
            have hb2 := hb.trans (HW.mono hb.size)
            clear HW
            by_cases hf : f < s + p + q
            · have HE : Hid (ow = (1, (k : Int))) := Lib.hid (HOg.out k hlt (by rw [hsn.out]; omega) hno.out)
              have hfd2 : decide (f < s + p + q) = true := decide_eq_true hf
              go_wp2
              exact bodyPost_ret (v := ownV (1, (k : Int))) (by simp [results, Try.results26, go_sem, r0, r1]) rfl ⟨by rw [HE.out], HSet.out _ _ _ (HSet.out _ _ _ hbk2)⟩
            · have hfd2 : decide (f < s + p + q) = false := decide_eq_false hf
              have HN1 : Hid (∀ j, j < k + 1 → sumG G (j + 1) ≤ f) := Lib.hid fun j hj => by
                by_cases e : j = k
                · rw [e, hsn.out]; omega
                · exact hno.out j (by omega)
              go_wp2
              go_roundw
              case rel => exact ⟨k + 1, by omega, by rw [hsn.out]; congr 1; omega, by go_num, HN1, hb2⟩
              case measure => simp [intOf]; omega
        · have hkn : k = gn := by omega
          subst hkn
          have b1 : ¬ (k : Int) < (k : Int) := by omega
          obtain ⟨s, hs⟩ : ∃ s, s = sumG G k := ⟨_, rfl⟩
          have hbs := HBd.out
          have hor := HOr.out hno.out
          rw [← hs] at hbs hor ⊢
          clear hs
          rcases hor with ⟨t1, hF⟩ | ⟨t1, hF⟩
          · have HE := Lib.hid hF
            have t1b : decide (f - s < (nn : Int)) = true := decide_eq_true t1
            clear hF
            go_wp2
            exact bodyPost_ret (v := ownV (2, f - s)) (by simp [results, Try.results26, go_sem, r0, r1]) rfl ⟨by rw [HE.out], HSet.out _ _ _ (HSet.out _ _ _ hbk)⟩
          · have HE := Lib.hid hF
            have t1n : ¬ f - s < (nn : Int) := by omega
            have t1b : decide (f - s < (nn : Int)) = false := decide_eq_false t1n
            clear hF
            go_wp2
            exact bodyPost_ret (v := ownV (0, 0)) (by simp [results, Try.results26, go_sem, r0, r1]) rfl ⟨by rw [HE.out], HSet.out _ _ _ (HSet.out _ _ _ hbk)⟩
end Go.Proofs.Ytmekoanobicddaa.Cf
namespace Go.Proofs.Ytmekoanobicddaa.Cf
open Go.RowKit Ut
set_option linter.unusedVariables false

/-- one guest, one slot -/
def smallC (a b : Nat) : Cfg where
  cats := 1
  ga := some ⟨a, 0, none⟩
  gn := 1
  gc := 1
  ra := none
  rn := 0
  rc := 0
  pa := none
  pn := 0
  pc := 0
  na := none
  nn := 0
  nc := 0
  sa := some ⟨b, 0, none⟩
  sn := 1
  sc := 1
  gate := -1
  quota := 0
  G := fun _ j => if j = 0 then 1 else if j = 1 then 4 else 0
  R := fun _ _ => 0
  P := fun _ _ => 0
  N := fun _ _ => 0
  S := fun _ j => if j = 0 then 0 else 5
theorem small_check (a b : Nat) : check (smallC a b) = (0, 0) := by kernel_rfl
theorem small_frames (a b : Nat) : framesZ (smallC a b) = 4 := by kernel_rfl
theorem small_period (a b : Nat) : periodZ (smallC a b) = 5 := by kernel_rfl
theorem small_at {W : World} {a b : Nat} {t t' : TypeId} (ha : W.heap[a]? = some (.cells #[.int .i64 1, .int .i64 4, .int .i64 0] t (0, 0))) (hb : W.heap[b]? = some (.cells #[.int .i64 0, .int .i64 5] t' (0, 0))) : (smallC a b).At W W.heap.size where
  g := fun i hi => ⟨⟨a, 0, none⟩, rfl, (Array.getElem?_eq_some_iff.1 ha).1, fun j hj => by
    have hi' : i < 1 := hi
    obtain rfl : i = 0 := by omega
    rw [add_plain]
    match j, hj with
    | 0, _ => exact ⟨by simp [World.cell?, ha, smallC], by simp [smallC], by simp [smallC]⟩
    | 1, _ => exact ⟨by simp [World.cell?, ha, smallC], by simp [smallC], by simp [smallC]⟩
    | 2, _ => exact ⟨by simp [World.cell?, ha, smallC], by simp [smallC], by simp [smallC]⟩
    | j + 3, hj => omega⟩
  r := fun i hi => absurd hi (Nat.not_lt_zero _)
  p := fun i hi => absurd hi (Nat.not_lt_zero _)
  n := fun i hi => absurd hi (Nat.not_lt_zero _)
  s := fun i hi => ⟨⟨b, 0, none⟩, rfl, (Array.getElem?_eq_some_iff.1 hb).1, fun j hj => by
    have hi' : i < 1 := hi
    obtain rfl : i = 0 := by omega
    rw [add_plain]
    match j, hj with
    | 0, _ => exact ⟨by simp [World.cell?, hb, smallC], by simp [smallC], by simp [smallC]⟩
    | 1, _ => exact ⟨by simp [World.cell?, hb, smallC], by simp [smallC], by simp [smallC]⟩
    | j + 2, hj => omega⟩
  lg := ⟨by simp [smallC], by simp [smallC]⟩
  lr := ⟨by simp [smallC], by simp [smallC]⟩
  lp := ⟨by simp [smallC], by simp [smallC]⟩
  ln := ⟨by simp [smallC], by simp [smallC]⟩
  ls := ⟨by simp [smallC], by simp [smallC]⟩
  i1 := ⟨by simp [smallC], by simp [smallC]⟩
  i2 := ⟨by simp [smallC], by simp [smallC]⟩
  i3 := ⟨by simp [smallC], by simp [smallC]⟩

structure SmallPost (w : World) (e : Ending) (W : World) : Prop where
  all : ∃ a b, e = .returned (smallC a b).v ∧ (smallC a b).At W W.heap.size ∧ Below w.heap.size w W
set_option maxRecDepth 100000 in
theorem small_any (w : World) : Calls Try.prog 45 #[] w (SmallPost w) := by
  obtain ⟨PR, hPR⟩ : ∃ PR, PR = SmallPost w := ⟨_, rfl⟩
  have HPR : Hid (∀ e W, SmallPost w e W → PR e W) := Lib.hid fun e W h => by rw [hPR]; exact h
  rw [← hPR]
  clear hPR
  go_enter Try.func45, Try.ntmps45
  go_wp2
  have h3 : ∀ A B C : Obj, (((w.alloc A).alloc B).alloc C).heap[w.heap.size + 1]? = some B ∧ (((w.alloc A).alloc B).alloc C).heap[w.heap.size + 1 + 1]? = some C ∧ Below w.heap.size w (((w.alloc A).alloc B).alloc C) := fun A B C => by
    obtain ⟨t1, t2, t3⟩ := two_new (w.alloc A) B C
    exact ⟨by simpa using t2, by simpa using t1, ((Below.refl _ _).alloc (Nat.le_refl _) _).trans (t3.mono (by simp))⟩
  refine bodyPost_ret (v := (smallC (w.heap.size + 1) (w.heap.size + 1 + 1)).v) (by simp [results, Try.results45, go_sem, smallC]) rfl (HPR.out _ _ ⟨_, _, rfl, small_at (h3 _ _ _).1 (h3 _ _ _).2.1, (h3 _ _ _).2.2⟩)

set_option maxRecDepth 100000 in
theorem awake_any (w : World) : Calls Try.prog 17 #[] w fun e w' => e = .returned (.bool true) ∧ Below w.heap.size w w' := by
  go_enter Try.func17, Try.ntmps17
  go_wp2_with fail
  refine (small_any _).mono ?_
  rintro e w1 hp
  obtain ⟨a, b, rfl, hat, hb1⟩ := hp.all
  have HC := check_any (smallC a b) _ w1 (Nat.le_refl _) hat
  rw [small_check] at HC
  have HC2 := Lib.hid HC
  clear hp hat HC
  go_wp2_with fail
  refine HC2.out.mono ?_
  rintro e w2 ⟨rfl, hb2⟩
  have hb20 := hb1.trans (hb2.mono hb1.size)
  clear HC2
  go_wp2_with fail
  refine (small_any _).mono ?_
  rintro e w3 hp
  obtain ⟨a', b', rfl, hat, hb3⟩ := hp.all
  have HC := Frames_any (smallC a' b') _ w3 (Nat.le_refl _) hat
  rw [small_frames] at HC
  have HC2 := Lib.hid HC
  have hb30 := hb20.trans (hb3.mono hb20.size)
  clear hp hat HC
  go_wp2_with fail
  refine HC2.out.mono ?_
  rintro e w4 ⟨rfl, hb4⟩
  have hb40 := hb30.trans (hb4.mono hb30.size)
  clear HC2
  go_wp2_with fail
  refine (small_any _).mono ?_
  rintro e w5 hp
  obtain ⟨a'', b'', rfl, hat, hb5⟩ := hp.all
  have HC := Period_any (smallC a'' b'') _ w5 (Nat.le_refl _) hat
  rw [small_period] at HC
  have HC2 := Lib.hid HC
  have hb50 := hb40.trans (hb5.mono hb40.size)
  clear hp hat HC
  go_wp2_with fail
  refine HC2.out.mono ?_
  rintro e w6 ⟨rfl, hb6⟩
  have hb60 := hb50.trans (hb6.mono hb50.size)
  clear HC2
  go_wp2
  go_ret
  exact ⟨rfl, hb60⟩

def fewB (c : Cfg) : Bool := decide (c.gn ≤ 20) && decide (c.rn ≤ 40) && decide (c.pn ≤ 40) && decide (c.nn ≤ 40) && decide (c.sn ≤ 40)
theorem few_any (c : Cfg) (w : World) (hg : c.gn ≤ 140737488355328) (hr : c.rn ≤ 140737488355328) (hp : c.pn ≤ 140737488355328) (hn : c.nn ≤ 140737488355328) (hs : c.sn ≤ 140737488355328) :
    Calls Try.prog 15 #[c.v] w fun e w' => e = .returned (.bool (fewB c)) ∧ Below w.heap.size w w' := by
  have HB0 := one_new w
  obtain ⟨r, hr0⟩ : ∃ r, r = fewB c := ⟨_, rfl⟩
  have hr1 := hr0
  unfold fewB at hr1
  rw [← hr0]
  clear hr0
  by_cases h1 : c.gn ≤ 20
  · rw [decide_eq_true h1] at hr1
    have h1' : (c.gn : Int) ≤ 20 := by omega
    by_cases h2 : c.rn ≤ 40
    · rw [decide_eq_true h2] at hr1
      have h2' : (c.rn : Int) ≤ 40 := by omega
      by_cases h3 : c.pn ≤ 40
      · rw [decide_eq_true h3] at hr1
        have h3' : (c.pn : Int) ≤ 40 := by omega
        by_cases h4 : c.nn ≤ 40
        · rw [decide_eq_true h4] at hr1
          have h4' : (c.nn : Int) ≤ 40 := by omega
          by_cases h5 : c.sn ≤ 40
          · rw [decide_eq_true h5] at hr1
            have h5' : (c.sn : Int) ≤ 40 := by omega
            simp only [Bool.and_self] at hr1
            subst hr1
            go_enter Try.func15, Try.ntmps15
            go_wp2
            go_ret
            exact ⟨rfl, HB0.out _⟩
          · rw [decide_eq_false h5] at hr1
            have h5' : ¬ (c.sn : Int) ≤ 40 := by omega
            simp only [Bool.and_false] at hr1
            subst hr1
            go_enter Try.func15, Try.ntmps15
            go_wp2
            go_ret
            exact ⟨rfl, HB0.out _⟩
        · rw [decide_eq_false h4] at hr1
          have h4' : ¬ (c.nn : Int) ≤ 40 := by omega
          simp only [Bool.and_false, Bool.false_and] at hr1
          subst hr1
          go_enter Try.func15, Try.ntmps15
          go_wp2
          go_ret
          exact ⟨rfl, HB0.out _⟩
      · rw [decide_eq_false h3] at hr1
        have h3' : ¬ (c.pn : Int) ≤ 40 := by omega
        simp only [Bool.and_false, Bool.false_and] at hr1
        subst hr1
        go_enter Try.func15, Try.ntmps15
        go_wp2
        go_ret
        exact ⟨rfl, HB0.out _⟩
    · rw [decide_eq_false h2] at hr1
      have h2' : ¬ (c.rn : Int) ≤ 40 := by omega
      simp only [Bool.and_false, Bool.false_and] at hr1
      subst hr1
      go_enter Try.func15, Try.ntmps15
      go_wp2
      go_ret
      exact ⟨rfl, HB0.out _⟩
  · rw [decide_eq_false h1] at hr1
    have h1' : ¬ (c.gn : Int) ≤ 20 := by omega
    simp only [Bool.false_and] at hr1
    subst hr1
    go_enter Try.func15, Try.ntmps15
    go_wp2
    go_ret
    exact ⟨rfl, HB0.out _⟩
end Go.Proofs.Ytmekoanobicddaa.Cf
namespace Go.Proofs.Ytmekoanobicddaa.Cf
open Go.RowKit Ut
set_option linter.unusedVariables false

theorem sumG_mono {G : Nat → Nat → Int} {n : Nat} (h : Small G n) (i : Nat) : ∀ m, i ≤ m → m ≤ n → sumG G i ≤ sumG G m
  | 0, h1, _ => by obtain rfl : i = 0 := by omega
                   exact Int.le_refl _
  | m + 1, h1, h2 => by
    by_cases e : i = m + 1
    · rw [e]; exact Int.le_refl _
    · have h3 := sumG_mono h i m (by omega) (by omega)
      have h4 := h m (by omega)
      have h5 : sumG G (m + 1) = sumG G m + (G m 1 + G m 2) := rfl
      omega
theorem own_cases {c : Cfg} (h : rightB c = true) (k : Int) (h0 : 0 ≤ k) (h1 : k < need c) : (∃ j : Nat, j < c.gn ∧ sumG c.G j ≤ k ∧ k < sumG c.G (j + 1) ∧ ownZ c k = (1, (j : Int))) ∨ (sumG c.G c.gn ≤ k ∧ ownZ c k = (2, k - sumG c.G c.gn)) := by
  rcases firstI_cases c.gn fun m => decide (k < sumG c.G (m + 1)) with ⟨_, hn⟩ | ⟨j, _, hj, hp, hn⟩
  · right
    have hno : ∀ j, j < c.gn → sumG c.G (j + 1) ≤ k := fun j hj => by have := hn j hj; simp at this; exact this
    refine ⟨?_, ownZ_ring h h0 h1 hno⟩
    obtain ⟨_, hg, _⟩ := right_small h
    have := hno (c.gn - 1) (by omega)
    rwa [show c.gn - 1 + 1 = c.gn by omega] at this
  · left
    have hno : ∀ m, m < j → sumG c.G (m + 1) ≤ k := fun m hm => by have := hn m hm; simp at this; exact this
    have hp2 : k < sumG c.G (j + 1) := by simpa using hp
    refine ⟨j, hj, ?_, hp2, ownZ_guest h h0 h1 hj hp2 hno⟩
    cases j with
    | zero => exact h0
    | succ j => exact hno j (by omega)
/-- how many of the first k lie from lo to hi -/
def clampZ (lo hi k : Int) : Int := if k ≤ lo then 0 else if k ≤ hi then k - lo else hi - lo
theorem own_round {c : Cfg} (h : rightB c = true) (i : Nat) (hi : i < c.gn) (k : Nat) (h1 : (k : Int) < need c) :
    (ownZ c k = (1, (i : Int)) ∧ clampZ (sumG c.G i) (sumG c.G (i + 1)) ((k : Int) + 1) = clampZ (sumG c.G i) (sumG c.G (i + 1)) k + 1) ∨
    (∃ j : Nat, j ≠ i ∧ ownZ c k = (1, (j : Int)) ∧ clampZ (sumG c.G i) (sumG c.G (i + 1)) ((k : Int) + 1) = clampZ (sumG c.G i) (sumG c.G (i + 1)) k) ∨
    (∃ r : Int, ownZ c k = (2, r) ∧ clampZ (sumG c.G i) (sumG c.G (i + 1)) ((k : Int) + 1) = clampZ (sumG c.G i) (sumG c.G (i + 1)) k) := by
  obtain ⟨_, _, hs⟩ := right_small h
  have hst := hs i hi
  have he : sumG c.G (i + 1) = sumG c.G i + (c.G i 1 + c.G i 2) := rfl
  unfold clampZ
  rcases own_cases h k (by omega) h1 with ⟨j, hj, h2, h3, h4⟩ | ⟨h2, h4⟩
  · by_cases e : j = i
    · subst e
      refine .inl ⟨h4, ?_⟩
      split <;> split <;> (try split) <;> (try split) <;> omega
    · refine .inr (.inl ⟨j, e, h4, ?_⟩)
      rcases Nat.lt_or_gt_of_ne e with hlt | hgt
      · have := sumG_mono hs (j + 1) i (by omega) (by omega)
        rw [if_pos (by omega), if_pos (by omega)]
      · have := sumG_mono hs (i + 1) j (by omega) (by omega)
        rw [if_neg (by omega)]
        split <;> split <;> (try split) <;> omega
  · refine .inr (.inr ⟨_, h4, ?_⟩)
    have := sumG_mono hs (i + 1) c.gn (by omega) (Nat.le_refl _)
    split <;> split <;> (try split) <;> (try split) <;> omega
theorem own_first {c : Cfg} (h : rightB c = true) (i : Nat) (hi : i < c.gn) : firstZ c i = sumG c.G i ∧ ownZ c (sumG c.G i) = (1, (i : Int)) := by
  obtain ⟨_, _, hs⟩ := right_small h
  have hst := hs i hi
  have he : sumG c.G (i + 1) = sumG c.G i + (c.G i 1 + c.G i 2) := rfl
  have hb := sumG_bd hs i (by omega)
  have hm := sumG_mono hs (i + 1) c.gn (by omega) (Nat.le_refl _)
  have hn : need c = sumG c.G c.gn + c.nn := rfl
  constructor
  · unfold firstZ
    have : isGn c.gn (i : Int) = true := by unfold isGn; simp; omega
    rw [h, this]
    simp
  · exact ownZ_guest h (by omega) (by omega) hi (by omega) (fun j hj => sumG_mono hs (j + 1) i (by omega) (by omega))
theorem own_ring {c : Cfg} (h : rightB c = true) (i : Nat) (hi : i < c.nn) : ringZ c i = sumG c.G c.gn + i ∧ ownZ c (sumG c.G c.gn + i) = (2, (i : Int)) := by
  obtain ⟨_, _, hs⟩ := right_small h
  have hb := sumG_bd hs c.gn (Nat.le_refl _)
  have hn : need c = sumG c.G c.gn + c.nn := rfl
  constructor
  · unfold ringZ
    have : isGn c.nn (i : Int) = true := by unfold isGn; simp; omega
    rw [h, this]
    simp
  · rw [ownZ_ring h (by omega) (by omega) (fun j hj => by have := sumG_mono hs (j + 1) c.gn (by omega) (Nat.le_refl _); omega)]
    congr 1
    omega

set_option maxRecDepth 100000 in
set_option maxHeartbeats 8000000 in
theorem apart_law (c : Cfg) (B : Nat) (w : World) (hB : B ≤ w.heap.size) (hc : c.At w B) :
    Calls Try.prog 5 #[c.v] w fun e w' => e = .returned (.bool true) ∧ Below w.heap.size w w' := by
  have HB0 := one_new w
  have HAw : Hid (∀ W : World, Calls Try.prog 17 #[] W fun e w' => e = .returned (.bool true) ∧ Below W.heap.size W w') := Lib.hid awake_any
  have HC1 : Hid (∀ W, Below w.heap.size w W → Calls Try.prog 16 #[c.v] W fun e w' => e = .returned (.tuple #[.int .i64 (check c).1, .int .i64 (check c).2]) ∧ Below W.heap.size W w') := Lib.hid fun W hW => check_any c B W (by have := hW.size; omega) (hc.below (hW.mono hB))
  have HFr : Hid (∀ W, Below w.heap.size w W → Calls Try.prog 19 #[c.v] W fun e w' => e = .returned (.int .i64 (framesZ c)) ∧ Below W.heap.size W w') := Lib.hid fun W hW => Frames_any c B W (by have := hW.size; omega) (hc.below (hW.mono hB))
  have HOw : Hid (∀ (f : Int) W, Below w.heap.size w W → Calls Try.prog 25 #[c.v, .int .i64 f] W fun e w' => e = .returned (ownV (ownZ c f)) ∧ Below W.heap.size W w') := Lib.hid fun f W hW => Owner_any c f B W (by have := hW.size; omega) (hc.below (hW.mono hB))
  have HFi : Hid (∀ (f : Int) W, Below w.heap.size w W → Calls Try.prog 27 #[c.v, .int .i64 f] W fun e w' => e = .returned (.int .i64 (firstZ c f)) ∧ Below W.heap.size W w') := Lib.hid fun f W hW => First_any c f B W (by have := hW.size; omega) (hc.below (hW.mono hB))
  have HRf : Hid (∀ (f : Int) W, Below w.heap.size w W → Calls Try.prog 29 #[c.v, .int .i64 f] W fun e w' => e = .returned (.int .i64 (ringZ c f)) ∧ Below W.heap.size W w') := Lib.hid fun f W hW => RingFrame_any c f B W (by have := hW.size; omega) (hc.below (hW.mono hB))
  have hrt : ((check c).1 = 0 → rightB c = true) := fun h => decide_eq_true h
  have hrf : ((check c).1 ≠ 0 → rightB c = false) := fun h => decide_eq_false h
  obtain ⟨cka, hcka⟩ : ∃ a, a = (check c).1 := ⟨_, rfl⟩
  obtain ⟨ckb, hckb⟩ : ∃ a, a = (check c).2 := ⟨_, rfl⟩
  rw [← hcka] at HC1 hrt hrf
  rw [← hckb] at HC1
  clear hcka hckb
  by_cases hck : cka = 0
  · subst hck
    have hr := hrt rfl
    have HOz : Hid (∀ (f : Int) (q : Int × Int), ownZ c f = q → ∀ W, Below w.heap.size w W → Calls Try.prog 25 #[c.v, .int .i64 f] W fun e w' => e = .returned (ownV q) ∧ Below W.heap.size W w') := Lib.hid fun f q hq W hW => by rw [← hq]; exact HOw.out f W hW
    have hfz : framesZ c = need c := by unfold framesZ; rw [hr]; rfl
    have hnd := right_need hr
    obtain ⟨hn4, hn1, hs⟩ := right_small hr
    have hnn := right_rings hr
    have hbd := sumG_bd hs c.gn (Nat.le_refl _)
    have hN : need c = sumG c.G c.gn + c.nn := rfl
    have hO1 : ownZ c (need c) = (0, 0) := ownZ_not (.inr (.inr (Int.le_refl _)))
    have hO2 : ownZ c (-1) = (0, 0) := ownZ_not (.inr (.inl (by omega)))
    obtain ⟨nn0, hnn0⟩ : ∃ k : Nat, need c = (k : Int) := ⟨(need c).toNat, by omega⟩
    have HRo : Hid (∀ i : Nat, i < c.gn → ∀ k : Nat, k < nn0 → _) := Lib.hid fun i hi k hk => own_round hr i hi k (by rw [hnn0]; omega)
    have HFi2 : Hid (∀ i : Nat, i < c.gn → firstZ c i = sumG c.G i ∧ ownZ c (sumG c.G i) = (1, (i : Int))) := Lib.hid fun i hi => own_first hr i hi
    have HRi2 : Hid (∀ i : Nat, i < c.nn → ringZ c i = sumG c.G c.gn + i ∧ ownZ c (sumG c.G c.gn + i) = (2, (i : Int))) := Lib.hid fun i hi => own_ring hr i hi
    have HMo : Hid (∀ i : Nat, i < c.gn → sumG c.G (i + 1) ≤ nn0 ∧ 0 ≤ sumG c.G i) := Lib.hid fun i hi => ⟨by have h1 := sumG_mono hs (i + 1) c.gn (by omega) (Nat.le_refl _); omega, by have := sumG_bd hs i (by omega); omega⟩
    have HEnd : Hid (sumG c.G c.gn + (c.nn : Int) = (nn0 : Int)) := Lib.hid (by rw [← hnn0]; exact hN.symm)
    rw [hfz, hnn0] at HFr
    rw [hnn0] at hO1 hnd
    have hn01 : 1 ≤ nn0 := by omega
    have hn032 : nn0 ≤ 32 := by omega
    obtain ⟨OZ, hOZ⟩ : ∃ OZ, OZ = ownZ c := ⟨_, rfl⟩
    obtain ⟨FZ, hFZ⟩ : ∃ FZ, FZ = firstZ c := ⟨_, rfl⟩
    obtain ⟨RZ, hRZ⟩ : ∃ RZ, RZ = ringZ c := ⟨_, rfl⟩
    rw [← hOZ] at HOz HRo HFi2 HRi2 hO1 hO2
    rw [← hFZ] at HFi HFi2
    rw [← hRZ] at HRf HRi2
    have HOa := Lib.hid (HOz.out _ _ hO1)
    have HOb := Lib.hid (HOz.out _ _ hO2)
    have HS := Lib.hid hs
    have HG : Hid (RowT 3 w B c.ga c.gn c.G) := Lib.hid hc.g
    have hx0 : BoxC (w.alloc (.cells c.cs 44)) w.heap.size c := heap_alloc_new w _
    have HX0 := Lib.hid hx0
    clear hrt hrf hr hfz hnd hs hbd hO1 hO2 hnn0 hx0 hc HOw hN hOZ hFZ hRZ
    have m1 : (1 : Int) ≤ (nn0 : Int) := by omega
    have m2 : (nn0 : Int) ≤ 32 := by omega
    obtain ⟨cats, ga, gn, gc, ra, rn, rc, pa, pn, pc, na, nn, nc, sa, sn, sc, gate, quota, G, R, P, N, S⟩ := c
    dsimp only at HOz HRo HFi HFi2 HRf HRi2 HMo HEnd HFr HOa HOb HS HG HX0 hn4 hn1 hnn HC1
    obtain ⟨x, rfl, _⟩ := HG.out.at3 0 (by omega)
    go_enter Try.func5, Try.ntmps5
    go_wp2_with fail
    refine (HC1.out _ (HB0.out _)).mono ?_
    rintro e w1 ⟨rfl, hb⟩
    have hbw := (HB0.out _).trans (hb.mono (by simp))
    have HX1 := Lib.hid (HX0.out.below hb)
    clear HX0 hb
    obtain ⟨k0, k1, k2, k3, k4, k5, k6, k7⟩ := HX1.out.cells
    dsimp only at k0 k1 k2 k3 k4 k5 k6 k7
    go_wp2_with fail
    refine (HFr.out _ hbw).mono ?_
    rintro e w2 ⟨rfl, hb⟩
    have hbw2 := hbw.trans (hb.mono hbw.size)
    have HX2 := Lib.hid (HX1.out.below hb)
    clear HX1 hb k0 k1 k2 k3 k4 k5 k6 k7 hbw
    obtain ⟨k0, k1, k2, k3, k4, k5, k6, k7⟩ := HX2.out.cells
    dsimp only at k0 k1 k2 k3 k4 k5 k6 k7
    go_wp2_with fail
    refine (HOa.out _ hbw2).mono ?_
    rintro e w3 ⟨rfl, hb⟩
    have hbw3 := hbw2.trans (hb.mono hbw2.size)
    have HX3 := Lib.hid (HX2.out.below hb)
    clear HX2 hb k0 k1 k2 k3 k4 k5 k6 k7 hbw2
    obtain ⟨k0, k1, k2, k3, k4, k5, k6, k7⟩ := HX3.out.cells
    dsimp only at k0 k1 k2 k3 k4 k5 k6 k7
    go_wp2_with fail
    refine (HOb.out _ hbw3).mono ?_
    rintro e w4 ⟨rfl, hb⟩
    have hbw4 := hbw3.trans (hb.mono hbw3.size)
    have HX := Lib.hid (HX3.out.below hb)
    clear HX3 hb k0 k1 k2 k3 k4 k5 k6 k7 hbw3
    go_wp2
    go_loopw [6, 7] (fun s i wr => ∃ k : Nat, k ≤ gn ∧ s = .int .i64 (sumG G k) ∧ i = .int .i64 k ∧ Below w4.heap.size w4 wr) (fun _ i _ => gn - (intOf i).toNat)
    case atStart => exact ⟨0, Nat.zero_le _, rfl, rfl, Below.refl _ _⟩
    case round =>
      obtain ⟨i, hi, rfl, rfl, hb⟩ := hrel
      have hbk := hbw4.trans (hb.mono hbw4.size)
      have HXr := Lib.hid (HX.out.below hb)
      obtain ⟨k0, k1, k2, k3, k4, k5, k6, k7⟩ := HXr.out.cells
      dsimp only at k0 k1 k2 k3 k4 k5 k6 k7
      by_cases hlt : i < gn
      · have b0 : (0 : Int) ≤ (i : Int) := by omega
        have b1 : (i : Int) < (gn : Int) := by omega
        have b2 : (i : Int) < 4 := by omega
        have HRk : Hid (∀ k : Nat, k < nn0 → _) := Lib.hid (HRo.out i hlt)
        obtain ⟨hm1, hm2⟩ := HMo.out i hlt
        have hst := HS.out i hlt
        have hsb := sumG_bd HS.out i (by omega)
        have hfin : clampZ (sumG G i) (sumG G (i + 1)) nn0 = G i 1 + G i 2 := by
          have he : sumG G (i + 1) = sumG G i + (G i 1 + G i 2) := rfl
          unfold clampZ
          rw [if_neg (by omega)]
          split <;> omega
        have HFin := Lib.hid hfin
        have h0c : clampZ (sumG G i) (sumG G (i + 1)) 0 = 0 := by unfold clampZ; rw [if_pos hm2]
        have H0c := Lib.hid h0c
        have hcb : ∀ k : Nat, k ≤ nn0 → 0 ≤ clampZ (sumG G i) (sumG G (i + 1)) k ∧ clampZ (sumG G i) (sumG G (i + 1)) k ≤ 32 := fun k hk => by
          have he : sumG G (i + 1) = sumG G i + (G i 1 + G i 2) := rfl
          unfold clampZ
          split
          · omega
          · split <;> omega
        have HCb := Lib.hid hcb
        obtain ⟨CL, hCL⟩ : ∃ CL : Int → Int, CL = clampZ (sumG G i) (sumG G (i + 1)) := ⟨_, rfl⟩
        rw [← hCL] at HRk HFin H0c HCb
        clear hcb hCL hfin h0c hm1
        go_wp2
        clear k0 k1 k2 k3 k4 k5 k6 k7
        obtain ⟨w5, hw5⟩ : ∃ w5, w5 = wr := ⟨_, rfl⟩
        rw [← hw5] at hb hbk HXr ⊢
        clear hw5
        go_loopw [8, 9] (fun o f wr => ∃ k : Nat, k ≤ nn0 ∧ o = .int .i64 (CL k) ∧ f = .int .i64 k ∧ Below w5.heap.size w5 wr) (fun _ f _ => nn0 - (intOf f).toNat)
        case atStart => exact ⟨0, Nat.zero_le _, by rw [show ((0 : Nat) : Int) = 0 from rfl, H0c.out], rfl, Below.refl _ _⟩
        case round =>
          obtain ⟨k, hk, rfl, rfl, hbi⟩ := hrel
          have hbk2 := hbk.trans (hbi.mono hbk.size)
          have HXi := Lib.hid (HXr.out.below hbi)
          obtain ⟨k0, k1, k2, k3, k4, k5, k6, k7⟩ := HXi.out.cells
          dsimp only at k0 k1 k2 k3 k4 k5 k6 k7
          by_cases hkn : k < nn0
          · have j0 : (0 : Int) ≤ (k : Int) := by omega
            have j1 : (k : Int) < (nn0 : Int) := by omega
            have hcb := HCb.out k hk
            have HR1 := HRk.out k hkn
            rcases HR1 with ⟨ho, hc1⟩ | ⟨j, hj, ho, hc1⟩ | ⟨r, ho, hc1⟩
            · have HOk := Lib.hid (HOz.out _ _ ho)
              have HC2 : Hid (CL (((k + 1 : Nat)) : Int) = CL k + 1) := Lib.hid (by rw [← hc1]; congr 1)
              obtain ⟨cl, hcl⟩ : ∃ cl, cl = CL k := ⟨_, rfl⟩
              rw [← hcl] at HC2 hcb ⊢
              clear ho hc1 hcl
              go_wp2_with fail
              refine (HOk.out _ hbk2).mono ?_
              rintro e w6 ⟨rfl, hb6⟩
              clear k0 k1 k2 k3 k4 k5 k6 k7
              go_wp2
              go_roundw
              case rel => exact ⟨k + 1, by omega, by rw [HC2.out], by go_num, hbi.trans (hb6.mono hbi.size)⟩
              case measure => simp [intOf]; omega
            · have HOk := Lib.hid (HOz.out _ _ ho)
              have HC2 : Hid (CL (((k + 1 : Nat)) : Int) = CL k) := Lib.hid (by rw [← hc1]; congr 1)
              have hji : ((j : Int) == (i : Int)) = false := by simp; omega
              obtain ⟨cl, hcl⟩ : ∃ cl, cl = CL k := ⟨_, rfl⟩
              rw [← hcl] at HC2 hcb ⊢
              clear ho hc1 hcl
              go_wp2_with fail
              refine (HOk.out _ hbk2).mono ?_
              rintro e w6 ⟨rfl, hb6⟩
              clear k0 k1 k2 k3 k4 k5 k6 k7
              go_wp2
              go_roundw
              case rel => exact ⟨k + 1, by omega, by rw [HC2.out], by go_num, hbi.trans (hb6.mono hbi.size)⟩
              case measure => simp [intOf]; omega
            · have HOk := Lib.hid (HOz.out _ _ ho)
              have HC2 : Hid (CL (((k + 1 : Nat)) : Int) = CL k) := Lib.hid (by rw [← hc1]; congr 1)
              obtain ⟨cl, hcl⟩ : ∃ cl, cl = CL k := ⟨_, rfl⟩
              rw [← hcl] at HC2 hcb ⊢
              clear ho hc1 hcl
              go_wp2_with fail
              refine (HOk.out _ hbk2).mono ?_
              rintro e w6 ⟨rfl, hb6⟩
              clear k0 k1 k2 k3 k4 k5 k6 k7
              go_wp2
              go_roundw
              case rel => exact ⟨k + 1, by omega, by rw [HC2.out], by go_num, hbi.trans (hb6.mono hbi.size)⟩
              case measure => simp [intOf]; omega
          · have hkk : k = nn0 := by omega
            subst hkk
            have j1 : ¬ (k : Int) < (k : Int) := by omega
            rw [HFin.out]
            obtain ⟨hf1, hf2⟩ := HFi2.out i hlt
            have HF1 := HFi.out (i : Int)
            rw [hf1] at HF1
            have HF2 := Lib.hid HF1
            have HOk := Lib.hid (HOz.out _ _ hf2)
            have HSn : Hid (sumG G (i + 1) = sumG G i + (G i 1 + G i 2)) := Lib.hid rfl
            obtain ⟨x', hxx, hx, c0, c1, c2⟩ := (HG.out.below (hbk2.mono hB)).at3 i hlt
            obtain rfl : x = x' := by injection hxx
            have sx : (x.add (i * 3)).block < wr.heap.size := by have := hbk2.size; rw [block_of_add]; omega
            have sb : w.heap.size < wr.heap.size := HXi.out.lt
            obtain ⟨s, hs⟩ : ∃ s, s = sumG G i := ⟨_, rfl⟩
            obtain ⟨p, hp⟩ : ∃ p, p = G i 1 := ⟨_, rfl⟩
            obtain ⟨q, hq⟩ : ∃ q, q = G i 2 := ⟨_, rfl⟩
            rw [← hs, ← hp, ← hq] at HSn
            rw [← hs] at HF2 HOk hsb ⊢
            rw [← hp, ← hq] at hst ⊢
            rw [← hp] at c1
            rw [← hq] at c2
            clear hf1 hf2 HF1 hs hp hq c0 hxx HFin
            have hw1 : IntKind.i64.wrap (p + q) = p + q := IntWalk.i64_in _ (by omega)
            go_wp2
            apply wp_region_auto [79, 80, 81, 82, 83, 84, 85, 86, 87, 88, 89, 90, 91, 92, 93, 94, 95, 96, 97, 98, 99, 100, 101, 102] [_, _, _, _, _, _, _, _, _, _, _, _, _, _, _, _, _, _, _, _, _, _, _, _] (fun W' => Below wr.heap.size wr W')
            case hm => kernel_rfl
            case hT => intro y; simp only [setAll, List.setIfInBounds_toArray, List.set_cons_succ, List.set_cons_zero]; exact rfl
            case hok => kernel_rfl
            case hn => decide
            case hw => exact (Below.refl _ _).drew
            case hs =>
              refine auto_op 79 [] (by kernel_rfl) (fun y w' HW hd K hK => ?_) ?_
              · go_simp
                refine hK _ _ ?_ ?_ HW
                · simp [upd]
                · exact rfl
              refine auto_op 80 [] (by kernel_rfl) (fun y w' HW hd K hK => ?_) ?_
              · go_simp
                refine hK _ _ ?_ ?_ HW
                · simp [upd]
                · exact rfl
              refine auto_op 81 [1] (by kernel_rfl) (fun y w' HW hd K hK => ?_) ?_
              · have e1 := hd_nth (hd 1 (by simp)) rfl
                have hcl : ∀ p : Addr, p.block < wr.heap.size → w'.cell? p = wr.cell? p := fun p hp => HW.cell hp
                go_simp
                refine hK _ _ ?_ ?_ HW
                · simp [upd, e1]
                · exact rfl
              refine auto_op 82 [] (by kernel_rfl) (fun y w' HW hd K hK => ?_) ?_
              · go_simp
                refine hK _ _ ?_ ?_ HW
                · simp [upd]
                · exact rfl
              refine auto_op 83 [2, 3] (by kernel_rfl) (fun y w' HW hd K hK => ?_) ?_
              · have e2 := hd_nth (hd 2 (by simp)) rfl
                have e3 := hd_nth (hd 3 (by simp)) rfl
                go_simp
                refine hK _ _ ?_ ?_ HW
                · simp [upd, e2, e3]
                · exact rfl
              refine auto_op 84 [4] (by kernel_rfl) (fun y w' HW hd K hK => ?_) ?_
              · have e4 := hd_nth (hd 4 (by simp)) rfl
                go_simp
                refine hK _ _ ?_ ?_ HW
                · simp [upd, e4]
                · exact rfl
              refine auto_op 85 [5] (by kernel_rfl) (fun y w' HW hd K hK => ?_) ?_
              · have e5 := hd_nth (hd 5 (by simp)) rfl
                have hcl : ∀ p : Addr, p.block < wr.heap.size → w'.cell? p = wr.cell? p := fun p hp => HW.cell hp
                go_simp
                refine hK _ _ ?_ ?_ HW
                · simp [upd, e5]
                · exact rfl
              refine auto_op 86 [] (by kernel_rfl) (fun y w' HW hd K hK => ?_) ?_
              · go_simp
                refine hK _ _ ?_ ?_ HW
                · simp [upd]
                · exact rfl
              refine auto_op 87 [7] (by kernel_rfl) (fun y w' HW hd K hK => ?_) ?_
              · have e7 := hd_nth (hd 7 (by simp)) rfl
                have hcl : ∀ p : Addr, p.block < wr.heap.size → w'.cell? p = wr.cell? p := fun p hp => HW.cell hp
                go_simp
                refine hK _ _ ?_ ?_ HW
                · simp [upd, e7]
                · exact rfl
              refine auto_op 88 [] (by kernel_rfl) (fun y w' HW hd K hK => ?_) ?_
              · go_simp
                refine hK _ _ ?_ ?_ HW
                · simp [upd]
                · exact rfl
              refine auto_op 89 [8, 9] (by kernel_rfl) (fun y w' HW hd K hK => ?_) ?_
              · have e8 := hd_nth (hd 8 (by simp)) rfl
                have e9 := hd_nth (hd 9 (by simp)) rfl
                go_simp
                refine hK _ _ ?_ ?_ HW
                · simp [upd, e8, e9]
                · exact rfl
              refine auto_op 90 [10] (by kernel_rfl) (fun y w' HW hd K hK => ?_) ?_
              · have e10 := hd_nth (hd 10 (by simp)) rfl
                go_simp
                refine hK _ _ ?_ ?_ HW
                · simp [upd, e10]
                · exact rfl
              refine auto_op 91 [11] (by kernel_rfl) (fun y w' HW hd K hK => ?_) ?_
              · have e11 := hd_nth (hd 11 (by simp)) rfl
                have hcl : ∀ p : Addr, p.block < wr.heap.size → w'.cell? p = wr.cell? p := fun p hp => HW.cell hp
                go_simp
                refine hK _ _ ?_ ?_ HW
                · simp [upd, e11]
                · exact rfl
              refine auto_op 92 [6, 12] (by kernel_rfl) (fun y w' HW hd K hK => ?_) ?_
              · have e6 := hd_nth (hd 6 (by simp)) rfl
                have e12 := hd_nth (hd 12 (by simp)) rfl
                go_simp
                refine hK _ _ ?_ ?_ HW
                · simp [upd, e6, e12]
                · exact rfl
              refine auto_op 93 [0, 13] (by kernel_rfl) (fun y w' HW hd K hK => ?_) ?_
              · have e0 := hd_nth (hd 0 (by simp)) rfl
                have e13 := hd_nth (hd 13 (by simp)) rfl
                go_simp
                refine hK _ _ ?_ ?_ HW
                · simp [upd, e0, e13]
                · exact rfl
              refine auto_op 94 [14] (by kernel_rfl) (fun y w' HW hd K hK => ?_) ?_
              · have e14 := hd_nth (hd 14 (by simp)) rfl
                go_simp
                refine hK _ _ ?_ ?_ HW
                · simp [upd, e14]
                · exact rfl
              refine auto_op 95 [15] (by kernel_rfl) (fun y w' HW hd K hK => ?_) ?_
              · have e15 := hd_nth (hd 15 (by simp)) rfl
                have hcl : ∀ p : Addr, p.block < wr.heap.size → w'.cell? p = wr.cell? p := fun p hp => HW.cell hp
                go_simp
                refine hK _ _ ?_ ?_ HW
                · simp [upd, e15]
                · exact rfl
              refine auto_op 96 [15] (by kernel_rfl) (fun y w' HW hd K hK => ?_) ?_
              · have e15 := hd_nth (hd 15 (by simp)) rfl
                have hcl : ∀ p : Addr, p.block < wr.heap.size → w'.cell? p = wr.cell? p := fun p hp => HW.cell hp
                go_simp
                refine hK _ _ ?_ ?_ HW
                · simp [upd, e15]
                · exact rfl
              refine auto_op 97 [15] (by kernel_rfl) (fun y w' HW hd K hK => ?_) ?_
              · have e15 := hd_nth (hd 15 (by simp)) rfl
                go_simp
                refine hK _ _ ?_ ?_ HW
                · simp [upd, e15]
                · exact rfl
              refine auto_op 98 [17, 18, 15, 15] (by kernel_rfl) (fun y w' HW hd K hK => ?_) ?_
              · have e15 := hd_nth (hd 15 (by simp)) rfl
                have e17 := hd_nth (hd 17 (by simp)) rfl
                have e18 := hd_nth (hd 18 (by simp)) rfl
                go_simp
                refine (HF2.out _ (hbk2.trans (HW.mono hbk2.size))).mono ?_
                rintro e w7 ⟨rfl, hb19⟩
                refine hK _ _ ?_ ?_ (HW.trans (hb19.mono HW.size))
                · simp [upd, e15, e17, e18]
                · exact rfl
              refine auto_op 99 [16, 19, 19, 15] (by kernel_rfl) (fun y w' HW hd K hK => ?_) ?_
              · have e15 := hd_nth (hd 15 (by simp)) rfl
                have e16 := hd_nth (hd 16 (by simp)) rfl
                have e19 := hd_nth (hd 19 (by simp)) rfl
                go_simp
                refine (HOk.out _ (hbk2.trans (HW.mono hbk2.size))).mono ?_
                rintro e w7 ⟨rfl, hb20⟩
                refine hK _ _ ?_ ?_ (HW.trans (hb20.mono HW.size))
                · simp [upd, e15, e16, e19]
                · exact rfl
              refine auto_op 100 [15] (by kernel_rfl) (fun y w' HW hd K hK => ?_) ?_
              · have e15 := hd_nth (hd 15 (by simp)) rfl
                go_simp
                refine hK _ _ ?_ ?_ HW
                · simp [upd, e15]
                · exact rfl
              refine auto_op 101 [21, 15] (by kernel_rfl) (fun y w' HW hd K hK => ?_) ?_
              · have e15 := hd_nth (hd 15 (by simp)) rfl
                have e21 := hd_nth (hd 21 (by simp)) rfl
                go_simp
                refine hK _ _ ?_ ?_ HW
                · simp [upd, e15, e21]
                · exact rfl
              refine auto_op 102 [20, 22, 15] (by kernel_rfl) (fun y w' HW hd K hK => ?_) ?_
              · have e15 := hd_nth (hd 15 (by simp)) rfl
                have e20 := hd_nth (hd 20 (by simp)) rfl
                have e22 := hd_nth (hd 22 (by simp)) rfl
                go_simp
                refine hK _ _ ?_ ?_ HW
                · simp [upd, e15, e20, e22]
                · exact rfl
              refine auto_last fun y w' HW hd K hK => ?_
              have e0 := hd_nth (hd 0 (by omega)) rfl
              have e1 := hd_nth (hd 1 (by omega)) rfl
              have e2 := hd_nth (hd 2 (by omega)) rfl
              have e3 := hd_nth (hd 3 (by omega)) rfl
              have e4 := hd_nth (hd 4 (by omega)) rfl
              have e5 := hd_nth (hd 5 (by omega)) rfl
              have e6 := hd_nth (hd 6 (by omega)) rfl
              have e7 := hd_nth (hd 7 (by omega)) rfl
              have e8 := hd_nth (hd 8 (by omega)) rfl
              have e9 := hd_nth (hd 9 (by omega)) rfl
              have e10 := hd_nth (hd 10 (by omega)) rfl
              have e11 := hd_nth (hd 11 (by omega)) rfl
              have e12 := hd_nth (hd 12 (by omega)) rfl
              have e13 := hd_nth (hd 13 (by omega)) rfl
              have e14 := hd_nth (hd 14 (by omega)) rfl
              have e15 := hd_nth (hd 15 (by omega)) rfl
              have e16 := hd_nth (hd 16 (by omega)) rfl
              have e17 := hd_nth (hd 17 (by omega)) rfl
              have e18 := hd_nth (hd 18 (by omega)) rfl
              have e19 := hd_nth (hd 19 (by omega)) rfl
              have e20 := hd_nth (hd 20 (by omega)) rfl
              have e21 := hd_nth (hd 21 (by omega)) rfl
              have e22 := hd_nth (hd 22 (by omega)) rfl
              have e23 := hd_nth (hd 23 (by omega)) rfl
              go_simp
              refine hK _ _ ?_
              clear hd hK K e0 e1 e2 e3 e4 e5 e6 e7 e8 e9 e10 e11 e12 e13 e14 e15 e16 e17 e18 e19 e20 e21 e22 e23
              clear k0 k1 k2 k3 k4 k5 k6 k7 hw1 c1 c2
              go_wp2
              go_roundw
              case rel => exact ⟨i + 1, by omega, by rw [HSn.out], by go_num, hb.trans ((hbi.trans (HW.mono hbi.size)).mono hb.size)⟩
              case measure => simp [intOf]; omega
      · have hkn : i = gn := by omega
        subst hkn
        have b1 : ¬ (i : Int) < (i : Int) := by omega
        have hend := HEnd.out
        have hsb := sumG_bd HS.out i (Nat.le_refl _)
        obtain ⟨s, hs⟩ : ∃ s, s = sumG G i := ⟨_, rfl⟩
        rw [← hs] at hend hsb HRi2 ⊢
        clear hs HEnd
        go_wp2
        clear k0 k1 k2 k3 k4 k5 k6 k7
        obtain ⟨w5, hw5⟩ : ∃ w5, w5 = wr := ⟨_, rfl⟩
        rw [← hw5] at hb hbk HXr ⊢
        clear hw5
        go_loopw [10] (fun v wr => ∃ k : Nat, k ≤ nn ∧ v = .int .i64 k ∧ Below w5.heap.size w5 wr) (fun v _ => nn - (intOf v).toNat)
        case atStart => exact ⟨0, Nat.zero_le _, rfl, Below.refl _ _⟩
        case round =>
          obtain ⟨k, hk, rfl, hbi⟩ := hrel
          have hbk2 := hbk.trans (hbi.mono hbk.size)
          have HXi := Lib.hid (HXr.out.below hbi)
          obtain ⟨k0, k1, k2, k3, k4, k5, k6, k7⟩ := HXi.out.cells
          dsimp only at k0 k1 k2 k3 k4 k5 k6 k7
          have sb : w.heap.size < wr.heap.size := HXi.out.lt
          by_cases hkn : k < nn
          · have j0 : (0 : Int) ≤ (k : Int) := by omega
            have j1 : (k : Int) < (nn : Int) := by omega
            have j2 : (k : Int) < 4 := by omega
            obtain ⟨hr1, hr2⟩ := HRi2.out k hkn
            have HR1 := HRf.out (k : Int)
            rw [hr1] at HR1
            have HR2 := Lib.hid HR1
            have HOk := Lib.hid (HOz.out _ _ hr2)
            clear hr1 hr2 HR1
            go_wp2
            apply wp_region_auto [118, 119, 120, 121, 122, 123, 124] [_, _, _, _, _, _, _] (fun W' => Below wr.heap.size wr W')
            case hm => kernel_rfl
            case hT => intro y; simp only [setAll, List.setIfInBounds_toArray, List.set_cons_succ, List.set_cons_zero]; exact rfl
            case hok => kernel_rfl
            case hn => decide
            case hw => exact (Below.refl _ _).drew
            case hs =>
              refine auto_op 118 [] (by kernel_rfl) (fun y w' HW hd K hK => ?_) ?_
              · have hcl : ∀ p : Addr, p.block < wr.heap.size → w'.cell? p = wr.cell? p := fun p hp => HW.cell hp
                go_simp
                refine hK _ _ ?_ ?_ HW
                · simp [upd]
                · exact rfl
              refine auto_op 119 [] (by kernel_rfl) (fun y w' HW hd K hK => ?_) ?_
              · have hcl : ∀ p : Addr, p.block < wr.heap.size → w'.cell? p = wr.cell? p := fun p hp => HW.cell hp
                go_simp
                refine hK _ _ ?_ ?_ HW
                · simp [upd]
                · exact rfl
              refine auto_op 120 [] (by kernel_rfl) (fun y w' HW hd K hK => ?_) ?_
              · go_simp
                refine hK _ _ ?_ ?_ HW
                · simp [upd]
                · exact rfl
              refine auto_op 121 [1, 2] (by kernel_rfl) (fun y w' HW hd K hK => ?_) ?_
              · have e1 := hd_nth (hd 1 (by simp)) rfl
                have e2 := hd_nth (hd 2 (by simp)) rfl
                go_simp
                refine (HR2.out _ (hbk2.trans (HW.mono hbk2.size))).mono ?_
                rintro e w7 ⟨rfl, hb19⟩
                refine hK _ _ ?_ ?_ (HW.trans (hb19.mono HW.size))
                · simp [upd, e1, e2]
                · exact rfl
              refine auto_op 122 [0, 3, 3] (by kernel_rfl) (fun y w' HW hd K hK => ?_) ?_
              · have e0 := hd_nth (hd 0 (by simp)) rfl
                have e3 := hd_nth (hd 3 (by simp)) rfl
                go_simp
                refine (HOk.out _ (hbk2.trans (HW.mono hbk2.size))).mono ?_
                rintro e w7 ⟨rfl, hb20⟩
                refine hK _ _ ?_ ?_ (HW.trans (hb20.mono HW.size))
                · simp [upd, e0, e3]
                · exact rfl
              refine auto_op 123 [] (by kernel_rfl) (fun y w' HW hd K hK => ?_) ?_
              · go_simp
                refine hK _ _ ?_ ?_ HW
                · simp [upd]
                · exact rfl
              refine auto_op 124 [5] (by kernel_rfl) (fun y w' HW hd K hK => ?_) ?_
              · have e5 := hd_nth (hd 5 (by simp)) rfl
                go_simp
                refine hK _ _ ?_ ?_ HW
                · simp [upd, e5]
                · exact rfl
              refine auto_last fun y w' HW hd K hK => ?_
              have e0 := hd_nth (hd 0 (by omega)) rfl
              have e1 := hd_nth (hd 1 (by omega)) rfl
              have e2 := hd_nth (hd 2 (by omega)) rfl
              have e3 := hd_nth (hd 3 (by omega)) rfl
              have e4 := hd_nth (hd 4 (by omega)) rfl
              have e5 := hd_nth (hd 5 (by omega)) rfl
              have e6 := hd_nth (hd 6 (by omega)) rfl
              go_simp
              refine hK _ _ ?_
              clear hd hK K e0 e1 e2 e3 e4 e5 e6
              clear k0 k1 k2 k3 k4 k5 k6 k7
              go_wp2
              go_roundw
              case rel => exact ⟨k + 1, by omega, by go_num, hbi.trans (HW.mono hbi.size)⟩
              case measure => simp [intOf]; omega
          · have hkk : k = nn := by omega
            subst hkk
            have j1 : ¬ (k : Int) < (k : Int) := by omega
            have hend2 : (s + (k : Int) == (nn0 : Int)) = true := by simpa using hend
            have HE := Lib.hid hend
            clear hend
            go_wp2_with fail
            refine (HAw.out _).mono ?_
            rintro e w7 ⟨rfl, hb7⟩
            clear k0 k1 k2 k3 k4 k5 k6 k7
            go_wp2
            go_ret
            exact ⟨rfl, hbk2.trans (hb7.mono hbk2.size)⟩
  · have hne : (cka != 0) = true := by simpa using hck
    have hr := hrf hck
    have hfz : framesZ c = 0 := by unfold framesZ; rw [hr]; rfl
    have hoz : ownZ c 0 = (0, 0) := ownZ_not (.inl hr)
    have hiz : firstZ c 0 = -1 := by unfold firstZ; rw [hr]; rfl
    have HO1 := HOw.out 0
    have HF1 := HFi.out 0
    rw [hfz] at HFr
    rw [hoz] at HO1
    rw [hiz] at HF1
    have HO2 := Lib.hid HO1
    have HF2 := Lib.hid HF1
    have hx0 : BoxC (w.alloc (.cells c.cs 44)) w.heap.size c := heap_alloc_new w _
    have HX0 := Lib.hid hx0
    clear hrt hrf hr hfz hoz hiz HO1 HF1 hx0 hc HOw HFi HRf
    go_enter Try.func5, Try.ntmps5
    go_wp2_with fail
    refine (HC1.out _ (HB0.out _)).mono ?_
    rintro e w1 ⟨rfl, hb⟩
    have hbw := (HB0.out _).trans (hb.mono (by simp))
    have HX1 := Lib.hid (HX0.out.below hb)
    clear HX0 hb
    obtain ⟨k0, k1, k2, k3, k4, k5, k6, k7⟩ := HX1.out.cells
    go_wp2_with fail
    refine (HFr.out _ hbw).mono ?_
    rintro e w2 ⟨rfl, hb⟩
    have hbw2 := hbw.trans (hb.mono hbw.size)
    have HX2 := Lib.hid (HX1.out.below hb)
    clear HX1 hb k0 k1 k2 k3 k4 k5 k6 k7 hbw
    obtain ⟨k0, k1, k2, k3, k4, k5, k6, k7⟩ := HX2.out.cells
    go_wp2_with fail
    refine (HO2.out _ hbw2).mono ?_
    rintro e w3 ⟨rfl, hb⟩
    have hbw3 := hbw2.trans (hb.mono hbw2.size)
    have HX3 := Lib.hid (HX2.out.below hb)
    clear HX2 hb k0 k1 k2 k3 k4 k5 k6 k7 hbw2
    obtain ⟨k0, k1, k2, k3, k4, k5, k6, k7⟩ := HX3.out.cells
    go_wp2_with fail
    refine (HF2.out _ hbw3).mono ?_
    rintro e w4 ⟨rfl, hb⟩
    have hbw4 := hbw3.trans (hb.mono hbw3.size)
    clear hb k0 k1 k2 k3 k4 k5 k6 k7 hbw3
    go_wp2_with fail
    refine (HAw.out _).mono ?_
    rintro e w5 ⟨rfl, hb⟩
    go_wp2
    go_ret
    exact ⟨rfl, hbw4.trans (hb.mono hbw4.size)⟩
end Go.Proofs.Ytmekoanobicddaa.Cf
namespace Go.Proofs.Ytmekoanobicddaa.configApart
open Go.ChangeShapes Go.WideShapes Go.ChangeAt Go.RowKit
set_option linter.unusedVariables false

theorem own : ownKnob Try.prog.godebug = none := by kernel_rfl
theorem laidOut : laidOutB Try.prog = true := by kernel_rfl

set_option maxRecDepth 100000 in
theorem lifted (os : Os) (started : os.Started) (H : Type) (enc : TypeId × Value → H) :
    ReturnsInHanded {} Try.checked os 5 .any (Rows.configApartSpec.pre6 enc Try.prog Try.f5 Rows.configApartRow.domain false) (Rows.configApartSpec.post enc Try.prog Try.f5 false true false false) := by
  refine returnsInHanded_of_change_sized (C := Try.checked) own started (by kernel_rfl) Try.func5
    (ChangeSpec.witness6 (enc := enc) (C := Try.checked) false ⟨#[], #[.agg #[.int .i64 0, .slice none 0 0, .slice none 0 0, .slice none 0 0, .slice none 0 0, .slice none 0 0, .int .i64 0, .int .i64 0]], []⟩ 8 (by kernel_rfl) (by kernel_rfl) (by kernel_rfl) (by kernel_rfl)) ?_
  intro W base args ds gs before hval0 hW hcnd hsz0 _
  have hsz : (DataW.weightsEach Try.prog (Try.f5.params.toList ++ Rows.configApartSpec.plain.varTypes Try.prog) (ds ++ gs)).all (· ≤ reachBytes) = true := hsz0
  clear hsz0
  have hval : ∀ (j : Nat) t v, Try.f5.params[j]? = some t → args[j]? = some v → Value.okWide Try.prog W .any base t v := hval0
  have hW' := hW
  obtain ⟨p, q, hA0, hV, rfl, hfz, hnd⟩ := hW
  have hA : DataW.TrodAll enc Try.prog W 0 (fun _ => true) true Try.f5.params.toList args.toList ds p := hA0
  rw [Try.params5] at hA hval hsz
  obtain ⟨v0, vs0, d0, ds0, p0, q0, hargs, rfl, rfl, h0, r0⟩ := trodAll_cons hA
  obtain ⟨rfl, rfl, rfl⟩ := trodAll_nil r0
  obtain rfl : args = #[v0] := by cases args; simp_all
  obtain ⟨rfl, rfl⟩ := trodVars_none hV
  have k0 := h0
  have lt0 : ∀ x ∈ p0, x.block < W.heap.size := by obtain ⟨m, hm⟩ := k0; exact DataW.trod_lt m _ _ _ hm
  obtain ⟨c0, rfl, hc0⟩ := Cf.cfg_arg (hval 0 44 v0 rfl rfl) h0 hsz (j := 0) rfl rfl
  clear hA0 hval0
  refine (Cf.apart_law c0 _ W (Nat.le_refl _) hc0 : Calls Try.prog 5 _ W fun e w' => e = .returned (.bool true) ∧ Below W.heap.size W w').mono fun e W' ⟨he, bel⟩ => ?_
  subst he
  exact ⟨_, rfl, _, _, _, [], _, [], hW', trodAll_mk1 (shut_bool Try.underlying4 _), (trodAll_cons_mk (Below.trod laidOut (by kernel_rfl) (of_decide_eq_true (by kernel_rfl)) k0 bel lt0) trodAll_mk0), rfl, bel.frame _, fun h => by cases h⟩

theorem over : Rows.configApartRow.holds Try.pinned (OpenSpec.ofChange Rows.configApartSpec) :=
  OpenClaim.holds_of_wide 5 Try.f5 rfl rfl rfl rfl rfl rfl rfl ⟨rfl, rfl, rfl, rfl, rfl⟩ rfl rfl rfl rfl rfl (by kernel_rfl) Try.func5 (by kernel_rfl)
    (of_decide_eq_true (by kernel_rfl)) (by unfold Func.isWrapper; first | (rw [if_pos (by decide +kernel)]; kernel_rfl) | (rw [if_neg (by decide +kernel)]; exact ⟨rfl, rfl⟩))
    (fun os started H enc _ => lifted os started H enc)

theorem proved : Rows.ConfigApartSaid := over
#print axioms proved
end Go.Proofs.Ytmekoanobicddaa.configApart
