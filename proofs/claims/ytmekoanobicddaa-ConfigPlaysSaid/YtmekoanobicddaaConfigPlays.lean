/- All that is told of any configuration is what the document says. For any configuration and any number, hermitagelaw04.ConfigPlays returns true and leaves its lists as they were; it asks for no condition. -/
import Derived.Test.YtmekoanobicddaaVt
import Derived.Deep.Slices
import Derived.Deep.Fields
import Derived.ChangeSame
import Derived.SizedLaws
import Derived.Lib.SmallJoins
import Derived.Test.YtmekoanobicddaaCa
import Derived.Test.YtmekoanobicddaaCu
import Derived.Test.YtmekoanobicddaaRows
import Derived.WalkKit
import Derived.ProofKit
import Derived.OpenShut
import Derived.ShutString
import Derived.ChangeOld
import Derived.Below
namespace Go.Proofs.Ytmekoanobicddaa.Ut
open Go.ChangeShapes Go.WideShapes Go.Deep Go.RowKit

theorem cell_lt {w : World} {a : Addr} {v : Value} (h : w.cell? a = some v) : a.block < w.heap.size := by
  rcases Nat.lt_or_ge a.block w.heap.size with hl | hl
  · exact hl
  · simp [World.cell?, Array.getElem?_eq_none hl] at h

section
variable {H : Type} {enc : TypeId × Value → H} {P : Program} {w : World} {base : Nat} {held : Bool}

/-- the fields of a struct that came in by value -/
theorem open_fields {r : Reach} {b0 : Nat} {t : TypeId} {fs : Array Field} {v : Value} {d : DataW H} {p : List MemPlace} {spare : Nat → Bool} (hs : P.underlying t = some (.struct fs)) (hone : oneCellFields P fs = true) (hC : P.cellsOf t = fs.size)
    (hv : Value.okWide P w r b0 t v) (h : DataW.Trod enc P w base spare held t v d p) :
    ∃ (cs : List Value) (ys : List (DataW H × List MemPlace)) (n : Nat), v = .agg cs.toArray ∧ cs.length = fs.size ∧ d = .agg (ys.map (·.1)) ∧ ys.length = fs.size ∧
      ∀ (j : Nat) (f : Field), fs[j]? = some f → ∃ c y, cs[j]? = some c ∧ ys[j]? = some y ∧ DataW.trod enc P w base spare held n f.type [c] = some y := by
  obtain ⟨cs, rfl, hsz⟩ := okWide_struct hs hv
  obtain ⟨l⟩ := cs
  have hl : l.length = fs.size := by simpa using hsz.trans hC
  obtain ⟨fuel, hf⟩ := h
  obtain ⟨ys, n, _, hx, _, hlen, hg⟩ := DataW.trod_struct hs hf
  simp only [Prod.mk.injEq] at hx
  refine ⟨l, ys, n, rfl, hl, hx.1, hlen, fun j f hj => ?_⟩
  obtain ⟨o1, k1⟩ := hone_of hone j f hj
  have hjl : j < fs.size := (Array.getElem?_eq_some_iff.1 hj).1
  have h1 := hg j f hj
  simp only [Value.cells] at h1
  rw [o1, k1] at h1
  have hd1 : (l.drop j).take 1 = [l[j]'(by omega)] := by
    rw [List.drop_eq_getElem_cons (by omega)]
    rfl
  rw [hd1] at h1
  have hy : ys[j]? = some (ys[j]'(by omega)) := List.getElem?_eq_getElem (by omega)
  exact ⟨_, _, List.getElem?_eq_getElem (by omega), hy, h1.trans hy⟩

/-- a slice of structs of integers -/
theorem open_recs {t e : TypeId} {fs : Array Field} {fuel : Nat} {c : Value} {x : DataW H × List MemPlace} (ht : P.underlying t = some (.slice e)) (he : P.underlying e = some (.struct fs)) (hone : oneCellFields P fs = true) (hC : P.cellsOf e = fs.size)
    (hint : ∀ (j : Nat) (f : Field), fs[j]? = some f → P.underlying f.type = some (.int .i64)) (h0 : 0 < fs.size) (h : DataW.trod enc P w base (fun _ => true) held fuel t [c] = some x) :
    ∃ (a : Option Addr) (n cap : Nat) (Z : Nat → Nat → Int), c = .slice a n cap ∧ n ≤ cap ∧ ((cap = 0) ∨ ∃ el sp, x.1 = .slice el sp ∧ el.length + sp.length = cap) ∧
      ∀ i, i < n → ∃ y, a = some y ∧ y.block < w.heap.size ∧ ∀ j, j < fs.size → w.cell? (y.add (i * fs.size + j)) = some (.int .i64 (Z i j)) ∧ -9223372036854775808 ≤ Z i j ∧ Z i j < 9223372036854775808 := by
  rcases Go.Deep.open_slice ht h with ⟨hc, _⟩ | ⟨a, n, cap, m, q, D, Pl, hc, hb, hl, hm, hmm, hx, hi⟩
  · simp only [List.cons.injEq, and_true] at hc
    exact ⟨none, 0, 0, fun _ _ => 0, hc, Nat.le_refl _, .inl rfl, fun i hi => absurd hi (by omega)⟩
  · simp only [List.cons.injEq, and_true] at hc
    simp only [if_true] at hmm
    subst hmm
    have key : ∀ i j, ∃ z : Int, i < n → j < fs.size → w.cell? (a.add (i * fs.size + j)) = some (.int .i64 z) ∧ -9223372036854775808 ≤ z ∧ z < 9223372036854775808 := fun i j => by
      by_cases h1 : i < n ∧ j < fs.size
      · obtain ⟨cs', hcs, ht'⟩ := hi i (by omega)
        rw [hC] at hcs
        obtain ⟨ys, n', _, _, _, hyl, hf⟩ := DataW.trod_struct he ht'
        obtain ⟨_, hcl, hat⟩ := World.cells?_some hcs
        have hj : fs[j]? = some fs[j] := by simp [h1.2]
        obtain ⟨o1, k1⟩ := hone_of hone j _ hj
        have h2 := hf j _ hj
        rw [o1, k1] at h2
        have hd1 : (cs'.drop j).take 1 = [cs'[j]'(by omega)] := by
          rw [List.drop_eq_getElem_cons (by omega)]
          rfl
        rw [hd1] at h2
        have hy : ys[j]? = some (ys[j]'(by omega)) := List.getElem?_eq_getElem (by omega)
        rw [hy] at h2
        obtain ⟨z, hz, _, hw⟩ := DataW.trod_int (hint j _ hj) h2
        simp only [List.cons.injEq, and_true] at hz
        refine ⟨z, fun _ _ => ⟨?_, wf_i64 hw⟩⟩
        rw [← add_of_add, hat j h1.2, List.getElem?_eq_getElem (by omega), hz]
      · exact ⟨0, fun h2 h3 => absurd ⟨h2, h3⟩ h1⟩
    refine ⟨some a, n, m, fun i j => Classical.choose (key i j), hc, hl, .inr ⟨_, _, by rw [hx], by simp; omega⟩, fun i hin => ?_⟩
    refine ⟨a, rfl, ?_, fun j hj => Classical.choose_spec (key i j) hin hj⟩
    have h1 := Classical.choose_spec (key i 0) hin h0
    have h2 := cell_lt h1.1
    rwa [block_of_add] at h2

/-- what a slice in a field of a struct may take -/
theorem sized_field {ts : List TypeId} {ds : List (DataW H)} (h : (DataW.weightsEach P ts ds).all (· ≤ reachBytes) = true) {j : Nat} {t : TypeId} {fs : Array Field} {parts : List (DataW H)} (ht : ts[j]? = some t) (hd : ds[j]? = some (.agg parts))
    (hu : P.underlying t = some (.struct fs)) {i : Nat} {f : Field} {e : TypeId} {el sp : List (DataW H)} (hf : fs[i]? = some f) (hp : parts[i]? = some (.slice el sp)) (he : P.underlying f.type = some (.slice e)) : (el.length + sp.length) * P.bytesOf e ≤ reachBytes := by
  refine sized_slice (P := P) (ts := fs.toList.map (·.type)) (ds := parts) (j := i) (t := f.type) ?_ (by simp [hf]) hp he
  rw [List.all_eq_true]
  intro q hq
  refine List.all_eq_true.1 h q (DataW.weights_mem_each ht hd q ?_)
  simp only [DataW.weights, hu]
  exact hq
end
end Go.Proofs.Ytmekoanobicddaa.Ut
namespace Go.Proofs.Ytmekoanobicddaa.Cf
open Go.ChangeShapes Go.WideShapes Go.Deep Go.RowKit Ut
set_option linter.unusedVariables false

theorem ints3 {fs : Array Field} {f0 f1 f2 : Field} (h : fs = #[f0, f1, f2]) (h0 : f0.type = 3) (h1 : f1.type = 3) (h2 : f2.type = 3) : ∀ (j : Nat) (f : Field), fs[j]? = some f → Try.prog.underlying f.type = some (.int .i64) := fun j f hj => by
  subst h
  match j, hj with
  | 0, hj => simp at hj; subst hj; rw [h0]; exact Try.underlying3
  | 1, hj => simp at hj; subst hj; rw [h1]; exact Try.underlying3
  | 2, hj => simp at hj; subst hj; rw [h2]; exact Try.underlying3
  | j + 3, hj => simp at hj
theorem ints2 {fs : Array Field} {f0 f1 : Field} (h : fs = #[f0, f1]) (h0 : f0.type = 3) (h1 : f1.type = 3) : ∀ (j : Nat) (f : Field), fs[j]? = some f → Try.prog.underlying f.type = some (.int .i64) := fun j f hj => by
  subst h
  match j, hj with
  | 0, hj => simp at hj; subst hj; rw [h0]; exact Try.underlying3
  | 1, hj => simp at hj; subst hj; rw [h1]; exact Try.underlying3
  | j + 2, hj => simp at hj

section
variable {H : Type} {enc : TypeId × Value → H} {W : World}
set_option maxRecDepth 100000 in
theorem cfg_arg {b0 : Nat} {v : Value} {d : DataW H} {p : List MemPlace} {ts : List TypeId} {ds : List (DataW H)} {j : Nat} (hv : Value.okWide Try.prog W .any b0 44 v) (h : DataW.Trod enc Try.prog W 0 (fun _ => true) true 44 v d p)
    (hsz : (DataW.weightsEach Try.prog ts ds).all (· ≤ reachBytes) = true) (ht : ts[j]? = some 44) (hd : ds[j]? = some d) : ∃ c : Cfg, v = c.v ∧ c.At W W.heap.size := by
  obtain ⟨cs, ys, n, rfl, hl, rfl, hyl, hf⟩ := open_fields Try.underlying44 (by kernel_rfl) (by kernel_rfl) hv h
  obtain ⟨c0, y0, e0, g0, t0⟩ := hf 0 _ rfl
  obtain ⟨c1, y1, e1, g1, t1⟩ := hf 1 _ rfl
  obtain ⟨c2, y2, e2, g2, t2⟩ := hf 2 _ rfl
  obtain ⟨c3, y3, e3, g3, t3⟩ := hf 3 _ rfl
  obtain ⟨c4, y4, e4, g4, t4⟩ := hf 4 _ rfl
  obtain ⟨c5, y5, e5, g5, t5⟩ := hf 5 _ rfl
  obtain ⟨c6, y6, e6, g6, t6⟩ := hf 6 _ rfl
  obtain ⟨c7, y7, e7, g7, t7⟩ := hf 7 _ rfl
  match cs, hl, e0, e1, e2, e3, e4, e5, e6, e7 with
  | [x0, x1, x2, x3, x4, x5, x6, x7], _, e0, e1, e2, e3, e4, e5, e6, e7 =>
    simp only [List.getElem?_cons_zero, List.getElem?_cons_succ, Option.some.injEq] at e0 e1 e2 e3 e4 e5 e6 e7
    subst e0 e1 e2 e3 e4 e5 e6 e7
    obtain ⟨cats, q0, _, w0⟩ := DataW.trod_int Try.underlying3 t0
    obtain ⟨gate, q6, _, w6⟩ := DataW.trod_int Try.underlying3 t6
    obtain ⟨quota, q7, _, w7⟩ := DataW.trod_int Try.underlying3 t7
    simp only [List.cons.injEq, and_true] at q0 q6 q7
    subst q0 q6 q7
    obtain ⟨ga, gn, gc, G, rfl, l1, s1, r1⟩ := open_recs Try.underlying38 Try.underlying57 (by kernel_rfl) (by kernel_rfl) (ints3 rfl rfl rfl rfl) (by decide) t1
    obtain ⟨ra, rn, rc, R, rfl, l2, s2, r2⟩ := open_recs Try.underlying39 Try.underlying90 (by kernel_rfl) (by kernel_rfl) (ints3 rfl rfl rfl rfl) (by decide) t2
    obtain ⟨pa, pn, pc, P, rfl, l3, s3, r3⟩ := open_recs Try.underlying40 Try.underlying62 (by kernel_rfl) (by kernel_rfl) (ints2 rfl rfl rfl) (by decide) t3
    obtain ⟨na, nn, nc, N, rfl, l4, s4, r4⟩ := open_recs Try.underlying41 Try.underlying59 (by kernel_rfl) (by kernel_rfl) (ints2 rfl rfl rfl) (by decide) t4
    obtain ⟨sa, sn, sc, S, rfl, l5, s5, r5⟩ := open_recs Try.underlying42 Try.underlying64 (by kernel_rfl) (by kernel_rfl) (ints2 rfl rfl rfl) (by decide) t5
    have big : ∀ {fs : Array Field} {i : Nat} {f : Field} {e : TypeId} {y : DataW H × List MemPlace} {cap b : Nat}, ys[i]? = some y → (cap = 0 ∨ ∃ el sp, y.1 = .slice el sp ∧ el.length + sp.length = cap) → fs[i]? = some f → Try.prog.underlying f.type = some (.slice e) → Try.prog.bytesOf e = b → 1 ≤ b → Try.prog.underlying 44 = some (.struct fs) → cap ≤ 140737488355328 := by
      intro fs i f e y cap b hy hc hfi hu hb hb1 hst
      rcases hc with rfl | ⟨el, sp, hy1, rfl⟩
      · omega
      · have h1 := sized_field hsz ht hd hst hfi (i := i) (el := el) (sp := sp) (by simp [hy, hy1]) hu
        rw [hb] at h1
        unfold reachBytes at h1
        have h2 : (el.length + sp.length) * 1 ≤ (el.length + sp.length) * b := Nat.mul_le_mul_left _ hb1
        omega
    refine ⟨⟨cats, ga, gn, gc, ra, rn, rc, pa, pn, pc, na, nn, nc, sa, sn, sc, gate, quota, G, R, P, N, S⟩, rfl, r1, r2, r3, r4, r5, ⟨l1, ?_⟩, ⟨l2, ?_⟩, ⟨l3, ?_⟩, ⟨l4, ?_⟩, ⟨l5, ?_⟩, wf_i64 w0, wf_i64 w6, wf_i64 w7⟩
    · exact big (b := 24) g1 s1 rfl Try.underlying38 (by kernel_rfl) (by omega) Try.underlying44
    · exact big (b := 24) g2 s2 rfl Try.underlying39 (by kernel_rfl) (by omega) Try.underlying44
    · exact big (b := 16) g3 s3 rfl Try.underlying40 (by kernel_rfl) (by omega) Try.underlying44
    · exact big (b := 16) g4 s4 rfl Try.underlying41 (by kernel_rfl) (by omega) Try.underlying44
    · exact big (b := 16) g5 s5 rfl Try.underlying42 (by kernel_rfl) (by omega) Try.underlying44
end
end Go.Proofs.Ytmekoanobicddaa.Cf
namespace Go.Proofs.Ytmekoanobicddaa.Cf
open Go.RowKit Ut
set_option linter.unusedVariables false

theorem old_frozen {W V : World} (h : Below W.heap.size W V) (b o : Nat) (hb : b < W.heap.size) : V.frozen? ⟨b, o, none⟩ = W.frozen? ⟨b, o, none⟩ := h.frozen (p := ⟨b, o, none⟩) hb
/-- the result's own two cells -/
def Res2 (W : World) (b : Nat) : Prop := W.heap[b]? = some (.cells #[.int .i64 0, .int .i64 0] 52 (0, 0))
theorem Res2.lt {W : World} {b : Nat} (h : Res2 W b) : b < W.heap.size := (Array.getElem?_eq_some_iff.1 h).1
theorem Res2.below {W V : World} {b : Nat} (h : Res2 W b) (hb : Below W.heap.size W V) : Res2 V b := (hb.block _ h.lt).trans h
theorem Res2.cells {W : World} {b : Nat} (h : Res2 W b) : W.cell? ⟨b, 0, none⟩ = some (.int .i64 0) ∧ W.cell? ⟨b, 1, none⟩ = some (.int .i64 0) ∧ W.frozen? ⟨b, 0, none⟩ = false ∧ W.frozen? ⟨b, 1, none⟩ = false := by
  unfold Res2 at h
  refine ⟨?_, ?_, ?_, ?_⟩ <;> simp [World.cell?, World.frozen?, h]

set_option maxRecDepth 100000 in
set_option maxHeartbeats 4000000 in
theorem Owner_any (c : Cfg) (f : Int) (B : Nat) (w : World) (hB : B ≤ w.heap.size) (hc : c.At w B) :
    Calls Try.prog 25 #[c.v, .int .i64 f] w fun e w' => e = .returned (ownV (ownZ c f)) ∧ Below w.heap.size w w' := by
  have HB0 : Hid (∀ o o' : Obj, Below w.heap.size w ((w.alloc o).alloc o')) := Lib.hid fun o o' => ((Below.refl _ _).alloc (Nat.le_refl _) _).alloc (by simp) _
  have HSet : Hid (∀ (W : World) (o : Nat) (v : Value), Below w.heap.size w W → Below w.heap.size w (W.setCell ⟨w.heap.size + 1, o, none⟩ v)) := Lib.hid fun W o v h => h.setCell (p := ⟨w.heap.size + 1, o, none⟩) (by simp) _
  cases hr : rightB c
  · have HR := isRight_keep c B w hB hc _ hr
    rw [ownZ_not (.inl hr)]
    clear hr hc
    go_enter Try.func25, Try.ntmps25
    go_wp2_with fail
    refine (HR.out _ (HB0.out _ _)).mono ?_
    rintro e w1 ⟨rfl, hb⟩
    have hq := old_cells hb
    have hf := old_frozen hb
    have hz : w.heap.size + 1 < w1.heap.size := by have := hb.size; simp at this; omega
    have hbw : Below w.heap.size w w1 := (HB0.out _ _).trans (hb.mono (by simp; omega))
    go_wp2
    exact bodyPost_ret (v := ownV (0, 0)) (by simp [results, Try.results25, go_sem, hq]) rfl ⟨rfl, HSet.out _ _ _ (HSet.out _ _ _ hbw)⟩
  · have HR := isRight_keep c B w hB hc _ hr
    obtain ⟨hn4, _, hs⟩ := right_small hr
    have hnn := right_rings hr
    have hbd := sumG_bd hs c.gn (Nat.le_refl _)
    have HS := Lib.hid hs
    have HN : Hid (need c = sumG c.G c.gn + c.nn) := Lib.hid rfl
    have HF : Hid (∀ W, Below w.heap.size w W → Calls Try.prog 54 #[c.v] W fun e w' => e = .returned (.int .i64 (need c)) ∧ Below W.heap.size W w') := Lib.hid fun W hW => frames_any c B W (by have := hW.size; omega) (hc.below (hW.mono hB)) hn4 hs
    by_cases h0 : f < 0
    · rw [ownZ_not (.inr (.inl h0))]
      clear hr hc hs HF
      go_enter Try.func25, Try.ntmps25
      go_wp2_with fail
      refine (HR.out _ (HB0.out _ _)).mono ?_
      rintro e w1 ⟨rfl, hb⟩
      have hq := old_cells hb
      have hf := old_frozen hb
      have hz : w.heap.size + 1 < w1.heap.size := by have := hb.size; simp at this; omega
      have hbw : Below w.heap.size w w1 := (HB0.out _ _).trans (hb.mono (by simp; omega))
      go_wp2
      exact bodyPost_ret (v := ownV (0, 0)) (by simp [results, Try.results25, go_sem, hq]) rfl ⟨rfl, HSet.out _ _ _ (HSet.out _ _ _ hbw)⟩
    · obtain ⟨nd, hnd⟩ : ∃ nd, nd = need c := ⟨_, rfl⟩
      have HNd := Lib.hid hnd
      rw [← hnd] at HF HN
      clear hnd
      by_cases h1 : nd ≤ f
      · rw [ownZ_not (.inr (.inr (by rw [← HNd.out]; exact h1)))]
        clear hr hc hs
        have h1b : decide (nd ≤ f) = true := decide_eq_true h1
        go_enter Try.func25, Try.ntmps25
        go_wp2_with fail
        refine (HR.out _ (HB0.out _ _)).mono ?_
        rintro e w1 ⟨rfl, hb⟩
        have hq := old_cells hb
        have hz : w.heap.size + 1 < w1.heap.size := by have := hb.size; simp at this; omega
        have hz0 : w.heap.size < w1.heap.size := by omega
        have hbw : Below w.heap.size w w1 := (HB0.out _ _).trans (hb.mono (by simp; omega))
        have HRs : Hid (Res2 w1 (w.heap.size + 1)) := Lib.hid ((hb.block _ (by simp)).trans (by simpa using heap_alloc_new (w.alloc (.cells c.cs 44)) (.cells #[.int .i64 0, .int .i64 0] 52)))
        go_wp2_with fail
        refine (HF.out _ hbw).mono ?_
        rintro e w2 ⟨rfl, hb2⟩
        clear hq hb
        obtain ⟨r0, r1, r2, r3⟩ := (HRs.out.below hb2).cells
        have hbw2 := hbw.trans (hb2.mono (by omega))
        go_wp2
        exact bodyPost_ret (v := ownV (0, 0)) (by simp [results, Try.results25, go_sem, r0, r1]) rfl ⟨rfl, HSet.out _ _ _ (HSet.out _ _ _ hbw2)⟩
      · have HG : Hid (RowT 3 w B c.ga c.gn c.G) := Lib.hid hc.g
        have HOg : Hid (∀ k, k < c.gn → f < sumG c.G (k + 1) → (∀ j, j < k → sumG c.G (j + 1) ≤ f) → ownZ c f = (1, (k : Int))) := Lib.hid fun k hk h2 h3 => ownZ_guest hr (by omega) (by rw [← HNd.out]; omega) hk h2 h3
        have HOr : Hid ((∀ j, j < c.gn → sumG c.G (j + 1) ≤ f) → ownZ c f = (2, f - sumG c.G c.gn)) := Lib.hid fun h3 => ownZ_ring hr (by omega) (by rw [← HNd.out]; omega) h3
        obtain ⟨ow, how⟩ : ∃ ow, ow = ownZ c f := ⟨_, rfl⟩
        rw [← how] at HOg HOr ⊢
        have hlg := hc.lg
        clear hr hc how hs HNd
        have hfb : f < 40 := by have := HN.out; omega
        clear hbd
        obtain ⟨cats, ga, gn, gc, ra, rn, rc, pa, pn, pc, na, nn, nc, sa, sn, sc, gate, quota, G, R, P, N, S⟩ := c
        dsimp only at HG HOg HOr HF HN HR HS hn4 hnn hlg
        go_enter Try.func25, Try.ntmps25
        go_wp2_with fail
        refine (HR.out _ (HB0.out _ _)).mono ?_
        rintro e w1 ⟨rfl, hb⟩
        have hq := old_cells hb
        have hz : w.heap.size + 1 < w1.heap.size := by have := hb.size; simp at this; omega
        have hz0 : w.heap.size < w1.heap.size := by omega
        have hbw : Below w.heap.size w w1 := (HB0.out _ _).trans (hb.mono (by simp; omega))
        have HRs : Hid (Res2 w1 (w.heap.size + 1)) := Lib.hid ((hb.block _ (by simp)).trans (by simpa using heap_alloc_new (w.alloc (.cells #[.int .i64 cats, .slice ga gn gc, .slice ra rn rc, .slice pa pn pc, .slice na nn nc, .slice sa sn sc, .int .i64 gate, .int .i64 quota] 44)) (.cells #[.int .i64 0, .int .i64 0] 52)))
        have HK1 : Hid (w1.cell? ⟨w.heap.size, 1, none⟩ = some (.slice ga gn gc)) := Lib.hid (by rw [hq _ 1 (by simp; omega)]; simp)
        go_wp2_with fail
        refine (HF.out _ hbw).mono ?_
        rintro e w2 ⟨rfl, hb2⟩
        clear hq hb
        have HRs2 := Lib.hid (HRs.out.below hb2)
        have k1 := (old_cells hb2 _ 1 hz0).trans HK1.out
        have hbw2 := hbw.trans (hb2.mono (by omega))
        have hz2 : w.heap.size < w2.heap.size := by have := hb2.size; omega
        clear hb2 HK1 HRs
        go_wp2
        clear k1
        go_loopw [1, 24] (fun v i wr => ∃ k : Nat, k ≤ gn ∧ v = .int .i64 (f - sumG G k) ∧ i = .int .i64 k ∧ Hid (∀ j, j < k → sumG G (j + 1) ≤ f) ∧ Hid (sumG G k ≤ f) ∧ Below w.heap.size w wr ∧ Hid (Res2 wr (w.heap.size + 1))) (fun _ i _ => gn - (intOf i).toNat)
        case atStart => exact ⟨0, Nat.zero_le _, by simp [sumG], rfl, fun j hj => absurd hj (by omega), Lib.hid (by simp [sumG]; omega), hbw2, HRs2⟩
        case round =>
          obtain ⟨k, hk, rfl, rfl, hno, hle, hb, HRw⟩ := hrel
          obtain ⟨r0, r1, r2, r3⟩ := HRw.out.cells
          by_cases hlt : k < gn
          · obtain ⟨x, rfl, hx, c0, c1, c2⟩ := (HG.out.below (hb.mono hB)).at3 k hlt
            have hbl := (HG.out.bd k 0 hlt (by omega))
            have hsb := sumG_bd HS.out k hk
            have hst := HS.out k hlt
            have hsn : Hid (sumG G (k + 1) = sumG G k + (G k 1 + G k 2)) := Lib.hid rfl
            have hle2 := hle.out
            have b0 : (0 : Int) ≤ (k : Int) := by omega
            have b1 : (k : Int) < (gn : Int) := by omega
            obtain ⟨s, hs⟩ : ∃ s, s = sumG G k := ⟨_, rfl⟩
            obtain ⟨l, hl⟩ : ∃ l, l = G k 0 := ⟨_, rfl⟩
            obtain ⟨p, hp⟩ : ∃ p, p = G k 1 := ⟨_, rfl⟩
            obtain ⟨q, hq⟩ : ∃ q, q = G k 2 := ⟨_, rfl⟩
            rw [← hs, ← hp, ← hq] at hsn
            rw [← hs] at hsb hle2 ⊢
            rw [← hp, ← hq] at hst
            rw [← hl] at c0 hbl
            rw [← hp] at c1
            rw [← hq] at c2
            clear hs hl hp hq
            have HOne : Hid (∀ (b : Nat) (W : World), W.heap[b]? = some (.cells #[.int .i64 l, .int .i64 p, .int .i64 q] 57 (0, 0)) → Calls Try.prog 56 #[.slice (some ⟨b, 0, none⟩) 1 1] W fun e w' => e = .returned (.int .i64 (p + q)) ∧ Below W.heap.size W w') :=
              Lib.hid fun b W h => oneGuest_any l p q b W (Array.getElem?_eq_some_iff.1 h).1 h hst hbl
            obtain ⟨t1, t2, t3⟩ := two_new wr (.cells #[.int .i64 l, .int .i64 p, .int .i64 q] 57) (.cells #[.int .i64 l, .int .i64 p, .int .i64 q] 57)
            have T1 := Lib.hid t1
            have T2 := Lib.hid t2
            have T3 := Lib.hid t3
            clear t1 t2 t3
            by_cases hf : f < s + (p + q)
            · have HE : Hid (ow = (1, (k : Int))) := Lib.hid (HOg.out k hlt (by rw [hsn.out]; exact hf) hno.out)
              have hfd : f - s < p + q := by omega
              have hfd2 : decide (f - s < p + q) = true := decide_eq_true hfd
              go_wp2_with fail
              refine (HOne.out _ _ T1.out).mono ?_
              rintro e w3 ⟨rfl, hb3⟩
              have hb30 := T3.out.trans (hb3.mono T3.out.size)
              have hb31 : Below w.heap.size w w3 := hb.trans (hb30.mono hb.size)
              have HRw3 := Lib.hid (HRw.out.below hb30)
              clear r0 r1 r2 r3
              obtain ⟨r0, r1, r2, r3⟩ := HRw3.out.cells
              go_wp2
              exact bodyPost_ret (v := ownV (1, (k : Int))) (by simp [results, Try.results25, go_sem, r0, r1]) rfl ⟨by rw [HE.out], HSet.out _ _ _ (HSet.out _ _ _ hb31)⟩
            · have hfd : ¬ f - s < p + q := by omega
              have hfd2 : decide (f - s < p + q) = false := decide_eq_false hfd
              have HN1 : Hid (∀ j, j < k + 1 → sumG G (j + 1) ≤ f) := Lib.hid fun j hj => by
                by_cases e : j = k
                · rw [e, hsn.out]; omega
                · exact hno.out j (by omega)
              go_wp2_with fail
              refine (HOne.out _ _ T1.out).mono ?_
              rintro e w3 ⟨rfl, hb3⟩
              have hb30 := T3.out.trans (hb3.mono T3.out.size)
              have hb31 : Below w.heap.size w w3 := hb.trans (hb30.mono hb.size)
              have HRw3 := Lib.hid (HRw.out.below hb30)
              have HG3 : Hid (w3.heap[wr.heap.size]? = some (.cells #[.int .i64 l, .int .i64 p, .int .i64 q] 57 (0, 0))) := Lib.hid ((hb3.block _ (by simp; omega)).trans T2.out)
              clear r0 r1 r2 r3 c0 c1 c2
              obtain ⟨g0, g1, g2⟩ := cells3 HG3.out
              obtain ⟨rb, hrb⟩ : ∃ rb, rb = wr.heap.size := ⟨_, rfl⟩
              rw [← hrb] at HG3 g0 g1 g2 ⊢
              clear hrb
              obtain ⟨u1, _, u3⟩ := two_new w3 (.cells #[.int .i64 l, .int .i64 p, .int .i64 q] 57) (.cells #[.int .i64 l, .int .i64 p, .int .i64 q] 57)
              have U := Lib.hid (heap_alloc_new w3 (.cells #[.int .i64 l, .int .i64 p, .int .i64 q] 57))
              have U3 : Hid (Below w3.heap.size w3 (w3.alloc (.cells #[.int .i64 l, .int .i64 p, .int .i64 q] 57))) := Lib.hid ((Below.refl _ _).alloc (Nat.le_refl _) _)
              clear u1 u3
              go_wp2_with fail
              refine (HOne.out _ _ U.out).mono ?_
              rintro e w4 ⟨rfl, hb4⟩
              have hb40 := U3.out.trans (hb4.mono U3.out.size)
              go_wp2
              go_roundw
              case rel => exact ⟨k + 1, by omega, by rw [hsn.out]; congr 1; omega, by go_num, HN1, Lib.hid (by rw [hsn.out]; omega), hb31.trans (hb40.mono hb31.size), Lib.hid (HRw3.out.below hb40)⟩
              case measure => simp [intOf]; omega
          · have hkn : k = gn := by omega
            subst hkn
            have b1 : ¬ (k : Int) < (k : Int) := by omega
            have HE : Hid (ow = (2, f - sumG G k)) := Lib.hid (HOr.out hno.out)
            go_wp2
            exact bodyPost_ret (v := ownV (2, f - sumG G k)) (by simp [results, Try.results25, go_sem, r0, r1]) rfl ⟨by rw [HE.out], HSet.out _ _ _ (HSet.out _ _ _ hb)⟩
end Go.Proofs.Ytmekoanobicddaa.Cf
namespace Go.Proofs.Ytmekoanobicddaa.Cf
open Go.RowKit Ut
set_option linter.unusedVariables false

set_option maxRecDepth 100000 in
set_option maxHeartbeats 4000000 in
theorem refOwner_any (c : Cfg) (f : Int) (B : Nat) (w : World) (hB : B ≤ w.heap.size) (hc : c.At w B) (hf63 : f < 9223372036854775808) :
    Calls Try.prog 26 #[c.v, .int .i64 f] w fun e w' => e = .returned (ownV (ownZ c f)) ∧ Below w.heap.size w w' := by
  have HB0 : Hid (∀ o o' : Obj, Below w.heap.size w ((w.alloc o).alloc o')) := Lib.hid fun o o' => ((Below.refl _ _).alloc (Nat.le_refl _) _).alloc (by simp) _
  have HSet : Hid (∀ (W : World) (o : Nat) (v : Value), Below w.heap.size w W → Below w.heap.size w (W.setCell ⟨w.heap.size + 1, o, none⟩ v)) := Lib.hid fun W o v h => h.setCell (p := ⟨w.heap.size + 1, o, none⟩) (by simp) _
  cases hr : rightB c
  · have HR := refRight_keep c B w hB hc _ hr
    rw [ownZ_not (.inl hr)]
    clear hr hc
    go_enter Try.func26, Try.ntmps26
    go_wp2_with fail
    refine (HR.out _ (HB0.out _ _)).mono ?_
    rintro e w1 ⟨rfl, hb⟩
    have hq := old_cells hb
    have hf := old_frozen hb
    have hz : w.heap.size + 1 < w1.heap.size := by have := hb.size; simp at this; omega
    have hbw : Below w.heap.size w w1 := (HB0.out _ _).trans (hb.mono (by simp; omega))
    go_wp2
    exact bodyPost_ret (v := ownV (0, 0)) (by simp [results, Try.results26, go_sem, hq]) rfl ⟨rfl, HSet.out _ _ _ (HSet.out _ _ _ hbw)⟩
  · have HR := refRight_keep c B w hB hc _ hr
    obtain ⟨hn4, _, hs⟩ := right_small hr
    have hnn := right_rings hr
    have hbd := sumG_bd hs c.gn (Nat.le_refl _)
    have HS := Lib.hid hs
    have HN : Hid (need c = sumG c.G c.gn + c.nn) := Lib.hid rfl
    by_cases h0 : f < 0
    · rw [ownZ_not (.inr (.inl h0))]
      clear hr hc hs
      go_enter Try.func26, Try.ntmps26
      go_wp2_with fail
      refine (HR.out _ (HB0.out _ _)).mono ?_
      rintro e w1 ⟨rfl, hb⟩
      have hq := old_cells hb
      have hf := old_frozen hb
      have hz : w.heap.size + 1 < w1.heap.size := by have := hb.size; simp at this; omega
      have hbw : Below w.heap.size w w1 := (HB0.out _ _).trans (hb.mono (by simp; omega))
      go_wp2
      exact bodyPost_ret (v := ownV (0, 0)) (by simp [results, Try.results26, go_sem, hq]) rfl ⟨rfl, HSet.out _ _ _ (HSet.out _ _ _ hbw)⟩
    · have HG : Hid (RowT 3 w B c.ga c.gn c.G) := Lib.hid hc.g
      have HOg : Hid (∀ k, k < c.gn → f < sumG c.G (k + 1) → (∀ j, j < k → sumG c.G (j + 1) ≤ f) → ownZ c f = (1, (k : Int))) := Lib.hid fun k hk h2 h3 => ownZ_guest hr (by omega) (by
        have h4 : ∀ m, k + 1 ≤ m → m ≤ c.gn → sumG c.G (k + 1) ≤ sumG c.G m := fun m h5 => by
          induction m with
          | zero => omega
          | succ m ih =>
            intro h6
            by_cases e : k = m
            · rw [e]; exact Int.le_refl _
            · have h7 := ih (by omega) (by omega)
              have h8 := hs m (by omega)
              have h9 : sumG c.G (m + 1) = sumG c.G m + (c.G m 1 + c.G m 2) := rfl
              omega
        have h5 := h4 c.gn (by omega) (Nat.le_refl _)
        have h6 := HN.out
        omega) hk h2 h3
      have HOr : Hid ((∀ j, j < c.gn → sumG c.G (j + 1) ≤ f) → (f - sumG c.G c.gn < c.nn ∧ ownZ c f = (2, f - sumG c.G c.gn)) ∨ ((c.nn : Int) ≤ f - sumG c.G c.gn ∧ ownZ c f = (0, 0))) := Lib.hid fun h3 => by
        by_cases h4 : f < need c
        · exact .inl ⟨by have := HN.out; omega, ownZ_ring hr (by omega) h4 h3⟩
        · exact .inr ⟨by have := HN.out; omega, ownZ_not (.inr (.inr (by omega)))⟩
      obtain ⟨ow, how⟩ : ∃ ow, ow = ownZ c f := ⟨_, rfl⟩
      rw [← how] at HOg HOr ⊢
      have hlg := hc.lg
      have HBd : Hid (0 ≤ sumG c.G c.gn ∧ sumG c.G c.gn ≤ 32) := Lib.hid (by omega)
      clear hr hc how hs hbd HN
      obtain ⟨cats, ga, gn, gc, ra, rn, rc, pa, pn, pc, na, nn, nc, sa, sn, sc, gate, quota, G, R, P, N, S⟩ := c
      dsimp only at HG HOg HOr HR HS hn4 hnn hlg HBd
      go_enter Try.func26, Try.ntmps26
      go_wp2_with fail
      refine (HR.out _ (HB0.out _ _)).mono ?_
      rintro e w1 ⟨rfl, hb⟩
      have hq := old_cells hb
      have hz : w.heap.size + 1 < w1.heap.size := by have := hb.size; simp at this; omega
      have hz0 : w.heap.size < w1.heap.size := by omega
      have hbw : Below w.heap.size w w1 := (HB0.out _ _).trans (hb.mono (by simp; omega))
      have HRs : Hid (Res2 w1 (w.heap.size + 1)) := Lib.hid ((hb.block _ (by simp)).trans (by simpa using heap_alloc_new (w.alloc (.cells #[.int .i64 cats, .slice ga gn gc, .slice ra rn rc, .slice pa pn pc, .slice na nn nc, .slice sa sn sc, .int .i64 gate, .int .i64 quota] 44)) (.cells #[.int .i64 0, .int .i64 0] 52)))
      have HK1 : Hid (w1.cell? ⟨w.heap.size, 1, none⟩ = some (.slice ga gn gc)) := Lib.hid (by rw [hq _ 1 (by simp; omega)]; simp)
      have HK4 : Hid (w1.cell? ⟨w.heap.size, 4, none⟩ = some (.slice na nn nc)) := Lib.hid (by rw [hq _ 4 (by simp; omega)]; simp)
      clear hb hq
      go_wp2
      go_loopw [5, 6] (fun v i wr => ∃ k : Nat, k ≤ gn ∧ v = .int .i64 (sumG G k) ∧ i = .int .i64 k ∧ Hid (∀ j, j < k → sumG G (j + 1) ≤ f) ∧ Below w1.heap.size w1 wr) (fun _ i _ => gn - (intOf i).toNat)
      case atStart => exact ⟨0, Nat.zero_le _, by simp [sumG], rfl, fun j hj => absurd hj (by omega), Below.refl _ _⟩
      case round =>
        obtain ⟨k, hk, rfl, rfl, hno, hb⟩ := hrel
        obtain ⟨r0, r1, r2, r3⟩ := (HRs.out.below hb).cells
        have k1 := (old_cells hb _ 1 hz0).trans HK1.out
        have k4 := (old_cells hb _ 4 hz0).trans HK4.out
        have hbk : Below w.heap.size w wr := hbw.trans (hb.mono (by omega))
        have sr : w.heap.size < wr.heap.size := by have := hb.size; omega
        by_cases hlt : k < gn
        · obtain ⟨x, rfl, hx, c0, c1, c2⟩ := (HG.out.below (hbk.mono hB)).at3 k hlt
          have hxs : (x.add (k * 3)).block < wr.heap.size := by rw [block_of_add]; omega
          have hsb := sumG_bd HS.out k hk
          have hst := HS.out k hlt
          have hsn : Hid (sumG G (k + 1) = sumG G k + (G k 1 + G k 2)) := Lib.hid rfl
          have b0 : (0 : Int) ≤ (k : Int) := by omega
          have b1 : (k : Int) < (gn : Int) := by omega
          obtain ⟨s, hs⟩ : ∃ s, s = sumG G k := ⟨_, rfl⟩
          obtain ⟨p, hp⟩ : ∃ p, p = G k 1 := ⟨_, rfl⟩
          obtain ⟨q, hq⟩ : ∃ q, q = G k 2 := ⟨_, rfl⟩
          rw [← hs, ← hp, ← hq] at hsn
          rw [← hs] at hsb ⊢
          rw [← hp, ← hq] at hst
          rw [← hp] at c1
          rw [← hq] at c2
          clear hs hp hq c0
          have hw1 : IntKind.i64.wrap (s + p) = s + p := IntWalk.i64_in _ (by omega)
          have hw2 : IntKind.i64.wrap (s + p + q) = s + p + q := IntWalk.i64_in _ (by omega)
          go_wp2
          apply wp_region_auto [22, 23, 24, 25, 26, 27, 28, 29, 30, 31, 32, 33, 34, 35, 36] [_, _, _, _, _, _, _, _, _, _, _, _, _, _, _] (fun W' => Below wr.heap.size wr W')
          case hm => kernel_rfl
          case hT => intro y; simp only [setAll, List.setIfInBounds_toArray, List.set_cons_succ, List.set_cons_zero]; exact rfl
          case hok => kernel_rfl
          case hn => decide
          case hw => exact (Below.refl _ _).drew
          case hs =>
            refine auto_op 22 [] (by kernel_rfl) (fun y w' HW hd K hK => ?_) ?_
            · go_simp
              refine hK _ _ ?_ ?_ HW
              · simp [upd]
              · exact rfl
            refine auto_op 23 [] (by kernel_rfl) (fun y w' HW hd K hK => ?_) ?_
            · go_simp
              refine hK _ _ ?_ ?_ HW
              · simp [upd]
              · exact rfl
            refine auto_op 24 [1] (by kernel_rfl) (fun y w' HW hd K hK => ?_) ?_
            · have e1 := hd_nth (hd 1 (by simp)) rfl
              have hcl : ∀ p : Addr, p.block < wr.heap.size → w'.cell? p = wr.cell? p := fun p hp => HW.cell hp
              go_simp
              refine hK _ _ ?_ ?_ HW
              · simp [upd, e1]
              · exact rfl
            refine auto_op 25 [] (by kernel_rfl) (fun y w' HW hd K hK => ?_) ?_
            · go_simp
              refine hK _ _ ?_ ?_ HW
              · simp [upd]
              · exact rfl
            refine auto_op 26 [2, 3] (by kernel_rfl) (fun y w' HW hd K hK => ?_) ?_
            · have e2 := hd_nth (hd 2 (by simp)) rfl
              have e3 := hd_nth (hd 3 (by simp)) rfl
              go_simp
              refine hK _ _ ?_ ?_ HW
              · simp [upd, e2, e3]
              · exact rfl
            refine auto_op 27 [4] (by kernel_rfl) (fun y w' HW hd K hK => ?_) ?_
            · have e4 := hd_nth (hd 4 (by simp)) rfl
              go_simp
              refine hK _ _ ?_ ?_ HW
              · simp [upd, e4]
              · exact rfl
            refine auto_op 28 [5] (by kernel_rfl) (fun y w' HW hd K hK => ?_) ?_
            · have e5 := hd_nth (hd 5 (by simp)) rfl
              have hcl : ∀ p : Addr, p.block < wr.heap.size → w'.cell? p = wr.cell? p := fun p hp => HW.cell hp
              go_simp
              refine hK _ _ ?_ ?_ HW
              · simp [upd, e5]
              · exact rfl
            refine auto_op 29 [0, 6] (by kernel_rfl) (fun y w' HW hd K hK => ?_) ?_
            · have e0 := hd_nth (hd 0 (by simp)) rfl
              have e6 := hd_nth (hd 6 (by simp)) rfl
              go_simp
              refine hK _ _ ?_ ?_ HW
              · simp [upd, e0, e6]
              · exact rfl
            refine auto_op 30 [] (by kernel_rfl) (fun y w' HW hd K hK => ?_) ?_
            · go_simp
              refine hK _ _ ?_ ?_ HW
              · simp [upd]
              · exact rfl
            refine auto_op 31 [8] (by kernel_rfl) (fun y w' HW hd K hK => ?_) ?_
            · have e8 := hd_nth (hd 8 (by simp)) rfl
              have hcl : ∀ p : Addr, p.block < wr.heap.size → w'.cell? p = wr.cell? p := fun p hp => HW.cell hp
              go_simp
              refine hK _ _ ?_ ?_ HW
              · simp [upd, e8]
              · exact rfl
            refine auto_op 32 [] (by kernel_rfl) (fun y w' HW hd K hK => ?_) ?_
            · go_simp
              refine hK _ _ ?_ ?_ HW
              · simp [upd]
              · exact rfl
            refine auto_op 33 [9, 10] (by kernel_rfl) (fun y w' HW hd K hK => ?_) ?_
            · have e9 := hd_nth (hd 9 (by simp)) rfl
              have e10 := hd_nth (hd 10 (by simp)) rfl
              go_simp
              refine hK _ _ ?_ ?_ HW
              · simp [upd, e9, e10]
              · exact rfl
            refine auto_op 34 [11] (by kernel_rfl) (fun y w' HW hd K hK => ?_) ?_
            · have e11 := hd_nth (hd 11 (by simp)) rfl
              go_simp
              refine hK _ _ ?_ ?_ HW
              · simp [upd, e11]
              · exact rfl
            refine auto_op 35 [12] (by kernel_rfl) (fun y w' HW hd K hK => ?_) ?_
            · have e12 := hd_nth (hd 12 (by simp)) rfl
              have hcl : ∀ p : Addr, p.block < wr.heap.size → w'.cell? p = wr.cell? p := fun p hp => HW.cell hp
              go_simp
              refine hK _ _ ?_ ?_ HW
              · simp [upd, e12]
              · exact rfl
            refine auto_op 36 [7, 13] (by kernel_rfl) (fun y w' HW hd K hK => ?_) ?_
            · have e7 := hd_nth (hd 7 (by simp)) rfl
              have e13 := hd_nth (hd 13 (by simp)) rfl
              go_simp
              refine hK _ _ ?_ ?_ HW
              · simp [upd, e7, e13]
              · exact rfl
            refine auto_last fun y w' HW hd K hK => ?_
            have e0 := hd_nth (hd 0 (by omega)) rfl
            have e1 := hd_nth (hd 1 (by omega)) rfl
            have e2 := hd_nth (hd 2 (by omega)) rfl
            have e3 := hd_nth (hd 3 (by omega)) rfl
            have e4 := hd_nth (hd 4 (by omega)) rfl
            have e5 := hd_nth (hd 5 (by omega)) rfl
            have e6 := hd_nth (hd 6 (by omega)) rfl
            have e7 := hd_nth (hd 7 (by omega)) rfl
            have e8 := hd_nth (hd 8 (by omega)) rfl
            have e9 := hd_nth (hd 9 (by omega)) rfl
            have e10 := hd_nth (hd 10 (by omega)) rfl
            have e11 := hd_nth (hd 11 (by omega)) rfl
            have e12 := hd_nth (hd 12 (by omega)) rfl
            have e13 := hd_nth (hd 13 (by omega)) rfl
            have e14 := hd_nth (hd 14 (by omega)) rfl
            go_simp
            refine hK _ _ ?_
            clear hd hK K e0 e1 e2 e3 e4 e5 e6 e7 e8 e9 e10 e11 e12 e13 e14
            clear hw1 hw2 c1 c2 k1 k4 r0 r1 r2 r3
            obtain ⟨r0, r1, r2, r3⟩ := (HRs.out.below (hb.trans (HW.mono hb.size))).cells
            have hbk2 := hbk.trans (HW.mono hbk.size)
            have hb2 := hb.trans (HW.mono hb.size)
            clear HW
            by_cases hf : f < s + p + q
            · have HE : Hid (ow = (1, (k : Int))) := Lib.hid (HOg.out k hlt (by rw [hsn.out]; omega) hno.out)
              have hfd2 : decide (f < s + p + q) = true := decide_eq_true hf
              go_wp2
              exact bodyPost_ret (v := ownV (1, (k : Int))) (by simp [results, Try.results26, go_sem, r0, r1]) rfl ⟨by rw [HE.out], HSet.out _ _ _ (HSet.out _ _ _ hbk2)⟩
            · have hfd2 : decide (f < s + p + q) = false := decide_eq_false hf
              have HN1 : Hid (∀ j, j < k + 1 → sumG G (j + 1) ≤ f) := Lib.hid fun j hj => by
                by_cases e : j = k
                · rw [e, hsn.out]; omega
                · exact hno.out j (by omega)
              go_wp2
              go_roundw
              case rel => exact ⟨k + 1, by omega, by rw [hsn.out]; congr 1; omega, by go_num, HN1, hb2⟩
              case measure => simp [intOf]; omega
        · have hkn : k = gn := by omega
          subst hkn
          have b1 : ¬ (k : Int) < (k : Int) := by omega
          obtain ⟨s, hs⟩ : ∃ s, s = sumG G k := ⟨_, rfl⟩
          have hbs := HBd.out
          have hor := HOr.out hno.out
          rw [← hs] at hbs hor ⊢
          clear hs
          rcases hor with ⟨t1, hF⟩ | ⟨t1, hF⟩
          · have HE := Lib.hid hF
            have t1b : decide (f - s < (nn : Int)) = true := decide_eq_true t1
            clear hF
            go_wp2
            exact bodyPost_ret (v := ownV (2, f - s)) (by simp [results, Try.results26, go_sem, r0, r1]) rfl ⟨by rw [HE.out], HSet.out _ _ _ (HSet.out _ _ _ hbk)⟩
          · have HE := Lib.hid hF
            have t1n : ¬ f - s < (nn : Int) := by omega
            have t1b : decide (f - s < (nn : Int)) = false := decide_eq_false t1n
            clear hF
            go_wp2
            exact bodyPost_ret (v := ownV (0, 0)) (by simp [results, Try.results26, go_sem, r0, r1]) rfl ⟨by rw [HE.out], HSet.out _ _ _ (HSet.out _ _ _ hbk)⟩
end Go.Proofs.Ytmekoanobicddaa.Cf
namespace Go.Proofs.Ytmekoanobicddaa.Cf
open Go.RowKit Ut
set_option linter.unusedVariables false

/-- one guest, one slot -/
def smallC (a b : Nat) : Cfg where
  cats := 1
  ga := some ⟨a, 0, none⟩
  gn := 1
  gc := 1
  ra := none
  rn := 0
  rc := 0
  pa := none
  pn := 0
  pc := 0
  na := none
  nn := 0
  nc := 0
  sa := some ⟨b, 0, none⟩
  sn := 1
  sc := 1
  gate := -1
  quota := 0
  G := fun _ j => if j = 0 then 1 else if j = 1 then 4 else 0
  R := fun _ _ => 0
  P := fun _ _ => 0
  N := fun _ _ => 0
  S := fun _ j => if j = 0 then 0 else 5
theorem small_check (a b : Nat) : check (smallC a b) = (0, 0) := by kernel_rfl
theorem small_frames (a b : Nat) : framesZ (smallC a b) = 4 := by kernel_rfl
theorem small_period (a b : Nat) : periodZ (smallC a b) = 5 := by kernel_rfl
theorem small_at {W : World} {a b : Nat} {t t' : TypeId} (ha : W.heap[a]? = some (.cells #[.int .i64 1, .int .i64 4, .int .i64 0] t (0, 0))) (hb : W.heap[b]? = some (.cells #[.int .i64 0, .int .i64 5] t' (0, 0))) : (smallC a b).At W W.heap.size where
  g := fun i hi => ⟨⟨a, 0, none⟩, rfl, (Array.getElem?_eq_some_iff.1 ha).1, fun j hj => by
    have hi' : i < 1 := hi
    obtain rfl : i = 0 := by omega
    rw [add_plain]
    match j, hj with
    | 0, _ => exact ⟨by simp [World.cell?, ha, smallC], by simp [smallC], by simp [smallC]⟩
    | 1, _ => exact ⟨by simp [World.cell?, ha, smallC], by simp [smallC], by simp [smallC]⟩
    | 2, _ => exact ⟨by simp [World.cell?, ha, smallC], by simp [smallC], by simp [smallC]⟩
    | j + 3, hj => omega⟩
  r := fun i hi => absurd hi (Nat.not_lt_zero _)
  p := fun i hi => absurd hi (Nat.not_lt_zero _)
  n := fun i hi => absurd hi (Nat.not_lt_zero _)
  s := fun i hi => ⟨⟨b, 0, none⟩, rfl, (Array.getElem?_eq_some_iff.1 hb).1, fun j hj => by
    have hi' : i < 1 := hi
    obtain rfl : i = 0 := by omega
    rw [add_plain]
    match j, hj with
    | 0, _ => exact ⟨by simp [World.cell?, hb, smallC], by simp [smallC], by simp [smallC]⟩
    | 1, _ => exact ⟨by simp [World.cell?, hb, smallC], by simp [smallC], by simp [smallC]⟩
    | j + 2, hj => omega⟩
  lg := ⟨by simp [smallC], by simp [smallC]⟩
  lr := ⟨by simp [smallC], by simp [smallC]⟩
  lp := ⟨by simp [smallC], by simp [smallC]⟩
  ln := ⟨by simp [smallC], by simp [smallC]⟩
  ls := ⟨by simp [smallC], by simp [smallC]⟩
  i1 := ⟨by simp [smallC], by simp [smallC]⟩
  i2 := ⟨by simp [smallC], by simp [smallC]⟩
  i3 := ⟨by simp [smallC], by simp [smallC]⟩

structure SmallPost (w : World) (e : Ending) (W : World) : Prop where
  all : ∃ a b, e = .returned (smallC a b).v ∧ (smallC a b).At W W.heap.size ∧ Below w.heap.size w W
set_option maxRecDepth 100000 in
theorem small_any (w : World) : Calls Try.prog 45 #[] w (SmallPost w) := by
  obtain ⟨PR, hPR⟩ : ∃ PR, PR = SmallPost w := ⟨_, rfl⟩
  have HPR : Hid (∀ e W, SmallPost w e W → PR e W) := Lib.hid fun e W h => by rw [hPR]; exact h
  rw [← hPR]
  clear hPR
  go_enter Try.func45, Try.ntmps45
  go_wp2
  have h3 : ∀ A B C : Obj, (((w.alloc A).alloc B).alloc C).heap[w.heap.size + 1]? = some B ∧ (((w.alloc A).alloc B).alloc C).heap[w.heap.size + 1 + 1]? = some C ∧ Below w.heap.size w (((w.alloc A).alloc B).alloc C) := fun A B C => by
    obtain ⟨t1, t2, t3⟩ := two_new (w.alloc A) B C
    exact ⟨by simpa using t2, by simpa using t1, ((Below.refl _ _).alloc (Nat.le_refl _) _).trans (t3.mono (by simp))⟩
  refine bodyPost_ret (v := (smallC (w.heap.size + 1) (w.heap.size + 1 + 1)).v) (by simp [results, Try.results45, go_sem, smallC]) rfl (HPR.out _ _ ⟨_, _, rfl, small_at (h3 _ _ _).1 (h3 _ _ _).2.1, (h3 _ _ _).2.2⟩)

set_option maxRecDepth 100000 in
theorem awake_any (w : World) : Calls Try.prog 17 #[] w fun e w' => e = .returned (.bool true) ∧ Below w.heap.size w w' := by
  go_enter Try.func17, Try.ntmps17
  go_wp2_with fail
  refine (small_any _).mono ?_
  rintro e w1 hp
  obtain ⟨a, b, rfl, hat, hb1⟩ := hp.all
  have HC := check_any (smallC a b) _ w1 (Nat.le_refl _) hat
  rw [small_check] at HC
  have HC2 := Lib.hid HC
  clear hp hat HC
  go_wp2_with fail
  refine HC2.out.mono ?_
  rintro e w2 ⟨rfl, hb2⟩
  have hb20 := hb1.trans (hb2.mono hb1.size)
  clear HC2
  go_wp2_with fail
  refine (small_any _).mono ?_
  rintro e w3 hp
  obtain ⟨a', b', rfl, hat, hb3⟩ := hp.all
  have HC := Frames_any (smallC a' b') _ w3 (Nat.le_refl _) hat
  rw [small_frames] at HC
  have HC2 := Lib.hid HC
  have hb30 := hb20.trans (hb3.mono hb20.size)
  clear hp hat HC
  go_wp2_with fail
  refine HC2.out.mono ?_
  rintro e w4 ⟨rfl, hb4⟩
  have hb40 := hb30.trans (hb4.mono hb30.size)
  clear HC2
  go_wp2_with fail
  refine (small_any _).mono ?_
  rintro e w5 hp
  obtain ⟨a'', b'', rfl, hat, hb5⟩ := hp.all
  have HC := Period_any (smallC a'' b'') _ w5 (Nat.le_refl _) hat
  rw [small_period] at HC
  have HC2 := Lib.hid HC
  have hb50 := hb40.trans (hb5.mono hb40.size)
  clear hp hat HC
  go_wp2_with fail
  refine HC2.out.mono ?_
  rintro e w6 ⟨rfl, hb6⟩
  have hb60 := hb50.trans (hb6.mono hb50.size)
  clear HC2
  go_wp2
  go_ret
  exact ⟨rfl, hb60⟩

def fewB (c : Cfg) : Bool := decide (c.gn ≤ 20) && decide (c.rn ≤ 40) && decide (c.pn ≤ 40) && decide (c.nn ≤ 40) && decide (c.sn ≤ 40)
theorem few_any (c : Cfg) (w : World) (hg : c.gn ≤ 140737488355328) (hr : c.rn ≤ 140737488355328) (hp : c.pn ≤ 140737488355328) (hn : c.nn ≤ 140737488355328) (hs : c.sn ≤ 140737488355328) :
    Calls Try.prog 15 #[c.v] w fun e w' => e = .returned (.bool (fewB c)) ∧ Below w.heap.size w w' := by
  have HB0 := one_new w
  obtain ⟨r, hr0⟩ : ∃ r, r = fewB c := ⟨_, rfl⟩
  have hr1 := hr0
  unfold fewB at hr1
  rw [← hr0]
  clear hr0
  by_cases h1 : c.gn ≤ 20
  · rw [decide_eq_true h1] at hr1
    have h1' : (c.gn : Int) ≤ 20 := by omega
    by_cases h2 : c.rn ≤ 40
    · rw [decide_eq_true h2] at hr1
      have h2' : (c.rn : Int) ≤ 40 := by omega
      by_cases h3 : c.pn ≤ 40
      · rw [decide_eq_true h3] at hr1
        have h3' : (c.pn : Int) ≤ 40 := by omega
        by_cases h4 : c.nn ≤ 40
        · rw [decide_eq_true h4] at hr1
          have h4' : (c.nn : Int) ≤ 40 := by omega
          by_cases h5 : c.sn ≤ 40
          · rw [decide_eq_true h5] at hr1
            have h5' : (c.sn : Int) ≤ 40 := by omega
            simp only [Bool.and_self] at hr1
            subst hr1
            go_enter Try.func15, Try.ntmps15
            go_wp2
            go_ret
            exact ⟨rfl, HB0.out _⟩
          · rw [decide_eq_false h5] at hr1
            have h5' : ¬ (c.sn : Int) ≤ 40 := by omega
            simp only [Bool.and_false] at hr1
            subst hr1
            go_enter Try.func15, Try.ntmps15
            go_wp2
            go_ret
            exact ⟨rfl, HB0.out _⟩
        · rw [decide_eq_false h4] at hr1
          have h4' : ¬ (c.nn : Int) ≤ 40 := by omega
          simp only [Bool.and_false, Bool.false_and] at hr1
          subst hr1
          go_enter Try.func15, Try.ntmps15
          go_wp2
          go_ret
          exact ⟨rfl, HB0.out _⟩
      · rw [decide_eq_false h3] at hr1
        have h3' : ¬ (c.pn : Int) ≤ 40 := by omega
        simp only [Bool.and_false, Bool.false_and] at hr1
        subst hr1
        go_enter Try.func15, Try.ntmps15
        go_wp2
        go_ret
        exact ⟨rfl, HB0.out _⟩
    · rw [decide_eq_false h2] at hr1
      have h2' : ¬ (c.rn : Int) ≤ 40 := by omega
      simp only [Bool.and_false, Bool.false_and] at hr1
      subst hr1
      go_enter Try.func15, Try.ntmps15
      go_wp2
      go_ret
      exact ⟨rfl, HB0.out _⟩
  · rw [decide_eq_false h1] at hr1
    have h1' : ¬ (c.gn : Int) ≤ 20 := by omega
    simp only [Bool.false_and] at hr1
    subst hr1
    go_enter Try.func15, Try.ntmps15
    go_wp2
    go_ret
    exact ⟨rfl, HB0.out _⟩
end Go.Proofs.Ytmekoanobicddaa.Cf
namespace Go.Proofs.Ytmekoanobicddaa.Cf
open Go.RowKit Ut
set_option linter.unusedVariables false

theorem few_right {c : Cfg} (h : fewB c = false) : (check c).1 ≠ 0 := fun e => by
  have hr : rightB c = true := decide_eq_true e
  have h1 := (right_small hr).1
  have h2 := right_ranges hr
  have h3 := right_ports hr
  have h4 := right_rings hr
  have h5 := (right_slots hr).2
  unfold fewB at h
  rw [decide_eq_true (show c.gn ≤ 20 by omega), decide_eq_true (show c.rn ≤ 40 by omega), decide_eq_true (show c.pn ≤ 40 by omega), decide_eq_true (show c.nn ≤ 40 by omega), decide_eq_true (show c.sn ≤ 40 by omega)] at h
  cases h

set_option maxRecDepth 100000 in
set_option maxHeartbeats 4000000 in
theorem plays_any (c : Cfg) (n : Int) (B : Nat) (w : World) (hB : B ≤ w.heap.size) (hc : c.At w B) (hn : n < 9223372036854775808) :
    Calls Try.prog 4 #[c.v, .int .i64 n] w fun e w' => e = .returned (.bool true) ∧ Below w.heap.size w w' := by
  have HB0 := one_new w
  have l1 := hc.lg
  have l2 := hc.lr
  have l3 := hc.lp
  have l4 := hc.ln
  have l5 := hc.ls
  have HFew : Hid (∀ W : World, Calls Try.prog 15 #[c.v] W fun e w' => e = .returned (.bool (fewB c)) ∧ Below W.heap.size W w') := Lib.hid fun W => few_any c W (by omega) (by omega) (by omega) (by omega) (by omega)
  have HAw : Hid (∀ W : World, Calls Try.prog 17 #[] W fun e w' => e = .returned (.bool true) ∧ Below W.heap.size W w') := Lib.hid awake_any
  have HC1 : Hid (∀ W, Below w.heap.size w W → Calls Try.prog 16 #[c.v] W fun e w' => e = .returned (.tuple #[.int .i64 (check c).1, .int .i64 (check c).2]) ∧ Below W.heap.size W w') := Lib.hid fun W hW => check_any c B W (by have := hW.size; omega) (hc.below (hW.mono hB))
  have HC2 : Hid (∀ W, Below w.heap.size w W → Calls Try.prog 18 #[c.v] W fun e w' => e = .returned (.tuple #[.int .i64 (check c).1, .int .i64 (check c).2]) ∧ Below W.heap.size W w') := Lib.hid fun W hW => refCheck_any c B W (by have := hW.size; omega) (hc.below (hW.mono hB))
  have HF1 : Hid (∀ W, Below w.heap.size w W → Calls Try.prog 19 #[c.v] W fun e w' => e = .returned (.int .i64 (framesZ c)) ∧ Below W.heap.size W w') := Lib.hid fun W hW => Frames_any c B W (by have := hW.size; omega) (hc.below (hW.mono hB))
  have HF2 : Hid (∀ W, Below w.heap.size w W → Calls Try.prog 20 #[c.v] W fun e w' => e = .returned (.int .i64 (framesZ c)) ∧ Below W.heap.size W w') := Lib.hid fun W hW => refFrames_any c B W (by have := hW.size; omega) (hc.below (hW.mono hB))
  have HP1 : Hid (∀ W, Below w.heap.size w W → Calls Try.prog 21 #[c.v] W fun e w' => e = .returned (.int .i64 (periodZ c)) ∧ Below W.heap.size W w') := Lib.hid fun W hW => Period_any c B W (by have := hW.size; omega) (hc.below (hW.mono hB))
  have HP2 : Hid (∀ W, Below w.heap.size w W → Calls Try.prog 22 #[c.v] W fun e w' => e = .returned (.int .i64 (periodZ c)) ∧ Below W.heap.size W w') := Lib.hid fun W hW => refPeriod_any c B W (by have := hW.size; omega) (hc.below (hW.mono hB))
  have HB1 : Hid (∀ W, Below w.heap.size w W → Calls Try.prog 23 #[c.v] W fun e w' => e = .returned (.int .i64 (boundZ c)) ∧ Below W.heap.size W w') := Lib.hid fun W hW => Bound_any c B W (by have := hW.size; omega) (hc.below (hW.mono hB))
  have HB2 : Hid (∀ W, Below w.heap.size w W → Calls Try.prog 24 #[c.v] W fun e w' => e = .returned (.int .i64 (boundZ c)) ∧ Below W.heap.size W w') := Lib.hid fun W hW => refBound_any c B W (by have := hW.size; omega) (hc.below (hW.mono hB))
  have HO1 : Hid (∀ W, Below w.heap.size w W → Calls Try.prog 25 #[c.v, .int .i64 n] W fun e w' => e = .returned (ownV (ownZ c n)) ∧ Below W.heap.size W w') := Lib.hid fun W hW => Owner_any c n B W (by have := hW.size; omega) (hc.below (hW.mono hB))
  have HO2 : Hid (∀ W, Below w.heap.size w W → Calls Try.prog 26 #[c.v, .int .i64 n] W fun e w' => e = .returned (ownV (ownZ c n)) ∧ Below W.heap.size W w') := Lib.hid fun W hW => refOwner_any c n B W (by have := hW.size; omega) (hc.below (hW.mono hB)) hn
  have HS1 : Hid (∀ W, Below w.heap.size w W → Calls Try.prog 27 #[c.v, .int .i64 n] W fun e w' => e = .returned (.int .i64 (firstZ c n)) ∧ Below W.heap.size W w') := Lib.hid fun W hW => First_any c n B W (by have := hW.size; omega) (hc.below (hW.mono hB))
  have HS2 : Hid (∀ W, Below w.heap.size w W → Calls Try.prog 28 #[c.v, .int .i64 n] W fun e w' => e = .returned (.int .i64 (firstZ c n)) ∧ Below W.heap.size W w') := Lib.hid fun W hW => refFirst_any c n B W (by have := hW.size; omega) (hc.below (hW.mono hB))
  have HR1 : Hid (∀ W, Below w.heap.size w W → Calls Try.prog 29 #[c.v, .int .i64 n] W fun e w' => e = .returned (.int .i64 (ringZ c n)) ∧ Below W.heap.size W w') := Lib.hid fun W hW => RingFrame_any c n B W (by have := hW.size; omega) (hc.below (hW.mono hB))
  have HR2 : Hid (∀ W, Below w.heap.size w W → Calls Try.prog 30 #[c.v, .int .i64 n] W fun e w' => e = .returned (.int .i64 (ringZ c n)) ∧ Below W.heap.size W w') := Lib.hid fun W hW => refRingFrame_any c n B W (by have := hW.size; omega) (hc.below (hW.mono hB))
  have HQ1 : Hid (∀ W, Below w.heap.size w W → Calls Try.prog 31 #[c.v, .int .i64 n] W fun e w' => e = .returned (.int .i64 (portZ c n)) ∧ Below W.heap.size W w') := Lib.hid fun W hW => PortOf_any c n B W (by have := hW.size; omega) (hc.below (hW.mono hB))
  have HQ2 : Hid (∀ W, Below w.heap.size w W → Calls Try.prog 32 #[c.v, .int .i64 n] W fun e w' => e = .returned (.int .i64 (portZ c n)) ∧ Below W.heap.size W w') := Lib.hid fun W hW => refPortOf_any c n B W (by have := hW.size; omega) (hc.below (hW.mono hB))
  have HT1 : Hid (∀ W, Below w.heap.size w W → Calls Try.prog 33 #[c.v, .int .i64 n] W fun e w' => e = .returned (.int .i64 (rangeZ c n)) ∧ Below W.heap.size W w') := Lib.hid fun W hW => RangeOf_any c n B W (by have := hW.size; omega) (hc.below (hW.mono hB))
  have HT2 : Hid (∀ W, Below w.heap.size w W → Calls Try.prog 34 #[c.v, .int .i64 n] W fun e w' => e = .returned (.int .i64 (rangeZ c n)) ∧ Below W.heap.size W w') := Lib.hid fun W hW => refRangeOf_any c n B W (by have := hW.size; omega) (hc.below (hW.mono hB)) hn
  have HNot : Hid (fewB c = false → (check c).1 ≠ 0) := Lib.hid few_right
  obtain ⟨cka, hcka⟩ : ∃ a, a = (check c).1 := ⟨_, rfl⟩
  obtain ⟨ckb, hckb⟩ : ∃ a, a = (check c).2 := ⟨_, rfl⟩
  rw [← hcka] at HC1 HC2 HNot
  rw [← hckb] at HC1 HC2
  obtain ⟨fr, hfr⟩ : ∃ q, q = framesZ c := ⟨_, rfl⟩
  rw [← hfr] at HF1 HF2
  obtain ⟨pe, hpe⟩ : ∃ q, q = periodZ c := ⟨_, rfl⟩
  rw [← hpe] at HP1 HP2
  obtain ⟨bo, hbo⟩ : ∃ q, q = boundZ c := ⟨_, rfl⟩
  rw [← hbo] at HB1 HB2
  obtain ⟨ow, how⟩ : ∃ q, q = ownZ c n := ⟨_, rfl⟩
  rw [← how] at HO1 HO2
  obtain ⟨fi, hfi⟩ : ∃ q, q = firstZ c n := ⟨_, rfl⟩
  rw [← hfi] at HS1 HS2
  obtain ⟨ri, hri⟩ : ∃ q, q = ringZ c n := ⟨_, rfl⟩
  rw [← hri] at HR1 HR2
  obtain ⟨po, hpo⟩ : ∃ q, q = portZ c n := ⟨_, rfl⟩
  rw [← hpo] at HQ1 HQ2
  obtain ⟨ra, hra⟩ : ∃ q, q = rangeZ c n := ⟨_, rfl⟩
  rw [← hra] at HT1 HT2
  clear hc hcka hckb l1 l2 l3 l4 l5 hfr hpe hbo how hfi hri hpo hra
  obtain ⟨fb, hfb⟩ : ∃ q, q = fewB c := ⟨_, rfl⟩
  rw [← hfb] at HFew HNot
  clear hfb
  cases fb
  · have hne := HNot.out rfl
    have hneb : (cka != 0) = true := by simpa using hne
    clear HNot
    go_enter Try.func4, Try.ntmps4
    go_wp2_with fail
    refine (HFew.out _).mono ?_
    rintro e w1 ⟨rfl, hb⟩
    have hbw := (HB0.out _).trans (hb.mono (by simp))
    have hq := old_cells hb
    go_wp2_with fail
    refine (HC1.out _ hbw).mono ?_
    rintro e w2 ⟨rfl, hb2⟩
    have hbw2 := hbw.trans (hb2.mono hbw.size)
    clear hq hb
    go_wp2_with fail
    refine (HAw.out _).mono ?_
    rintro e w3 ⟨rfl, hb3⟩
    go_wp2
    go_ret
    exact ⟨rfl, hbw2.trans (hb3.mono hbw2.size)⟩
  · clear HNot
    have hx0 : BoxC (w.alloc (.cells c.cs 44)) w.heap.size c := heap_alloc_new w _
    have HX0 := Lib.hid hx0
    clear hx0
    go_enter Try.func4, Try.ntmps4
    go_wp2_with fail
    refine (HFew.out _).mono ?_
    rintro e w1 ⟨rfl, hb⟩
    have hbw := (HB0.out _).trans (hb.mono (by simp))
    have HX1 := Lib.hid (HX0.out.below hb)
    clear HX0 hb
    obtain ⟨k0, k1, k2, k3, k4, k5, k6, k7⟩ := HX1.out.cells
    go_wp2_with fail
    refine (HC1.out _ hbw).mono ?_
    rintro e w2 ⟨rfl, hb2⟩
    have hbw2 := hbw.trans (hb2.mono hbw.size)
    have HX2 := Lib.hid (HX1.out.below hb2)
    clear HX1 hb2 k0 k1 k2 k3 k4 k5 k6 k7
    obtain ⟨k0, k1, k2, k3, k4, k5, k6, k7⟩ := HX2.out.cells
    go_wp2_with fail
    refine (HC2.out _ hbw2).mono ?_
    rintro e w4 ⟨rfl, hb4⟩
    have hbw4 := hbw2.trans (hb4.mono hbw2.size)
    have HX := Lib.hid (HX2.out.below hb4)
    have s4 := HX.out.lt
    clear HX2 hb4 k0 k1 k2 k3 k4 k5 k6 k7
    obtain ⟨k0, k1, k2, k3, k4, k5, k6, k7⟩ := HX.out.cells
    have HBW := Lib.hid hbw4
    clear hbw hbw2 hbw4
    go_wp2
    apply wp_region_auto [34, 35, 36, 37, 38, 39, 40, 41, 42, 43, 44, 45, 46, 47, 48, 49, 50, 51, 52, 53, 54, 55, 56, 57, 58, 59, 60, 61] [_, _, _, _, _, _, _, _, _, _, _, _, _, _, _, _, _, _, _, _, _, _, _, _, _, _, _, _] (fun W' => Below w4.heap.size w4 W')
    case hm => kernel_rfl
    case hT => intro y; simp only [setAll, List.setIfInBounds_toArray, List.set_cons_succ, List.set_cons_zero]; exact rfl
    case hok => kernel_rfl
    case hn => decide
    case hw => exact (Below.refl _ _).drew
    case hs =>
      refine auto_op 34 [] (by kernel_rfl) (fun y w' HW hd K hK => ?_) ?_
      · go_simp
        refine hK _ _ ?_ ?_ HW
        · simp [upd]
        · exact rfl
      refine auto_op 35 [] (by kernel_rfl) (fun y w' HW hd K hK => ?_) ?_
      · go_simp
        refine hK _ _ ?_ ?_ HW
        · simp [upd]
        · exact rfl
      refine auto_op 36 [0, 1] (by kernel_rfl) (fun y w' HW hd K hK => ?_) ?_
      · have e0 := hd_nth (hd 0 (by simp)) rfl
        have e1 := hd_nth (hd 1 (by simp)) rfl
        go_simp
        refine hK _ _ ?_ ?_ HW
        · simp [upd, e0, e1]
        · exact rfl
      refine auto_op 37 [2] (by kernel_rfl) (fun y w' HW hd K hK => ?_) ?_
      · have e2 := hd_nth (hd 2 (by simp)) rfl
        go_simp
        refine hK _ _ ?_ ?_ HW
        · simp [upd, e2]
        · exact rfl
      refine auto_op 38 [3] (by kernel_rfl) (fun y w' HW hd K hK => ?_) ?_
      · have e3 := hd_nth (hd 3 (by simp)) rfl
        go_simp
        refine hK _ _ ?_ ?_ HW
        · simp [upd, e3]
        · exact rfl
      refine auto_op 39 [3] (by kernel_rfl) (fun y w' HW hd K hK => ?_) ?_
      · have e3 := hd_nth (hd 3 (by simp)) rfl
        go_simp
        refine hK _ _ ?_ ?_ HW
        · simp [upd, e3]
        · exact rfl
      refine auto_op 40 [4, 5, 3] (by kernel_rfl) (fun y w' HW hd K hK => ?_) ?_
      · have e3 := hd_nth (hd 3 (by simp)) rfl
        have e4 := hd_nth (hd 4 (by simp)) rfl
        have e5 := hd_nth (hd 5 (by simp)) rfl
        go_simp
        refine hK _ _ ?_ ?_ HW
        · simp [upd, e3, e4, e5]
        · exact rfl
      refine auto_op 41 [3, 6] (by kernel_rfl) (fun y w' HW hd K hK => ?_) ?_
      · have e3 := hd_nth (hd 3 (by simp)) rfl
        have e6 := hd_nth (hd 6 (by simp)) rfl
        go_simp
        refine hK _ _ ?_ ?_ HW
        · simp [upd, e3, e6]
        · exact rfl
      refine auto_op 42 [7, 3] (by kernel_rfl) (fun y w' HW hd K hK => ?_) ?_
      · have e3 := hd_nth (hd 3 (by simp)) rfl
        have e7 := hd_nth (hd 7 (by simp)) rfl
        go_simp
        refine hK _ _ ?_ ?_ HW
        · simp [upd, e3, e7]
        · exact rfl
      refine auto_op 43 [8] (by kernel_rfl) (fun y w' HW hd K hK => ?_) ?_
      · have e8 := hd_nth (hd 8 (by simp)) rfl
        have hcl : ∀ p : Addr, p.block < w4.heap.size → w'.cell? p = w4.cell? p := fun p hp => HW.cell hp
        go_simp
        refine hK _ _ ?_ ?_ HW
        · simp [upd, e8]
        · exact rfl
      refine auto_op 44 [9, 8, 8] (by kernel_rfl) (fun y w' HW hd K hK => ?_) ?_
      · have e8 := hd_nth (hd 8 (by simp)) rfl
        have e9 := hd_nth (hd 9 (by simp)) rfl
        go_simp
        refine (HF1.out _ (HBW.out.trans (HW.mono HBW.out.size))).mono ?_
        rintro e w3 ⟨rfl, hb10⟩
        refine hK _ _ ?_ ?_ (HW.trans (hb10.mono HW.size))
        · simp [upd, e8, e9]
        · exact rfl
      refine auto_op 45 [8] (by kernel_rfl) (fun y w' HW hd K hK => ?_) ?_
      · have e8 := hd_nth (hd 8 (by simp)) rfl
        have hcl : ∀ p : Addr, p.block < w4.heap.size → w'.cell? p = w4.cell? p := fun p hp => HW.cell hp
        go_simp
        refine hK _ _ ?_ ?_ HW
        · simp [upd, e8]
        · exact rfl
      refine auto_op 46 [11, 10, 8] (by kernel_rfl) (fun y w' HW hd K hK => ?_) ?_
      · have e8 := hd_nth (hd 8 (by simp)) rfl
        have e10 := hd_nth (hd 10 (by simp)) rfl
        have e11 := hd_nth (hd 11 (by simp)) rfl
        go_simp
        refine (HF2.out _ (HBW.out.trans (HW.mono HBW.out.size))).mono ?_
        rintro e w3 ⟨rfl, hb12⟩
        refine hK _ _ ?_ ?_ (HW.trans (hb12.mono HW.size))
        · simp [upd, e8, e10, e11]
        · exact rfl
      refine auto_op 47 [10, 12, 8] (by kernel_rfl) (fun y w' HW hd K hK => ?_) ?_
      · have e8 := hd_nth (hd 8 (by simp)) rfl
        have e10 := hd_nth (hd 10 (by simp)) rfl
        have e12 := hd_nth (hd 12 (by simp)) rfl
        go_simp
        refine hK _ _ ?_ ?_ HW
        · simp [upd, e8, e10, e12]
        · exact rfl
      refine auto_op 48 [8, 13] (by kernel_rfl) (fun y w' HW hd K hK => ?_) ?_
      · have e8 := hd_nth (hd 8 (by simp)) rfl
        have e13 := hd_nth (hd 13 (by simp)) rfl
        go_simp
        refine hK _ _ ?_ ?_ HW
        · simp [upd, e8, e13]
        · exact rfl
      refine auto_op 49 [14, 12] (by kernel_rfl) (fun y w' HW hd K hK => ?_) ?_
      · have e12 := hd_nth (hd 12 (by simp)) rfl
        have e14 := hd_nth (hd 14 (by simp)) rfl
        go_simp
        refine hK _ _ ?_ ?_ HW
        · simp [upd, e12, e14]
        · exact rfl
      refine auto_op 50 [15] (by kernel_rfl) (fun y w' HW hd K hK => ?_) ?_
      · have e15 := hd_nth (hd 15 (by simp)) rfl
        have hcl : ∀ p : Addr, p.block < w4.heap.size → w'.cell? p = w4.cell? p := fun p hp => HW.cell hp
        go_simp
        refine hK _ _ ?_ ?_ HW
        · simp [upd, e15]
        · exact rfl
      refine auto_op 51 [16, 15, 15] (by kernel_rfl) (fun y w' HW hd K hK => ?_) ?_
      · have e15 := hd_nth (hd 15 (by simp)) rfl
        have e16 := hd_nth (hd 16 (by simp)) rfl
        go_simp
        refine (HP1.out _ (HBW.out.trans (HW.mono HBW.out.size))).mono ?_
        rintro e w3 ⟨rfl, hb17⟩
        refine hK _ _ ?_ ?_ (HW.trans (hb17.mono HW.size))
        · simp [upd, e15, e16]
        · exact rfl
      refine auto_op 52 [15] (by kernel_rfl) (fun y w' HW hd K hK => ?_) ?_
      · have e15 := hd_nth (hd 15 (by simp)) rfl
        have hcl : ∀ p : Addr, p.block < w4.heap.size → w'.cell? p = w4.cell? p := fun p hp => HW.cell hp
        go_simp
        refine hK _ _ ?_ ?_ HW
        · simp [upd, e15]
        · exact rfl
      refine auto_op 53 [18, 17, 15] (by kernel_rfl) (fun y w' HW hd K hK => ?_) ?_
      · have e15 := hd_nth (hd 15 (by simp)) rfl
        have e17 := hd_nth (hd 17 (by simp)) rfl
        have e18 := hd_nth (hd 18 (by simp)) rfl
        go_simp
        refine (HP2.out _ (HBW.out.trans (HW.mono HBW.out.size))).mono ?_
        rintro e w3 ⟨rfl, hb19⟩
        refine hK _ _ ?_ ?_ (HW.trans (hb19.mono HW.size))
        · simp [upd, e15, e17, e18]
        · exact rfl
      refine auto_op 54 [17, 19, 15] (by kernel_rfl) (fun y w' HW hd K hK => ?_) ?_
      · have e15 := hd_nth (hd 15 (by simp)) rfl
        have e17 := hd_nth (hd 17 (by simp)) rfl
        have e19 := hd_nth (hd 19 (by simp)) rfl
        go_simp
        refine hK _ _ ?_ ?_ HW
        · simp [upd, e15, e17, e19]
        · exact rfl
      refine auto_op 55 [15, 20] (by kernel_rfl) (fun y w' HW hd K hK => ?_) ?_
      · have e15 := hd_nth (hd 15 (by simp)) rfl
        have e20 := hd_nth (hd 20 (by simp)) rfl
        go_simp
        refine hK _ _ ?_ ?_ HW
        · simp [upd, e15, e20]
        · exact rfl
      refine auto_op 56 [21, 19] (by kernel_rfl) (fun y w' HW hd K hK => ?_) ?_
      · have e19 := hd_nth (hd 19 (by simp)) rfl
        have e21 := hd_nth (hd 21 (by simp)) rfl
        go_simp
        refine hK _ _ ?_ ?_ HW
        · simp [upd, e19, e21]
        · exact rfl
      refine auto_op 57 [22] (by kernel_rfl) (fun y w' HW hd K hK => ?_) ?_
      · have e22 := hd_nth (hd 22 (by simp)) rfl
        have hcl : ∀ p : Addr, p.block < w4.heap.size → w'.cell? p = w4.cell? p := fun p hp => HW.cell hp
        go_simp
        refine hK _ _ ?_ ?_ HW
        · simp [upd, e22]
        · exact rfl
      refine auto_op 58 [23, 22, 22] (by kernel_rfl) (fun y w' HW hd K hK => ?_) ?_
      · have e22 := hd_nth (hd 22 (by simp)) rfl
        have e23 := hd_nth (hd 23 (by simp)) rfl
        go_simp
        refine (HB1.out _ (HBW.out.trans (HW.mono HBW.out.size))).mono ?_
        rintro e w3 ⟨rfl, hb24⟩
        refine hK _ _ ?_ ?_ (HW.trans (hb24.mono HW.size))
        · simp [upd, e22, e23]
        · exact rfl
      refine auto_op 59 [22] (by kernel_rfl) (fun y w' HW hd K hK => ?_) ?_
      · have e22 := hd_nth (hd 22 (by simp)) rfl
        have hcl : ∀ p : Addr, p.block < w4.heap.size → w'.cell? p = w4.cell? p := fun p hp => HW.cell hp
        go_simp
        refine hK _ _ ?_ ?_ HW
        · simp [upd, e22]
        · exact rfl
      refine auto_op 60 [25, 24, 22] (by kernel_rfl) (fun y w' HW hd K hK => ?_) ?_
      · have e22 := hd_nth (hd 22 (by simp)) rfl
        have e24 := hd_nth (hd 24 (by simp)) rfl
        have e25 := hd_nth (hd 25 (by simp)) rfl
        go_simp
        refine (HB2.out _ (HBW.out.trans (HW.mono HBW.out.size))).mono ?_
        rintro e w3 ⟨rfl, hb26⟩
        refine hK _ _ ?_ ?_ (HW.trans (hb26.mono HW.size))
        · simp [upd, e22, e24, e25]
        · exact rfl
      refine auto_op 61 [24, 26, 22] (by kernel_rfl) (fun y w' HW hd K hK => ?_) ?_
      · have e22 := hd_nth (hd 22 (by simp)) rfl
        have e24 := hd_nth (hd 24 (by simp)) rfl
        have e26 := hd_nth (hd 26 (by simp)) rfl
        go_simp
        refine hK _ _ ?_ ?_ HW
        · simp [upd, e22, e24, e26]
        · exact rfl
      refine auto_last fun y w' HW hd K hK => ?_
      have e0 := hd_nth (hd 0 (by omega)) rfl
      have e1 := hd_nth (hd 1 (by omega)) rfl
      have e2 := hd_nth (hd 2 (by omega)) rfl
      have e3 := hd_nth (hd 3 (by omega)) rfl
      have e4 := hd_nth (hd 4 (by omega)) rfl
      have e5 := hd_nth (hd 5 (by omega)) rfl
      have e6 := hd_nth (hd 6 (by omega)) rfl
      have e7 := hd_nth (hd 7 (by omega)) rfl
      have e8 := hd_nth (hd 8 (by omega)) rfl
      have e9 := hd_nth (hd 9 (by omega)) rfl
      have e10 := hd_nth (hd 10 (by omega)) rfl
      have e11 := hd_nth (hd 11 (by omega)) rfl
      have e12 := hd_nth (hd 12 (by omega)) rfl
      have e13 := hd_nth (hd 13 (by omega)) rfl
      have e14 := hd_nth (hd 14 (by omega)) rfl
      have e15 := hd_nth (hd 15 (by omega)) rfl
      have e16 := hd_nth (hd 16 (by omega)) rfl
      have e17 := hd_nth (hd 17 (by omega)) rfl
      have e18 := hd_nth (hd 18 (by omega)) rfl
      have e19 := hd_nth (hd 19 (by omega)) rfl
      have e20 := hd_nth (hd 20 (by omega)) rfl
      have e21 := hd_nth (hd 21 (by omega)) rfl
      have e22 := hd_nth (hd 22 (by omega)) rfl
      have e23 := hd_nth (hd 23 (by omega)) rfl
      have e24 := hd_nth (hd 24 (by omega)) rfl
      have e25 := hd_nth (hd 25 (by omega)) rfl
      have e26 := hd_nth (hd 26 (by omega)) rfl
      have e27 := hd_nth (hd 27 (by omega)) rfl
      go_simp
      refine hK _ _ ?_
      clear hd hK K e0 e1 e2 e3 e4 e5 e6 e7 e8 e9 e10 e11 e12 e13 e14 e15 e16 e17 e18 e19 e20 e21 e22 e23 e24 e25 e26 e27
      have HBW5 := Lib.hid (HBW.out.trans (HW.mono HBW.out.size))
      have HX5 := Lib.hid (HX.out.below HW)
      clear HBW HX HW k0 k1 k2 k3 k4 k5 k6 k7 s4
      obtain ⟨V, hV⟩ : ∃ V, V = w' := ⟨_, rfl⟩
      rw [← hV] at HBW5 HX5 ⊢
      clear hV
      have HBW := HBW5
      have HX := HX5
      have s4 := HX.out.lt
      clear HBW5 HX5
      obtain ⟨k0, k1, k2, k3, k4, k5, k6, k7⟩ := HX.out.cells
      go_wp2
      apply wp_region_auto [63, 64, 65, 66, 67, 68, 69, 70, 71, 72, 73, 74, 75, 76, 77, 78, 79, 80, 81, 82, 83, 84, 85, 86] [_, _, _, _, _, _, _, _, _, _, _, _, _, _, _, _, _, _, _, _, _, _, _, _] (fun W' => Below V.heap.size V W')
      case hm => kernel_rfl
      case hT => intro y; simp only [setAll, List.setIfInBounds_toArray, List.set_cons_succ, List.set_cons_zero]; exact rfl
      case hok => kernel_rfl
      case hn => decide
      case hw => exact (Below.refl _ _).drew
      case hs =>
        refine auto_op 63 [] (by kernel_rfl) (fun y w' HW hd K hK => ?_) ?_
        · have hcl : ∀ p : Addr, p.block < V.heap.size → w'.cell? p = V.cell? p := fun p hp => HW.cell hp
          go_simp
          refine hK _ _ ?_ ?_ HW
          · simp [upd]
          · exact rfl
        refine auto_op 64 [] (by kernel_rfl) (fun y w' HW hd K hK => ?_) ?_
        · go_simp
          refine hK _ _ ?_ ?_ HW
          · simp [upd]
          · exact rfl
        refine auto_op 65 [0, 1] (by kernel_rfl) (fun y w' HW hd K hK => ?_) ?_
        · have e0 := hd_nth (hd 0 (by simp)) rfl
          have e1 := hd_nth (hd 1 (by simp)) rfl
          go_simp
          refine (HO1.out _ (HBW.out.trans (HW.mono HBW.out.size))).mono ?_
          rintro e w3 ⟨rfl, hb2⟩
          refine hK _ _ ?_ ?_ (HW.trans (hb2.mono HW.size))
          · simp [upd, e0, e1]
          · exact rfl
        refine auto_op 66 [] (by kernel_rfl) (fun y w' HW hd K hK => ?_) ?_
        · have hcl : ∀ p : Addr, p.block < V.heap.size → w'.cell? p = V.cell? p := fun p hp => HW.cell hp
          go_simp
          refine hK _ _ ?_ ?_ HW
          · simp [upd]
          · exact rfl
        refine auto_op 67 [] (by kernel_rfl) (fun y w' HW hd K hK => ?_) ?_
        · go_simp
          refine hK _ _ ?_ ?_ HW
          · simp [upd]
          · exact rfl
        refine auto_op 68 [3, 4, 2] (by kernel_rfl) (fun y w' HW hd K hK => ?_) ?_
        · have e2 := hd_nth (hd 2 (by simp)) rfl
          have e3 := hd_nth (hd 3 (by simp)) rfl
          have e4 := hd_nth (hd 4 (by simp)) rfl
          go_simp
          refine (HO2.out _ (HBW.out.trans (HW.mono HBW.out.size))).mono ?_
          rintro e w3 ⟨rfl, hb5⟩
          refine hK _ _ ?_ ?_ (HW.trans (hb5.mono HW.size))
          · simp [upd, e2, e3, e4]
          · exact rfl
        refine auto_op 69 [2, 5] (by kernel_rfl) (fun y w' HW hd K hK => ?_) ?_
        · have e2 := hd_nth (hd 2 (by simp)) rfl
          have e5 := hd_nth (hd 5 (by simp)) rfl
          go_simp
          refine hK _ _ ?_ ?_ HW
          · simp [upd, e2, e5]
          · exact rfl
        refine auto_op 70 [6, 5] (by kernel_rfl) (fun y w' HW hd K hK => ?_) ?_
        · have e5 := hd_nth (hd 5 (by simp)) rfl
          have e6 := hd_nth (hd 6 (by simp)) rfl
          go_simp
          refine hK _ _ ?_ ?_ HW
          · simp [upd, e5, e6]
          · exact rfl
        refine auto_op 71 [7] (by kernel_rfl) (fun y w' HW hd K hK => ?_) ?_
        · have e7 := hd_nth (hd 7 (by simp)) rfl
          have hcl : ∀ p : Addr, p.block < V.heap.size → w'.cell? p = V.cell? p := fun p hp => HW.cell hp
          go_simp
          refine hK _ _ ?_ ?_ HW
          · simp [upd, e7]
          · exact rfl
        refine auto_op 72 [7] (by kernel_rfl) (fun y w' HW hd K hK => ?_) ?_
        · have e7 := hd_nth (hd 7 (by simp)) rfl
          go_simp
          refine hK _ _ ?_ ?_ HW
          · simp [upd, e7]
          · exact rfl
        refine auto_op 73 [8, 9, 7, 7] (by kernel_rfl) (fun y w' HW hd K hK => ?_) ?_
        · have e7 := hd_nth (hd 7 (by simp)) rfl
          have e8 := hd_nth (hd 8 (by simp)) rfl
          have e9 := hd_nth (hd 9 (by simp)) rfl
          go_simp
          refine (HS1.out _ (HBW.out.trans (HW.mono HBW.out.size))).mono ?_
          rintro e w3 ⟨rfl, hb10⟩
          refine hK _ _ ?_ ?_ (HW.trans (hb10.mono HW.size))
          · simp [upd, e7, e8, e9]
          · exact rfl
        refine auto_op 74 [7] (by kernel_rfl) (fun y w' HW hd K hK => ?_) ?_
        · have e7 := hd_nth (hd 7 (by simp)) rfl
          have hcl : ∀ p : Addr, p.block < V.heap.size → w'.cell? p = V.cell? p := fun p hp => HW.cell hp
          go_simp
          refine hK _ _ ?_ ?_ HW
          · simp [upd, e7]
          · exact rfl
        refine auto_op 75 [7] (by kernel_rfl) (fun y w' HW hd K hK => ?_) ?_
        · have e7 := hd_nth (hd 7 (by simp)) rfl
          go_simp
          refine hK _ _ ?_ ?_ HW
          · simp [upd, e7]
          · exact rfl
        refine auto_op 76 [11, 12, 10, 7] (by kernel_rfl) (fun y w' HW hd K hK => ?_) ?_
        · have e7 := hd_nth (hd 7 (by simp)) rfl
          have e10 := hd_nth (hd 10 (by simp)) rfl
          have e11 := hd_nth (hd 11 (by simp)) rfl
          have e12 := hd_nth (hd 12 (by simp)) rfl
          go_simp
          refine (HS2.out _ (HBW.out.trans (HW.mono HBW.out.size))).mono ?_
          rintro e w3 ⟨rfl, hb13⟩
          refine hK _ _ ?_ ?_ (HW.trans (hb13.mono HW.size))
          · simp [upd, e7, e10, e11, e12]
          · exact rfl
        refine auto_op 77 [10, 13, 7] (by kernel_rfl) (fun y w' HW hd K hK => ?_) ?_
        · have e7 := hd_nth (hd 7 (by simp)) rfl
          have e10 := hd_nth (hd 10 (by simp)) rfl
          have e13 := hd_nth (hd 13 (by simp)) rfl
          go_simp
          refine hK _ _ ?_ ?_ HW
          · simp [upd, e7, e10, e13]
          · exact rfl
        refine auto_op 78 [7, 14] (by kernel_rfl) (fun y w' HW hd K hK => ?_) ?_
        · have e7 := hd_nth (hd 7 (by simp)) rfl
          have e14 := hd_nth (hd 14 (by simp)) rfl
          go_simp
          refine hK _ _ ?_ ?_ HW
          · simp [upd, e7, e14]
          · exact rfl
        refine auto_op 79 [15, 13] (by kernel_rfl) (fun y w' HW hd K hK => ?_) ?_
        · have e13 := hd_nth (hd 13 (by simp)) rfl
          have e15 := hd_nth (hd 15 (by simp)) rfl
          go_simp
          refine hK _ _ ?_ ?_ HW
          · simp [upd, e13, e15]
          · exact rfl
        refine auto_op 80 [16] (by kernel_rfl) (fun y w' HW hd K hK => ?_) ?_
        · have e16 := hd_nth (hd 16 (by simp)) rfl
          have hcl : ∀ p : Addr, p.block < V.heap.size → w'.cell? p = V.cell? p := fun p hp => HW.cell hp
          go_simp
          refine hK _ _ ?_ ?_ HW
          · simp [upd, e16]
          · exact rfl
        refine auto_op 81 [16] (by kernel_rfl) (fun y w' HW hd K hK => ?_) ?_
        · have e16 := hd_nth (hd 16 (by simp)) rfl
          go_simp
          refine hK _ _ ?_ ?_ HW
          · simp [upd, e16]
          · exact rfl
        refine auto_op 82 [17, 18, 16, 16] (by kernel_rfl) (fun y w' HW hd K hK => ?_) ?_
        · have e16 := hd_nth (hd 16 (by simp)) rfl
          have e17 := hd_nth (hd 17 (by simp)) rfl
          have e18 := hd_nth (hd 18 (by simp)) rfl
          go_simp
          refine (HR1.out _ (HBW.out.trans (HW.mono HBW.out.size))).mono ?_
          rintro e w3 ⟨rfl, hb19⟩
          refine hK _ _ ?_ ?_ (HW.trans (hb19.mono HW.size))
          · simp [upd, e16, e17, e18]
          · exact rfl
        refine auto_op 83 [16] (by kernel_rfl) (fun y w' HW hd K hK => ?_) ?_
        · have e16 := hd_nth (hd 16 (by simp)) rfl
          have hcl : ∀ p : Addr, p.block < V.heap.size → w'.cell? p = V.cell? p := fun p hp => HW.cell hp
          go_simp
          refine hK _ _ ?_ ?_ HW
          · simp [upd, e16]
          · exact rfl
        refine auto_op 84 [16] (by kernel_rfl) (fun y w' HW hd K hK => ?_) ?_
        · have e16 := hd_nth (hd 16 (by simp)) rfl
          go_simp
          refine hK _ _ ?_ ?_ HW
          · simp [upd, e16]
          · exact rfl
        refine auto_op 85 [20, 21, 19, 16] (by kernel_rfl) (fun y w' HW hd K hK => ?_) ?_
        · have e16 := hd_nth (hd 16 (by simp)) rfl
          have e19 := hd_nth (hd 19 (by simp)) rfl
          have e20 := hd_nth (hd 20 (by simp)) rfl
          have e21 := hd_nth (hd 21 (by simp)) rfl
          go_simp
          refine (HR2.out _ (HBW.out.trans (HW.mono HBW.out.size))).mono ?_
          rintro e w3 ⟨rfl, hb22⟩
          refine hK _ _ ?_ ?_ (HW.trans (hb22.mono HW.size))
          · simp [upd, e16, e19, e20, e21]
          · exact rfl
        refine auto_op 86 [19, 22, 16] (by kernel_rfl) (fun y w' HW hd K hK => ?_) ?_
        · have e16 := hd_nth (hd 16 (by simp)) rfl
          have e19 := hd_nth (hd 19 (by simp)) rfl
          have e22 := hd_nth (hd 22 (by simp)) rfl
          go_simp
          refine hK _ _ ?_ ?_ HW
          · simp [upd, e16, e19, e22]
          · exact rfl
        refine auto_last fun y w' HW hd K hK => ?_
        have e0 := hd_nth (hd 0 (by omega)) rfl
        have e1 := hd_nth (hd 1 (by omega)) rfl
        have e2 := hd_nth (hd 2 (by omega)) rfl
        have e3 := hd_nth (hd 3 (by omega)) rfl
        have e4 := hd_nth (hd 4 (by omega)) rfl
        have e5 := hd_nth (hd 5 (by omega)) rfl
        have e6 := hd_nth (hd 6 (by omega)) rfl
        have e7 := hd_nth (hd 7 (by omega)) rfl
        have e8 := hd_nth (hd 8 (by omega)) rfl
        have e9 := hd_nth (hd 9 (by omega)) rfl
        have e10 := hd_nth (hd 10 (by omega)) rfl
        have e11 := hd_nth (hd 11 (by omega)) rfl
        have e12 := hd_nth (hd 12 (by omega)) rfl
        have e13 := hd_nth (hd 13 (by omega)) rfl
        have e14 := hd_nth (hd 14 (by omega)) rfl
        have e15 := hd_nth (hd 15 (by omega)) rfl
        have e16 := hd_nth (hd 16 (by omega)) rfl
        have e17 := hd_nth (hd 17 (by omega)) rfl
        have e18 := hd_nth (hd 18 (by omega)) rfl
        have e19 := hd_nth (hd 19 (by omega)) rfl
        have e20 := hd_nth (hd 20 (by omega)) rfl
        have e21 := hd_nth (hd 21 (by omega)) rfl
        have e22 := hd_nth (hd 22 (by omega)) rfl
        have e23 := hd_nth (hd 23 (by omega)) rfl
        go_simp
        refine hK _ _ ?_
        clear hd hK K e0 e1 e2 e3 e4 e5 e6 e7 e8 e9 e10 e11 e12 e13 e14 e15 e16 e17 e18 e19 e20 e21 e22 e23
        have HBW5 := Lib.hid (HBW.out.trans (HW.mono HBW.out.size))
        have HX5 := Lib.hid (HX.out.below HW)
        clear HBW HX HW k0 k1 k2 k3 k4 k5 k6 k7 s4
        obtain ⟨V2, hV⟩ : ∃ V2, V2 = w' := ⟨_, rfl⟩
        rw [← hV] at HBW5 HX5 ⊢
        clear hV
        have HBW := HBW5
        have HX := HX5
        have s4 := HX.out.lt
        clear HBW5 HX5
        obtain ⟨k0, k1, k2, k3, k4, k5, k6, k7⟩ := HX.out.cells
        go_wp2
        apply wp_region_auto [88, 89, 90, 91, 92, 93, 94, 95, 96, 97, 98, 99, 100, 101, 102, 103, 104, 105, 106] [_, _, _, _, _, _, _, _, _, _, _, _, _, _, _, _, _, _, _] (fun W' => Below V2.heap.size V2 W')
        case hm => kernel_rfl
        case hT => intro y; simp only [setAll, List.setIfInBounds_toArray, List.set_cons_succ, List.set_cons_zero]; exact rfl
        case hok => kernel_rfl
        case hn => decide
        case hw => exact (Below.refl _ _).drew
        case hs =>
          refine auto_op 88 [] (by kernel_rfl) (fun y w' HW hd K hK => ?_) ?_
          · have hcl : ∀ p : Addr, p.block < V2.heap.size → w'.cell? p = V2.cell? p := fun p hp => HW.cell hp
            go_simp
            refine hK _ _ ?_ ?_ HW
            · simp [upd]
            · exact rfl
          refine auto_op 89 [] (by kernel_rfl) (fun y w' HW hd K hK => ?_) ?_
          · go_simp
            refine hK _ _ ?_ ?_ HW
            · simp [upd]
            · exact rfl
          refine auto_op 90 [0, 1] (by kernel_rfl) (fun y w' HW hd K hK => ?_) ?_
          · have e0 := hd_nth (hd 0 (by simp)) rfl
            have e1 := hd_nth (hd 1 (by simp)) rfl
            go_simp
            refine (HQ1.out _ (HBW.out.trans (HW.mono HBW.out.size))).mono ?_
            rintro e w3 ⟨rfl, hb2⟩
            refine hK _ _ ?_ ?_ (HW.trans (hb2.mono HW.size))
            · simp [upd, e0, e1]
            · exact rfl
          refine auto_op 91 [] (by kernel_rfl) (fun y w' HW hd K hK => ?_) ?_
          · have hcl : ∀ p : Addr, p.block < V2.heap.size → w'.cell? p = V2.cell? p := fun p hp => HW.cell hp
            go_simp
            refine hK _ _ ?_ ?_ HW
            · simp [upd]
            · exact rfl
          refine auto_op 92 [] (by kernel_rfl) (fun y w' HW hd K hK => ?_) ?_
          · go_simp
            refine hK _ _ ?_ ?_ HW
            · simp [upd]
            · exact rfl
          refine auto_op 93 [3, 4, 2] (by kernel_rfl) (fun y w' HW hd K hK => ?_) ?_
          · have e2 := hd_nth (hd 2 (by simp)) rfl
            have e3 := hd_nth (hd 3 (by simp)) rfl
            have e4 := hd_nth (hd 4 (by simp)) rfl
            go_simp
            refine (HQ2.out _ (HBW.out.trans (HW.mono HBW.out.size))).mono ?_
            rintro e w3 ⟨rfl, hb5⟩
            refine hK _ _ ?_ ?_ (HW.trans (hb5.mono HW.size))
            · simp [upd, e2, e3, e4]
            · exact rfl
          refine auto_op 94 [2, 5] (by kernel_rfl) (fun y w' HW hd K hK => ?_) ?_
          · have e2 := hd_nth (hd 2 (by simp)) rfl
            have e5 := hd_nth (hd 5 (by simp)) rfl
            go_simp
            refine hK _ _ ?_ ?_ HW
            · simp [upd, e2, e5]
            · exact rfl
          refine auto_op 95 [6, 5] (by kernel_rfl) (fun y w' HW hd K hK => ?_) ?_
          · have e5 := hd_nth (hd 5 (by simp)) rfl
            have e6 := hd_nth (hd 6 (by simp)) rfl
            go_simp
            refine hK _ _ ?_ ?_ HW
            · simp [upd, e5, e6]
            · exact rfl
          refine auto_op 96 [7] (by kernel_rfl) (fun y w' HW hd K hK => ?_) ?_
          · have e7 := hd_nth (hd 7 (by simp)) rfl
            have hcl : ∀ p : Addr, p.block < V2.heap.size → w'.cell? p = V2.cell? p := fun p hp => HW.cell hp
            go_simp
            refine hK _ _ ?_ ?_ HW
            · simp [upd, e7]
            · exact rfl
          refine auto_op 97 [7] (by kernel_rfl) (fun y w' HW hd K hK => ?_) ?_
          · have e7 := hd_nth (hd 7 (by simp)) rfl
            go_simp
            refine hK _ _ ?_ ?_ HW
            · simp [upd, e7]
            · exact rfl
          refine auto_op 98 [8, 9, 7, 7] (by kernel_rfl) (fun y w' HW hd K hK => ?_) ?_
          · have e7 := hd_nth (hd 7 (by simp)) rfl
            have e8 := hd_nth (hd 8 (by simp)) rfl
            have e9 := hd_nth (hd 9 (by simp)) rfl
            go_simp
            refine (HT1.out _ (HBW.out.trans (HW.mono HBW.out.size))).mono ?_
            rintro e w3 ⟨rfl, hb10⟩
            refine hK _ _ ?_ ?_ (HW.trans (hb10.mono HW.size))
            · simp [upd, e7, e8, e9]
            · exact rfl
          refine auto_op 99 [7] (by kernel_rfl) (fun y w' HW hd K hK => ?_) ?_
          · have e7 := hd_nth (hd 7 (by simp)) rfl
            have hcl : ∀ p : Addr, p.block < V2.heap.size → w'.cell? p = V2.cell? p := fun p hp => HW.cell hp
            go_simp
            refine hK _ _ ?_ ?_ HW
            · simp [upd, e7]
            · exact rfl
          refine auto_op 100 [7] (by kernel_rfl) (fun y w' HW hd K hK => ?_) ?_
          · have e7 := hd_nth (hd 7 (by simp)) rfl
            go_simp
            refine hK _ _ ?_ ?_ HW
            · simp [upd, e7]
            · exact rfl
          refine auto_op 101 [11, 12, 10, 7] (by kernel_rfl) (fun y w' HW hd K hK => ?_) ?_
          · have e7 := hd_nth (hd 7 (by simp)) rfl
            have e10 := hd_nth (hd 10 (by simp)) rfl
            have e11 := hd_nth (hd 11 (by simp)) rfl
            have e12 := hd_nth (hd 12 (by simp)) rfl
            go_simp
            refine (HT2.out _ (HBW.out.trans (HW.mono HBW.out.size))).mono ?_
            rintro e w3 ⟨rfl, hb13⟩
            refine hK _ _ ?_ ?_ (HW.trans (hb13.mono HW.size))
            · simp [upd, e7, e10, e11, e12]
            · exact rfl
          refine auto_op 102 [10, 13, 7] (by kernel_rfl) (fun y w' HW hd K hK => ?_) ?_
          · have e7 := hd_nth (hd 7 (by simp)) rfl
            have e10 := hd_nth (hd 10 (by simp)) rfl
            have e13 := hd_nth (hd 13 (by simp)) rfl
            go_simp
            refine hK _ _ ?_ ?_ HW
            · simp [upd, e7, e10, e13]
            · exact rfl
          refine auto_op 103 [7, 14] (by kernel_rfl) (fun y w' HW hd K hK => ?_) ?_
          · have e7 := hd_nth (hd 7 (by simp)) rfl
            have e14 := hd_nth (hd 14 (by simp)) rfl
            go_simp
            refine hK _ _ ?_ ?_ HW
            · simp [upd, e7, e14]
            · exact rfl
          refine auto_op 104 [15, 13] (by kernel_rfl) (fun y w' HW hd K hK => ?_) ?_
          · have e13 := hd_nth (hd 13 (by simp)) rfl
            have e15 := hd_nth (hd 15 (by simp)) rfl
            go_simp
            refine hK _ _ ?_ ?_ HW
            · simp [upd, e13, e15]
            · exact rfl
          refine auto_op 105 [16, 16] (by kernel_rfl) (fun y w' HW hd K hK => ?_) ?_
          · have e16 := hd_nth (hd 16 (by simp)) rfl
            go_simp
            refine (HAw.out _).mono ?_
            rintro e w3 ⟨rfl, hb17⟩
            refine hK _ _ ?_ ?_ (HW.trans (hb17.mono HW.size))
            · simp [upd, e16]
            · exact rfl
          refine auto_op 106 [16, 17] (by kernel_rfl) (fun y w' HW hd K hK => ?_) ?_
          · have e16 := hd_nth (hd 16 (by simp)) rfl
            have e17 := hd_nth (hd 17 (by simp)) rfl
            go_simp
            refine hK _ _ ?_ ?_ HW
            · simp [upd, e16, e17]
            · exact rfl
          refine auto_last fun y w' HW hd K hK => ?_
          have e0 := hd_nth (hd 0 (by omega)) rfl
          have e1 := hd_nth (hd 1 (by omega)) rfl
          have e2 := hd_nth (hd 2 (by omega)) rfl
          have e3 := hd_nth (hd 3 (by omega)) rfl
          have e4 := hd_nth (hd 4 (by omega)) rfl
          have e5 := hd_nth (hd 5 (by omega)) rfl
          have e6 := hd_nth (hd 6 (by omega)) rfl
          have e7 := hd_nth (hd 7 (by omega)) rfl
          have e8 := hd_nth (hd 8 (by omega)) rfl
          have e9 := hd_nth (hd 9 (by omega)) rfl
          have e10 := hd_nth (hd 10 (by omega)) rfl
          have e11 := hd_nth (hd 11 (by omega)) rfl
          have e12 := hd_nth (hd 12 (by omega)) rfl
          have e13 := hd_nth (hd 13 (by omega)) rfl
          have e14 := hd_nth (hd 14 (by omega)) rfl
          have e15 := hd_nth (hd 15 (by omega)) rfl
          have e16 := hd_nth (hd 16 (by omega)) rfl
          have e17 := hd_nth (hd 17 (by omega)) rfl
          have e18 := hd_nth (hd 18 (by omega)) rfl
          go_simp
          refine hK _ _ ?_
          clear hd hK K e0 e1 e2 e3 e4 e5 e6 e7 e8 e9 e10 e11 e12 e13 e14 e15 e16 e17 e18
          go_wp2
          go_ret
          exact ⟨rfl, HBW.out.trans (HW.mono HBW.out.size)⟩
end Go.Proofs.Ytmekoanobicddaa.Cf
namespace Go.Proofs.Ytmekoanobicddaa.configPlays
open Go.ChangeShapes Go.WideShapes Go.ChangeAt Go.RowKit
set_option linter.unusedVariables false

theorem own : ownKnob Try.prog.godebug = none := by kernel_rfl
theorem laidOut : laidOutB Try.prog = true := by kernel_rfl

set_option maxRecDepth 100000 in
theorem lifted (os : Os) (started : os.Started) (H : Type) (enc : TypeId × Value → H) :
    ReturnsInHanded {} Try.checked os 4 .any (Rows.configPlaysSpec.pre6 enc Try.prog Try.f4 Rows.configPlaysRow.domain false) (Rows.configPlaysSpec.post enc Try.prog Try.f4 false true false false) := by
  refine returnsInHanded_of_change_sized (C := Try.checked) own started (by kernel_rfl) Try.func4
    (ChangeSpec.witness6 (enc := enc) (C := Try.checked) false ⟨#[], #[.agg #[.int .i64 0, .slice none 0 0, .slice none 0 0, .slice none 0 0, .slice none 0 0, .slice none 0 0, .int .i64 0, .int .i64 0], .int .i64 0], []⟩ 8 (by kernel_rfl) (by kernel_rfl) (by kernel_rfl) (by kernel_rfl)) ?_
  intro W base args ds gs before hval0 hW hcnd hsz0 _
  have hsz : (DataW.weightsEach Try.prog (Try.f4.params.toList ++ Rows.configPlaysSpec.plain.varTypes Try.prog) (ds ++ gs)).all (· ≤ reachBytes) = true := hsz0
  clear hsz0
  have hval : ∀ (j : Nat) t v, Try.f4.params[j]? = some t → args[j]? = some v → Value.okWide Try.prog W .any base t v := hval0
  have hW' := hW
  obtain ⟨p, q, hA0, hV, rfl, hfz, hnd⟩ := hW
  have hA : DataW.TrodAll enc Try.prog W 0 (fun _ => true) true Try.f4.params.toList args.toList ds p := hA0
  rw [Try.params4] at hA hval hsz
  obtain ⟨v0, vs0, d0, ds0, p0, q0, hargs, rfl, rfl, h0, r0⟩ := trodAll_cons hA
  obtain ⟨v1, vs1, d1, ds1, p1, q1, rfl, rfl, rfl, h1, r1⟩ := trodAll_cons r0
  obtain ⟨rfl, rfl, rfl⟩ := trodAll_nil r1
  obtain rfl : args = #[v0, v1] := by cases args; simp_all
  obtain ⟨rfl, rfl⟩ := trodVars_none hV
  have k0 := h0
  have lt0 : ∀ x ∈ p0, x.block < W.heap.size := by obtain ⟨m, hm⟩ := k0; exact DataW.trod_lt m _ _ _ hm
  obtain ⟨c0, rfl, hc0⟩ := Cf.cfg_arg (hval 0 44 v0 rfl rfl) h0 hsz (j := 0) rfl rfl
  obtain ⟨a1, rfl, rfl, rfl, w1⟩ := open_int Try.underlying3 (hval 1 3 v1 rfl rfl) h1
  clear hA0 hval0
  refine (Cf.plays_any c0 a1 _ W (Nat.le_refl _) hc0 (Ut.wf_i64 w1).2 : Calls Try.prog 4 _ W fun e w' => e = .returned (.bool true) ∧ Below W.heap.size W w').mono fun e W' ⟨he, bel⟩ => ?_
  subst he
  exact ⟨_, rfl, _, _, _, [], _, [], hW', trodAll_mk1 (shut_bool Try.underlying4 _), (trodAll_cons_mk (Below.trod laidOut (by kernel_rfl) (of_decide_eq_true (by kernel_rfl)) k0 bel lt0) (trodAll_cons_mk (shut_int Try.underlying3 w1) trodAll_mk0)), rfl, bel.frame _, fun h => by cases h⟩

theorem over : Rows.configPlaysRow.holds Try.pinned (OpenSpec.ofChange Rows.configPlaysSpec) :=
  OpenClaim.holds_of_wide 4 Try.f4 rfl rfl rfl rfl rfl rfl rfl ⟨rfl, rfl, rfl, rfl, rfl⟩ rfl rfl rfl rfl rfl (by kernel_rfl) Try.func4 (by kernel_rfl)
    (of_decide_eq_true (by kernel_rfl)) (by unfold Func.isWrapper; first | (rw [if_pos (by decide +kernel)]; kernel_rfl) | (rw [if_neg (by decide +kernel)]; exact ⟨rfl, rfl⟩))
    (fun os started H enc _ => lifted os started H enc)

theorem proved : Rows.ConfigPlaysSaid := over
#print axioms proved
end Go.Proofs.Ytmekoanobicddaa.configPlays
