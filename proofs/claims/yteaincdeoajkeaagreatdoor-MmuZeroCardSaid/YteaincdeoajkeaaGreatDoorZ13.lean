/- Several texts in one: Xl Ar Xm Xn -/
import Derived.Test.YteaincdeoajkeaaGreatDoorZ08
import Derived.Deep.Cut
import Derived.Test.YteaincdeoajkeaaGreatDoorZ01
import Derived.Deep.Slices
import Derived.Deep.Fields
import Derived.ChangeSame
import Derived.SizedLaws
import Derived.Lib.SmallJoins
import Derived.Test.YteaincdeoajkeaaGreatDoorZ05
section
/- The walk of hermitagelaw15.GmapRights. -/
namespace Go.Proofs.YteaincdeoajkeaaGreatDoor.Gm
open Go.RowKit Ut
set_option maxRecDepth 100000
set_option linter.unusedVariables false
set_option maxHeartbeats 8000000

theorem plN_set {L : List Pl} (h : Okay L) (k : Nat) (hk : k < 12) (p : Pl) : plN (L.set k p) k = p := by
  simp [plN, List.getD, h.1, hk]
theorem plN_other (L : List Pl) (k j : Nat) (hne : j ≠ k) (p : Pl) : plN (L.set k p) j = plN L j := by
  simp only [plN, List.getD_eq_getElem?_getD, List.getElem?_set_ne (Ne.symm hne)]
theorem plN_no (k : Nat) : plN noP k = (0, 0) := by
  unfold plN noP
  rw [List.getD_eq_getElem?_getD, List.getElem?_replicate]
  split <;> rfl
/-- the pages told where one alone is there -/
theorem upto_one (k f r : Nat) (hk : k < 12) (h : 0 < r) : upto (noP.set k ((f : Int), (r : Int))) 12 = [(k : Int)] := by
  have ht : thB ((f : Int), (r : Int)) = true := by unfold thB; simp; omega
  have key : ∀ m, upto (noP.set k ((f : Int), (r : Int))) m = if k < m then [(k : Int)] else [] := fun m => by
    induction m with
    | zero => rfl
    | succ m ih =>
      rw [upto_succ, ih]
      by_cases hm : m = k
      · subst hm
        rw [plN_set noP_ok m hk, ht]
        simp
      · rw [plN_other _ _ _ hm, plN_no, if_neg (show ¬ thB (0, 0) = true by decide)]
        by_cases hlt : k < m
        · rw [if_pos hlt, if_pos (by omega)]; rfl
        · rw [if_neg hlt, if_neg (by omega)]; rfl
  rw [key, if_pos hk]

def one (k f r : Nat) : List Pl := noP.set k ((f : Int), (r : Int))
theorem one_at (k f r : Nat) (hk : k < 12) : atP (one k f r) k = ((f : Int), (r : Int)) := (atP_is hk).trans (plN_set noP_ok k hk _)
theorem one_set (k f r : Nat) (hk : k < 12) (hf : f < 32) (h0 : 0 < r) (h3 : r ≤ 3) : setE noP k ((f : Int), (r : Int)) = 0 ∧ setL noP k ((f : Int), (r : Int)) = one k f r ∧ setE (one k f r) k ((f : Int), (r : Int)) = 5 ∧ setL (one k f r) k ((f : Int), (r : Int)) = one k f r := by
  have hp : okB ((f : Int), (r : Int)) = true := by unfold okB; simp; omega
  have e1 : setE noP k ((f : Int), (r : Int)) = 0 := by rw [setE_is hk, if_pos hp, plN_no, if_neg (by decide)]
  have e2 : setE (one k f r) k ((f : Int), (r : Int)) = 5 := by rw [setE_is hk, if_pos hp, show plN (one k f r) k = _ from plN_set noP_ok k hk _, if_pos (th_ok hp)]
  refine ⟨e1, ?_, e2, ?_⟩
  · unfold setL; rw [if_pos e1]; rfl
  · unfold setL; rw [e2]; rfl
end Go.Proofs.YteaincdeoajkeaaGreatDoor.Gm
end
section
/- Arguments that are structs of integers and of slices of structs of integers: what they read as. Serves all packages. -/
namespace Go.Proofs.YteaincdeoajkeaaGreatDoor.Ut
open Go.ChangeShapes Go.WideShapes Go.Deep Go.RowKit

theorem cell_lt {w : World} {a : Addr} {v : Value} (h : w.cell? a = some v) : a.block < w.heap.size := by
  rcases Nat.lt_or_ge a.block w.heap.size with hl | hl
  · exact hl
  · simp [World.cell?, Array.getElem?_eq_none hl] at h

section
variable {H : Type} {enc : TypeId × Value → H} {P : Program} {w : World} {base : Nat} {held : Bool}

/-- the fields of a struct that came in by value -/
theorem open_fields {r : Reach} {b0 : Nat} {t : TypeId} {fs : Array Field} {v : Value} {d : DataW H} {p : List MemPlace} {spare : Nat → Bool} (hs : P.underlying t = some (.struct fs)) (hone : oneCellFields P fs = true) (hC : P.cellsOf t = fs.size)
    (hv : Value.okWide P w r b0 t v) (h : DataW.Trod enc P w base spare held t v d p) :
    ∃ (cs : List Value) (ys : List (DataW H × List MemPlace)) (n : Nat), v = .agg cs.toArray ∧ cs.length = fs.size ∧ d = .agg (ys.map (·.1)) ∧ ys.length = fs.size ∧
      ∀ (j : Nat) (f : Field), fs[j]? = some f → ∃ c y, cs[j]? = some c ∧ ys[j]? = some y ∧ DataW.trod enc P w base spare held n f.type [c] = some y := by
  obtain ⟨cs, rfl, hsz⟩ := okWide_struct hs hv
  obtain ⟨l⟩ := cs
  have hl : l.length = fs.size := by simpa using hsz.trans hC
  obtain ⟨fuel, hf⟩ := h
  obtain ⟨ys, n, _, hx, _, hlen, hg⟩ := DataW.trod_struct hs hf
  simp only [Prod.mk.injEq] at hx
  refine ⟨l, ys, n, rfl, hl, hx.1, hlen, fun j f hj => ?_⟩
  obtain ⟨o1, k1⟩ := hone_of hone j f hj
  have hjl : j < fs.size := (Array.getElem?_eq_some_iff.1 hj).1
  have h1 := hg j f hj
  simp only [Value.cells] at h1
  rw [o1, k1] at h1
  have hd1 : (l.drop j).take 1 = [l[j]'(by omega)] := by
    rw [List.drop_eq_getElem_cons (by omega)]
    rfl
  rw [hd1] at h1
  have hy : ys[j]? = some (ys[j]'(by omega)) := List.getElem?_eq_getElem (by omega)
  exact ⟨_, _, List.getElem?_eq_getElem (by omega), hy, h1.trans hy⟩

/-- a slice of structs of integers -/
theorem open_recs {t e : TypeId} {fs : Array Field} {fuel : Nat} {c : Value} {x : DataW H × List MemPlace} (ht : P.underlying t = some (.slice e)) (he : P.underlying e = some (.struct fs)) (hone : oneCellFields P fs = true) (hC : P.cellsOf e = fs.size)
    (hint : ∀ (j : Nat) (f : Field), fs[j]? = some f → P.underlying f.type = some (.int .i64)) (h0 : 0 < fs.size) (h : DataW.trod enc P w base (fun _ => true) held fuel t [c] = some x) :
    ∃ (a : Option Addr) (n cap : Nat) (Z : Nat → Nat → Int), c = .slice a n cap ∧ n ≤ cap ∧ ((cap = 0) ∨ ∃ el sp, x.1 = .slice el sp ∧ el.length + sp.length = cap) ∧
      ∀ i, i < n → ∃ y, a = some y ∧ y.block < w.heap.size ∧ ∀ j, j < fs.size → w.cell? (y.add (i * fs.size + j)) = some (.int .i64 (Z i j)) ∧ -9223372036854775808 ≤ Z i j ∧ Z i j < 9223372036854775808 := by
  rcases Go.Deep.open_slice ht h with ⟨hc, _⟩ | ⟨a, n, cap, m, q, D, Pl, hc, hb, hl, hm, hmm, hx, hi⟩
  · simp only [List.cons.injEq, and_true] at hc
    exact ⟨none, 0, 0, fun _ _ => 0, hc, Nat.le_refl _, .inl rfl, fun i hi => absurd hi (by omega)⟩
  · simp only [List.cons.injEq, and_true] at hc
    simp only [if_true] at hmm
    subst hmm
    have key : ∀ i j, ∃ z : Int, i < n → j < fs.size → w.cell? (a.add (i * fs.size + j)) = some (.int .i64 z) ∧ -9223372036854775808 ≤ z ∧ z < 9223372036854775808 := fun i j => by
      by_cases h1 : i < n ∧ j < fs.size
      · obtain ⟨cs', hcs, ht'⟩ := hi i (by omega)
        rw [hC] at hcs
        obtain ⟨ys, n', _, _, _, hyl, hf⟩ := DataW.trod_struct he ht'
        obtain ⟨_, hcl, hat⟩ := World.cells?_some hcs
        have hj : fs[j]? = some fs[j] := by simp [h1.2]
        obtain ⟨o1, k1⟩ := hone_of hone j _ hj
        have h2 := hf j _ hj
        rw [o1, k1] at h2
        have hd1 : (cs'.drop j).take 1 = [cs'[j]'(by omega)] := by
          rw [List.drop_eq_getElem_cons (by omega)]
          rfl
        rw [hd1] at h2
        have hy : ys[j]? = some (ys[j]'(by omega)) := List.getElem?_eq_getElem (by omega)
        rw [hy] at h2
        obtain ⟨z, hz, _, hw⟩ := DataW.trod_int (hint j _ hj) h2
        simp only [List.cons.injEq, and_true] at hz
        refine ⟨z, fun _ _ => ⟨?_, wf_i64 hw⟩⟩
        rw [← add_of_add, hat j h1.2, List.getElem?_eq_getElem (by omega), hz]
      · exact ⟨0, fun h2 h3 => absurd ⟨h2, h3⟩ h1⟩
    refine ⟨some a, n, m, fun i j => Classical.choose (key i j), hc, hl, .inr ⟨_, _, by rw [hx], by simp; omega⟩, fun i hin => ?_⟩
    refine ⟨a, rfl, ?_, fun j hj => Classical.choose_spec (key i j) hin hj⟩
    have h1 := Classical.choose_spec (key i 0) hin h0
    have h2 := cell_lt h1.1
    rwa [block_of_add] at h2

/-- what a slice in a field of a struct may take -/
theorem sized_field {ts : List TypeId} {ds : List (DataW H)} (h : (DataW.weightsEach P ts ds).all (· ≤ reachBytes) = true) {j : Nat} {t : TypeId} {fs : Array Field} {parts : List (DataW H)} (ht : ts[j]? = some t) (hd : ds[j]? = some (.agg parts))
    (hu : P.underlying t = some (.struct fs)) {i : Nat} {f : Field} {e : TypeId} {el sp : List (DataW H)} (hf : fs[i]? = some f) (hp : parts[i]? = some (.slice el sp)) (he : P.underlying f.type = some (.slice e)) : (el.length + sp.length) * P.bytesOf e ≤ reachBytes := by
  refine sized_slice (P := P) (ts := fs.toList.map (·.type)) (ds := parts) (j := i) (t := f.type) ?_ (by simp [hf]) hp he
  rw [List.all_eq_true]
  intro q hq
  refine List.all_eq_true.1 h q (DataW.weights_mem_each ht hd q ?_)
  simp only [DataW.weights, hu]
  exact hq
end
end Go.Proofs.YteaincdeoajkeaaGreatDoor.Ut
end
section
/- A place as an argument; a slice of places. -/
namespace Go.Proofs.YteaincdeoajkeaaGreatDoor.Gm
open Go.ChangeShapes Go.WideShapes Go.Deep Go.RowKit Ut
set_option linter.unusedVariables false
set_option maxRecDepth 100000

theorem ints2 {fs : Array Field} {f0 f1 : Field} (h : fs = #[f0, f1]) (h0 : f0.type = 3) (h1 : f1.type = 3) : ∀ (j : Nat) (f : Field), fs[j]? = some f → Tryz.prog.underlying f.type = some (.int .i64) := fun j f hj => by
  subst h
  match j, hj with
  | 0, hj => simp at hj; subst hj; rw [h0]; exact Tryz.underlying3
  | 1, hj => simp at hj; subst hj; rw [h1]; exact Tryz.underlying3
  | j + 2, hj => simp at hj
/-- the slice at a of n places reads as Z, and lies below block B -/
def PlRow (w : World) (B : Nat) (a : Option Addr) (n : Nat) (Z : Nat → Pl) : Prop := ∀ i, i < n → ∃ x, a = some x ∧ x.block < B ∧ w.cell? (x.add (i * 2)) = some (.int .i64 (Z i).1) ∧ w.cell? (x.add (i * 2 + 1)) = some (.int .i64 (Z i).2)
section
variable {H : Type} {enc : TypeId × Value → H} {W : World}
theorem place_arg {r : Reach} {b0 : Nat} {v : Value} {d : DataW H} {p : List MemPlace} (hv : Value.okWide Tryz.prog W r b0 54 v) (h : DataW.Trod enc Tryz.prog W 0 (fun _ => true) true 54 v d p) : ∃ f r : Int, v = .agg #[.int .i64 f, .int .i64 r] := by
  obtain ⟨cs, ys, n, rfl, hl, _, hyl, hj⟩ := open_fields Tryz.underlying54 (by kernel_rfl) (by kernel_rfl) hv h
  obtain ⟨x0, y0, e0, _, t0⟩ := hj 0 _ rfl
  obtain ⟨x1, y1, e1, _, t1⟩ := hj 1 _ rfl
  have hl2 : cs.length = 2 := hl
  match cs, hl2, e0, e1 with
  | [x0, x1], _, e0, e1 =>
    simp only [List.getElem?_cons_zero, List.getElem?_cons_succ, Option.some.injEq] at e0 e1
    subst e0 e1
    obtain ⟨z0, q0, _, _⟩ := DataW.trod_int Tryz.underlying3 t0
    obtain ⟨z1, q1, _, _⟩ := DataW.trod_int Tryz.underlying3 t1
    simp only [List.cons.injEq, and_true] at q0 q1
    subst q0 q1
    exact ⟨z0, z1, rfl⟩
end
end Go.Proofs.YteaincdeoajkeaaGreatDoor.Gm
end
section
/- Places that came in, read; what stays where others are set and dropped. -/
namespace Go.Proofs.YteaincdeoajkeaaGreatDoor.Gm
open Go.RowKit Ut
set_option maxRecDepth 100000
set_option linter.unusedVariables false

theorem add_some2 (x : Addr) (k j : Nat) (hj : 0 < j) : x.add (k * 2 + j) = ⟨(x.add (k * 2)).block, (x.add (k * 2)).off + j, none⟩ := by
  rw [← add_of_add]
  generalize x.add (k * 2) = y
  unfold Addr.add
  rw [if_neg (by omega)]
theorem pl_cells {w W : World} {x : Addr} {k B : Nat} {p : Pl} (hb : Below B w W) (hx : x.block < B) (h : w.cell? (x.add (k * 2)) = some (.int .i64 p.1) ∧ w.cell? (x.add (k * 2 + 1)) = some (.int .i64 p.2)) :
    W.cell? (x.add (k * 2)) = some (.int .i64 p.1) ∧ W.cell? ⟨(x.add (k * 2)).block, (x.add (k * 2)).off + 1, none⟩ = some (.int .i64 p.2) := by
  have g : ∀ j, W.cell? (x.add (k * 2 + j)) = w.cell? (x.add (k * 2 + j)) := fun j => hb.cell (p := x.add (k * 2 + j)) (by rw [block_of_add]; exact hx)
  refine ⟨(g 0).trans h.1, ?_⟩
  rw [← add_some2 x _ 1 (by decide)]
  exact (g 1).trans h.2

/-- page k lies at p, whatever is done with others -/
theorem stay_drop {L : List Pl} {k : Nat} {p : Pl} (h : plN L k = p) (n : Int) (hne : n ≠ k) : plN (drL L n) k = p := by
  unfold drL
  split
  · rename_i he
    have hn : 0 ≤ n ∧ n < 12 := by
      unfold drE at he
      split at he
      · assumption
      · omega
    rw [plN_other L n.toNat k (by omega)]
    exact h
  · exact h
theorem stay_set {L : List Pl} {k : Nat} {p : Pl} (h : plN L k = p) (ht : thB p = true) (n : Int) (q : Pl) : plN (setL L n q) k = p := by
  unfold setL
  split
  · rename_i he
    have hn : 0 ≤ n ∧ n < 12 := by
      unfold setE at he
      split at he
      · assumption
      · omega
    by_cases hk : k = n.toNat
    · subst hk
      unfold setE at he
      rw [if_pos hn, h, if_pos ht] at he
      split at he <;> omega
    · rw [plN_other L n.toNat k hk]
      exact h
  · exact h
theorem set_first {k : Nat} {p : Pl} (hk : k < 12) : (okB p = false ∧ setE noP k p = 1 ∧ setL noP k p = noP) ∨ (okB p = true ∧ setE noP k p = 0 ∧ setL noP k p = noP.set k p) := by
  have e := setE_is (L := noP) (p := p) hk
  rw [plN_no] at e
  rw [if_neg (show ¬ thB (0, 0) = true by decide)] at e
  by_cases hp : okB p = true
  · rw [if_pos hp] at e
    refine .inr ⟨hp, e, ?_⟩
    unfold setL
    rw [if_pos e]
    simp
  · rw [if_neg hp] at e
    refine .inl ⟨by simpa using hp, e, ?_⟩
    unfold setL
    rw [e]
    rfl
end Go.Proofs.YteaincdeoajkeaaGreatDoor.Gm
end
