/- Several texts in one: Hc Ar Cz -/
import Derived.Test.YtikkfapgmbamlaaGreatDoorZ29
import Derived.Test.YtikkfapgmbamlaaGreatDoorZ37
import Derived.Test.YtikkfapgmbamlaaGreatDoorZ01
import Derived.Deep.Slices
import Derived.Deep.Fields
import Derived.ChangeSame
import Derived.SizedLaws
import Derived.Lib.SmallJoins
import Derived.Test.YtikkfapgmbamlaaGreatDoorZ19
section
/- The walk of hermitagelaw05.PlanPrints. -/
namespace Go.Proofs.YtikkfapgmbamlaaGreatDoor.Pl
open Go.RowKit Ut
set_option linter.unusedVariables false
set_option maxRecDepth 100000

theorem long_bad {p : PC} (hl : PLen p) (h : 40 < p.gs.length ∨ 40 < p.rs.length ∨ 40 < p.ps.length ∨ 40 < p.ns.length ∨ 40 < p.ss.length) : ¬ (chk p).1 = 0 := fun he => by
  obtain ⟨_, l1, l2, l3, l4, l5⟩ := okp_of hl he
  omega
/-- what both Prints answer, where the lists are as they came -/
theorem both_prints (p : PC) (ga : Option Addr) (gc : Nat) (ra : Option Addr) (rc : Nat) (pa : Option Addr) (qc : Nat) (na : Option Addr) (nc : Nat) (sa : Option Addr) (sc : Nat) (w : World) (h : (p.cfg ga gc ra rc pa qc na nc sa sc).At w w.heap.size) (hl : PLen p) (hK : Kinds w) :
    ∃ (tx : ByteArray) (e1 : Int), (∀ W, Below w.heap.size w W → Calls Tryz.prog 4 #[.agg #[.int .i64 p.cats, .slice ga p.gs.length gc, .slice ra p.rs.length rc, .slice pa p.ps.length qc, .slice na p.ns.length nc, .slice sa p.ss.length sc, .int .i64 p.gate, .int .i64 p.quota]] W fun e w' => e = .returned (.tuple #[.string tx, .int .i64 e1]) ∧ Below W.heap.size W w') ∧ (∀ W, Below w.heap.size w W → Calls Tryz.prog 6 #[.agg #[.int .i64 p.cats, .slice ga p.gs.length gc, .slice ra p.rs.length rc, .slice pa p.ps.length qc, .slice na p.ns.length nc, .slice sa p.ss.length sc, .int .i64 p.gate, .int .i64 p.quota]] W fun e w' => e = .returned (.tuple #[.string tx, .int .i64 e1]) ∧ Below W.heap.size W w') ∧ (¬ (chk p).1 = 0 → tx = ByteArray.empty ∧ ¬ e1 = 0) := by
  have hat : ∀ W, Below w.heap.size w W → (p.cfg ga gc ra rc pa qc na nc sa sc).At W W.heap.size := fun W hW => (h.below hW).more_at hW.size
  have hk : ∀ W, Below w.heap.size w W → Kinds W := fun W hW => hK.below hW hK.lt
  by_cases he : (chk p).1 = 0
  · exact ⟨tb p.text, 0, fun W hW => print_good p ga gc ra rc pa qc na nc sa sc _ W (Nat.le_refl _) (hat W hW) hl he (hk W hW), fun W hW => refPrint_good p ga gc ra rc pa qc na nc sa sc _ W (Nat.le_refl _) (hat W hW) hl he, fun hn => absurd he hn⟩
  · exact ⟨ByteArray.empty, (chk p).1, fun W hW => print_bad p ga gc ra rc pa qc na nc sa sc _ W (Nat.le_refl _) (hat W hW) _ rfl he, fun W hW => refPrint_bad p ga gc ra rc pa qc na nc sa sc _ W (Nat.le_refl _) (hat W hW) _ rfl he, fun _ => ⟨rfl, he⟩⟩
set_option maxHeartbeats 4000000 in
theorem prints_any (p : PC) (ga : Option Addr) (gc : Nat) (ra : Option Addr) (rc : Nat) (pa : Option Addr) (qc : Nat) (na : Option Addr) (nc : Nat) (sa : Option Addr) (sc : Nat) (w : World) (h : (p.cfg ga gc ra rc pa qc na nc sa sc).At w w.heap.size) (hl : PLen p) (hK : Kinds w) :
    Calls Tryz.prog 3 #[.agg #[.int .i64 p.cats, .slice ga p.gs.length gc, .slice ra p.rs.length rc, .slice pa p.ps.length qc, .slice na p.ns.length nc, .slice sa p.ss.length sc, .int .i64 p.gate, .int .i64 p.quota]] w fun e w' => e = .returned (.bool true) ∧ Below w.heap.size w w' := by
  obtain ⟨tx, e1, hP, hR, hbad⟩ := both_prints p ga gc ra rc pa qc na nc sa sc w h hl hK
  have hal : Below w.heap.size w (w.alloc (.cells #[.int .i64 p.cats, .slice ga p.gs.length gc, .slice ra p.rs.length rc, .slice pa p.ps.length qc, .slice na p.ns.length nc, .slice sa p.ss.length sc, .int .i64 p.gate, .int .i64 p.quota] 28 (0, 0))) := (Below.refl _ _).alloc (Nat.le_refl _) _
  have hz := heap_alloc_new w (.cells #[.int .i64 p.cats, .slice ga p.gs.length gc, .slice ra p.rs.length rc, .slice pa p.ps.length qc, .slice na p.ns.length nc, .slice sa p.ss.length sc, .int .i64 p.gate, .int .i64 p.quota] 28 (0, 0))
  have HZ0 := Lib.hid hz
  have HAL0 := Lib.hid hal
  have HP := Lib.hid hP
  have HR := Lib.hid hR
  have HK0 := Lib.hid hK.lt
  have HKK : Hid (∀ W, Below w.heap.size w W → Kinds W) := Lib.hid fun W hW => hK.below hW HK0.out
  have HLB : Hid (_ → _) := Lib.hid (fun hh => hbad (long_bad hl hh))
  clear hP hR hbad h hl hK hz hal
  go_enter Tryz.func3, Tryz.ntmps3
  go_upto_region 1 with fail
  have hz := HZ0.out
  have hal := HAL0.out
  clear HZ0 HAL0
  obtain ⟨W1, hW1⟩ : ∃ W1, w.alloc (.cells #[.int .i64 p.cats, .slice ga p.gs.length gc, .slice ra p.rs.length rc, .slice pa p.ps.length qc, .slice na p.ns.length nc, .slice sa p.ss.length sc, .int .i64 p.gate, .int .i64 p.quota] 28 (0, 0)) = W1 := ⟨_, rfl⟩
  rw [hW1] at hal hz
  rw [hW1]
  clear hW1
  have HZ := Lib.hid hz
  have HAL := Lib.hid hal
  obtain ⟨⟨c0, c1, c2, c3, c4, c5, c6, c7⟩, _⟩ := cells8 hz
  clear hz hal
  by_cases hlong : 40 < p.gs.length ∨ 40 < p.rs.length ∨ 40 < p.ps.length ∨ 40 < p.ns.length ∨ 40 < p.ss.length
  · obtain ⟨rfl, hne⟩ := HLB.out hlong
    clear HR HLB
    have hbt : (e1 != 0) = true := bne_iff_ne.mpr hne
    have HBT := Lib.hid hbt
    clear hbt
    have hcase : (40 < p.gs.length) ∨ (¬ 40 < p.gs.length ∧ 40 < p.rs.length) ∨ (¬ 40 < p.gs.length ∧ ¬ 40 < p.rs.length ∧ 40 < p.ps.length) ∨ (¬ 40 < p.gs.length ∧ ¬ 40 < p.rs.length ∧ ¬ 40 < p.ps.length ∧ 40 < p.ns.length) ∨ (¬ 40 < p.gs.length ∧ ¬ 40 < p.rs.length ∧ ¬ 40 < p.ps.length ∧ ¬ 40 < p.ns.length ∧ 40 < p.ss.length) := by omega
    clear hlong
    rcases hcase with h1 | ⟨h1, h2⟩ | ⟨h1, h2, h3⟩ | ⟨h1, h2, h3, h4⟩ | ⟨h1, h2, h3, h4, h5⟩
    · have g1 : (40 : Int) < (p.gs.length : Int) := by omega
      have d1 : decide ((40 : Int) < (p.gs.length : Int)) = true := decide_eq_true g1
      go_wp2_with (first
        | (go_at_call 4; refine (HP.out _ HAL.out).mono ?_; rintro e w2 ⟨rfl, hb2⟩; have hb02 := HAL.out.trans (hb2.mono HAL.out.size); have hk2 := HKK.out _ hb02)
        | (go_at_call 5; refine (awake5_any _ _ (Nat.le_refl _) hk2).mono ?_; rintro e w3 ⟨rfl, hb3⟩; have hb03 := hb02.trans (hb3.mono hb02.size)))
      go_ret
      exact ⟨show Ending.returned (.bool (e1 != 0)) = Ending.returned (.bool true) from by rw [HBT.out], hb03⟩
    · have g1 : ¬ (40 : Int) < (p.gs.length : Int) := by omega
      have d1 : decide ((40 : Int) < (p.gs.length : Int)) = false := decide_eq_false g1
      have g2 : (40 : Int) < (p.rs.length : Int) := by omega
      have d2 : decide ((40 : Int) < (p.rs.length : Int)) = true := decide_eq_true g2
      go_wp2_with (first
        | (go_at_call 4; refine (HP.out _ HAL.out).mono ?_; rintro e w2 ⟨rfl, hb2⟩; have hb02 := HAL.out.trans (hb2.mono HAL.out.size); have hk2 := HKK.out _ hb02)
        | (go_at_call 5; refine (awake5_any _ _ (Nat.le_refl _) hk2).mono ?_; rintro e w3 ⟨rfl, hb3⟩; have hb03 := hb02.trans (hb3.mono hb02.size)))
      go_ret
      exact ⟨show Ending.returned (.bool (e1 != 0)) = Ending.returned (.bool true) from by rw [HBT.out], hb03⟩
    · have g1 : ¬ (40 : Int) < (p.gs.length : Int) := by omega
      have d1 : decide ((40 : Int) < (p.gs.length : Int)) = false := decide_eq_false g1
      have g2 : ¬ (40 : Int) < (p.rs.length : Int) := by omega
      have d2 : decide ((40 : Int) < (p.rs.length : Int)) = false := decide_eq_false g2
      have g3 : (40 : Int) < (p.ps.length : Int) := by omega
      have d3 : decide ((40 : Int) < (p.ps.length : Int)) = true := decide_eq_true g3
      go_wp2_with (first
        | (go_at_call 4; refine (HP.out _ HAL.out).mono ?_; rintro e w2 ⟨rfl, hb2⟩; have hb02 := HAL.out.trans (hb2.mono HAL.out.size); have hk2 := HKK.out _ hb02)
        | (go_at_call 5; refine (awake5_any _ _ (Nat.le_refl _) hk2).mono ?_; rintro e w3 ⟨rfl, hb3⟩; have hb03 := hb02.trans (hb3.mono hb02.size)))
      go_ret
      exact ⟨show Ending.returned (.bool (e1 != 0)) = Ending.returned (.bool true) from by rw [HBT.out], hb03⟩
    · have g1 : ¬ (40 : Int) < (p.gs.length : Int) := by omega
      have d1 : decide ((40 : Int) < (p.gs.length : Int)) = false := decide_eq_false g1
      have g2 : ¬ (40 : Int) < (p.rs.length : Int) := by omega
      have d2 : decide ((40 : Int) < (p.rs.length : Int)) = false := decide_eq_false g2
      have g3 : ¬ (40 : Int) < (p.ps.length : Int) := by omega
      have d3 : decide ((40 : Int) < (p.ps.length : Int)) = false := decide_eq_false g3
      have g4 : (40 : Int) < (p.ns.length : Int) := by omega
      have d4 : decide ((40 : Int) < (p.ns.length : Int)) = true := decide_eq_true g4
      go_wp2_with (first
        | (go_at_call 4; refine (HP.out _ HAL.out).mono ?_; rintro e w2 ⟨rfl, hb2⟩; have hb02 := HAL.out.trans (hb2.mono HAL.out.size); have hk2 := HKK.out _ hb02)
        | (go_at_call 5; refine (awake5_any _ _ (Nat.le_refl _) hk2).mono ?_; rintro e w3 ⟨rfl, hb3⟩; have hb03 := hb02.trans (hb3.mono hb02.size)))
      go_ret
      exact ⟨show Ending.returned (.bool (e1 != 0)) = Ending.returned (.bool true) from by rw [HBT.out], hb03⟩
    · have g1 : ¬ (40 : Int) < (p.gs.length : Int) := by omega
      have d1 : decide ((40 : Int) < (p.gs.length : Int)) = false := decide_eq_false g1
      have g2 : ¬ (40 : Int) < (p.rs.length : Int) := by omega
      have d2 : decide ((40 : Int) < (p.rs.length : Int)) = false := decide_eq_false g2
      have g3 : ¬ (40 : Int) < (p.ps.length : Int) := by omega
      have d3 : decide ((40 : Int) < (p.ps.length : Int)) = false := decide_eq_false g3
      have g4 : ¬ (40 : Int) < (p.ns.length : Int) := by omega
      have d4 : decide ((40 : Int) < (p.ns.length : Int)) = false := decide_eq_false g4
      have g5 : (40 : Int) < (p.ss.length : Int) := by omega
      have d5 : decide ((40 : Int) < (p.ss.length : Int)) = true := decide_eq_true g5
      go_wp2_with (first
        | (go_at_call 4; refine (HP.out _ HAL.out).mono ?_; rintro e w2 ⟨rfl, hb2⟩; have hb02 := HAL.out.trans (hb2.mono HAL.out.size); have hk2 := HKK.out _ hb02)
        | (go_at_call 5; refine (awake5_any _ _ (Nat.le_refl _) hk2).mono ?_; rintro e w3 ⟨rfl, hb3⟩; have hb03 := hb02.trans (hb3.mono hb02.size)))
      go_ret
      exact ⟨show Ending.returned (.bool (e1 != 0)) = Ending.returned (.bool true) from by rw [HBT.out], hb03⟩
  · clear HLB
    have g1 : ¬ (40 : Int) < (p.gs.length : Int) := by omega
    have d1 : decide ((40 : Int) < (p.gs.length : Int)) = false := decide_eq_false g1
    have g2 : ¬ (40 : Int) < (p.rs.length : Int) := by omega
    have d2 : decide ((40 : Int) < (p.rs.length : Int)) = false := decide_eq_false g2
    have g3 : ¬ (40 : Int) < (p.ps.length : Int) := by omega
    have d3 : decide ((40 : Int) < (p.ps.length : Int)) = false := decide_eq_false g3
    have g4 : ¬ (40 : Int) < (p.ns.length : Int) := by omega
    have d4 : decide ((40 : Int) < (p.ns.length : Int)) = false := decide_eq_false g4
    have g5 : ¬ (40 : Int) < (p.ss.length : Int) := by omega
    have d5 : decide ((40 : Int) < (p.ss.length : Int)) = false := decide_eq_false g5
    go_wp2_with (first
      | (go_at_call 4; refine (HP.out _ HAL.out).mono ?_; rintro e w2 ⟨rfl, hb2⟩; have hz2 := (hb2.block _ (Array.getElem?_eq_some_iff.1 HZ.out).1).trans HZ.out; clear c0 c1 c2 c3 c4 c5 c6 c7; obtain ⟨⟨c0, c1, c2, c3, c4, c5, c6, c7⟩, _⟩ := cells8 hz2; have hb02 := HAL.out.trans (hb2.mono HAL.out.size); clear hb2 hz2)
      | (go_at_call 6; refine (HR.out _ hb02).mono ?_; rintro e w3 ⟨rfl, hb3⟩; have hb03 := hb02.trans (hb3.mono hb02.size); have hk3 := HKK.out _ hb03; clear hb3 hb02 c0 c1 c2 c3 c4 c5 c6 c7)
      | (go_at_call 5; refine (awake5_any _ _ (Nat.le_refl _) hk3).mono ?_; rintro e w4 ⟨rfl, hb4⟩; have hb04 := hb03.trans (hb4.mono hb03.size)))
    go_ret
    exact ⟨rfl, hb04⟩
theorem prints_cfg (c : Cf.Cfg) (w : World) (h : c.At w w.heap.size) (hK : Kinds w) :
    Calls Tryz.prog 3 #[c.v] w fun e w' => e = .returned (.bool true) ∧ Below w.heap.size w w' := by
  rw [of_v c]
  exact prints_any (ofCfg c) c.ga c.gc c.ra c.rc c.pa c.pc c.na c.nc c.sa c.sc w (of_at h) (of_len c) hK
end Go.Proofs.YtikkfapgmbamlaaGreatDoor.Pl
end
section
/- Arguments that are structs of integers and of slices of structs of integers: what they read as. Serves all packages. -/
namespace Go.Proofs.YtikkfapgmbamlaaGreatDoor.Ut
open Go.ChangeShapes Go.WideShapes Go.Deep Go.RowKit

theorem cell_lt {w : World} {a : Addr} {v : Value} (h : w.cell? a = some v) : a.block < w.heap.size := by
  rcases Nat.lt_or_ge a.block w.heap.size with hl | hl
  · exact hl
  · simp [World.cell?, Array.getElem?_eq_none hl] at h

section
variable {H : Type} {enc : TypeId × Value → H} {P : Program} {w : World} {base : Nat} {held : Bool}

/-- the fields of a struct that came in by value -/
theorem open_fields {r : Reach} {b0 : Nat} {t : TypeId} {fs : Array Field} {v : Value} {d : DataW H} {p : List MemPlace} {spare : Nat → Bool} (hs : P.underlying t = some (.struct fs)) (hone : oneCellFields P fs = true) (hC : P.cellsOf t = fs.size)
    (hv : Value.okWide P w r b0 t v) (h : DataW.Trod enc P w base spare held t v d p) :
    ∃ (cs : List Value) (ys : List (DataW H × List MemPlace)) (n : Nat), v = .agg cs.toArray ∧ cs.length = fs.size ∧ d = .agg (ys.map (·.1)) ∧ ys.length = fs.size ∧
      ∀ (j : Nat) (f : Field), fs[j]? = some f → ∃ c y, cs[j]? = some c ∧ ys[j]? = some y ∧ DataW.trod enc P w base spare held n f.type [c] = some y := by
  obtain ⟨cs, rfl, hsz⟩ := okWide_struct hs hv
  obtain ⟨l⟩ := cs
  have hl : l.length = fs.size := by simpa using hsz.trans hC
  obtain ⟨fuel, hf⟩ := h
  obtain ⟨ys, n, _, hx, _, hlen, hg⟩ := DataW.trod_struct hs hf
  simp only [Prod.mk.injEq] at hx
  refine ⟨l, ys, n, rfl, hl, hx.1, hlen, fun j f hj => ?_⟩
  obtain ⟨o1, k1⟩ := hone_of hone j f hj
  have hjl : j < fs.size := (Array.getElem?_eq_some_iff.1 hj).1
  have h1 := hg j f hj
  simp only [Value.cells] at h1
  rw [o1, k1] at h1
  have hd1 : (l.drop j).take 1 = [l[j]'(by omega)] := by
    rw [List.drop_eq_getElem_cons (by omega)]
    rfl
  rw [hd1] at h1
  have hy : ys[j]? = some (ys[j]'(by omega)) := List.getElem?_eq_getElem (by omega)
  exact ⟨_, _, List.getElem?_eq_getElem (by omega), hy, h1.trans hy⟩

/-- a slice of structs of integers -/
theorem open_recs {t e : TypeId} {fs : Array Field} {fuel : Nat} {c : Value} {x : DataW H × List MemPlace} (ht : P.underlying t = some (.slice e)) (he : P.underlying e = some (.struct fs)) (hone : oneCellFields P fs = true) (hC : P.cellsOf e = fs.size)
    (hint : ∀ (j : Nat) (f : Field), fs[j]? = some f → P.underlying f.type = some (.int .i64)) (h0 : 0 < fs.size) (h : DataW.trod enc P w base (fun _ => true) held fuel t [c] = some x) :
    ∃ (a : Option Addr) (n cap : Nat) (Z : Nat → Nat → Int), c = .slice a n cap ∧ n ≤ cap ∧ ((cap = 0) ∨ ∃ el sp, x.1 = .slice el sp ∧ el.length + sp.length = cap) ∧
      ∀ i, i < n → ∃ y, a = some y ∧ y.block < w.heap.size ∧ ∀ j, j < fs.size → w.cell? (y.add (i * fs.size + j)) = some (.int .i64 (Z i j)) ∧ -9223372036854775808 ≤ Z i j ∧ Z i j < 9223372036854775808 := by
  rcases Go.Deep.open_slice ht h with ⟨hc, _⟩ | ⟨a, n, cap, m, q, D, Pl, hc, hb, hl, hm, hmm, hx, hi⟩
  · simp only [List.cons.injEq, and_true] at hc
    exact ⟨none, 0, 0, fun _ _ => 0, hc, Nat.le_refl _, .inl rfl, fun i hi => absurd hi (by omega)⟩
  · simp only [List.cons.injEq, and_true] at hc
    simp only [if_true] at hmm
    subst hmm
    have key : ∀ i j, ∃ z : Int, i < n → j < fs.size → w.cell? (a.add (i * fs.size + j)) = some (.int .i64 z) ∧ -9223372036854775808 ≤ z ∧ z < 9223372036854775808 := fun i j => by
      by_cases h1 : i < n ∧ j < fs.size
      · obtain ⟨cs', hcs, ht'⟩ := hi i (by omega)
        rw [hC] at hcs
        obtain ⟨ys, n', _, _, _, hyl, hf⟩ := DataW.trod_struct he ht'
        obtain ⟨_, hcl, hat⟩ := World.cells?_some hcs
        have hj : fs[j]? = some fs[j] := by simp [h1.2]
        obtain ⟨o1, k1⟩ := hone_of hone j _ hj
        have h2 := hf j _ hj
        rw [o1, k1] at h2
        have hd1 : (cs'.drop j).take 1 = [cs'[j]'(by omega)] := by
          rw [List.drop_eq_getElem_cons (by omega)]
          rfl
        rw [hd1] at h2
        have hy : ys[j]? = some (ys[j]'(by omega)) := List.getElem?_eq_getElem (by omega)
        rw [hy] at h2
        obtain ⟨z, hz, _, hw⟩ := DataW.trod_int (hint j _ hj) h2
        simp only [List.cons.injEq, and_true] at hz
        refine ⟨z, fun _ _ => ⟨?_, wf_i64 hw⟩⟩
        rw [← add_of_add, hat j h1.2, List.getElem?_eq_getElem (by omega), hz]
      · exact ⟨0, fun h2 h3 => absurd ⟨h2, h3⟩ h1⟩
    refine ⟨some a, n, m, fun i j => Classical.choose (key i j), hc, hl, .inr ⟨_, _, by rw [hx], by simp; omega⟩, fun i hin => ?_⟩
    refine ⟨a, rfl, ?_, fun j hj => Classical.choose_spec (key i j) hin hj⟩
    have h1 := Classical.choose_spec (key i 0) hin h0
    have h2 := cell_lt h1.1
    rwa [block_of_add] at h2

/-- what a slice in a field of a struct may take -/
theorem sized_field {ts : List TypeId} {ds : List (DataW H)} (h : (DataW.weightsEach P ts ds).all (· ≤ reachBytes) = true) {j : Nat} {t : TypeId} {fs : Array Field} {parts : List (DataW H)} (ht : ts[j]? = some t) (hd : ds[j]? = some (.agg parts))
    (hu : P.underlying t = some (.struct fs)) {i : Nat} {f : Field} {e : TypeId} {el sp : List (DataW H)} (hf : fs[i]? = some f) (hp : parts[i]? = some (.slice el sp)) (he : P.underlying f.type = some (.slice e)) : (el.length + sp.length) * P.bytesOf e ≤ reachBytes := by
  refine sized_slice (P := P) (ts := fs.toList.map (·.type)) (ds := parts) (j := i) (t := f.type) ?_ (by simp [hf]) hp he
  rw [List.all_eq_true]
  intro q hq
  refine List.all_eq_true.1 h q (DataW.weights_mem_each ht hd q ?_)
  simp only [DataW.weights, hu]
  exact hq
end
end Go.Proofs.YtikkfapgmbamlaaGreatDoor.Ut
end
section
/- A configuration that came in as an argument. -/
namespace Go.Proofs.YtikkfapgmbamlaaGreatDoor.Cf
open Go.ChangeShapes Go.WideShapes Go.Deep Go.RowKit Ut
set_option linter.unusedVariables false

theorem ints3 {fs : Array Field} {f0 f1 f2 : Field} (h : fs = #[f0, f1, f2]) (h0 : f0.type = 3) (h1 : f1.type = 3) (h2 : f2.type = 3) : ∀ (j : Nat) (f : Field), fs[j]? = some f → Tryz.prog.underlying f.type = some (.int .i64) := fun j f hj => by
  subst h
  match j, hj with
  | 0, hj => simp at hj; subst hj; rw [h0]; exact Tryz.underlying3
  | 1, hj => simp at hj; subst hj; rw [h1]; exact Tryz.underlying3
  | 2, hj => simp at hj; subst hj; rw [h2]; exact Tryz.underlying3
  | j + 3, hj => simp at hj
theorem ints2 {fs : Array Field} {f0 f1 : Field} (h : fs = #[f0, f1]) (h0 : f0.type = 3) (h1 : f1.type = 3) : ∀ (j : Nat) (f : Field), fs[j]? = some f → Tryz.prog.underlying f.type = some (.int .i64) := fun j f hj => by
  subst h
  match j, hj with
  | 0, hj => simp at hj; subst hj; rw [h0]; exact Tryz.underlying3
  | 1, hj => simp at hj; subst hj; rw [h1]; exact Tryz.underlying3
  | j + 2, hj => simp at hj

section
variable {H : Type} {enc : TypeId × Value → H} {W : World}
set_option maxRecDepth 100000 in
theorem cfg_arg {b0 : Nat} {v : Value} {d : DataW H} {p : List MemPlace} {ts : List TypeId} {ds : List (DataW H)} {j : Nat} (hv : Value.okWide Tryz.prog W .any b0 28 v) (h : DataW.Trod enc Tryz.prog W 0 (fun _ => true) true 28 v d p)
    (hsz : (DataW.weightsEach Tryz.prog ts ds).all (· ≤ reachBytes) = true) (ht : ts[j]? = some 28) (hd : ds[j]? = some d) : ∃ c : Cfg, v = c.v ∧ c.At W W.heap.size := by
  obtain ⟨cs, ys, n, rfl, hl, rfl, hyl, hf⟩ := open_fields Tryz.underlying28 (by kernel_rfl) (by kernel_rfl) hv h
  obtain ⟨c0, y0, e0, g0, t0⟩ := hf 0 _ rfl
  obtain ⟨c1, y1, e1, g1, t1⟩ := hf 1 _ rfl
  obtain ⟨c2, y2, e2, g2, t2⟩ := hf 2 _ rfl
  obtain ⟨c3, y3, e3, g3, t3⟩ := hf 3 _ rfl
  obtain ⟨c4, y4, e4, g4, t4⟩ := hf 4 _ rfl
  obtain ⟨c5, y5, e5, g5, t5⟩ := hf 5 _ rfl
  obtain ⟨c6, y6, e6, g6, t6⟩ := hf 6 _ rfl
  obtain ⟨c7, y7, e7, g7, t7⟩ := hf 7 _ rfl
  match cs, hl, e0, e1, e2, e3, e4, e5, e6, e7 with
  | [x0, x1, x2, x3, x4, x5, x6, x7], _, e0, e1, e2, e3, e4, e5, e6, e7 =>
    simp only [List.getElem?_cons_zero, List.getElem?_cons_succ, Option.some.injEq] at e0 e1 e2 e3 e4 e5 e6 e7
    subst e0 e1 e2 e3 e4 e5 e6 e7
    obtain ⟨cats, q0, _, w0⟩ := DataW.trod_int Tryz.underlying3 t0
    obtain ⟨gate, q6, _, w6⟩ := DataW.trod_int Tryz.underlying3 t6
    obtain ⟨quota, q7, _, w7⟩ := DataW.trod_int Tryz.underlying3 t7
    simp only [List.cons.injEq, and_true] at q0 q6 q7
    subst q0 q6 q7
    obtain ⟨ga, gn, gc, G, rfl, l1, s1, r1⟩ := open_recs Tryz.underlying22 Tryz.underlying59 (by kernel_rfl) (by kernel_rfl) (ints3 rfl rfl rfl rfl) (by decide) t1
    obtain ⟨ra, rn, rc, R, rfl, l2, s2, r2⟩ := open_recs Tryz.underlying23 Tryz.underlying61 (by kernel_rfl) (by kernel_rfl) (ints3 rfl rfl rfl rfl) (by decide) t2
    obtain ⟨pa, pn, pc, P, rfl, l3, s3, r3⟩ := open_recs Tryz.underlying24 Tryz.underlying63 (by kernel_rfl) (by kernel_rfl) (ints2 rfl rfl rfl) (by decide) t3
    obtain ⟨na, nn, nc, N, rfl, l4, s4, r4⟩ := open_recs Tryz.underlying25 Tryz.underlying65 (by kernel_rfl) (by kernel_rfl) (ints2 rfl rfl rfl) (by decide) t4
    obtain ⟨sa, sn, sc, S, rfl, l5, s5, r5⟩ := open_recs Tryz.underlying26 Tryz.underlying67 (by kernel_rfl) (by kernel_rfl) (ints2 rfl rfl rfl) (by decide) t5
    have big : ∀ {fs : Array Field} {i : Nat} {f : Field} {e : TypeId} {y : DataW H × List MemPlace} {cap b : Nat}, ys[i]? = some y → (cap = 0 ∨ ∃ el sp, y.1 = .slice el sp ∧ el.length + sp.length = cap) → fs[i]? = some f → Tryz.prog.underlying f.type = some (.slice e) → Tryz.prog.bytesOf e = b → 1 ≤ b → Tryz.prog.underlying 28 = some (.struct fs) → cap ≤ 140737488355328 := by
      intro fs i f e y cap b hy hc hfi hu hb hb1 hst
      rcases hc with rfl | ⟨el, sp, hy1, rfl⟩
      · omega
      · have h1 := sized_field hsz ht hd hst hfi (i := i) (el := el) (sp := sp) (by simp [hy, hy1]) hu
        rw [hb] at h1
        unfold reachBytes at h1
        have h2 : (el.length + sp.length) * 1 ≤ (el.length + sp.length) * b := Nat.mul_le_mul_left _ hb1
        omega
    refine ⟨⟨cats, ga, gn, gc, ra, rn, rc, pa, pn, pc, na, nn, nc, sa, sn, sc, gate, quota, G, R, P, N, S⟩, rfl, r1, r2, r3, r4, r5, ⟨l1, ?_⟩, ⟨l2, ?_⟩, ⟨l3, ?_⟩, ⟨l4, ?_⟩, ⟨l5, ?_⟩, wf_i64 w0, wf_i64 w6, wf_i64 w7⟩
    · refine Nat.le_trans l1 ?_
      exact big (b := 24) g1 s1 rfl Tryz.underlying22 (by kernel_rfl) (by omega) Tryz.underlying28
    · refine Nat.le_trans l2 ?_
      exact big (b := 24) g2 s2 rfl Tryz.underlying23 (by kernel_rfl) (by omega) Tryz.underlying28
    · refine Nat.le_trans l3 ?_
      exact big (b := 16) g3 s3 rfl Tryz.underlying24 (by kernel_rfl) (by omega) Tryz.underlying28
    · refine Nat.le_trans l4 ?_
      exact big (b := 16) g4 s4 rfl Tryz.underlying25 (by kernel_rfl) (by omega) Tryz.underlying28
    · refine Nat.le_trans l5 ?_
      exact big (b := 16) g5 s5 rfl Tryz.underlying26 (by kernel_rfl) (by omega) Tryz.underlying28
end
end Go.Proofs.YtikkfapgmbamlaaGreatDoor.Cf
end
