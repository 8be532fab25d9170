/- Several texts in one: Ew Eu -/
import Derived.Test.YtikkfapgmbamlaaDoorZ28
import Derived.Test.YtikkfapgmbamlaaDoorZ29
import Derived.BigQuiet
import Derived.Test.YtikkfapgmbamlaaDoorRows
import Derived.Test.YtikkfapgmbamlaaDoorZ08
import Derived.ProofKit
import Derived.LaidMore
import Derived.OpenShut
import Derived.Stop.Joined
import Derived.Deep.Fields
section
/- The walk of hermitagelaw05.PlanWords. -/
namespace Go.Proofs.YtikkfapgmbamlaaDoor.Pl
open Go.RowKit Ut
set_option linter.unusedVariables false
set_option maxRecDepth 100000

theorem below_dr {w W : World} (h : Below w.heap.size w W) (n : Nat) : Below w.heap.size w (W.drewN n) := h.trans ⟨rfl, rfl, rfl, Nat.le_refl _, fun _ _ => rfl⟩
set_option maxHeartbeats 1000000 in
theorem texts_same (a1 a2 : Option Addr) (n c1 c2 : Nat) (ts : List (List UInt8)) (w : World) (h1 : RowS w w.heap.size a1 n ts) (h2 : RowS w w.heap.size a2 n ts) (hn : n ≤ 1099511627777) :
    Calls Tryd.prog 9 #[.slice a1 n c1, .slice a2 n c2] w fun e w' => e = .returned (.bool true) ∧ Below w.heap.size w w' := by
  have H1 := Lib.hid h1
  have H2 := Lib.hid h2
  clear h1 h2
  go_enter Tryd.func9, Tryd.ntmps9
  go_wp2
  go_loopw [5] (fun i wr => ∃ k : Nat, k ≤ n ∧ i = .int .i64 k ∧ Below w.heap.size w wr) (fun i _ => n - (intOf i).toNat)
  case atStart => exact ⟨0, Nat.zero_le _, rfl, Below.refl _ _⟩
  case round =>
    obtain ⟨k, hk, rfl, hb⟩ := hrel
    by_cases hlt : k < n
    · obtain ⟨x, rfl, _, hx⟩ := (H1.out.below hb).at k hlt
      obtain ⟨y, rfl, _, hy⟩ := (H2.out.below hb).at k hlt
      have hki : (k : Int) < (n : Int) := by omega
      generalize tb (ts.getD k []) = tx at hx hy
      go_wp2
      go_quiet (fail)
      go_wp2
      go_roundw
      case rel => exact ⟨k + 1, by omega, by go_num, below_dr hb _⟩
      case measure => simp [intOf]; omega
    · obtain rfl : k = n := by omega
      go_wp2
      go_ret
      exact ⟨rfl, hb⟩
set_option maxHeartbeats 2000000 in
theorem words_any (s : ByteArray) (hm : s.size ≤ 140737488355328) (w : World) (hK : Kinds w) :
    Calls Tryd.prog 3 #[.string s] w fun e w' => e = .returned (.bool true) ∧ Below w.heap.size w w' := by
  have HK := Lib.hid hK
  have HK0 := Lib.hid hK.lt
  clear hK
  by_cases hl : 2000 < s.size
  · go_enter Tryd.func3, Tryd.ntmps3
    go_wp2_with (go_at_call 6; refine (awake_any _ _ (Nat.le_refl _) HK.out).mono ?_; rintro e w1 ⟨rfl, hb1⟩)
    go_ret
    exact ⟨rfl, hb1⟩
  · have hs : s.size ≤ 1099511627776 := by omega
    have x1 := split_any s hs
    have y1 := refSplit_any s hs
    have x2 := number_any s
    have y2 := refNumber_any s hs
    have x3 := lines_any s hs
    have y3 := refLines_any s hs
    generalize wordsL s.data.toList = o1 at x1 y1
    generalize linesL s.data.toList = o3 at x3 y3
    unfold numV at x2 y2
    generalize numL s.data.toList = o2 at x2 y2
    generalize o1.isSome = b1 at x1 y1
    generalize o1.getD [] = l1 at x1 y1
    generalize l1.length = n1 at x1 y1
    generalize o3.isSome = b3 at x3 y3
    generalize o3.getD [] = l3 at x3 y3
    generalize l3.length = n3 at x3 y3
    generalize o2.isSome = b2 at x2 y2
    generalize ((o2.getD 0 : Nat) : Int) = z2 at x2 y2
    clear o1 o2 o3
    have X1 := Lib.hid x1
    have Y1 := Lib.hid y1
    have X2 := Lib.hid x2
    have Y2 := Lib.hid y2
    have X3 := Lib.hid x3
    have Y3 := Lib.hid y3
    clear x1 y1 x2 y2 x3 y3
    go_enter Tryd.func3, Tryd.ntmps3
    go_wp2_with (first
      | (go_at_call 7; refine (X1.out _ _ (Nat.le_refl _)).mono ?_; rintro e w1 ⟨v, rfl, hown, hn1, hb1⟩; obtain ⟨a1, c1, rfl, _, _, r1⟩ := OwnS.row hown; have R1 := Lib.hid r1; clear hown r1)
      | (go_at_call 8; refine (Y1.out _ _ (Nat.le_refl _)).mono ?_; rintro e w2 ⟨v, rfl, hown, hn2, hb2⟩; obtain ⟨a2, c2, rfl, _, _, r2⟩ := OwnS.row hown; have R2 := Lib.hid r2; have R12 := Lib.hid ((R1.out.below hb2).more hb2.size); have hb12 := hb1.trans (hb2.mono hb1.size); clear hown r2 hb2 hb1)
      | (go_at_call 9; refine (texts_same a1 a2 n1 c1 c2 l1 _ R12.out R2.out (by omega)).mono ?_; rintro e w3 ⟨rfl, hb3⟩; have hb13 := hb12.trans (hb3.mono hb12.size); clear hb12 hb3 R12 R2 R1)
      | (go_at_call 10; refine (X2.out _ _ (Nat.le_refl _)).mono ?_; rintro e w4 ⟨rfl, hb4⟩; have hb14 := hb13.trans (hb4.mono hb13.size); clear hb13 hb4)
      | (go_at_call 11; refine (Y2.out _).mono ?_; rintro e w5 ⟨rfl, rfl⟩)
      | (go_at_call 12; refine (X3.out _ _ (Nat.le_refl _)).mono ?_; rintro e w6 ⟨v, rfl, hown, hn3, hb6⟩; obtain ⟨a3, c3, rfl, _, _, r3⟩ := OwnS.row hown; have R3 := Lib.hid r3; have hb16 := hb14.trans (hb6.mono hb14.size); clear hown r3 hb14 hb6)
      | (go_at_call 13; refine (Y3.out _ _ (Nat.le_refl _)).mono ?_; rintro e w7 ⟨v, rfl, hown, hn4, hb7⟩; obtain ⟨a4, c4, rfl, _, _, r4⟩ := OwnS.row hown; have R4 := Lib.hid r4; have R34 := Lib.hid ((R3.out.below hb7).more hb7.size); have hb17 := hb16.trans (hb7.mono hb16.size); clear hown r4 hb7 hb16)
      | (go_at_call 9; refine (texts_same a3 a4 n3 c3 c4 l3 _ R34.out R4.out (by omega)).mono ?_; rintro e w8 ⟨rfl, hb8⟩; have hb18 := hb17.trans (hb8.mono hb17.size); clear hb17 hb8)
      | (go_at_call 6; refine (awake_any _ _ (Nat.le_refl _) (HK.out.below hb18 HK0.out)).mono ?_; rintro e w9 ⟨rfl, hb9⟩; have hb19 := hb18.trans (hb9.mono hb18.size); clear hb18 hb9))
    all_goals
      go_ret
      exact ⟨rfl, by assumption⟩
end Go.Proofs.YtikkfapgmbamlaaDoor.Pl
end
section
/- The table of kinds, out of what the row says that lies in its variable. -/
namespace Go.Proofs.YtikkfapgmbamlaaDoor.Pl
open Go.ChangeShapes Go.WideShapes Go.ChangeAt Go.WideMaps Go.WideElems Go.RowKit Ut
set_option linter.unusedVariables false
set_option maxRecDepth 100000

theorem gKinds : Tryd.prog.globalNamed "hermitage/plan.kinds" = some 0 := by kernel_rfl
theorem tKinds : (Tryd.prog.globals[0]?).map (·.type) = some 100 := by kernel_rfl
theorem kind_of {H : Type} {enc : TypeId × Value → H} {W : World} {sp : Nat → Bool} {held : Bool} {base fuel : Nat} {l : List Value} {a b : List UInt8} {m : Bool} {q : DataW H × List MemPlace} (h : DataW.trod enc Tryd.prog W base sp held fuel 99 l = some q) (hq : q.1 = .agg [.lit (.string a), .lit (.string b), .lit (.bool m)]) : l = [.string (tb a), .string (tb b), .bool m] := by
  obtain ⟨xs, n, _, hx, hlen, hn, hf⟩ := DataW.trod_struct Tryd.underlying99 h
  have c3 : Tryd.prog.cellsOf 99 = 3 := by kernel_rfl
  have cs : Tryd.prog.cellsOf 9 = 1 := by kernel_rfl
  have cb : Tryd.prog.cellsOf 4 = 1 := by kernel_rfl
  rw [c3] at hlen
  have h0 := hf 0 _ rfl
  have h1 := hf 1 _ rfl
  have h2 := hf 2 _ rfl
  match l, hlen, xs, hn, hx, h0, h1, h2 with
  | [u0, u1, u2], _, [x0, x1, x2], _, hx, h0, h1, h2 =>
    have e0 : DataW.trod enc Tryd.prog W base sp held n 9 [u0] = some x0 := by simpa [cs] using h0
    have e1 : DataW.trod enc Tryd.prog W base sp held n 9 [u1] = some x1 := by simpa [cs] using h1
    have e2 : DataW.trod enc Tryd.prog W base sp held n 4 [u2] = some x2 := by simpa [cb] using h2
    obtain ⟨s0, g0, k0, _⟩ := DataW.trod_string Tryd.underlying9 e0
    obtain ⟨s1, g1, k1, _⟩ := DataW.trod_string Tryd.underlying9 e1
    obtain ⟨b2, g2, k2⟩ := DataW.trod_bool Tryd.underlying4 e2
    rw [hx] at hq
    simp only [List.map_cons, List.map_nil, DataW.agg.injEq, List.cons.injEq, and_true, k0, k1, k2, DataW.lit.injEq, Lit.string.injEq, Lit.bool.injEq] at hq
    simp only [List.cons.injEq, and_true] at g0 g1 g2
    rw [g0, g1, g2, ← hq.1, ← hq.2.1, ← hq.2.2, tb_of, tb_of]
theorem kinds_of_laid {W : World} (h : laidMetH Tryd.prog [("hermitage/plan.kinds", Rows.laid_hermitage_plan_kinds)] W) : Kinds W := by
  rw [MakeChecks.laidMetH_plain _ _ _ (by kernel_rfl)] at h
  obtain ⟨ps, ⟨g0, t0, cs0, f0, p0, q0, hg0, ht0, hv0, hd0, hrest⟩, _, _⟩ := h
  obtain rfl := Option.some.inj (gKinds.symm.trans hg0)
  obtain rfl := Option.some.inj (tKinds.symm.trans ht0)
  obtain ⟨xs, m1, _, hx, hlen, hn, hel⟩ := DataW.trod_array Tryd.underlying100 hd0
  have c3 : Tryd.prog.cellsOf 99 = 3 := by kernel_rfl
  have c21 : Tryd.prog.cellsOf 100 = 21 := by kernel_rfl
  rw [c21] at hlen
  rw [c3] at hel
  simp only [Prod.mk.injEq] at hx
  have hx1 := hx.1
  have hcs : cs0.toList = kcells := by
    generalize cs0.toList = l at hlen hel
    match xs, hn, hx1, hel with
    | [x0, x1, x2, x3, x4, x5, x6], _, hx1, hel =>
      simp only [Rows.laid_hermitage_plan_kinds, List.map_cons, List.map_nil, DataW.agg.injEq, List.cons.injEq, and_true] at hx1
      obtain ⟨y0, y1, y2, y3, y4, y5, y6⟩ := hx1
      have z0 := kind_of (hel 0 (by decide)) y0.symm
      have z1 := kind_of (hel 1 (by decide)) y1.symm
      have z2 := kind_of (hel 2 (by decide)) y2.symm
      have z3 := kind_of (hel 3 (by decide)) y3.symm
      have z4 := kind_of (hel 4 (by decide)) y4.symm
      have z5 := kind_of (hel 5 (by decide)) y5.symm
      have z6 := kind_of (hel 6 (by decide)) y6.symm
      match l, hlen with
      | [a0, a1, a2, a3, a4, a5, a6, a7, a8, a9, a10, a11, a12, a13, a14, a15, a16, a17, a18, a19, a20], _ =>
        simp only [List.drop, List.take, List.cons.injEq, and_true] at z0 z1 z2 z3 z4 z5 z6
        obtain ⟨rfl, rfl, rfl⟩ := z0
        obtain ⟨rfl, rfl, rfl⟩ := z1
        obtain ⟨rfl, rfl, rfl⟩ := z2
        obtain ⟨rfl, rfl, rfl⟩ := z3
        obtain ⟨rfl, rfl, rfl⟩ := z4
        obtain ⟨rfl, rfl, rfl⟩ := z5
        obtain ⟨rfl, rfl, rfl⟩ := z6
        rfl
  simp only [World.var?, gKinds, Option.bind_some] at hv0
  split at hv0
  · rename_i cs t fr hh
    injection hv0 with hv0
    subst hv0
    refine ⟨t, fr, ?_⟩
    rw [hh]
    congr 2
    rw [← hcs]
  · cases hv0
end Go.Proofs.YtikkfapgmbamlaaDoor.Pl
end
