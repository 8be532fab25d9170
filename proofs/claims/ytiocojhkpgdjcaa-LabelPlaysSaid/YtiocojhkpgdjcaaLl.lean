/- hermitagelaw01.ints at two lists of the same numbers. -/
import Derived.Test.YtiocojhkpgdjcaaLk
import Derived.WalkSmall
namespace Go.Proofs.Ytiocojhkpgdjcaa.La
open Go.RowKit Ut

theorem row_owned {w : World} {B n : Nat} {v : Value} {xs : List Int} (h : w.ownsRow B 3 1 v n (xs.map (Value.int .i64))) (hn : n ≤ 9223372036854775807) : ∃ a cap, v = .slice a n cap ∧ Row w a n xs := by
  have hl : xs.length = n := by have := h.1; simpa using this
  rcases h.2 with ⟨rfl, rfl⟩ | ⟨g, cap, cur, rfl, hb, hg, hnc, hm, hsz, hcur⟩
  · exact ⟨none, 0, rfl, hl, by omega, fun i hi => absurd hi (by omega)⟩
  · refine ⟨some ⟨g, 0, none⟩, cap, rfl, hl, hn, fun i hi => ⟨_, rfl, (Array.getElem?_eq_some_iff.1 hg).1, ?_⟩⟩
    have hplain : (⟨g, 0, none⟩ : Addr).add i = ⟨g, 0 + i, none⟩ := by unfold Addr.add; split <;> simp_all
    rw [hplain, Nat.zero_add, World.ownsRow.cellAt h i (by omega)]
    simp [List.getD, show i < xs.length by omega]

theorem join_any (a : Option Addr) (len cap : Nat) (zs : List Int) (w : World) (h : Row w a len zs) :
    Calls Try.prog 16 #[.slice a len cap] w fun e w' => e = .returned (.int .i64 (joinZ zs)) ∧ w = w' :=
  join_raw a len cap zs w h.1 h.2.1 fun i hi => (h.2.2 i hi).imp fun _ k => ⟨k.1, k.2.2⟩
theorem meet_any (a : Option Addr) (len cap : Nat) (zs : List Int) (w : World) (h : Row w a len zs) :
    Calls Try.prog 18 #[.slice a len cap] w fun e w' => e = .returned (.int .i64 (meetZ zs)) ∧ w = w' :=
  meet_raw a len cap zs w h.1 h.2.1 fun i hi => (h.2.2 i hi).imp fun _ k => ⟨k.1, k.2.2⟩

set_option maxRecDepth 100000 in
theorem ints_same (a b : Option Addr) (n ca cb : Nat) (xs : List Int) (B : Nat) (w : World) (h1 : Row w a n xs) (h2 : Row w b n xs) :
    Calls Try.prog 20 #[.slice a n ca, .slice b n cb] w fun e w' => e = .returned (.bool true) ∧ Below B w w' := by
  have H1 := Lib.hid h1
  have H2 := Lib.hid h2
  have hm := h1.2.1
  clear h1 h2
  go_enter Try.func20, Try.ntmps20
  go_wp2
  go_loopw [5] (fun i wr => ∃ k d : Nat, k ≤ n ∧ i = .int .i64 k ∧ wr = w.drewN d) (fun i _ => n - (intOf i).toNat)
  case atStart => exact ⟨0, 0, Nat.zero_le _, rfl, rfl⟩
  case round =>
    obtain ⟨k, d, hk, rfl, rfl⟩ := hrel
    by_cases hlt : k < n
    · obtain ⟨x, rfl, _, hx⟩ := H1.out.2.2 k hlt
      obtain ⟨y, rfl, _, hy⟩ := H2.out.2.2 k hlt
      obtain ⟨s, hs⟩ : ∃ s, xs.getD k 0 = s := ⟨_, rfl⟩
      rw [hs] at hx hy
      clear hs
      have hi : (k : Int) < (n : Int) := by omega
      go_wp2_with fail
      go_quiet (fail)
      go_wp2
      go_roundw
      case rel => exact ⟨k + 1, _, by omega, by go_num, rfl⟩
      case measure => simp [intOf]; omega
    · go_wp2
      go_ret
      exact ⟨rfl, below_drewN (Below.refl _ _) d⟩

theorem under_keep (top : Int) (a : Option Addr) (len cap : Nat) (zs : List Int) (w : World) (hrow : Row w a len zs) (hr : len * 8 ≤ 140737488351232) :
    Calls Try.prog 21 #[.int .i64 top, .slice a len cap] w fun e w' => ∃ a' c', e = .returned (.slice a' (underL top zs len).length c') ∧ Row w' a' (underL top zs len).length (underL top zs len) ∧ Below w.heap.size w w' := by
  refine (under_any top a len cap zs _ w rfl hrow hr).mono fun e w' ⟨v, he, hown, hb⟩ => ?_
  obtain ⟨a', c', hv, hrow'⟩ := row_owned hown (by have := underL_le top zs len; omega)
  exact ⟨a', c', he.trans (by rw [hv]), hrow', hb⟩
theorem refUnder_keep (top : Int) (a : Option Addr) (len cap : Nat) (zs : List Int) (w : World) (hrow : Row w a len zs) (hr : len * 8 ≤ 140737488351232) :
    Calls Try.prog 22 #[.int .i64 top, .slice a len cap] w fun e w' => ∃ a' c', e = .returned (.slice a' (underL top zs len).length c') ∧ Row w' a' (underL top zs len).length (underL top zs len) ∧ Below w.heap.size w w' := by
  refine (refUnder_any top a len cap zs _ w rfl hrow hr).mono fun e w' ⟨v, he, hown, hb⟩ => ?_
  obtain ⟨a', c', hv, hrow'⟩ := row_owned hown (by have := underL_le top zs len; omega)
  exact ⟨a', c', he.trans (by rw [hv]), hrow', hb⟩

set_option maxRecDepth 100000 in
set_option maxHeartbeats 1000000 in
theorem plays_any (x y cats : Int) (a : Option Addr) (len cap : Nat) (zs : List Int) (B : Nat) (w : World) (hB : w.heap.size = B) (hrow : Row w a len zs) (hr : len * 8 ≤ 140737488351232) :
    Calls Try.prog 3 #[.int .i64 x, .int .i64 y, .int .i64 cats, .slice a len cap] w fun e w' => e = .returned (.bool true) ∧ Below B w w' := by
  have hBle : B ≤ w.heap.size := Nat.le_of_eq hB.symm
  have HB := Lib.hid hB
  have HW := Lib.hid hrow
  have hul := underL_le x zs len
  clear hB hrow
  have hb0 : Below B w w := Below.refl _ _
  go_enter Try.func3, Try.ntmps3
  go_wp2_with (first | (go_at_call 8; refine (valid_gen _ _ _).mono ?_; rintro e w1 ⟨rfl, rfl⟩) | (go_at_call 9; refine (refValid_gen _ _ _).mono ?_; rintro e w1 ⟨rfl, rfl⟩) | (go_at_call 10; refine (flows_keep _ _ hBle (by assumption)).mono ?_; rintro e w1 ⟨rfl, hb1⟩) | (go_at_call 11; refine (refFlows_any _ _ _).mono ?_; rintro e w1 ⟨rfl, rfl⟩) | (go_at_call 12; refine (minus_keep _ _ hBle (by assumption)).mono ?_; rintro e w1 ⟨rfl, hb1⟩) | (go_at_call 13; refine (refMinus_any _ _ _).mono ?_; rintro e w1 ⟨rfl, rfl⟩) | (go_at_call 14; refine (count_any _ _).mono ?_; rintro e w1 ⟨rfl, rfl⟩) | (go_at_call 15; refine (refCount_any _ _).mono ?_; rintro e w1 ⟨rfl, rfl⟩) | (go_at_call 16; refine (join_any _ _ _ zs _ (HW.out.below HB.out (by assumption))).mono ?_; rintro e w1 ⟨rfl, rfl⟩) | (go_at_call 17; refine (refJoin_any _ _ _ zs _ (HW.out.below HB.out (by assumption))).mono ?_; rintro e w1 ⟨rfl, rfl⟩) | (go_at_call 18; refine (meet_any _ _ _ zs _ (HW.out.below HB.out (by assumption))).mono ?_; rintro e w1 ⟨rfl, rfl⟩) | (go_at_call 19; refine (refMeet_any _ _ _ zs _ (HW.out.below HB.out (by assumption))).mono ?_; rintro e w1 ⟨rfl, rfl⟩))
  have hbw := ‹Below B w _›
  refine (under_keep x a len cap zs _ (HW.out.below HB.out hbw) hr).mono ?_
  rintro e w2 ⟨a2, c2, rfl, r2, b2⟩
  have R2 := Lib.hid r2
  have hbw2 := hbw.trans (b2.mono (by have := hbw.size; omega))
  clear r2
  go_wp2_with fail
  refine (refUnder_keep x a len cap zs _ (HW.out.below HB.out hbw2) hr).mono ?_
  rintro e w3 ⟨a3, c3, rfl, r3, b3⟩
  have R3 := Lib.hid r3
  have hbw3 := hbw2.trans (b3.mono (by have := hbw2.size; omega))
  clear r3
  go_wp2_with fail
  refine (ints_same a2 a3 _ c2 c3 _ B _ (R2.out.below rfl b3) R3.out).mono ?_
  rintro e w4 ⟨rfl, b4⟩
  have hbw4 := hbw3.trans b4
  go_wp2_with fail
  refine (awake_keep hBle hbw4).mono ?_
  rintro e w5 ⟨rfl, b5⟩
  go_wp2
  go_ret
  exact ⟨rfl, b5⟩
end Go.Proofs.Ytiocojhkpgdjcaa.La
