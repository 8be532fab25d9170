/- Several texts in one: Fh -/
import Derived.Test.YtikkfapgmbamlaaDoorZ19
import Derived.Test.YtikkfapgmbamlaaDoorZ05
import Derived.BigQuiet
import Derived.Deep.Cut
section
/- The comparison of configurations that the laws of layer 5 use. -/
namespace Go.Proofs.YtikkfapgmbamlaaDoor.Pl
open Go.RowKit Ut
set_option linter.unusedVariables false
set_option maxRecDepth 100000

theorem below_dq {B : Nat} {w W : World} (h : Below B w W) (n : Nat) : Below B w (W.drewN n) := h.trans ⟨rfl, rfl, rfl, Nat.le_refl _, fun _ _ => rfl⟩
set_option maxHeartbeats 4000000 in
theorem same_true (cats gate quota : Int) (gn rn pn nn sn : Nat) (G R P N S : Nat → Nat → Int) (a1 a2 a3 a4 a5 b1 b2 b3 b4 b5 : Option Addr) (c1 c2 c3 c4 c5 d1 d2 d3 d4 d5 : Nat) (w : World)
    (h1 : Cf.RowT 3 w w.heap.size a1 gn G) (j1 : Cf.RowT 3 w w.heap.size b1 gn G) (m1 : gn ≤ 140737488355328)
    (h2 : Cf.RowT 3 w w.heap.size a2 rn R) (j2 : Cf.RowT 3 w w.heap.size b2 rn R) (m2 : rn ≤ 140737488355328)
    (h3 : Cf.RowT 2 w w.heap.size a3 pn P) (j3 : Cf.RowT 2 w w.heap.size b3 pn P) (m3 : pn ≤ 140737488355328)
    (h4 : Cf.RowT 2 w w.heap.size a4 nn N) (j4 : Cf.RowT 2 w w.heap.size b4 nn N) (m4 : nn ≤ 140737488355328)
    (h5 : Cf.RowT 2 w w.heap.size a5 sn S) (j5 : Cf.RowT 2 w w.heap.size b5 sn S) (m5 : sn ≤ 140737488355328) :
    Calls Tryd.prog 16 #[.agg #[.int .i64 cats, .slice a1 gn c1, .slice a2 rn c2, .slice a3 pn c3, .slice a4 nn c4, .slice a5 sn c5, .int .i64 gate, .int .i64 quota], .agg #[.int .i64 cats, .slice b1 gn d1, .slice b2 rn d2, .slice b3 pn d3, .slice b4 nn d4, .slice b5 sn d5, .int .i64 gate, .int .i64 quota]] w fun e w' => e = .returned (.bool true) ∧ Below w.heap.size w w' := by
  have H1 := Lib.hid h1
  have J1 := Lib.hid j1
  have H2 := Lib.hid h2
  have J2 := Lib.hid j2
  have H3 := Lib.hid h3
  have J3 := Lib.hid j3
  have H4 := Lib.hid h4
  have J4 := Lib.hid j4
  have H5 := Lib.hid h5
  have J5 := Lib.hid j5
  clear h1 j1 h2 j2 h3 j3 h4 j4 h5 j5
  have hx1 : ((w.alloc (.cells #[.int .i64 cats, .slice a1 gn c1, .slice a2 rn c2, .slice a3 pn c3, .slice a4 nn c4, .slice a5 sn c5, .int .i64 gate, .int .i64 quota] 36)).alloc (.cells #[.int .i64 cats, .slice b1 gn d1, .slice b2 rn d2, .slice b3 pn d3, .slice b4 nn d4, .slice b5 sn d5, .int .i64 gate, .int .i64 quota] 36)).heap[w.heap.size]? = some (.cells #[.int .i64 cats, .slice a1 gn c1, .slice a2 rn c2, .slice a3 pn c3, .slice a4 nn c4, .slice a5 sn c5, .int .i64 gate, .int .i64 quota] 36 (0, 0)) := by
    rw [Below.heap_alloc _ _ _ (by simp)]; exact heap_alloc_new _ _
  have hx2 : ((w.alloc (.cells #[.int .i64 cats, .slice a1 gn c1, .slice a2 rn c2, .slice a3 pn c3, .slice a4 nn c4, .slice a5 sn c5, .int .i64 gate, .int .i64 quota] 36)).alloc (.cells #[.int .i64 cats, .slice b1 gn d1, .slice b2 rn d2, .slice b3 pn d3, .slice b4 nn d4, .slice b5 sn d5, .int .i64 gate, .int .i64 quota] 36)).heap[w.heap.size + 1]? = some (.cells #[.int .i64 cats, .slice b1 gn d1, .slice b2 rn d2, .slice b3 pn d3, .slice b4 nn d4, .slice b5 sn d5, .int .i64 gate, .int .i64 quota] 36 (0, 0)) := heap_alloc2_new _ _ _
  have hb0 : Below w.heap.size w ((w.alloc (.cells #[.int .i64 cats, .slice a1 gn c1, .slice a2 rn c2, .slice a3 pn c3, .slice a4 nn c4, .slice a5 sn c5, .int .i64 gate, .int .i64 quota] 36)).alloc (.cells #[.int .i64 cats, .slice b1 gn d1, .slice b2 rn d2, .slice b3 pn d3, .slice b4 nn d4, .slice b5 sn d5, .int .i64 gate, .int .i64 quota] 36)) := ((Below.refl _ _).alloc (Nat.le_refl _) _).alloc (by simp) _
  go_enter Tryd.func16, Tryd.ntmps16
  go_upto_region 3 with fail
  obtain ⟨W, hW⟩ : ∃ W, (w.alloc (.cells #[.int .i64 cats, .slice a1 gn c1, .slice a2 rn c2, .slice a3 pn c3, .slice a4 nn c4, .slice a5 sn c5, .int .i64 gate, .int .i64 quota] 36)).alloc (.cells #[.int .i64 cats, .slice b1 gn d1, .slice b2 rn d2, .slice b3 pn d3, .slice b4 nn d4, .slice b5 sn d5, .int .i64 gate, .int .i64 quota] 36) = W := ⟨_, rfl⟩
  rw [hW] at hx1 hx2 hb0
  rw [hW]
  have HX1 := Lib.hid hx1
  have HX2 := Lib.hid hx2
  have hl1 := (Array.getElem?_eq_some_iff.1 hx2).1
  clear hW hx1 hx2
  go_wp2
  go_loopw [5] (fun i wr => ∃ k : Nat, k ≤ gn ∧ i = .int .i64 k ∧ Below w.heap.size w wr ∧ Below W.heap.size W wr) (fun i _ => gn - (intOf i).toNat)
  case atStart => exact ⟨0, Nat.zero_le _, rfl, hb0, Below.refl _ _⟩
  case round =>
    clear hb0
    obtain ⟨k, hk, rfl, hbw, hbW⟩ := hrel
    have f1 := (box_cell ((hbW.block _ (by omega)).trans HX1.out) 1 _ rfl).1
    have f2 := (box_cell ((hbW.block _ (by omega)).trans HX2.out) 1 _ rfl).1
    by_cases hlt : k < gn
    · obtain ⟨x, rfl, _, k0, k1, k2⟩ := Cf.RowT.at3 (H1.out.below hbw) k hlt
      obtain ⟨y, rfl, _, l0, l1, l2⟩ := Cf.RowT.at3 (J1.out.below hbw) k hlt
      have hki : (k : Int) < (gn : Int) := by omega
      generalize G k 0 = z0 at k0 l0
      generalize G k 1 = z1 at k1 l1
      generalize G k 2 = z2 at k2 l2
      go_wp2
      go_quiet (fail)
      go_wp2
      go_roundw
      case rel => exact ⟨k + 1, by omega, by go_num, below_dq hbw _, below_dq hbW _⟩
      case measure => simp [intOf]; omega
    · obtain rfl : k = gn := by omega
      go_wp2
      go_loopw [6] (fun i wr => ∃ k : Nat, k ≤ rn ∧ i = .int .i64 k ∧ Below w.heap.size w wr ∧ Below W.heap.size W wr) (fun i _ => rn - (intOf i).toNat)
      case atStart => exact ⟨0, Nat.zero_le _, rfl, hbw, hbW⟩
      case round =>
        clear hbw hbW f1 f2
        obtain ⟨k, hk, rfl, hbw, hbW⟩ := hrel
        have f1 := (box_cell ((hbW.block _ (by omega)).trans HX1.out) 2 _ rfl).1
        have f2 := (box_cell ((hbW.block _ (by omega)).trans HX2.out) 2 _ rfl).1
        by_cases hlt : k < rn
        · obtain ⟨x, rfl, _, k0, k1, k2⟩ := Cf.RowT.at3 (H2.out.below hbw) k hlt
          obtain ⟨y, rfl, _, l0, l1, l2⟩ := Cf.RowT.at3 (J2.out.below hbw) k hlt
          have hki : (k : Int) < (rn : Int) := by omega
          generalize R k 0 = z0 at k0 l0
          generalize R k 1 = z1 at k1 l1
          generalize R k 2 = z2 at k2 l2
          go_wp2
          go_quiet (fail)
          go_wp2
          go_roundw
          case rel => exact ⟨k + 1, by omega, by go_num, below_dq hbw _, below_dq hbW _⟩
          case measure => simp [intOf]; omega
        · obtain rfl : k = rn := by omega
          go_wp2
          go_loopw [7] (fun i wr => ∃ k : Nat, k ≤ pn ∧ i = .int .i64 k ∧ Below w.heap.size w wr ∧ Below W.heap.size W wr) (fun i _ => pn - (intOf i).toNat)
          case atStart => exact ⟨0, Nat.zero_le _, rfl, hbw, hbW⟩
          case round =>
            clear hbw hbW f1 f2
            obtain ⟨k, hk, rfl, hbw, hbW⟩ := hrel
            have f1 := (box_cell ((hbW.block _ (by omega)).trans HX1.out) 3 _ rfl).1
            have f2 := (box_cell ((hbW.block _ (by omega)).trans HX2.out) 3 _ rfl).1
            by_cases hlt : k < pn
            · obtain ⟨x, rfl, _, k0, k1⟩ := Cf.RowT.at2 (H3.out.below hbw) k hlt
              obtain ⟨y, rfl, _, l0, l1⟩ := Cf.RowT.at2 (J3.out.below hbw) k hlt
              have hki : (k : Int) < (pn : Int) := by omega
              generalize P k 0 = z0 at k0 l0
              generalize P k 1 = z1 at k1 l1
              go_wp2
              go_quiet (fail)
              go_wp2
              go_roundw
              case rel => exact ⟨k + 1, by omega, by go_num, below_dq hbw _, below_dq hbW _⟩
              case measure => simp [intOf]; omega
            · obtain rfl : k = pn := by omega
              go_wp2
              go_loopw [8] (fun i wr => ∃ k : Nat, k ≤ nn ∧ i = .int .i64 k ∧ Below w.heap.size w wr ∧ Below W.heap.size W wr) (fun i _ => nn - (intOf i).toNat)
              case atStart => exact ⟨0, Nat.zero_le _, rfl, hbw, hbW⟩
              case round =>
                clear hbw hbW f1 f2
                obtain ⟨k, hk, rfl, hbw, hbW⟩ := hrel
                have f1 := (box_cell ((hbW.block _ (by omega)).trans HX1.out) 4 _ rfl).1
                have f2 := (box_cell ((hbW.block _ (by omega)).trans HX2.out) 4 _ rfl).1
                by_cases hlt : k < nn
                · obtain ⟨x, rfl, _, k0, k1⟩ := Cf.RowT.at2 (H4.out.below hbw) k hlt
                  obtain ⟨y, rfl, _, l0, l1⟩ := Cf.RowT.at2 (J4.out.below hbw) k hlt
                  have hki : (k : Int) < (nn : Int) := by omega
                  generalize N k 0 = z0 at k0 l0
                  generalize N k 1 = z1 at k1 l1
                  go_wp2
                  go_quiet (fail)
                  go_wp2
                  go_roundw
                  case rel => exact ⟨k + 1, by omega, by go_num, below_dq hbw _, below_dq hbW _⟩
                  case measure => simp [intOf]; omega
                · obtain rfl : k = nn := by omega
                  go_wp2
                  go_loopw [9] (fun i wr => ∃ k : Nat, k ≤ sn ∧ i = .int .i64 k ∧ Below w.heap.size w wr ∧ Below W.heap.size W wr) (fun i _ => sn - (intOf i).toNat)
                  case atStart => exact ⟨0, Nat.zero_le _, rfl, hbw, hbW⟩
                  case round =>
                    clear hbw hbW f1 f2
                    obtain ⟨k, hk, rfl, hbw, hbW⟩ := hrel
                    have f1 := (box_cell ((hbW.block _ (by omega)).trans HX1.out) 5 _ rfl).1
                    have f2 := (box_cell ((hbW.block _ (by omega)).trans HX2.out) 5 _ rfl).1
                    by_cases hlt : k < sn
                    · obtain ⟨x, rfl, _, k0, k1⟩ := Cf.RowT.at2 (H5.out.below hbw) k hlt
                      obtain ⟨y, rfl, _, l0, l1⟩ := Cf.RowT.at2 (J5.out.below hbw) k hlt
                      have hki : (k : Int) < (sn : Int) := by omega
                      generalize S k 0 = z0 at k0 l0
                      generalize S k 1 = z1 at k1 l1
                      go_wp2
                      go_quiet (fail)
                      go_wp2
                      go_roundw
                      case rel => exact ⟨k + 1, by omega, by go_num, below_dq hbw _, below_dq hbW _⟩
                      case measure => simp [intOf]; omega
                    · obtain rfl : k = sn := by omega
                      go_wp2
                      go_ret
                      exact ⟨rfl, hbw⟩
end Go.Proofs.YtikkfapgmbamlaaDoor.Pl
end
