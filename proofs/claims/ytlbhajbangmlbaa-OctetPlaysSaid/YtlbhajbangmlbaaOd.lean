/- hermitagelaw02.awake; the walk of hermitagelaw02.OctetPlays. -/
import Derived.Test.YtlbhajbangmlbaaOc
namespace Go.Proofs.Ytlbhajbangmlbaa.Oc
open Go.RowKit Ut
set_option linter.unusedVariables false

theorem RowK.two (w : World) (x y : Int) (t : TypeId) : RowK .u8 (w.alloc (.cells #[.int .u8 x, .int .u8 y] t)) (w.heap.size + 1) (some ⟨w.heap.size, 0, none⟩) 2 [x, y] :=
  ⟨rfl, fun i hi => ⟨_, rfl, Nat.lt_succ_self _, by
    obtain rfl | rfl : i = 0 ∨ i = 1 := by omega
    all_goals simp [Addr.add]⟩⟩

theorem awake_keep {B : Nat} {w0 w : World} (hB : B ≤ w0.heap.size) (hb : Below B w0 w) :
    Calls Try.prog 13 #[] w fun e w' => e = .returned (.bool true) ∧ Below B w0 w' := by
  have hbs := Nat.le_trans hB hb.size
  have hp : ∀ W : World, Calls Try.prog 9 #[.slice (some ⟨W.heap.size, 0, none⟩) 2 2, .int .i64 0, .int .i64 2, .int .u32 258] (W.alloc (.cells #[.int .u8 0, .int .u8 0] 5)) fun e w' =>
      e = .returned (.tuple #[.slice (some ⟨W.heap.size + 1, 0, none⟩) 2 2, .int .i64 0]) ∧ w'.cell? ⟨W.heap.size + 1, 0, none⟩ = some (.int .u8 2) ∧ w'.cell? ⟨W.heap.size + 1, 1, none⟩ = some (.int .u8 1) ∧ Below W.heap.size W w' := fun W => by
    have h := put_yes (some ⟨W.heap.size, 0, none⟩) 2 2 0 2 258 [0, 0] (W.alloc (.cells #[.int .u8 0, .int .u8 0] 5)) (by omega) ((RowK.two W 0 0 _).more (by simp)) rfl (by omega) (by omega) (by omega)
    refine h.mono fun e w' ⟨he, hr, hbl⟩ => ⟨he.trans (by simp), ?_, ?_, ?_⟩
    · obtain ⟨x, hx, _, hc⟩ := hr.2 0 (by omega)
      injection hx with hx
      subst hx
      simpa [putZ, bytesN, byteN, List.range_succ, Addr.add] using hc
    · obtain ⟨x, hx, _, hc⟩ := hr.2 1 (by omega)
      injection hx with hx
      subst hx
      simpa [putZ, bytesN, byteN, List.range_succ, Addr.add] using hc
    · exact ((Below.refl _ _).alloc (Nat.le_refl _) _).trans (hbl.mono (by simp))
  go_enter Try.func13, Try.ntmps13
  go_wp2_with fail
  refine (hp _).mono ?_
  rintro e w1 ⟨rfl, c0, c1, hb1⟩
  have hb2 := hb.trans (hb1.mono hbs)
  have hs : signZ 128 1 = 4294967168 := by decide +kernel
  go_wp2_with (go_at_call 11; refine (sign_any _ _ _ (by omega) (by omega)).mono ?_; rintro e w' ⟨rfl, rfl⟩)
  go_ret
  exact ⟨rfl, hb2⟩

set_option maxRecDepth 100000 in
theorem plays_any (a : Option Addr) (n cap : Nat) (i m v : Int) (zs : List Int) (w : World) (hnc : n ≤ cap) (hc : cap ≤ 140737488355328) (hrow : RowK .u8 w w.heap.size a n zs) (hz : AreBytes zs) (hv0 : 0 ≤ v) (hv1 : v < 4294967296) :
    Calls Try.prog 3 #[.slice a n cap, .int .i64 i, .int .i64 m, .int .u32 v] w fun e w' => e = .returned (.bool true) ∧ Below w.heap.size w w' := by
  have hn' : n ≤ 9223372036854775807 := by omega
  have HR := Lib.hid hrow
  have HZ := Lib.hid hz
  clear hrow hz
  have hb0 : Below w.heap.size w w := Below.refl _ _
  cases hh : hold n i m
  · have hcv := run_convert_bytes_nil (P := Try.prog) w 22 5 Try.underlying22 Try.underlying5 0 0 9 Try.underlying9
    go_enter Try.func3, Try.ntmps3
    go_wp2_with (first | (go_at_call 7; refine (get_no _ _ _ _ _ _ hn' hh).mono ?_; rintro e w1 ⟨rfl, rfl⟩) | (go_at_call 8; refine (refGet_no _ _ _ _ _ _ hn' hh).mono ?_; rintro e w1 ⟨rfl, rfl⟩) | (go_at_call 9; refine (put_no _ _ _ _ _ _ _ hn' hh).mono ?_; rintro e w1 ⟨rfl, rfl⟩) | (go_at_call 10; refine (refPut_no _ _ _ _ _ _ _ hn' hh).mono ?_; rintro e w1 ⟨rfl, rfl⟩) | (go_at_call 11; refine (sign_any _ _ _ hv0 hv1).mono ?_; rintro e w1 ⟨rfl, rfl⟩) | (go_at_call 12; refine (refSign_any _ _ _ hv0 hv1).mono ?_; rintro e w1 ⟨rfl, rfl⟩) | (go_at_call 13; refine (awake_keep (Nat.le_refl _) hb0).mono ?_; rintro e w1 ⟨rfl, hb1⟩))
    go_ret
    exact ⟨rfl, hb1⟩
  · obtain ⟨j, k, rfl, rfl, hm, hi, hk0, hk4⟩ := hold_yes hh
    have hc' : cap ≤ 9223372036854775807 := by omega
    have hn : n ≤ 140737488355328 := by omega
    go_enter Try.func3, Try.ntmps3
    go_wp2_with (first | (go_at_call 7; refine (get_yes _ _ _ _ _ _ _ _ hnc hc' HR.out HZ.out hm hi).mono ?_; rintro e w1 ⟨rfl, rfl⟩) | (go_at_call 8; refine (refGet_yes _ _ _ _ _ _ _ _ hn HR.out HZ.out hm hi).mono ?_; rintro e w1 ⟨rfl, rfl⟩))
    refine (put_yes _ _ _ _ _ _ zs _ hn HR.out hm hi hv0 hv1).mono ?_
    rintro e w1 ⟨rfl, hr1, hb1⟩
    have HR1 := Lib.hid hr1
    clear hr1
    go_wp2_with fail
    refine (refPut_yes _ _ _ _ _ _ zs _ hn ((HR.out.below hb1).more hb1.size) hm hi hv0 hv1).mono ?_
    rintro e w2 ⟨g, c, rfl, hr2, hb2⟩
    have hcv1 := run_convert_row (P := Try.prog) (cap := n) (dst := 9) Try.underlying22 Try.underlying5 Try.underlying9 (HR1.out.below hb2)
    have hcv2 := run_convert_row (P := Try.prog) (cap := c) (dst := 9) Try.underlying22 Try.underlying5 Try.underlying9 hr2
    have hb3 := hb1.trans (hb2.mono hb1.size)
    clear hr2
    go_wp2_with (first | (go_at_call 11; refine (sign_any _ _ _ hv0 hv1).mono ?_; rintro e w1 ⟨rfl, rfl⟩) | (go_at_call 12; refine (refSign_any _ _ _ hv0 hv1).mono ?_; rintro e w1 ⟨rfl, rfl⟩) | (go_at_call 13; refine (awake_keep (Nat.le_refl _) hb3).mono ?_; rintro e w1 ⟨rfl, hb4⟩))
    go_ret
    exact ⟨rfl, hb4⟩
end Go.Proofs.Ytlbhajbangmlbaa.Oc
