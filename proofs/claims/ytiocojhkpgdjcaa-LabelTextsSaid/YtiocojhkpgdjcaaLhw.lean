/- The walk of hermitagelaw01.LabelTexts. -/
import Derived.Test.YtiocojhkpgdjcaaLh
namespace Go.Proofs.Ytiocojhkpgdjcaa.La
open Go.RowKit Ut

set_option maxRecDepth 100000 in
theorem texts_good (l : Int) (s : ByteArray) (hs : s.size ≤ maxLen) (h : isL l = true) {B : Nat} (w : World) (hB : B ≤ w.heap.size) :
    Calls Try.prog 4 #[.int .i64 l, .string s] w fun e w' => e = .returned (.bool true) ∧ Below B w w' := by
  have hb0 : Below B w w := Below.refl _ _
  go_enter Try.func4, Try.ntmps4
  go_wp2_with (first | (go_at_call 24; refine (text_any _ h hB (by assumption)).mono ?_; rintro e w1 ⟨rfl, hb1⟩) | (go_at_call 25; refine (refText_any _ h hB (by assumption)).mono ?_; rintro e w1 ⟨rfl, hb1⟩) | (go_at_call 26; refine (parse_any s hs _).mono ?_; rintro e w1 ⟨rfl, rfl⟩) | (go_at_call 27; refine (refParse_any s hB (by assumption)).mono ?_; rintro e w1 ⟨rfl, hb1⟩) | (go_at_call 23; refine (awake_keep hB (by assumption)).mono ?_; rintro e w1 ⟨rfl, hb1⟩))
  go_ret
  exact ⟨rfl, by assumption⟩

set_option maxRecDepth 100000 in
theorem texts_bad (l : Int) (s : ByteArray) (hs : s.size ≤ maxLen) (h : isL l = false) {B : Nat} (w : World) (hB : B ≤ w.heap.size) :
    Calls Try.prog 4 #[.int .i64 l, .string s] w fun e w' => e = .returned (.bool true) ∧ Below B w w' := by
  have hb0 : Below B w w := Below.refl _ _
  go_enter Try.func4, Try.ntmps4
  go_wp2_with (first | (go_at_call 24; refine (text_bad _ h _).mono ?_; rintro e w1 ⟨rfl, rfl⟩) | (go_at_call 25; refine (refText_bad _ h _).mono ?_; rintro e w1 ⟨rfl, rfl⟩) | (go_at_call 26; refine (parse_any s hs _).mono ?_; rintro e w1 ⟨rfl, rfl⟩) | (go_at_call 27; refine (refParse_any s hB (by assumption)).mono ?_; rintro e w1 ⟨rfl, hb1⟩) | (go_at_call 23; refine (awake_keep hB (by assumption)).mono ?_; rintro e w1 ⟨rfl, hb1⟩))
  go_ret
  exact ⟨rfl, by assumption⟩

end Go.Proofs.Ytiocojhkpgdjcaa.La
