/- The walk of hermitagelaw01.LabelOrder. -/
import Derived.Test.YtiocojhkpgdjcaaLe
namespace Go.Proofs.Ytiocojhkpgdjcaa.La
open Go.RowKit Ut

set_option maxRecDepth 100000 in
theorem order_a (n m p : Nat) (hn : n < 256) (hm : m < 256) (hp : p < 256) (hs : flowsZ n n = true) (h1 : flowsZ n m = false) {B : Nat} (w : World) (hB : B ≤ w.heap.size) :
    Calls Try.prog 5 #[.int .u8 n, .int .u8 m, .int .u8 p] w fun e w' => e = .returned (.bool true) ∧ Below B w w' := by
  have hb0 : Below B w w := Below.refl _ _
  go_enter Try.func5, Try.ntmps5
  go_wp2_with (first | (go_at_call 10; refine (flows_keep _ _ hB (by assumption)).mono ?_; rintro e w1 ⟨rfl, hb1⟩) | (go_at_call 23; refine (awake_keep hB (by assumption)).mono ?_; rintro e w1 ⟨rfl, hb1⟩))
  go_ret
  exact ⟨rfl, by assumption⟩

set_option maxRecDepth 100000 in
theorem order_b1 (n p : Nat) (hn : n < 256) (hp : p < 256) (hs : flowsZ n n = true) (h3 : flowsZ n p = true) {B : Nat} (w : World) (hB : B ≤ w.heap.size) :
    Calls Try.prog 5 #[.int .u8 n, .int .u8 n, .int .u8 p] w fun e w' => e = .returned (.bool true) ∧ Below B w w' := by
  have hb0 : Below B w w := Below.refl _ _
  go_enter Try.func5, Try.ntmps5
  go_wp2_with (first | (go_at_call 10; refine (flows_keep _ _ hB (by assumption)).mono ?_; rintro e w1 ⟨rfl, hb1⟩) | (go_at_call 23; refine (awake_keep hB (by assumption)).mono ?_; rintro e w1 ⟨rfl, hb1⟩))
  go_ret
  exact ⟨rfl, by assumption⟩

set_option maxRecDepth 100000 in
theorem order_b2 (n p : Nat) (hn : n < 256) (hp : p < 256) (hs : flowsZ n n = true) (h3 : flowsZ n p = false) {B : Nat} (w : World) (hB : B ≤ w.heap.size) :
    Calls Try.prog 5 #[.int .u8 n, .int .u8 n, .int .u8 p] w fun e w' => e = .returned (.bool true) ∧ Below B w w' := by
  have hb0 : Below B w w := Below.refl _ _
  go_enter Try.func5, Try.ntmps5
  go_wp2_with (first | (go_at_call 10; refine (flows_keep _ _ hB (by assumption)).mono ?_; rintro e w1 ⟨rfl, hb1⟩) | (go_at_call 23; refine (awake_keep hB (by assumption)).mono ?_; rintro e w1 ⟨rfl, hb1⟩))
  go_ret
  exact ⟨rfl, by assumption⟩

set_option maxRecDepth 100000 in
theorem order_c (n m p : Nat) (hn : n < 256) (hm : m < 256) (hp : p < 256) (hs : flowsZ n n = true) (h1 : flowsZ n m = true) (h2 : flowsZ m n = false) (h3 : flowsZ m p = false) {B : Nat} (w : World) (hB : B ≤ w.heap.size) :
    Calls Try.prog 5 #[.int .u8 n, .int .u8 m, .int .u8 p] w fun e w' => e = .returned (.bool true) ∧ Below B w w' := by
  have hb0 : Below B w w := Below.refl _ _
  go_enter Try.func5, Try.ntmps5
  go_wp2_with (first | (go_at_call 10; refine (flows_keep _ _ hB (by assumption)).mono ?_; rintro e w1 ⟨rfl, hb1⟩) | (go_at_call 23; refine (awake_keep hB (by assumption)).mono ?_; rintro e w1 ⟨rfl, hb1⟩))
  go_ret
  exact ⟨rfl, by assumption⟩

set_option maxRecDepth 100000 in
theorem order_d (n m p : Nat) (hn : n < 256) (hm : m < 256) (hp : p < 256) (hs : flowsZ n n = true) (h1 : flowsZ n m = true) (h2 : flowsZ m n = false) (h3 : flowsZ m p = true) (h4 : flowsZ n p = true) {B : Nat} (w : World) (hB : B ≤ w.heap.size) :
    Calls Try.prog 5 #[.int .u8 n, .int .u8 m, .int .u8 p] w fun e w' => e = .returned (.bool true) ∧ Below B w w' := by
  have hb0 : Below B w w := Below.refl _ _
  go_enter Try.func5, Try.ntmps5
  go_wp2_with (first | (go_at_call 10; refine (flows_keep _ _ hB (by assumption)).mono ?_; rintro e w1 ⟨rfl, hb1⟩) | (go_at_call 23; refine (awake_keep hB (by assumption)).mono ?_; rintro e w1 ⟨rfl, hb1⟩))
  go_ret
  exact ⟨rfl, by assumption⟩

theorem order_any (n m p : Nat) (hn : n < 256) (hm : m < 256) (hp : p < 256) {B : Nat} (w : World) (hB : B ≤ w.heap.size) :
    Calls Try.prog 5 #[.int .u8 n, .int .u8 m, .int .u8 p] w fun e w' => e = .returned (.bool true) ∧ Below B w w' := by
  have hs := flowsZ_self n hn
  cases h1 : flowsZ n m
  · exact order_a n m p hn hm hp hs h1 w hB
  · cases h2 : flowsZ m n
    · cases h3 : flowsZ m p
      · exact order_c n m p hn hm hp hs h1 h2 h3 w hB
      · exact order_d n m p hn hm hp hs h1 h2 h3 (flowsZ_trans n m p hn hm hp h1 h3) w hB
    · obtain rfl := flowsZ_anti n m hn hm h1 h2
      cases h3 : flowsZ n p
      · exact order_b2 n p hn hp hs h3 w hB
      · exact order_b1 n p hn hp hs h3 w hB
end Go.Proofs.Ytiocojhkpgdjcaa.La
