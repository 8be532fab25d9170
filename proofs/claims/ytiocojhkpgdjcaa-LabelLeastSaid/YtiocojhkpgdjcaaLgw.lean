/- The walk of hermitagelaw01.LabelLeast. -/
import Derived.Test.YtiocojhkpgdjcaaLg
namespace Go.Proofs.Ytiocojhkpgdjcaa.La
open Go.RowKit Ut

set_option maxRecDepth 100000 in
set_option maxHeartbeats 1000000 in
theorem least_ff (n m p j q d cj cq cn cm : Nat) (hn : n < 256) (hm : m < 256) (hp : p < 256) (hj : j < 256) (hq : q < 256) (hd : d < 256) (ej : Hid (n ||| m = j)) (eq : Hid (n &&& m = q)) (ed : Hid (andN n m = d)) (en : Hid (d ||| q = n))
    (kj : Hid (pop j = cj)) (kq : Hid (pop q = cq)) (kn : Hid (pop n = cn)) (km : Hid (pop m = cm)) (ks : ((cj : Int) + (cq : Int) == (cn : Int) + (cm : Int)) = true) (bj : cj ≤ 8) (bq : cq ≤ 8) (bn : cn ≤ 8) (bm : cm ≤ 8)
    (f1 : flowsZ n j = true) (f2 : flowsZ m j = true) (f3 : flowsZ q n = true) (f4 : flowsZ q m = true) (x1 : flowsZ n p = false) (x2 : flowsZ j p = false) (y1 : flowsZ p n = false) (y2 : flowsZ p q = false) {B : Nat} (w : World) (hB : B ≤ w.heap.size) :
    Calls Try.prog 6 #[.int .u8 n, .int .u8 m, .int .u8 p] w fun e w' => e = .returned (.bool true) ∧ Below B w w' := by
  have hb0 : Below B w w := Below.refl _ _
  go_enter Try.func6, Try.ntmps6
  go_wp2_with (first | (go_at_call 10; refine (flows_keep _ _ hB (by assumption)).mono ?_; rintro e w1 ⟨rfl, hb1⟩) | (go_at_call 23; refine (awake_keep hB (by assumption)).mono ?_; rintro e w1 ⟨rfl, hb1⟩) | (go_at_call 16; (first | (with_reducible refine (join2_keep n m j hn hm ej.out hB (by assumption)).mono ?_) | (with_reducible refine (join2_keep d q n hd hq en.out hB (by assumption)).mono ?_)); rintro e w1 ⟨rfl, hb1⟩) | (go_at_call 18; refine (meet2_keep n m q hn hm eq.out hB (by assumption)).mono ?_; rintro e w1 ⟨rfl, hb1⟩) | (go_at_call 12; refine (minus2_keep n m d hn hm ed.out hB (by assumption)).mono ?_; rintro e w1 ⟨rfl, hb1⟩) | (go_at_call 14; ((first | (with_reducible refine (count_keep j cj hj kj.out (by assumption)).mono ?_) | (with_reducible refine (count_keep q cq hq kq.out (by assumption)).mono ?_) | (with_reducible refine (count_keep n cn hn kn.out (by assumption)).mono ?_) | (with_reducible refine (count_keep m cm hm km.out (by assumption)).mono ?_)); rintro e w1 ⟨rfl, hb1⟩)))
  go_ret
  exact ⟨rfl, by assumption⟩

set_option maxRecDepth 100000 in
set_option maxHeartbeats 1000000 in
theorem least_ft (n m p j q d cj cq cn cm : Nat) (hn : n < 256) (hm : m < 256) (hp : p < 256) (hj : j < 256) (hq : q < 256) (hd : d < 256) (ej : Hid (n ||| m = j)) (eq : Hid (n &&& m = q)) (ed : Hid (andN n m = d)) (en : Hid (d ||| q = n))
    (kj : Hid (pop j = cj)) (kq : Hid (pop q = cq)) (kn : Hid (pop n = cn)) (km : Hid (pop m = cm)) (ks : ((cj : Int) + (cq : Int) == (cn : Int) + (cm : Int)) = true) (bj : cj ≤ 8) (bq : cq ≤ 8) (bn : cn ≤ 8) (bm : cm ≤ 8)
    (f1 : flowsZ n j = true) (f2 : flowsZ m j = true) (f3 : flowsZ q n = true) (f4 : flowsZ q m = true) (x1 : flowsZ n p = false) (x2 : flowsZ j p = false) (y1 : flowsZ p n = true) (y2 : flowsZ p q = flowsZ p m) {B : Nat} (w : World) (hB : B ≤ w.heap.size) :
    Calls Try.prog 6 #[.int .u8 n, .int .u8 m, .int .u8 p] w fun e w' => e = .returned (.bool true) ∧ Below B w w' := by
  have hb0 : Below B w w := Below.refl _ _
  go_enter Try.func6, Try.ntmps6
  go_wp2_with (first | (go_at_call 10; refine (flows_keep _ _ hB (by assumption)).mono ?_; rintro e w1 ⟨rfl, hb1⟩) | (go_at_call 23; refine (awake_keep hB (by assumption)).mono ?_; rintro e w1 ⟨rfl, hb1⟩) | (go_at_call 16; (first | (with_reducible refine (join2_keep n m j hn hm ej.out hB (by assumption)).mono ?_) | (with_reducible refine (join2_keep d q n hd hq en.out hB (by assumption)).mono ?_)); rintro e w1 ⟨rfl, hb1⟩) | (go_at_call 18; refine (meet2_keep n m q hn hm eq.out hB (by assumption)).mono ?_; rintro e w1 ⟨rfl, hb1⟩) | (go_at_call 12; refine (minus2_keep n m d hn hm ed.out hB (by assumption)).mono ?_; rintro e w1 ⟨rfl, hb1⟩) | (go_at_call 14; ((first | (with_reducible refine (count_keep j cj hj kj.out (by assumption)).mono ?_) | (with_reducible refine (count_keep q cq hq kq.out (by assumption)).mono ?_) | (with_reducible refine (count_keep n cn hn kn.out (by assumption)).mono ?_) | (with_reducible refine (count_keep m cm hm km.out (by assumption)).mono ?_)); rintro e w1 ⟨rfl, hb1⟩)))
  go_ret
  exact ⟨rfl, by assumption⟩

set_option maxRecDepth 100000 in
set_option maxHeartbeats 1000000 in
theorem least_tf (n m p j q d cj cq cn cm : Nat) (hn : n < 256) (hm : m < 256) (hp : p < 256) (hj : j < 256) (hq : q < 256) (hd : d < 256) (ej : Hid (n ||| m = j)) (eq : Hid (n &&& m = q)) (ed : Hid (andN n m = d)) (en : Hid (d ||| q = n))
    (kj : Hid (pop j = cj)) (kq : Hid (pop q = cq)) (kn : Hid (pop n = cn)) (km : Hid (pop m = cm)) (ks : ((cj : Int) + (cq : Int) == (cn : Int) + (cm : Int)) = true) (bj : cj ≤ 8) (bq : cq ≤ 8) (bn : cn ≤ 8) (bm : cm ≤ 8)
    (f1 : flowsZ n j = true) (f2 : flowsZ m j = true) (f3 : flowsZ q n = true) (f4 : flowsZ q m = true) (x1 : flowsZ n p = true) (x2 : flowsZ j p = flowsZ m p) (y1 : flowsZ p n = false) (y2 : flowsZ p q = false) {B : Nat} (w : World) (hB : B ≤ w.heap.size) :
    Calls Try.prog 6 #[.int .u8 n, .int .u8 m, .int .u8 p] w fun e w' => e = .returned (.bool true) ∧ Below B w w' := by
  have hb0 : Below B w w := Below.refl _ _
  go_enter Try.func6, Try.ntmps6
  go_wp2_with (first | (go_at_call 10; refine (flows_keep _ _ hB (by assumption)).mono ?_; rintro e w1 ⟨rfl, hb1⟩) | (go_at_call 23; refine (awake_keep hB (by assumption)).mono ?_; rintro e w1 ⟨rfl, hb1⟩) | (go_at_call 16; (first | (with_reducible refine (join2_keep n m j hn hm ej.out hB (by assumption)).mono ?_) | (with_reducible refine (join2_keep d q n hd hq en.out hB (by assumption)).mono ?_)); rintro e w1 ⟨rfl, hb1⟩) | (go_at_call 18; refine (meet2_keep n m q hn hm eq.out hB (by assumption)).mono ?_; rintro e w1 ⟨rfl, hb1⟩) | (go_at_call 12; refine (minus2_keep n m d hn hm ed.out hB (by assumption)).mono ?_; rintro e w1 ⟨rfl, hb1⟩) | (go_at_call 14; ((first | (with_reducible refine (count_keep j cj hj kj.out (by assumption)).mono ?_) | (with_reducible refine (count_keep q cq hq kq.out (by assumption)).mono ?_) | (with_reducible refine (count_keep n cn hn kn.out (by assumption)).mono ?_) | (with_reducible refine (count_keep m cm hm km.out (by assumption)).mono ?_)); rintro e w1 ⟨rfl, hb1⟩)))
  go_ret
  exact ⟨rfl, by assumption⟩

set_option maxRecDepth 100000 in
set_option maxHeartbeats 1000000 in
theorem least_tt (n m p j q d cj cq cn cm : Nat) (hn : n < 256) (hm : m < 256) (hp : p < 256) (hj : j < 256) (hq : q < 256) (hd : d < 256) (ej : Hid (n ||| m = j)) (eq : Hid (n &&& m = q)) (ed : Hid (andN n m = d)) (en : Hid (d ||| q = n))
    (kj : Hid (pop j = cj)) (kq : Hid (pop q = cq)) (kn : Hid (pop n = cn)) (km : Hid (pop m = cm)) (ks : ((cj : Int) + (cq : Int) == (cn : Int) + (cm : Int)) = true) (bj : cj ≤ 8) (bq : cq ≤ 8) (bn : cn ≤ 8) (bm : cm ≤ 8)
    (f1 : flowsZ n j = true) (f2 : flowsZ m j = true) (f3 : flowsZ q n = true) (f4 : flowsZ q m = true) (x1 : flowsZ n p = true) (x2 : flowsZ j p = flowsZ m p) (y1 : flowsZ p n = true) (y2 : flowsZ p q = flowsZ p m) {B : Nat} (w : World) (hB : B ≤ w.heap.size) :
    Calls Try.prog 6 #[.int .u8 n, .int .u8 m, .int .u8 p] w fun e w' => e = .returned (.bool true) ∧ Below B w w' := by
  have hb0 : Below B w w := Below.refl _ _
  go_enter Try.func6, Try.ntmps6
  go_wp2_with (first | (go_at_call 10; refine (flows_keep _ _ hB (by assumption)).mono ?_; rintro e w1 ⟨rfl, hb1⟩) | (go_at_call 23; refine (awake_keep hB (by assumption)).mono ?_; rintro e w1 ⟨rfl, hb1⟩) | (go_at_call 16; (first | (with_reducible refine (join2_keep n m j hn hm ej.out hB (by assumption)).mono ?_) | (with_reducible refine (join2_keep d q n hd hq en.out hB (by assumption)).mono ?_)); rintro e w1 ⟨rfl, hb1⟩) | (go_at_call 18; refine (meet2_keep n m q hn hm eq.out hB (by assumption)).mono ?_; rintro e w1 ⟨rfl, hb1⟩) | (go_at_call 12; refine (minus2_keep n m d hn hm ed.out hB (by assumption)).mono ?_; rintro e w1 ⟨rfl, hb1⟩) | (go_at_call 14; ((first | (with_reducible refine (count_keep j cj hj kj.out (by assumption)).mono ?_) | (with_reducible refine (count_keep q cq hq kq.out (by assumption)).mono ?_) | (with_reducible refine (count_keep n cn hn kn.out (by assumption)).mono ?_) | (with_reducible refine (count_keep m cm hm km.out (by assumption)).mono ?_)); rintro e w1 ⟨rfl, hb1⟩)))
  go_ret
  exact ⟨rfl, by assumption⟩

theorem least_any (n m p : Nat) (hn : n < 256) (hm : m < 256) (hp : p < 256) {B : Nat} (w : World) (hB : B ≤ w.heap.size) :
    Calls Try.prog 6 #[.int .u8 n, .int .u8 m, .int .u8 p] w fun e w' => e = .returned (.bool true) ∧ Below B w w' := by
  obtain ⟨j, ej⟩ : ∃ j, n ||| m = j := ⟨_, rfl⟩
  obtain ⟨q, eq⟩ : ∃ q, n &&& m = q := ⟨_, rfl⟩
  obtain ⟨d, ed⟩ : ∃ d, andN n m = d := ⟨_, rfl⟩
  have hj : j < 256 := ej ▸ or_lt n m hn hm
  have hq : q < 256 := eq ▸ and_lt n m hm
  have hd : d < 256 := ed ▸ andN_lt n m hn hm
  have en : d ||| q = n := by rw [← ed, ← eq]; exact minus_or n m
  have ks : (((pop j : Nat) : Int) + ((pop q : Nat) : Int) == ((pop n : Nat) : Int) + ((pop m : Nat) : Int)) = true := by
    have := pop_sum n m
    rw [ej, eq] at this
    simp
    omega
  have f1 : flowsZ n j = true := ej ▸ flows_up n m hn hm
  have f2 : flowsZ m j = true := ej ▸ flows_up' n m hn hm
  have f3 : flowsZ q n = true := eq ▸ flows_down n m hn hm
  have f4 : flowsZ q m = true := eq ▸ flows_down' n m hm
  have x2 : flowsZ j p = (flowsZ n p && flowsZ m p) := ej ▸ flows_least n m p hn hm hp
  have y2 : flowsZ p q = (flowsZ p n && flowsZ p m) := eq ▸ flows_greatest n m p hn hm hp
  cases x1 : flowsZ n p <;> cases y1 : flowsZ p n <;> rw [x1] at x2 <;> rw [y1] at y2
  · exact least_ff n m p j q d _ _ _ _ hn hm hp hj hq hd ej eq ed en rfl rfl rfl rfl ks (pop_le _) (pop_le _) (pop_le _) (pop_le _) f1 f2 f3 f4 x1 x2 y1 y2 w hB
  · exact least_ft n m p j q d _ _ _ _ hn hm hp hj hq hd ej eq ed en rfl rfl rfl rfl ks (pop_le _) (pop_le _) (pop_le _) (pop_le _) f1 f2 f3 f4 x1 x2 y1 y2 w hB
  · exact least_tf n m p j q d _ _ _ _ hn hm hp hj hq hd ej eq ed en rfl rfl rfl rfl ks (pop_le _) (pop_le _) (pop_le _) (pop_le _) f1 f2 f3 f4 x1 x2 y1 y2 w hB
  · exact least_tt n m p j q d _ _ _ _ hn hm hp hj hq hd ej eq ed en rfl rfl rfl rfl ks (pop_le _) (pop_le _) (pop_le _) (pop_le _) f1 f2 f3 f4 x1 x2 y1 y2 w hB
end Go.Proofs.Ytiocojhkpgdjcaa.La
