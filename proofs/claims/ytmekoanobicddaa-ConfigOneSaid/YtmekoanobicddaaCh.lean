/- The closures that config.Check asks, one by one: what each answers. -/
import Derived.Test.YtmekoanobicddaaCg
namespace Go.Proofs.Ytmekoanobicddaa.Cf
open Go.RowKit Ut
set_option linter.unusedVariables false

/-- how many places rule j asks -/
def cntR (c : Cfg) (j : Nat) : Nat := match j with
  | 2 => c.gn
  | 4 => c.rn
  | 6 => c.pn
  | 8 => c.nn
  | 10 => c.sn
  | _ => 1
/-- what rule j finds wrong at place i -/
def wrR (c : Cfg) (j i : Nat) : Bool := match j with
  | 0 => !inB c.cats 0 8
  | 1 => !inB c.gn 1 4
  | 2 => wrongG c i
  | 3 => decide (8 < (c.rn : Int))
  | 4 => wrongR c i
  | 5 => decide (8 < (c.pn : Int))
  | 6 => wrongP c i
  | 7 => decide (4 < (c.nn : Int))
  | 8 => wrongN c i
  | 9 => !inB c.sn 1 8
  | 10 => wrongS c i
  | 11 => wrongGate c
  | _ => decide (32 < need c)
def errR (j : Nat) : Int := match j with
  | 0 => 12
  | 1 => 13
  | 2 => 13
  | 3 => 14
  | 4 => 14
  | 5 => 15
  | 6 => 15
  | 7 => 16
  | 8 => 16
  | 9 => 17
  | 10 => 17
  | 11 => 18
  | _ => 19
theorem dec_int (a b : Int) : (if a < b then true else false) = decide (a < b) := by by_cases h : a < b <;> simp [h]

theorem clos0_any (c : Cfg) (i bc B : Nat) (w : World) (hB : B ≤ w.heap.size) (hc : c.At w B) (hx : BoxC w bc c) :
    Calls Try.prog 65 #[.int .i64 i, .pointer (some ⟨bc, 0, none⟩)] w fun e w' => e = .returned (.bool (wrR c 0 i)) ∧ Below w.heap.size w w' := by
  obtain ⟨k0, k1, k2, k3, k4, k5, k6, k7⟩ := hx.cells
  obtain ⟨r, hr⟩ : ∃ r, r = inB (c.cats) 0 8 := ⟨_, rfl⟩
  have HV : Hid (∀ W : World, Calls Try.prog 58 #[.int .i64 (c.cats), .int .i64 0, .int .i64 8] W fun e w' => e = .returned (.bool r) ∧ W = w') := Lib.hid fun W => by rw [hr]; exact within_any _ _ _ _
  have HR : Hid (wrR c 0 i = !r) := Lib.hid (by rw [hr]; rfl)
  obtain ⟨q, hq⟩ : ∃ q, q = wrR c 0 i := ⟨_, rfl⟩
  rw [← hq] at HR ⊢
  clear hr hq hc hx
  clear k1
  clear k2
  clear k3
  clear k4
  clear k5
  clear k6
  clear k7
  go_enter Try.func65, Try.ntmps65
  go_wp2_with fail
  refine (HV.out _).mono ?_
  rintro e w1 ⟨rfl, rfl⟩
  go_wp2
  go_ret
  exact ⟨by rw [HR.out]; rfl, Below.refl _ _⟩

theorem clos1_any (c : Cfg) (i bc B : Nat) (w : World) (hB : B ≤ w.heap.size) (hc : c.At w B) (hx : BoxC w bc c) :
    Calls Try.prog 66 #[.int .i64 i, .pointer (some ⟨bc, 0, none⟩)] w fun e w' => e = .returned (.bool (wrR c 1 i)) ∧ Below w.heap.size w w' := by
  obtain ⟨k0, k1, k2, k3, k4, k5, k6, k7⟩ := hx.cells
  obtain ⟨r, hr⟩ : ∃ r, r = inB ((c.gn : Int)) 1 4 := ⟨_, rfl⟩
  have HV : Hid (∀ W : World, Calls Try.prog 58 #[.int .i64 ((c.gn : Int)), .int .i64 1, .int .i64 4] W fun e w' => e = .returned (.bool r) ∧ W = w') := Lib.hid fun W => by rw [hr]; exact within_any _ _ _ _
  have HR : Hid (wrR c 1 i = !r) := Lib.hid (by rw [hr]; rfl)
  obtain ⟨q, hq⟩ : ∃ q, q = wrR c 1 i := ⟨_, rfl⟩
  rw [← hq] at HR ⊢
  clear hr hq hc hx
  clear k0
  clear k2
  clear k3
  clear k4
  clear k5
  clear k6
  clear k7
  go_enter Try.func66, Try.ntmps66
  go_wp2_with fail
  refine (HV.out _).mono ?_
  rintro e w1 ⟨rfl, rfl⟩
  go_wp2
  go_ret
  exact ⟨by rw [HR.out]; rfl, Below.refl _ _⟩

theorem clos2_any (c : Cfg) (i bc B : Nat) (w : World) (hB : B ≤ w.heap.size) (hc : c.At w B) (hx : BoxC w bc c) (hi : i < c.gn) :
    Calls Try.prog 67 #[.int .i64 i, .pointer (some ⟨bc, 0, none⟩)] w fun e w' => e = .returned (.bool (wrR c 2 i)) ∧ Below w.heap.size w w' := by
  obtain ⟨k0, k1, k2, k3, k4, k5, k6, k7⟩ := hx.cells
  have HC : Hid (∀ W : World, w = W → Calls Try.prog 68 #[c.v, .int .i64 i] W fun e w' => e = .returned (.bool (wrR c 2 i)) ∧ Below W.heap.size W w') := Lib.hid fun W hW => by subst hW; exact wrongGuest_any c i B w hB hc hi
  obtain ⟨q, hq⟩ : ∃ q, q = wrR c 2 i := ⟨_, rfl⟩
  rw [← hq] at HC ⊢
  clear hq hc hx
  go_enter Try.func67, Try.ntmps67
  go_wp2_with fail
  refine (HC.out _ rfl).mono ?_
  rintro e w1 ⟨rfl, hb⟩
  go_wp2
  go_ret
  exact ⟨rfl, hb⟩

theorem clos3_any (c : Cfg) (i bc B : Nat) (w : World) (hB : B ≤ w.heap.size) (hc : c.At w B) (hx : BoxC w bc c) :
    Calls Try.prog 69 #[.int .i64 i, .pointer (some ⟨bc, 0, none⟩)] w fun e w' => e = .returned (.bool (wrR c 3 i)) ∧ Below w.heap.size w w' := by
  obtain ⟨k0, k1, k2, k3, k4, k5, k6, k7⟩ := hx.cells
  have HR : Hid (wrR c 3 i = decide (8 < (c.rn : Int))) := Lib.hid rfl
  obtain ⟨q, hq⟩ : ∃ q, q = wrR c 3 i := ⟨_, rfl⟩
  rw [← hq] at HR ⊢
  clear hq hc hx
  clear k0
  clear k1
  clear k3
  clear k4
  clear k5
  clear k6
  clear k7
  obtain ⟨n, hn⟩ : ∃ n, n = c.rn := ⟨_, rfl⟩
  rw [← hn] at HR k2
  clear hn
  by_cases h : 8 < (n : Int)
  · obtain rfl : q = true := by rw [HR.out]; simpa using h
    clear HR
    go_enter Try.func69, Try.ntmps69
    go_wp2
    go_ret
    exact ⟨rfl, Below.refl _ _⟩
  · obtain rfl : q = false := by rw [HR.out]; simpa using h
    clear HR
    go_enter Try.func69, Try.ntmps69
    go_wp2
    go_ret
    exact ⟨rfl, Below.refl _ _⟩

theorem clos5_any (c : Cfg) (i bc B : Nat) (w : World) (hB : B ≤ w.heap.size) (hc : c.At w B) (hx : BoxC w bc c) :
    Calls Try.prog 72 #[.int .i64 i, .pointer (some ⟨bc, 0, none⟩)] w fun e w' => e = .returned (.bool (wrR c 5 i)) ∧ Below w.heap.size w w' := by
  obtain ⟨k0, k1, k2, k3, k4, k5, k6, k7⟩ := hx.cells
  have HR : Hid (wrR c 5 i = decide (8 < (c.pn : Int))) := Lib.hid rfl
  obtain ⟨q, hq⟩ : ∃ q, q = wrR c 5 i := ⟨_, rfl⟩
  rw [← hq] at HR ⊢
  clear hq hc hx
  clear k0
  clear k1
  clear k2
  clear k4
  clear k5
  clear k6
  clear k7
  obtain ⟨n, hn⟩ : ∃ n, n = c.pn := ⟨_, rfl⟩
  rw [← hn] at HR k3
  clear hn
  by_cases h : 8 < (n : Int)
  · obtain rfl : q = true := by rw [HR.out]; simpa using h
    clear HR
    go_enter Try.func72, Try.ntmps72
    go_wp2
    go_ret
    exact ⟨rfl, Below.refl _ _⟩
  · obtain rfl : q = false := by rw [HR.out]; simpa using h
    clear HR
    go_enter Try.func72, Try.ntmps72
    go_wp2
    go_ret
    exact ⟨rfl, Below.refl _ _⟩

theorem clos6_any (c : Cfg) (i bc B : Nat) (w : World) (hB : B ≤ w.heap.size) (hc : c.At w B) (hx : BoxC w bc c) (hi : i < c.pn) :
    Calls Try.prog 73 #[.int .i64 i, .pointer (some ⟨bc, 0, none⟩)] w fun e w' => e = .returned (.bool (wrR c 6 i)) ∧ Below w.heap.size w w' := by
  obtain ⟨k0, k1, k2, k3, k4, k5, k6, k7⟩ := hx.cells
  have HC : Hid (∀ W : World, w = W → Calls Try.prog 74 #[c.v, .int .i64 i] W fun e w' => e = .returned (.bool (wrR c 6 i)) ∧ Below W.heap.size W w') := Lib.hid fun W hW => by subst hW; exact wrongPort_any c i B w hB hc hi
  obtain ⟨q, hq⟩ : ∃ q, q = wrR c 6 i := ⟨_, rfl⟩
  rw [← hq] at HC ⊢
  clear hq hc hx
  go_enter Try.func73, Try.ntmps73
  go_wp2_with fail
  refine (HC.out _ rfl).mono ?_
  rintro e w1 ⟨rfl, hb⟩
  go_wp2
  go_ret
  exact ⟨rfl, hb⟩

theorem clos7_any (c : Cfg) (i bc B : Nat) (w : World) (hB : B ≤ w.heap.size) (hc : c.At w B) (hx : BoxC w bc c) :
    Calls Try.prog 75 #[.int .i64 i, .pointer (some ⟨bc, 0, none⟩)] w fun e w' => e = .returned (.bool (wrR c 7 i)) ∧ Below w.heap.size w w' := by
  obtain ⟨k0, k1, k2, k3, k4, k5, k6, k7⟩ := hx.cells
  have HR : Hid (wrR c 7 i = decide (4 < (c.nn : Int))) := Lib.hid rfl
  obtain ⟨q, hq⟩ : ∃ q, q = wrR c 7 i := ⟨_, rfl⟩
  rw [← hq] at HR ⊢
  clear hq hc hx
  clear k0
  clear k1
  clear k2
  clear k3
  clear k5
  clear k6
  clear k7
  obtain ⟨n, hn⟩ : ∃ n, n = c.nn := ⟨_, rfl⟩
  rw [← hn] at HR k4
  clear hn
  by_cases h : 4 < (n : Int)
  · obtain rfl : q = true := by rw [HR.out]; simpa using h
    clear HR
    go_enter Try.func75, Try.ntmps75
    go_wp2
    go_ret
    exact ⟨rfl, Below.refl _ _⟩
  · obtain rfl : q = false := by rw [HR.out]; simpa using h
    clear HR
    go_enter Try.func75, Try.ntmps75
    go_wp2
    go_ret
    exact ⟨rfl, Below.refl _ _⟩

theorem clos8_any (c : Cfg) (i bc B : Nat) (w : World) (hB : B ≤ w.heap.size) (hc : c.At w B) (hx : BoxC w bc c) (hi : i < c.nn) :
    Calls Try.prog 76 #[.int .i64 i, .pointer (some ⟨bc, 0, none⟩)] w fun e w' => e = .returned (.bool (wrR c 8 i)) ∧ Below w.heap.size w w' := by
  obtain ⟨k0, k1, k2, k3, k4, k5, k6, k7⟩ := hx.cells
  have HC : Hid (∀ W : World, w = W → Calls Try.prog 77 #[c.v, .int .i64 i] W fun e w' => e = .returned (.bool (wrR c 8 i)) ∧ Below W.heap.size W w') := Lib.hid fun W hW => by subst hW; exact wrongRing_any c i B w hB hc hi
  obtain ⟨q, hq⟩ : ∃ q, q = wrR c 8 i := ⟨_, rfl⟩
  rw [← hq] at HC ⊢
  clear hq hc hx
  go_enter Try.func76, Try.ntmps76
  go_wp2_with fail
  refine (HC.out _ rfl).mono ?_
  rintro e w1 ⟨rfl, hb⟩
  go_wp2
  go_ret
  exact ⟨rfl, hb⟩

theorem clos9_any (c : Cfg) (i bc B : Nat) (w : World) (hB : B ≤ w.heap.size) (hc : c.At w B) (hx : BoxC w bc c) :
    Calls Try.prog 78 #[.int .i64 i, .pointer (some ⟨bc, 0, none⟩)] w fun e w' => e = .returned (.bool (wrR c 9 i)) ∧ Below w.heap.size w w' := by
  obtain ⟨k0, k1, k2, k3, k4, k5, k6, k7⟩ := hx.cells
  obtain ⟨r, hr⟩ : ∃ r, r = inB ((c.sn : Int)) 1 8 := ⟨_, rfl⟩
  have HV : Hid (∀ W : World, Calls Try.prog 58 #[.int .i64 ((c.sn : Int)), .int .i64 1, .int .i64 8] W fun e w' => e = .returned (.bool r) ∧ W = w') := Lib.hid fun W => by rw [hr]; exact within_any _ _ _ _
  have HR : Hid (wrR c 9 i = !r) := Lib.hid (by rw [hr]; rfl)
  obtain ⟨q, hq⟩ : ∃ q, q = wrR c 9 i := ⟨_, rfl⟩
  rw [← hq] at HR ⊢
  clear hr hq hc hx
  clear k0
  clear k1
  clear k2
  clear k3
  clear k4
  clear k6
  clear k7
  go_enter Try.func78, Try.ntmps78
  go_wp2_with fail
  refine (HV.out _).mono ?_
  rintro e w1 ⟨rfl, rfl⟩
  go_wp2
  go_ret
  exact ⟨by rw [HR.out]; rfl, Below.refl _ _⟩

theorem clos10_any (c : Cfg) (i bc B : Nat) (w : World) (hB : B ≤ w.heap.size) (hc : c.At w B) (hx : BoxC w bc c) (hi : i < c.sn) :
    Calls Try.prog 79 #[.int .i64 i, .pointer (some ⟨bc, 0, none⟩)] w fun e w' => e = .returned (.bool (wrR c 10 i)) ∧ Below w.heap.size w w' := by
  obtain ⟨k0, k1, k2, k3, k4, k5, k6, k7⟩ := hx.cells
  have HC : Hid (∀ W : World, w = W → Calls Try.prog 80 #[c.v, .int .i64 i] W fun e w' => e = .returned (.bool (wrR c 10 i)) ∧ Below W.heap.size W w') := Lib.hid fun W hW => by subst hW; exact wrongSlot_any c i B w hB hc hi
  obtain ⟨q, hq⟩ : ∃ q, q = wrR c 10 i := ⟨_, rfl⟩
  rw [← hq] at HC ⊢
  clear hq hc hx
  go_enter Try.func79, Try.ntmps79
  go_wp2_with fail
  refine (HC.out _ rfl).mono ?_
  rintro e w1 ⟨rfl, hb⟩
  go_wp2
  go_ret
  exact ⟨rfl, hb⟩

theorem clos11_any (c : Cfg) (i bc B : Nat) (w : World) (hB : B ≤ w.heap.size) (hc : c.At w B) (hx : BoxC w bc c) :
    Calls Try.prog 81 #[.int .i64 i, .pointer (some ⟨bc, 0, none⟩)] w fun e w' => e = .returned (.bool (wrR c 11 i)) ∧ Below w.heap.size w w' := by
  obtain ⟨k0, k1, k2, k3, k4, k5, k6, k7⟩ := hx.cells
  have HC : Hid (∀ W : World, w = W → Calls Try.prog 82 #[c.v] W fun e w' => e = .returned (.bool (wrR c 11 i)) ∧ Below W.heap.size W w') := Lib.hid fun W hW => by subst hW; exact wrongGate_any c w (by have := hc.lg; omega)
  obtain ⟨q, hq⟩ : ∃ q, q = wrR c 11 i := ⟨_, rfl⟩
  rw [← hq] at HC ⊢
  clear hq hc hx
  go_enter Try.func81, Try.ntmps81
  go_wp2_with fail
  refine (HC.out _ rfl).mono ?_
  rintro e w1 ⟨rfl, hb⟩
  go_wp2
  go_ret
  exact ⟨rfl, hb⟩

theorem clos12_any (c : Cfg) (i bc B : Nat) (w : World) (hB : B ≤ w.heap.size) (hc : c.At w B) (hx : BoxC w bc c) (hn : c.gn ≤ 4) (hs : Small c.G c.gn) :
    Calls Try.prog 83 #[.int .i64 i, .pointer (some ⟨bc, 0, none⟩)] w fun e w' => e = .returned (.bool (wrR c 12 i)) ∧ Below w.heap.size w w' := by
  obtain ⟨k0, k1, k2, k3, k4, k5, k6, k7⟩ := hx.cells
  have HC : Hid (∀ W : World, w = W → Calls Try.prog 54 #[c.v] W fun e w' => e = .returned (.int .i64 (need c)) ∧ Below W.heap.size W w') := Lib.hid fun W hW => by subst hW; exact frames_any c B w hB hc hn hs
  have HR : Hid (wrR c 12 i = decide (32 < need c)) := Lib.hid rfl
  obtain ⟨q, hq⟩ : ∃ q, q = wrR c 12 i := ⟨_, rfl⟩
  rw [← hq] at HR ⊢
  clear hq hc hx hs
  obtain ⟨n, hn⟩ : ∃ n, n = need c := ⟨_, rfl⟩
  rw [← hn] at HR HC
  clear hn
  go_enter Try.func83, Try.ntmps83
  go_wp2_with fail
  refine (HC.out _ rfl).mono ?_
  rintro e w1 ⟨rfl, hb⟩
  go_wp2
  go_ret
  exact ⟨by rw [HR.out]; rfl, hb⟩

theorem clos4_any (c : Cfg) (i bc bs bt B : Nat) (w : World) (hB : B ≤ w.heap.size) (hc : c.At w B) (hx : BoxC w bc c) (hi : i < c.rn) (hbs : w.cell? ⟨bs, 0, none⟩ = some (.pointer (some ⟨bt, 0, none⟩))) (hT : Pt.Tab w bt (secs c i)) :
    Calls Try.prog 70 #[.int .i64 i, .pointer (some ⟨bc, 0, none⟩), .pointer (some ⟨bs, 0, none⟩)] w fun e w' => e = .returned (.bool (wrR c 4 i)) ∧ RangePost c i bt w w' := by
  obtain ⟨k0, k1, k2, k3, k4, k5, k6, k7⟩ := hx.cells
  have HC : Hid (∀ W : World, w = W → Calls Try.prog 71 #[c.v, .int .i64 i, .pointer (some ⟨bt, 0, none⟩)] W fun e w' => e = .returned (.bool (wrR c 4 i)) ∧ RangePost c i bt w w') := Lib.hid fun W hW => by subst hW; exact wrongRange_any c i bt B w hB hc hi hT
  obtain ⟨q, hq⟩ : ∃ q, q = wrR c 4 i := ⟨_, rfl⟩
  rw [← hq] at HC ⊢
  obtain ⟨PR, hPR⟩ : ∃ PR, PR = RangePost c i bt w := ⟨_, rfl⟩
  rw [← hPR] at HC ⊢
  clear hq hc hx hPR hT
  go_enter Try.func70, Try.ntmps70
  go_wp2_with fail
  refine (HC.out _ rfl).mono ?_
  rintro e w1 ⟨rfl, hb⟩
  go_wp2
  go_ret
  exact ⟨rfl, hb⟩
end Go.Proofs.Ytmekoanobicddaa.Cf
