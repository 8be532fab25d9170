/- The walk of hermitagelaw14.PteMore. -/
import Derived.Test.YtfifflepgfpjiaaBj
namespace Go.Proofs.Ytfifflepgfpjiaa.Pe
open Go.RowKit Ut
set_option linter.unusedVariables false
set_option maxRecDepth 100000
set_option maxHeartbeats 8000000

theorem bit_more (R S c : Nat) (hR : R < 16) (hS : S < 16) (hc : c < 16) (h : bitB R c = true) : bitB ((R ||| S : Nat) : Int) c = true := by
  have hd : ((List.range 16).all fun R => (List.range 16).all fun S => (List.range 16).all fun c => !bitB (R : Int) c || bitB ((R ||| S : Nat) : Int) c) = true := by decide +kernel
  have h1 := List.all_eq_true.1 (List.all_eq_true.1 (List.all_eq_true.1 hd R (by simpa using hR)) S (by simpa using hS)) c (by simpa using hc)
  rw [h] at h1
  exact h1
theorem alw_more (R S : Nat) (k : Int) (u : Bool) (hR : R < 16) (hS : S < 16) (h : alwB true R k u = true) : alwB true ((R ||| S : Nat) : Int) k u = true := by
  unfold alwB at h ⊢
  simp only [Bool.true_and, Bool.and_eq_true, Bool.or_eq_true] at h ⊢
  exact ⟨bit_more R S _ hR hS (kind_lt k) h.1, h.2.imp id (bit_more R S 8 hR hS (by omega))⟩
theorem alw_less (r k : Int) (h : alwB true r k true = true) : alwB true r k false = true := by
  unfold alwB at h ⊢
  simp only [Bool.true_and, Bool.and_eq_true, Bool.or_eq_true] at h ⊢
  exact ⟨h.1, .inl rfl⟩
theorem more_00 (p a b : Nat) (r g q k : Int) (u : Bool) (hp : p < 256) (ha : a < 256) (hb : b < 256) (s : Int) (er : (a : Int) % 16 = r) (es : (b : Int) % 16 = s) (eg : (p : Int) % 32 = g) (eq : bits .or .u8 r s = q) (r0 : 0 ≤ r) (r1 : r < 16) (g0 : 0 ≤ g) (g1 : g < 32) (q0 : 0 ≤ q) (q1 : q < 16) (A1 : Hid (∀ w, Calls Try.prog 15 #[pteV true r g, .int .i64 k, .bool u] w fun e w' => e = .returned (.bool false) ∧ Below w.heap.size w w')) (A3 : Hid (∀ w, Calls Try.prog 15 #[pteV true r g, .int .i64 k, .bool true] w fun e w' => e = .returned (.bool false) ∧ Below w.heap.size w w')) (A5 : Hid (∀ w, Calls Try.prog 15 #[pteV false q g, .int .i64 k, .bool u] w fun e w' => e = .returned (.bool false) ∧ Below w.heap.size w w')) (A6 : Hid (∀ w, Calls Try.prog 15 #[pteV false 0 0, .int .i64 k, .bool u] w fun e w' => e = .returned (.bool false) ∧ Below w.heap.size w w')) (w : World) :
    Calls Try.prog 5 #[.int .u8 p, .int .u8 a, .int .u8 b, .int .i64 k, .bool u] w fun e w' => e = .returned (.bool true) ∧ Below w.heap.size w w' := by
  obtain ⟨U, hU⟩ : ∃ U, U = pteW true q g (pteW true r g w) := ⟨_, rfl⟩
  have HU := Lib.hid hU
  have HBU : Hid (Below w.heap.size w U) := Lib.hid (by rw [hU]; exact (pte_below true r g w).trans ((pte_below true q g (pteW true r g w)).mono (by simp)))
  have HP : Hid (PteAt U w.heap.size true r g) := Lib.hid (by rw [hU]; exact (pte_at true r g w).more (pte_below true q g (pteW true r g w)))
  have HQ : Hid (PteAt U (w.heap.size + 1) true q g) := Lib.hid (by rw [hU]; have := pte_at true q g (pteW true r g w); simpa using this)
  clear hU
  go_enter Try.func5, Try.ntmps5
  go_wp2_with fail
  rw [show (w.alloc (.cells #[.bool true, .int .i64 r, .int .i64 g] 23)).alloc (.cells #[.bool true, .int .i64 q, .int .i64 g] 23) = U from HU.out.symm]
  refine (A1.out U).mono ?_
  rintro e w1 ⟨rfl, hb⟩
  have HB1 := Lib.hid hb
  clear hb
  obtain ⟨p0, p1, p2⟩ := (HP.out.more HB1.out).cells
  obtain ⟨c0, c1, c2⟩ := (HQ.out.more HB1.out).cells
  go_wp2_with fail
  refine (A3.out w1).mono ?_
  rintro e w2 ⟨rfl, hb⟩
  have HB2 := Lib.hid (HB1.out.trans (hb.mono HB1.out.size))
  clear hb p0 p1 p2 c0 c1 c2
  obtain ⟨p0, p1, p2⟩ := (HP.out.more HB2.out).cells
  obtain ⟨c0, c1, c2⟩ := (HQ.out.more HB2.out).cells
  have hl := (HQ.out.more HB2.out).lt
  have hf := (HQ.out.more HB2.out).frozen 0
  obtain ⟨X, hX⟩ : ∃ X, X = w2.setCell ⟨w.heap.size + 1, 0, none⟩ (.bool false) := ⟨_, rfl⟩
  have HX := Lib.hid hX
  have HBX : Hid (Below w.heap.size w X) := Lib.hid (by rw [hX]; exact (HBU.out.trans (HB2.out.mono HBU.out.size)).setCell (p := ⟨w.heap.size + 1, 0, none⟩) (by simp) _)
  clear hX
  go_wp2_with fail
  rw [show w2.setCell ⟨w.heap.size + 1, 0, none⟩ (.bool false) = X from HX.out.symm]
  refine (A5.out X).mono ?_
  rintro e v1 ⟨rfl, hb⟩
  have HBv1 := Lib.hid (HBX.out.trans (hb.mono HBX.out.size))
  clear hb p0 p1 p2 c0 c1 c2 hl hf
  go_wp2_with fail
  refine (A6.out v1).mono ?_
  rintro e v2 ⟨rfl, hb⟩
  have HBv2 := Lib.hid (HBv1.out.trans (hb.mono HBv1.out.size))
  clear hb
  go_wp2_with fail
  refine (awake_any _).mono ?_
  rintro e v3 ⟨rfl, hb⟩
  have HBv3 := Lib.hid (HBv2.out.trans (hb.mono HBv2.out.size))
  clear hb
  go_wp2
  go_ret
  exact ⟨rfl, HBv3.out⟩
theorem more_01 (p a b : Nat) (r g q k : Int) (u : Bool) (hp : p < 256) (ha : a < 256) (hb : b < 256) (s : Int) (er : (a : Int) % 16 = r) (es : (b : Int) % 16 = s) (eg : (p : Int) % 32 = g) (eq : bits .or .u8 r s = q) (r0 : 0 ≤ r) (r1 : r < 16) (g0 : 0 ≤ g) (g1 : g < 32) (q0 : 0 ≤ q) (q1 : q < 16) (A1 : Hid (∀ w, Calls Try.prog 15 #[pteV true r g, .int .i64 k, .bool u] w fun e w' => e = .returned (.bool false) ∧ Below w.heap.size w w')) (A3 : Hid (∀ w, Calls Try.prog 15 #[pteV true r g, .int .i64 k, .bool true] w fun e w' => e = .returned (.bool true) ∧ Below w.heap.size w w')) (A4 : Hid (∀ w, Calls Try.prog 15 #[pteV true r g, .int .i64 k, .bool false] w fun e w' => e = .returned (.bool true) ∧ Below w.heap.size w w')) (A5 : Hid (∀ w, Calls Try.prog 15 #[pteV false q g, .int .i64 k, .bool u] w fun e w' => e = .returned (.bool false) ∧ Below w.heap.size w w')) (A6 : Hid (∀ w, Calls Try.prog 15 #[pteV false 0 0, .int .i64 k, .bool u] w fun e w' => e = .returned (.bool false) ∧ Below w.heap.size w w')) (w : World) :
    Calls Try.prog 5 #[.int .u8 p, .int .u8 a, .int .u8 b, .int .i64 k, .bool u] w fun e w' => e = .returned (.bool true) ∧ Below w.heap.size w w' := by
  obtain ⟨U, hU⟩ : ∃ U, U = pteW true q g (pteW true r g w) := ⟨_, rfl⟩
  have HU := Lib.hid hU
  have HBU : Hid (Below w.heap.size w U) := Lib.hid (by rw [hU]; exact (pte_below true r g w).trans ((pte_below true q g (pteW true r g w)).mono (by simp)))
  have HP : Hid (PteAt U w.heap.size true r g) := Lib.hid (by rw [hU]; exact (pte_at true r g w).more (pte_below true q g (pteW true r g w)))
  have HQ : Hid (PteAt U (w.heap.size + 1) true q g) := Lib.hid (by rw [hU]; have := pte_at true q g (pteW true r g w); simpa using this)
  clear hU
  go_enter Try.func5, Try.ntmps5
  go_wp2_with fail
  rw [show (w.alloc (.cells #[.bool true, .int .i64 r, .int .i64 g] 23)).alloc (.cells #[.bool true, .int .i64 q, .int .i64 g] 23) = U from HU.out.symm]
  refine (A1.out U).mono ?_
  rintro e w1 ⟨rfl, hb⟩
  have HB1 := Lib.hid hb
  clear hb
  obtain ⟨p0, p1, p2⟩ := (HP.out.more HB1.out).cells
  obtain ⟨c0, c1, c2⟩ := (HQ.out.more HB1.out).cells
  go_wp2_with fail
  refine (A3.out w1).mono ?_
  rintro e w2 ⟨rfl, hb⟩
  have HB2 := Lib.hid (HB1.out.trans (hb.mono HB1.out.size))
  clear hb p0 p1 p2 c0 c1 c2
  obtain ⟨p0, p1, p2⟩ := (HP.out.more HB2.out).cells
  obtain ⟨c0, c1, c2⟩ := (HQ.out.more HB2.out).cells
  go_wp2_with fail
  refine (A4.out w2).mono ?_
  rintro e w3 ⟨rfl, hb⟩
  have HB3 := Lib.hid (HB2.out.trans (hb.mono HB2.out.size))
  clear hb p0 p1 p2 c0 c1 c2
  obtain ⟨p0, p1, p2⟩ := (HP.out.more HB3.out).cells
  obtain ⟨c0, c1, c2⟩ := (HQ.out.more HB3.out).cells
  have hl := (HQ.out.more HB3.out).lt
  have hf := (HQ.out.more HB3.out).frozen 0
  obtain ⟨X, hX⟩ : ∃ X, X = w3.setCell ⟨w.heap.size + 1, 0, none⟩ (.bool false) := ⟨_, rfl⟩
  have HX := Lib.hid hX
  have HBX : Hid (Below w.heap.size w X) := Lib.hid (by rw [hX]; exact (HBU.out.trans (HB3.out.mono HBU.out.size)).setCell (p := ⟨w.heap.size + 1, 0, none⟩) (by simp) _)
  clear hX
  go_wp2_with fail
  rw [show w3.setCell ⟨w.heap.size + 1, 0, none⟩ (.bool false) = X from HX.out.symm]
  refine (A5.out X).mono ?_
  rintro e v1 ⟨rfl, hb⟩
  have HBv1 := Lib.hid (HBX.out.trans (hb.mono HBX.out.size))
  clear hb p0 p1 p2 c0 c1 c2 hl hf
  go_wp2_with fail
  refine (A6.out v1).mono ?_
  rintro e v2 ⟨rfl, hb⟩
  have HBv2 := Lib.hid (HBv1.out.trans (hb.mono HBv1.out.size))
  clear hb
  go_wp2_with fail
  refine (awake_any _).mono ?_
  rintro e v3 ⟨rfl, hb⟩
  have HBv3 := Lib.hid (HBv2.out.trans (hb.mono HBv2.out.size))
  clear hb
  go_wp2
  go_ret
  exact ⟨rfl, HBv3.out⟩
theorem more_10 (p a b : Nat) (r g q k : Int) (u : Bool) (hp : p < 256) (ha : a < 256) (hb : b < 256) (s : Int) (er : (a : Int) % 16 = r) (es : (b : Int) % 16 = s) (eg : (p : Int) % 32 = g) (eq : bits .or .u8 r s = q) (r0 : 0 ≤ r) (r1 : r < 16) (g0 : 0 ≤ g) (g1 : g < 32) (q0 : 0 ≤ q) (q1 : q < 16) (A1 : Hid (∀ w, Calls Try.prog 15 #[pteV true r g, .int .i64 k, .bool u] w fun e w' => e = .returned (.bool true) ∧ Below w.heap.size w w')) (A2 : Hid (∀ w, Calls Try.prog 15 #[pteV true q g, .int .i64 k, .bool u] w fun e w' => e = .returned (.bool true) ∧ Below w.heap.size w w')) (A3 : Hid (∀ w, Calls Try.prog 15 #[pteV true r g, .int .i64 k, .bool true] w fun e w' => e = .returned (.bool false) ∧ Below w.heap.size w w')) (A5 : Hid (∀ w, Calls Try.prog 15 #[pteV false q g, .int .i64 k, .bool u] w fun e w' => e = .returned (.bool false) ∧ Below w.heap.size w w')) (A6 : Hid (∀ w, Calls Try.prog 15 #[pteV false 0 0, .int .i64 k, .bool u] w fun e w' => e = .returned (.bool false) ∧ Below w.heap.size w w')) (w : World) :
    Calls Try.prog 5 #[.int .u8 p, .int .u8 a, .int .u8 b, .int .i64 k, .bool u] w fun e w' => e = .returned (.bool true) ∧ Below w.heap.size w w' := by
  obtain ⟨U, hU⟩ : ∃ U, U = pteW true q g (pteW true r g w) := ⟨_, rfl⟩
  have HU := Lib.hid hU
  have HBU : Hid (Below w.heap.size w U) := Lib.hid (by rw [hU]; exact (pte_below true r g w).trans ((pte_below true q g (pteW true r g w)).mono (by simp)))
  have HP : Hid (PteAt U w.heap.size true r g) := Lib.hid (by rw [hU]; exact (pte_at true r g w).more (pte_below true q g (pteW true r g w)))
  have HQ : Hid (PteAt U (w.heap.size + 1) true q g) := Lib.hid (by rw [hU]; have := pte_at true q g (pteW true r g w); simpa using this)
  clear hU
  go_enter Try.func5, Try.ntmps5
  go_wp2_with fail
  rw [show (w.alloc (.cells #[.bool true, .int .i64 r, .int .i64 g] 23)).alloc (.cells #[.bool true, .int .i64 q, .int .i64 g] 23) = U from HU.out.symm]
  refine (A1.out U).mono ?_
  rintro e w1 ⟨rfl, hb⟩
  have HB1 := Lib.hid hb
  clear hb
  obtain ⟨p0, p1, p2⟩ := (HP.out.more HB1.out).cells
  obtain ⟨c0, c1, c2⟩ := (HQ.out.more HB1.out).cells
  go_wp2_with fail
  refine (A2.out w1).mono ?_
  rintro e w2 ⟨rfl, hb⟩
  have HB2 := Lib.hid (HB1.out.trans (hb.mono HB1.out.size))
  clear hb p0 p1 p2 c0 c1 c2
  obtain ⟨p0, p1, p2⟩ := (HP.out.more HB2.out).cells
  obtain ⟨c0, c1, c2⟩ := (HQ.out.more HB2.out).cells
  go_wp2_with fail
  refine (A3.out w2).mono ?_
  rintro e w3 ⟨rfl, hb⟩
  have HB3 := Lib.hid (HB2.out.trans (hb.mono HB2.out.size))
  clear hb p0 p1 p2 c0 c1 c2
  obtain ⟨p0, p1, p2⟩ := (HP.out.more HB3.out).cells
  obtain ⟨c0, c1, c2⟩ := (HQ.out.more HB3.out).cells
  have hl := (HQ.out.more HB3.out).lt
  have hf := (HQ.out.more HB3.out).frozen 0
  obtain ⟨X, hX⟩ : ∃ X, X = w3.setCell ⟨w.heap.size + 1, 0, none⟩ (.bool false) := ⟨_, rfl⟩
  have HX := Lib.hid hX
  have HBX : Hid (Below w.heap.size w X) := Lib.hid (by rw [hX]; exact (HBU.out.trans (HB3.out.mono HBU.out.size)).setCell (p := ⟨w.heap.size + 1, 0, none⟩) (by simp) _)
  clear hX
  go_wp2_with fail
  rw [show w3.setCell ⟨w.heap.size + 1, 0, none⟩ (.bool false) = X from HX.out.symm]
  refine (A5.out X).mono ?_
  rintro e v1 ⟨rfl, hb⟩
  have HBv1 := Lib.hid (HBX.out.trans (hb.mono HBX.out.size))
  clear hb p0 p1 p2 c0 c1 c2 hl hf
  go_wp2_with fail
  refine (A6.out v1).mono ?_
  rintro e v2 ⟨rfl, hb⟩
  have HBv2 := Lib.hid (HBv1.out.trans (hb.mono HBv1.out.size))
  clear hb
  go_wp2_with fail
  refine (awake_any _).mono ?_
  rintro e v3 ⟨rfl, hb⟩
  have HBv3 := Lib.hid (HBv2.out.trans (hb.mono HBv2.out.size))
  clear hb
  go_wp2
  go_ret
  exact ⟨rfl, HBv3.out⟩
theorem more_11 (p a b : Nat) (r g q k : Int) (u : Bool) (hp : p < 256) (ha : a < 256) (hb : b < 256) (s : Int) (er : (a : Int) % 16 = r) (es : (b : Int) % 16 = s) (eg : (p : Int) % 32 = g) (eq : bits .or .u8 r s = q) (r0 : 0 ≤ r) (r1 : r < 16) (g0 : 0 ≤ g) (g1 : g < 32) (q0 : 0 ≤ q) (q1 : q < 16) (A1 : Hid (∀ w, Calls Try.prog 15 #[pteV true r g, .int .i64 k, .bool u] w fun e w' => e = .returned (.bool true) ∧ Below w.heap.size w w')) (A2 : Hid (∀ w, Calls Try.prog 15 #[pteV true q g, .int .i64 k, .bool u] w fun e w' => e = .returned (.bool true) ∧ Below w.heap.size w w')) (A3 : Hid (∀ w, Calls Try.prog 15 #[pteV true r g, .int .i64 k, .bool true] w fun e w' => e = .returned (.bool true) ∧ Below w.heap.size w w')) (A4 : Hid (∀ w, Calls Try.prog 15 #[pteV true r g, .int .i64 k, .bool false] w fun e w' => e = .returned (.bool true) ∧ Below w.heap.size w w')) (A5 : Hid (∀ w, Calls Try.prog 15 #[pteV false q g, .int .i64 k, .bool u] w fun e w' => e = .returned (.bool false) ∧ Below w.heap.size w w')) (A6 : Hid (∀ w, Calls Try.prog 15 #[pteV false 0 0, .int .i64 k, .bool u] w fun e w' => e = .returned (.bool false) ∧ Below w.heap.size w w')) (w : World) :
    Calls Try.prog 5 #[.int .u8 p, .int .u8 a, .int .u8 b, .int .i64 k, .bool u] w fun e w' => e = .returned (.bool true) ∧ Below w.heap.size w w' := by
  obtain ⟨U, hU⟩ : ∃ U, U = pteW true q g (pteW true r g w) := ⟨_, rfl⟩
  have HU := Lib.hid hU
  have HBU : Hid (Below w.heap.size w U) := Lib.hid (by rw [hU]; exact (pte_below true r g w).trans ((pte_below true q g (pteW true r g w)).mono (by simp)))
  have HP : Hid (PteAt U w.heap.size true r g) := Lib.hid (by rw [hU]; exact (pte_at true r g w).more (pte_below true q g (pteW true r g w)))
  have HQ : Hid (PteAt U (w.heap.size + 1) true q g) := Lib.hid (by rw [hU]; have := pte_at true q g (pteW true r g w); simpa using this)
  clear hU
  go_enter Try.func5, Try.ntmps5
  go_wp2_with fail
  rw [show (w.alloc (.cells #[.bool true, .int .i64 r, .int .i64 g] 23)).alloc (.cells #[.bool true, .int .i64 q, .int .i64 g] 23) = U from HU.out.symm]
  refine (A1.out U).mono ?_
  rintro e w1 ⟨rfl, hb⟩
  have HB1 := Lib.hid hb
  clear hb
  obtain ⟨p0, p1, p2⟩ := (HP.out.more HB1.out).cells
  obtain ⟨c0, c1, c2⟩ := (HQ.out.more HB1.out).cells
  go_wp2_with fail
  refine (A2.out w1).mono ?_
  rintro e w2 ⟨rfl, hb⟩
  have HB2 := Lib.hid (HB1.out.trans (hb.mono HB1.out.size))
  clear hb p0 p1 p2 c0 c1 c2
  obtain ⟨p0, p1, p2⟩ := (HP.out.more HB2.out).cells
  obtain ⟨c0, c1, c2⟩ := (HQ.out.more HB2.out).cells
  go_wp2_with fail
  refine (A3.out w2).mono ?_
  rintro e w3 ⟨rfl, hb⟩
  have HB3 := Lib.hid (HB2.out.trans (hb.mono HB2.out.size))
  clear hb p0 p1 p2 c0 c1 c2
  obtain ⟨p0, p1, p2⟩ := (HP.out.more HB3.out).cells
  obtain ⟨c0, c1, c2⟩ := (HQ.out.more HB3.out).cells
  go_wp2_with fail
  refine (A4.out w3).mono ?_
  rintro e w4 ⟨rfl, hb⟩
  have HB4 := Lib.hid (HB3.out.trans (hb.mono HB3.out.size))
  clear hb p0 p1 p2 c0 c1 c2
  obtain ⟨p0, p1, p2⟩ := (HP.out.more HB4.out).cells
  obtain ⟨c0, c1, c2⟩ := (HQ.out.more HB4.out).cells
  have hl := (HQ.out.more HB4.out).lt
  have hf := (HQ.out.more HB4.out).frozen 0
  obtain ⟨X, hX⟩ : ∃ X, X = w4.setCell ⟨w.heap.size + 1, 0, none⟩ (.bool false) := ⟨_, rfl⟩
  have HX := Lib.hid hX
  have HBX : Hid (Below w.heap.size w X) := Lib.hid (by rw [hX]; exact (HBU.out.trans (HB4.out.mono HBU.out.size)).setCell (p := ⟨w.heap.size + 1, 0, none⟩) (by simp) _)
  clear hX
  go_wp2_with fail
  rw [show w4.setCell ⟨w.heap.size + 1, 0, none⟩ (.bool false) = X from HX.out.symm]
  refine (A5.out X).mono ?_
  rintro e v1 ⟨rfl, hb⟩
  have HBv1 := Lib.hid (HBX.out.trans (hb.mono HBX.out.size))
  clear hb p0 p1 p2 c0 c1 c2 hl hf
  go_wp2_with fail
  refine (A6.out v1).mono ?_
  rintro e v2 ⟨rfl, hb⟩
  have HBv2 := Lib.hid (HBv1.out.trans (hb.mono HBv1.out.size))
  clear hb
  go_wp2_with fail
  refine (awake_any _).mono ?_
  rintro e v3 ⟨rfl, hb⟩
  have HBv3 := Lib.hid (HBv2.out.trans (hb.mono HBv2.out.size))
  clear hb
  go_wp2
  go_ret
  exact ⟨rfl, HBv3.out⟩
/-- the law, any rights -/
theorem more_any (p a b : Nat) (k : Int) (u : Bool) (hp : p < 256) (ha : a < 256) (hb : b < 256) (w : World) :
    Calls Try.prog 5 #[.int .u8 p, .int .u8 a, .int .u8 b, .int .i64 k, .bool u] w fun e w' => e = .returned (.bool true) ∧ Below w.heap.size w w' := by
  have hR : a % 16 < 16 := Nat.mod_lt _ (by omega)
  have hS : b % 16 < 16 := Nat.mod_lt _ (by omega)
  have er : (a : Int) % 16 = ((a % 16 : Nat) : Int) := by omega
  have es : (b : Int) % 16 = ((b % 16 : Nat) : Int) := by omega
  have eg : (p : Int) % 32 = ((p % 32 : Nat) : Int) := by omega
  have eq := u8_or_nat (a % 16) (b % 16) (by omega) (by omega)
  have hq : a % 16 ||| b % 16 < 16 := Nat.or_lt_two_pow (n := 4) (by omega) (by omega)
  have hm := fun u => alw_more (a % 16) (b % 16) k u hR hS
  generalize a % 16 = R at *
  generalize b % 16 = S at *
  generalize hgp : p % 32 = G at *
  have hG : G < 32 := by rw [← hgp]; exact Nat.mod_lt _ (by omega)
  clear hgp
  generalize R ||| S = Q at *
  have A5 := Lib.hid (allows_any false Q G k u false rfl)
  have A6 := Lib.hid (allows_any false 0 0 k u false rfl)
  cases h1 : alwB true R k u <;> cases h3 : alwB true R k true
  · exact more_00 p a b R G Q k u hp ha hb S er es eg eq (by omega) (by omega) (by omega) (by omega) (by omega) (by omega) (Lib.hid (allows_any true R G k u _ h1)) (Lib.hid (allows_any true R G k true _ h3)) A5 A6 w
  · exact more_01 p a b R G Q k u hp ha hb S er es eg eq (by omega) (by omega) (by omega) (by omega) (by omega) (by omega) (Lib.hid (allows_any true R G k u _ h1)) (Lib.hid (allows_any true R G k true _ h3)) (Lib.hid (allows_any true R G k false _ (alw_less R k h3))) A5 A6 w
  · exact more_10 p a b R G Q k u hp ha hb S er es eg eq (by omega) (by omega) (by omega) (by omega) (by omega) (by omega) (Lib.hid (allows_any true R G k u _ h1)) (Lib.hid (allows_any true Q G k u _ (hm u h1))) (Lib.hid (allows_any true R G k true _ h3)) A5 A6 w
  · exact more_11 p a b R G Q k u hp ha hb S er es eg eq (by omega) (by omega) (by omega) (by omega) (by omega) (by omega) (Lib.hid (allows_any true R G k u _ h1)) (Lib.hid (allows_any true Q G k u _ (hm u h1))) (Lib.hid (allows_any true R G k true _ h3)) (Lib.hid (allows_any true R G k false _ (alw_less R k h3))) A5 A6 w
end Go.Proofs.Ytfifflepgfpjiaa.Pe
