/- Several texts in one: Bi Bj -/
import Derived.Test.YtoafonbplbblpaaZ28
import Derived.Test.YtoafonbplbblpaaZ30
section
/- Package pte: the document's Allows; awake. -/
namespace Go.Proofs.Ytoafonbplbblpaa.Pe
open Go.RowKit Ut
set_option linter.unusedVariables false
set_option maxRecDepth 100000
set_option maxHeartbeats 4000000

theorem and_zero (r : Int) (c : Nat) (hc : c < 16) (t : Bool) (ht : bitB r c = t) : (bits .and .i64 r (c : Int) == 0) = !t := by
  rw [i64_and_low r c hc, ← ht, Bool.eq_iff_iff]
  unfold bitB
  simp
theorem refAllows_none (r g k : Int) (u : Bool) (w : World) :
    Calls Try.prog 31 #[pteV false r g, .int .i64 k, .bool u] w fun e w' => e = .returned (.bool false) ∧ Below w.heap.size w w' := by
  have HB := Lib.hid (pte_below false r g w)
  go_enter Try.func31, Try.ntmps31
  go_wp2
  go_ret
  exact ⟨rfl, HB.out⟩
theorem refAllows_user (r g k : Int) (h : bitB r 8 = false) (w : World) :
    Calls Try.prog 31 #[pteV true r g, .int .i64 k, .bool true] w fun e w' => e = .returned (.bool false) ∧ Below w.heap.size w w' := by
  have HB := Lib.hid (pte_below true r g w)
  have h1 := and_zero r 8 (by omega) _ h
  have h2 : bits .and .i64 r 8 = 0 := by simpa using h1
  clear h h1
  go_enter Try.func31, Try.ntmps31
  go_wp2
  go_ret
  exact ⟨rfl, HB.out⟩
theorem refAllows_kind (r g k : Int) (u t : Bool) (h : u = true → bitB r 8 = true) (ht : bitB r (kindN k) = t) (w : World) :
    Calls Try.prog 31 #[pteV true r g, .int .i64 k, .bool u] w fun e w' => e = .returned (.bool t) ∧ Below w.heap.size w w' := by
  have HB := Lib.hid (pte_below true r g w)
  have h2 : u = true → ¬ bits .and .i64 r 8 = 0 := fun hu => by have h1 := and_zero r 8 (by omega) _ (h hu); simpa using h1
  clear h
  unfold kindN at ht
  by_cases k0 : k = 0
  · subst k0
    rw [if_pos rfl] at ht
    have h1 := and_zero r 4 (by omega) _ ht
    clear ht
    cases u <;> cases t
    all_goals
      simp at h1 h2
      go_enter Try.func31, Try.ntmps31
      go_wp2
      go_ret
      exact ⟨by first | rfl | exact congrArg (fun b => Ending.returned (.bool b)) (bne_iff_ne.2 h1), HB.out⟩
  rw [if_neg k0] at ht
  by_cases k1 : k = 1
  · subst k1
    rw [if_pos rfl] at ht
    have h1 := and_zero r 1 (by omega) _ ht
    clear ht
    cases u <;> cases t
    all_goals
      simp at h1 h2
      go_enter Try.func31, Try.ntmps31
      go_wp2
      go_ret
      exact ⟨by first | rfl | exact congrArg (fun b => Ending.returned (.bool b)) (bne_iff_ne.2 h1), HB.out⟩
  rw [if_neg k1] at ht
  by_cases k2 : k = 2
  · subst k2
    rw [if_pos rfl] at ht
    have h1 := and_zero r 2 (by omega) _ ht
    clear ht
    cases u <;> cases t
    all_goals
      simp at h1 h2
      go_enter Try.func31, Try.ntmps31
      go_wp2
      go_ret
      exact ⟨by first | rfl | exact congrArg (fun b => Ending.returned (.bool b)) (bne_iff_ne.2 h1), HB.out⟩
  rw [if_neg k2] at ht
  obtain rfl : t = false := by rw [← ht]; unfold bitB; simp
  clear ht
  cases u
  all_goals
    simp at h2
    go_enter Try.func31, Try.ntmps31
    go_wp2
    go_ret
    exact ⟨rfl, HB.out⟩
theorem refAllows_any (o : Bool) (r g k : Int) (u t : Bool) (ht : alwB o r k u = t) (w : World) :
    Calls Try.prog 31 #[pteV o r g, .int .i64 k, .bool u] w fun e w' => e = .returned (.bool t) ∧ Below w.heap.size w w' := by
  subst ht
  unfold alwB
  cases o
  · exact refAllows_none r g k u w
  · cases u
    · rw [show (true && bitB r (kindN k) && (!false || bitB r 8)) = bitB r (kindN k) by simp]
      exact refAllows_kind r g k false _ (fun h => by cases h) rfl w
    · cases h8 : bitB r 8
      · rw [show (true && bitB r (kindN k) && (!true || false)) = false by simp]
        exact refAllows_user r g k h8 w
      · rw [show (true && bitB r (kindN k) && (!true || true)) = bitB r (kindN k) by simp]
        exact refAllows_kind r g k true _ (fun _ => h8) rfl w
/-- what goes on from the world in which a walk began -/
theorem keep {f : Nat} {args : Array Value} {v : Value} {w0 w : World} (hb : Below w0.heap.size w0 w) (h : Calls Try.prog f args w fun e w' => e = .returned v ∧ Below w.heap.size w w') : Calls Try.prog f args w fun e w' => e = .returned v ∧ Below w0.heap.size w0 w' :=
  h.mono fun e w' ⟨he, hb'⟩ => ⟨he, hb.trans (hb'.mono hb.size)⟩
end Go.Proofs.Ytoafonbplbblpaa.Pe
end
section
/- Package pte: Allows. -/
namespace Go.Proofs.Ytoafonbplbblpaa.Pe
open Go.RowKit Ut
set_option linter.unusedVariables false
set_option maxRecDepth 100000
set_option maxHeartbeats 4000000

theorem any1 (r : Int) (y c : Nat) (hy : y % 32 = 2 * (r % 16).toNat) (hc : c < 16) : ([2 * c].any fun z => decide (y &&& z ≠ 0)) = bitB r c := by
  have h : ((List.range 16).all fun a => (List.range 16).all fun c => (2 * a &&& 2 * c) == 2 * (a &&& c)) = true := by decide +kernel
  have h1 := List.all_eq_true.1 (List.all_eq_true.1 h (r % 16).toNat (by simp; omega)) c (by simp; omega)
  rw [beq_iff_eq] at h1
  unfold bitB
  simp only [List.any_cons, List.any_nil, Bool.or_false]
  rw [and_low y (2 * c) 5 (by omega), show (2 ^ 5 : Nat) = 32 from rfl, hy, h1, decide_eq_decide]
  omega
theorem kind_lt (k : Int) : kindN k < 16 := by unfold kindN; repeat (first | omega | split)
theorem rights_word (r : Int) : ∃ y : Nat, y < 4294967296 ∧ r % 4294967296 * 2 % 4294967296 = (y : Int) ∧ y % 32 = 2 * (r % 16).toNat :=
  ⟨(r % 4294967296 * 2 % 4294967296).toNat, by omega, by omega, by omega⟩
theorem allows_none (r g k : Int) (u : Bool) (w : World) :
    Calls Try.prog 29 #[pteV false r g, .int .i64 k, .bool u] w fun e w' => e = .returned (.bool false) ∧ Below w.heap.size w w' := by
  have HB := Lib.hid (pte_below false r g w)
  go_enter Try.func29, Try.ntmps29
  go_wp2
  go_ret
  exact ⟨rfl, HB.out⟩
theorem allows_on (r g k : Int) (u t t8 : Bool) (ht : bitB r (kindN k) = t) (h8 : bitB r 8 = t8) (w : World) :
    Calls Try.prog 29 #[pteV true r g, .int .i64 k, .bool u] w fun e w' => e = .returned (.bool (t && (!u || t8))) ∧ Below w.heap.size w w' := by
  obtain ⟨y, hy, ey, hm⟩ := rights_word r
  have K := Lib.hid (needed_any k)
  have A1 := Lib.hid ((any1 r y (kindN k) hm (kind_lt k)).trans ht)
  have A8 : Hid (([16].any fun z => decide (y &&& z ≠ 0)) = t8) := Lib.hid ((any1 r y 8 hm (by omega)).trans h8)
  have HB := Lib.hid (pte_below true r g w)
  have HK := Lib.hid (kind_lt k)
  have HBW : Hid (∀ (W : World) (o : Obj), Below w.heap.size w W → Below w.heap.size w (W.alloc o)) := Lib.hid fun W o h => h.alloc h.size _
  have C : Hid (∀ (a : Option Addr) (n cap : Nat) (zs : List Nat) (W : World) (hr : WordsAt W a n zs) (t : Bool) (ht : (zs.any fun z => decide (y &&& z ≠ 0)) = t), Calls Try.prog 45 #[.int .u32 (r % 4294967296 * 2 % 4294967296), .slice a n cap] W fun e w' => e = .returned (.bool t) ∧ W = w') := Lib.hid (fun a n cap zs W hr t ht => by rw [ey]; exact hasAny_any y hy a n cap zs W hr t ht)
  generalize kindN k = n at *
  clear hm ht h8 ey
  cases t
  · go_enter Try.func29, Try.ntmps29
    go_wp2_with fail
    refine (K.out _).mono ?_
    rintro e w1 ⟨rfl, rfl⟩
    go_wp2_with fail
    refine (C.out _ 1 1 [2 * n] _ (words_at _ _ _ (by simp) _ 1 rfl (by omega) (by have := HK.out; simp; omega) _ rfl) _ A1.out).mono ?_
    rintro e w1 ⟨rfl, rfl⟩
    go_wp2
    go_ret
    exact ⟨rfl, HBW.out _ _ HB.out⟩
  cases u
  · go_enter Try.func29, Try.ntmps29
    go_wp2_with fail
    refine (K.out _).mono ?_
    rintro e w1 ⟨rfl, rfl⟩
    go_wp2_with fail
    refine (C.out _ 1 1 [2 * n] _ (words_at _ _ _ (by simp) _ 1 rfl (by omega) (by have := HK.out; simp; omega) _ rfl) _ A1.out).mono ?_
    rintro e w1 ⟨rfl, rfl⟩
    go_wp2
    go_ret
    exact ⟨rfl, HBW.out _ _ HB.out⟩
  cases t8
  all_goals
    go_enter Try.func29, Try.ntmps29
    go_wp2_with fail
    refine (K.out _).mono ?_
    rintro e w1 ⟨rfl, rfl⟩
    go_wp2_with fail
    refine (C.out _ 1 1 [2 * n] _ (words_at _ _ _ (by simp) _ 1 rfl (by omega) (by have := HK.out; simp; omega) _ rfl) _ A1.out).mono ?_
    rintro e w1 ⟨rfl, rfl⟩
    go_wp2_with fail
    refine (C.out _ 1 1 [16] _ (words_at _ _ _ (by simp) _ 1 rfl (by omega) (by decide) _ rfl) _ A8.out).mono ?_
    rintro e w1 ⟨rfl, rfl⟩
    go_wp2
    go_ret
    exact ⟨rfl, HBW.out _ _ (HBW.out _ _ HB.out)⟩
theorem allows_any (o : Bool) (r g k : Int) (u t : Bool) (ht : alwB o r k u = t) (w : World) :
    Calls Try.prog 29 #[pteV o r g, .int .i64 k, .bool u] w fun e w' => e = .returned (.bool t) ∧ Below w.heap.size w w' := by
  subst ht
  unfold alwB
  cases o
  · exact allows_none r g k u w
  · rw [Bool.true_and]
    exact allows_on r g k u _ _ rfl rfl w
end Go.Proofs.Ytoafonbplbblpaa.Pe
end
