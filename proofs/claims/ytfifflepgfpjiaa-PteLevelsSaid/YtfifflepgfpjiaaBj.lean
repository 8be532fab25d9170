/- Package pte: Allows. -/
import Derived.Test.YtfifflepgfpjiaaBg
import Derived.Test.YtfifflepgfpjiaaBi
namespace Go.Proofs.Ytfifflepgfpjiaa.Pe
open Go.RowKit Ut
set_option linter.unusedVariables false
set_option maxRecDepth 100000
set_option maxHeartbeats 4000000

theorem any1 (r : Int) (y c : Nat) (hy : y % 32 = 2 * (r % 16).toNat) (hc : c < 16) : ([2 * c].any fun z => decide (y &&& z ≠ 0)) = bitB r c := by
  have h : ((List.range 16).all fun a => (List.range 16).all fun c => (2 * a &&& 2 * c) == 2 * (a &&& c)) = true := by decide +kernel
  have h1 := List.all_eq_true.1 (List.all_eq_true.1 h (r % 16).toNat (by simp; omega)) c (by simp; omega)
  rw [beq_iff_eq] at h1
  unfold bitB
  simp only [List.any_cons, List.any_nil, Bool.or_false]
  rw [and_low y (2 * c) 5 (by omega), show (2 ^ 5 : Nat) = 32 from rfl, hy, h1, decide_eq_decide]
  omega
theorem kind_lt (k : Int) : kindN k < 16 := by unfold kindN; repeat (first | omega | split)
theorem rights_word (r : Int) : ∃ y : Nat, y < 4294967296 ∧ r % 4294967296 * 2 % 4294967296 = (y : Int) ∧ y % 32 = 2 * (r % 16).toNat :=
  ⟨(r % 4294967296 * 2 % 4294967296).toNat, by omega, by omega, by omega⟩
theorem allows_none (r g k : Int) (u : Bool) (w : World) :
    Calls Try.prog 15 #[pteV false r g, .int .i64 k, .bool u] w fun e w' => e = .returned (.bool false) ∧ Below w.heap.size w w' := by
  have HB := Lib.hid (pte_below false r g w)
  go_enter Try.func15, Try.ntmps15
  go_wp2
  go_ret
  exact ⟨rfl, HB.out⟩
theorem allows_on (r g k : Int) (u t t8 : Bool) (ht : bitB r (kindN k) = t) (h8 : bitB r 8 = t8) (w : World) :
    Calls Try.prog 15 #[pteV true r g, .int .i64 k, .bool u] w fun e w' => e = .returned (.bool (t && (!u || t8))) ∧ Below w.heap.size w w' := by
  obtain ⟨y, hy, ey, hm⟩ := rights_word r
  have K := Lib.hid (needed_any k)
  have A1 := Lib.hid ((any1 r y (kindN k) hm (kind_lt k)).trans ht)
  have A8 : Hid (([16].any fun z => decide (y &&& z ≠ 0)) = t8) := Lib.hid ((any1 r y 8 hm (by omega)).trans h8)
  have HB := Lib.hid (pte_below true r g w)
  have HK := Lib.hid (kind_lt k)
  have HBW : Hid (∀ (W : World) (o : Obj), Below w.heap.size w W → Below w.heap.size w (W.alloc o)) := Lib.hid fun W o h => h.alloc h.size _
  have C : Hid (∀ (a : Option Addr) (n cap : Nat) (zs : List Nat) (W : World) (hr : WordsAt W a n zs) (t : Bool) (ht : (zs.any fun z => decide (y &&& z ≠ 0)) = t), Calls Try.prog 19 #[.int .u32 (r % 4294967296 * 2 % 4294967296), .slice a n cap] W fun e w' => e = .returned (.bool t) ∧ W = w') := Lib.hid (fun a n cap zs W hr t ht => by rw [ey]; exact hasAny_any y hy a n cap zs W hr t ht)
  generalize kindN k = n at *
  clear hm ht h8 ey
  cases t
  · go_enter Try.func15, Try.ntmps15
    go_wp2_with fail
    refine (K.out _).mono ?_
    rintro e w1 ⟨rfl, rfl⟩
    go_wp2_with fail
    refine (C.out _ 1 1 [2 * n] _ (words_at _ _ _ (by simp) _ 1 rfl (by omega) (by have := HK.out; simp; omega) _ rfl) _ A1.out).mono ?_
    rintro e w1 ⟨rfl, rfl⟩
    go_wp2
    go_ret
    exact ⟨rfl, HBW.out _ _ HB.out⟩
  cases u
  · go_enter Try.func15, Try.ntmps15
    go_wp2_with fail
    refine (K.out _).mono ?_
    rintro e w1 ⟨rfl, rfl⟩
    go_wp2_with fail
    refine (C.out _ 1 1 [2 * n] _ (words_at _ _ _ (by simp) _ 1 rfl (by omega) (by have := HK.out; simp; omega) _ rfl) _ A1.out).mono ?_
    rintro e w1 ⟨rfl, rfl⟩
    go_wp2
    go_ret
    exact ⟨rfl, HBW.out _ _ HB.out⟩
  cases t8
  all_goals
    go_enter Try.func15, Try.ntmps15
    go_wp2_with fail
    refine (K.out _).mono ?_
    rintro e w1 ⟨rfl, rfl⟩
    go_wp2_with fail
    refine (C.out _ 1 1 [2 * n] _ (words_at _ _ _ (by simp) _ 1 rfl (by omega) (by have := HK.out; simp; omega) _ rfl) _ A1.out).mono ?_
    rintro e w1 ⟨rfl, rfl⟩
    go_wp2_with fail
    refine (C.out _ 1 1 [16] _ (words_at _ _ _ (by simp) _ 1 rfl (by omega) (by decide) _ rfl) _ A8.out).mono ?_
    rintro e w1 ⟨rfl, rfl⟩
    go_wp2
    go_ret
    exact ⟨rfl, HBW.out _ _ (HBW.out _ _ HB.out)⟩
theorem allows_any (o : Bool) (r g k : Int) (u t : Bool) (ht : alwB o r k u = t) (w : World) :
    Calls Try.prog 15 #[pteV o r g, .int .i64 k, .bool u] w fun e w' => e = .returned (.bool t) ∧ Below w.heap.size w w' := by
  subst ht
  unfold alwB
  cases o
  · exact allows_none r g k u w
  · rw [Bool.true_and]
    exact allows_on r g k u _ _ rfl rfl w
end Go.Proofs.Ytfifflepgfpjiaa.Pe
