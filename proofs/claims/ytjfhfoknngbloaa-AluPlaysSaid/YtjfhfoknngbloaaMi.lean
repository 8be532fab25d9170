/- The walk of hermitagelaw08.AluPlays. -/
import Derived.Test.YtjfhfoknngbloaaMg
import Derived.Test.YtjfhfoknngbloaaMh
namespace Go.Proofs.Ytjfhfoknngbloaa.Al
open Go.RowKit Ut
set_option linter.unusedVariables false
set_option maxRecDepth 100000
set_option maxHeartbeats 4000000

theorem plays_any (i : Int) (a b : Nat) (imm : Int) (ha : a < 4294967296) (hb : b < 4294967296) (w : World) :
    Calls Try.prog 3 #[.int .i64 i, .int .u32 a, .int .u32 b, .int .i64 imm] w fun e w' => e = .returned (.bool true) ∧ Below w.heap.size w w' := by
  obtain ⟨r, hr⟩ : ∃ r, reckN i a b = r := ⟨_, rfl⟩
  obtain ⟨z, hz⟩ : ∃ z, reckE i = z := ⟨_, rfl⟩
  obtain ⟨t, ht⟩ : ∃ t, takeN i a b = t := ⟨_, rfl⟩
  obtain ⟨y, hy⟩ : ∃ y, takeE i = y := ⟨_, rfl⟩
  obtain ⟨p, hp⟩ : ∃ p, plainN i = p := ⟨_, rfl⟩
  obtain ⟨o, ho⟩ : ∃ o, (plainN i != 0) = o := ⟨_, rfl⟩
  have hrd : Hid (∀ w, Calls Try.prog 8 #[.int .i64 i, .int .u32 a, .int .u32 b] w fun e w' => e = .returned (.tuple #[.int .u32 r, .int .i64 z]) ∧ w = w') := Lib.hid fun w => by
    rw [← hr, ← hz]; exact refDo_any i a b ha hb w
  have hrt : Hid (∀ w, Calls Try.prog 10 #[.int .i64 i, .int .u32 a, .int .u32 b] w fun e w' => e = .returned (.tuple #[.bool t, .int .i64 y]) ∧ w = w') := Lib.hid fun w => by
    rw [← ht, ← hy]; exact refTaken_any i a b w
  have hrp : Hid (∀ w, Calls Try.prog 12 #[.int .i64 i] w fun e w' => e = .returned (.tuple #[.int .i64 p, .bool o]) ∧ w = w') := Lib.hid fun w => by
    rw [← ho, ← hp]; exact refPlain_any i w
  have hpp : Hid (∀ v, Below w.heap.size w v → Calls Try.prog 11 #[.int .i64 i] v fun e w' => e = .returned (.tuple #[.int .i64 p, .bool o]) ∧ Below w.heap.size w w') := Lib.hid fun v h => by
    rw [← ho, ← hp]; exact (plain_any i v).mono fun _ _ ⟨he, hb⟩ => ⟨he, h.trans (hb.mono h.size)⟩
  have HR := Lib.hid hr
  have HZ := Lib.hid hz
  have HT := Lib.hid ht
  have HY := Lib.hid hy
  have HB0 := Lib.hid (Below.refl w.heap.size w)
  obtain ⟨u, hu⟩ : ∃ u, imm % 4294967296 * 262144 % 4294967296 = u := ⟨_, rfl⟩
  have hup : Hid (∀ v, Calls Try.prog 13 #[.int .i64 imm] v fun e w' => e = .returned (.int .u32 u) ∧ v = w') := Lib.hid fun v => by rw [← hu]; exact upper_any imm v
  have huq : Hid (∀ v, Calls Try.prog 14 #[.int .i64 imm] v fun e w' => e = .returned (.int .u32 u) ∧ v = w') := Lib.hid fun v => by rw [← hu]; exact refUpper_any imm v
  clear hr hz ht hy hp ho hu
  go_enter Try.func3, Try.ntmps3
  go_wp2_with fail
  refine (do_keep i a b r z ha hb HR.out HZ.out HB0.out).mono ?_
  rintro e w1 ⟨rfl, hb1⟩
  have HB1 := Lib.hid hb1
  clear hb1
  go_wp2_with fail
  refine (hrd.out _).mono ?_
  rintro e v2 ⟨rfl, rfl⟩
  go_wp2_with fail
  refine (taken_keep i a b t y ha hb HT.out HY.out HB1.out).mono ?_
  rintro e w3 ⟨rfl, hb3⟩
  have HB3 := Lib.hid hb3
  clear hb3
  go_wp2_with fail
  refine (hrt.out _).mono ?_
  rintro e v4 ⟨rfl, rfl⟩
  go_wp2_with fail
  refine (hpp.out _ HB3.out).mono ?_
  rintro e w5 ⟨rfl, hb5⟩
  have HB5 := Lib.hid hb5
  clear hb5
  go_wp2_with fail
  refine (hrp.out _).mono ?_
  rintro e v6 ⟨rfl, rfl⟩
  go_wp2_with fail
  refine (hup.out _).mono ?_
  rintro e v7 ⟨rfl, rfl⟩
  go_wp2_with fail
  refine (huq.out _).mono ?_
  rintro e v8 ⟨rfl, rfl⟩
  go_wp2_with fail
  refine (awake_any HB5.out).mono ?_
  rintro e w9 ⟨rfl, hb9⟩
  have HB9 := Lib.hid hb9
  clear hb9
  go_wp2
  go_ret
  exact ⟨rfl, HB9.out⟩
end Go.Proofs.Ytjfhfoknngbloaa.Al
