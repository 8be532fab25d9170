/- Package isa: Decode of both. -/
import Derived.Test.YtfdekfobcohcjaaDoorNe
import Derived.Test.YtfdekfobcohcjaaDoorNc
namespace Go.Proofs.YtfdekfobcohcjaaDoor.Is
open Go.RowKit Ut
set_option linter.unusedVariables false
set_option maxRecDepth 100000
set_option maxHeartbeats 4000000

/-- the parts of a word -/
def wO (x : Nat) : Nat := x % 64
def wD (x : Nat) : Nat := x / 64 % 16
def wA (x : Nat) : Nat := x / 1024 % 16
def wB (x : Nat) : Nat := x / 16384 % 16
theorem dec_in (x : Nat) (hx : x < 4294967296) (o d a b : Nat) (m : Int) (t : Bool) (ho : wO x = o) (hd : wD x = d) (ha : wA x = a) (hb : wB x = b) (hm : immZ x = m) (ht : validB o d a b m = t) (w : World) (hw : HasT w) :
    Calls Tryd.prog 53 #[.int .u32 x] w fun e w' => e = .returned (.tuple #[if t = true then insV o d a b m else insV 0 0 0 0 0, .bool t]) ∧ Below w.heap.size w w' := by
  have HB0 := Lib.hid (ins_below 0 0 0 0 0 w)
  have HK : Hid (∀ w, HasT w → Calls Tryd.prog 17 #[insV o d a b m] w fun e w' => e = .returned (.bool t) ∧ Below w.heap.size w w') := Lib.hid fun w hw => valid_any o d a b m t ht w hw
  have C0 : Hid (∀ w, Calls Tryd.prog 65 #[.int .u32 x, .int .i64 0, .int .i64 6] w fun e w' => e = .returned (.int .u32 o) ∧ w = w') := Lib.hid fun w => by rw [← ho]; exact cut_op x hx w
  have C1 : Hid (∀ w, Calls Tryd.prog 65 #[.int .u32 x, .int .i64 6, .int .i64 4] w fun e w' => e = .returned (.int .u32 d) ∧ w = w') := Lib.hid fun w => by rw [← hd]; exact cut_d x hx w
  have C2 : Hid (∀ w, Calls Tryd.prog 65 #[.int .u32 x, .int .i64 10, .int .i64 4] w fun e w' => e = .returned (.int .u32 a) ∧ w = w') := Lib.hid fun w => by rw [← ha]; exact cut_a x hx w
  have C3 : Hid (∀ w, Calls Tryd.prog 65 #[.int .u32 x, .int .i64 14, .int .i64 4] w fun e w' => e = .returned (.int .u32 b) ∧ w = w') := Lib.hid fun w => by rw [← hb]; exact cut_b x hx w
  have C4 : Hid (∀ w, Calls Tryd.prog 66 #[.int .u32 x, .int .i64 18, .int .i64 14] w fun e w' => e = .returned (.int .i32 m) ∧ w = w') := Lib.hid fun w => by rw [← hm]; exact cut_imm x hx w
  have bo : o < 64 := by rw [← ho]; unfold wO; omega
  have bd : d < 16 := by rw [← hd]; unfold wD; omega
  have ba : a < 16 := by rw [← ha]; unfold wA; omega
  have bb : b < 16 := by rw [← hb]; unfold wB; omega
  have bm1 : -8192 ≤ m := by rw [← hm]; unfold immZ; split <;> omega
  have bm2 : m ≤ 8191 := by rw [← hm]; unfold immZ; split <;> omega
  have HSet : Hid (∀ (W : World) (j : Nat) (v : Value), Below w.heap.size w W → Below w.heap.size w (W.setCell ⟨w.heap.size, j, none⟩ v)) := Lib.hid fun W j v h => h.setCell (p := ⟨w.heap.size, j, none⟩) (by simp) _
  have hbw := Lib.hid (HB0.out.trans ((ins_below o d a b m (insW 0 0 0 0 0 w)).mono HB0.out.size))
  have HT := Lib.hid (hw.more hbw.out)
  clear ho hd ha hb hm ht hw
  cases t
  · rw [if_neg (by decide)]
    go_enter Tryd.func53, Tryd.ntmps53
    go_wp2_with fail
    refine (C0.out _).mono ?_
    rintro e w1 ⟨rfl, rfl⟩
    go_wp2_with fail
    refine (C1.out _).mono ?_
    rintro e w1 ⟨rfl, rfl⟩
    go_wp2_with fail
    refine (C2.out _).mono ?_
    rintro e w1 ⟨rfl, rfl⟩
    go_wp2_with fail
    refine (C3.out _).mono ?_
    rintro e w1 ⟨rfl, rfl⟩
    go_wp2_with fail
    refine (C4.out _).mono ?_
    rintro e w1 ⟨rfl, rfl⟩
    go_wp2_with fail
    refine (HK.out _ HT.out).mono ?_
    rintro e w1 ⟨rfl, hb1⟩
    have hq0 := ((ins_at 0 0 0 0 0 w).below (ins_below o d a b m _) (by simp)).more hb1
    obtain ⟨r0, r1, r2, r3, r4⟩ := hq0.cells
    have f0 := hq0.frozen 0 (by omega)
    have f1 := hq0.frozen 1 (by omega)
    have f2 := hq0.frozen 2 (by omega)
    have f3 := hq0.frozen 3 (by omega)
    have f4 := hq0.frozen 4 (by omega)
    have hz := hq0.lt
    have HB1 := Lib.hid (hbw.out.trans (hb1.mono (by simp; omega)))
    clear hb1 hq0
    go_wp2
    exact bodyPost_ret (v := .tuple #[insV 0 0 0 0 0, .bool false]) (by simp [results, Tryd.results53, go_sem, r0, r1, r2, r3, r4]) rfl ⟨rfl, HSet.out _ _ _ (HSet.out _ _ _ (HSet.out _ _ _ (HSet.out _ _ _ (HSet.out _ _ _ HB1.out))))⟩
  · rw [if_pos rfl]
    go_enter Tryd.func53, Tryd.ntmps53
    go_wp2_with fail
    refine (C0.out _).mono ?_
    rintro e w1 ⟨rfl, rfl⟩
    go_wp2_with fail
    refine (C1.out _).mono ?_
    rintro e w1 ⟨rfl, rfl⟩
    go_wp2_with fail
    refine (C2.out _).mono ?_
    rintro e w1 ⟨rfl, rfl⟩
    go_wp2_with fail
    refine (C3.out _).mono ?_
    rintro e w1 ⟨rfl, rfl⟩
    go_wp2_with fail
    refine (C4.out _).mono ?_
    rintro e w1 ⟨rfl, rfl⟩
    go_wp2_with fail
    refine (HK.out _ HT.out).mono ?_
    rintro e w1 ⟨rfl, hb1⟩
    have hq0 := ((ins_at 0 0 0 0 0 w).below (ins_below o d a b m _) (by simp)).more hb1
    obtain ⟨r0, r1, r2, r3, r4⟩ := hq0.cells
    have f0 := hq0.frozen 0 (by omega)
    have f1 := hq0.frozen 1 (by omega)
    have f2 := hq0.frozen 2 (by omega)
    have f3 := hq0.frozen 3 (by omega)
    have f4 := hq0.frozen 4 (by omega)
    have hz := hq0.lt
    have hq1 := (ins_at o d a b m (insW 0 0 0 0 0 w)).more hb1
    rw [show (insW 0 0 0 0 0 w).heap.size = w.heap.size + 1 by simp] at hq1
    obtain ⟨s0, s1, s2, s3, s4⟩ := hq1.cells
    have HB1 := Lib.hid (hbw.out.trans (hb1.mono (by simp; omega)))
    clear hb1 hq0 hq1
    go_wp2
    exact bodyPost_ret (v := .tuple #[insV o d a b m, .bool true]) (by simp [results, Tryd.results53, go_sem, r0, r1, r2, r3, r4]) rfl ⟨rfl, HSet.out _ _ _ (HSet.out _ _ _ (HSet.out _ _ _ (HSet.out _ _ _ (HSet.out _ _ _ HB1.out))))⟩
end Go.Proofs.YtfdekfobcohcjaaDoor.Is
