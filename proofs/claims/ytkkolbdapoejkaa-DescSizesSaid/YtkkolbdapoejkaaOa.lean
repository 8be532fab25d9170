/- The walks of package octet's small functions (isWidth, holds, cut, number, lay): what each returns, for every argument. -/
import Derived.Test.YtkkolbdapoejkaaVt
import Derived.Test.YtkkolbdapoejkaaOm
namespace Go.Proofs.Ytkkolbdapoejkaa.Oc
open Go.RowKit Ut
set_option linter.unusedVariables false

/-- the widths that there are -/
def isW (m : Int) : Bool := decide (m = 1) || decide (m = 2) || decide (m = 4)

/-- can a number of m bytes stand at i in n bytes -/
def hold (n : Nat) (i m : Int) : Bool := isW m && decide (0 ≤ i) && decide (i ≤ n - m)

theorem isW_le {m : Int} (h : isW m = true) : 1 ≤ m ∧ m ≤ 4 := by
  unfold isW at h
  simp at h
  omega

theorem cut_any (x : Addr) (n cap i m : Nat) (w : World) (hm : 0 < m) (hi : i + m ≤ n) (hn : n ≤ cap) (hc : cap ≤ 9223372036854775807) :
    Calls Try.prog 27 #[.slice (some x) n cap, .int .i64 i, .int .i64 m] w fun e w' => e = .returned (.slice (some (x.add i)) m m) ∧ w = w' := by
  have h1 : (0 : Int) ≤ (i : Int) := by omega
  have h2 : (i : Int) ≤ (i : Int) + (m : Int) := by omega
  have h3 : (i : Int) + (m : Int) ≤ (cap : Int) := by omega
  have h4 : ¬ cap = i := by omega
  have h5 : ¬ i + m - i = 0 := by omega
  go_enter Try.func27, Try.ntmps27
  go_wp2
  go_ret
  exact ⟨by rw [show Ending.returned (.slice (some (x.add i)) m m) = .returned (.slice (some (x.add i)) (i + m - i) (i + m - i)) from by rw [Nat.add_sub_cancel_left]]; rfl, rfl⟩

theorem number_any (a : Option Addr) (n cap : Nat) (zs : List Int) (B : Nat) (w : World) (h4 : n ≤ 4) (hrow : RowK .u8 w B a n zs) (hz : AreBytes zs) :
    Calls Try.prog 26 #[.slice a n cap] w fun e w' => e = .returned (.int .u32 (num zs)) ∧ w = w' := by
  have HR := Lib.hid hrow
  have HZ := Lib.hid hz
  clear hrow hz
  go_enter Try.func26, Try.ntmps26
  go_wp2
  go_loop [3, 7] (fun v i => ∃ k : Nat, k ≤ n ∧ i = .int .i64 k ∧ v = .int .u32 (num (zs.take k))) (fun _ i => n - (intOf i).toNat)
  case atStart => exact ⟨0, Nat.zero_le _, rfl, rfl⟩
  case round =>
    obtain ⟨k, hk, rfl, rfl⟩ := hrel
    by_cases hlt : k < n
    · obtain ⟨x, rfl, _, hx⟩ := HR.out.2 k hlt
      have HS := Lib.hid (or_step zs HZ.out k (by rw [HR.out.1]; exact hlt) (by omega))
      obtain ⟨s, hs⟩ : ∃ s, zs.getD k 0 = s := ⟨_, rfl⟩
      rw [hs] at hx HS
      clear hs
      go_wp2
      go_round
      case rel => exact ⟨k + 1, by omega, by go_num, congrArg _ HS.out⟩
      case measure => simp [intOf]; omega
    · go_wp2
      go_ret
      exact ⟨by rw [show zs.take k = zs from List.take_of_length_le (by rw [HR.out.1]; omega)]; rfl, rfl⟩

/-- the world behind k bytes of v laid into block g from o on -/
def laid (w : World) (g o : Nat) (v : Int) : Nat → World
  | 0 => w
  | k + 1 => (laid w g o v k).setCell ⟨g, o + k, none⟩ (.int .u8 (byteN v k))

theorem laid_is {w : World} {g n : Nat} {t : TypeId} {f : Nat → Value} (h : w.rowIs g t n f) (o : Nat) (v : Int) : ∀ k, (laid w g o v k).rowIs g t n (fun j => if o ≤ j ∧ j < o + k then .int .u8 (byteN v (j - o)) else f j)
  | 0 => h.congr fun j _ => by rw [if_neg (by omega)]
  | k + 1 => by
    refine ((laid_is h o v k).set (o + k) (.int .u8 (byteN v k))).congr fun j _ => ?_
    by_cases e : j = o + k
    · subst e
      rw [if_pos rfl, if_pos (by omega), Nat.add_sub_cancel_left]
    · rw [if_neg e]
      by_cases e2 : o ≤ j ∧ j < o + k
      · rw [if_pos e2, if_pos (by omega)]
      · rw [if_neg e2, if_neg (by omega)]
theorem laid_below {w w0 : World} {B g : Nat} (h : Below B w0 w) (hB : B ≤ g) (o : Nat) (v : Int) : ∀ k, Below B w0 (laid w g o v k)
  | 0 => h
  | k + 1 => (laid_below h hB o v k).setCell hB _

theorem lay_any (g o n cap N : Nat) (v : Int) (t : TypeId) (f : Nat → Value) (w : World) (h4 : n ≤ 4) (hv0 : 0 ≤ v) (hv1 : v < 4294967296) (hrow : w.rowIs g t N f) (hN : o + n ≤ N) :
    Calls Try.prog 29 #[.slice (some ⟨g, o, none⟩) n cap, .int .u32 v] w fun e w' => e = .returned (.tuple #[]) ∧ w' = laid w g o v n := by
  have HR := Lib.hid hrow
  clear hrow
  go_enter Try.func29, Try.ntmps29
  go_wp2
  go_loopw [7] (fun i wr => ∃ k : Nat, k ≤ n ∧ i = .int .i64 k ∧ wr = laid w g o v k) (fun i _ => n - (intOf i).toNat)
  case atStart => exact ⟨0, Nat.zero_le _, rfl, rfl⟩
  case round =>
    obtain ⟨k, hk, rfl, hwr⟩ := hrel
    have HW := Lib.hid hwr
    have hL := laid_is HR.out o v k
    rw [← hwr] at hL
    clear hwr
    by_cases hlt : k < n
    · have hc := hL.cell (i := o + k) (by omega)
      have hf := hL.frozen (o + k)
      clear hL
      go_wp2
      go_roundw
      case rel => exact ⟨k + 1, by omega, by go_num, by rw [HW.out]; rfl⟩
      case measure => simp [intOf]; omega
    · clear hL
      obtain rfl : n = k := by omega
      go_wp2
      go_end0
      exact ⟨rfl, HW.out⟩
end Go.Proofs.Ytkkolbdapoejkaa.Oc
