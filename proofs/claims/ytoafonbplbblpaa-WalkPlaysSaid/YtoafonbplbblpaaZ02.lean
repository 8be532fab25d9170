/- Several texts in one: Oa Ob -/
import Derived.Test.YtoafonbplbblpaaZ01
import Derived.Laws.CopyOwn
section
/- The walks of package octet's small functions (isWidth, holds, cut, number, lay): what each returns, for every argument. -/
namespace Go.Proofs.Ytoafonbplbblpaa.Oc
open Go.RowKit Ut
set_option linter.unusedVariables false

/-- the widths that there are -/
def isW (m : Int) : Bool := decide (m = 1) || decide (m = 2) || decide (m = 4)

theorem isWidth_any (m : Int) (w : World) :
    Calls Try.prog 80 #[.int .i64 m] w fun e w' => e = .returned (.bool (isW m)) ∧ w = w' := by
  by_cases h1 : m = 1
  · subst h1
    go_enter Try.func80, Try.ntmps80
    go_wp2
    go_ret
    exact ⟨rfl, rfl⟩
  · by_cases h2 : m = 2
    · subst h2
      go_enter Try.func80, Try.ntmps80
      go_wp2
      go_ret
      exact ⟨rfl, rfl⟩
    · have b1 : (m == 1) = false := by simpa using h1
      have b2 : (m == 2) = false := by simpa using h2
      go_enter Try.func80, Try.ntmps80
      go_wp2
      go_ret
      refine ⟨congrArg (fun b => Ending.returned (.bool b)) ?_, rfl⟩
      unfold isW
      simp [h1, h2]
      first | rfl | (rw [Bool.eq_iff_iff]; simp)

/-- can a number of m bytes stand at i in n bytes -/
def hold (n : Nat) (i m : Int) : Bool := isW m && decide (0 ≤ i) && decide (i ≤ n - m)

theorem isW_le {m : Int} (h : isW m = true) : 1 ≤ m ∧ m ≤ 4 := by
  unfold isW at h
  simp at h
  omega

theorem holds_any (a : Option Addr) (n cap : Nat) (i m : Int) (w : World) (hn : n ≤ 9223372036854775807) :
    Calls Try.prog 72 #[.slice a n cap, .int .i64 i, .int .i64 m] w fun e w' => e = .returned (.bool (hold n i m)) ∧ w = w' := by
  cases hw : isW m
  · have HW := Lib.hid hw
    go_enter Try.func72, Try.ntmps72
    go_wp2_with (go_at_call 80; refine (isWidth_any _ _).mono ?_; rintro e w' ⟨rfl, rfl⟩)
    go_ret
    exact ⟨congrArg (fun b => Ending.returned (.bool b)) (by unfold hold; rw [HW.out]; rfl), rfl⟩
  · have HW := Lib.hid hw
    obtain ⟨hm1, hm4⟩ := isW_le hw
    by_cases h0 : 0 ≤ i
    · go_enter Try.func72, Try.ntmps72
      go_wp2_with (go_at_call 80; refine (isWidth_any _ _).mono ?_; rintro e w' ⟨rfl, rfl⟩)
      go_ret
      refine ⟨congrArg (fun b => Ending.returned (.bool b)) ?_, rfl⟩
      unfold hold; rw [HW.out]; simp [h0]
    · go_enter Try.func72, Try.ntmps72
      go_wp2_with (go_at_call 80; refine (isWidth_any _ _).mono ?_; rintro e w' ⟨rfl, rfl⟩)
      go_ret
      refine ⟨congrArg (fun b => Ending.returned (.bool b)) ?_, rfl⟩
      unfold hold; rw [HW.out]; simp; omega

theorem cut_any (x : Addr) (n cap i m : Nat) (w : World) (hm : 0 < m) (hi : i + m ≤ n) (hn : n ≤ cap) (hc : cap ≤ 9223372036854775807) :
    Calls Try.prog 74 #[.slice (some x) n cap, .int .i64 i, .int .i64 m] w fun e w' => e = .returned (.slice (some (x.add i)) m m) ∧ w = w' := by
  have h1 : (0 : Int) ≤ (i : Int) := by omega
  have h2 : (i : Int) ≤ (i : Int) + (m : Int) := by omega
  have h3 : (i : Int) + (m : Int) ≤ (cap : Int) := by omega
  have h4 : ¬ cap = i := by omega
  have h5 : ¬ i + m - i = 0 := by omega
  go_enter Try.func74, Try.ntmps74
  go_wp2
  go_ret
  exact ⟨by rw [show Ending.returned (.slice (some (x.add i)) m m) = .returned (.slice (some (x.add i)) (i + m - i) (i + m - i)) from by rw [Nat.add_sub_cancel_left]]; rfl, rfl⟩

theorem number_any (a : Option Addr) (n cap : Nat) (zs : List Int) (B : Nat) (w : World) (h4 : n ≤ 4) (hrow : RowK .u8 w B a n zs) (hz : AreBytes zs) :
    Calls Try.prog 73 #[.slice a n cap] w fun e w' => e = .returned (.int .u32 (num zs)) ∧ w = w' := by
  have HR := Lib.hid hrow
  have HZ := Lib.hid hz
  clear hrow hz
  go_enter Try.func73, Try.ntmps73
  go_wp2
  go_loop [3, 7] (fun v i => ∃ k : Nat, k ≤ n ∧ i = .int .i64 k ∧ v = .int .u32 (num (zs.take k))) (fun _ i => n - (intOf i).toNat)
  case atStart => exact ⟨0, Nat.zero_le _, rfl, rfl⟩
  case round =>
    obtain ⟨k, hk, rfl, rfl⟩ := hrel
    by_cases hlt : k < n
    · obtain ⟨x, rfl, _, hx⟩ := HR.out.2 k hlt
      have HS := Lib.hid (or_step zs HZ.out k (by rw [HR.out.1]; exact hlt) (by omega))
      obtain ⟨s, hs⟩ : ∃ s, zs.getD k 0 = s := ⟨_, rfl⟩
      rw [hs] at hx HS
      clear hs
      go_wp2
      go_round
      case rel => exact ⟨k + 1, by omega, by go_num, congrArg _ HS.out⟩
      case measure => simp [intOf]; omega
    · go_wp2
      go_ret
      exact ⟨by rw [show zs.take k = zs from List.take_of_length_le (by rw [HR.out.1]; omega)]; rfl, rfl⟩

/-- the world behind k bytes of v laid into block g from o on -/
def laid (w : World) (g o : Nat) (v : Int) : Nat → World
  | 0 => w
  | k + 1 => (laid w g o v k).setCell ⟨g, o + k, none⟩ (.int .u8 (byteN v k))

theorem laid_is {w : World} {g n : Nat} {t : TypeId} {f : Nat → Value} (h : w.rowIs g t n f) (o : Nat) (v : Int) : ∀ k, (laid w g o v k).rowIs g t n (fun j => if o ≤ j ∧ j < o + k then .int .u8 (byteN v (j - o)) else f j)
  | 0 => h.congr fun j _ => by rw [if_neg (by omega)]
  | k + 1 => by
    refine ((laid_is h o v k).set (o + k) (.int .u8 (byteN v k))).congr fun j _ => ?_
    by_cases e : j = o + k
    · subst e
      rw [if_pos rfl, if_pos (by omega), Nat.add_sub_cancel_left]
    · rw [if_neg e]
      by_cases e2 : o ≤ j ∧ j < o + k
      · rw [if_pos e2, if_pos (by omega)]
      · rw [if_neg e2, if_neg (by omega)]
theorem laid_below {w w0 : World} {B g : Nat} (h : Below B w0 w) (hB : B ≤ g) (o : Nat) (v : Int) : ∀ k, Below B w0 (laid w g o v k)
  | 0 => h
  | k + 1 => (laid_below h hB o v k).setCell hB _

theorem lay_any (g o n cap N : Nat) (v : Int) (t : TypeId) (f : Nat → Value) (w : World) (h4 : n ≤ 4) (hv0 : 0 ≤ v) (hv1 : v < 4294967296) (hrow : w.rowIs g t N f) (hN : o + n ≤ N) :
    Calls Try.prog 78 #[.slice (some ⟨g, o, none⟩) n cap, .int .u32 v] w fun e w' => e = .returned (.tuple #[]) ∧ w' = laid w g o v n := by
  have HR := Lib.hid hrow
  clear hrow
  go_enter Try.func78, Try.ntmps78
  go_wp2
  go_loopw [7] (fun i wr => ∃ k : Nat, k ≤ n ∧ i = .int .i64 k ∧ wr = laid w g o v k) (fun i _ => n - (intOf i).toNat)
  case atStart => exact ⟨0, Nat.zero_le _, rfl, rfl⟩
  case round =>
    obtain ⟨k, hk, rfl, hwr⟩ := hrel
    have HW := Lib.hid hwr
    have hL := laid_is HR.out o v k
    rw [← hwr] at hL
    clear hwr
    by_cases hlt : k < n
    · have hc := hL.cell (i := o + k) (by omega)
      have hf := hL.frozen (o + k)
      clear hL
      go_wp2
      go_roundw
      case rel => exact ⟨k + 1, by omega, by go_num, by rw [HW.out]; rfl⟩
      case measure => simp [intOf]; omega
    · clear hL
      obtain rfl : n = k := by omega
      go_wp2
      go_end0
      exact ⟨rfl, HW.out⟩
end Go.Proofs.Ytoafonbplbblpaa.Oc
end
section
/- The walks of package octet's Get, Put and Sign: what each returns, for every argument. -/
namespace Go.Proofs.Ytoafonbplbblpaa.Oc
open Go.RowKit Ut
set_option maxRecDepth 100000
set_option linter.unusedVariables false

theorem info_byte : (Try.prog.info? 5).map (fun i => (i.zero, i.size, i.bytes)) = some (some (.int .u8 0), 1, 1) := by kernel_rfl
theorem size_byte : (Try.prog.info? 5).map (·.size) = some 1 := by kernel_rfl

theorem hold_nat {n i m : Nat} (hm : isW m = true) (hi : i + m ≤ n) : hold n i m = true := by
  unfold hold; rw [hm]; simp; omega
theorem hold_yes {n : Nat} {i m : Int} (h : hold n i m = true) : ∃ j k : Nat, i = j ∧ m = k ∧ isW (k : Int) = true ∧ j + k ≤ n ∧ 0 < k ∧ k ≤ 4 := by
  unfold hold at h
  simp at h
  obtain ⟨⟨h1, h2⟩, h3⟩ := h
  obtain ⟨m1, m4⟩ := isW_le h1
  obtain ⟨j, rfl⟩ := Int.eq_ofNat_of_zero_le h2
  obtain ⟨k, rfl⟩ := Int.eq_ofNat_of_zero_le (show 0 ≤ m by omega)
  exact ⟨j, k, rfl, rfl, h1, by omega, by omega, by omega⟩

theorem get_no (a : Option Addr) (n cap : Nat) (i m : Int) (w : World) (hn : n ≤ 9223372036854775807) (h : hold n i m = false) :
    Calls Try.prog 59 #[.slice a n cap, .int .i64 i, .int .i64 m] w fun e w' => e = .returned (.tuple #[.int .u32 0, .int .i64 1]) ∧ w = w' := by
  go_enter Try.func59, Try.ntmps59
  go_wp2_with (go_at_call 72; refine (holds_any _ _ _ _ _ _ hn).mono ?_; rintro e w' ⟨rfl, rfl⟩)
  go_ret2
  exact ⟨rfl, rfl⟩

theorem get_yes (a : Option Addr) (n cap i m B : Nat) (zs : List Int) (w : World) (hnc : n ≤ cap) (hc : cap ≤ 9223372036854775807) (hrow : RowK .u8 w B a n zs) (hz : AreBytes zs) (hm : isW m = true) (hi : i + m ≤ n) :
    Calls Try.prog 59 #[.slice a n cap, .int .i64 i, .int .i64 m] w fun e w' => e = .returned (.tuple #[.int .u32 (num ((zs.drop i).take m)), .int .i64 0]) ∧ w = w' := by
  have hh := hold_nat hm hi
  obtain ⟨m1, m4⟩ := isW_le hm
  obtain ⟨x, rfl, _⟩ := hrow.2 0 (by omega)
  have HP := Lib.hid (hrow.part i m hi)
  have HZ := Lib.hid ((hz.drop i).take m)
  clear hrow hz
  have hn : n ≤ 9223372036854775807 := by omega
  go_enter Try.func59, Try.ntmps59
  go_wp2_with (first | (go_at_call 72; refine (holds_any _ _ _ _ _ _ hn).mono ?_; rintro e w' ⟨rfl, rfl⟩) | (go_at_call 74; refine (cut_any x n cap i m _ (by omega) hi hnc hc).mono ?_; rintro e w' ⟨rfl, rfl⟩) | (go_at_call 73; refine (number_any _ _ _ _ _ _ (by omega) HP.out HZ.out).mono ?_; rintro e w' ⟨rfl, rfl⟩))
  go_ret2
  exact ⟨rfl, rfl⟩

theorem put_no (a : Option Addr) (n cap : Nat) (i m v : Int) (w : World) (hn : n ≤ 9223372036854775807) (h : hold n i m = false) :
    Calls Try.prog 67 #[.slice a n cap, .int .i64 i, .int .i64 m, .int .u32 v] w fun e w' => e = .returned (.tuple #[.slice none 0 0, .int .i64 1]) ∧ w = w' := by
  go_enter Try.func67, Try.ntmps67
  go_wp2_with (go_at_call 72; refine (holds_any _ _ _ _ _ _ hn).mono ?_; rintro e w' ⟨rfl, rfl⟩)
  go_ret2
  exact ⟨rfl, rfl⟩

theorem cut_own (g n cap i m : Nat) (w : World) (hm : 0 < m) (hi : i + m ≤ n) (hn : n ≤ cap) (hc : cap ≤ 9223372036854775807) :
    Calls Try.prog 74 #[.slice (some ⟨g, 0, none⟩) n cap, .int .i64 i, .int .i64 m] w fun e w' => e = .returned (.slice (some ⟨g, i, none⟩) m m) ∧ w = w' := by
  have := cut_any ⟨g, 0, none⟩ n cap i m w hm hi hn hc
  rwa [add_plain] at this

theorem put_yes (a : Option Addr) (n cap i m : Nat) (v : Int) (zs : List Int) (w : World) (hn : n ≤ 140737488355328) (hrow : RowK .u8 w w.heap.size a n zs) (hm : isW m = true) (hi : i + m ≤ n) (hv0 : 0 ≤ v) (hv1 : v < 4294967296) :
    Calls Try.prog 67 #[.slice a n cap, .int .i64 i, .int .i64 m, .int .u32 v] w fun e w' =>
      e = .returned (.tuple #[.slice (some ⟨w.heap.size, 0, none⟩) n n, .int .i64 0]) ∧ RowK .u8 w' w'.heap.size (some ⟨w.heap.size, 0, none⟩) n (putZ zs i m v) ∧ Below w.heap.size w w' := by
  have hh := hold_nat hm hi
  obtain ⟨m1, m4⟩ := isW_le hm
  have HR := Lib.hid hrow
  clear hrow
  have hmk := fun W => run_make_row' (P := Try.prog) 122 5 (.int .u8 0) 1 Try.underlying122 info_byte rfl .i64 .i64 n (by omega) (by omega) W
  have hn' : n ≤ 9223372036854775807 := by omega
  have HG := Lib.hid (made_heap w (.int .u8 0) n 5)
  have HA : Below w.heap.size w (w.alloc (.cells (madeCells #[.int .u8 0] n) 5)) := (Below.refl _ _).alloc (Nat.le_refl _) _
  have HL : n ≤ (List.replicate n (Value.int .u8 0)).length := by simp
  go_enter Try.func67, Try.ntmps67
  go_wp2_with (first | (go_at_call 72; refine (holds_any _ _ _ _ _ _ hn').mono ?_; rintro e w' ⟨rfl, rfl⟩) | (refine wpList_copy_head (o := ⟨some 21, _, _, _, _, _⟩) rfl (.tmp 19) (.tmp 20) 122 122 rfl 5 Try.underlying122 size_byte w.heap.size n n n cap _ _ _ zs rfl rfl _ 5 HG.out (HR.out.below HA) (Nat.le_refl _) HL w.heap.size w HA (Nat.le_refl _) ?_; intro w2 HG2 hb2))
  have hI : w2.rowIs w.heap.size 5 n (fun i => .int .u8 (zs.getD i 0)) := by
    have h := HG2.out
    rw [List.drop_of_length_le (by simp), List.append_nil] at h
    have := is_of_list h
    rwa [HR.out.1] at this
  clear HG2 HG
  have HI := Lib.hid hI
  have HS := Lib.hid (laid_is hI i v m)
  have HB := laid_below hb2 (Nat.le_refl _) i v m
  have HZ : RowK .u8 (laid w2 w.heap.size i v m) (laid w2 w.heap.size i v m).heap.size (some ⟨w.heap.size, 0, none⟩) n (putZ zs i m v) :=
    RowK.of_is HS.out _ (by rw [length_putZ _ _ _ _ (by rw [HR.out.1]; exact hi), HR.out.1]) fun j _ => by
      rw [getD_putZ _ _ _ _ (by rw [HR.out.1]; exact hi)]
      by_cases e : i ≤ j ∧ j < i + m
      · rw [if_pos e, if_pos e]
      · rw [if_neg e, if_neg e]
  have HZ' := Lib.hid HZ
  clear HZ hI HS
  refine (cut_own _ n n i m _ (by omega) hi (Nat.le_refl _) hn').mono ?_
  rintro e w3 ⟨rfl, rfl⟩
  go_wp2_with fail
  refine (lay_any _ i m m n v _ _ _ (by omega) hv0 hv1 HI.out hi).mono ?_
  rintro e w3 ⟨rfl, rfl⟩
  go_wp2
  go_ret2
  exact ⟨rfl, HZ'.out, HB⟩
end Go.Proofs.Ytoafonbplbblpaa.Oc
end
