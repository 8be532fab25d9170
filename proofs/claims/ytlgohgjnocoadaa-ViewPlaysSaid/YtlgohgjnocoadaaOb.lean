/- The walks of package octet's Get, Put and Sign: what each returns, for every argument. -/
import Derived.Test.YtlgohgjnocoadaaOa
import Derived.Laws.CopyOwn
namespace Go.Proofs.Ytlgohgjnocoadaa.Oc
open Go.RowKit Ut
set_option maxRecDepth 100000
set_option linter.unusedVariables false

theorem info_byte : (Try.prog.info? 5).map (fun i => (i.zero, i.size, i.bytes)) = some (some (.int .u8 0), 1, 1) := by kernel_rfl
theorem size_byte : (Try.prog.info? 5).map (·.size) = some 1 := by kernel_rfl

theorem hold_nat {n i m : Nat} (hm : isW m = true) (hi : i + m ≤ n) : hold n i m = true := by
  unfold hold; rw [hm]; simp; omega
theorem hold_yes {n : Nat} {i m : Int} (h : hold n i m = true) : ∃ j k : Nat, i = j ∧ m = k ∧ isW (k : Int) = true ∧ j + k ≤ n ∧ 0 < k ∧ k ≤ 4 := by
  unfold hold at h
  simp at h
  obtain ⟨⟨h1, h2⟩, h3⟩ := h
  obtain ⟨m1, m4⟩ := isW_le h1
  obtain ⟨j, rfl⟩ := Int.eq_ofNat_of_zero_le h2
  obtain ⟨k, rfl⟩ := Int.eq_ofNat_of_zero_le (show 0 ≤ m by omega)
  exact ⟨j, k, rfl, rfl, h1, by omega, by omega, by omega⟩

theorem get_no (a : Option Addr) (n cap : Nat) (i m : Int) (w : World) (hn : n ≤ 9223372036854775807) (h : hold n i m = false) :
    Calls Try.prog 50 #[.slice a n cap, .int .i64 i, .int .i64 m] w fun e w' => e = .returned (.tuple #[.int .u32 0, .int .i64 1]) ∧ w = w' := by
  go_enter Try.func50, Try.ntmps50
  go_wp2_with (go_at_call 62; refine (holds_any _ _ _ _ _ _ hn).mono ?_; rintro e w' ⟨rfl, rfl⟩)
  go_ret2
  exact ⟨rfl, rfl⟩

theorem get_yes (a : Option Addr) (n cap i m B : Nat) (zs : List Int) (w : World) (hnc : n ≤ cap) (hc : cap ≤ 9223372036854775807) (hrow : RowK .u8 w B a n zs) (hz : AreBytes zs) (hm : isW m = true) (hi : i + m ≤ n) :
    Calls Try.prog 50 #[.slice a n cap, .int .i64 i, .int .i64 m] w fun e w' => e = .returned (.tuple #[.int .u32 (num ((zs.drop i).take m)), .int .i64 0]) ∧ w = w' := by
  have hh := hold_nat hm hi
  obtain ⟨m1, m4⟩ := isW_le hm
  obtain ⟨x, rfl, _⟩ := hrow.2 0 (by omega)
  have HP := Lib.hid (hrow.part i m hi)
  have HZ := Lib.hid ((hz.drop i).take m)
  clear hrow hz
  have hn : n ≤ 9223372036854775807 := by omega
  go_enter Try.func50, Try.ntmps50
  go_wp2_with (first | (go_at_call 62; refine (holds_any _ _ _ _ _ _ hn).mono ?_; rintro e w' ⟨rfl, rfl⟩) | (go_at_call 64; refine (cut_any x n cap i m _ (by omega) hi hnc hc).mono ?_; rintro e w' ⟨rfl, rfl⟩) | (go_at_call 63; refine (number_any _ _ _ _ _ _ (by omega) HP.out HZ.out).mono ?_; rintro e w' ⟨rfl, rfl⟩))
  go_ret2
  exact ⟨rfl, rfl⟩

theorem put_no (a : Option Addr) (n cap : Nat) (i m v : Int) (w : World) (hn : n ≤ 9223372036854775807) (h : hold n i m = false) :
    Calls Try.prog 57 #[.slice a n cap, .int .i64 i, .int .i64 m, .int .u32 v] w fun e w' => e = .returned (.tuple #[.slice none 0 0, .int .i64 1]) ∧ w = w' := by
  go_enter Try.func57, Try.ntmps57
  go_wp2_with (go_at_call 62; refine (holds_any _ _ _ _ _ _ hn).mono ?_; rintro e w' ⟨rfl, rfl⟩)
  go_ret2
  exact ⟨rfl, rfl⟩

theorem cut_own (g n cap i m : Nat) (w : World) (hm : 0 < m) (hi : i + m ≤ n) (hn : n ≤ cap) (hc : cap ≤ 9223372036854775807) :
    Calls Try.prog 64 #[.slice (some ⟨g, 0, none⟩) n cap, .int .i64 i, .int .i64 m] w fun e w' => e = .returned (.slice (some ⟨g, i, none⟩) m m) ∧ w = w' := by
  have := cut_any ⟨g, 0, none⟩ n cap i m w hm hi hn hc
  rwa [add_plain] at this

theorem put_yes (a : Option Addr) (n cap i m : Nat) (v : Int) (zs : List Int) (w : World) (hn : n ≤ 140737488355328) (hrow : RowK .u8 w w.heap.size a n zs) (hm : isW m = true) (hi : i + m ≤ n) (hv0 : 0 ≤ v) (hv1 : v < 4294967296) :
    Calls Try.prog 57 #[.slice a n cap, .int .i64 i, .int .i64 m, .int .u32 v] w fun e w' =>
      e = .returned (.tuple #[.slice (some ⟨w.heap.size, 0, none⟩) n n, .int .i64 0]) ∧ RowK .u8 w' w'.heap.size (some ⟨w.heap.size, 0, none⟩) n (putZ zs i m v) ∧ Below w.heap.size w w' := by
  have hh := hold_nat hm hi
  obtain ⟨m1, m4⟩ := isW_le hm
  have HR := Lib.hid hrow
  clear hrow
  have hmk := fun W => run_make_row' (P := Try.prog) 30 5 (.int .u8 0) 1 Try.underlying30 info_byte rfl .i64 .i64 n (by omega) (by omega) W
  have hn' : n ≤ 9223372036854775807 := by omega
  have HG := Lib.hid (made_heap w (.int .u8 0) n 5)
  have HA : Below w.heap.size w (w.alloc (.cells (madeCells #[.int .u8 0] n) 5)) := (Below.refl _ _).alloc (Nat.le_refl _) _
  have HL : n ≤ (List.replicate n (Value.int .u8 0)).length := by simp
  go_enter Try.func57, Try.ntmps57
  go_wp2_with (first | (go_at_call 62; refine (holds_any _ _ _ _ _ _ hn').mono ?_; rintro e w' ⟨rfl, rfl⟩) | (refine wpList_copy_head (o := ⟨some 21, _, _, _, _, _⟩) rfl (.tmp 19) (.tmp 20) 30 30 rfl 5 Try.underlying30 size_byte w.heap.size n n n cap _ _ _ zs rfl rfl _ 5 HG.out (HR.out.below HA) (Nat.le_refl _) HL w.heap.size w HA (Nat.le_refl _) ?_; intro w2 HG2 hb2))
  have hI : w2.rowIs w.heap.size 5 n (fun i => .int .u8 (zs.getD i 0)) := by
    have h := HG2.out
    rw [List.drop_of_length_le (by simp), List.append_nil] at h
    have := is_of_list h
    rwa [HR.out.1] at this
  clear HG2 HG
  have HI := Lib.hid hI
  have HS := Lib.hid (laid_is hI i v m)
  have HB := laid_below hb2 (Nat.le_refl _) i v m
  have HZ : RowK .u8 (laid w2 w.heap.size i v m) (laid w2 w.heap.size i v m).heap.size (some ⟨w.heap.size, 0, none⟩) n (putZ zs i m v) :=
    RowK.of_is HS.out _ (by rw [length_putZ _ _ _ _ (by rw [HR.out.1]; exact hi), HR.out.1]) fun j _ => by
      rw [getD_putZ _ _ _ _ (by rw [HR.out.1]; exact hi)]
      by_cases e : i ≤ j ∧ j < i + m
      · rw [if_pos e, if_pos e]
      · rw [if_neg e, if_neg e]
  have HZ' := Lib.hid HZ
  clear HZ hI HS
  refine (cut_own _ n n i m _ (by omega) hi (Nat.le_refl _) hn').mono ?_
  rintro e w3 ⟨rfl, rfl⟩
  go_wp2_with fail
  refine (lay_any _ i m m n v _ _ _ (by omega) hv0 hv1 HI.out hi).mono ?_
  rintro e w3 ⟨rfl, rfl⟩
  go_wp2
  go_ret2
  exact ⟨rfl, HZ'.out, HB⟩
end Go.Proofs.Ytlgohgjnocoadaa.Oc
