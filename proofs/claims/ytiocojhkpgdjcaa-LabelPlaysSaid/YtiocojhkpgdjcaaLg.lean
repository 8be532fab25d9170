/- The walk of label.Count and of math/bits.OnesCount, for labels; the walk of hermitagelaw01.LabelLeast. -/
import Derived.Test.YtiocojhkpgdjcaaLe
namespace Go.Proofs.Ytiocojhkpgdjcaa.La
open Go.RowKit Ut

/-- what OnesCount64 reckons, step by step -/
def o1 (x : Int) : Int := IntKind.u64.wrap (bits .and .u64 (x / 2) 6148914691236517205 + bits .and .u64 x 6148914691236517205)
def o2 (x : Int) : Int := IntKind.u64.wrap (bits .and .u64 (x / 4) 3689348814741910323 + bits .and .u64 x 3689348814741910323)
def o3 (x : Int) : Int := bits .and .u64 (IntKind.u64.wrap (x / 16 + x)) 1085102592571150095
def o4 (x : Int) : Int := IntKind.u64.wrap (x + x / 256)
def o5 (x : Int) : Int := IntKind.u64.wrap (x + x / 65536)
def o6 (x : Int) : Int := IntKind.u64.wrap (x + x / 4294967296)
def ones (x : Int) : Int := bits .and .i64 (wrap64 (o6 (o5 (o4 (o3 (o2 (o1 x))))))) 127

theorem ones_all : (List.range 256).all (fun n => ones (n : Int) == (pop n : Int)) = true := by decide +kernel
theorem ones_pop (n : Nat) (h : n < 256) : ones n = pop n := by
  have := List.all_eq_true.1 ones_all n (List.mem_range.2 h)
  simpa using this

theorem ones64_any (n : Nat) (h : n < 256) (w : World) :
    Calls Try.prog 38 #[.int .u64 n] w fun e w' => e = .returned (.int .i64 (pop n)) ∧ w = w' := by
  rw [← ones_pop n h]
  obtain ⟨x, hx⟩ : ∃ x : Int, x = n := ⟨_, rfl⟩
  rw [← hx]
  have h0 : 0 ≤ x := by omega
  have h1 : x < 256 := by omega
  clear hx
  go_enter Try.func38, Try.ntmps38
  go_wp2
  go_ret
  exact ⟨rfl, rfl⟩

theorem ones_any (n : Nat) (h : n < 256) (w : World) :
    Calls Try.prog 34 #[.int .u64 n] w fun e w' => e = .returned (.int .i64 (pop n)) ∧ w = w' := by
  go_enter Try.func34, Try.ntmps34
  go_wp2_with (go_at_call 38; refine (ones64_any n h _).mono ?_; rintro e w' ⟨rfl, rfl⟩)
  go_ret
  exact ⟨rfl, rfl⟩

theorem count_good (n : Nat) (h : n < 256) (w : World) :
    Calls Try.prog 14 #[.int .i64 n] w fun e w' => e = .returned (.int .i64 (pop n)) ∧ w = w' := by
  have hl := isL_nat n h
  go_enter Try.func14, Try.ntmps14
  go_wp2_with (first | (go_at_call 32; refine (isLabel_any _ _).mono ?_; rintro e w' ⟨rfl, rfl⟩) | (go_at_call 34; refine (ones_any n h _).mono ?_; rintro e w' ⟨rfl, rfl⟩))
  go_ret
  exact ⟨rfl, rfl⟩

theorem count_bad (l : Int) (h : isL l = false) (w : World) :
    Calls Try.prog 14 #[.int .i64 l] w fun e w' => e = .returned (.int .i64 (-1)) ∧ w = w' := by
  go_enter Try.func14, Try.ntmps14
  go_wp2_with (first | (go_at_call 32; refine (isLabel_any _ _).mono ?_; rintro e w' ⟨rfl, rfl⟩))
  go_ret
  exact ⟨rfl, rfl⟩

theorem two_cells (x y : Int) (w : World) : ∀ i, i < 2 → ∃ q, (some ⟨w.heap.size, 0, none⟩ : Option Addr) = some q ∧ (w.alloc (.cells #[.int .i64 x, .int .i64 y] 3)).cell? (q.add i) = some (.int .i64 ([x, y].getD i 0)) := by
  intro i hi
  rcases (show i = 0 ∨ i = 1 by omega) with rfl | rfl
  · exact ⟨_, rfl, by simp [go_sem]⟩
  · exact ⟨_, rfl, by simp [go_sem]⟩

theorem join2_keep (x y j : Nat) (hx : x < 256) (hy : y < 256) (hj : x ||| y = j) {B : Nat} {w0 w : World} (hB : B ≤ w0.heap.size) (hb : Below B w0 w) :
    Calls Try.prog 16 #[.slice (some ⟨w.heap.size, 0, none⟩) 2 2] (w.alloc (.cells #[.int .i64 x, .int .i64 y] 3)) fun e w' => e = .returned (.int .i64 j) ∧ Below B w0 w' := by
  refine (join_raw _ 2 2 [(x : Int), (y : Int)] _ rfl (by omega) (two_cells x y w)).mono fun e w' ⟨he, hw⟩ => ⟨he.trans ?_, hw ▸ hb.alloc (Nat.le_trans hB hb.size) _⟩
  have e := joinZ_two x y hx hy
  unfold joinZ at e
  rw [e, hj]
theorem meet2_keep (x y j : Nat) (hx : x < 256) (hy : y < 256) (hj : x &&& y = j) {B : Nat} {w0 w : World} (hB : B ≤ w0.heap.size) (hb : Below B w0 w) :
    Calls Try.prog 18 #[.slice (some ⟨w.heap.size, 0, none⟩) 2 2] (w.alloc (.cells #[.int .i64 x, .int .i64 y] 3)) fun e w' => e = .returned (.int .i64 j) ∧ Below B w0 w' := by
  refine (meet_raw _ 2 2 [(x : Int), (y : Int)] _ rfl (by omega) (two_cells x y w)).mono fun e w' ⟨he, hw⟩ => ⟨he.trans ?_, hw ▸ hb.alloc (Nat.le_trans hB hb.size) _⟩
  have e := meetZ_two x y hx hy
  unfold meetZ at e
  rw [e, hj]
theorem minus2_keep (x y d : Nat) (hx : x < 256) (hy : y < 256) (hd : andN x y = d) {B : Nat} {w0 w : World} (hB : B ≤ w0.heap.size) (hb : Below B w0 w) :
    Calls Try.prog 12 #[.int .i64 x, .int .i64 y] w fun e w' => e = .returned (.int .i64 d) ∧ Below B w0 w' := by
  refine (minus_keep x y hB hb).mono fun e w' ⟨he, hw⟩ => ⟨he.trans ?_, hw⟩
  rw [minusZ_nat x y hx hy, hd]
theorem count_keep (x c : Nat) (hx : x < 256) (hc : pop x = c) {B : Nat} {w0 w : World} (hb : Below B w0 w) :
    Calls Try.prog 14 #[.int .i64 x] w fun e w' => e = .returned (.int .i64 c) ∧ Below B w0 w' := by
  refine (count_good x hx w).mono fun e w' ⟨he, hw⟩ => ⟨he.trans ?_, hw ▸ hb⟩
  rw [hc]
end Go.Proofs.Ytiocojhkpgdjcaa.La
