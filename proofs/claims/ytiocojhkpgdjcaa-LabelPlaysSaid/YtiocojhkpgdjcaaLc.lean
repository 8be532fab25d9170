/- The walk of label.Text: the letters of a label, for every number. -/
import Derived.Test.YtiocojhkpgdjcaaLb
import Derived.Test.YtiocojhkpgdjcaaUt
namespace Go.Proofs.Ytiocojhkpgdjcaa.La
open Go.RowKit Ut

theorem info_u8 : (Try.prog.info? 5).map (fun i => (i.zero, i.size, i.bytes)) = some (some (.int .u8 0), 1, 1) := by kernel_rfl

/-- the letters of the first k categories of l -/
def lets (l : Int) : Nat → List Int
  | 0 => []
  | k + 1 => if (bits .and .i64 (l / 2 ^ k) 1 == 1) then lets l k ++ [97 + (k : Int)] else lets l k

theorem text_bad (l : Int) (h : isL l = false) (w : World) :
    Calls Try.prog 24 #[.int .i64 l] w fun e w' => e = .returned (.tuple #[.string ByteArray.empty, .int .i64 1]) ∧ w = w' := by
  go_enter Try.func24, Try.ntmps24
  go_wp2_with (go_at_call 32; refine (isLabel_any _ _).mono ?_; rintro e w' ⟨rfl, rfl⟩)
  go_ret2
  exact ⟨rfl, rfl⟩
theorem text_zero (w : World) :
    Calls Try.prog 24 #[.int .i64 0] w fun e w' => e = .returned (.tuple #[.string ⟨#[45]⟩, .int .i64 0]) ∧ w = w' := by
  have h : isL 0 = true := rfl
  go_enter Try.func24, Try.ntmps24
  go_wp2_with (go_at_call 32; refine (isLabel_any _ _).mono ?_; rintro e w' ⟨rfl, rfl⟩)
  go_ret2
  exact ⟨rfl, rfl⟩

theorem lets_le (l : Int) : ∀ k, (lets l k).length ≤ k
  | 0 => Nat.le_refl _
  | k + 1 => by
    unfold lets
    have := lets_le l k
    split <;> simp <;> omega

theorem text_good (l : Int) (h : isL l = true) (h0 : (l == 0) = false) (B : Nat) (w : World) (hB : B ≤ w.heap.size) :
    Calls Try.prog 24 #[.int .i64 l] w fun e w' => e = .returned (.tuple #[.string (strOfNums (lets l 8)), .int .i64 0]) ∧ Below B w w' := by
  obtain ⟨i0, hi, hz0, hz1, hz2⟩ := info_parts info_u8
  go_enter Try.func24, Try.ntmps24
  go_wp2_with (go_at_call 32; refine (isLabel_any _ _).mono ?_; rintro e w' ⟨rfl, rfl⟩)
  go_loopw [4, 11] (fun v i wr => ∃ k : Nat, k ≤ 8 ∧ i = .int .i64 k ∧ wr.ownsRow B 5 1 v (lets l k).length ((lets l k).map (Value.int .u8)) ∧ Below B w wr) (fun _ i _ => 8 - (intOf i).toNat)
  case atStart => exact ⟨0, Nat.zero_le _, rfl, World.ownsRow_nil _ _ _ _, Below.refl _ _⟩
  case round =>
    obtain ⟨k, hk, rfl, hown, hbel⟩ := hrel
    have hbs := Nat.le_trans hB hbel.size
    have hll := lets_le l k
    by_cases hlt : k < 8
    · cases hy : (bits .and .i64 (l / 2 ^ k) 1 == 1)
      · have HY := Lib.hid hy
        go_wp2
        go_roundw
        case rel => exact ⟨k + 1, by omega, by go_num, by unfold lets; rw [HY.out]; exact hown, hbel⟩
        case measure => simp [intOf]; omega
      · have HY := Lib.hid hy
        go_wp2_with (at_builtin; refine wpList_append_own _ rfl _ _ 50 rfl B 5 i0 (.int .u8 0) 1 1 Try.underlying50 hi hz0 hz1 hz2 rfl (by decide) _ _ _ rfl (hown.alloc _) ⟨wr.heap.size, 0, none⟩ 1 1 [.int .u8 (97 + k)] rfl rfl ?c1 ?c2 ?c3 ?c4 ?c5 ?_)
        case c1 => exact cell_one_new _ _ _
        case c2 => intro u hu; simp at hu; subst hu; rfl
        case c3 => unfold maxLen; omega
        case c4 => omega
        case c5 => simp; omega
        · intro v' w1 hown' hgrow _
          have hb1 : Below B w w1 := (hbel.alloc hbs _).grown hgrow (by simp; omega) (fun q hq => (hown.lt q hq).1)
          have ho1 : w1.ownsRow B 5 1 v' (lets l (k + 1)).length ((lets l (k + 1)).map (Value.int .u8)) := by
            have e : lets l (k + 1) = lets l k ++ [97 + (k : Int)] := by
              show (if _ then _ else _) = _
              rw [HY.out]; rfl
            rw [e]
            simpa using hown'
          clear hown' hgrow hown hbel
          go_wp2
          go_roundw
          case rel => exact ⟨k + 1, by omega, by go_num, ho1, hb1⟩
          case measure => simp [intOf]; omega
    · obtain rfl : k = 8 := by omega
      have hcv := run_convert_own (P := Try.prog) (dst := 9) Try.underlying50 Try.underlying5 Try.underlying9 hown
      go_wp2
      go_ret2
      exact ⟨rfl, hbel⟩
end Go.Proofs.Ytiocojhkpgdjcaa.La
