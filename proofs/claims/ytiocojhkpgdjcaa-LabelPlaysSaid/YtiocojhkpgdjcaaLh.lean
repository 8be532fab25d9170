/- The document's Text and Parse of layer 1, and that label's agree with them; the walk of hermitagelaw01.LabelTexts. -/
import Derived.Test.YtiocojhkpgdjcaaLf
namespace Go.Proofs.Ytiocojhkpgdjcaa.La
open Go.RowKit Ut

/-- the letters of a label as bytes -/
def lb (n : Nat) : List UInt8 := (strOfNums (lets n 8)).data.toList
theorem lb_all : (List.range 8).all (fun c => (List.range 256).all fun v => !decide (v < 2 ^ c) || (bits .or .i64 (v : Int) (wrap64 (2 ^ c)) == ((v ||| 2 ^ c : Nat) : Int) && lb (v ||| 2 ^ c) == lb v ++ [UInt8.ofNat (97 + c)])) = true := by decide +kernel
theorem lb_on (c v : Nat) (hc : c < 8) (hv : v < 256) (h : v < 2 ^ c) : bits .or .i64 (v : Int) (wrap64 (2 ^ c)) = ((v ||| 2 ^ c : Nat) : Int) ∧ lb (v ||| 2 ^ c) = lb v ++ [UInt8.ofNat (97 + c)] := by
  have := List.all_eq_true.1 (List.all_eq_true.1 lb_all c (List.mem_range.2 hc)) v (List.mem_range.2 hv)
  simpa [h] using this
theorem wrap_all : (List.range 8).all (fun c => wrap64 (2 ^ c) == ((2 ^ c : Nat) : Int)) = true := by decide +kernel
theorem wrap_pow (c : Nat) (hc : c < 8) : wrap64 (2 ^ c) = ((2 ^ c : Nat) : Int) := by
  have := List.all_eq_true.1 wrap_all c (List.mem_range.2 hc)
  simpa using this
theorem cat_nat (b : UInt8) (h0 : 0 ≤ catOf b) (h1 : catOf b < 8) : ∃ c : Nat, c < 8 ∧ catOf b = c ∧ b = UInt8.ofNat (97 + c) := by
  have hb := b.toNat_lt
  have e : catOf b = (b.toNat : Int) - 97 := by
    unfold catOf
    have e1 : wrap64 (b.toNat : Int) = (b.toNat : Int) := IntWalk.wrap64_in _ (by omega)
    rw [e1]
    exact IntWalk.wrap64_in _ (by omega)
  refine ⟨b.toNat - 97, by omega, by omega, ?_⟩
  rw [show 97 + (b.toNat - 97) = b.toNat by omega]
  simp

theorem pz_text : ∀ (r : List UInt8) (v : Nat) (m : Int), v < 256 → pz v r = some m → ∃ n : Nat, n < 256 ∧ m = n ∧ lb n = lb v ++ r
  | [], v, m, hv, h => by
    simp only [pz, Option.some.injEq] at h
    exact ⟨v, hv, h.symm, by simp⟩
  | b :: r, v, m, hv, h => by
    rw [pz] at h
    split at h
    · cases h
    · rename_i k1
      split at h
      · cases h
      · rename_i k2
        obtain ⟨c, hc, e, hb⟩ := cat_nat b (by omega) (by omega)
        rw [e, Int.toNat_natCast, wrap_pow c hc] at k2
        have hvc : v < 2 ^ c := by
          have : ¬ (((2 ^ c : Nat) : Int) ≤ (v : Int)) := k2
          omega
        obtain ⟨l1, l2⟩ := lb_on c v hc hv hvc
        rw [e, Int.toNat_natCast, l1] at h
        have hlt : v ||| 2 ^ c < 256 := or_lt v (2 ^ c) hv (Nat.pow_lt_pow_right (by decide) (show c < 8 from hc))
        obtain ⟨n, hn, hm, hl⟩ := pz_text r (v ||| 2 ^ c) m hlt h
        exact ⟨n, hn, hm, by rw [hl, l2, hb]; simp⟩

theorem parseF_text (s : List UInt8) : parseF s = (0, 6) ∨ ∃ n : Nat, n < 256 ∧ (textB n).data.toList = s := by
  unfold parseF
  cases h : (s == [45])
  · show (parseP s = (0, 6) ∨ _)
    unfold parseP
    cases k : pz 0 s with
    | none => exact .inl rfl
    | some m =>
      obtain ⟨n, hn, rfl, hl⟩ := pz_text s 0 m (by omega) k
      cases z : ((n : Int) == 0)
      · refine .inr ⟨n, hn, ?_⟩
        have e0 : lb 0 = [] := by decide +kernel
        rw [e0] at hl
        unfold textB
        rw [z]
        exact hl
      · exact .inl (if_pos z)
  · refine .inr ⟨0, by omega, ?_⟩
    have : s = [45] := by simpa using h
    rw [this]; rfl

theorem parseF_none (s : List UInt8) (h : ∀ n : Nat, n < 256 → (textB n).data.toList ≠ s) : parseF s = (0, 6) :=
  (parseF_text s).elim id fun ⟨n, hn, e⟩ => absurd e (h n hn)
theorem parseF_some (s : List UInt8) (n : Nat) (hn : n < 256) (h : (textB n).data.toList = s) : parseF s = ((n : Int), 0) := h ▸ parse_text n hn

theorem refIs_any (l : Int) (w : World) :
    Calls Try.prog 28 #[.int .i64 l] w fun e w' => e = .returned (.bool (isL l)) ∧ w = w' := by
  go_enter Try.func28, Try.ntmps28
  go_wp2
  all_goals
    go_ret
    refine ⟨congrArg (fun b => Ending.returned (.bool b)) ?_, rfl⟩
    unfold isL
    first | (simp; omega) | (simp [*]; done) | (simp [*]; omega)

/-- is category k in l, as both programs ask it -/
def hasZ (l : Int) (k : Nat) : Bool := bits .and .i64 (l / 2 ^ k) 1 == 1
theorem refHas_any (l : Int) (k : Nat) (hk : k ≤ 8) (w : World) :
    Calls Try.prog 29 #[.int .i64 l, .int .i64 k] w fun e w' => e = .returned (.bool (hasZ l k)) ∧ w = w' := by
  go_enter Try.func29, Try.ntmps29
  go_wp2
  go_ret
  exact ⟨rfl, rfl⟩

theorem refText_bad (l : Int) (h : isL l = false) (w : World) :
    Calls Try.prog 25 #[.int .i64 l] w fun e w' => e = .returned (.tuple #[.string ByteArray.empty, .int .i64 1]) ∧ w = w' := by
  go_enter Try.func25, Try.ntmps25
  go_wp2_with (go_at_call 28; refine (refIs_any _ _).mono ?_; rintro e w' ⟨rfl, rfl⟩)
  go_ret2
  exact ⟨rfl, rfl⟩
theorem refText_zero (w : World) :
    Calls Try.prog 25 #[.int .i64 0] w fun e w' => e = .returned (.tuple #[.string ⟨#[45]⟩, .int .i64 0]) ∧ w = w' := by
  have h : isL 0 = true := rfl
  go_enter Try.func25, Try.ntmps25
  go_wp2_with (go_at_call 28; refine (refIs_any _ _).mono ?_; rintro e w' ⟨rfl, rfl⟩)
  go_ret2
  exact ⟨rfl, rfl⟩
theorem refText_good (l : Int) (h : isL l = true) (h0 : (l == 0) = false) (B : Nat) (w : World) (hB : B ≤ w.heap.size) :
    Calls Try.prog 25 #[.int .i64 l] w fun e w' => e = .returned (.tuple #[.string (strOfNums (lets l 8)), .int .i64 0]) ∧ Below B w w' := by
  obtain ⟨i0, hi, hz0, hz1, hz2⟩ := info_parts info_u8
  go_enter Try.func25, Try.ntmps25
  go_wp2_with (go_at_call 28; refine (refIs_any _ _).mono ?_; rintro e w' ⟨rfl, rfl⟩)
  go_loopw [4, 5] (fun v i wr => ∃ k : Nat, k ≤ 8 ∧ i = .int .i64 k ∧ wr.ownsRow B 5 1 v (lets l k).length ((lets l k).map (Value.int .u8)) ∧ Below B w wr) (fun _ i _ => 8 - (intOf i).toNat)
  case atStart => exact ⟨0, Nat.zero_le _, rfl, World.ownsRow_nil _ _ _ _, Below.refl _ _⟩
  case round =>
    obtain ⟨k, hk, rfl, hown, hbel⟩ := hrel
    have hbs := Nat.le_trans hB hbel.size
    have hll := lets_le l k
    by_cases hlt : k < 8
    · cases hy : hasZ l k
      · have HY := Lib.hid hy
        go_wp2_with (go_at_call 29; refine (refHas_any _ _ hk _).mono ?_; rintro e w' ⟨rfl, rfl⟩)
        go_roundw
        case rel => exact ⟨k + 1, by omega, by go_num, by unfold lets; rw [show (bits .and .i64 (l / 2 ^ k) 1 == 1) = false from HY.out]; exact hown, hbel⟩
        case measure => simp [intOf]; omega
      · have HY := Lib.hid hy
        go_wp2_with (first | (go_at_call 29; refine (refHas_any _ _ hk _).mono ?_; rintro e w' ⟨rfl, rfl⟩) | (at_builtin; refine wpList_append_own _ rfl _ _ 50 rfl B 5 i0 (.int .u8 0) 1 1 Try.underlying50 hi hz0 hz1 hz2 rfl (by decide) _ _ _ rfl (hown.alloc _) ⟨wr.heap.size, 0, none⟩ 1 1 [.int .u8 (97 + k)] rfl rfl ?c1 ?c2 ?c3 ?c4 ?c5 ?_))
        case c1 => exact cell_one_new _ _ _
        case c2 => intro u hu; simp at hu; subst hu; rfl
        case c3 => unfold maxLen; omega
        case c4 => omega
        case c5 => simp; omega
        · intro v' w1 hown' hgrow _
          have hb1 : Below B w w1 := (hbel.alloc hbs _).grown hgrow (by simp; omega) (fun q hq => (hown.lt q hq).1)
          have ho1 : w1.ownsRow B 5 1 v' (lets l (k + 1)).length ((lets l (k + 1)).map (Value.int .u8)) := by
            have e : lets l (k + 1) = lets l k ++ [97 + (k : Int)] := by
              show (if _ then _ else _) = _
              rw [show (bits .and .i64 (l / 2 ^ k) 1 == 1) = true from HY.out]; rfl
            rw [e]
            simpa using hown'
          clear hown' hgrow hown hbel
          go_wp2
          go_roundw
          case rel => exact ⟨k + 1, by omega, by go_num, ho1, hb1⟩
          case measure => simp [intOf]; omega
    · obtain rfl : k = 8 := by omega
      have hcv := run_convert_own (P := Try.prog) (dst := 9) Try.underlying50 Try.underlying5 Try.underlying9 hown
      go_wp2
      go_ret2
      exact ⟨rfl, hbel⟩

theorem refText_any (l : Int) (h : isL l = true) {B : Nat} {w0 w : World} (hB : B ≤ w0.heap.size) (hb : Below B w0 w) :
    Calls Try.prog 25 #[.int .i64 l] w fun e w' => e = .returned (.tuple #[.string (textB l), .int .i64 0]) ∧ Below B w0 w' := by
  cases h0 : (l == 0)
  · refine (refText_good l h h0 B w (Nat.le_trans hB hb.size)).mono fun e w' ⟨he, hb'⟩ => ⟨he.trans ?_, hb.trans hb'⟩
    unfold textB; rw [h0]; rfl
  · obtain rfl : l = 0 := by simpa using h0
    exact (refText_zero w).mono fun e w' ⟨he, hw⟩ => ⟨he, hw ▸ hb⟩

set_option maxRecDepth 100000 in
theorem refParse_any (s : ByteArray) {B : Nat} {w0 w : World} (hB : B ≤ w0.heap.size) (hb : Below B w0 w) :
    Calls Try.prog 27 #[.string s] w fun e w' => e = .returned (.tuple #[.int .i64 (parseF s.data.toList).1, .int .i64 (parseF s.data.toList).2]) ∧ Below B w0 w' := by
  go_enter Try.func27, Try.ntmps27
  go_wp2
  go_loopw [4] (fun i wr => ∃ k : Nat, k ≤ 256 ∧ i = .int .i64 k ∧ Below B w0 wr ∧ ∀ n : Nat, n < k → (textB n).data.toList ≠ s.data.toList) (fun i _ => 256 - (intOf i).toNat)
  case atStart => exact ⟨0, Nat.zero_le _, rfl, hb, fun n h => absurd h (by omega)⟩
  case round =>
    obtain ⟨k, hk, rfl, hbel, hno⟩ := hrel
    have HN := Lib.hid hno
    clear hno hb
    by_cases hlt : k < 256
    · have hl := isL_nat k hlt
      cases hy : ((textB k).toList == s.toList)
      · have HY := Lib.hid hy
        go_wp2_with (go_at_call 25; refine (refText_any _ hl hB (by assumption)).mono ?_; rintro e w1 ⟨rfl, hb1⟩)
        go_roundw
        case rel =>
          refine ⟨k + 1, by omega, by go_num, by assumption, fun n hn => ?_⟩
          by_cases e : n < k
          · exact HN.out n e
          · obtain rfl : n = k := by omega
            intro h
            have := HY.out
            rw [ByteArray.toList_eq, ByteArray.toList_eq, h] at this
            simp at this
        case measure => simp [intOf]; omega
      · have HY := Lib.hid hy
        go_wp2_with (go_at_call 25; refine (refText_any _ hl hB (by assumption)).mono ?_; rintro e w1 ⟨rfl, hb1⟩)
        go_ret2
        refine ⟨?_, by assumption⟩
        have h := HY.out
        rw [ByteArray.toList_eq, ByteArray.toList_eq] at h
        rw [parseF_some _ k hlt (by simpa using h)]
        rfl
    · obtain rfl : k = 256 := by omega
      go_wp2
      go_ret2
      refine ⟨?_, by assumption⟩
      rw [parseF_none _ HN.out]
      rfl
end Go.Proofs.Ytiocojhkpgdjcaa.La
