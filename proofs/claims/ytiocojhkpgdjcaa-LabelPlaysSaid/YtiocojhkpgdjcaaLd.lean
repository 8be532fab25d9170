/- The walk of label.Parse: for every text. -/
import Derived.Test.YtiocojhkpgdjcaaLb
import Derived.Test.YtiocojhkpgdjcaaUt
namespace Go.Proofs.Ytiocojhkpgdjcaa.La
open Go.RowKit Ut

/-- the category of a byte, as the code reckons it -/
def catOf (b : UInt8) : Int := wrap64 (wrap64 (b.toNat : Int) - 97)
/-- the label of a text, as the code reads it on from v -/
def pz : Int → List UInt8 → Option Int
  | v, [] => some v
  | v, b :: r => if catOf b < 0 ∨ 8 ≤ catOf b then none else if wrap64 (2 ^ (catOf b).toNat) ≤ v then none else pz (bits .or .i64 v (wrap64 (2 ^ (catOf b).toNat))) r

theorem pz_low (v : Int) (b : UInt8) (r : List UInt8) (h : catOf b < 0) : pz v (b :: r) = none := by
  unfold pz; rw [if_pos (Or.inl h)]
theorem pz_high (v : Int) (b : UInt8) (r : List UInt8) (h : 8 ≤ catOf b) : pz v (b :: r) = none := by
  unfold pz; rw [if_pos (Or.inr h)]
theorem pz_stop (v : Int) (b : UInt8) (r : List UInt8) (h : wrap64 (2 ^ (catOf b).toNat) ≤ v) : pz v (b :: r) = none := by
  unfold pz; rw [if_pos h]; split <;> rfl
theorem pz_on (v : Int) (b : UInt8) (r : List UInt8) (h0 : 0 ≤ catOf b) (h1 : catOf b < 8) (h : v < wrap64 (2 ^ (catOf b).toNat)) :
    pz v (b :: r) = pz (bits .or .i64 v (wrap64 (2 ^ (catOf b).toNat))) r := by
  rw [pz, if_neg (by omega), if_neg (by omega)]

/-- what Parse returns of a text that is not the dash -/
def parseP (l : List UInt8) : Int × Int :=
  match pz 0 l with
  | some v => if v == 0 then (0, 6) else (v, 0)
  | none => (0, 6)
def parseV (l : List UInt8) : Value := .tuple #[.int .i64 (parseP l).1, .int .i64 (parseP l).2]
theorem parseV_none (l : List UInt8) (h : pz 0 l = none) : parseV l = .tuple #[.int .i64 0, .int .i64 6] := by unfold parseV parseP; rw [h]
theorem parseV_zero (l : List UInt8) (v : Int) (h : pz 0 l = some v) (hv : (v == 0) = true) : parseV l = .tuple #[.int .i64 0, .int .i64 6] := by unfold parseV parseP; rw [h]; simp only [hv]; rfl
theorem parseV_some (l : List UInt8) (v : Int) (h : pz 0 l = some v) (hv : (v == 0) = false) : parseV l = .tuple #[.int .i64 v, .int .i64 0] := by unfold parseV parseP; rw [h]; simp only [hv]; rfl

theorem pz_drop (v : Int) (s : ByteArray) (k : Nat) (h : k < s.size) : pz v (s.data.toList.drop k) = pz v (s[k] :: s.data.toList.drop (k + 1)) := by
  rw [List.drop_eq_getElem_cons (by simpa using h)]
  rfl

theorem pz_end (v : Int) (s : ByteArray) : pz v (s.data.toList.drop s.size) = some v := by
  rw [List.drop_of_length_le (by simp)]
  rfl

theorem parse_dash (s : ByteArray) (hd : (s.toList == [45]) = true) (w : World) :
    Calls Try.prog 26 #[.string s] w fun e w' => e = .returned (.tuple #[.int .i64 0, .int .i64 0]) ∧ w = w' := by
  go_enter Try.func26, Try.ntmps26
  go_wp2
  go_ret2
  exact ⟨rfl, rfl⟩

theorem parse_else (s : ByteArray) (hs : s.size ≤ maxLen) (hd : (s.toList == [45]) = false) (w : World) :
    Calls Try.prog 26 #[.string s] w fun e w' => e = .returned (parseV s.data.toList) ∧ w = w' := by
  unfold maxLen at hs
  go_enter Try.func26, Try.ntmps26
  go_wp2
  clear hd
  go_loop [4, 11] (fun x i => ∃ (k : Nat) (v : Int), k ≤ s.size ∧ i = .int .i64 k ∧ x = .int .i64 v ∧ pz 0 s.data.toList = pz v (s.data.toList.drop k)) (fun _ i => s.size - (intOf i).toNat)
  case atStart => exact ⟨0, 0, Nat.zero_le _, rfl, rfl, rfl⟩
  case round =>
    obtain ⟨k, v, hk, rfl, rfl, hp⟩ := hrel
    have HP := Lib.hid hp
    clear hp
    by_cases hlt : k < s.size
    · have HD := Lib.hid (pz_drop v s k hlt)
      by_cases h1 : wrap64 (wrap64 (s[k].toNat : Int) - 97) < 0
      · go_wp2
        go_ret2
        exact ⟨congrArg Ending.returned (parseV_none _ (HP.out.trans (HD.out.trans (pz_low _ _ _ h1)))).symm, rfl⟩
      · by_cases h2 : 8 ≤ wrap64 (wrap64 (s[k].toNat : Int) - 97)
        · go_wp2
          go_ret2
          exact ⟨congrArg Ending.returned (parseV_none _ (HP.out.trans (HD.out.trans (pz_high _ _ _ h2)))).symm, rfl⟩
        · by_cases h3 : wrap64 (2 ^ (wrap64 (wrap64 (s[k].toNat : Int) - 97)).toNat) ≤ v
          · go_wp2
            go_ret2
            exact ⟨congrArg Ending.returned (parseV_none _ (HP.out.trans (HD.out.trans (pz_stop _ _ _ h3)))).symm, rfl⟩
          · have HS := Lib.hid (pz_on v s[k] (s.data.toList.drop (k + 1)) (by unfold catOf; omega) (by unfold catOf; omega) (by unfold catOf; omega))
            go_wp2
            go_round
            case rel => exact ⟨k + 1, _, by omega, by go_num, rfl, HP.out.trans (HD.out.trans HS.out)⟩
            case measure => simp [intOf]; omega
    · obtain rfl : k = s.size := by omega
      have HE : Hid (pz 0 s.data.toList = some v) := Lib.hid (HP.out.trans (pz_end v s))
      cases hv : (v == 0)
      · have HV := Lib.hid hv
        go_wp2
        go_ret2
        exact ⟨congrArg Ending.returned (parseV_some _ v HE.out HV.out).symm, rfl⟩
      · have HV := Lib.hid hv
        go_wp2
        go_ret2
        exact ⟨congrArg Ending.returned (parseV_zero _ v HE.out HV.out).symm, rfl⟩
end Go.Proofs.Ytiocojhkpgdjcaa.La
