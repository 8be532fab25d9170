/- Several texts in one: La Lb Lc -/
import Derived.Test.YtikkfapgmbamlaaGreatDoorProg
import Derived.WalkKit
import Derived.Handy
import Derived.Lib.Hide
import Derived.Test.YtikkfapgmbamlaaGreatDoorZ01
section
/- The walks of package label's small functions (Valid, isLabel, orNoLabel, the closures, together, Join, Meet, Minus, Flows): what each returns, for every argument; nothing in memory that was there turns. -/
namespace Go.Proofs.YtikkfapgmbamlaaGreatDoor.La
open Go.RowKit
set_option maxRecDepth 100000

/-- a label: 0 to 255 -/
def isL (a : Int) : Bool := decide (0 ≤ a) && decide (a < 256)

/-- what 'together' puts together, if all are labels -/
def tog (op : BinOp) : Int → List Int → Option Int
  | x, [] => some x
  | x, s :: r => if isL s then tog op (bits op .i64 x s) r else none

theorem valid_any (l : Int) (w : World) :
    Calls Tryz.prog 65 #[.int .i64 l, .int .i64 8] w fun e w' => e = .returned (.bool (isL l)) ∧ w = w' := by
  go_enter Tryz.func65, Tryz.ntmps65
  go_wp2
  all_goals
    go_ret
    refine ⟨congrArg (fun b => Ending.returned (.bool b)) ?_, rfl⟩
    unfold isL
    first | (simp; omega) | (simp [*]; done) | (simp [*]; omega)

theorem isLabel_any (l : Int) (w : World) :
    Calls Tryz.prog 71 #[.int .i64 l] w fun e w' => e = .returned (.bool (isL l)) ∧ w = w' := by
  go_enter Tryz.func71, Tryz.ntmps71
  go_wp2_with (go_at_call 65; refine (valid_any _ _).mono ?_; rintro e w' ⟨rfl, rfl⟩)
  go_ret
  exact ⟨rfl, rfl⟩

theorem minus1_any (a b : Int) (w : World)  :
    Calls Tryz.prog 91 #[.int .i64 a, .int .i64 b] w fun e w' => e = .returned (.int .i64 (bits .andNot .i64 a b)) ∧ w = w' := by
  go_enter Tryz.func91, Tryz.ntmps91
  go_wp2
  go_ret
  exact ⟨rfl, rfl⟩

def orNo (p : Int × Bool) : Int := if p.2 then p.1 else -1

theorem orNo_any (l : Int) (ok : Bool) (w : World)  :
    Calls Tryz.prog 89 #[.int .i64 l, .bool ok] w fun e w' => e = .returned (.int .i64 (orNo (l, ok))) ∧ w = w' := by
  cases ok
  all_goals
    go_enter Tryz.func89, Tryz.ntmps89
    go_wp2
    go_ret
    exact ⟨rfl, rfl⟩

/-- what 'together' returns -/
def togP (op : BinOp) (first : Int) (l : List Int) : Int × Bool :=
  match (if isL first then tog op first l else none) with
  | some v => (v, true)
  | none => (0, false)
def togV (op : BinOp) (first : Int) (l : List Int) : Value := .tuple #[.int .i64 (togP op first l).1, .bool (togP op first l).2]

theorem tog_cons (op : BinOp) (v s : Int) (zs : List Int) (k : Nat) (h : k < zs.length) (e : zs.getD k 0 = s) (y : Bool) (hy : isL s = y) :
    tog op v (zs.drop k) = if y then tog op (bits op .i64 v s) (zs.drop (k + 1)) else none := by
  rw [List.drop_eq_getElem_cons h]
  have e' : zs[k] = s := by rw [← e]; simp [List.getD, h]
  rw [e']
  show (if isL s then _ else _) = _
  rw [hy]

theorem togV_no (op : BinOp) (first : Int) (l : List Int) (h : isL first = false) : togV op first l = .tuple #[.int .i64 0, .bool false] := by
  unfold togV togP; rw [h]; rfl
theorem togV_none (op : BinOp) (first : Int) (l : List Int) (h : tog op first l = none) : togV op first l = .tuple #[.int .i64 0, .bool false] := by
  unfold togV togP; rw [h]; cases isL first <;> rfl
theorem togV_some (op : BinOp) (first : Int) (l : List Int) (v : Int) (h0 : isL first = true) (h : tog op first l = some v) : togV op first l = .tuple #[.int .i64 v, .bool true] := by
  unfold togV togP; rw [h, h0]; rfl

theorem together_any (op : BinOp) (g : Nat) (hen : ∀ (args : Array Value) (w : World), (callFunc g args).run Tryz.prog w = .ok (.enter g args) w) (hg : ∀ (a b : Int) (w : World), Calls Tryz.prog g #[.int .i64 a, .int .i64 b] w fun e w' => e = .returned (.int .i64 (bits op .i64 a b)) ∧ w = w')
    (first : Int) (a : Option Addr) (len cap : Nat) (zs : List Int) (w : World) (hl : zs.length = len) (hm : len ≤ 9223372036854775807)
    (hc : ∀ i, i < len → ∃ x, a = some x ∧ w.cell? (x.add i) = some (.int .i64 (zs.getD i 0))) :
    Calls Tryz.prog 90 #[.func (.func 71) #[] #[], .func (.func g) #[] #[], .int .i64 first, .slice a len cap] w fun e w' => e = .returned (togV op first zs) ∧ w = w' := by
  have HL := Lib.hid hl
  clear hl
  cases h0 : isL first
  · have H0 := Lib.hid h0
    go_enter Tryz.func90, Tryz.ntmps90
    go_wp2_with (go_at_call 71; refine (isLabel_any _ _).mono ?_; rintro e w' ⟨rfl, rfl⟩)
    go_ret2
    exact ⟨congrArg Ending.returned (togV_no _ _ _ H0.out).symm, rfl⟩
  · have H0 := Lib.hid h0
    go_enter Tryz.func90, Tryz.ntmps90
    go_wp2_with (go_at_call 71; refine (isLabel_any _ _).mono ?_; rintro e w' ⟨rfl, rfl⟩)
    clear h0
    go_loop [2, 20] (fun x i => ∃ (k : Nat) (v : Int), k ≤ len ∧ i = .int .i64 k ∧ x = .int .i64 v ∧ tog op first zs = tog op v (zs.drop k)) (fun _ i => len - (intOf i).toNat)
    case atStart => exact ⟨0, first, Nat.zero_le _, rfl, rfl, rfl⟩
    case round =>
      obtain ⟨k, v, hk, rfl, rfl, hv⟩ := hrel
      have HV := Lib.hid hv
      clear hv
      by_cases hlt : k < len
      · obtain ⟨x, rfl, hx⟩ := hc k hlt
        have HC := Lib.hid hc
        clear hc
        obtain ⟨s, hs⟩ : ∃ s, zs.getD k 0 = s := ⟨_, rfl⟩
        rw [hs] at hx
        have HS := Lib.hid hs
        clear hs
        cases hy : isL s
        · have ht := Lib.hid (HV.out.trans (tog_cons op v s zs k (HL.out ▸ hlt) HS.out false hy))
          go_wp2_with (first | (go_at_call 71; refine (isLabel_any _ _).mono ?_; rintro e w' ⟨rfl, rfl⟩) | ((with_reducible refine (hg _ _ _).mono ?_); rintro e w' ⟨rfl, rfl⟩))
          go_ret2
          exact ⟨congrArg Ending.returned (togV_none _ _ _ (ht.out.trans rfl)).symm, rfl⟩
        · have ht := Lib.hid (HV.out.trans (tog_cons op v s zs k (HL.out ▸ hlt) HS.out true hy))
          go_wp2_with (first | (go_at_call 71; refine (isLabel_any _ _).mono ?_; rintro e w' ⟨rfl, rfl⟩) | ((with_reducible refine (hg _ _ _).mono ?_); rintro e w' ⟨rfl, rfl⟩))
          go_round
          case rel => exact ⟨k + 1, _, by omega, by go_num, rfl, ht.out.trans rfl⟩
          case measure => simp [intOf]; omega
      · have HC := Lib.hid hc
        clear hc
        go_wp2
        go_ret2
        exact ⟨congrArg Ending.returned (togV_some _ _ _ v H0.out (HV.out.trans (by rw [List.drop_of_length_le (by have := HL.out; omega)]; rfl))).symm, rfl⟩

set_option maxRecDepth 100000 in
theorem minus1_enters (args : Array Value) (w : World) : (callFunc 91 args).run Tryz.prog w = .ok (.enter 91 args) w := rfl
end Go.Proofs.YtikkfapgmbamlaaGreatDoor.La
end
section
/- The walks of package label's Join, Meet, Minus, Flows: what each returns, for every argument; nothing in memory that was there turns. -/
namespace Go.Proofs.YtikkfapgmbamlaaGreatDoor.La
open Go.RowKit
set_option maxRecDepth 100000

theorem minus_raw (a b : Int) (w : World) :
    Calls Tryz.prog 83 #[.int .i64 a, .int .i64 b] w fun e w' => e = .returned (.int .i64 (orNo (togP .andNot a [b]))) ∧ Below w.heap.size w w' := by
  go_enter Tryz.func83, Tryz.ntmps83
  go_wp2_with (first | (go_at_call 90; refine (together_any .andNot _ minus1_enters minus1_any a _ 1 1 [b] _ rfl (by omega) ?_).mono ?_; rotate_left 1; rintro e w' ⟨rfl, rfl⟩; unfold togV) | (go_at_call 89; refine (orNo_any _ _ _).mono ?_; rintro e w' ⟨rfl, rfl⟩))
  · go_ret
    exact ⟨rfl, (Below.refl _ _).alloc (Nat.le_refl _) _⟩
  · intro i hi
    obtain rfl : i = 0 := by omega
    exact ⟨_, rfl, by simp [go_sem]⟩

theorem flows_raw (a b : Int) (w : World) :
    Calls Tryz.prog 69 #[.int .i64 a, .int .i64 b] w fun e w' => e = .returned (.bool (orNo (togP .andNot a [b]) == 0)) ∧ Below w.heap.size w w' := by
  go_enter Tryz.func69, Tryz.ntmps69
  go_wp2_with (first | (go_at_call 83; refine (minus_raw _ _ _).mono ?_; rintro e w' ⟨rfl, hb⟩))
  go_ret
  exact ⟨rfl, hb⟩

end Go.Proofs.YtikkfapgmbamlaaGreatDoor.La
end
section
/- The walk of label.Text: the letters of a label, for every number. -/
namespace Go.Proofs.YtikkfapgmbamlaaGreatDoor.La
open Go.RowKit Ut
set_option maxRecDepth 100000

theorem info_u8 : (Tryz.prog.info? 5).map (fun i => (i.zero, i.size, i.bytes)) = some (some (.int .u8 0), 1, 1) := by kernel_rfl

/-- the letters of the first k categories of l -/
def lets (l : Int) : Nat → List Int
  | 0 => []
  | k + 1 => if (bits .and .i64 (l / 2 ^ k) 1 == 1) then lets l k ++ [97 + (k : Int)] else lets l k

theorem text_bad (l : Int) (h : isL l = false) (w : World) :
    Calls Tryz.prog 52 #[.int .i64 l] w fun e w' => e = .returned (.tuple #[.string ByteArray.empty, .int .i64 1]) ∧ w = w' := by
  go_enter Tryz.func52, Tryz.ntmps52
  go_wp2_with (go_at_call 71; refine (isLabel_any _ _).mono ?_; rintro e w' ⟨rfl, rfl⟩)
  go_ret2
  exact ⟨rfl, rfl⟩
theorem text_zero (w : World) :
    Calls Tryz.prog 52 #[.int .i64 0] w fun e w' => e = .returned (.tuple #[.string ⟨#[45]⟩, .int .i64 0]) ∧ w = w' := by
  have h : isL 0 = true := rfl
  go_enter Tryz.func52, Tryz.ntmps52
  go_wp2_with (go_at_call 71; refine (isLabel_any _ _).mono ?_; rintro e w' ⟨rfl, rfl⟩)
  go_ret2
  exact ⟨rfl, rfl⟩

theorem lets_le (l : Int) : ∀ k, (lets l k).length ≤ k
  | 0 => Nat.le_refl _
  | k + 1 => by
    unfold lets
    have := lets_le l k
    split <;> simp <;> omega

theorem text_good (l : Int) (h : isL l = true) (h0 : (l == 0) = false) (B : Nat) (w : World) (hB : B ≤ w.heap.size) :
    Calls Tryz.prog 52 #[.int .i64 l] w fun e w' => e = .returned (.tuple #[.string (strOfNums (lets l 8)), .int .i64 0]) ∧ Below B w w' := by
  obtain ⟨i0, hi, hz0, hz1, hz2⟩ := info_parts info_u8
  go_enter Tryz.func52, Tryz.ntmps52
  go_wp2_with (go_at_call 71; refine (isLabel_any _ _).mono ?_; rintro e w' ⟨rfl, rfl⟩)
  go_loopw [4, 11] (fun v i wr => ∃ k : Nat, k ≤ 8 ∧ i = .int .i64 k ∧ wr.ownsRow B 5 1 v (lets l k).length ((lets l k).map (Value.int .u8)) ∧ Below B w wr) (fun _ i _ => 8 - (intOf i).toNat)
  case atStart => exact ⟨0, Nat.zero_le _, rfl, World.ownsRow_nil _ _ _ _, Below.refl _ _⟩
  case round =>
    obtain ⟨k, hk, rfl, hown, hbel⟩ := hrel
    have hbs := Nat.le_trans hB hbel.size
    have hll := lets_le l k
    by_cases hlt : k < 8
    · cases hy : (bits .and .i64 (l / 2 ^ k) 1 == 1)
      · have HY := Lib.hid hy
        go_wp2
        go_roundw
        case rel => exact ⟨k + 1, by omega, by go_num, by unfold lets; rw [HY.out]; exact hown, hbel⟩
        case measure => simp [intOf]; omega
      · have HY := Lib.hid hy
        go_wp2_with (at_builtin; refine wpList_append_own _ rfl _ _ 39 rfl B 5 i0 (.int .u8 0) 1 1 Tryz.underlying39 hi hz0 hz1 hz2 rfl (by decide) _ _ _ rfl (hown.alloc _) ⟨wr.heap.size, 0, none⟩ 1 1 [.int .u8 (97 + k)] rfl rfl ?c1 ?c2 ?c3 ?c4 ?c5 ?_)
        case c1 => exact cell_one_new _ _ _
        case c2 => intro u hu; simp at hu; subst hu; rfl
        case c3 => unfold maxLen; omega
        case c4 => omega
        case c5 => simp; omega
        · intro v' w1 hown' hgrow _
          have hb1 : Below B w w1 := (hbel.alloc hbs _).grown hgrow (by simp; omega) (fun q hq => (hown.lt q hq).1)
          have ho1 : w1.ownsRow B 5 1 v' (lets l (k + 1)).length ((lets l (k + 1)).map (Value.int .u8)) := by
            have e : lets l (k + 1) = lets l k ++ [97 + (k : Int)] := by
              show (if _ then _ else _) = _
              rw [HY.out]; rfl
            rw [e]
            simpa using hown'
          clear hown' hgrow hown hbel
          go_wp2
          go_roundw
          case rel => exact ⟨k + 1, by omega, by go_num, ho1, hb1⟩
          case measure => simp [intOf]; omega
    · obtain rfl : k = 8 := by omega
      have hcv := run_convert_own (P := Tryz.prog) (dst := 9) Tryz.underlying39 Tryz.underlying5 Tryz.underlying9 hown
      go_wp2
      go_ret2
      exact ⟨rfl, hbel⟩
end Go.Proofs.YtikkfapgmbamlaaGreatDoor.La
end
