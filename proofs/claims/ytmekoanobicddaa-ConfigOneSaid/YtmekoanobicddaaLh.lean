/- The document's Text and Parse of layer 1, and that label's agree with them; the walk of hermitagelaw01.LabelTexts. -/
import Derived.Test.YtmekoanobicddaaLf
namespace Go.Proofs.Ytmekoanobicddaa.La
open Go.RowKit Ut

/-- the letters of a label as bytes -/
def lb (n : Nat) : List UInt8 := (strOfNums (lets n 8)).data.toList
theorem lb_all : (List.range 8).all (fun c => (List.range 256).all fun v => !decide (v < 2 ^ c) || (bits .or .i64 (v : Int) (wrap64 (2 ^ c)) == ((v ||| 2 ^ c : Nat) : Int) && lb (v ||| 2 ^ c) == lb v ++ [UInt8.ofNat (97 + c)])) = true := by decide +kernel
theorem lb_on (c v : Nat) (hc : c < 8) (hv : v < 256) (h : v < 2 ^ c) : bits .or .i64 (v : Int) (wrap64 (2 ^ c)) = ((v ||| 2 ^ c : Nat) : Int) ∧ lb (v ||| 2 ^ c) = lb v ++ [UInt8.ofNat (97 + c)] := by
  have := List.all_eq_true.1 (List.all_eq_true.1 lb_all c (List.mem_range.2 hc)) v (List.mem_range.2 hv)
  simpa [h] using this
theorem wrap_all : (List.range 8).all (fun c => wrap64 (2 ^ c) == ((2 ^ c : Nat) : Int)) = true := by decide +kernel
theorem wrap_pow (c : Nat) (hc : c < 8) : wrap64 (2 ^ c) = ((2 ^ c : Nat) : Int) := by
  have := List.all_eq_true.1 wrap_all c (List.mem_range.2 hc)
  simpa using this
theorem cat_nat (b : UInt8) (h0 : 0 ≤ catOf b) (h1 : catOf b < 8) : ∃ c : Nat, c < 8 ∧ catOf b = c ∧ b = UInt8.ofNat (97 + c) := by
  have hb := b.toNat_lt
  have e : catOf b = (b.toNat : Int) - 97 := by
    unfold catOf
    have e1 : wrap64 (b.toNat : Int) = (b.toNat : Int) := IntWalk.wrap64_in _ (by omega)
    rw [e1]
    exact IntWalk.wrap64_in _ (by omega)
  refine ⟨b.toNat - 97, by omega, by omega, ?_⟩
  rw [show 97 + (b.toNat - 97) = b.toNat by omega]
  simp

theorem pz_text : ∀ (r : List UInt8) (v : Nat) (m : Int), v < 256 → pz v r = some m → ∃ n : Nat, n < 256 ∧ m = n ∧ lb n = lb v ++ r
  | [], v, m, hv, h => by
    simp only [pz, Option.some.injEq] at h
    exact ⟨v, hv, h.symm, by simp⟩
  | b :: r, v, m, hv, h => by
    rw [pz] at h
    split at h
    · cases h
    · rename_i k1
      split at h
      · cases h
      · rename_i k2
        obtain ⟨c, hc, e, hb⟩ := cat_nat b (by omega) (by omega)
        rw [e, Int.toNat_natCast, wrap_pow c hc] at k2
        have hvc : v < 2 ^ c := by
          have : ¬ (((2 ^ c : Nat) : Int) ≤ (v : Int)) := k2
          omega
        obtain ⟨l1, l2⟩ := lb_on c v hc hv hvc
        rw [e, Int.toNat_natCast, l1] at h
        have hlt : v ||| 2 ^ c < 256 := or_lt v (2 ^ c) hv (Nat.pow_lt_pow_right (by decide) (show c < 8 from hc))
        obtain ⟨n, hn, hm, hl⟩ := pz_text r (v ||| 2 ^ c) m hlt h
        exact ⟨n, hn, hm, by rw [hl, l2, hb]; simp⟩

theorem parseF_text (s : List UInt8) : parseF s = (0, 6) ∨ ∃ n : Nat, n < 256 ∧ (textB n).data.toList = s := by
  unfold parseF
  cases h : (s == [45])
  · show (parseP s = (0, 6) ∨ _)
    unfold parseP
    cases k : pz 0 s with
    | none => exact .inl rfl
    | some m =>
      obtain ⟨n, hn, rfl, hl⟩ := pz_text s 0 m (by omega) k
      cases z : ((n : Int) == 0)
      · refine .inr ⟨n, hn, ?_⟩
        have e0 : lb 0 = [] := by decide +kernel
        rw [e0] at hl
        unfold textB
        rw [z]
        exact hl
      · exact .inl (if_pos z)
  · refine .inr ⟨0, by omega, ?_⟩
    have : s = [45] := by simpa using h
    rw [this]; rfl

theorem parseF_none (s : List UInt8) (h : ∀ n : Nat, n < 256 → (textB n).data.toList ≠ s) : parseF s = (0, 6) :=
  (parseF_text s).elim id fun ⟨n, hn, e⟩ => absurd e (h n hn)
theorem parseF_some (s : List UInt8) (n : Nat) (hn : n < 256) (h : (textB n).data.toList = s) : parseF s = ((n : Int), 0) := h ▸ parse_text n hn

theorem refIs_any (l : Int) (w : World) :
    Calls Try.prog 95 #[.int .i64 l] w fun e w' => e = .returned (.bool (isL l)) ∧ w = w' := by
  go_enter Try.func95, Try.ntmps95
  go_wp2
  all_goals
    go_ret
    refine ⟨congrArg (fun b => Ending.returned (.bool b)) ?_, rfl⟩
    unfold isL
    first | (simp; omega) | (simp [*]; done) | (simp [*]; omega)

/-- is category k in l, as both programs ask it -/
def hasZ (l : Int) (k : Nat) : Bool := bits .and .i64 (l / 2 ^ k) 1 == 1
theorem refHas_any (l : Int) (k : Nat) (hk : k ≤ 8) (w : World) :
    Calls Try.prog 96 #[.int .i64 l, .int .i64 k] w fun e w' => e = .returned (.bool (hasZ l k)) ∧ w = w' := by
  go_enter Try.func96, Try.ntmps96
  go_wp2
  go_ret
  exact ⟨rfl, rfl⟩

end Go.Proofs.Ytmekoanobicddaa.La
