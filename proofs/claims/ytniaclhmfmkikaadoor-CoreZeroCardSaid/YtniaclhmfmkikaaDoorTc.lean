/- Package regs: the methods of a file that was made; the document's Get, Set. -/
import Derived.Test.YtniaclhmfmkikaaDoorTb
namespace Go.Proofs.YtniaclhmfmkikaaDoor.Rg
open Go.RowKit Ut
set_option maxRecDepth 100000
set_option linter.unusedVariables false

theorem errZ_no {i : Int} (h : i < 0 ∨ 16 ≤ i) : errZ i = 1 := if_neg (by omega)
theorem errZ_yes {i : Nat} (h : i < 16) : errZ i = 0 := if_pos (by omega)
theorem setR_no {R : List Int} {i v : Int} (h : i ≤ 0 ∨ 16 ≤ i) : setR R i v = R := if_neg (by omega)
theorem setR_yes {R : List Int} {i : Nat} {v : Int} (h0 : 0 < i) (h : i < 16) : setR R i v = R.set i v := if_pos (by omega)
theorem getR_no {R : List Int} {i : Int} (h : i < 0 ∨ 16 ≤ i) : getR R i = 0 := if_neg (by omega)
theorem getR_yes {R : List Int} {i : Nat} (h : i < 16) : getR R i = R.getD i 0 := if_pos (by omega)
theorem reg_cases (i : Int) : (i < 0 ∨ 16 ≤ i) ∨ i = 0 ∨ ∃ k : Nat, i = k ∧ 0 < k ∧ k < 16 := by
  by_cases h : i < 0 ∨ 16 ≤ i
  · exact .inl h
  · by_cases h0 : i = 0
    · exact .inr (.inl h0)
    · exact .inr (.inr ⟨i.toNat, by omega, by omega, by omega⟩)

theorem get_reg (b : Nat) (p i : Int) (R : List Int) (w : World) (h : FAt w b p R) :
    Calls Tryd.prog 33 #[.pointer (some ⟨b, 2, none⟩), .int .i64 i] w fun e w' => e = .returned (.tuple #[.int .u32 (getR R i), .int .i64 (errZ i)]) ∧ w = w' := by
  by_cases hi : i < 0 ∨ 16 ≤ i
  · rw [errZ_no hi, getR_no hi]
    go_enter Tryd.func33, Tryd.ntmps33
    go_wp2_with (go_at_call 54; refine (has_no _ i w hi).mono ?_; rintro e w' ⟨rfl, rfl⟩)
    go_ret2
    exact ⟨rfl, rfl⟩
  · obtain ⟨k, rfl, hk⟩ : ∃ k : Nat, i = k ∧ k < 16 := ⟨i.toNat, by omega, by omega⟩
    have hc := h.reg k hk
    rw [errZ_yes hk, getR_yes hk]
    generalize R.getD k 0 = z at hc ⊢
    clear hi h
    go_enter Tryd.func33, Tryd.ntmps33
    go_wp2_with (go_at_call 54; refine (has_yes _ k w hk).mono ?_; rintro e w' ⟨rfl, rfl⟩)
    go_ret2
    exact ⟨rfl, rfl⟩

theorem get_any (b : Nat) (p i : Int) (R : List Int) (w : World) (h : FAt w b p R) :
    Calls Tryd.prog 12 #[.pointer (some ⟨b, 0, none⟩), .int .i64 i] w fun e w' => e = .returned (.tuple #[.int .u32 (getR R i), .int .i64 (errZ i)]) ∧ w = w' := by
  have H := Lib.hid h
  clear h
  generalize hx : getR R i = x
  generalize hy : errZ i = y
  have HX := Lib.hid hx
  have HY := Lib.hid hy
  clear hx hy
  go_enter Tryd.func12, Tryd.ntmps12
  go_wp2_with (first | (go_at_call 32; refine (made_is b true w H.out.cell0).mono ?_; rintro e w' ⟨rfl, rfl⟩) | (go_at_call 33; refine (get_reg b p i R w H.out).mono ?_; rw [HX.out, HY.out]; rintro e w' ⟨rfl, rfl⟩))
  go_ret2
  exact ⟨rfl, rfl⟩

theorem set_reg (b : Nat) (p i v : Int) (R : List Int) (w : World) (h : FAt w b p R) :
    Calls Tryd.prog 87 #[.pointer (some ⟨b, 2, none⟩), .int .i64 i, .int .u32 v] w fun e w' => e = .returned (.int .i64 (errZ i)) ∧ FAt w' b p (setR R i v) ∧ w.grownBy w' (some b) := by
  rcases reg_cases i with hi | rfl | ⟨k, rfl, h0, hk⟩
  · rw [errZ_no hi, setR_no (by omega)]
    have H := Lib.hid h
    clear h
    go_enter Tryd.func87, Tryd.ntmps87
    go_wp2_with (go_at_call 54; refine (has_no _ i w hi).mono ?_; rintro e w' ⟨rfl, rfl⟩)
    go_ret
    exact ⟨rfl, H.out, World.grownBy.refl _ _⟩
  · rw [setR_no (by omega)]
    have H := Lib.hid h
    clear h
    go_enter Tryd.func87, Tryd.ntmps87
    go_wp2_with (go_at_call 54; refine (has_yes _ 0 w (by omega)).mono ?_; rintro e w' ⟨rfl, rfl⟩)
    go_ret
    exact ⟨rfl, H.out, World.grownBy.refl _ _⟩
  · rw [errZ_yes hk, setR_yes h0 hk]
    have hc := h.reg k hk
    have hf := h.1.frozen (2 + k)
    have hn : ((k : Int) != 0) = true := by simp; omega
    have H := Lib.hid (h.set k hk v)
    have G := Lib.hid (grown_setCell w b (2 + k) (.int .u32 v))
    clear h
    go_enter Tryd.func87, Tryd.ntmps87
    go_wp2_with (go_at_call 54; refine (has_yes _ k w hk).mono ?_; rintro e w' ⟨rfl, rfl⟩)
    go_ret
    exact ⟨rfl, H.out, G.out⟩

theorem set_any (b : Nat) (p i v : Int) (R : List Int) (w : World) (h : FAt w b p R) :
    Calls Tryd.prog 63 #[.pointer (some ⟨b, 0, none⟩), .int .i64 i, .int .u32 v] w fun e w' => e = .returned (.int .i64 (errZ i)) ∧ FAt w' b p (setR R i v) ∧ w.grownBy w' (some b) := by
  have H := Lib.hid h
  clear h
  generalize hx : setR R i v = x
  generalize hy : errZ i = y
  have HX := Lib.hid hx
  have HY := Lib.hid hy
  clear hx hy
  go_enter Tryd.func63, Tryd.ntmps63
  go_wp2_with (first | (go_at_call 32; refine (made_is b true w H.out.cell0).mono ?_; rintro e w' ⟨rfl, rfl⟩) | (go_at_call 87; refine (set_reg b p i v R w H.out).mono ?_; rw [HX.out, HY.out]; rintro e w' ⟨rfl, hF, hg⟩; have HF := Lib.hid hF; have HG := Lib.hid hg; clear hF hg))
  go_ret
  exact ⟨rfl, HF.out, HG.out⟩

theorem pc_any (b : Nat) (p : Int) (R : List Int) (w : World) (h : FAt w b p R) :
    Calls Tryd.prog 16 #[.pointer (some ⟨b, 0, none⟩)] w fun e w' => e = .returned (.int .u32 p) ∧ w = w' := by
  have h0 := h.cell0
  have h1 := h.cell1
  clear h
  go_enter Tryd.func16, Tryd.ntmps16
  go_wp2_with (go_at_call 32; refine (made_is b true w h0).mono ?_; rintro e w' ⟨rfl, rfl⟩)
  go_ret
  exact ⟨rfl, rfl⟩

theorem jump_any (b : Nat) (p q : Int) (R : List Int) (w : World) (h : FAt w b p R) :
    Calls Tryd.prog 62 #[.pointer (some ⟨b, 0, none⟩), .int .u32 q] w fun e w' => e = .returned (.int .i64 0) ∧ FAt w' b q R ∧ w.grownBy w' (some b) := by
  have h0 := h.cell0
  have h1 := h.cell1
  have hf := h.1.frozen 1
  have H := Lib.hid (h.jump q)
  have G := Lib.hid (grown_setCell w b 1 (.int .u32 q))
  clear h
  go_enter Tryd.func62, Tryd.ntmps62
  go_wp2_with (go_at_call 32; refine (made_is b true w h0).mono ?_; rintro e w' ⟨rfl, rfl⟩)
  go_ret
  exact ⟨rfl, H.out, G.out⟩

/-- an array of registers as a value -/
def arrV (R : List Int) : Value := .agg (wordsV R).toArray
end Go.Proofs.YtniaclhmfmkikaaDoor.Rg
