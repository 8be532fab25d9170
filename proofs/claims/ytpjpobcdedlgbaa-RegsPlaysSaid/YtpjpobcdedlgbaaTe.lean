/- The document's registers (hermitageref11): Get, Set; awake of the law. -/
import Derived.Test.YtpjpobcdedlgbaaTd
import Derived.Test.YtpjpobcdedlgbaaRa
namespace Go.Proofs.Ytpjpobcdedlgbaa.Rg
open Go.RowKit Ut
set_option maxRecDepth 100000
set_option linter.unusedVariables false

/-- the document's file: its registers, where it goes on -/
def rCells (p : Int) (R : List Int) : List Value := wordsV R ++ [.int .u32 p]
def RAt (w : World) (b : Nat) (p : Int) (R : List Int) : Prop := Blk w b 31 (rCells p R) ∧ R.length = 16
section
variable {w w' : World} {b : Nat} {p : Int} {R : List Int}
theorem RAt.below {B : Nat} (h : RAt w b p R) (hb : Below B w w') (hB : b < B) : RAt w' b p R := ⟨h.1.below hb hB, h.2⟩
theorem RAt.kept {row : Option Nat} (h : RAt w b p R) (hg : w.grownBy w' row) (hr : some b ≠ row) : RAt w' b p R := ⟨h.1.kept hg hr, h.2⟩
theorem RAt.reg (h : RAt w b p R) (i : Nat) (hi : i < 16) : w.cell? ⟨b, i, none⟩ = some (.int .u32 (R.getD i 0)) := h.1.cell (by
  have hl := h.2
  simp [rCells, wordsV, List.getD, hl, hi, List.getElem?_append])
theorem RAt.pc (h : RAt w b p R) : w.cell? ⟨b, 16, none⟩ = some (.int .u32 p) := h.1.cell (by
  have hl := h.2
  simp [rCells, wordsV, hl, List.getElem?_append])
theorem rCells_words (p : Int) (R : List Int) : ∀ j v, (wordsV R)[j]? = some v → (rCells p R)[0 + j]? = some v := fun j v h => by
  have hj := (List.getElem?_eq_some_iff.1 h).1
  rw [Nat.zero_add]
  unfold rCells
  rw [List.getElem?_append_left hj]
  exact h
theorem RAt.set (h : RAt w b p R) (i : Nat) (hi : i < 16) (v : Int) : RAt (w.setCell ⟨b, i, none⟩ (.int .u32 v)) b p (R.set i v) := by
  refine ⟨?_, by rw [List.length_set]; exact h.2⟩
  have := h.1.set i (.int .u32 v)
  have hl := h.2
  have e : (rCells p R).set i (.int .u32 v) = rCells p (R.set i v) := by
    unfold rCells wordsV
    rw [List.set_append_left _ _ (by simp [hl, hi]), List.map_set]
  rwa [e] at this
theorem RAt.jump (h : RAt w b p R) (q : Int) : RAt (w.setCell ⟨b, 16, none⟩ (.int .u32 q)) b q R := by
  refine ⟨?_, h.2⟩
  have := h.1.set 16 (.int .u32 q)
  have hl := h.2
  have e : (rCells p R).set 16 (.int .u32 q) = rCells q R := by
    unfold rCells wordsV
    rw [List.set_append_right _ _ (by simp [hl])]
    simp [hl]
  rwa [e] at this
end

theorem refGet_any (b : Nat) (p i : Int) (R : List Int) (w : World) (h : RAt w b p R) :
    Calls Try.prog 13 #[.pointer (some ⟨b, 0, none⟩), .int .i64 i] w fun e w' => e = .returned (.tuple #[.int .u32 (getR R i), .int .i64 (errZ i)]) ∧ w = w' := by
  by_cases h0 : i < 0
  · have h1 : decide (i < 0) = true := by simpa using h0
    rw [errZ_no (.inl h0), getR_no (.inl h0)]
    clear h0 h
    go_enter Try.func13, Try.ntmps13
    go_wp2
    go_ret2
    exact ⟨rfl, rfl⟩
  · have h1 : decide (i < 0) = false := by simpa using h0
    by_cases h2 : 16 ≤ i
    · have h3 : decide (16 ≤ i) = true := by simpa using h2
      rw [errZ_no (.inr h2), getR_no (.inr h2)]
      clear h0 h
      go_enter Try.func13, Try.ntmps13
      go_wp2
      go_ret2
      exact ⟨rfl, rfl⟩
    · obtain ⟨k, rfl, hk⟩ : ∃ k : Nat, i = k ∧ k < 16 := ⟨i.toNat, by omega, by omega⟩
      have hc := h.reg k hk
      have h1 : decide ((k : Int) < 0) = false := by simp
      have h3 : decide ((16 : Int) ≤ (k : Int)) = false := by simp; omega
      rw [errZ_yes hk, getR_yes hk]
      generalize R.getD k 0 = z at hc ⊢
      clear h h0 h2
      go_enter Try.func13, Try.ntmps13
      go_wp2
      go_ret2
      exact ⟨rfl, rfl⟩

theorem refSet_any (b : Nat) (p i v : Int) (R : List Int) (w : World) (h : RAt w b p R) :
    Calls Try.prog 11 #[.pointer (some ⟨b, 0, none⟩), .int .i64 i, .int .u32 v] w fun e w' => e = .returned (.int .i64 (errZ i)) ∧ RAt w' b p (setR R i v) ∧ w.grownBy w' (some b) := by
  rcases reg_cases i with h0 | rfl | ⟨k, rfl, h0, hk⟩
  · rw [errZ_no h0, setR_no (by omega)]
    have H := Lib.hid h
    clear h
    by_cases h0 : i < 0
    · have h1 : decide (i < 0) = true := by simpa using h0
      go_enter Try.func11, Try.ntmps11
      go_wp2
      go_ret
      exact ⟨rfl, H.out, World.grownBy.refl _ _⟩
    · have h1 : decide (i < 0) = false := by simpa using h0
      have h3 : decide (16 ≤ i) = true := by simp; omega
      go_enter Try.func11, Try.ntmps11
      go_wp2
      go_ret
      exact ⟨rfl, H.out, World.grownBy.refl _ _⟩
  · rw [setR_no (by omega)]
    have H := Lib.hid h
    clear h
    go_enter Try.func11, Try.ntmps11
    go_wp2
    go_ret
    exact ⟨rfl, H.out, World.grownBy.refl _ _⟩
  · rw [errZ_yes hk, setR_yes h0 hk]
    have hc := h.reg k hk
    have hf := h.1.frozen k
    have h1 : decide ((k : Int) < 0) = false := by simp
    have h3 : decide ((16 : Int) ≤ (k : Int)) = false := by simp; omega
    have hn : decide ((0 : Int) < (k : Int)) = true := by simp; omega
    have H := Lib.hid (h.set k hk v)
    have G := Lib.hid (grown_setCell w b k (.int .u32 v))
    clear h
    go_enter Try.func11, Try.ntmps11
    go_wp2
    go_ret
    exact ⟨rfl, H.out, G.out⟩

/-- two arrays of registers compared inside a walk -/
theorem eql_words (R Q : List Int) (hR : R.length = 16) (hQ : Q.length = 16) (w : World) : (Op.equalIn 10000 29 (arrV R) (arrV Q)).run Try.prog w = .ok (R == Q) w :=
  run_equalIn_ints w 9998 29 28 16 .u32 Try.underlying29 Try.underlying28 (fun W => by kernel_rfl) R Q hR hQ
theorem guard_words (op : BinOp) (x y : Operand) (R Q : List Int) (w : World) : (eqGuard op 29 x y (arrV R) (arrV Q)).run Try.prog w = .ok () w := run_eqGuard_agg w op 29 x y _ _ (by kernel_rfl)
theorem bin_eql (R Q : List Int) (hR : R.length = 16) (hQ : Q.length = 16) (w : World) : (binOp .eql 29 (arrV R) (arrV Q)).run Try.prog w = .ok (.bool (R == Q)) w := by
  have h := eql_words R Q hR hQ w
  unfold arrV at h ⊢
  rw [run_eql_struct, h]
  rfl
theorem bin_neq (R Q : List Int) (hR : R.length = 16) (hQ : Q.length = 16) (w : World) : (binOp .neq 29 (arrV R) (arrV Q)).run Try.prog w = .ok (.bool (!(R == Q))) w := by
  have h := eql_words R Q hR hQ w
  unfold arrV at h ⊢
  rw [run_neq_struct, h]
  rfl
def five : List Int := setR (setR zer 3 5) 0 5
theorem five_len : five.length = 16 := rfl

theorem awake_any (w : World) : Calls Try.prog 16 #[] w fun e w' => e = .returned (.bool true) ∧ Below w.heap.size w w' := by
  have hgd : ∀ (x y : Operand) (W : World), (eqGuard .eql 29 x y (arrV five) (.agg #[.int .u32 0, .int .u32 0, .int .u32 0, .int .u32 5, .int .u32 0, .int .u32 0, .int .u32 0, .int .u32 0, .int .u32 0, .int .u32 0, .int .u32 0, .int .u32 0, .int .u32 0, .int .u32 0, .int .u32 0, .int .u32 0])).run Try.prog W = .ok () W := fun x y W => guard_words _ x y five five W
  have hql : ∀ W : World, (binOp .eql 29 (arrV five) (.agg #[.int .u32 0, .int .u32 0, .int .u32 0, .int .u32 5, .int .u32 0, .int .u32 0, .int .u32 0, .int .u32 0, .int .u32 0, .int .u32 0, .int .u32 0, .int .u32 0, .int .u32 0, .int .u32 0, .int .u32 0, .int .u32 0])).run Try.prog W = .ok (.bool true) W := fun W => bin_eql five five rfl rfl W
  have e3 : errZ 3 = 0 := rfl
  have e0 : errZ 0 = 0 := rfl
  go_enter Try.func16, Try.ntmps16
  go_wp2_with fail
  refine (new_any w).mono ?_
  rintro e w1 ⟨rfl, hF, hb⟩
  have HF1 := Lib.hid hF
  have HB1 := Lib.hid hb
  clear hF hb
  go_wp2_with fail
  refine (set_any w.heap.size 0 3 5 zer w1 HF1.out).mono ?_
  rintro e w2 ⟨rfl, hF, hg⟩
  have HF2 := Lib.hid hF
  have HB2 := Lib.hid (below_of_grown HB1.out hg HB1.out.size (Nat.le_refl _))
  clear hF hg
  go_wp2_with fail
  refine (set_any w.heap.size 0 0 5 _ w2 HF2.out).mono ?_
  rintro e w3 ⟨rfl, hF, hg⟩
  have HF3 := Lib.hid hF
  have HB3 := Lib.hid (below_of_grown HB2.out hg HB2.out.size (Nat.le_refl _))
  clear hF hg
  go_wp2_with fail
  refine (all_any w.heap.size 0 _ w3 HF3.out).mono ?_
  rintro e w4 ⟨rfl, hb⟩
  have HB4 := Lib.hid (HB3.out.trans (hb.mono HB3.out.size))
  clear hb
  rw [show arrV (setR (setR zer 3 5) 0 5) = arrV five from rfl]
  go_wp2
  go_ret
  exact ⟨rfl, HB4.out⟩
end Go.Proofs.Ytpjpobcdedlgbaa.Rg
