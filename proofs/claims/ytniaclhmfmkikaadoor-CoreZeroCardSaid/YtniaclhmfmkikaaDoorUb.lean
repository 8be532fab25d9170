/- Package csr: a file's block told by its guest's number and its registers; New, begin, isMade; the closures over the status. -/
import Derived.Test.YtniaclhmfmkikaaDoorUa
namespace Go.Proofs.YtniaclhmfmkikaaDoor.Cs
open Go.RowKit Ut
set_option maxRecDepth 100000
set_option linter.unusedVariables false

def wordV (x : Nat) : Value := .int .u32 (x : Int)
def wordsV (R : List Nat) : List Value := R.map wordV
/-- a file's cells: made, the guest's number, its registers -/
def fCells (i : Nat) (R : List Nat) : List Value := .bool true :: .int .i64 (i : Int) :: wordsV R
structure Ok (R : List Nat) : Prop where
  len : R.length = 7
  word : ∀ x ∈ R, x < 4294967296
  stat : R.getD 5 0 < 16
def FAt (w : World) (b i : Nat) (R : List Nat) : Prop := Blk w b 37 (fCells i R) ∧ Ok R ∧ i < 4
def zer : List Nat := [0, 0, 0, 0, 0, 0, 0]
def ini : List Nat := [0, 0, 0, 0, 0, 4, 0]
theorem ok_zer : Ok zer := ⟨rfl, by decide, by decide⟩
theorem ok_ini : Ok ini := ⟨rfl, by decide, by decide⟩
theorem Ok.reg {R : List Nat} (h : Ok R) (k : Nat) : R.getD k 0 < 4294967296 := by
  by_cases hk : k < R.length
  · rw [List.getD_eq_getElem?_getD, List.getElem?_eq_getElem hk]
    exact h.word _ (List.getElem_mem hk)
  · rw [List.getD_eq_getElem?_getD, List.getElem?_eq_none (by omega)]
    decide
theorem Ok.set {R : List Nat} (h : Ok R) {k v : Nat} (hv : v < 4294967296) (h5 : k = 5 → v < 16) : Ok (R.set k v) := by
  refine ⟨by rw [List.length_set]; exact h.len, fun x hx => ?_, ?_⟩
  · rcases List.mem_or_eq_of_mem_set hx with h' | h'
    · exact h.word x h'
    · rw [h']; exact hv
  · have hl := h.len
    by_cases e : k = 5
    · subst e
      rw [List.getD_eq_getElem?_getD, List.getElem?_set_self (by omega)]
      exact h5 rfl
    · have hs := h.stat
      rw [List.getD_eq_getElem?_getD] at hs ⊢
      rw [List.getElem?_set_ne (by omega)]
      exact hs

section
variable {w w' : World} {b i : Nat} {R : List Nat}
theorem FAt.below {B : Nat} (h : FAt w b i R) (hb : Below B w w') (hB : b < B) : FAt w' b i R := ⟨h.1.below hb hB, h.2⟩
theorem FAt.kept {row : Option Nat} (h : FAt w b i R) (hg : w.grownBy w' row) (hr : some b ≠ row) : FAt w' b i R := ⟨h.1.kept hg hr, h.2⟩
theorem FAt.cell0 (h : FAt w b i R) : w.cell? ⟨b, 0, none⟩ = some (.bool true) := h.1.cell rfl
theorem FAt.cell1 (h : FAt w b i R) : w.cell? ⟨b, 1, none⟩ = some (.int .i64 (i : Int)) := h.1.cell rfl
theorem fCells_reg (i : Nat) (R : List Nat) (k : Nat) (hk : k < R.length) : (fCells i R)[2 + k]? = some (.int .u32 ((R.getD k 0 : Nat) : Int)) := by
  have e : 2 + k = k + 1 + 1 := by omega
  simp [fCells, wordsV, wordV, e, List.getD, hk]
theorem FAt.reg (h : FAt w b i R) (k : Nat) (hk : k < 7) : w.cell? ⟨b, 2 + k, none⟩ = some (.int .u32 ((R.getD k 0 : Nat) : Int)) := h.1.cell (fCells_reg i R k (by rw [h.2.1.len]; exact hk))
theorem FAt.set (h : FAt w b i R) (k v : Nat) (hv : v < 4294967296) (h5 : k = 5 → v < 16) : FAt (w.setCell ⟨b, 2 + k, none⟩ (.int .u32 (v : Int))) b i (R.set k v) := by
  refine ⟨?_, h.2.1.set hv h5, h.2.2⟩
  have := h.1.set (2 + k) (.int .u32 (v : Int))
  have e : 2 + k = k + 1 + 1 := by omega
  rw [e] at this ⊢
  simpa [fCells, wordsV, wordV, List.map_set] using this
theorem fCells_words (i : Nat) (R : List Nat) : ∀ j v, (wordsV R)[j]? = some v → (fCells i R)[2 + j]? = some v := fun j v h => by
  have e : 2 + j = j + 1 + 1 := by omega
  simp [fCells, e, h]
end
theorem size_words (R : List Nat) (h : R.length = 7) : (Tryd.prog.info? 35).map (·.size) = some (wordsV R).length := by
  rw [show (wordsV R).length = 7 by simp [wordsV, h]]; kernel_rfl
theorem one_words (R : List Nat) : ∀ v ∈ wordsV R, v.oneCell' = true := fun v hv => by
  obtain ⟨z, _, rfl⟩ := List.mem_map.1 hv; rfl
theorem built_ini : Tryd.prog.built 35 [(5, .int .u32 4)] = some (wordsV ini).toArray := by kernel_rfl
theorem splice_words (i : Nat) (R Q : List Nat) (hR : R.length = 7) (hQ : Q.length = 7) : splice (fCells i R) 2 (wordsV Q) = fCells i Q := by
  unfold splice fCells
  have e : (wordsV Q).length = (wordsV R).length := by simp [wordsV, hR, hQ]
  simp [e]
  omega

theorem begin_any (b i : Nat) (R : List Nat) (w : World) (h : FAt w b i R) :
    Calls Tryd.prog 7 #[.pointer (some ⟨b, 0, none⟩)] w fun e w' => e = .returned (.tuple #[]) ∧ FAt w' b i ini ∧ w.grownBy w' (some b) := by
  have HF := Lib.hid h
  have HS : Hid (FAt (w.setRow b (splice (fCells i R) 2 (wordsV ini)).toArray) b i ini) := by
    refine ⟨?_, ok_ini, h.2.2⟩
    rw [splice_words i R ini h.2.1.len rfl]
    exact h.1.row _
  have HG := Lib.hid (grown_row (Below.refl w.heap.size w) b (splice (fCells i R) 2 (wordsV ini)).toArray)
  clear h
  go_enter Tryd.func7, Tryd.ntmps7
  go_upto_region 0 with fail
  refine wp_region_lit ?_
  refine Great.wpList_readTo rfl _ rfl (.pointer (some ⟨b, 0, none⟩)) (by kernel_rfl) ?_
  refine Great.wpList_readTo rfl _ rfl (.agg (wordsV ini).toArray) (by kernel_rfl) ?_
  refine Great.wpList_readTo rfl _ rfl (.pointer (some ⟨b, 0, none⟩)) (by kernel_rfl) ?_
  refine Great.wpList_readTo rfl _ rfl (.pointer (some ⟨b, 2, none⟩)) (by kernel_rfl) ?_
  refine wpList_store_cells rfl 35 _ _ rfl b 2 37 (fCells i R) (wordsV ini) (by kernel_rfl) (by kernel_rfl) HF.out.1 (size_words ini rfl) (by simp [fCells, wordsV, HF.out.2.1.len, ini]) (one_words ini) ?_
  generalize w.setRow b (splice (fCells i R) 2 (wordsV ini)).toArray = W2 at HS HG ⊢
  go_wp2
  go_end0
  exact ⟨rfl, HS.out, HG.out⟩

theorem made_nil (w : World) : Calls Tryd.prog 55 #[.pointer none] w fun e w' => e = .returned (.bool false) ∧ w = w' := by
  go_enter Tryd.func55, Tryd.ntmps55
  go_wp2
  go_ret
  exact ⟨rfl, rfl⟩
theorem made_is (b : Nat) (m : Bool) (w : World) (h : w.cell? ⟨b, 0, none⟩ = some (.bool m)) : Calls Tryd.prog 55 #[.pointer (some ⟨b, 0, none⟩)] w fun e w' => e = .returned (.bool m) ∧ w = w' := by
  go_enter Tryd.func55, Tryd.ntmps55
  go_wp2
  go_ret
  exact ⟨rfl, rfl⟩

theorem new_no (n : Int) (w : World) (h : n < 0 ∨ 4 ≤ n) : Calls Tryd.prog 5 #[.int .i64 n] w fun e w' => e = .returned (.tuple #[.pointer none, .int .i64 1]) ∧ w = w' := by
  rcases Int.lt_or_le n 0 with h0 | h0
  · have h1 : decide (n < 0) = true := by simpa using h0
    go_enter Tryd.func5, Tryd.ntmps5
    go_wp2
    go_ret2
    exact ⟨rfl, rfl⟩
  · have h1 : decide (n < 0) = false := by simpa using h0
    have h2 : decide (4 ≤ n) = true := by simp; omega
    go_enter Tryd.func5, Tryd.ntmps5
    go_wp2
    go_ret2
    exact ⟨rfl, rfl⟩
theorem new_yes (i : Nat) (w : World) (h : i < 4) : Calls Tryd.prog 5 #[.int .i64 (i : Int)] w fun e w' => e = .returned (.tuple #[.pointer (some ⟨w.heap.size, 0, none⟩), .int .i64 0]) ∧ FAt w' w.heap.size i ini ∧ Below w.heap.size w w' := by
  have h1 : decide ((i : Int) < 0) = false := by simp
  have h2 : decide ((4 : Int) ≤ (i : Int)) = false := by simp; omega
  have hF : FAt (w.alloc (.cells (fCells i zer).toArray 37)) w.heap.size i zer := ⟨Blk.new w _ _, ok_zer, h⟩
  have HF := Lib.hid hF
  have HB := Lib.hid ((Below.refl w.heap.size w).alloc (Nat.le_refl _) (.cells (fCells i zer).toArray 37))
  clear hF h
  go_enter Tryd.func5, Tryd.ntmps5
  go_upto_region 3 with fail
  refine wp_region_lit ?_
  refine Great.wpList_readTo rfl _ rfl (.int .i64 (i : Int)) (by kernel_rfl) ?_
  refine wpList_buildTo rfl 37 _ rfl _ rfl (fCells i zer).toArray (by kernel_rfl) ?_
  refine Great.wpList_boxTo rfl 37 _ rfl _ rfl w.heap.size rfl (fCells i zer).toArray rfl ?_
  obtain ⟨W, hW⟩ : ∃ W, W = w.alloc (.cells (fCells i zer).toArray 37) := ⟨_, rfl⟩
  rw [← hW] at HF HB ⊢
  clear hW
  go_wp2_with fail
  refine (begin_any w.heap.size i zer W HF.out).mono ?_
  rintro e w1 ⟨rfl, hF, hg⟩
  have HF1 := Lib.hid hF
  have HB1 := Lib.hid (below_of_grown HB.out hg HB.out.size (Nat.le_refl _))
  clear hF hg
  go_wp2
  go_ret2
  exact ⟨rfl, HF1.out, HB1.out⟩

/-- the closures' variable: where the status lies -/
def Var (w : World) (g b : Nat) : Prop := Blk w g 90 [.pointer (some ⟨b, 7, none⟩)]
theorem asker_any (b i : Nat) (R : List Nat) (w : World) (h : FAt w b i R) :
    Calls Tryd.prog 56 #[.pointer (some ⟨b, 0, none⟩)] w fun e w' => e = .returned (.func (.func 64) #[] #[.pointer (some ⟨w.heap.size, 0, none⟩)]) ∧ Var w' w.heap.size b ∧ Below w.heap.size w w' := by
  have HV : Hid (Var (w.alloc (.cells #[.pointer (some ⟨b, 7, none⟩)] 90)) w.heap.size b) := Blk.new w _ _
  have HB := Lib.hid ((Below.refl w.heap.size w).alloc (Nat.le_refl _) (.cells #[.pointer (some ⟨b, 7, none⟩)] 90))
  clear h
  go_enter Tryd.func56, Tryd.ntmps56
  go_wp2
  go_ret
  exact ⟨rfl, HV.out, HB.out⟩
theorem putter_any (b i : Nat) (R : List Nat) (w : World) (h : FAt w b i R) :
    Calls Tryd.prog 66 #[.pointer (some ⟨b, 0, none⟩)] w fun e w' => e = .returned (.func (.func 88) #[] #[.pointer (some ⟨w.heap.size, 0, none⟩)]) ∧ Var w' w.heap.size b ∧ Below w.heap.size w w' := by
  have HV : Hid (Var (w.alloc (.cells #[.pointer (some ⟨b, 7, none⟩)] 90)) w.heap.size b) := Blk.new w _ _
  have HB := Lib.hid ((Below.refl w.heap.size w).alloc (Nat.le_refl _) (.cells #[.pointer (some ⟨b, 7, none⟩)] 90))
  clear h
  go_enter Tryd.func66, Tryd.ntmps66
  go_wp2
  go_ret
  exact ⟨rfl, HV.out, HB.out⟩
theorem is_any (b g i k : Nat) (R : List Nat) (w : World) (h : FAt w b i R) (hg : Var w g b) (hk : k < 4294967296) :
    Calls Tryd.prog 64 #[.int .u32 (k : Int), .pointer (some ⟨g, 0, none⟩)] w fun e w' => e = .returned (.bool (hasB (R.getD 5 0) k)) ∧ w = w' := by
  have c0 : w.cell? ⟨g, 0, none⟩ = some (.pointer (some ⟨b, 7, none⟩)) := hg.cell rfl
  have c1 := h.reg 5 (by decide)
  have HB := Lib.hid (u32_and_nat (R.getD 5 0) k (h.2.1.reg 5) hk)
  clear h hg hk
  generalize R.getD 5 0 = s at c1 HB ⊢
  go_enter Tryd.func64, Tryd.ntmps64
  go_wp2
  go_ret
  refine ⟨?_, rfl⟩
  rw [HB.out]
  unfold hasB
  have e : (((s &&& k : Nat) : Int) != 0) = (s &&& k != 0) := by
    rw [Bool.eq_iff_iff]
    simp
  rw [e]
  rfl
theorem put_any (b g i k : Nat) (on : Bool) (R : List Nat) (w : World) (h : FAt w b i R) (hg : Var w g b) (hk : k < 16) :
    Calls Tryd.prog 88 #[.int .u32 (k : Int), .bool on, .pointer (some ⟨g, 0, none⟩)] w fun e w' => e = .returned (.tuple #[]) ∧ FAt w' b i (R.set 5 (putS (R.getD 5 0) k on)) ∧ w.grownBy w' (some b) := by
  have c0 : w.cell? ⟨g, 0, none⟩ = some (.pointer (some ⟨b, 7, none⟩)) := hg.cell rfl
  have c1 := h.reg 5 (by decide)
  have hf := h.1.frozen 7
  have hs := h.2.1.stat
  have e1 := u32_andNot_nat (R.getD 5 0) k (h.2.1.reg 5) (by omega)
  have hlt : R.getD 5 0 &&& (4294967295 - k) < 16 := Nat.lt_of_le_of_lt Nat.and_le_left hs
  have hF1 := h.set 5 (R.getD 5 0 &&& (4294967295 - k)) (by omega) (fun _ => hlt)
  have hG1 := grown_setCell w b 7 (.int .u32 ((R.getD 5 0 &&& (4294967295 - k) : Nat) : Int))
  have hne : g ≠ b := by
    intro e
    subst e
    have h1 := h.1.cell (j := 0) rfl
    rw [c0] at h1
    cases h1
  have hl := h.2.1.len
  have hV1 : Var (w.setCell ⟨b, 7, none⟩ (.int .u32 ((R.getD 5 0 &&& (4294967295 - k) : Nat) : Int))) g b := hg.kept hG1 (fun e => hne (by injection e))
  cases on
  · have HF := Lib.hid hF1
    have HG := Lib.hid hG1
    have HE : Hid (putS (R.getD 5 0) k false = R.getD 5 0 &&& (4294967295 - k)) := rfl
    generalize putS (R.getD 5 0) k false = q at HE ⊢
    clear h hg hk hF1 hG1 hs hl hV1 hne
    rw [HE.out]
    clear HE
    generalize R.getD 5 0 &&& (4294967295 - k) = p at *
    generalize R.getD 5 0 = s at *
    go_enter Tryd.func88, Tryd.ntmps88
    go_wp2
    go_end0
    exact ⟨rfl, HF.out, HG.out⟩
  · have HE : Hid (putS (R.getD 5 0) k true = (R.getD 5 0 &&& (4294967295 - k)) ||| k) := rfl
    have hlt2 : (R.getD 5 0 &&& (4294967295 - k)) ||| k < 16 := Nat.or_lt_two_pow (n := 4) hlt hk
    have e2 := u32_or_nat (R.getD 5 0 &&& (4294967295 - k)) k (by omega) (by omega)
    have hF2 := hF1.set 5 ((R.getD 5 0 &&& (4294967295 - k)) ||| k) (by omega) (fun _ => hlt2)
    have hG2 := grown_trans hG1 (grown_setCell _ b 7 (.int .u32 (((R.getD 5 0 &&& (4294967295 - k)) ||| k : Nat) : Int)))
    rw [List.set_set] at hF2
    have c2 := hF1.reg 5 (by decide)
    have e3 : (R.set 5 (R.getD 5 0 &&& (4294967295 - k))).getD 5 0 = R.getD 5 0 &&& (4294967295 - k) := by
      rw [List.getD_eq_getElem?_getD, List.getElem?_set_self (by omega)]
      rfl
    rw [e3] at c2
    have c3 : (w.setCell ⟨b, 7, none⟩ (.int .u32 ((R.getD 5 0 &&& (4294967295 - k) : Nat) : Int))).cell? ⟨g, 0, none⟩ = some (.pointer (some ⟨b, 7, none⟩)) := hV1.cell rfl
    have hf2 := hF1.1.frozen 7
    generalize putS (R.getD 5 0) k true = q at HE ⊢
    have HF := Lib.hid hF2
    have HG := Lib.hid hG2
    have HC := Lib.hid (And.intro c2 (And.intro c3 hf2))
    clear h hg hk hF1 hG1 hs hl hV1 hne hF2 hG2 e3 hlt hlt2 c2 c3 hf2
    rw [HE.out]
    clear HE
    generalize (R.getD 5 0 &&& (4294967295 - k)) ||| k = t at *
    generalize R.getD 5 0 &&& (4294967295 - k) = p at *
    generalize R.getD 5 0 = s at *
    go_enter Tryd.func88, Tryd.ntmps88
    go_upto_region 2 with fail
    generalize w.setCell ⟨b, 7, none⟩ (.int .u32 (p : Int)) = W1 at HF HG HC ⊢
    obtain ⟨c2, c3, hf2⟩ := HC.out
    clear HC c0 c1 hf e1
    go_wp2
    go_end0
    exact ⟨rfl, HF.out, HG.out⟩
end Go.Proofs.YtniaclhmfmkikaaDoor.Cs
