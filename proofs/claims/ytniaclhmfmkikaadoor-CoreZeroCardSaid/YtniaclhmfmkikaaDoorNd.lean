/- Package isa: Valid of both. -/
import Derived.Test.YtniaclhmfmkikaaDoorNb
namespace Go.Proofs.YtniaclhmfmkikaaDoor.Is
open Go.RowKit Ut
set_option linter.unusedVariables false
set_option maxRecDepth 100000
set_option maxHeartbeats 4000000

/-- an instruction -/
abbrev insV (o d a b m : Int) : Value := .agg #[.int .i64 o, .int .i64 d, .int .i64 a, .int .i64 b, .int .i64 m]
abbrev insW (o d a b m : Int) (w : World) : World := w.alloc (.cells #[.int .i64 o, .int .i64 d, .int .i64 a, .int .i64 b, .int .i64 m] 23)
theorem ins_below (o d a b m : Int) (w : World) : Below w.heap.size w (insW o d a b m w) := (Below.refl _ _).alloc (Nat.le_refl _) _

/-- an instruction's block -/
def InsAt (w : World) (p : Nat) (o d a b m : Int) : Prop := w.heap[p]? = some (.cells #[.int .i64 o, .int .i64 d, .int .i64 a, .int .i64 b, .int .i64 m] 23 (0, 0))
theorem InsAt.lt {w : World} {p : Nat} {o d a b m : Int} (h : InsAt w p o d a b m) : p < w.heap.size := (Array.getElem?_eq_some_iff.1 h).1
theorem InsAt.below {w w' : World} {p B : Nat} {o d a b m : Int} (h : InsAt w p o d a b m) (hb : Below B w w') (hB : p < B) : InsAt w' p o d a b m := (hb.block _ hB).trans h
theorem InsAt.more {w w' : World} {p : Nat} {o d a b m : Int} (h : InsAt w p o d a b m) (hb : Below w.heap.size w w') : InsAt w' p o d a b m := h.below hb h.lt
theorem InsAt.cells {w : World} {p : Nat} {o d a b m : Int} (h : InsAt w p o d a b m) : w.cell? ⟨p, 0, none⟩ = some (.int .i64 o) ∧ w.cell? ⟨p, 1, none⟩ = some (.int .i64 d) ∧ w.cell? ⟨p, 2, none⟩ = some (.int .i64 a) ∧ w.cell? ⟨p, 3, none⟩ = some (.int .i64 b) ∧ w.cell? ⟨p, 4, none⟩ = some (.int .i64 m) := by
  unfold InsAt at h
  refine ⟨?_, ?_, ?_, ?_, ?_⟩ <;> simp [World.cell?, h]
theorem InsAt.frozen {w : World} {p : Nat} {o d a b m : Int} (h : InsAt w p o d a b m) (j : Nat) (hj : j < 5) : w.frozen? ⟨p, j, none⟩ = false := by
  unfold InsAt at h
  match j, hj with
  | 0, _ | 1, _ | 2, _ | 3, _ | 4, _ => simp [World.frozen?, h]
  | j + 5, h => omega
theorem ins_at (o d a b m : Int) (w : World) : InsAt (insW o d a b m w) w.heap.size o d a b m := by
  unfold InsAt
  simpa using heap_alloc_new w (.cells #[.int .i64 o, .int .i64 d, .int .i64 a, .int .i64 b, .int .i64 m] 23)

theorem valid_out (o d a b m : Int) (h : o < 1 ∨ 41 < o) (w : World) :
    Calls Tryd.prog 9 #[insV o d a b m] w fun e w' => e = .returned (.bool false) ∧ Below w.heap.size w w' := by
  have hb := Lib.hid (ins_below o d a b m w)
  by_cases h1 : o < 1
  · go_enter Tryd.func9, Tryd.ntmps9
    go_wp2
    go_ret
    exact ⟨rfl, hb.out⟩
  · have h2 : 41 < o := by omega
    clear h
    go_enter Tryd.func9, Tryd.ntmps9
    go_wp2
    go_ret
    exact ⟨rfl, hb.out⟩
theorem valid_in (n : Nat) (d a b m : Int) (t1 t2 t3 : Bool) (l h : Int) (h1 : 1 ≤ n) (h2 : n ≤ 41) (e1 : fitB n 1 d = t1) (e2 : fitB n 2 a = t2) (e3 : fitB n 4 b = t3) (e4 : loZ n = l) (e5 : hiZ n = h) (w : World) (hw : HasT w) :
    Calls Tryd.prog 9 #[insV n d a b m] w fun e w' => e = .returned (.bool (t1 && t2 && t3 && decide (l ≤ m) && decide (m ≤ h))) ∧ Below w.heap.size w w' := by
  have hb := Lib.hid (ins_below n d a b m w)
  have HT := Lib.hid (hw.more hb.out)
  have E1 := Lib.hid e1
  have E2 := Lib.hid e2
  have E3 := Lib.hid e3
  have E4 := Lib.hid e4
  have E5 := Lib.hid e5
  have g1 : 1 ≤ (n : Int) := by omega
  have g2 : (n : Int) ≤ 41 := by omega
  have hn : Hid (n < 42) := Lib.hid (by omega)
  clear e1 e2 e3 e4 e5 h1 h2 hw
  cases t1
  · go_enter Tryd.func9, Tryd.ntmps9
    go_wp2_with fail
    refine (numbers_any n l h hn.out E4.out E5.out _ HT.out).mono ?_
    rintro e w1 ⟨rfl, rfl⟩
    go_wp2_with fail
    refine (fits_any n 1 d false hn.out (by omega) E1.out _ HT.out).mono ?_
    rintro e w1 ⟨rfl, rfl⟩
    go_wp2
    go_ret
    exact ⟨rfl, hb.out⟩
  cases t2
  · go_enter Tryd.func9, Tryd.ntmps9
    go_wp2_with fail
    refine (numbers_any n l h hn.out E4.out E5.out _ HT.out).mono ?_
    rintro e w1 ⟨rfl, rfl⟩
    go_wp2_with fail
    refine (fits_any n 1 d true hn.out (by omega) E1.out _ HT.out).mono ?_
    rintro e w1 ⟨rfl, rfl⟩
    go_wp2_with fail
    refine (fits_any n 2 a false hn.out (by omega) E2.out _ HT.out).mono ?_
    rintro e w1 ⟨rfl, rfl⟩
    go_wp2
    go_ret
    exact ⟨rfl, hb.out⟩
  cases t3
  · go_enter Tryd.func9, Tryd.ntmps9
    go_wp2_with fail
    refine (numbers_any n l h hn.out E4.out E5.out _ HT.out).mono ?_
    rintro e w1 ⟨rfl, rfl⟩
    go_wp2_with fail
    refine (fits_any n 1 d true hn.out (by omega) E1.out _ HT.out).mono ?_
    rintro e w1 ⟨rfl, rfl⟩
    go_wp2_with fail
    refine (fits_any n 2 a true hn.out (by omega) E2.out _ HT.out).mono ?_
    rintro e w1 ⟨rfl, rfl⟩
    go_wp2_with fail
    refine (fits_any n 4 b false hn.out (by omega) E3.out _ HT.out).mono ?_
    rintro e w1 ⟨rfl, rfl⟩
    go_wp2
    go_ret
    exact ⟨rfl, hb.out⟩
  by_cases hl : l ≤ m
  all_goals
    go_enter Tryd.func9, Tryd.ntmps9
    go_wp2_with fail
    refine (numbers_any n l h hn.out E4.out E5.out _ HT.out).mono ?_
    rintro e w1 ⟨rfl, rfl⟩
    go_wp2_with fail
    refine (fits_any n 1 d true hn.out (by omega) E1.out _ HT.out).mono ?_
    rintro e w1 ⟨rfl, rfl⟩
    go_wp2_with fail
    refine (fits_any n 2 a true hn.out (by omega) E2.out _ HT.out).mono ?_
    rintro e w1 ⟨rfl, rfl⟩
    go_wp2_with fail
    refine (fits_any n 4 b true hn.out (by omega) E3.out _ HT.out).mono ?_
    rintro e w1 ⟨rfl, rfl⟩
    go_wp2
    go_ret
    exact ⟨by first | (simp; omega) | (simp; done), hb.out⟩
theorem validB_in (n : Nat) (d a b m : Int) (h1 : 1 ≤ n) (h2 : n ≤ 41) : validB n d a b m = (fitB n 1 d && fitB n 2 a && fitB n 4 b && decide (loZ n ≤ m) && decide (m ≤ hiZ n)) := by
  unfold validB
  rw [show decide (1 ≤ (n : Int)) = true from decide_eq_true (by omega), show decide ((n : Int) ≤ 41) = true from decide_eq_true (by omega), Int.toNat_natCast]
  simp
theorem validB_out (o d a b m : Int) (h : o < 1 ∨ 41 < o) : validB o d a b m = false := by
  unfold validB
  rcases h with h | h
  · rw [show decide (1 ≤ o) = false from decide_eq_false (by omega)]; simp
  · rw [show decide (o ≤ 41) = false from decide_eq_false (by omega)]; simp
/-- Valid, any instruction -/
theorem valid_any (o d a b m : Int) (t : Bool) (ht : validB o d a b m = t) (w : World) (hw : HasT w) :
    Calls Tryd.prog 9 #[insV o d a b m] w fun e w' => e = .returned (.bool t) ∧ Below w.heap.size w w' := by
  subst ht
  by_cases h : o < 1 ∨ 41 < o
  · rw [validB_out o d a b m h]
    exact valid_out o d a b m h w
  · obtain ⟨n, rfl⟩ : ∃ n : Nat, o = n := ⟨o.toNat, by omega⟩
    rw [validB_in n d a b m (by omega) (by omega)]
    exact valid_in n d a b m _ _ _ _ _ (by omega) (by omega) rfl rfl rfl rfl rfl w hw

/-- the document's bound on the number of an operation -/
def immB (n : Nat) (m : Int) : Bool :=
  if n = 18 ∨ n = 19 ∨ n = 20 then decide (0 ≤ m) && decide (m ≤ 31) else if n = 37 ∨ n = 38 then decide (0 ≤ m) && decide (m < 9) else decide (-8192 ≤ m) && decide (m ≤ 8191)
theorem reg_fit (n k : Nat) (r : Int) : regB (hasN n &&& k != 0) r = fitB n k r := by
  unfold regB fitB
  by_cases h : hasN n &&& k = 0
  · simp [h]
  · rw [if_neg h, show (hasN n &&& k != 0) = true by simpa using h, Bool.eq_iff_iff]
    simp
    omega
theorem imm_same (n : Nat) (m : Int) (h1 : 1 ≤ n) (h2 : n ≤ 41) : ((hI n || m == 0) && immB n m) = (decide (loZ n ≤ m) && decide (m ≤ hiZ n)) := by
  have key := List.all_eq_true.1 (show (List.range 42).all (fun n => decide (n = 0) || decide ((hasN n &&& 8 ≠ 0 ∧ hI n = true ∧ ¬ (n = 18 ∨ n = 19 ∨ n = 20) ∧ ¬ (n = 37 ∨ n = 38)) ∨ (hasN n &&& 8 = 0 ∧ hasN n &&& 16 ≠ 0 ∧ hI n = true ∧ (n = 18 ∨ n = 19 ∨ n = 20)) ∨
    (hasN n &&& 8 = 0 ∧ hasN n &&& 16 = 0 ∧ hasN n &&& 32 ≠ 0 ∧ hI n = true ∧ ¬ (n = 18 ∨ n = 19 ∨ n = 20) ∧ (n = 37 ∨ n = 38)) ∨ (hasN n &&& 8 = 0 ∧ hasN n &&& 16 = 0 ∧ hasN n &&& 32 = 0 ∧ hI n = false ∧ ¬ (n = 18 ∨ n = 19 ∨ n = 20) ∧ ¬ (n = 37 ∨ n = 38)))) = true by decide +kernel) n (List.mem_range.2 (by omega))
  rw [Bool.or_eq_true, decide_eq_true_eq, decide_eq_true_eq] at key
  unfold immB loZ hiZ
  rcases key with h | ⟨k8, hi, p, c⟩ | ⟨k8, k16, hi, p⟩ | ⟨k8, k16, k32, hi, p, c⟩ | ⟨k8, k16, k32, hi, p, c⟩
  · omega
  · rw [if_neg p, if_neg c, if_pos k8, if_pos k8, hi]; simp
  · rw [if_pos p, if_neg (by simpa using k8), if_neg (by simpa using k8), if_pos k16, hi]; simp
  · rw [if_neg p, if_pos c, if_neg (by simpa using k8), if_neg (by simpa using k8), if_neg (by simpa using k16), if_pos k32, hi, Bool.eq_iff_iff]; simp; omega
  · rw [if_neg p, if_neg c, if_neg (by simpa using k8), if_neg (by simpa using k8), if_neg (by simpa using k16), if_neg (by simpa using k32), hi, Bool.eq_iff_iff]; simp; omega
end Go.Proofs.YtniaclhmfmkikaaDoor.Is
