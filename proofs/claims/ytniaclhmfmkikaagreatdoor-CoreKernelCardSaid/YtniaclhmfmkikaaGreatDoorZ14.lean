/- Several texts in one: Nb Nd -/
import Derived.Test.YtniaclhmfmkikaaGreatDoorZ13
section
/- Package isa: Kernel, cut; the document's reg, Has, Kernel. -/
namespace Go.Proofs.YtniaclhmfmkikaaGreatDoor.Is
open Go.RowKit Ut
set_option linter.unusedVariables false
set_option maxRecDepth 100000
set_option maxHeartbeats 4000000

theorem kernel_any (o : Int) (t : Bool) (ht : kernB o = t) (w : World) :
    Calls Tryz.prog 18 #[.int .i64 o] w fun e w' => e = .returned (.bool t) ∧ w = w' := by
  subst ht
  by_cases h : o = 35 ∨ o = 36 ∨ o = 37 ∨ o = 38 ∨ o = 39 ∨ o = 40
  · rcases h with rfl | rfl | rfl | rfl | rfl | rfl
    all_goals
      go_enter Tryz.func18, Tryz.ntmps18
      go_wp2
      go_ret
      exact ⟨rfl, rfl⟩
  · have e : kernB o = false := by unfold kernB; simp; omega
    rw [e]
    have h35 : (o == 35) = false := by rw [beq_eq_false_iff_ne]; omega
    have h36 : (o == 36) = false := by rw [beq_eq_false_iff_ne]; omega
    have h37 : (o == 37) = false := by rw [beq_eq_false_iff_ne]; omega
    have h38 : (o == 38) = false := by rw [beq_eq_false_iff_ne]; omega
    have h39 : (o == 39) = false := by rw [beq_eq_false_iff_ne]; omega
    have h40 : (o == 40) = false := by rw [beq_eq_false_iff_ne]; omega
    clear h e
    go_enter Tryz.func18, Tryz.ntmps18
    go_wp2
    go_ret
    exact ⟨rfl, rfl⟩
theorem refKernel_any (o : Int) (t : Bool) (ht : kernB o = t) (w : World) :
    Calls Tryz.prog 32 #[.int .i64 o] w fun e w' => e = .returned (.bool t) ∧ w = w' := by
  subst ht
  by_cases h : o = 35 ∨ o = 36 ∨ o = 37 ∨ o = 38 ∨ o = 39 ∨ o = 40
  · rcases h with rfl | rfl | rfl | rfl | rfl | rfl
    all_goals
      go_enter Tryz.func32, Tryz.ntmps32
      go_wp2
      go_ret
      exact ⟨rfl, rfl⟩
  · have e : kernB o = false := by unfold kernB; simp; omega
    rw [e]
    have h35 : (o == 35) = false := by rw [beq_eq_false_iff_ne]; omega
    have h36 : (o == 36) = false := by rw [beq_eq_false_iff_ne]; omega
    have h37 : (o == 37) = false := by rw [beq_eq_false_iff_ne]; omega
    have h38 : (o == 38) = false := by rw [beq_eq_false_iff_ne]; omega
    have h39 : (o == 39) = false := by rw [beq_eq_false_iff_ne]; omega
    have h40 : (o == 40) = false := by rw [beq_eq_false_iff_ne]; omega
    clear h e
    go_enter Tryz.func32, Tryz.ntmps32
    go_wp2
    go_ret
    exact ⟨rfl, rfl⟩

/-- the document's reg -/
def regB (t : Bool) (n : Int) : Bool := n == 0 || (t && decide (0 < n) && decide (n < 16))
theorem reg_any (h : Bool) (n : Int) (t : Bool) (ht : regB h n = t) (w : World) :
    Calls Tryz.prog 46 #[.bool h, .int .i64 n] w fun e w' => e = .returned (.bool t) ∧ w = w' := by
  subst ht
  by_cases h0 : n = 0
  · subst h0
    go_enter Tryz.func46, Tryz.ntmps46
    go_wp2
    go_ret
    exact ⟨rfl, rfl⟩
  · have e0 : (n == 0) = false := by rw [beq_eq_false_iff_ne]; omega
    cases h
    · go_enter Tryz.func46, Tryz.ntmps46
      go_wp2
      go_ret
      exact ⟨by simp [regB, e0], rfl⟩
    · by_cases h1 : 0 < n
      · go_enter Tryz.func46, Tryz.ntmps46
        go_wp2
        go_ret
        exact ⟨by first | (simp [regB, e0]; omega) | (simp [regB, e0]; done), rfl⟩
      · go_enter Tryz.func46, Tryz.ntmps46
        go_wp2
        go_ret
        exact ⟨by first | (simp [regB, e0]; omega) | (simp [regB, e0]; done), rfl⟩
/-- what the document's Has says of an operation -/
def hD (n : Nat) : Bool := hasN n &&& 1 != 0
def hA (n : Nat) : Bool := hasN n &&& 2 != 0
def hB (n : Nat) : Bool := hasN n &&& 4 != 0
def hI (n : Nat) : Bool := hasN n &&& 56 != 0
theorem refHas_any (n : Nat) (h1 : 1 ≤ n) (h2 : n ≤ 41) (w : World) :
    Calls Tryz.prog 45 #[.int .i64 n] w fun e w' => e = .returned (.tuple #[.bool (hD n), .bool (hA n), .bool (hB n), .bool (hI n)]) ∧ w = w' := by
  rcases (show n = 1 ∨ n = 2 ∨ n = 3 ∨ n = 4 ∨ n = 5 ∨ n = 6 ∨ n = 7 ∨ n = 8 ∨ n = 9 ∨ n = 10 ∨ n = 11 ∨ n = 12 ∨ n = 13 ∨ n = 14 ∨ n = 15 ∨ n = 16 ∨ n = 17 ∨ n = 18 ∨ n = 19 ∨ n = 20 ∨ n = 21 ∨ n = 22 ∨ n = 23 ∨ n = 24 ∨ n = 25 ∨ n = 26 ∨ n = 27 ∨ n = 28 ∨ n = 29 ∨ n = 30 ∨ n = 31 ∨ n = 32 ∨ n = 33 ∨ n = 34 ∨ n = 35 ∨ n = 36 ∨ n = 37 ∨ n = 38 ∨ n = 39 ∨ n = 40 ∨ n = 41 by omega) with rfl | rfl | rfl | rfl | rfl | rfl | rfl | rfl | rfl | rfl | rfl | rfl | rfl | rfl | rfl | rfl | rfl | rfl | rfl | rfl | rfl | rfl | rfl | rfl | rfl | rfl | rfl | rfl | rfl | rfl | rfl | rfl | rfl | rfl | rfl | rfl | rfl | rfl | rfl | rfl | rfl
  all_goals
    clear h1 h2
    go_enter Tryz.func45, Tryz.ntmps45
    go_wp2
    first
      | exact bodyPost_ret (v := .tuple #[.bool true, .bool true, .bool true, .bool false]) (by simp [results, Tryz.results45, go_sem]) rfl ⟨rfl, rfl⟩
      | exact bodyPost_ret (v := .tuple #[.bool true, .bool true, .bool false, .bool true]) (by simp [results, Tryz.results45, go_sem]) rfl ⟨rfl, rfl⟩
      | exact bodyPost_ret (v := .tuple #[.bool true, .bool false, .bool false, .bool true]) (by simp [results, Tryz.results45, go_sem]) rfl ⟨rfl, rfl⟩
      | exact bodyPost_ret (v := .tuple #[.bool false, .bool true, .bool true, .bool true]) (by simp [results, Tryz.results45, go_sem]) rfl ⟨rfl, rfl⟩
      | exact bodyPost_ret (v := .tuple #[.bool false, .bool true, .bool false, .bool true]) (by simp [results, Tryz.results45, go_sem]) rfl ⟨rfl, rfl⟩
      | exact bodyPost_ret (v := .tuple #[.bool false, .bool false, .bool false, .bool false]) (by simp [results, Tryz.results45, go_sem]) rfl ⟨rfl, rfl⟩
end Go.Proofs.YtniaclhmfmkikaaGreatDoor.Is
end
section
/- Package isa: Valid of both. -/
namespace Go.Proofs.YtniaclhmfmkikaaGreatDoor.Is
open Go.RowKit Ut
set_option linter.unusedVariables false
set_option maxRecDepth 100000
set_option maxHeartbeats 4000000

/-- an instruction -/
abbrev insV (o d a b m : Int) : Value := .agg #[.int .i64 o, .int .i64 d, .int .i64 a, .int .i64 b, .int .i64 m]
abbrev insW (o d a b m : Int) (w : World) : World := w.alloc (.cells #[.int .i64 o, .int .i64 d, .int .i64 a, .int .i64 b, .int .i64 m] 37)
theorem ins_below (o d a b m : Int) (w : World) : Below w.heap.size w (insW o d a b m w) := (Below.refl _ _).alloc (Nat.le_refl _) _

/-- an instruction's block -/
def InsAt (w : World) (p : Nat) (o d a b m : Int) : Prop := w.heap[p]? = some (.cells #[.int .i64 o, .int .i64 d, .int .i64 a, .int .i64 b, .int .i64 m] 37 (0, 0))
theorem InsAt.lt {w : World} {p : Nat} {o d a b m : Int} (h : InsAt w p o d a b m) : p < w.heap.size := (Array.getElem?_eq_some_iff.1 h).1
theorem InsAt.below {w w' : World} {p B : Nat} {o d a b m : Int} (h : InsAt w p o d a b m) (hb : Below B w w') (hB : p < B) : InsAt w' p o d a b m := (hb.block _ hB).trans h
theorem InsAt.more {w w' : World} {p : Nat} {o d a b m : Int} (h : InsAt w p o d a b m) (hb : Below w.heap.size w w') : InsAt w' p o d a b m := h.below hb h.lt
theorem InsAt.cells {w : World} {p : Nat} {o d a b m : Int} (h : InsAt w p o d a b m) : w.cell? ⟨p, 0, none⟩ = some (.int .i64 o) ∧ w.cell? ⟨p, 1, none⟩ = some (.int .i64 d) ∧ w.cell? ⟨p, 2, none⟩ = some (.int .i64 a) ∧ w.cell? ⟨p, 3, none⟩ = some (.int .i64 b) ∧ w.cell? ⟨p, 4, none⟩ = some (.int .i64 m) := by
  unfold InsAt at h
  refine ⟨?_, ?_, ?_, ?_, ?_⟩ <;> simp [World.cell?, h]
theorem InsAt.frozen {w : World} {p : Nat} {o d a b m : Int} (h : InsAt w p o d a b m) (j : Nat) (hj : j < 5) : w.frozen? ⟨p, j, none⟩ = false := by
  unfold InsAt at h
  match j, hj with
  | 0, _ | 1, _ | 2, _ | 3, _ | 4, _ => simp [World.frozen?, h]
  | j + 5, h => omega
theorem ins_at (o d a b m : Int) (w : World) : InsAt (insW o d a b m w) w.heap.size o d a b m := by
  unfold InsAt
  simpa using heap_alloc_new w (.cells #[.int .i64 o, .int .i64 d, .int .i64 a, .int .i64 b, .int .i64 m] 37)

theorem valid_out (o d a b m : Int) (h : o < 1 ∨ 41 < o) (w : World) :
    Calls Tryz.prog 29 #[insV o d a b m] w fun e w' => e = .returned (.bool false) ∧ Below w.heap.size w w' := by
  have hb := Lib.hid (ins_below o d a b m w)
  by_cases h1 : o < 1
  · go_enter Tryz.func29, Tryz.ntmps29
    go_wp2
    go_ret
    exact ⟨rfl, hb.out⟩
  · have h2 : 41 < o := by omega
    clear h
    go_enter Tryz.func29, Tryz.ntmps29
    go_wp2
    go_ret
    exact ⟨rfl, hb.out⟩
theorem valid_in (n : Nat) (d a b m : Int) (t1 t2 t3 : Bool) (l h : Int) (h1 : 1 ≤ n) (h2 : n ≤ 41) (e1 : fitB n 1 d = t1) (e2 : fitB n 2 a = t2) (e3 : fitB n 4 b = t3) (e4 : loZ n = l) (e5 : hiZ n = h) (w : World) (hw : HasT w) :
    Calls Tryz.prog 29 #[insV n d a b m] w fun e w' => e = .returned (.bool (t1 && t2 && t3 && decide (l ≤ m) && decide (m ≤ h))) ∧ Below w.heap.size w w' := by
  have hb := Lib.hid (ins_below n d a b m w)
  have HT := Lib.hid (hw.more hb.out)
  have E1 := Lib.hid e1
  have E2 := Lib.hid e2
  have E3 := Lib.hid e3
  have E4 := Lib.hid e4
  have E5 := Lib.hid e5
  have g1 : 1 ≤ (n : Int) := by omega
  have g2 : (n : Int) ≤ 41 := by omega
  have hn : Hid (n < 42) := Lib.hid (by omega)
  clear e1 e2 e3 e4 e5 h1 h2 hw
  cases t1
  · go_enter Tryz.func29, Tryz.ntmps29
    go_wp2_with fail
    refine (numbers_any n l h hn.out E4.out E5.out _ HT.out).mono ?_
    rintro e w1 ⟨rfl, rfl⟩
    go_wp2_with fail
    refine (fits_any n 1 d false hn.out (by omega) E1.out _ HT.out).mono ?_
    rintro e w1 ⟨rfl, rfl⟩
    go_wp2
    go_ret
    exact ⟨rfl, hb.out⟩
  cases t2
  · go_enter Tryz.func29, Tryz.ntmps29
    go_wp2_with fail
    refine (numbers_any n l h hn.out E4.out E5.out _ HT.out).mono ?_
    rintro e w1 ⟨rfl, rfl⟩
    go_wp2_with fail
    refine (fits_any n 1 d true hn.out (by omega) E1.out _ HT.out).mono ?_
    rintro e w1 ⟨rfl, rfl⟩
    go_wp2_with fail
    refine (fits_any n 2 a false hn.out (by omega) E2.out _ HT.out).mono ?_
    rintro e w1 ⟨rfl, rfl⟩
    go_wp2
    go_ret
    exact ⟨rfl, hb.out⟩
  cases t3
  · go_enter Tryz.func29, Tryz.ntmps29
    go_wp2_with fail
    refine (numbers_any n l h hn.out E4.out E5.out _ HT.out).mono ?_
    rintro e w1 ⟨rfl, rfl⟩
    go_wp2_with fail
    refine (fits_any n 1 d true hn.out (by omega) E1.out _ HT.out).mono ?_
    rintro e w1 ⟨rfl, rfl⟩
    go_wp2_with fail
    refine (fits_any n 2 a true hn.out (by omega) E2.out _ HT.out).mono ?_
    rintro e w1 ⟨rfl, rfl⟩
    go_wp2_with fail
    refine (fits_any n 4 b false hn.out (by omega) E3.out _ HT.out).mono ?_
    rintro e w1 ⟨rfl, rfl⟩
    go_wp2
    go_ret
    exact ⟨rfl, hb.out⟩
  by_cases hl : l ≤ m
  all_goals
    go_enter Tryz.func29, Tryz.ntmps29
    go_wp2_with fail
    refine (numbers_any n l h hn.out E4.out E5.out _ HT.out).mono ?_
    rintro e w1 ⟨rfl, rfl⟩
    go_wp2_with fail
    refine (fits_any n 1 d true hn.out (by omega) E1.out _ HT.out).mono ?_
    rintro e w1 ⟨rfl, rfl⟩
    go_wp2_with fail
    refine (fits_any n 2 a true hn.out (by omega) E2.out _ HT.out).mono ?_
    rintro e w1 ⟨rfl, rfl⟩
    go_wp2_with fail
    refine (fits_any n 4 b true hn.out (by omega) E3.out _ HT.out).mono ?_
    rintro e w1 ⟨rfl, rfl⟩
    go_wp2
    go_ret
    exact ⟨by first | (simp; omega) | (simp; done), hb.out⟩
theorem validB_in (n : Nat) (d a b m : Int) (h1 : 1 ≤ n) (h2 : n ≤ 41) : validB n d a b m = (fitB n 1 d && fitB n 2 a && fitB n 4 b && decide (loZ n ≤ m) && decide (m ≤ hiZ n)) := by
  unfold validB
  rw [show decide (1 ≤ (n : Int)) = true from decide_eq_true (by omega), show decide ((n : Int) ≤ 41) = true from decide_eq_true (by omega), Int.toNat_natCast]
  simp
theorem validB_out (o d a b m : Int) (h : o < 1 ∨ 41 < o) : validB o d a b m = false := by
  unfold validB
  rcases h with h | h
  · rw [show decide (1 ≤ o) = false from decide_eq_false (by omega)]; simp
  · rw [show decide (o ≤ 41) = false from decide_eq_false (by omega)]; simp
/-- Valid, any instruction -/
theorem valid_any (o d a b m : Int) (t : Bool) (ht : validB o d a b m = t) (w : World) (hw : HasT w) :
    Calls Tryz.prog 29 #[insV o d a b m] w fun e w' => e = .returned (.bool t) ∧ Below w.heap.size w w' := by
  subst ht
  by_cases h : o < 1 ∨ 41 < o
  · rw [validB_out o d a b m h]
    exact valid_out o d a b m h w
  · obtain ⟨n, rfl⟩ : ∃ n : Nat, o = n := ⟨o.toNat, by omega⟩
    rw [validB_in n d a b m (by omega) (by omega)]
    exact valid_in n d a b m _ _ _ _ _ (by omega) (by omega) rfl rfl rfl rfl rfl w hw

theorem refValid_out (o d a b m : Int) (h : o < 1 ∨ 41 < o) (w : World) :
    Calls Tryz.prog 20 #[insV o d a b m] w fun e w' => e = .returned (.bool false) ∧ Below w.heap.size w w' := by
  have hb := Lib.hid (ins_below o d a b m w)
  by_cases h1 : o < 1
  · go_enter Tryz.func20, Tryz.ntmps20
    go_wp2
    go_ret
    exact ⟨rfl, hb.out⟩
  · have h2 : 41 < o := by omega
    clear h
    go_enter Tryz.func20, Tryz.ntmps20
    go_wp2
    go_ret
    exact ⟨rfl, hb.out⟩
/-- the document's bound on the number of an operation -/
def immB (n : Nat) (m : Int) : Bool :=
  if n = 18 ∨ n = 19 ∨ n = 20 then decide (0 ≤ m) && decide (m ≤ 31) else if n = 37 ∨ n = 38 then decide (0 ≤ m) && decide (m < 9) else decide (-8192 ≤ m) && decide (m ≤ 8191)
theorem reg_fit (n k : Nat) (r : Int) : regB (hasN n &&& k != 0) r = fitB n k r := by
  unfold regB fitB
  by_cases h : hasN n &&& k = 0
  · simp [h]
  · rw [if_neg h, show (hasN n &&& k != 0) = true by simpa using h, Bool.eq_iff_iff]
    simp
    omega
theorem imm_same (n : Nat) (m : Int) (h1 : 1 ≤ n) (h2 : n ≤ 41) : ((hI n || m == 0) && immB n m) = (decide (loZ n ≤ m) && decide (m ≤ hiZ n)) := by
  have key := List.all_eq_true.1 (show (List.range 42).all (fun n => decide (n = 0) || decide ((hasN n &&& 8 ≠ 0 ∧ hI n = true ∧ ¬ (n = 18 ∨ n = 19 ∨ n = 20) ∧ ¬ (n = 37 ∨ n = 38)) ∨ (hasN n &&& 8 = 0 ∧ hasN n &&& 16 ≠ 0 ∧ hI n = true ∧ (n = 18 ∨ n = 19 ∨ n = 20)) ∨
    (hasN n &&& 8 = 0 ∧ hasN n &&& 16 = 0 ∧ hasN n &&& 32 ≠ 0 ∧ hI n = true ∧ ¬ (n = 18 ∨ n = 19 ∨ n = 20) ∧ (n = 37 ∨ n = 38)) ∨ (hasN n &&& 8 = 0 ∧ hasN n &&& 16 = 0 ∧ hasN n &&& 32 = 0 ∧ hI n = false ∧ ¬ (n = 18 ∨ n = 19 ∨ n = 20) ∧ ¬ (n = 37 ∨ n = 38)))) = true by decide +kernel) n (List.mem_range.2 (by omega))
  rw [Bool.or_eq_true, decide_eq_true_eq, decide_eq_true_eq] at key
  unfold immB loZ hiZ
  rcases key with h | ⟨k8, hi, p, c⟩ | ⟨k8, k16, hi, p⟩ | ⟨k8, k16, k32, hi, p, c⟩ | ⟨k8, k16, k32, hi, p, c⟩
  · omega
  · rw [if_neg p, if_neg c, if_pos k8, if_pos k8, hi]; simp
  · rw [if_pos p, if_neg (by simpa using k8), if_neg (by simpa using k8), if_pos k16, hi]; simp
  · rw [if_neg p, if_pos c, if_neg (by simpa using k8), if_neg (by simpa using k8), if_neg (by simpa using k16), if_pos k32, hi, Bool.eq_iff_iff]; simp; omega
  · rw [if_neg p, if_neg c, if_neg (by simpa using k8), if_neg (by simpa using k8), if_neg (by simpa using k16), if_neg (by simpa using k32), hi, Bool.eq_iff_iff]; simp; omega
theorem refValid_in (n : Nat) (d a b m : Int) (xd xa xb xi t1 t2 t3 : Bool) (h1 : 1 ≤ n) (h2 : n ≤ 41) (f1 : hD n = xd) (f2 : hA n = xa) (f3 : hB n = xb) (f4 : hI n = xi) (e1 : regB xd d = t1) (e2 : regB xa a = t2) (e3 : regB xb b = t3) (w : World) :
    Calls Tryz.prog 20 #[insV n d a b m] w fun e w' => e = .returned (.bool (t1 && t2 && t3 && ((xi || m == 0) && immB n m))) ∧ Below w.heap.size w w' := by
  have hb := Lib.hid (ins_below n d a b m w)
  have HH : Hid (∀ w, Calls Tryz.prog 45 #[.int .i64 n] w fun e w' => e = .returned (.tuple #[.bool xd, .bool xa, .bool xb, .bool xi]) ∧ w = w') := Lib.hid fun w => by
    rw [← f1, ← f2, ← f3, ← f4]; exact refHas_any n h1 h2 w
  have E1 := Lib.hid e1
  have E2 := Lib.hid e2
  have E3 := Lib.hid e3
  have g1 : 1 ≤ (n : Int) := by omega
  have g2 : (n : Int) ≤ 41 := by omega
  clear e1 e2 e3 f1 f2 f3 f4
  cases t1
  · clear h1 h2
    go_enter Tryz.func20, Tryz.ntmps20
    go_wp2_with fail
    refine (HH.out _).mono ?_
    rintro e w1 ⟨rfl, rfl⟩
    go_wp2_with fail
    refine (reg_any xd d false E1.out _).mono ?_
    rintro e w1 ⟨rfl, rfl⟩
    go_wp2
    go_ret
    exact ⟨rfl, hb.out⟩
  cases t2
  · clear h1 h2
    go_enter Tryz.func20, Tryz.ntmps20
    go_wp2_with fail
    refine (HH.out _).mono ?_
    rintro e w1 ⟨rfl, rfl⟩
    go_wp2_with fail
    refine (reg_any xd d true E1.out _).mono ?_
    rintro e w1 ⟨rfl, rfl⟩
    go_wp2_with fail
    refine (reg_any xa a false E2.out _).mono ?_
    rintro e w1 ⟨rfl, rfl⟩
    go_wp2
    go_ret
    exact ⟨rfl, hb.out⟩
  cases t3
  · clear h1 h2
    go_enter Tryz.func20, Tryz.ntmps20
    go_wp2_with fail
    refine (HH.out _).mono ?_
    rintro e w1 ⟨rfl, rfl⟩
    go_wp2_with fail
    refine (reg_any xd d true E1.out _).mono ?_
    rintro e w1 ⟨rfl, rfl⟩
    go_wp2_with fail
    refine (reg_any xa a true E2.out _).mono ?_
    rintro e w1 ⟨rfl, rfl⟩
    go_wp2_with fail
    refine (reg_any xb b false E3.out _).mono ?_
    rintro e w1 ⟨rfl, rfl⟩
    go_wp2
    go_ret
    exact ⟨rfl, hb.out⟩
  by_cases hx : xi = false ∧ m ≠ 0
  · obtain ⟨rfl, hm⟩ := hx
    have em : (m == 0) = false := by rw [beq_eq_false_iff_ne]; exact hm
    clear h1 h2
    go_enter Tryz.func20, Tryz.ntmps20
    go_wp2_with fail
    refine (HH.out _).mono ?_
    rintro e w1 ⟨rfl, rfl⟩
    go_wp2_with fail
    refine (reg_any xd d true E1.out _).mono ?_
    rintro e w1 ⟨rfl, rfl⟩
    go_wp2_with fail
    refine (reg_any xa a true E2.out _).mono ?_
    rintro e w1 ⟨rfl, rfl⟩
    go_wp2_with fail
    refine (reg_any xb b true E3.out _).mono ?_
    rintro e w1 ⟨rfl, rfl⟩
    go_wp2
    go_ret
    exact ⟨by simp [em], hb.out⟩
  have HM : Hid ((xi || m == 0) = true) := Lib.hid (by
    rcases Bool.eq_false_or_eq_true xi with h | h
    · rw [h]; rfl
    · have : m = 0 := Classical.byContradiction fun hm => hx ⟨h, hm⟩
      subst this; rw [h]; rfl)
  have hx2 : xi = true ∨ (xi = false ∧ (m == 0) = true) := by
    have := HM.out
    cases xi
    · exact .inr ⟨rfl, by simpa using this⟩
    · exact .inl rfl
  clear hx
  rw [HM.out, Bool.true_and]
  clear HM
  by_cases p : n = 18 ∨ n = 19 ∨ n = 20
  · rw [show immB n m = (decide (0 ≤ m) && decide (m ≤ 31)) from if_pos p]
    clear h1 h2 g1 g2
    by_cases h0 : 0 ≤ m
    all_goals rcases hx2 with rfl | ⟨rfl, em⟩
    all_goals rcases p with rfl | rfl | rfl
    all_goals
      go_enter Tryz.func20, Tryz.ntmps20
      go_wp2_with fail
      refine (HH.out _).mono ?_
      rintro e w1 ⟨rfl, rfl⟩
      go_wp2_with fail
      refine (reg_any xd d true E1.out _).mono ?_
      rintro e w1 ⟨rfl, rfl⟩
      go_wp2_with fail
      refine (reg_any xa a true E2.out _).mono ?_
      rintro e w1 ⟨rfl, rfl⟩
      go_wp2_with fail
      refine (reg_any xb b true E3.out _).mono ?_
      rintro e w1 ⟨rfl, rfl⟩
      go_wp2
      all_goals go_ret
      all_goals exact ⟨by first | (simp; omega) | (simp; done), hb.out⟩
  have p18 : ((n : Int) == 18) = false := by rw [beq_eq_false_iff_ne]; omega
  have p19 : ((n : Int) == 19) = false := by rw [beq_eq_false_iff_ne]; omega
  have p20 : ((n : Int) == 20) = false := by rw [beq_eq_false_iff_ne]; omega
  by_cases c : n = 37 ∨ n = 38
  · rw [show immB n m = (decide (0 ≤ m) && decide (m < 9)) from (if_neg p).trans (if_pos c)]
    clear h1 h2 g1 g2 p18 p19 p20 p
    by_cases h0 : 0 ≤ m
    all_goals rcases hx2 with rfl | ⟨rfl, em⟩
    all_goals rcases c with rfl | rfl
    all_goals
      go_enter Tryz.func20, Tryz.ntmps20
      go_wp2_with fail
      refine (HH.out _).mono ?_
      rintro e w1 ⟨rfl, rfl⟩
      go_wp2_with fail
      refine (reg_any xd d true E1.out _).mono ?_
      rintro e w1 ⟨rfl, rfl⟩
      go_wp2_with fail
      refine (reg_any xa a true E2.out _).mono ?_
      rintro e w1 ⟨rfl, rfl⟩
      go_wp2_with fail
      refine (reg_any xb b true E3.out _).mono ?_
      rintro e w1 ⟨rfl, rfl⟩
      go_wp2
      all_goals go_ret
      all_goals exact ⟨by first | (simp; omega) | (simp; done), hb.out⟩
  · rw [show immB n m = (decide (-8192 ≤ m) && decide (m ≤ 8191)) from (if_neg p).trans (if_neg c)]
    have p37 : ((n : Int) == 37) = false := by rw [beq_eq_false_iff_ne]; omega
    have p38 : ((n : Int) == 38) = false := by rw [beq_eq_false_iff_ne]; omega
    clear h1 h2 p c
    by_cases h0 : -8192 ≤ m
    all_goals rcases hx2 with rfl | ⟨rfl, em⟩
    all_goals
      go_enter Tryz.func20, Tryz.ntmps20
      go_wp2_with fail
      refine (HH.out _).mono ?_
      rintro e w1 ⟨rfl, rfl⟩
      go_wp2_with fail
      refine (reg_any xd d true E1.out _).mono ?_
      rintro e w1 ⟨rfl, rfl⟩
      go_wp2_with fail
      refine (reg_any xa a true E2.out _).mono ?_
      rintro e w1 ⟨rfl, rfl⟩
      go_wp2_with fail
      refine (reg_any xb b true E3.out _).mono ?_
      rintro e w1 ⟨rfl, rfl⟩
      go_wp2
      all_goals go_ret
      all_goals exact ⟨by first | (simp; omega) | (simp; done), hb.out⟩
/-- the document's Valid, any instruction -/
theorem refValid_any (o d a b m : Int) (t : Bool) (ht : validB o d a b m = t) (w : World) :
    Calls Tryz.prog 20 #[insV o d a b m] w fun e w' => e = .returned (.bool t) ∧ Below w.heap.size w w' := by
  subst ht
  by_cases h : o < 1 ∨ 41 < o
  · rw [validB_out o d a b m h]
    exact refValid_out o d a b m h w
  · obtain ⟨n, rfl⟩ : ∃ n : Nat, o = n := ⟨o.toNat, by omega⟩
    rw [validB_in n d a b m (by omega) (by omega), Bool.and_assoc (_ && _), ← imm_same n m (by omega) (by omega), ← reg_fit, ← reg_fit, ← reg_fit]
    exact refValid_in n d a b m _ _ _ _ _ _ _ (by omega) (by omega) rfl rfl rfl rfl rfl rfl rfl w
end Go.Proofs.YtniaclhmfmkikaaGreatDoor.Is
end
