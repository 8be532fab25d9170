/- Several texts in one: Uf Ug -/
import Derived.Test.YtniaclhmfmkikaaGreatDoorZ05
section
/- The document's registers of the kernel's mode (hermitageref12). -/
namespace Go.Proofs.YtniaclhmfmkikaaGreatDoor.Cs
open Go.RowKit Ut
set_option maxRecDepth 100000
set_option linter.unusedVariables false

/-- the document's file: its registers, its guest's number -/
def rCells (i : Nat) (R : List Nat) : List Value := wordsV R ++ [.int .i64 (i : Int)]
def RAt (w : World) (b i : Nat) (R : List Nat) : Prop := Blk w b 48 (rCells i R) ∧ Ok R ∧ i < 4
section
variable {w w' : World} {b i : Nat} {R : List Nat}
theorem RAt.below {B : Nat} (h : RAt w b i R) (hb : Below B w w') (hB : b < B) : RAt w' b i R := ⟨h.1.below hb hB, h.2⟩
theorem RAt.kept {row : Option Nat} (h : RAt w b i R) (hg : w.grownBy w' row) (hr : some b ≠ row) : RAt w' b i R := ⟨h.1.kept hg hr, h.2⟩
theorem RAt.reg (h : RAt w b i R) (k : Nat) (hk : k < 7) : w.cell? ⟨b, k, none⟩ = some (.int .u32 ((R.getD k 0 : Nat) : Int)) := h.1.cell (by
  have hl := h.2.1.len
  simp [rCells, wordsV, wordV, List.getD, hl, hk, List.getElem?_append])
theorem RAt.num (h : RAt w b i R) : w.cell? ⟨b, 7, none⟩ = some (.int .i64 (i : Int)) := h.1.cell (by
  have hl := h.2.1.len
  simp [rCells, wordsV, hl])
theorem rCells_words (i : Nat) (R : List Nat) : ∀ j v, (wordsV R)[j]? = some v → (rCells i R)[0 + j]? = some v := fun j v h => by
  have hj := (List.getElem?_eq_some_iff.1 h).1
  rw [Nat.zero_add]
  unfold rCells
  rw [List.getElem?_append_left hj]
  exact h
theorem rCells_set (i : Nat) (R : List Nat) (k v : Nat) (hl : k < R.length) : (rCells i R).set k (.int .u32 (v : Int)) = rCells i (R.set k v) := by
  unfold rCells wordsV
  rw [List.set_append_left _ _ (by simp [hl]), List.map_set]
  rfl
theorem RAt.set (h : RAt w b i R) (k v : Nat) (hk : k < 7) (hv : v < 4294967296) (h5 : k = 5 → v < 16) : RAt (w.setCell ⟨b, k, none⟩ (.int .u32 (v : Int))) b i (R.set k v) := by
  refine ⟨?_, h.2.1.set hv h5, h.2.2⟩
  have := h.1.set k (.int .u32 (v : Int))
  rwa [rCells_set i R k v (by rw [h.2.1.len]; exact hk)] at this
end
theorem splice_rwords (i : Nat) (R Q : List Nat) (hR : R.length = 7) (hQ : Q.length = 7) : splice (rCells i R) 0 (wordsV Q) = rCells i Q := by
  unfold splice rCells
  have e : (wordsV Q).length = (wordsV R).length := by simp [wordsV, hR, hQ]
  simp [e]

theorem refReset_any (b i : Nat) (R : List Nat) (w : World) (h : RAt w b i R) :
    Calls Tryz.prog 48 #[.pointer (some ⟨b, 0, none⟩)] w fun e w' => e = .returned (.tuple #[]) ∧ RAt w' b i ini ∧ w.grownBy w' (some b) := by
  have HF := Lib.hid h
  have HS : Hid (RAt (w.setRow b (splice (rCells i R) 0 (wordsV zer)).toArray) b i zer) := by
    refine ⟨?_, ok_zer, h.2.2⟩
    rw [splice_rwords i R zer h.2.1.len rfl]
    exact h.1.row _
  have HG := Lib.hid (grown_row (Below.refl w.heap.size w) b (splice (rCells i R) 0 (wordsV zer)).toArray)
  clear h
  go_enter Tryz.func48, Tryz.ntmps48
  go_upto_region 0 with fail
  refine wp_region_lit ?_
  refine Great.wpList_readTo rfl _ rfl (.pointer (some ⟨b, 0, none⟩)) (by kernel_rfl) ?_
  refine Great.wpList_readTo rfl _ rfl (.agg (wordsV zer).toArray) (by kernel_rfl) ?_
  refine Great.wpList_readTo rfl _ rfl (.pointer (some ⟨b, 0, none⟩)) (by kernel_rfl) ?_
  refine Great.wpList_readTo rfl _ rfl (.pointer (some ⟨b, 0, none⟩)) (by kernel_rfl) ?_
  refine wpList_store_cells rfl 45 _ _ rfl b 0 48 (rCells i R) (wordsV zer) (by kernel_rfl) (by kernel_rfl) HF.out.1 (size_words zer rfl) (by simp [rCells, wordsV, HF.out.2.1.len, zer]) (one_words zer) ?_
  generalize w.setRow b (splice (rCells i R) 0 (wordsV zer)).toArray = W2 at HS HG ⊢
  have HS2 : Hid (RAt (W2.setCell ⟨b, 5, none⟩ (.int .u32 4)) b i ini) := Lib.hid (HS.out.set 5 4 (by decide) (by decide) (by decide))
  have HG2 := Lib.hid (grown_trans HG.out (grown_setCell W2 b 5 (.int .u32 4)))
  have c5 := HS.out.reg 5 (by decide)
  have d5 := HS.out.1.frozen 5
  go_wp2
  go_end0
  exact ⟨rfl, HS2.out, HG2.out⟩

theorem refNew_no (n : Int) (w : World) (h : n < 0 ∨ 4 ≤ n) : Calls Tryz.prog 23 #[.int .i64 n] w fun e w' => e = .returned (.tuple #[.pointer none, .int .i64 1]) ∧ w = w' := by
  rcases Int.lt_or_le n 0 with h0 | h0
  · have h1 : decide (n < 0) = true := by simpa using h0
    go_enter Tryz.func23, Tryz.ntmps23
    go_wp2
    go_ret2
    exact ⟨rfl, rfl⟩
  · have h1 : decide (n < 0) = false := by simpa using h0
    have h2 : decide (4 ≤ n) = true := by simp; omega
    go_enter Tryz.func23, Tryz.ntmps23
    go_wp2
    go_ret2
    exact ⟨rfl, rfl⟩
theorem refNew_yes (i : Nat) (w : World) (h : i < 4) : Calls Tryz.prog 23 #[.int .i64 (i : Int)] w fun e w' => e = .returned (.tuple #[.pointer (some ⟨w.heap.size, 0, none⟩), .int .i64 0]) ∧ RAt w' w.heap.size i ini ∧ Below w.heap.size w w' := by
  have h1 : decide ((i : Int) < 0) = false := by simp
  have h2 : decide ((4 : Int) ≤ (i : Int)) = false := by simp; omega
  have hF : RAt (w.alloc (.cells (rCells i zer).toArray 48)) w.heap.size i zer := ⟨Blk.new w _ _, ok_zer, h⟩
  have HF := Lib.hid hF
  have HB := Lib.hid ((Below.refl w.heap.size w).alloc (Nat.le_refl _) (.cells (rCells i zer).toArray 48))
  clear hF h
  go_enter Tryz.func23, Tryz.ntmps23
  go_upto_region 3 with fail
  refine wp_region_lit ?_
  refine Great.wpList_readTo rfl _ rfl (.int .i64 (i : Int)) (by kernel_rfl) ?_
  refine wpList_buildTo rfl 48 _ rfl _ rfl (rCells i zer).toArray (by kernel_rfl) ?_
  refine Great.wpList_boxTo rfl 48 _ rfl _ rfl w.heap.size rfl (rCells i zer).toArray rfl ?_
  obtain ⟨W, hW⟩ : ∃ W, W = w.alloc (.cells (rCells i zer).toArray 48) := ⟨_, rfl⟩
  rw [← hW] at HF HB ⊢
  clear hW
  go_wp2_with fail
  refine (refReset_any w.heap.size i zer W HF.out).mono ?_
  rintro e w1 ⟨rfl, hF, hg⟩
  have HF1 := Lib.hid hF
  have HB1 := Lib.hid (below_of_grown HB.out hg HB.out.size (Nat.le_refl _))
  clear hF hg
  go_wp2
  go_ret2
  exact ⟨rfl, HF1.out, HB1.out⟩

theorem beq_cast (x y : Nat) : (((x : Nat) : Int) == ((y : Nat) : Int)) = (x == y) := by
  rw [Bool.eq_iff_iff, beq_iff_eq, beq_iff_eq]
  omega
theorem refHas_any (b i k : Nat) (R : List Nat) (w : World) (h : RAt w b i R) (hk : k = 1 ∨ k = 2 ∨ k = 4 ∨ k = 8) :
    Calls Tryz.prog 52 #[.pointer (some ⟨b, 0, none⟩), .int .u32 (k : Int)] w fun e w' => e = .returned (.bool (hasB (st R) k)) ∧ w = w' := by
  have c5 := h.reg 5 (by decide)
  have HB := Lib.hid (u32_and_nat (R.getD 5 0) k (h.2.1.reg 5) (by omega))
  have HE := Lib.hid (has_is h.2.1.stat hk)
  clear h hk
  unfold st
  generalize R.getD 5 0 = s at c5 HB HE ⊢
  generalize hasB s k = q at HE ⊢
  go_enter Tryz.func52, Tryz.ntmps52
  go_wp2
  go_ret
  refine ⟨?_, rfl⟩
  rw [HB.out, beq_cast, HE.out]
  rfl
theorem refBit_any (q : Bool) (x : Int) (w : World) : Calls Tryz.prog 102 #[.bool q, .int .u32 x] w fun e w' => e = .returned (.int .u32 (if q then x else 0)) ∧ w = w' := by
  cases q
  · go_enter Tryz.func102, Tryz.ntmps102
    go_wp2
    go_ret
    exact ⟨rfl, rfl⟩
  · go_enter Tryz.func102, Tryz.ntmps102
    go_wp2
    go_ret
    exact ⟨rfl, rfl⟩
theorem refRead_any (b i : Nat) (n clock : Int) (R : List Nat) (w : World) (h : RAt w b i R) :
    Calls Tryz.prog 76 #[.pointer (some ⟨b, 0, none⟩), .int .i64 n, .int .i64 clock] w fun e w' => e = .returned (.tuple #[.int .u32 (rdZ R i n clock), .int .i64 (errZ R n 9)]) ∧ w = w' := by
  have HA := Lib.hid (refHas_any b i 4 R w h (by decide))
  have HF := Lib.hid h
  have hi := h.2.2
  clear h
  rcases errZ_cases R n 9 with ⟨h1, h2⟩ | ⟨h1, h0, h2⟩ | ⟨h1, h0, h3, h2⟩ | ⟨h1, h0, h3, h2⟩
  · rw [show rdZ R i n clock = 0 from if_neg (by omega), h2]
    rw [h1] at HA
    clear h1 h2 hi
    go_enter Tryz.func76, Tryz.ntmps76
    go_wp2_with fail
    refine HA.out.mono ?_
    rintro e w' ⟨rfl, rfl⟩
    go_wp2
    go_ret2
    exact ⟨rfl, rfl⟩
  · rw [show rdZ R i n clock = 0 from if_neg (by omega), h2]
    rw [h1] at HA
    clear h1 h2 hi
    have hd : decide (n < 0) = true := by simpa using h0
    go_enter Tryz.func76, Tryz.ntmps76
    go_wp2_with fail
    refine HA.out.mono ?_
    rintro e w' ⟨rfl, rfl⟩
    go_wp2
    go_ret2
    exact ⟨rfl, rfl⟩
  · rw [show rdZ R i n clock = 0 from if_neg (by omega), h2]
    rw [h1] at HA
    clear h1 h2 hi
    have hd : decide (n < 0) = false := by simpa using h0
    have hd2 : decide (9 ≤ n) = true := by simpa using h3
    go_enter Tryz.func76, Tryz.ntmps76
    go_wp2_with fail
    refine HA.out.mono ?_
    rintro e w' ⟨rfl, rfl⟩
    go_wp2
    go_ret2
    exact ⟨rfl, rfl⟩
  · rw [show rdZ R i n clock = _ from if_pos h2, h2]
    rw [h1] at HA
    clear h1 h2
    obtain ⟨k, rfl⟩ : ∃ k : Nat, n = (k : Int) := ⟨n.toNat, by omega⟩
    have hk : k < 9 := by omega
    have hd : decide ((k : Int) < 0) = false := by simp
    have hd2 : decide ((9 : Int) ≤ (k : Int)) = false := by simp; omega
    clear h0 h3
    by_cases h7 : k = 7
    · subst h7
      clear hk hi
      go_enter Tryz.func76, Tryz.ntmps76
      go_wp2_with fail
      refine HA.out.mono ?_
      rintro e w' ⟨rfl, rfl⟩
      go_wp2
      go_ret2
      exact ⟨rfl, rfl⟩
    · by_cases h8 : k = 8
      · subst h8
        clear hk h7
        have c1 := HF.out.num
        go_enter Tryz.func76, Tryz.ntmps76
        go_wp2_with fail
        refine HA.out.mono ?_
        rintro e w' ⟨rfl, rfl⟩
        go_wp2
        go_ret2
        exact ⟨rfl, rfl⟩
      · have d7 : ((k : Int) == 7) = false := by simp; omega
        have d8 : ((k : Int) == 8) = false := by simp; omega
        rw [if_neg (by omega), if_neg (by omega), Int.toNat_natCast]
        have hk7 : k < 7 := by omega
        clear hk h7 h8 hi
        have c1 := HF.out.reg k hk7
        generalize R.getD k 0 = z at c1 ⊢
        go_enter Tryz.func76, Tryz.ntmps76
        go_wp2_with fail
        refine HA.out.mono ?_
        rintro e w' ⟨rfl, rfl⟩
        go_wp2
        go_ret2
        exact ⟨rfl, rfl⟩

theorem refWrite_any (b i : Nat) (n : Int) (v : Nat) (R : List Nat) (w : World) (h : RAt w b i R) (hv : v < 4294967296) :
    Calls Tryz.prog 27 #[.pointer (some ⟨b, 0, none⟩), .int .i64 n, .int .u32 (v : Int)] w fun e w' => e = .returned (.int .i64 (errZ R n 7)) ∧ RAt w' b i (wrR R n v) ∧ w.grownBy w' (some b) := by
  have HA := Lib.hid (refHas_any b i 4 R w h (by decide))
  have HF := Lib.hid h
  clear h
  rcases errZ_cases R n 7 with ⟨h1, h2⟩ | ⟨h1, h0, h2⟩ | ⟨h1, h0, h3, h2⟩ | ⟨h1, h0, h3, h2⟩
  · rw [show wrR R n v = R from if_neg (by omega), h2]
    rw [h1] at HA
    clear h1 h2
    go_enter Tryz.func27, Tryz.ntmps27
    go_wp2_with fail
    refine HA.out.mono ?_
    rintro e w' ⟨rfl, rfl⟩
    go_wp2
    go_ret
    exact ⟨rfl, HF.out, World.grownBy.refl _ _⟩
  · rw [show wrR R n v = R from if_neg (by omega), h2]
    rw [h1] at HA
    clear h1 h2
    have hd : decide (n < 0) = true := by simpa using h0
    go_enter Tryz.func27, Tryz.ntmps27
    go_wp2_with fail
    refine HA.out.mono ?_
    rintro e w' ⟨rfl, rfl⟩
    go_wp2
    go_ret
    exact ⟨rfl, HF.out, World.grownBy.refl _ _⟩
  · rw [show wrR R n v = R from if_neg (by omega), h2]
    rw [h1] at HA
    clear h1 h2
    have hd : decide (n < 0) = false := by simpa using h0
    have hd2 : decide (6 < n) = true := by simp; omega
    go_enter Tryz.func27, Tryz.ntmps27
    go_wp2_with fail
    refine HA.out.mono ?_
    rintro e w' ⟨rfl, rfl⟩
    go_wp2
    go_ret
    exact ⟨rfl, HF.out, World.grownBy.refl _ _⟩
  · rw [show wrR R n v = _ from if_pos h2, h2]
    rw [h1] at HA
    clear h1 h2
    obtain ⟨k, rfl⟩ : ∃ k : Nat, n = (k : Int) := ⟨n.toNat, by omega⟩
    have hk : k < 7 := by omega
    have hd : decide ((k : Int) < 0) = false := by simp
    have hd2 : decide ((6 : Int) < (k : Int)) = false := by simp; omega
    clear h0 h3
    rw [Int.toNat_natCast]
    have HS := Lib.hid (HF.out.set k (v &&& maskN k) hk (mask_lt _ _ hv) (fun e => by rw [e]; exact mask_five v))
    have HG := Lib.hid (grown_setCell w b k (.int .u32 ((v &&& maskN k : Nat) : Int)))
    have c1 := HF.out.reg k hk
    have f1 := HF.out.1.frozen k
    have hk7 : (k : Int) < 7 := by omega
    by_cases h0 : k = 0
    · subst h0
      have q1 : bits .and .u32 (v : Int) 7937 = ((v &&& maskN 0 : Nat) : Int) := u32_and_nat v 7937 hv (by decide)
      generalize v &&& maskN 0 = z at q1 HS HG ⊢
      go_enter Tryz.func27, Tryz.ntmps27
      go_wp2_with fail
      refine HA.out.mono ?_
      rintro e w' ⟨rfl, rfl⟩
      go_wp2
      go_ret
      exact ⟨rfl, HS.out, HG.out⟩
    · by_cases h5 : k = 5
      · subst h5
        have q1 : bits .and .u32 (v : Int) 15 = ((v &&& maskN 5 : Nat) : Int) := u32_and_nat v 15 hv (by decide)
        generalize v &&& maskN 5 = z at q1 HS HG ⊢
        go_enter Tryz.func27, Tryz.ntmps27
        go_wp2_with fail
        refine HA.out.mono ?_
        rintro e w' ⟨rfl, rfl⟩
        go_wp2
        go_ret
        exact ⟨rfl, HS.out, HG.out⟩
      · have d0 : ((k : Int) == 0) = false := by simp; omega
        have d5 : ((k : Int) == 5) = false := by simp; omega
        rw [mask_all h0 h5 hv] at HS HG ⊢
        clear h0 h5
        go_enter Tryz.func27, Tryz.ntmps27
        go_wp2_with fail
        refine HA.out.mono ?_
        rintro e w' ⟨rfl, rfl⟩
        go_wp2
        go_ret
        exact ⟨rfl, HS.out, HG.out⟩
end Go.Proofs.YtniaclhmfmkikaaGreatDoor.Cs
end
section
/- The document's registers of the kernel's mode (hermitageref12): Enter, Leave, Mode. -/
namespace Go.Proofs.YtniaclhmfmkikaaGreatDoor.Cs
open Go.RowKit Ut
set_option maxRecDepth 100000
set_option linter.unusedVariables false

theorem or3_u32 (x y z : Nat) (hx : x < 4294967296) (hy : y < 4294967296) (hz : z < 4294967296) : bits .or .u32 (bits .or .u32 (x : Int) (y : Int)) (z : Int) = ((x ||| y ||| z : Nat) : Int) := by
  rw [u32_or_nat x y hx hy, u32_or_nat (x ||| y) z (Nat.or_lt_two_pow (n := 32) hx hy) hz]
theorem ite_cast (q : Bool) (x : Nat) : (if q then ((x : Nat) : Int) else 0) = (((if q then x else 0 : Nat)) : Int) := by cases q <;> rfl

theorem refHas_at (b i k : Nat) (R : List Nat) (q : Bool) (hq : hasB (st R) k = q) (hk : k = 1 ∨ k = 2 ∨ k = 4 ∨ k = 8) : Hid (∀ W, RAt W b i R → Calls Tryz.prog 52 #[.pointer (some ⟨b, 0, none⟩), .int .u32 (k : Int)] W fun e w' => e = .returned (.bool q) ∧ W = w') := Lib.hid fun W h => by
  rw [← hq]
  exact refHas_any b i k R W h hk
theorem refBit_at (q : Bool) (x : Nat) (z : Int) (hz : (if q then ((x : Nat) : Int) else 0) = z) : Hid (∀ W, Calls Tryz.prog 102 #[.bool q, .int .u32 (x : Int)] W fun e w' => e = .returned (.int .u32 z) ∧ W = w') := Lib.hid fun W => by
  rw [← hz]
  exact refBit_any q x W

theorem refLeave_any (b i : Nat) (R : List Nat) (w : World) (h : RAt w b i R) :
    Calls Tryz.prog 75 #[.pointer (some ⟨b, 0, none⟩)] w fun e w' => e = .returned (.int .u32 ((R.getD 2 0 : Nat) : Int)) ∧ RAt w' b i (lvR R) ∧ w.grownBy w' (some b) := by
  have hE : (lvR R).getD 2 0 = R.getD 2 0 := by
    unfold lvR
    rw [List.getD_eq_getElem?_getD, List.getD_eq_getElem?_getD, List.getElem?_set_ne (by decide)]
  have hs := h.2.1.stat
  obtain ⟨q1, hq1⟩ : ∃ q, hasB (st R) 2 = q := ⟨_, rfl⟩
  obtain ⟨q2, hq2⟩ : ∃ q, hasB (st R) 8 = q := ⟨_, rfl⟩
  obtain ⟨z1, hz1⟩ : ∃ z, (if q1 then ((1 : Nat) : Int) else 0) = z := ⟨_, rfl⟩
  obtain ⟨z2, hz2⟩ : ∃ z, (if q2 then ((4 : Nat) : Int) else 0) = z := ⟨_, rfl⟩
  obtain ⟨s1, hS⟩ : ∃ s, leaveS (st R) = s := ⟨_, rfl⟩
  have hsl : s1 < 16 := by rw [← hS]; exact leaveS_lt hs
  have hS2 : R.set 5 s1 = lvR R := by rw [← hS]; rfl
  obtain ⟨a10, h10⟩ : ∃ a, st R &&& 10 = a := ⟨_, rfl⟩
  have hal : a10 < 4294967296 := by
    rw [← h10]
    exact Nat.lt_of_le_of_lt Nat.and_le_right (by decide)
  have e4 : bits .or .u32 (bits .or .u32 (a10 : Int) z1) z2 = (s1 : Int) := by
    rw [← hz1, ← hz2, ite_cast, ite_cast, or3_u32 _ _ _ hal (by split <;> decide) (by split <;> decide), ← hq1, ← hq2, ← hS, ← h10]
    rfl
  have e9 : bits .and .u32 ((R.getD 5 0 : Nat) : Int) 10 = (a10 : Int) := by
    rw [← h10]
    exact u32_and_nat (R.getD 5 0) 10 (h.2.1.reg 5) (by decide)
  have c5 := h.reg 5 (by decide)
  have A1 := refHas_at b i 2 R q1 hq1 (by decide)
  have A2 := refHas_at b i 8 R q2 hq2 (by decide)
  have B1 := refBit_at q1 1 z1 hz1
  have B2 := refBit_at q2 4 z2 hz2
  have HS : Hid (∀ W, RAt W b i R → RAt (W.setCell ⟨b, 5, none⟩ (.int .u32 (s1 : Int))) b i (lvR R)) := Lib.hid fun W hW => by
    rw [← hS2]
    exact hW.set 5 s1 (by decide) (by omega) (fun _ => hsl)
  have HE := Lib.hid hE
  have E4 := Lib.hid e4
  have H3 := Lib.hid h
  clear h hq1 hq2 hz1 hz2 hS hs hE e4 hsl hS2 h10 hal
  generalize lvR R = Q at HE HS ⊢
  generalize R.getD 2 0 = epc at HE ⊢
  generalize R.getD 5 0 = s at c5 e9
  go_enter Tryz.func75, Tryz.ntmps75
  go_upto_region 2 with fail
  clear e9 c5
  apply wp_region_auto [10, 11, 12, 13, 14, 15, 16, 17, 18, 19, 20, 21, 22] [_, _, _, _, _, _, _, _, _, _, _, _, _] (fun W' => Below w.heap.size w W')
  case hm => kernel_rfl
  case hT => intro y; simp only [setAll, List.setIfInBounds_toArray, List.set_cons_succ, List.set_cons_zero]; exact rfl
  case hok => kernel_rfl
  case hn => decide
  case hw => exact (Below.refl _ _).drew
  case hs =>
    refine auto_op 10 [] (by kernel_rfl) (fun y w' HW hd K hK => ?_) ?_
    · go_simp
      refine hK _ _ ?_ ?_ HW
      · simp [upd]
      · exact rfl
    refine auto_op 11 [] (by kernel_rfl) (fun y w' HW hd K hK => ?_) ?_
    · go_simp
      refine hK _ _ ?_ ?_ HW
      · simp [upd]
      · exact rfl
    refine auto_op 12 [] (by kernel_rfl) (fun y w' HW hd K hK => ?_) ?_
    · go_simp
      refine hK _ _ ?_ ?_ HW
      · simp [upd]
      · exact rfl
    refine auto_op 13 [2] (by kernel_rfl) (fun y w' HW hd K hK => ?_) ?_
    · have e2 := hd_nth (hd 2 (by simp)) rfl
      go_simp
      refine (A1.out _ (H3.out.below HW H3.out.1.lt)).mono ?_
      rintro e w5 ⟨rfl, rfl⟩
      refine hK _ _ ?_ ?_ HW
      · simp [upd, e2]
      · exact rfl
    refine auto_op 14 [3, 3] (by kernel_rfl) (fun y w' HW hd K hK => ?_) ?_
    · have e3 := hd_nth (hd 3 (by simp)) rfl
      go_simp
      refine (B1.out _).mono ?_
      rintro e w5 ⟨rfl, rfl⟩
      refine hK _ _ ?_ ?_ HW
      · simp [upd, e3]
      · exact rfl
    refine auto_op 15 [1, 4] (by kernel_rfl) (fun y w' HW hd K hK => ?_) ?_
    · have e1 := hd_nth (hd 1 (by simp)) rfl
      have e4 := hd_nth (hd 4 (by simp)) rfl
      go_simp
      refine hK _ _ ?_ ?_ HW
      · simp [upd, e1, e4]
      · exact rfl
    refine auto_op 16 [] (by kernel_rfl) (fun y w' HW hd K hK => ?_) ?_
    · go_simp
      refine hK _ _ ?_ ?_ HW
      · simp [upd]
      · exact rfl
    refine auto_op 17 [6, 4] (by kernel_rfl) (fun y w' HW hd K hK => ?_) ?_
    · have e4 := hd_nth (hd 4 (by simp)) rfl
      have e6 := hd_nth (hd 6 (by simp)) rfl
      go_simp
      refine (A2.out _ (H3.out.below HW H3.out.1.lt)).mono ?_
      rintro e w5 ⟨rfl, rfl⟩
      refine hK _ _ ?_ ?_ HW
      · simp [upd, e4, e6]
      · exact rfl
    refine auto_op 18 [7, 7] (by kernel_rfl) (fun y w' HW hd K hK => ?_) ?_
    · have e7 := hd_nth (hd 7 (by simp)) rfl
      go_simp
      refine (B2.out _).mono ?_
      rintro e w5 ⟨rfl, rfl⟩
      refine hK _ _ ?_ ?_ HW
      · simp [upd, e7]
      · exact rfl
    refine auto_op 19 [5, 8] (by kernel_rfl) (fun y w' HW hd K hK => ?_) ?_
    · have e5 := hd_nth (hd 5 (by simp)) rfl
      have e8 := hd_nth (hd 8 (by simp)) rfl
      go_simp
      refine hK _ _ ?_ ?_ HW
      · simp [upd, e5, e8]
      · exact rfl
    refine auto_op 20 [0] (by kernel_rfl) (fun y w' HW hd K hK => ?_) ?_
    · have e0 := hd_nth (hd 0 (by simp)) rfl
      go_simp
      refine hK _ _ ?_ ?_ HW
      · simp [upd, e0]
      · exact rfl
    refine auto_op 21 [10] (by kernel_rfl) (fun y w' HW hd K hK => ?_) ?_
    · have e10 := hd_nth (hd 10 (by simp)) rfl
      go_simp
      refine hK _ _ ?_ ?_ HW
      · simp [upd, e10]
      · exact rfl
    refine auto_op 22 [11, 0, 1, 2, 3, 4, 5, 6, 7, 8, 9] (by kernel_rfl) (fun y w' HW hd K hK => ?_) ?_
    · have e0 := hd_nth (hd 0 (by simp)) rfl
      have e1 := hd_nth (hd 1 (by simp)) rfl
      have e2 := hd_nth (hd 2 (by simp)) rfl
      have e3 := hd_nth (hd 3 (by simp)) rfl
      have e4 := hd_nth (hd 4 (by simp)) rfl
      have e5 := hd_nth (hd 5 (by simp)) rfl
      have e6 := hd_nth (hd 6 (by simp)) rfl
      have e7 := hd_nth (hd 7 (by simp)) rfl
      have e8 := hd_nth (hd 8 (by simp)) rfl
      have e9 := hd_nth (hd 9 (by simp)) rfl
      have e11 := hd_nth (hd 11 (by simp)) rfl
      go_simp
      refine hK _ _ ?_ ?_ HW
      · simp [upd, e0, e1, e2, e3, e4, e5, e6, e7, e8, e9, e11]
      · exact rfl
    refine auto_last fun y w' HW hd K hK => ?_
    have e0 := hd_nth (hd 0 (by omega)) rfl
    have e1 := hd_nth (hd 1 (by omega)) rfl
    have e2 := hd_nth (hd 2 (by omega)) rfl
    have e3 := hd_nth (hd 3 (by omega)) rfl
    have e4 := hd_nth (hd 4 (by omega)) rfl
    have e5 := hd_nth (hd 5 (by omega)) rfl
    have e6 := hd_nth (hd 6 (by omega)) rfl
    have e7 := hd_nth (hd 7 (by omega)) rfl
    have e8 := hd_nth (hd 8 (by omega)) rfl
    have e9 := hd_nth (hd 9 (by omega)) rfl
    have e10 := hd_nth (hd 10 (by omega)) rfl
    have e11 := hd_nth (hd 11 (by omega)) rfl
    have e12 := hd_nth (hd 12 (by omega)) rfl
    have HF := Lib.hid (H3.out.below HW H3.out.1.lt)
    have c5 := HF.out.reg 5 (by decide)
    have d5 := HF.out.1.frozen 5
    have HF2 := Lib.hid (HS.out _ HF.out)
    have G4 := Lib.hid (grown_trans (grown_below (row := some b) HW) (grown_setCell w' b 5 (.int .u32 (s1 : Int))))
    have q4 := E4.out
    go_simp
    refine hK _ _ ?_
    clear hd hK K e0 e1 e2 e3 e4 e5 e6 e7 e8 e9 e10 e11 e12
    generalize w'.setCell ⟨b, 5, none⟩ (.int .u32 (s1 : Int)) = w4 at HF2 G4 ⊢
    clear c5 d5 HF
    have c1 := HF2.out.reg 2 (by decide)
    rw [HE.out] at c1
    go_wp2
    go_ret
    exact ⟨rfl, HF2.out, G4.out⟩
end Go.Proofs.YtniaclhmfmkikaaGreatDoor.Cs
end
