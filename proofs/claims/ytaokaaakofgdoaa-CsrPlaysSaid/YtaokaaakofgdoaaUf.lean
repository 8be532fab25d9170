/- The document's registers of the kernel's mode (hermitageref12). -/
import Derived.Test.YtaokaaakofgdoaaUe
namespace Go.Proofs.Ytaokaaakofgdoaa.Cs
open Go.RowKit Ut
set_option maxRecDepth 100000
set_option linter.unusedVariables false

/-- the document's file: its registers, its guest's number -/
def rCells (i : Nat) (R : List Nat) : List Value := wordsV R ++ [.int .i64 (i : Int)]
def RAt (w : World) (b i : Nat) (R : List Nat) : Prop := Blk w b 51 (rCells i R) ∧ Ok R ∧ i < 4
section
variable {w w' : World} {b i : Nat} {R : List Nat}
theorem RAt.below {B : Nat} (h : RAt w b i R) (hb : Below B w w') (hB : b < B) : RAt w' b i R := ⟨h.1.below hb hB, h.2⟩
theorem RAt.kept {row : Option Nat} (h : RAt w b i R) (hg : w.grownBy w' row) (hr : some b ≠ row) : RAt w' b i R := ⟨h.1.kept hg hr, h.2⟩
theorem RAt.reg (h : RAt w b i R) (k : Nat) (hk : k < 7) : w.cell? ⟨b, k, none⟩ = some (.int .u32 ((R.getD k 0 : Nat) : Int)) := h.1.cell (by
  have hl := h.2.1.len
  simp [rCells, wordsV, wordV, List.getD, hl, hk, List.getElem?_append])
theorem RAt.num (h : RAt w b i R) : w.cell? ⟨b, 7, none⟩ = some (.int .i64 (i : Int)) := h.1.cell (by
  have hl := h.2.1.len
  simp [rCells, wordsV, hl])
theorem rCells_words (i : Nat) (R : List Nat) : ∀ j v, (wordsV R)[j]? = some v → (rCells i R)[0 + j]? = some v := fun j v h => by
  have hj := (List.getElem?_eq_some_iff.1 h).1
  rw [Nat.zero_add]
  unfold rCells
  rw [List.getElem?_append_left hj]
  exact h
theorem rCells_set (i : Nat) (R : List Nat) (k v : Nat) (hl : k < R.length) : (rCells i R).set k (.int .u32 (v : Int)) = rCells i (R.set k v) := by
  unfold rCells wordsV
  rw [List.set_append_left _ _ (by simp [hl]), List.map_set]
  rfl
theorem RAt.set (h : RAt w b i R) (k v : Nat) (hk : k < 7) (hv : v < 4294967296) (h5 : k = 5 → v < 16) : RAt (w.setCell ⟨b, k, none⟩ (.int .u32 (v : Int))) b i (R.set k v) := by
  refine ⟨?_, h.2.1.set hv h5, h.2.2⟩
  have := h.1.set k (.int .u32 (v : Int))
  rwa [rCells_set i R k v (by rw [h.2.1.len]; exact hk)] at this
end
theorem splice_rwords (i : Nat) (R Q : List Nat) (hR : R.length = 7) (hQ : Q.length = 7) : splice (rCells i R) 0 (wordsV Q) = rCells i Q := by
  unfold splice rCells
  have e : (wordsV Q).length = (wordsV R).length := by simp [wordsV, hR, hQ]
  simp [e]

theorem refReset_any (b i : Nat) (R : List Nat) (w : World) (h : RAt w b i R) :
    Calls Try.prog 15 #[.pointer (some ⟨b, 0, none⟩)] w fun e w' => e = .returned (.tuple #[]) ∧ RAt w' b i ini ∧ w.grownBy w' (some b) := by
  have HF := Lib.hid h
  have HS : Hid (RAt (w.setRow b (splice (rCells i R) 0 (wordsV zer)).toArray) b i zer) := by
    refine ⟨?_, ok_zer, h.2.2⟩
    rw [splice_rwords i R zer h.2.1.len rfl]
    exact h.1.row _
  have HG := Lib.hid (grown_row (Below.refl w.heap.size w) b (splice (rCells i R) 0 (wordsV zer)).toArray)
  clear h
  go_enter Try.func15, Try.ntmps15
  go_upto_region 0 with fail
  refine wp_region_lit ?_
  refine Great.wpList_readTo rfl _ rfl (.pointer (some ⟨b, 0, none⟩)) (by kernel_rfl) ?_
  refine Great.wpList_readTo rfl _ rfl (.agg (wordsV zer).toArray) (by kernel_rfl) ?_
  refine Great.wpList_readTo rfl _ rfl (.pointer (some ⟨b, 0, none⟩)) (by kernel_rfl) ?_
  refine Great.wpList_readTo rfl _ rfl (.pointer (some ⟨b, 0, none⟩)) (by kernel_rfl) ?_
  refine wpList_store_cells rfl 48 _ _ rfl b 0 51 (rCells i R) (wordsV zer) (by kernel_rfl) (by kernel_rfl) HF.out.1 (size_words zer rfl) (by simp [rCells, wordsV, HF.out.2.1.len, zer]) (one_words zer) ?_
  generalize w.setRow b (splice (rCells i R) 0 (wordsV zer)).toArray = W2 at HS HG ⊢
  have HS2 : Hid (RAt (W2.setCell ⟨b, 5, none⟩ (.int .u32 4)) b i ini) := Lib.hid (HS.out.set 5 4 (by decide) (by decide) (by decide))
  have HG2 := Lib.hid (grown_trans HG.out (grown_setCell W2 b 5 (.int .u32 4)))
  have c5 := HS.out.reg 5 (by decide)
  have d5 := HS.out.1.frozen 5
  go_wp2
  go_end0
  exact ⟨rfl, HS2.out, HG2.out⟩

theorem refNew_no (n : Int) (w : World) (h : n < 0 ∨ 4 ≤ n) : Calls Try.prog 9 #[.int .i64 n] w fun e w' => e = .returned (.tuple #[.pointer none, .int .i64 1]) ∧ w = w' := by
  rcases Int.lt_or_le n 0 with h0 | h0
  · have h1 : decide (n < 0) = true := by simpa using h0
    go_enter Try.func9, Try.ntmps9
    go_wp2
    go_ret2
    exact ⟨rfl, rfl⟩
  · have h1 : decide (n < 0) = false := by simpa using h0
    have h2 : decide (4 ≤ n) = true := by simp; omega
    go_enter Try.func9, Try.ntmps9
    go_wp2
    go_ret2
    exact ⟨rfl, rfl⟩
theorem refNew_yes (i : Nat) (w : World) (h : i < 4) : Calls Try.prog 9 #[.int .i64 (i : Int)] w fun e w' => e = .returned (.tuple #[.pointer (some ⟨w.heap.size, 0, none⟩), .int .i64 0]) ∧ RAt w' w.heap.size i ini ∧ Below w.heap.size w w' := by
  have h1 : decide ((i : Int) < 0) = false := by simp
  have h2 : decide ((4 : Int) ≤ (i : Int)) = false := by simp; omega
  have hF : RAt (w.alloc (.cells (rCells i zer).toArray 51)) w.heap.size i zer := ⟨Blk.new w _ _, ok_zer, h⟩
  have HF := Lib.hid hF
  have HB := Lib.hid ((Below.refl w.heap.size w).alloc (Nat.le_refl _) (.cells (rCells i zer).toArray 51))
  clear hF h
  go_enter Try.func9, Try.ntmps9
  go_upto_region 3 with fail
  refine wp_region_lit ?_
  refine Great.wpList_readTo rfl _ rfl (.int .i64 (i : Int)) (by kernel_rfl) ?_
  refine wpList_buildTo rfl 51 _ rfl _ rfl (rCells i zer).toArray (by kernel_rfl) ?_
  refine Great.wpList_boxTo rfl 51 _ rfl _ rfl w.heap.size rfl (rCells i zer).toArray rfl ?_
  obtain ⟨W, hW⟩ : ∃ W, W = w.alloc (.cells (rCells i zer).toArray 51) := ⟨_, rfl⟩
  rw [← hW] at HF HB ⊢
  clear hW
  go_wp2_with fail
  refine (refReset_any w.heap.size i zer W HF.out).mono ?_
  rintro e w1 ⟨rfl, hF, hg⟩
  have HF1 := Lib.hid hF
  have HB1 := Lib.hid (below_of_grown HB.out hg HB.out.size (Nat.le_refl _))
  clear hF hg
  go_wp2
  go_ret2
  exact ⟨rfl, HF1.out, HB1.out⟩

theorem beq_cast (x y : Nat) : (((x : Nat) : Int) == ((y : Nat) : Int)) = (x == y) := by
  rw [Bool.eq_iff_iff, beq_iff_eq, beq_iff_eq]
  omega
theorem refHas_any (b i k : Nat) (R : List Nat) (w : World) (h : RAt w b i R) (hk : k = 1 ∨ k = 2 ∨ k = 4 ∨ k = 8) :
    Calls Try.prog 33 #[.pointer (some ⟨b, 0, none⟩), .int .u32 (k : Int)] w fun e w' => e = .returned (.bool (hasB (st R) k)) ∧ w = w' := by
  have c5 := h.reg 5 (by decide)
  have HB := Lib.hid (u32_and_nat (R.getD 5 0) k (h.2.1.reg 5) (by omega))
  have HE := Lib.hid (has_is h.2.1.stat hk)
  clear h hk
  unfold st
  generalize R.getD 5 0 = s at c5 HB HE ⊢
  generalize hasB s k = q at HE ⊢
  go_enter Try.func33, Try.ntmps33
  go_wp2
  go_ret
  refine ⟨?_, rfl⟩
  rw [HB.out, beq_cast, HE.out]
  rfl
theorem refBit_any (q : Bool) (x : Int) (w : World) : Calls Try.prog 32 #[.bool q, .int .u32 x] w fun e w' => e = .returned (.int .u32 (if q then x else 0)) ∧ w = w' := by
  cases q
  · go_enter Try.func32, Try.ntmps32
    go_wp2
    go_ret
    exact ⟨rfl, rfl⟩
  · go_enter Try.func32, Try.ntmps32
    go_wp2
    go_ret
    exact ⟨rfl, rfl⟩
theorem refHandles_any (b i : Nat) (R : List Nat) (w : World) (h : RAt w b i R) :
    Calls Try.prog 26 #[.pointer (some ⟨b, 0, none⟩)] w fun e w' => e = .returned (.bool (hndB R)) ∧ w = w' := by
  have c1 := h.reg 1 (by decide)
  have HQ : Hid (hndB R = ((((R.getD 1 0 : Nat) : Int)) != 0)) := Lib.hid (bne_cast _).symm
  clear h
  generalize hndB R = q at HQ ⊢
  generalize R.getD 1 0 = x at c1 HQ
  go_enter Try.func26, Try.ntmps26
  go_wp2
  go_ret
  exact ⟨by rw [HQ.out]; rfl, rfl⟩
theorem refOpen_any (b i : Nat) (R : List Nat) (w : World) (h : RAt w b i R) :
    Calls Try.prog 24 #[.pointer (some ⟨b, 0, none⟩)] w fun e w' => e = .returned (.bool (opnB R)) ∧ w = w' := by
  have HH := Lib.hid (refHandles_any b i R w h)
  have HA := Lib.hid (refHas_any b i 1 R w h (.inl rfl))
  clear h
  unfold opnB
  generalize hasB (st R) 1 = q at HA ⊢
  generalize hndB R = p at HH ⊢
  cases p
  · go_enter Try.func24, Try.ntmps24
    go_wp2_with fail
    refine HH.out.mono ?_
    rintro e w' ⟨rfl, rfl⟩
    go_wp2
    go_ret
    exact ⟨rfl, rfl⟩
  · go_enter Try.func24, Try.ntmps24
    go_wp2_with fail
    refine HH.out.mono ?_
    rintro e w' ⟨rfl, rfl⟩
    go_wp2_with fail
    refine HA.out.mono ?_
    rintro e w' ⟨rfl, rfl⟩
    go_wp2
    go_ret
    exact ⟨rfl, rfl⟩

theorem refRead_any (b i : Nat) (n clock : Int) (R : List Nat) (w : World) (h : RAt w b i R) :
    Calls Try.prog 20 #[.pointer (some ⟨b, 0, none⟩), .int .i64 n, .int .i64 clock] w fun e w' => e = .returned (.tuple #[.int .u32 (rdZ R i n clock), .int .i64 (errZ R n 9)]) ∧ w = w' := by
  have HA := Lib.hid (refHas_any b i 4 R w h (by decide))
  have HF := Lib.hid h
  have hi := h.2.2
  clear h
  rcases errZ_cases R n 9 with ⟨h1, h2⟩ | ⟨h1, h0, h2⟩ | ⟨h1, h0, h3, h2⟩ | ⟨h1, h0, h3, h2⟩
  · rw [show rdZ R i n clock = 0 from if_neg (by omega), h2]
    rw [h1] at HA
    clear h1 h2 hi
    go_enter Try.func20, Try.ntmps20
    go_wp2_with fail
    refine HA.out.mono ?_
    rintro e w' ⟨rfl, rfl⟩
    go_wp2
    go_ret2
    exact ⟨rfl, rfl⟩
  · rw [show rdZ R i n clock = 0 from if_neg (by omega), h2]
    rw [h1] at HA
    clear h1 h2 hi
    have hd : decide (n < 0) = true := by simpa using h0
    go_enter Try.func20, Try.ntmps20
    go_wp2_with fail
    refine HA.out.mono ?_
    rintro e w' ⟨rfl, rfl⟩
    go_wp2
    go_ret2
    exact ⟨rfl, rfl⟩
  · rw [show rdZ R i n clock = 0 from if_neg (by omega), h2]
    rw [h1] at HA
    clear h1 h2 hi
    have hd : decide (n < 0) = false := by simpa using h0
    have hd2 : decide (9 ≤ n) = true := by simpa using h3
    go_enter Try.func20, Try.ntmps20
    go_wp2_with fail
    refine HA.out.mono ?_
    rintro e w' ⟨rfl, rfl⟩
    go_wp2
    go_ret2
    exact ⟨rfl, rfl⟩
  · rw [show rdZ R i n clock = _ from if_pos h2, h2]
    rw [h1] at HA
    clear h1 h2
    obtain ⟨k, rfl⟩ : ∃ k : Nat, n = (k : Int) := ⟨n.toNat, by omega⟩
    have hk : k < 9 := by omega
    have hd : decide ((k : Int) < 0) = false := by simp
    have hd2 : decide ((9 : Int) ≤ (k : Int)) = false := by simp; omega
    clear h0 h3
    by_cases h7 : k = 7
    · subst h7
      clear hk hi
      go_enter Try.func20, Try.ntmps20
      go_wp2_with fail
      refine HA.out.mono ?_
      rintro e w' ⟨rfl, rfl⟩
      go_wp2
      go_ret2
      exact ⟨rfl, rfl⟩
    · by_cases h8 : k = 8
      · subst h8
        clear hk h7
        have c1 := HF.out.num
        go_enter Try.func20, Try.ntmps20
        go_wp2_with fail
        refine HA.out.mono ?_
        rintro e w' ⟨rfl, rfl⟩
        go_wp2
        go_ret2
        exact ⟨rfl, rfl⟩
      · have d7 : ((k : Int) == 7) = false := by simp; omega
        have d8 : ((k : Int) == 8) = false := by simp; omega
        rw [if_neg (by omega), if_neg (by omega), Int.toNat_natCast]
        have hk7 : k < 7 := by omega
        clear hk h7 h8 hi
        have c1 := HF.out.reg k hk7
        generalize R.getD k 0 = z at c1 ⊢
        go_enter Try.func20, Try.ntmps20
        go_wp2_with fail
        refine HA.out.mono ?_
        rintro e w' ⟨rfl, rfl⟩
        go_wp2
        go_ret2
        exact ⟨rfl, rfl⟩

theorem refWrite_any (b i : Nat) (n : Int) (v : Nat) (R : List Nat) (w : World) (h : RAt w b i R) (hv : v < 4294967296) :
    Calls Try.prog 18 #[.pointer (some ⟨b, 0, none⟩), .int .i64 n, .int .u32 (v : Int)] w fun e w' => e = .returned (.int .i64 (errZ R n 7)) ∧ RAt w' b i (wrR R n v) ∧ w.grownBy w' (some b) := by
  have HA := Lib.hid (refHas_any b i 4 R w h (by decide))
  have HF := Lib.hid h
  clear h
  rcases errZ_cases R n 7 with ⟨h1, h2⟩ | ⟨h1, h0, h2⟩ | ⟨h1, h0, h3, h2⟩ | ⟨h1, h0, h3, h2⟩
  · rw [show wrR R n v = R from if_neg (by omega), h2]
    rw [h1] at HA
    clear h1 h2
    go_enter Try.func18, Try.ntmps18
    go_wp2_with fail
    refine HA.out.mono ?_
    rintro e w' ⟨rfl, rfl⟩
    go_wp2
    go_ret
    exact ⟨rfl, HF.out, World.grownBy.refl _ _⟩
  · rw [show wrR R n v = R from if_neg (by omega), h2]
    rw [h1] at HA
    clear h1 h2
    have hd : decide (n < 0) = true := by simpa using h0
    go_enter Try.func18, Try.ntmps18
    go_wp2_with fail
    refine HA.out.mono ?_
    rintro e w' ⟨rfl, rfl⟩
    go_wp2
    go_ret
    exact ⟨rfl, HF.out, World.grownBy.refl _ _⟩
  · rw [show wrR R n v = R from if_neg (by omega), h2]
    rw [h1] at HA
    clear h1 h2
    have hd : decide (n < 0) = false := by simpa using h0
    have hd2 : decide (6 < n) = true := by simp; omega
    go_enter Try.func18, Try.ntmps18
    go_wp2_with fail
    refine HA.out.mono ?_
    rintro e w' ⟨rfl, rfl⟩
    go_wp2
    go_ret
    exact ⟨rfl, HF.out, World.grownBy.refl _ _⟩
  · rw [show wrR R n v = _ from if_pos h2, h2]
    rw [h1] at HA
    clear h1 h2
    obtain ⟨k, rfl⟩ : ∃ k : Nat, n = (k : Int) := ⟨n.toNat, by omega⟩
    have hk : k < 7 := by omega
    have hd : decide ((k : Int) < 0) = false := by simp
    have hd2 : decide ((6 : Int) < (k : Int)) = false := by simp; omega
    clear h0 h3
    rw [Int.toNat_natCast]
    have HS := Lib.hid (HF.out.set k (v &&& maskN k) hk (mask_lt _ _ hv) (fun e => by rw [e]; exact mask_five v))
    have HG := Lib.hid (grown_setCell w b k (.int .u32 ((v &&& maskN k : Nat) : Int)))
    have c1 := HF.out.reg k hk
    have f1 := HF.out.1.frozen k
    have hk7 : (k : Int) < 7 := by omega
    by_cases h0 : k = 0
    · subst h0
      have q1 : bits .and .u32 (v : Int) 7937 = ((v &&& maskN 0 : Nat) : Int) := u32_and_nat v 7937 hv (by decide)
      generalize v &&& maskN 0 = z at q1 HS HG ⊢
      go_enter Try.func18, Try.ntmps18
      go_wp2_with fail
      refine HA.out.mono ?_
      rintro e w' ⟨rfl, rfl⟩
      go_wp2
      go_ret
      exact ⟨rfl, HS.out, HG.out⟩
    · by_cases h5 : k = 5
      · subst h5
        have q1 : bits .and .u32 (v : Int) 15 = ((v &&& maskN 5 : Nat) : Int) := u32_and_nat v 15 hv (by decide)
        generalize v &&& maskN 5 = z at q1 HS HG ⊢
        go_enter Try.func18, Try.ntmps18
        go_wp2_with fail
        refine HA.out.mono ?_
        rintro e w' ⟨rfl, rfl⟩
        go_wp2
        go_ret
        exact ⟨rfl, HS.out, HG.out⟩
      · have d0 : ((k : Int) == 0) = false := by simp; omega
        have d5 : ((k : Int) == 5) = false := by simp; omega
        rw [mask_all h0 h5 hv] at HS HG ⊢
        clear h0 h5
        go_enter Try.func18, Try.ntmps18
        go_wp2_with fail
        refine HA.out.mono ?_
        rintro e w' ⟨rfl, rfl⟩
        go_wp2
        go_ret
        exact ⟨rfl, HS.out, HG.out⟩
end Go.Proofs.Ytaokaaakofgdoaa.Cs
