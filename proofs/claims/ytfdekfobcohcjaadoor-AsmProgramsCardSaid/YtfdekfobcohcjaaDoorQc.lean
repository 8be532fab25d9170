/- Package asm: slices.Index of texts; parts: what an instruction's operation has. -/
import Derived.Test.YtfdekfobcohcjaaDoorQn
import Derived.Test.YtfdekfobcohcjaaDoorEa
import Derived.Test.YtfdekfobcohcjaaDoorRd
import Derived.Deep.Cut
import Derived.Laws.Rows
import Derived.Laws.Tables
import Derived.Outline
namespace Go.Proofs.YtfdekfobcohcjaaDoor.As
open Go.RowKit Ut Is Pl
set_option linter.unusedVariables false
set_option maxRecDepth 100000
set_option maxHeartbeats 4000000

theorem index_any (a : Option Addr) (n cap : Nat) (ts : List (List UInt8)) (B : Nat) (w : World) (h : RowS w B a n ts) (hn : n ≤ maxLen) (x : List UInt8) :
    Calls Tryd.prog 42 #[.slice a n cap, .string (tb x)] w fun e w' => e = .returned (.int .i64 (idxL x ts 0)) ∧ w = w' := by
  unfold maxLen at hn
  obtain ⟨S, hS⟩ : ∃ S, S = tb x := ⟨_, rfl⟩
  rw [← hS]
  have HS := Lib.hid hS
  clear hS
  go_enter Tryd.func42, Tryd.ntmps42
  go_wp2
  go_loop [8] (fun i => ∃ k : Nat, k ≤ n ∧ i = .int .i64 k ∧ idxL x ts 0 = idxL x (ts.drop k) k) (fun i => n - (intOf i).toNat)
  case atStart => exact ⟨0, Nat.zero_le _, rfl, rfl⟩
  case round =>
    obtain ⟨k, hk, rfl, hi⟩ := hrel
    have HI := Lib.hid hi
    clear hi
    by_cases hlt : k < n
    · obtain ⟨ad, rfl, hxb, hc⟩ := h.at k hlt
      have HD := Lib.hid (idxL_drop (x := x) (l := ts) (k := k) (by rw [h.1]; exact hlt) k)
      cases he : decide (x = ts.getD k [])
      · have HE : Hid (¬ x = ts.getD k []) := Lib.hid (by simpa using he)
        have hne : (S.toList == (tb (ts.getD k [])).toList) = false := by
          rw [ByteArray.toList_eq, ByteArray.toList_eq, HS.out, beq_eq_false_iff_ne]
          exact HE.out
        clear he
        generalize tb (ts.getD k []) = tx at hc hne
        go_wp2
        go_round
        case rel => exact ⟨k + 1, by omega, by go_num, by rw [HI.out, HD.out, if_neg HE.out]⟩
        case measure => simp [intOf]; omega
      · have HE : Hid (x = ts.getD k []) := Lib.hid (by simpa using he)
        have hne : (S.toList == (tb (ts.getD k [])).toList) = true := by
          rw [ByteArray.toList_eq, ByteArray.toList_eq, HS.out, beq_iff_eq]
          exact HE.out
        clear he
        generalize tb (ts.getD k []) = tx at hc hne
        go_wp2
        go_ret
        refine ⟨?_, rfl⟩
        rw [HI.out, HD.out, if_pos HE.out]
        rfl
    · obtain rfl : k = n := by omega
      go_wp2
      go_ret
      refine ⟨?_, rfl⟩
      rw [HI.out, List.drop_of_length_le (by rw [h.1]; exact Nat.le_refl _)]
      rfl

/-! ### parts -/
abbrev aloneL (p : Nat) (o d a b m : Int) (j : Nat) (mk : List UInt8) : List Value := [.int .i64 o, .int .i64 d, .int .i64 a, .int .i64 b, .int .i64 m, .pointer (some ⟨p, j, none⟩), .string (tb mk)]
def rowL (p : Nat) (o : Int) : List Value := aloneL p o 1 0 0 0 1 [114] ++ (aloneL p o 0 1 0 0 2 [114] ++ (aloneL p o 0 0 1 0 3 [114] ++ aloneL p o 0 0 0 1 4 []))
abbrev zeroA : List Value := [.int .i64 0, .int .i64 0, .int .i64 0, .int .i64 0, .int .i64 0, .pointer none, .string ⟨#[]⟩]
theorem rowL_one (p : Nat) (o : Int) : (rowL p o).toArray.all (·.oneCell') = true := by simp [rowL, Value.oneCell']
def zeroR : List Value := zeroA ++ (zeroA ++ (zeroA ++ zeroA))
def PR (V W : World) (t : Bool) : Prop := Below V.heap.size V W ∧ (if t then W.heap[V.heap.size]? = some (.cells zeroR.toArray 87 (0, 0)) else W.heap.size = V.heap.size)
theorem pr_alloc {V W : World} (h : Below V.heap.size V W) (hz : W.heap.size = V.heap.size) : PR V (W.alloc (.cells zeroR.toArray 87 (0, 0))) true := by
  refine ⟨h.alloc (by omega) _, ?_⟩
  have := heap_alloc_new W (.cells zeroR.toArray 87 (0, 0))
  rw [hz] at this
  exact this
def hasK (n j : Nat) : Bool := if j = 1 then hD n else if j = 2 then hA n else if j = 3 then hB n else hI n
def markK (j : Nat) : List UInt8 := if j = 4 then [] else [114]
def partsF (n k : Nat) : List (Nat × List UInt8) := (partsN n).filter fun q => decide (q.1 ≤ k)
theorem partsF_zero (n : Nat) : partsF n 0 = [] := by
  unfold partsF; rw [parts_eq]
  cases hD n <;> cases hA n <;> cases hB n <;> cases hI n <;> rfl
theorem partsF_all (n : Nat) : partsF n 4 = partsN n := by
  unfold partsF; rw [parts_eq]
  cases hD n <;> cases hA n <;> cases hB n <;> cases hI n <;> rfl
theorem partsF_succ (n k : Nat) (h : k < 4) : partsF n (k + 1) = partsF n k ++ (if hasK n (k + 1) then [(k + 1, markK (k + 1))] else []) := by
  unfold partsF hasK markK; rw [parts_eq]
  match k, h with
  | 0, _ => cases hD n <;> cases hA n <;> cases hB n <;> cases hI n <;> rfl
  | 1, _ => cases hD n <;> cases hA n <;> cases hB n <;> cases hI n <;> rfl
  | 2, _ => cases hD n <;> cases hA n <;> cases hB n <;> cases hI n <;> rfl
  | 3, _ => cases hD n <;> cases hA n <;> cases hB n <;> cases hI n <;> rfl
  | k + 4, h => omega
theorem partsF_yes {n k : Nat} (h : k < 4) (hk : hasK n (k + 1) = true) : partsF n (k + 1) = partsF n k ++ [(k + 1, markK (k + 1))] := by rw [partsF_succ n k h, if_pos hk]
theorem partsF_no {n k : Nat} (h : k < 4) (hk : hasK n (k + 1) = false) : partsF n (k + 1) = partsF n k := by rw [partsF_succ n k h, hk]; simp
theorem partsF_len (n k : Nat) : (partsF n k).length ≤ 4 := by
  unfold partsF
  refine Nat.le_trans (List.length_filter_le _ _) ?_
  rw [parts_eq]
  cases hD n <;> cases hA n <;> cases hB n <;> cases hI n <;> decide
/-- a part as it lies in memory -/
def encPt (p : Nat) (q : Nat × List UInt8) : List Value := [.pointer (some ⟨p, q.1, none⟩), .string (tb q.2)]
def encPs (p : Nat) (l : List (Nat × List UInt8)) : List Value := (l.map (encPt p)).flatten
theorem encPs_snoc (p : Nat) (l : List (Nat × List UInt8)) (q : Nat × List UInt8) : encPs p (l ++ [q]) = encPs p l ++ encPt p q := by simp [encPs]
/-- the call's own row of parts -/
def OwnP (w : World) (B p : Nat) (v : Value) (l : List (Nat × List UInt8)) : Prop := w.ownsRow B 53 2 v l.length (encPs p l)
theorem OwnP.nil (w : World) (B p : Nat) : OwnP w B p (.slice none 0 0) [] := World.ownsRow_nil _ _ _ _
theorem OwnP.alloc {w : World} {B p : Nat} {v : Value} {l : List (Nat × List UInt8)} (h : OwnP w B p v l) (o : Obj) : OwnP (w.alloc o) B p v l := World.ownsRow.alloc h o
theorem OwnP.below {w w' : World} {B p : Nat} {v : Value} {l : List (Nat × List UInt8)} (h : OwnP w B p v l) (hb : Below w.heap.size w w') : OwnP w' B p v l := by
  refine ⟨h.1, ?_⟩
  rcases h.2 with h0 | ⟨g, cap, cur, rfl, hB, hg', r⟩
  · exact .inl h0
  · exact .inr ⟨g, cap, cur, rfl, hB, (hb.block g (Array.getElem?_eq_some_iff.1 hg').1).trans hg', r⟩
theorem info_part : (Tryd.prog.info? 53).map (fun i => (i.zero, i.size, i.bytes)) = some (some (.agg #[.pointer none, .string ⟨#[]⟩]), 2, 24) := by kernel_rfl
theorem alone_all : (List.range 42).all (fun n => decide (validB n 1 0 0 0 = hD n) && decide (validB n 0 1 0 0 = hA n) && decide (validB n 0 0 1 0 = hB n) && decide (validB n 0 0 0 1 = hI n)) = true := by decide +kernel
theorem alone_valid (o : Int) (h1 : -1 ≤ o) (h2 : o ≤ 41) : validB o 1 0 0 0 = hasK o.toNat 1 ∧ validB o 0 1 0 0 = hasK o.toNat 2 ∧ validB o 0 0 1 0 = hasK o.toNat 3 ∧ validB o 0 0 0 1 = hasK o.toNat 4 := by
  by_cases h : o = -1
  · subst h; decide +kernel
  · obtain ⟨n, rfl⟩ : ∃ n : Nat, o = n := ⟨o.toNat, by omega⟩
    have := List.all_eq_true.1 alone_all n (List.mem_range.2 (by omega))
    simp only [Bool.and_eq_true, decide_eq_true_eq] at this
    exact ⟨this.1.1.1, this.1.1.2, this.1.2, this.2⟩
theorem cell_of {w : World} {b : Nat} {cs : List Value} {t : TypeId} (h : w.heap[b]? = some (.cells cs.toArray t (0, 0))) (i : Nat) (u : Value) (hi : cs[i]? = some u) : w.cell? ⟨b, i, none⟩ = some u := by simp [World.cell?, h, hi]
theorem two_cells (w : World) (l : List Value) (t : TypeId) (j : Nat) (u : Value) (h : l[j]? = some u) : (w.alloc (.cells l.toArray t)).cell? ((⟨w.heap.size, 0, none⟩ : Addr).add j) = some u := by
  rw [add_plain]
  unfold World.cell?
  simp only [heap_alloc_new]
  simpa using h
theorem parts_any (o d a b m : Int) (h1 : -1 ≤ o) (h2 : o ≤ 41) (p : Nat) (w : World) (hw : HasT w) (hI : InsAt w p o d a b m) :
    Calls Tryd.prog 19 #[.pointer (some ⟨p, 0, none⟩)] w fun e w' => ∃ v, e = .returned v ∧ OwnP w' w.heap.size p v (partsN o.toNat) ∧ Below w.heap.size w w' := by
  obtain ⟨i0, hi, hz0, hz1, hz2⟩ := info_parts info_part
  obtain ⟨n, hn⟩ : ∃ n, n = o.toNat := ⟨_, rfl⟩
  obtain ⟨a1, a2, a3, a4⟩ := alone_valid o h1 h2
  rw [← hn] at a1 a2 a3 a4 ⊢
  have HA1 := Lib.hid a1
  have HA2 := Lib.hid a2
  have HA3 := Lib.hid a3
  have HA4 := Lib.hid a4
  have HT := Lib.hid hw
  obtain ⟨c0, c1, c2, c3, c4⟩ := hI.cells
  have hpl := hI.lt
  have HP0 : Hid (PR w w.drew false) := Lib.hid ⟨(Below.refl _ _).drew, rfl⟩
  clear hI hw a1 a2 a3 a4 hn h1 h2
  go_enter Tryd.func19, Tryd.ntmps19
  go_upto_region 1 with fail
  apply wp_region_autoL [7, 8, 9, 10, 11, 12, 13, 14, 15, 16, 17, 18, 19, 20, 21, 22, 23, 24, 25, 26, 27, 28, 29, 30, 31, 32, 33, 34, 35, 36, 37, 38, 39, 40, 41, 42, 43, 44, 45, 46, 47, 3] [_, _, _, _, _, _, _, _, _, _, _, _, _, _, _, _, _, _, _, _, _, _, _, _, _, _, _, _, _, _, _, _, _, _, _, _, _, _, _, _, _, _] (fun L W' => PR w W' (L 41))
  case hm => kernel_rfl
  case hT => intro y; simp only [setAll, List.setIfInBounds_toArray, List.set_cons_succ, List.set_cons_zero]; exact rfl
  case hok => kernel_rfl
  case hn => decide
  case hw => exact fun L hL => (by simp only [hL 41 (by decide)]; exact HP0.out)
  case hs =>
    refine autoL_op 7 [] (by kernel_rfl) (fun L y w' hL HW hd K hK => ?_) ?_
    · go_simp
      refine hK _ _ ?_ ?_ HW
      · simp [upd]
      · exact rfl
    refine autoL_op 8 [0] (by kernel_rfl) (fun L y w' hL HW hd K hK => ?_) ?_
    · have e0 := hd_nth (hd 0 (by simp)) rfl
      go_simp
      refine hK _ _ ?_ ?_ HW
      · simp [upd, e0]
      · exact rfl
    refine autoL_op 9 [1] (by kernel_rfl) (fun L y w' hL HW hd K hK => ?_) ?_
    · have e1 := hd_nth (hd 1 (by simp)) rfl
      go_simp
      refine hK _ _ ?_ ?_ HW
      · simp [upd, e1]
      · exact rfl
    refine autoL_op 10 [2] (by kernel_rfl) (fun L y w' hL HW hd K hK => ?_) ?_
    · have e2 := hd_nth (hd 2 (by simp)) rfl
      have hcl : ∀ p : Addr, p.block < w.heap.size → w'.cell? p = w.cell? p := fun p hp => HW.1.cell hp
      go_simp
      refine hK _ _ ?_ ?_ HW
      · simp [upd, e2]
      · exact rfl
    refine autoL_op 11 [3] (by kernel_rfl) (fun L y w' hL HW hd K hK => ?_) ?_
    · have e3 := hd_nth (hd 3 (by simp)) rfl
      go_simp
      refine hK _ _ ?_ ?_ HW
      · simp [upd, e3]
      · exact rfl
    refine autoL_op 12 [] (by kernel_rfl) (fun L y w' hL HW hd K hK => ?_) ?_
    · go_simp
      refine hK _ _ ?_ ?_ HW
      · simp [upd]
      · exact rfl
    refine autoL_op 13 [5] (by kernel_rfl) (fun L y w' hL HW hd K hK => ?_) ?_
    · have e5 := hd_nth (hd 5 (by simp)) rfl
      go_simp
      refine hK _ _ ?_ ?_ HW
      · simp [upd, e5]
      · exact rfl
    refine autoL_op 14 [6] (by kernel_rfl) (fun L y w' hL HW hd K hK => ?_) ?_
    · have e6 := hd_nth (hd 6 (by simp)) rfl
      go_simp
      refine hK _ _ ?_ ?_ HW
      · simp [upd, e6]
      · exact rfl
    refine autoL_op 15 [7] (by kernel_rfl) (fun L y w' hL HW hd K hK => ?_) ?_
    · have e7 := hd_nth (hd 7 (by simp)) rfl
      go_simp
      refine hK _ _ ?_ ?_ HW
      · simp [upd, e7]
      · exact rfl
    refine autoL_op 16 [4, 8] (by kernel_rfl) (fun L y w' hL HW hd K hK => ?_) ?_
    · have e4 := hd_nth (hd 4 (by simp)) rfl
      have e8 := hd_nth (hd 8 (by simp)) rfl
      go_simp
      refine hK _ _ ?_ ?_ HW
      · simp [upd, e4, e8]
      · exact rfl
    refine autoL_op 17 [] (by kernel_rfl) (fun L y w' hL HW hd K hK => ?_) ?_
    · go_simp
      refine hK _ _ ?_ ?_ HW
      · simp [upd]
      · exact rfl
    refine autoL_op 18 [10] (by kernel_rfl) (fun L y w' hL HW hd K hK => ?_) ?_
    · have e10 := hd_nth (hd 10 (by simp)) rfl
      go_simp
      refine hK _ _ ?_ ?_ HW
      · simp [upd, e10]
      · exact rfl
    refine autoL_op 19 [11] (by kernel_rfl) (fun L y w' hL HW hd K hK => ?_) ?_
    · have e11 := hd_nth (hd 11 (by simp)) rfl
      go_simp
      refine hK _ _ ?_ ?_ HW
      · simp [upd, e11]
      · exact rfl
    refine autoL_op 20 [12] (by kernel_rfl) (fun L y w' hL HW hd K hK => ?_) ?_
    · have e12 := hd_nth (hd 12 (by simp)) rfl
      have hcl : ∀ p : Addr, p.block < w.heap.size → w'.cell? p = w.cell? p := fun p hp => HW.1.cell hp
      go_simp
      refine hK _ _ ?_ ?_ HW
      · simp [upd, e12]
      · exact rfl
    refine autoL_op 21 [13] (by kernel_rfl) (fun L y w' hL HW hd K hK => ?_) ?_
    · have e13 := hd_nth (hd 13 (by simp)) rfl
      go_simp
      refine hK _ _ ?_ ?_ HW
      · simp [upd, e13]
      · exact rfl
    refine autoL_op 22 [] (by kernel_rfl) (fun L y w' hL HW hd K hK => ?_) ?_
    · go_simp
      refine hK _ _ ?_ ?_ HW
      · simp [upd]
      · exact rfl
    refine autoL_op 23 [15] (by kernel_rfl) (fun L y w' hL HW hd K hK => ?_) ?_
    · have e15 := hd_nth (hd 15 (by simp)) rfl
      go_simp
      refine hK _ _ ?_ ?_ HW
      · simp [upd, e15]
      · exact rfl
    refine autoL_op 24 [16] (by kernel_rfl) (fun L y w' hL HW hd K hK => ?_) ?_
    · have e16 := hd_nth (hd 16 (by simp)) rfl
      go_simp
      refine hK _ _ ?_ ?_ HW
      · simp [upd, e16]
      · exact rfl
    refine autoL_op 25 [17] (by kernel_rfl) (fun L y w' hL HW hd K hK => ?_) ?_
    · have e17 := hd_nth (hd 17 (by simp)) rfl
      go_simp
      refine hK _ _ ?_ ?_ HW
      · simp [upd, e17]
      · exact rfl
    refine autoL_op 26 [14, 18] (by kernel_rfl) (fun L y w' hL HW hd K hK => ?_) ?_
    · have e14 := hd_nth (hd 14 (by simp)) rfl
      have e18 := hd_nth (hd 18 (by simp)) rfl
      go_simp
      refine hK _ _ ?_ ?_ HW
      · simp [upd, e14, e18]
      · exact rfl
    refine autoL_op 27 [] (by kernel_rfl) (fun L y w' hL HW hd K hK => ?_) ?_
    · go_simp
      refine hK _ _ ?_ ?_ HW
      · simp [upd]
      · exact rfl
    refine autoL_op 28 [20] (by kernel_rfl) (fun L y w' hL HW hd K hK => ?_) ?_
    · have e20 := hd_nth (hd 20 (by simp)) rfl
      go_simp
      refine hK _ _ ?_ ?_ HW
      · simp [upd, e20]
      · exact rfl
    refine autoL_op 29 [21] (by kernel_rfl) (fun L y w' hL HW hd K hK => ?_) ?_
    · have e21 := hd_nth (hd 21 (by simp)) rfl
      go_simp
      refine hK _ _ ?_ ?_ HW
      · simp [upd, e21]
      · exact rfl
    refine autoL_op 30 [22] (by kernel_rfl) (fun L y w' hL HW hd K hK => ?_) ?_
    · have e22 := hd_nth (hd 22 (by simp)) rfl
      have hcl : ∀ p : Addr, p.block < w.heap.size → w'.cell? p = w.cell? p := fun p hp => HW.1.cell hp
      go_simp
      refine hK _ _ ?_ ?_ HW
      · simp [upd, e22]
      · exact rfl
    refine autoL_op 31 [23] (by kernel_rfl) (fun L y w' hL HW hd K hK => ?_) ?_
    · have e23 := hd_nth (hd 23 (by simp)) rfl
      go_simp
      refine hK _ _ ?_ ?_ HW
      · simp [upd, e23]
      · exact rfl
    refine autoL_op 32 [] (by kernel_rfl) (fun L y w' hL HW hd K hK => ?_) ?_
    · go_simp
      refine hK _ _ ?_ ?_ HW
      · simp [upd]
      · exact rfl
    refine autoL_op 33 [25] (by kernel_rfl) (fun L y w' hL HW hd K hK => ?_) ?_
    · have e25 := hd_nth (hd 25 (by simp)) rfl
      go_simp
      refine hK _ _ ?_ ?_ HW
      · simp [upd, e25]
      · exact rfl
    refine autoL_op 34 [26] (by kernel_rfl) (fun L y w' hL HW hd K hK => ?_) ?_
    · have e26 := hd_nth (hd 26 (by simp)) rfl
      go_simp
      refine hK _ _ ?_ ?_ HW
      · simp [upd, e26]
      · exact rfl
    refine autoL_op 35 [27] (by kernel_rfl) (fun L y w' hL HW hd K hK => ?_) ?_
    · have e27 := hd_nth (hd 27 (by simp)) rfl
      go_simp
      refine hK _ _ ?_ ?_ HW
      · simp [upd, e27]
      · exact rfl
    refine autoL_op 36 [24, 28] (by kernel_rfl) (fun L y w' hL HW hd K hK => ?_) ?_
    · have e24 := hd_nth (hd 24 (by simp)) rfl
      have e28 := hd_nth (hd 28 (by simp)) rfl
      go_simp
      refine hK _ _ ?_ ?_ HW
      · simp [upd, e24, e28]
      · exact rfl
    refine autoL_op 37 [] (by kernel_rfl) (fun L y w' hL HW hd K hK => ?_) ?_
    · go_simp
      refine hK _ _ ?_ ?_ HW
      · simp [upd]
      · exact rfl
    refine autoL_op 38 [30] (by kernel_rfl) (fun L y w' hL HW hd K hK => ?_) ?_
    · have e30 := hd_nth (hd 30 (by simp)) rfl
      go_simp
      refine hK _ _ ?_ ?_ HW
      · simp [upd, e30]
      · exact rfl
    refine autoL_op 39 [31] (by kernel_rfl) (fun L y w' hL HW hd K hK => ?_) ?_
    · have e31 := hd_nth (hd 31 (by simp)) rfl
      go_simp
      refine hK _ _ ?_ ?_ HW
      · simp [upd, e31]
      · exact rfl
    refine autoL_op 40 [32] (by kernel_rfl) (fun L y w' hL HW hd K hK => ?_) ?_
    · have e32 := hd_nth (hd 32 (by simp)) rfl
      have hcl : ∀ p : Addr, p.block < w.heap.size → w'.cell? p = w.cell? p := fun p hp => HW.1.cell hp
      go_simp
      refine hK _ _ ?_ ?_ HW
      · simp [upd, e32]
      · exact rfl
    refine autoL_op 41 [33] (by kernel_rfl) (fun L y w' hL HW hd K hK => ?_) ?_
    · have e33 := hd_nth (hd 33 (by simp)) rfl
      go_simp
      refine hK _ _ ?_ ?_ HW
      · simp [upd, e33]
      · exact rfl
    refine autoL_op 42 [] (by kernel_rfl) (fun L y w' hL HW hd K hK => ?_) ?_
    · go_simp
      refine hK _ _ ?_ ?_ HW
      · simp [upd]
      · exact rfl
    refine autoL_op 43 [35] (by kernel_rfl) (fun L y w' hL HW hd K hK => ?_) ?_
    · have e35 := hd_nth (hd 35 (by simp)) rfl
      go_simp
      refine hK _ _ ?_ ?_ HW
      · simp [upd, e35]
      · exact rfl
    refine autoL_op 44 [36] (by kernel_rfl) (fun L y w' hL HW hd K hK => ?_) ?_
    · have e36 := hd_nth (hd 36 (by simp)) rfl
      go_simp
      refine hK _ _ ?_ ?_ HW
      · simp [upd, e36]
      · exact rfl
    refine autoL_op 45 [37] (by kernel_rfl) (fun L y w' hL HW hd K hK => ?_) ?_
    · have e37 := hd_nth (hd 37 (by simp)) rfl
      go_simp
      refine hK _ _ ?_ ?_ HW
      · simp [upd, e37]
      · exact rfl
    refine autoL_op 46 [34, 38] (by kernel_rfl) (fun L y w' hL HW hd K hK => ?_) ?_
    · have e34 := hd_nth (hd 34 (by simp)) rfl
      have e38 := hd_nth (hd 38 (by simp)) rfl
      go_simp
      refine hK _ _ ?_ ?_ HW
      · simp [upd, e34, e38]
      · exact rfl
    refine autoL_op 47 [9, 19, 29, 39] (by kernel_rfl) (fun L y w' hL HW hd K hK => ?_) ?_
    · have e9 := hd_nth (hd 9 (by simp)) rfl
      have e19 := hd_nth (hd 19 (by simp)) rfl
      have e29 := hd_nth (hd 29 (by simp)) rfl
      have e39 := hd_nth (hd 39 (by simp)) rfl
      go_simp
      refine hK _ _ ?_ ?_ HW
      · simp [upd, e9, e19, e29, e39]
      · exact rfl
    refine autoL_op 3 [] (by kernel_rfl) (fun L y w' hL HW hd K hK => ?_) ?_
    · have HW0 : PR w w' false := by have h := HW; simp only [hL] at h; exact h
      obtain ⟨hbl, hz⟩ := HW0
      go_simp
      rw [hz]
      refine hK _ _ ?_ ?_ (pr_alloc hbl hz)
      · simp [upd]
      · exact rfl
    refine autoL_last fun L y w' hLs HW hd K hK => ?_
    have e0 := hd_nth (hd 0 (by omega)) rfl
    have e1 := hd_nth (hd 1 (by omega)) rfl
    have e2 := hd_nth (hd 2 (by omega)) rfl
    have e3 := hd_nth (hd 3 (by omega)) rfl
    have e4 := hd_nth (hd 4 (by omega)) rfl
    have e5 := hd_nth (hd 5 (by omega)) rfl
    have e6 := hd_nth (hd 6 (by omega)) rfl
    have e7 := hd_nth (hd 7 (by omega)) rfl
    have e8 := hd_nth (hd 8 (by omega)) rfl
    have e9 := hd_nth (hd 9 (by omega)) rfl
    have e10 := hd_nth (hd 10 (by omega)) rfl
    have e11 := hd_nth (hd 11 (by omega)) rfl
    have e12 := hd_nth (hd 12 (by omega)) rfl
    have e13 := hd_nth (hd 13 (by omega)) rfl
    have e14 := hd_nth (hd 14 (by omega)) rfl
    have e15 := hd_nth (hd 15 (by omega)) rfl
    have e16 := hd_nth (hd 16 (by omega)) rfl
    have e17 := hd_nth (hd 17 (by omega)) rfl
    have e18 := hd_nth (hd 18 (by omega)) rfl
    have e19 := hd_nth (hd 19 (by omega)) rfl
    have e20 := hd_nth (hd 20 (by omega)) rfl
    have e21 := hd_nth (hd 21 (by omega)) rfl
    have e22 := hd_nth (hd 22 (by omega)) rfl
    have e23 := hd_nth (hd 23 (by omega)) rfl
    have e24 := hd_nth (hd 24 (by omega)) rfl
    have e25 := hd_nth (hd 25 (by omega)) rfl
    have e26 := hd_nth (hd 26 (by omega)) rfl
    have e27 := hd_nth (hd 27 (by omega)) rfl
    have e28 := hd_nth (hd 28 (by omega)) rfl
    have e29 := hd_nth (hd 29 (by omega)) rfl
    have e30 := hd_nth (hd 30 (by omega)) rfl
    have e31 := hd_nth (hd 31 (by omega)) rfl
    have e32 := hd_nth (hd 32 (by omega)) rfl
    have e33 := hd_nth (hd 33 (by omega)) rfl
    have e34 := hd_nth (hd 34 (by omega)) rfl
    have e35 := hd_nth (hd 35 (by omega)) rfl
    have e36 := hd_nth (hd 36 (by omega)) rfl
    have e37 := hd_nth (hd 37 (by omega)) rfl
    have e38 := hd_nth (hd 38 (by omega)) rfl
    have e39 := hd_nth (hd 39 (by omega)) rfl
    have e40 := hd_nth (hd 40 (by omega)) rfl
    have e41 := hd_nth (hd 41 (by omega)) rfl
    have HW1 : PR w w' true := by have h := HW; rw [hLs 41 (by omega)] at h; exact h
    rw [if_pos (by simp [Region.wanted])]
    refine wp_store_row 87 (.tmp 3) (.tmp 47) rfl w.heap.size (rowL p o).toArray (by exact e41) (by exact e40) 87 zeroR.toArray HW1.2 (by kernel_rfl) rfl (rowL_one p o) ?_
    go_simp
    refine hK _ _ ?_
    clear hd hK K e0 e1 e2 e3 e4 e5 e6 e7 e8 e9 e10 e11 e12 e13 e14 e15 e16 e17 e18 e19 e20 e21 e22 e23 e24 e25 e26 e27 e28 e29 e30 e31 e32 e33 e34 e35 e36 e37 e38 e39 e40 e41
    
    have hbR : Below w.heap.size w (w'.setRow w.heap.size (rowL p o).toArray) := below_setRow HW1.1 (Nat.le_refl _) _
    have hgR := setRow_heap w' w.heap.size _ (rowL p o).toArray _ _ HW1.2
    obtain ⟨V, hV⟩ : ∃ V, V = w'.setRow w.heap.size (rowL p o).toArray := ⟨_, rfl⟩
    rw [← hV] at hbR hgR ⊢
    clear hV HW1 HW hLs c0 c1 c2 c3 c4 HP0
    have HBR := Lib.hid hbR
    clear hbR
    go_upto_region 3 with fail
    refine wp_region_lit ?_
    refine wpList_load_row rfl 87 _ rfl w.heap.size rfl 87 (rowL p o).toArray (0, 0) _ hgR Tryd.underlying87 rfl (by kernel_rfl) ?_
    clear hgR
    generalize hRV : (Value.agg (rowL p o).toArray) = RV
    have HRV := Lib.hid hRV
    clear hRV
    go_wp2
    go_loopw [4, 49] (fun v i wr => ∃ k : Nat, k ≤ 4 ∧ i = .int .i64 k ∧ OwnP wr w.heap.size p v (partsF n k) ∧ Below w.heap.size w wr) (fun _ i _ => 4 - (intOf i).toNat)
    case atStart => exact ⟨0, by omega, rfl, by rw [partsF_zero]; exact OwnP.nil _ _ _, HBR.out⟩
    case round =>
      obtain ⟨k, hk, rfl, hown, hbel⟩ := hrel
      rcases (show k = 0 ∨ k = 1 ∨ k = 2 ∨ k = 3 ∨ k = 4 by omega) with rfl | rfl | rfl | rfl | rfl
      · -- the round of part 1
        have hix : ∀ W, (Instr.index 87 RV (.int .i64 0)).run Tryd.prog W = .ok (.agg [.int .i64 o, .int .i64 1, .int .i64 0, .int .i64 0, .int .i64 0, .pointer (some ⟨p, 1, none⟩), .string ⟨#[114]⟩].toArray) W := fun W => by rw [← HRV.out]; kernel_rfl
        obtain ⟨V1, hV1⟩ : ∃ V1, V1 = wr.alloc (.cells [.int .i64 o, .int .i64 1, .int .i64 0, .int .i64 0, .int .i64 0, .pointer (some ⟨p, 1, none⟩), .string ⟨#[114]⟩].toArray 86) := ⟨_, rfl⟩
        have hnew : V1.heap[wr.heap.size]? = some (.cells [.int .i64 o, .int .i64 1, .int .i64 0, .int .i64 0, .int .i64 0, .pointer (some ⟨p, 1, none⟩), .string ⟨#[114]⟩].toArray 86 (0, 0)) := by rw [hV1]; exact heap_alloc_new _ _
        have hbv : Below w.heap.size w V1 := by rw [hV1]; exact hbel.alloc hbel.size _
        have hov : OwnP V1 w.heap.size p u4 (partsF n 0) := by rw [hV1]; exact hown.alloc _
        have HAV := Lib.hid (fun t ht => valid_any o 1 0 0 0 t ht V1 (HT.out.more hbv))
        have HN := Lib.hid hnew
        have HBV := Lib.hid hbv
        have HOV := Lib.hid hov
        have hlt1 : wr.heap.size < V1.heap.size := (Array.getElem?_eq_some_iff.1 hnew).1
        have HV1 := Lib.hid hV1
        have HG := Lib.hid HA1.out
        clear hV1 hnew hbv hov hown hbel
        cases hg : hasK n 1
        · have HE := Lib.hid (partsF_no (n := n) (k := 0) (by omega) hg)
          have hcall := HAV.out false (HG.out.trans hg)
          clear hg
          go_wp2_with fail
          rw [show wr.alloc (.cells [.int .i64 o, .int .i64 1, .int .i64 0, .int .i64 0, .int .i64 0, .pointer (some ⟨p, 1, none⟩), .string ⟨#[114]⟩].toArray 86) = V1 from HV1.out.symm]
          refine hcall.mono ?_
          rintro e w2 ⟨rfl, hb2⟩
          have HO2 := Lib.hid (HOV.out.below hb2)
          have HB2 := Lib.hid (HBV.out.trans (hb2.mono HBV.out.size))
          clear hb2
          go_wp2
          go_roundw
          case rel => exact ⟨1, by omega, rfl, by rw [HE.out]; exact HO2.out, HB2.out⟩
          case measure => simp [intOf]
        · have HE := Lib.hid (partsF_yes (n := n) (k := 0) (by omega) hg)
          have hcall := HAV.out true (HG.out.trans hg)
          clear hg
          go_wp2_with fail
          rw [show wr.alloc (.cells [.int .i64 o, .int .i64 1, .int .i64 0, .int .i64 0, .int .i64 0, .pointer (some ⟨p, 1, none⟩), .string ⟨#[114]⟩].toArray 86) = V1 from HV1.out.symm]
          refine hcall.mono ?_
          rintro e w2 ⟨rfl, hb2⟩
          have hn2 := (hb2.block _ hlt1).trans HN.out
          have q5 := cell_of hn2 5 _ rfl
          have q6 := cell_of hn2 6 _ rfl
          have hlt2 : wr.heap.size < w2.heap.size := Nat.lt_of_lt_of_le hlt1 hb2.size
          have HO2 := Lib.hid (HOV.out.below hb2)
          have HB2 := Lib.hid (HBV.out.trans (hb2.mono HBV.out.size))
          have HLN := Lib.hid (partsF_len n 0)
          clear hb2 hn2
          go_wp2_with (at_builtin; refine wpList_append_own _ rfl _ _ 48 rfl w.heap.size 53 i0 (.agg #[.pointer none, .string ⟨#[]⟩]) 2 24 Tryd.underlying48 hi hz0 hz1 hz2 rfl (by decide) _ _ _ rfl (HO2.out.alloc _) ⟨w2.heap.size, 0, none⟩ 1 1 (encPt p (1, markK 1)) rfl rfl ?c1 ?c2 ?c3 ?c4 ?c5 ?_)
          case c1 => exact two_cells w2 (encPt p (1, markK 1)) 53
          case c2 => intro u hu; simp [encPt] at hu; rcases hu with rfl | rfl <;> rfl
          case c3 => have := HLN.out; unfold maxLen; omega
          case c4 => have := HLN.out; omega
          case c5 => have := HB2.out.size; simp; omega
          intro v' w3 hown' hgrow _
          have hb3 : Below w.heap.size w w3 := (HB2.out.alloc HB2.out.size _).grown hgrow (by have := HB2.out.size; simp; omega) (fun k hk => (World.ownsRow.lt HO2.out k hk).1)
          have ho3 : OwnP w3 w.heap.size p v' (partsF n 0 ++ [(1, markK 1)]) := by
            unfold OwnP
            rw [encPs_snoc, List.length_append]
            exact hown'
          have HO3 := Lib.hid ho3
          have HB3 := Lib.hid hb3
          clear hown' hgrow ho3 hb3
          go_wp2
          go_roundw
          case rel => exact ⟨1, by omega, rfl, by rw [HE.out]; exact HO3.out, HB3.out⟩
          case measure => simp [intOf]
      · -- the round of part 2
        have hix : ∀ W, (Instr.index 87 RV (.int .i64 1)).run Tryd.prog W = .ok (.agg [.int .i64 o, .int .i64 0, .int .i64 1, .int .i64 0, .int .i64 0, .pointer (some ⟨p, 2, none⟩), .string ⟨#[114]⟩].toArray) W := fun W => by rw [← HRV.out]; kernel_rfl
        obtain ⟨V1, hV1⟩ : ∃ V1, V1 = wr.alloc (.cells [.int .i64 o, .int .i64 0, .int .i64 1, .int .i64 0, .int .i64 0, .pointer (some ⟨p, 2, none⟩), .string ⟨#[114]⟩].toArray 86) := ⟨_, rfl⟩
        have hnew : V1.heap[wr.heap.size]? = some (.cells [.int .i64 o, .int .i64 0, .int .i64 1, .int .i64 0, .int .i64 0, .pointer (some ⟨p, 2, none⟩), .string ⟨#[114]⟩].toArray 86 (0, 0)) := by rw [hV1]; exact heap_alloc_new _ _
        have hbv : Below w.heap.size w V1 := by rw [hV1]; exact hbel.alloc hbel.size _
        have hov : OwnP V1 w.heap.size p u4 (partsF n 1) := by rw [hV1]; exact hown.alloc _
        have HAV := Lib.hid (fun t ht => valid_any o 0 1 0 0 t ht V1 (HT.out.more hbv))
        have HN := Lib.hid hnew
        have HBV := Lib.hid hbv
        have HOV := Lib.hid hov
        have hlt1 : wr.heap.size < V1.heap.size := (Array.getElem?_eq_some_iff.1 hnew).1
        have HV1 := Lib.hid hV1
        have HG := Lib.hid HA2.out
        clear hV1 hnew hbv hov hown hbel
        cases hg : hasK n 2
        · have HE := Lib.hid (partsF_no (n := n) (k := 1) (by omega) hg)
          have hcall := HAV.out false (HG.out.trans hg)
          clear hg
          go_wp2_with fail
          rw [show wr.alloc (.cells [.int .i64 o, .int .i64 0, .int .i64 1, .int .i64 0, .int .i64 0, .pointer (some ⟨p, 2, none⟩), .string ⟨#[114]⟩].toArray 86) = V1 from HV1.out.symm]
          refine hcall.mono ?_
          rintro e w2 ⟨rfl, hb2⟩
          have HO2 := Lib.hid (HOV.out.below hb2)
          have HB2 := Lib.hid (HBV.out.trans (hb2.mono HBV.out.size))
          clear hb2
          go_wp2
          go_roundw
          case rel => exact ⟨2, by omega, rfl, by rw [HE.out]; exact HO2.out, HB2.out⟩
          case measure => simp [intOf]
        · have HE := Lib.hid (partsF_yes (n := n) (k := 1) (by omega) hg)
          have hcall := HAV.out true (HG.out.trans hg)
          clear hg
          go_wp2_with fail
          rw [show wr.alloc (.cells [.int .i64 o, .int .i64 0, .int .i64 1, .int .i64 0, .int .i64 0, .pointer (some ⟨p, 2, none⟩), .string ⟨#[114]⟩].toArray 86) = V1 from HV1.out.symm]
          refine hcall.mono ?_
          rintro e w2 ⟨rfl, hb2⟩
          have hn2 := (hb2.block _ hlt1).trans HN.out
          have q5 := cell_of hn2 5 _ rfl
          have q6 := cell_of hn2 6 _ rfl
          have hlt2 : wr.heap.size < w2.heap.size := Nat.lt_of_lt_of_le hlt1 hb2.size
          have HO2 := Lib.hid (HOV.out.below hb2)
          have HB2 := Lib.hid (HBV.out.trans (hb2.mono HBV.out.size))
          have HLN := Lib.hid (partsF_len n 1)
          clear hb2 hn2
          go_wp2_with (at_builtin; refine wpList_append_own _ rfl _ _ 48 rfl w.heap.size 53 i0 (.agg #[.pointer none, .string ⟨#[]⟩]) 2 24 Tryd.underlying48 hi hz0 hz1 hz2 rfl (by decide) _ _ _ rfl (HO2.out.alloc _) ⟨w2.heap.size, 0, none⟩ 1 1 (encPt p (2, markK 2)) rfl rfl ?c1 ?c2 ?c3 ?c4 ?c5 ?_)
          case c1 => exact two_cells w2 (encPt p (2, markK 2)) 53
          case c2 => intro u hu; simp [encPt] at hu; rcases hu with rfl | rfl <;> rfl
          case c3 => have := HLN.out; unfold maxLen; omega
          case c4 => have := HLN.out; omega
          case c5 => have := HB2.out.size; simp; omega
          intro v' w3 hown' hgrow _
          have hb3 : Below w.heap.size w w3 := (HB2.out.alloc HB2.out.size _).grown hgrow (by have := HB2.out.size; simp; omega) (fun k hk => (World.ownsRow.lt HO2.out k hk).1)
          have ho3 : OwnP w3 w.heap.size p v' (partsF n 1 ++ [(2, markK 2)]) := by
            unfold OwnP
            rw [encPs_snoc, List.length_append]
            exact hown'
          have HO3 := Lib.hid ho3
          have HB3 := Lib.hid hb3
          clear hown' hgrow ho3 hb3
          go_wp2
          go_roundw
          case rel => exact ⟨2, by omega, rfl, by rw [HE.out]; exact HO3.out, HB3.out⟩
          case measure => simp [intOf]
      · -- the round of part 3
        have hix : ∀ W, (Instr.index 87 RV (.int .i64 2)).run Tryd.prog W = .ok (.agg [.int .i64 o, .int .i64 0, .int .i64 0, .int .i64 1, .int .i64 0, .pointer (some ⟨p, 3, none⟩), .string ⟨#[114]⟩].toArray) W := fun W => by rw [← HRV.out]; kernel_rfl
        obtain ⟨V1, hV1⟩ : ∃ V1, V1 = wr.alloc (.cells [.int .i64 o, .int .i64 0, .int .i64 0, .int .i64 1, .int .i64 0, .pointer (some ⟨p, 3, none⟩), .string ⟨#[114]⟩].toArray 86) := ⟨_, rfl⟩
        have hnew : V1.heap[wr.heap.size]? = some (.cells [.int .i64 o, .int .i64 0, .int .i64 0, .int .i64 1, .int .i64 0, .pointer (some ⟨p, 3, none⟩), .string ⟨#[114]⟩].toArray 86 (0, 0)) := by rw [hV1]; exact heap_alloc_new _ _
        have hbv : Below w.heap.size w V1 := by rw [hV1]; exact hbel.alloc hbel.size _
        have hov : OwnP V1 w.heap.size p u4 (partsF n 2) := by rw [hV1]; exact hown.alloc _
        have HAV := Lib.hid (fun t ht => valid_any o 0 0 1 0 t ht V1 (HT.out.more hbv))
        have HN := Lib.hid hnew
        have HBV := Lib.hid hbv
        have HOV := Lib.hid hov
        have hlt1 : wr.heap.size < V1.heap.size := (Array.getElem?_eq_some_iff.1 hnew).1
        have HV1 := Lib.hid hV1
        have HG := Lib.hid HA3.out
        clear hV1 hnew hbv hov hown hbel
        cases hg : hasK n 3
        · have HE := Lib.hid (partsF_no (n := n) (k := 2) (by omega) hg)
          have hcall := HAV.out false (HG.out.trans hg)
          clear hg
          go_wp2_with fail
          rw [show wr.alloc (.cells [.int .i64 o, .int .i64 0, .int .i64 0, .int .i64 1, .int .i64 0, .pointer (some ⟨p, 3, none⟩), .string ⟨#[114]⟩].toArray 86) = V1 from HV1.out.symm]
          refine hcall.mono ?_
          rintro e w2 ⟨rfl, hb2⟩
          have HO2 := Lib.hid (HOV.out.below hb2)
          have HB2 := Lib.hid (HBV.out.trans (hb2.mono HBV.out.size))
          clear hb2
          go_wp2
          go_roundw
          case rel => exact ⟨3, by omega, rfl, by rw [HE.out]; exact HO2.out, HB2.out⟩
          case measure => simp [intOf]
        · have HE := Lib.hid (partsF_yes (n := n) (k := 2) (by omega) hg)
          have hcall := HAV.out true (HG.out.trans hg)
          clear hg
          go_wp2_with fail
          rw [show wr.alloc (.cells [.int .i64 o, .int .i64 0, .int .i64 0, .int .i64 1, .int .i64 0, .pointer (some ⟨p, 3, none⟩), .string ⟨#[114]⟩].toArray 86) = V1 from HV1.out.symm]
          refine hcall.mono ?_
          rintro e w2 ⟨rfl, hb2⟩
          have hn2 := (hb2.block _ hlt1).trans HN.out
          have q5 := cell_of hn2 5 _ rfl
          have q6 := cell_of hn2 6 _ rfl
          have hlt2 : wr.heap.size < w2.heap.size := Nat.lt_of_lt_of_le hlt1 hb2.size
          have HO2 := Lib.hid (HOV.out.below hb2)
          have HB2 := Lib.hid (HBV.out.trans (hb2.mono HBV.out.size))
          have HLN := Lib.hid (partsF_len n 2)
          clear hb2 hn2
          go_wp2_with (at_builtin; refine wpList_append_own _ rfl _ _ 48 rfl w.heap.size 53 i0 (.agg #[.pointer none, .string ⟨#[]⟩]) 2 24 Tryd.underlying48 hi hz0 hz1 hz2 rfl (by decide) _ _ _ rfl (HO2.out.alloc _) ⟨w2.heap.size, 0, none⟩ 1 1 (encPt p (3, markK 3)) rfl rfl ?c1 ?c2 ?c3 ?c4 ?c5 ?_)
          case c1 => exact two_cells w2 (encPt p (3, markK 3)) 53
          case c2 => intro u hu; simp [encPt] at hu; rcases hu with rfl | rfl <;> rfl
          case c3 => have := HLN.out; unfold maxLen; omega
          case c4 => have := HLN.out; omega
          case c5 => have := HB2.out.size; simp; omega
          intro v' w3 hown' hgrow _
          have hb3 : Below w.heap.size w w3 := (HB2.out.alloc HB2.out.size _).grown hgrow (by have := HB2.out.size; simp; omega) (fun k hk => (World.ownsRow.lt HO2.out k hk).1)
          have ho3 : OwnP w3 w.heap.size p v' (partsF n 2 ++ [(3, markK 3)]) := by
            unfold OwnP
            rw [encPs_snoc, List.length_append]
            exact hown'
          have HO3 := Lib.hid ho3
          have HB3 := Lib.hid hb3
          clear hown' hgrow ho3 hb3
          go_wp2
          go_roundw
          case rel => exact ⟨3, by omega, rfl, by rw [HE.out]; exact HO3.out, HB3.out⟩
          case measure => simp [intOf]
      · -- the round of part 4
        have hix : ∀ W, (Instr.index 87 RV (.int .i64 3)).run Tryd.prog W = .ok (.agg [.int .i64 o, .int .i64 0, .int .i64 0, .int .i64 0, .int .i64 1, .pointer (some ⟨p, 4, none⟩), .string ⟨#[]⟩].toArray) W := fun W => by rw [← HRV.out]; kernel_rfl
        obtain ⟨V1, hV1⟩ : ∃ V1, V1 = wr.alloc (.cells [.int .i64 o, .int .i64 0, .int .i64 0, .int .i64 0, .int .i64 1, .pointer (some ⟨p, 4, none⟩), .string ⟨#[]⟩].toArray 86) := ⟨_, rfl⟩
        have hnew : V1.heap[wr.heap.size]? = some (.cells [.int .i64 o, .int .i64 0, .int .i64 0, .int .i64 0, .int .i64 1, .pointer (some ⟨p, 4, none⟩), .string ⟨#[]⟩].toArray 86 (0, 0)) := by rw [hV1]; exact heap_alloc_new _ _
        have hbv : Below w.heap.size w V1 := by rw [hV1]; exact hbel.alloc hbel.size _
        have hov : OwnP V1 w.heap.size p u4 (partsF n 3) := by rw [hV1]; exact hown.alloc _
        have HAV := Lib.hid (fun t ht => valid_any o 0 0 0 1 t ht V1 (HT.out.more hbv))
        have HN := Lib.hid hnew
        have HBV := Lib.hid hbv
        have HOV := Lib.hid hov
        have hlt1 : wr.heap.size < V1.heap.size := (Array.getElem?_eq_some_iff.1 hnew).1
        have HV1 := Lib.hid hV1
        have HG := Lib.hid HA4.out
        clear hV1 hnew hbv hov hown hbel
        cases hg : hasK n 4
        · have HE := Lib.hid (partsF_no (n := n) (k := 3) (by omega) hg)
          have hcall := HAV.out false (HG.out.trans hg)
          clear hg
          go_wp2_with fail
          rw [show wr.alloc (.cells [.int .i64 o, .int .i64 0, .int .i64 0, .int .i64 0, .int .i64 1, .pointer (some ⟨p, 4, none⟩), .string ⟨#[]⟩].toArray 86) = V1 from HV1.out.symm]
          refine hcall.mono ?_
          rintro e w2 ⟨rfl, hb2⟩
          have HO2 := Lib.hid (HOV.out.below hb2)
          have HB2 := Lib.hid (HBV.out.trans (hb2.mono HBV.out.size))
          clear hb2
          go_wp2
          go_roundw
          case rel => exact ⟨4, by omega, rfl, by rw [HE.out]; exact HO2.out, HB2.out⟩
          case measure => simp [intOf]
        · have HE := Lib.hid (partsF_yes (n := n) (k := 3) (by omega) hg)
          have hcall := HAV.out true (HG.out.trans hg)
          clear hg
          go_wp2_with fail
          rw [show wr.alloc (.cells [.int .i64 o, .int .i64 0, .int .i64 0, .int .i64 0, .int .i64 1, .pointer (some ⟨p, 4, none⟩), .string ⟨#[]⟩].toArray 86) = V1 from HV1.out.symm]
          refine hcall.mono ?_
          rintro e w2 ⟨rfl, hb2⟩
          have hn2 := (hb2.block _ hlt1).trans HN.out
          have q5 := cell_of hn2 5 _ rfl
          have q6 := cell_of hn2 6 _ rfl
          have hlt2 : wr.heap.size < w2.heap.size := Nat.lt_of_lt_of_le hlt1 hb2.size
          have HO2 := Lib.hid (HOV.out.below hb2)
          have HB2 := Lib.hid (HBV.out.trans (hb2.mono HBV.out.size))
          have HLN := Lib.hid (partsF_len n 3)
          clear hb2 hn2
          go_wp2_with (at_builtin; refine wpList_append_own _ rfl _ _ 48 rfl w.heap.size 53 i0 (.agg #[.pointer none, .string ⟨#[]⟩]) 2 24 Tryd.underlying48 hi hz0 hz1 hz2 rfl (by decide) _ _ _ rfl (HO2.out.alloc _) ⟨w2.heap.size, 0, none⟩ 1 1 (encPt p (4, markK 4)) rfl rfl ?c1 ?c2 ?c3 ?c4 ?c5 ?_)
          case c1 => exact two_cells w2 (encPt p (4, markK 4)) 53
          case c2 => intro u hu; simp [encPt] at hu; rcases hu with rfl | rfl <;> rfl
          case c3 => have := HLN.out; unfold maxLen; omega
          case c4 => have := HLN.out; omega
          case c5 => have := HB2.out.size; simp; omega
          intro v' w3 hown' hgrow _
          have hb3 : Below w.heap.size w w3 := (HB2.out.alloc HB2.out.size _).grown hgrow (by have := HB2.out.size; simp; omega) (fun k hk => (World.ownsRow.lt HO2.out k hk).1)
          have ho3 : OwnP w3 w.heap.size p v' (partsF n 3 ++ [(4, markK 4)]) := by
            unfold OwnP
            rw [encPs_snoc, List.length_append]
            exact hown'
          have HO3 := Lib.hid ho3
          have HB3 := Lib.hid hb3
          clear hown' hgrow ho3 hb3
          go_wp2
          go_roundw
          case rel => exact ⟨4, by omega, rfl, by rw [HE.out]; exact HO3.out, HB3.out⟩
          case measure => simp [intOf]
      · rw [partsF_all] at hown
        have HO := Lib.hid hown
        have HB := Lib.hid hbel
        clear hown hbel
        go_wp2
        go_ret
        exact ⟨_, rfl, HO.out, HB.out⟩
end Go.Proofs.YtfdekfobcohcjaaDoor.As
