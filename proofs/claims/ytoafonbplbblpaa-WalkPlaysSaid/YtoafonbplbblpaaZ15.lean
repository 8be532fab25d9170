/- Several texts in one: Yb -/
import Derived.Test.YtoafonbplbblpaaZ12
import Derived.Test.YtoafonbplbblpaaZ10
import Derived.Test.YtoafonbplbblpaaZ14
section
/- Package view: made, isWidth, isMade, New, frame, fault, Find, of the program. -/
namespace Go.Proofs.Ytoafonbplbblpaa.Vw
open Go.RowKit Ut Oc
set_option maxRecDepth 100000
set_option linter.unusedVariables false
set_option maxHeartbeats 4000000

theorem made_nil (w : World) : Calls Try.prog 40 #[.pointer none] w fun e w' => e = .returned (.bool false) ∧ w = w' := by
  go_enter Try.func40, Try.ntmps40
  go_wp2
  go_ret
  exact ⟨rfl, rfl⟩
theorem made_no (b : Nat) (w : World) (h0 : w.cell? ⟨b, 0, none⟩ = some (.pointer none)) : Calls Try.prog 40 #[.pointer (some ⟨b, 0, none⟩)] w fun e w' => e = .returned (.bool false) ∧ w = w' := by
  go_enter Try.func40, Try.ntmps40
  go_wp2
  go_ret
  exact ⟨rfl, rfl⟩
theorem made_yes (b s : Nat) (w : World) (h0 : w.cell? ⟨b, 0, none⟩ = some (.pointer (some ⟨s, 0, none⟩))) : Calls Try.prog 40 #[.pointer (some ⟨b, 0, none⟩)] w fun e w' => e = .returned (.bool true) ∧ w = w' := by
  go_enter Try.func40, Try.ntmps40
  go_wp2
  go_ret
  exact ⟨rfl, rfl⟩

theorem isWidth_any (m : Int) (t : Bool) (ht : isW m = t) (w : World) : Calls Try.prog 64 #[.int .i64 m] w fun e w' => e = .returned (.bool t) ∧ w = w' := by
  unfold isW at ht
  have HT := Lib.hid ht
  clear ht
  by_cases h1 : m = 1
  · subst h1
    go_enter Try.func64, Try.ntmps64
    go_wp2
    go_ret
    exact ⟨by rw [← HT.out]; rfl, rfl⟩
  by_cases h2 : m = 2
  · subst h2
    go_enter Try.func64, Try.ntmps64
    go_wp2
    go_ret
    exact ⟨by rw [← HT.out]; rfl, rfl⟩
  by_cases h4 : m = 4
  · subst h4
    go_enter Try.func64, Try.ntmps64
    go_wp2
    go_ret
    exact ⟨by rw [← HT.out]; rfl, rfl⟩
  have HF : Hid (t = false) := Lib.hid (by rw [← HT.out]; simp [h1, h2, h4])
  have e1 : (m == 1) = false := by simpa using h1
  have e2 : (m == 2) = false := by simpa using h2
  have e4 : (m == 4) = false := by simpa using h4
  clear h1 h2 h4 HT
  go_enter Try.func64, Try.ntmps64
  go_wp2
  go_ret
  exact ⟨by rw [HF.out]; rfl, rfl⟩

theorem isMade_yes (m : Nat) (L : List Gm.Pl) (w : World) (h : Gm.MAt w m L) : Calls Try.prog 51 #[.pointer (some ⟨m, 0, none⟩)] w fun e w' => e = .returned (.bool true) ∧ w = w' := by
  have HD := Lib.hid (Gm.drop_no _ (-1) 1 (.inl rfl) w (Gm.find_out m (-1) L w h (.inl (by omega))))
  clear h
  go_enter Try.func51, Try.ntmps51
  go_wp2_with fail
  refine HD.out.mono ?_
  rintro e w1 ⟨rfl, rfl⟩
  go_wp2
  go_ret
  exact ⟨rfl, rfl⟩
theorem isMade_no (a : Option Addr) (w : World) (h : Gm.NotMade a w) : Calls Try.prog 51 #[.pointer a] w fun e w' => e = .returned (.bool false) ∧ w = w' := by
  have HD := Lib.hid (Gm.drop_no a (-1) 7 (.inr rfl) w (h (-1)))
  clear h
  go_enter Try.func51, Try.ntmps51
  go_wp2_with fail
  refine HD.out.mono ?_
  rintro e w1 ⟨rfl, rfl⟩
  go_wp2
  go_ret
  exact ⟨rfl, rfl⟩

theorem new_ok (s m n : Nat) (S : List Int) (L : List Gm.Pl) (w : World) (hS : Fr.St w s n S) (hn : 0 < n) (hM : Gm.MAt w m L) (hsm : s < m) :
    Calls Try.prog 26 #[.pointer (some ⟨s, 0, none⟩), .pointer (some ⟨m, 0, none⟩)] w fun e w' => e = .returned (.tuple #[.pointer (some ⟨w.heap.size, 0, none⟩), .int .i64 0]) ∧ PV w' w.heap.size s m n S L noD ∧ Below w.heap.size w w' := by
  have HB := (Below.refl w.heap.size w).alloc (Nat.le_refl _) (.cells (vCells s m noD).toArray 97)
  have HF : Hid (PV (w.alloc (.cells (vCells s m noD).toArray 97)) w.heap.size s m n S L noD) := Lib.hid ⟨Blk.new w _ _, hS.below HB hS.lt, hM.below HB hM.lt, rfl, hn, hsm, hM.lt⟩
  have HL := Lib.hid (Fr.len_of s n w hS.cell1)
  have HM := Lib.hid (isMade_yes m L w hM)
  have hn0 : ((n : Int) == 0) = false := by simp; omega
  clear hS hn hM hsm
  go_enter Try.func26, Try.ntmps26
  go_upto_region 3 with (first | (go_at_call 50; refine HL.out.mono ?_; rintro e w1 ⟨rfl, rfl⟩) | (go_at_call 51; refine HM.out.mono ?_; rintro e w1 ⟨rfl, rfl⟩))
  refine wp_region_lit ?_
  refine Great.wpList_readTo rfl _ rfl (.pointer (some ⟨s, 0, none⟩)) (by kernel_rfl) ?_
  refine Great.wpList_readTo rfl _ rfl (.pointer (some ⟨m, 0, none⟩)) (by kernel_rfl) ?_
  refine wpList_buildTo rfl 97 _ rfl _ rfl (vCells s m noD).toArray (by kernel_rfl) ?_
  refine Great.wpList_boxTo rfl 97 _ rfl _ rfl w.heap.size rfl (vCells s m noD).toArray rfl ?_
  obtain ⟨W, hW⟩ : ∃ W, W = w.alloc (.cells (vCells s m noD).toArray 97) := ⟨_, rfl⟩
  rw [← hW] at HF HB ⊢
  clear hW
  go_wp2
  go_ret2
  exact ⟨rfl, HF.out, HB⟩
theorem new_nil (m : Option Addr) (w : World) :
    Calls Try.prog 26 #[.pointer none, .pointer m] w fun e w' => e = .returned (.tuple #[.pointer none, .int .i64 7]) ∧ w = w' := by
  have HL := Lib.hid (Fr.len_nil w)
  go_enter Try.func26, Try.ntmps26
  go_wp2_with fail
  refine HL.out.mono ?_
  rintro e w1 ⟨rfl, rfl⟩
  go_wp2
  go_ret2
  exact ⟨rfl, rfl⟩
theorem new_unmade (s n : Nat) (m : Option Addr) (S : List Int) (w : World) (hS : Fr.St w s n S) (hn : 0 < n) (hM : Gm.NotMade m w) :
    Calls Try.prog 26 #[.pointer (some ⟨s, 0, none⟩), .pointer m] w fun e w' => e = .returned (.tuple #[.pointer none, .int .i64 7]) ∧ w = w' := by
  have HL := Lib.hid (Fr.len_of s n w hS.cell1)
  have HM := Lib.hid (isMade_no m w hM)
  have hn0 : ((n : Int) == 0) = false := by simp; omega
  clear hS hn hM
  go_enter Try.func26, Try.ntmps26
  go_wp2_with (first | (go_at_call 50; refine HL.out.mono ?_; rintro e w1 ⟨rfl, rfl⟩) | (go_at_call 51; refine HM.out.mono ?_; rintro e w1 ⟨rfl, rfl⟩))
  go_ret2
  exact ⟨rfl, rfl⟩

/-- a page that is there, in a frame that is there; which -/
def okP (n : Nat) (p : Gm.Pl) : Bool := Gm.thB p && decide (p.1 < n)
def frP (n : Nat) (p : Gm.Pl) : Int := if okP n p = true then p.1 else 0

section
variable {b s m n : Nat} {S : List Int} {L : List Gm.Pl} {D : List Bool}
theorem frame_none (k : Int) (hp : Gm.atP L k = (0, 0)) (w : World) (h : PV w b s m n S L D) :
    Calls Try.prog 42 #[.pointer (some ⟨b, 0, none⟩), .int .i64 k] w fun e w' => e = .returned (.tuple #[.int .i64 0, .bool false]) ∧ Below w.heap.size w w' := by
  have HG := Lib.hid (Gm.get_any m L k (0, 0) false hp rfl w h.mp)
  have c1 := h.cell1
  have HLT := Lib.hid h.lt
  have HBX : Hid (∀ (W : World) (x y : Int), Below w.heap.size w W → Below w.heap.size w (W.alloc (.cells #[.int .i64 x, .int .i64 y] 58))) := Lib.hid fun W x y h => h.alloc h.size _
  clear h hp
  go_enter Try.func42, Try.ntmps42
  go_wp2_with fail
  refine HG.out.mono ?_
  rintro e w1 ⟨rfl, hb⟩
  have HB := Lib.hid (HBX.out _ 0 0 hb)
  clear hb
  unfold Gm.plV
  go_upto_region 2 with fail
  generalize w1.alloc (.cells #[.int .i64 0, .int .i64 0] 58) = V at HB ⊢
  apply wp_region_auto [17, 18, 19, 20, 21, 22, 23, 24, 25, 26, 27] [_, _, _, _, _, _, _, _, _, _, _] (fun W' => Below V.heap.size V W')
  case hm => kernel_rfl
  case hT => intro y; simp only [setAll, List.setIfInBounds_toArray, List.set_cons_succ, List.set_cons_zero]; exact rfl
  case hok => kernel_rfl
  case hn => decide
  case hw => exact (Below.refl _ _).drew
  case hs =>
    refine auto_op 17 [] (by kernel_rfl) (fun y w' HW hd K hK => ?_) ?_
    · go_simp
      refine hK _ _ ?_ ?_ HW
      · simp [upd]
      · exact rfl
    refine auto_op 18 [0] (by kernel_rfl) (fun y w' HW hd K hK => ?_) ?_
    · have e0 := hd_nth (hd 0 (by simp)) rfl
      go_simp
      refine hK _ _ ?_ ?_ HW
      · simp [upd, e0]
      · exact rfl
    refine auto_op 19 [1] (by kernel_rfl) (fun y w' HW hd K hK => ?_) ?_
    · have e1 := hd_nth (hd 1 (by simp)) rfl
      go_simp
      refine hK _ _ ?_ ?_ HW
      · simp [upd, e1]
      · exact rfl
    refine auto_op 20 [2] (by kernel_rfl) (fun y w' HW hd K hK => ?_) ?_
    · have e2 := hd_nth (hd 2 (by simp)) rfl
      go_simp
      refine hK _ _ ?_ ?_ HW
      · simp [upd, e2]
      · exact rfl
    refine auto_op 21 [3, 2] (by kernel_rfl) (fun y w' HW hd K hK => ?_) ?_
    · have e2 := hd_nth (hd 2 (by simp)) rfl
      have e3 := hd_nth (hd 3 (by simp)) rfl
      have hcl : ∀ p : Addr, p.block < V.heap.size → w'.cell? p = V.cell? p := fun p hp => HW.cell hp
      go_simp
      refine hK _ _ ?_ ?_ HW
      · simp [upd, e2, e3]
      · exact rfl
    refine auto_op 22 [2] (by kernel_rfl) (fun y w' HW hd K hK => ?_) ?_
    · have e2 := hd_nth (hd 2 (by simp)) rfl
      go_simp
      refine hK _ _ ?_ ?_ HW
      · simp [upd, e2]
      · exact rfl
    refine auto_op 23 [5, 2] (by kernel_rfl) (fun y w' HW hd K hK => ?_) ?_
    · have e2 := hd_nth (hd 2 (by simp)) rfl
      have e5 := hd_nth (hd 5 (by simp)) rfl
      go_simp
      refine hK _ _ ?_ ?_ HW
      · simp [upd, e2, e5]
      · exact rfl
    refine auto_op 24 [6, 2] (by kernel_rfl) (fun y w' HW hd K hK => ?_) ?_
    · have e2 := hd_nth (hd 2 (by simp)) rfl
      have e6 := hd_nth (hd 6 (by simp)) rfl
      go_simp
      refine hK _ _ ?_ ?_ HW
      · simp [upd, e2, e6]
      · exact rfl
    refine auto_op 25 [7, 2] (by kernel_rfl) (fun y w' HW hd K hK => ?_) ?_
    · have e2 := hd_nth (hd 2 (by simp)) rfl
      have e7 := hd_nth (hd 7 (by simp)) rfl
      have hcl : ∀ p : Addr, p.block < V.heap.size → w'.cell? p = V.cell? p := fun p hp => HW.cell hp
      go_simp
      refine hK _ _ ?_ ?_ HW
      · simp [upd, e2, e7]
      · exact rfl
    refine auto_op 26 [8, 2, 2] (by kernel_rfl) (fun y w' HW hd K hK => ?_) ?_
    · have e2 := hd_nth (hd 2 (by simp)) rfl
      have e8 := hd_nth (hd 8 (by simp)) rfl
      go_simp
      refine hK _ _ ?_ ?_ HW
      · simp [upd, e2, e8]
      · exact rfl
    refine auto_op 27 [4, 9, 2] (by kernel_rfl) (fun y w' HW hd K hK => ?_) ?_
    · have e2 := hd_nth (hd 2 (by simp)) rfl
      have e4 := hd_nth (hd 4 (by simp)) rfl
      have e9 := hd_nth (hd 9 (by simp)) rfl
      go_simp
      refine hK _ _ ?_ ?_ HW
      · simp [upd, e2, e4, e9]
      · exact rfl
    refine auto_last fun y w' HW hd K hK => ?_
    have e0 := hd_nth (hd 0 (by omega)) rfl
    have e1 := hd_nth (hd 1 (by omega)) rfl
    have e2 := hd_nth (hd 2 (by omega)) rfl
    have e3 := hd_nth (hd 3 (by omega)) rfl
    have e4 := hd_nth (hd 4 (by omega)) rfl
    have e5 := hd_nth (hd 5 (by omega)) rfl
    have e6 := hd_nth (hd 6 (by omega)) rfl
    have e7 := hd_nth (hd 7 (by omega)) rfl
    have e8 := hd_nth (hd 8 (by omega)) rfl
    have e9 := hd_nth (hd 9 (by omega)) rfl
    have e10 := hd_nth (hd 10 (by omega)) rfl
    go_simp
    refine hK _ _ ?_
    clear hd hK K e0 e1 e2 e3 e4 e5 e6 e7 e8 e9 e10
    have HW2 := Lib.hid (HB.out.trans (HW.mono HB.out.size))
    clear HW
    go_wp2
    go_ret2
    exact ⟨rfl, HW2.out⟩
theorem frame_is (k N f r : Int) (hp : Gm.atP L k = (f, r)) (ht : Gm.thB (f, r) = true) (w : World) (h : PV w b s m n S L D) (hN : (n : Int) = N) (c : Bool) (hc : decide (N ≤ f) = c) :
    Calls Try.prog 42 #[.pointer (some ⟨b, 0, none⟩), .int .i64 k] w fun e w' => e = .returned (.tuple #[.int .i64 (if c = true then 0 else f), .bool (!c)]) ∧ Below w.heap.size w w' := by
  have HG := Lib.hid (Gm.get_any m L k _ true hp ht w h.mp)
  have c1 := h.cell1
  have HLT := Lib.hid h.lt
  have HH := Lib.hid h
  have HBX : Hid (∀ (W : World) (x y : Int), Below w.heap.size w W → Below w.heap.size w (W.alloc (.cells #[.int .i64 x, .int .i64 y] 58))) := Lib.hid fun W x y h => h.alloc h.size _
  have HC := Lib.hid hc
  have HNN := Lib.hid hN
  clear h hp ht hc hN
  go_enter Try.func42, Try.ntmps42
  go_wp2_with fail
  refine HG.out.mono ?_
  rintro e w1 ⟨rfl, hb⟩
  have HB := Lib.hid (HBX.out _ f r hb)
  have HN : Hid (Blk (w1.alloc (.cells #[.int .i64 f, .int .i64 r] 58)) w1.heap.size 58 [.int .i64 f, .int .i64 r]) := Blk.new w1 _ _
  clear hb c1
  unfold Gm.plV
  go_upto_region 2 with fail
  generalize w1.alloc (.cells #[.int .i64 f, .int .i64 r] 58) = V at HB HN ⊢
  generalize w1.heap.size = g at HN ⊢
  have HV := Lib.hid (HH.out.more HB.out)
  have c0 := HV.out.cell0
  have n0 : V.cell? ⟨g, 0, none⟩ = some (.int .i64 f) := HN.out.cell rfl
  have b0 : b < V.heap.size := HV.out.lt
  have b1 : g < V.heap.size := HN.out.lt
  have HLEN : Hid (∀ W, Below V.heap.size V W → Calls Try.prog 50 #[.pointer (some ⟨s, 0, none⟩)] W fun e w' => e = .returned (.int .i64 N) ∧ W = w') := Lib.hid fun W hW => HNN.out ▸ Fr.len_of s n W (HV.out.more hW).st.cell1
  have hcmp := HC.out
  cases c
  case false =>
    apply wp_region_auto [17, 18, 19, 20, 21, 22, 23, 24, 25, 26, 27] [_, _, _, _, _, _, _, _, _, _, _] (fun W' => Below V.heap.size V W')
    case hm => kernel_rfl
    case hT => intro y; simp only [setAll, List.setIfInBounds_toArray, List.set_cons_succ, List.set_cons_zero]; exact rfl
    case hok => kernel_rfl
    case hn => decide
    case hw => exact (Below.refl _ _).drew
    case hs =>
      refine auto_op 17 [] (by kernel_rfl) (fun y w' HW hd K hK => ?_) ?_
      · go_simp
        refine hK _ _ ?_ ?_ HW
        · simp [upd]
        · exact rfl
      refine auto_op 18 [0] (by kernel_rfl) (fun y w' HW hd K hK => ?_) ?_
      · have e0 := hd_nth (hd 0 (by simp)) rfl
        go_simp
        refine hK _ _ ?_ ?_ HW
        · simp [upd, e0]
        · exact rfl
      refine auto_op 19 [1] (by kernel_rfl) (fun y w' HW hd K hK => ?_) ?_
      · have e1 := hd_nth (hd 1 (by simp)) rfl
        go_simp
        refine hK _ _ ?_ ?_ HW
        · simp [upd, e1]
        · exact rfl
      refine auto_op 20 [2] (by kernel_rfl) (fun y w' HW hd K hK => ?_) ?_
      · have e2 := hd_nth (hd 2 (by simp)) rfl
        go_simp
        refine hK _ _ ?_ ?_ HW
        · simp [upd, e2]
        · exact rfl
      refine auto_op 21 [3, 2] (by kernel_rfl) (fun y w' HW hd K hK => ?_) ?_
      · have e2 := hd_nth (hd 2 (by simp)) rfl
        have e3 := hd_nth (hd 3 (by simp)) rfl
        have hcl : ∀ p : Addr, p.block < V.heap.size → w'.cell? p = V.cell? p := fun p hp => HW.cell hp
        go_simp
        refine hK _ _ ?_ ?_ HW
        · simp [upd, e2, e3]
        · exact rfl
      refine auto_op 22 [2] (by kernel_rfl) (fun y w' HW hd K hK => ?_) ?_
      · have e2 := hd_nth (hd 2 (by simp)) rfl
        go_simp
        refine hK _ _ ?_ ?_ HW
        · simp [upd, e2]
        · exact rfl
      refine auto_op 23 [5, 2] (by kernel_rfl) (fun y w' HW hd K hK => ?_) ?_
      · have e2 := hd_nth (hd 2 (by simp)) rfl
        have e5 := hd_nth (hd 5 (by simp)) rfl
        go_simp
        refine hK _ _ ?_ ?_ HW
        · simp [upd, e2, e5]
        · exact rfl
      refine auto_op 24 [6, 2] (by kernel_rfl) (fun y w' HW hd K hK => ?_) ?_
      · have e2 := hd_nth (hd 2 (by simp)) rfl
        have e6 := hd_nth (hd 6 (by simp)) rfl
        go_simp
        refine hK _ _ ?_ ?_ HW
        · simp [upd, e2, e6]
        · exact rfl
      refine auto_op 25 [7, 2] (by kernel_rfl) (fun y w' HW hd K hK => ?_) ?_
      · have e2 := hd_nth (hd 2 (by simp)) rfl
        have e7 := hd_nth (hd 7 (by simp)) rfl
        have hcl : ∀ p : Addr, p.block < V.heap.size → w'.cell? p = V.cell? p := fun p hp => HW.cell hp
        go_simp
        refine hK _ _ ?_ ?_ HW
        · simp [upd, e2, e7]
        · exact rfl
      refine auto_op 26 [8, 2, 2] (by kernel_rfl) (fun y w' HW hd K hK => ?_) ?_
      · have e2 := hd_nth (hd 2 (by simp)) rfl
        have e8 := hd_nth (hd 8 (by simp)) rfl
        go_simp
        refine (HLEN.out _ HW).mono ?_
        rintro e w3 ⟨rfl, rfl⟩
        refine hK _ _ ?_ ?_ HW
        · simp [upd, e2, e8]
        · exact rfl
      refine auto_op 27 [4, 9, 2] (by kernel_rfl) (fun y w' HW hd K hK => ?_) ?_
      · have e2 := hd_nth (hd 2 (by simp)) rfl
        have e4 := hd_nth (hd 4 (by simp)) rfl
        have e9 := hd_nth (hd 9 (by simp)) rfl
        go_simp
        refine hK _ _ ?_ ?_ HW
        · simp [upd, e2, e4, e9]
        · exact rfl
      refine auto_last fun y w' HW hd K hK => ?_
      have e0 := hd_nth (hd 0 (by omega)) rfl
      have e1 := hd_nth (hd 1 (by omega)) rfl
      have e2 := hd_nth (hd 2 (by omega)) rfl
      have e3 := hd_nth (hd 3 (by omega)) rfl
      have e4 := hd_nth (hd 4 (by omega)) rfl
      have e5 := hd_nth (hd 5 (by omega)) rfl
      have e6 := hd_nth (hd 6 (by omega)) rfl
      have e7 := hd_nth (hd 7 (by omega)) rfl
      have e8 := hd_nth (hd 8 (by omega)) rfl
      have e9 := hd_nth (hd 9 (by omega)) rfl
      have e10 := hd_nth (hd 10 (by omega)) rfl
      go_simp
      refine hK _ _ ?_
      clear hd hK K e0 e1 e2 e3 e4 e5 e6 e7 e8 e9 e10
      have HW2 := Lib.hid (HB.out.trans (HW.mono HB.out.size))
      have n1 : w'.cell? ⟨g, 0, none⟩ = some (.int .i64 f) := (HN.out.more HW).cell rfl
      clear HW
      go_wp2
      go_ret2
      exact ⟨rfl, HW2.out⟩
  case true =>
    apply wp_region_auto [17, 18, 19, 20, 21, 22, 23, 24, 25, 26, 27] [_, _, _, _, _, _, _, _, _, _, _] (fun W' => Below V.heap.size V W')
    case hm => kernel_rfl
    case hT => intro y; simp only [setAll, List.setIfInBounds_toArray, List.set_cons_succ, List.set_cons_zero]; exact rfl
    case hok => kernel_rfl
    case hn => decide
    case hw => exact (Below.refl _ _).drew
    case hs =>
      refine auto_op 17 [] (by kernel_rfl) (fun y w' HW hd K hK => ?_) ?_
      · go_simp
        refine hK _ _ ?_ ?_ HW
        · simp [upd]
        · exact rfl
      refine auto_op 18 [0] (by kernel_rfl) (fun y w' HW hd K hK => ?_) ?_
      · have e0 := hd_nth (hd 0 (by simp)) rfl
        go_simp
        refine hK _ _ ?_ ?_ HW
        · simp [upd, e0]
        · exact rfl
      refine auto_op 19 [1] (by kernel_rfl) (fun y w' HW hd K hK => ?_) ?_
      · have e1 := hd_nth (hd 1 (by simp)) rfl
        go_simp
        refine hK _ _ ?_ ?_ HW
        · simp [upd, e1]
        · exact rfl
      refine auto_op 20 [2] (by kernel_rfl) (fun y w' HW hd K hK => ?_) ?_
      · have e2 := hd_nth (hd 2 (by simp)) rfl
        go_simp
        refine hK _ _ ?_ ?_ HW
        · simp [upd, e2]
        · exact rfl
      refine auto_op 21 [3, 2] (by kernel_rfl) (fun y w' HW hd K hK => ?_) ?_
      · have e2 := hd_nth (hd 2 (by simp)) rfl
        have e3 := hd_nth (hd 3 (by simp)) rfl
        have hcl : ∀ p : Addr, p.block < V.heap.size → w'.cell? p = V.cell? p := fun p hp => HW.cell hp
        go_simp
        refine hK _ _ ?_ ?_ HW
        · simp [upd, e2, e3]
        · exact rfl
      refine auto_op 22 [2] (by kernel_rfl) (fun y w' HW hd K hK => ?_) ?_
      · have e2 := hd_nth (hd 2 (by simp)) rfl
        go_simp
        refine hK _ _ ?_ ?_ HW
        · simp [upd, e2]
        · exact rfl
      refine auto_op 23 [5, 2] (by kernel_rfl) (fun y w' HW hd K hK => ?_) ?_
      · have e2 := hd_nth (hd 2 (by simp)) rfl
        have e5 := hd_nth (hd 5 (by simp)) rfl
        go_simp
        refine hK _ _ ?_ ?_ HW
        · simp [upd, e2, e5]
        · exact rfl
      refine auto_op 24 [6, 2] (by kernel_rfl) (fun y w' HW hd K hK => ?_) ?_
      · have e2 := hd_nth (hd 2 (by simp)) rfl
        have e6 := hd_nth (hd 6 (by simp)) rfl
        go_simp
        refine hK _ _ ?_ ?_ HW
        · simp [upd, e2, e6]
        · exact rfl
      refine auto_op 25 [7, 2] (by kernel_rfl) (fun y w' HW hd K hK => ?_) ?_
      · have e2 := hd_nth (hd 2 (by simp)) rfl
        have e7 := hd_nth (hd 7 (by simp)) rfl
        have hcl : ∀ p : Addr, p.block < V.heap.size → w'.cell? p = V.cell? p := fun p hp => HW.cell hp
        go_simp
        refine hK _ _ ?_ ?_ HW
        · simp [upd, e2, e7]
        · exact rfl
      refine auto_op 26 [8, 2, 2] (by kernel_rfl) (fun y w' HW hd K hK => ?_) ?_
      · have e2 := hd_nth (hd 2 (by simp)) rfl
        have e8 := hd_nth (hd 8 (by simp)) rfl
        go_simp
        refine (HLEN.out _ HW).mono ?_
        rintro e w3 ⟨rfl, rfl⟩
        refine hK _ _ ?_ ?_ HW
        · simp [upd, e2, e8]
        · exact rfl
      refine auto_op 27 [4, 9, 2] (by kernel_rfl) (fun y w' HW hd K hK => ?_) ?_
      · have e2 := hd_nth (hd 2 (by simp)) rfl
        have e4 := hd_nth (hd 4 (by simp)) rfl
        have e9 := hd_nth (hd 9 (by simp)) rfl
        go_simp
        refine hK _ _ ?_ ?_ HW
        · simp [upd, e2, e4, e9]
        · exact rfl
      refine auto_last fun y w' HW hd K hK => ?_
      have e0 := hd_nth (hd 0 (by omega)) rfl
      have e1 := hd_nth (hd 1 (by omega)) rfl
      have e2 := hd_nth (hd 2 (by omega)) rfl
      have e3 := hd_nth (hd 3 (by omega)) rfl
      have e4 := hd_nth (hd 4 (by omega)) rfl
      have e5 := hd_nth (hd 5 (by omega)) rfl
      have e6 := hd_nth (hd 6 (by omega)) rfl
      have e7 := hd_nth (hd 7 (by omega)) rfl
      have e8 := hd_nth (hd 8 (by omega)) rfl
      have e9 := hd_nth (hd 9 (by omega)) rfl
      have e10 := hd_nth (hd 10 (by omega)) rfl
      go_simp
      refine hK _ _ ?_
      clear hd hK K e0 e1 e2 e3 e4 e5 e6 e7 e8 e9 e10
      have HW2 := Lib.hid (HB.out.trans (HW.mono HB.out.size))
      clear HW
      go_wp2
      go_ret2
      exact ⟨rfl, HW2.out⟩
theorem frame_any (k f : Int) (t : Bool) (ht : okP n (Gm.atP L k) = t) (hf : frP n (Gm.atP L k) = f) (w : World) (h : PV w b s m n S L D) :
    Calls Try.prog 42 #[.pointer (some ⟨b, 0, none⟩), .int .i64 k] w fun e w' => e = .returned (.tuple #[.int .i64 f, .bool t]) ∧ Below w.heap.size w w' := by
  have hN : Gm.atP L k = (0, 0) ∨ ∃ f r : Nat, Gm.atP L k = ((f : Int), (r : Int)) ∧ f < 32 ∧ Gm.thB ((f : Int), (r : Int)) = true := by
    rcases Gm.page_cases k with h1 | ⟨j, rfl, hj⟩
    · exact .inl (Gm.atP_no h1)
    · rw [Gm.atP_is hj]
      rcases Gm.pl_cases h.mp.2 j with h2 | ⟨f, r, h2, h3, _, _, h4⟩
      · exact .inl h2
      · exact .inr ⟨f, r, h2, h3, h4⟩
  rcases hN with hp | ⟨a, r, hp, ha, hth⟩
  · rw [hp] at ht hf
    obtain rfl : false = t := ht
    obtain rfl : 0 = f := hf
    exact frame_none k hp w h
  · rw [hp] at ht hf
    have H := frame_is k n a r hp hth w h rfl _ rfl
    by_cases hc : (n : Int) ≤ (a : Int)
    · have e1 : okP n ((a : Int), (r : Int)) = false := by unfold okP; simp; omega
      have e2 : frP n ((a : Int), (r : Int)) = 0 := by unfold frP; rw [e1]; rfl
      rw [e1] at ht; rw [e2] at hf
      subst ht; subst hf
      simpa [hc] using H
    · have e1 : okP n ((a : Int), (r : Int)) = true := by unfold okP; rw [hth]; simp; omega
      have e2 : frP n ((a : Int), (r : Int)) = a := by unfold frP; rw [e1]; rfl
      rw [e1] at ht; rw [e2] at hf
      subst ht; subst hf
      simpa [hc] using H

theorem fault_width (z q k : Int) (hw : isW q = false) (w : World) (h : PV w b s m n S L D) :
    Calls Try.prog 46 #[.pointer (some ⟨b, 0, none⟩), .int .u32 z, .int .i64 q, .int .i64 k] w fun e w' => e = .returned (.int .i64 1) ∧ w = w' := by
  have HM := Lib.hid (made_yes b s w h.cell0)
  have HI := Lib.hid (isWidth_any q false hw w)
  clear h hw
  go_enter Try.func46, Try.ntmps46
  go_wp2_with (first | (go_at_call 40; refine HM.out.mono ?_; rintro e w1 ⟨rfl, rfl⟩) | (go_at_call 64; refine HI.out.mono ?_; rintro e w1 ⟨rfl, rfl⟩))
  go_ret
  exact ⟨rfl, rfl⟩
theorem fault_is (z q k c : Int) (h0 : 0 ≤ z) (h1 : z < 4294967296) (hw : q = 1 ∨ q = 2 ∨ q = 4) (hc : fltF L z q k = c) (w : World) (h : PV w b s m n S L D) :
    Calls Try.prog 46 #[.pointer (some ⟨b, 0, none⟩), .int .u32 z, .int .i64 q, .int .i64 k] w fun e w' => e = .returned (.int .i64 c) ∧ Below w.heap.size w w' := by
  have HM := Lib.hid (made_yes b s w h.cell0)
  have HA := Lib.hid (Gm.allows_any m L (z / 64) k _ rfl w h.mp)
  have c1 := h.cell1
  have HR := Lib.hid (Below.refl w.heap.size w)
  unfold fltF at hc
  generalize Gm.alwF (Gm.atP L (z / 64)) (z / 64) k = al at HA hc
  clear h
  have HH := Lib.hid hc
  clear hc
  rcases hw with rfl | rfl | rfl
  · have HI := Lib.hid (isWidth_any 1 true (by decide) w)
    by_cases h2 : 768 ≤ z
    · have d2 : decide (768 ≤ z) = true := by simpa using h2
      have HC : Hid (2 = c) := Lib.hid (by rw [← HH.out]; simp [isW, h2, Int.emod_one])
      clear HH h2
      go_enter Try.func46, Try.ntmps46
      go_wp2_with (first | (go_at_call 40; refine HM.out.mono ?_; rintro e w1 ⟨rfl, rfl⟩) | (go_at_call 64; refine HI.out.mono ?_; rintro e w1 ⟨rfl, rfl⟩))
      go_ret
      exact ⟨by rw [← HC.out]; rfl, HR.out⟩
    · have d2 : decide (768 ≤ z) = false := by simpa using h2
      have HC : Hid (al = c) := Lib.hid (by rw [← HH.out]; simp [isW, h2, Int.emod_one])
      clear HH h2
      go_enter Try.func46, Try.ntmps46
      go_wp2_with (first | (go_at_call 40; refine HM.out.mono ?_; rintro e w1 ⟨rfl, rfl⟩) | (go_at_call 64; refine HI.out.mono ?_; rintro e w1 ⟨rfl, rfl⟩) | (go_at_call 65; refine HA.out.mono ?_; rintro e w1 ⟨rfl, hb1⟩))
      go_ret
      exact ⟨by rw [← HC.out]; rfl, hb1⟩
  · have HI := Lib.hid (isWidth_any 2 true (by decide) w)
    by_cases hm : z % 2 = 0
    rotate_left
    · have d0 : (z % 2 != 0) = true := by simpa using hm
      have HC : Hid (1 = c) := Lib.hid (by rw [← HH.out]; simp [isW, hm])
      clear HH hm
      go_enter Try.func46, Try.ntmps46
      go_wp2_with (first | (go_at_call 40; refine HM.out.mono ?_; rintro e w1 ⟨rfl, rfl⟩) | (go_at_call 64; refine HI.out.mono ?_; rintro e w1 ⟨rfl, rfl⟩))
      go_ret
      exact ⟨by rw [← HC.out]; rfl, HR.out⟩
    have d0 : (z % 2 != 0) = false := by simpa using hm
    by_cases h2 : 768 ≤ z
    · have d2 : decide (768 ≤ z) = true := by simpa using h2
      have HC : Hid (2 = c) := Lib.hid (by rw [← HH.out]; simp [isW, h2, hm])
      clear HH h2
      go_enter Try.func46, Try.ntmps46
      go_wp2_with (first | (go_at_call 40; refine HM.out.mono ?_; rintro e w1 ⟨rfl, rfl⟩) | (go_at_call 64; refine HI.out.mono ?_; rintro e w1 ⟨rfl, rfl⟩))
      go_ret
      exact ⟨by rw [← HC.out]; rfl, HR.out⟩
    · have d2 : decide (768 ≤ z) = false := by simpa using h2
      have HC : Hid (al = c) := Lib.hid (by rw [← HH.out]; simp [isW, h2, hm])
      clear HH h2
      go_enter Try.func46, Try.ntmps46
      go_wp2_with (first | (go_at_call 40; refine HM.out.mono ?_; rintro e w1 ⟨rfl, rfl⟩) | (go_at_call 64; refine HI.out.mono ?_; rintro e w1 ⟨rfl, rfl⟩) | (go_at_call 65; refine HA.out.mono ?_; rintro e w1 ⟨rfl, hb1⟩))
      go_ret
      exact ⟨by rw [← HC.out]; rfl, hb1⟩
  · have HI := Lib.hid (isWidth_any 4 true (by decide) w)
    by_cases hm : z % 4 = 0
    rotate_left
    · have d0 : (z % 4 != 0) = true := by simpa using hm
      have HC : Hid (1 = c) := Lib.hid (by rw [← HH.out]; simp [isW, hm])
      clear HH hm
      go_enter Try.func46, Try.ntmps46
      go_wp2_with (first | (go_at_call 40; refine HM.out.mono ?_; rintro e w1 ⟨rfl, rfl⟩) | (go_at_call 64; refine HI.out.mono ?_; rintro e w1 ⟨rfl, rfl⟩))
      go_ret
      exact ⟨by rw [← HC.out]; rfl, HR.out⟩
    have d0 : (z % 4 != 0) = false := by simpa using hm
    by_cases h2 : 768 ≤ z
    · have d2 : decide (768 ≤ z) = true := by simpa using h2
      have HC : Hid (2 = c) := Lib.hid (by rw [← HH.out]; simp [isW, h2, hm])
      clear HH h2
      go_enter Try.func46, Try.ntmps46
      go_wp2_with (first | (go_at_call 40; refine HM.out.mono ?_; rintro e w1 ⟨rfl, rfl⟩) | (go_at_call 64; refine HI.out.mono ?_; rintro e w1 ⟨rfl, rfl⟩))
      go_ret
      exact ⟨by rw [← HC.out]; rfl, HR.out⟩
    · have d2 : decide (768 ≤ z) = false := by simpa using h2
      have HC : Hid (al = c) := Lib.hid (by rw [← HH.out]; simp [isW, h2, hm])
      clear HH h2
      go_enter Try.func46, Try.ntmps46
      go_wp2_with (first | (go_at_call 40; refine HM.out.mono ?_; rintro e w1 ⟨rfl, rfl⟩) | (go_at_call 64; refine HI.out.mono ?_; rintro e w1 ⟨rfl, rfl⟩) | (go_at_call 65; refine HA.out.mono ?_; rintro e w1 ⟨rfl, hb1⟩))
      go_ret
      exact ⟨by rw [← HC.out]; rfl, hb1⟩
theorem fault_any (z q k c : Int) (h0 : 0 ≤ z) (h1 : z < 4294967296) (hc : fltF L z q k = c) (w : World) (h : PV w b s m n S L D) :
    Calls Try.prog 46 #[.pointer (some ⟨b, 0, none⟩), .int .u32 z, .int .i64 q, .int .i64 k] w fun e w' => e = .returned (.int .i64 c) ∧ Below w.heap.size w w' := by
  by_cases hw : isW q = true
  · exact fault_is z q k c h0 h1 (by unfold isW at hw; simpa [or_assoc] using hw) hc w h
  · have hw : isW q = false := by simpa using hw
    have e : fltF L z q k = 1 := by unfold fltF; rw [hw]; rfl
    rw [e] at hc
    subst hc
    exact (fault_width z q k hw w h).mono fun e w' ⟨he, hb⟩ => ⟨he, hb ▸ Below.refl _ _⟩

/-- a block of four cells: where an access lies -/
def hitC (h : Int × Int × Int) : List Value := [.int .i64 h.1, .int .i64 h.2.1, .int .i64 h.2.2, .bool false]
def HAt (w : World) (g : Nat) (h : Int × Int × Int) : Prop := Blk w g 32 (hitC h)
theorem HAt.cells {w : World} {g : Nat} {h : Int × Int × Int} (H : HAt w g h) : w.cell? ⟨g, 0, none⟩ = some (.int .i64 h.1) ∧ w.cell? ⟨g, 1, none⟩ = some (.int .i64 h.2.1) ∧ w.cell? ⟨g, 2, none⟩ = some (.int .i64 h.2.2) ∧ w.cell? ⟨g, 3, none⟩ = some (.bool false) :=
  ⟨H.cell rfl, H.cell rfl, H.cell rfl, H.cell rfl⟩

theorem find_bad (z q k ft : Int) (h0 : 0 ≤ z) (h1 : z < 4294967296) (hft : fltF L z q k = ft) (hz : ¬ ft = 0) (w : World) (hP : PV w b s m n S L D) :
    Calls Try.prog 18 #[.pointer (some ⟨b, 0, none⟩), .int .u32 z, .int .i64 q, .int .i64 k] w fun e w' => e = .returned (.tuple #[hitV (0, 0, 0), .int .i64 ft]) ∧ Below w.heap.size w w' := by
  have HB : Hid (Below w.heap.size w (w.alloc (.cells (hitC (0, 0, 0)).toArray 32))) := Lib.hid ((Below.refl w.heap.size w).alloc (Nat.le_refl _) _)
  have HF := Lib.hid (fault_any (b := b) (s := s) (m := m) (n := n) (S := S) (D := D) z q k ft h0 h1 hft _ (hP.more HB.out))
  have HN : Hid (Blk (w.alloc (.cells (hitC (0, 0, 0)).toArray 32)) w.heap.size 32 (hitC (0, 0, 0))) := Lib.hid (Blk.new w _ _)
  have HSet : Hid (∀ (W : World) (j : Nat) (v : Value), Below w.heap.size w W → Below w.heap.size w (W.setCell ⟨w.heap.size, j, none⟩ v)) := Lib.hid fun W j v h => h.setCell (p := ⟨w.heap.size, j, none⟩) (by simp) _
  have hz0 : (ft == 0) = false := by simpa using hz
  clear hP hft hz
  go_enter Try.func18, Try.ntmps18
  go_wp2_with fail
  refine HF.out.mono ?_
  rintro e w1 ⟨rfl, hb1⟩
  have HB1 := Lib.hid (HB.out.trans (hb1.mono HB.out.size))
  have hq0 := HN.out.more hb1
  obtain ⟨r0, r1, r2, r3⟩ := HAt.cells hq0
  have f0 := hq0.frozen 0
  have f1 := hq0.frozen 1
  have f2 := hq0.frozen 2
  have f3 := hq0.frozen 3
  have hlt := hq0.lt
  clear hb1 hq0 HF HN HB
  go_wp2
  exact bodyPost_ret (v := .tuple #[hitV (0, 0, 0), .int .i64 ft]) (by simp [results, Try.results18, go_sem, r0, r1, r2, r3, hitV]) rfl ⟨rfl, by (repeat (first | refine HSet.out _ _ _ ?_)); exact HB1.out⟩
theorem find_ok (z q k fr : Int) (t : Bool) (h0 : 0 ≤ z) (h1 : z < 4294967296) (hft : fltF L z q k = 0) (ht : okP n (Gm.atP L (z / 64)) = t) (hf : frP n (Gm.atP L (z / 64)) = fr) (w : World) (hP : PV w b s m n S L D) :
    Calls Try.prog 18 #[.pointer (some ⟨b, 0, none⟩), .int .u32 z, .int .i64 q, .int .i64 k] w fun e w' => e = .returned (.tuple #[hitV (if t = true then (z / 64, fr, z % 64) else (0, 0, 0)), .int .i64 (if t = true then 0 else 7)]) ∧ Below w.heap.size w w' := by
  have HB : Hid (Below w.heap.size w (w.alloc (.cells (hitC (0, 0, 0)).toArray 32))) := Lib.hid ((Below.refl w.heap.size w).alloc (Nat.le_refl _) _)
  have HPV := Lib.hid (hP.more HB.out)
  have HF := Lib.hid (fault_any (b := b) (s := s) (m := m) (n := n) (S := S) (D := D) z q k 0 h0 h1 hft _ (hP.more HB.out))
  have HN : Hid (Blk (w.alloc (.cells (hitC (0, 0, 0)).toArray 32)) w.heap.size 32 (hitC (0, 0, 0))) := Lib.hid (Blk.new w _ _)
  have HSet : Hid (∀ (W : World) (j : Nat) (v : Value), Below w.heap.size w W → Below w.heap.size w (W.setCell ⟨w.heap.size, j, none⟩ v)) := Lib.hid fun W j v h => h.setCell (p := ⟨w.heap.size, j, none⟩) (by simp) _
  have HFR := Lib.hid (fun W hW => frame_any (b := b) (s := s) (m := m) (n := n) (S := S) (D := D) (z / 64) fr t ht hf W hW)
  clear hP hft ht hf
  have d0 : (0 : Int) ≤ z / 64 := by omega
  have d1 : (0 : Int) ≤ z % 64 := by omega
  cases t
  all_goals
    go_enter Try.func18, Try.ntmps18
    go_wp2_with fail
    refine HF.out.mono ?_
    rintro e w1 ⟨rfl, hb1⟩
    have HB1 := Lib.hid (HB.out.trans (hb1.mono HB.out.size))
    have HN1 : Hid (Blk w1 w.heap.size 32 (hitC (0, 0, 0))) := Lib.hid (HN.out.more hb1)
    have HP1 := Lib.hid (HPV.out.more hb1)
    clear hb1 HF HN HB HPV
    go_wp2_with fail
    refine (HFR.out _ HP1.out).mono ?_
    rintro e w2 ⟨rfl, hb1⟩
    have HB2 := Lib.hid (HB1.out.trans (hb1.mono HB1.out.size))
    have hq0 := HN1.out.more hb1
    obtain ⟨r0, r1, r2, r3⟩ := HAt.cells hq0
    have f0 := hq0.frozen 0
    have f1 := hq0.frozen 1
    have f2 := hq0.frozen 2
    have f3 := hq0.frozen 3
    have hlt := hq0.lt
    clear hb1 hq0 HB1 HN1 HP1 HFR
    go_wp2
  · exact bodyPost_ret (v := .tuple #[hitV (0, 0, 0), .int .i64 7]) (by simp [results, Try.results18, go_sem, r0, r1, r2, r3, hitV]) rfl ⟨rfl, by (repeat (first | refine HSet.out _ _ _ ?_)); exact HB2.out⟩
  · exact bodyPost_ret (v := .tuple #[hitV (z / 64, fr, z % 64), .int .i64 0]) (by simp [results, Try.results18, go_sem, r0, r1, r2, r3, hitV]) rfl ⟨rfl, by (repeat (first | refine HSet.out _ _ _ ?_)); exact HB2.out⟩
theorem find_any (z q k c : Int) (h : Int × Int × Int) (h0 : 0 ≤ z) (h1 : z < 4294967296) (hc : findF n L z q k = c) (hh : hitF n L z q k = h) (w : World) (hP : PV w b s m n S L D) :
    Calls Try.prog 18 #[.pointer (some ⟨b, 0, none⟩), .int .u32 z, .int .i64 q, .int .i64 k] w fun e w' => e = .returned (.tuple #[hitV h, .int .i64 c]) ∧ Below w.heap.size w w' := by
  unfold hitF at hh
  by_cases hz : fltF L z q k = 0
  · obtain ⟨M, j, f, r, _, _, _, _, _, _, hat, _, hf, hal⟩ := flt_zero hP.mp.2 h0 hz
    have hth := alwF_zero hal
    have H := find_ok z q k _ _ h0 h1 hz rfl rfl w hP
    unfold findF at hc hh
    rw [if_pos hz] at hc hh
    rw [hat] at hc hh H
    by_cases hfn : (f : Int) < (n : Int)
    · have e1 : okP n ((f : Int), (r : Int)) = true := by unfold okP; rw [hth]; simp; omega
      have e2 : frP n ((f : Int), (r : Int)) = f := by unfold frP; rw [e1]; rfl
      rw [e1, e2] at H
      simp only [hfn, if_true] at hc hh
      subst hc; subst hh
      exact H
    · have e1 : okP n ((f : Int), (r : Int)) = false := by unfold okP; simp; omega
      rw [e1] at H
      simp only [hfn, if_false] at hc hh
      subst hc; subst hh
      exact H
  · unfold findF at hc hh
    rw [if_neg hz] at hc hh
    rw [if_neg hz] at hh
    subst hh
    subst hc
    exact find_bad z q k _ h0 h1 rfl hz w hP
end
end Go.Proofs.Ytoafonbplbblpaa.Vw
end
