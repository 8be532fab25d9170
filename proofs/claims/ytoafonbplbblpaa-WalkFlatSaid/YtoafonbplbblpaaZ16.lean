/- Several texts in one: Yc Yf -/
import Derived.Test.YtoafonbplbblpaaZ15
import Derived.Test.YtoafonbplbblpaaZ08
import Derived.StillTailTactics
section
/- Package view: Load, Save, Dirty, Map, Store, of the program. -/
namespace Go.Proofs.Ytoafonbplbblpaa.Vw
open Go.RowKit Ut Oc
set_option maxRecDepth 100000
set_option linter.unusedVariables false
set_option maxHeartbeats 4000000

/-- one that is there: page, frame, place, all plain numbers -/
structure Hitt (n : Nat) (L : List Gm.Pl) (z m : Int) (M j f o : Nat) : Prop where
  hm : m = M
  hw : isW (M : Int) = true
  hj : z / 64 = j
  j12 : j < 12
  hat : (Gm.atP L (z / 64)).1 = f
  fn : f < n
  f32 : f < 32
  ho : z % 64 = o
  fit : o + M ≤ 64
  th : Gm.thB (Gm.atP L (z / 64)) = true
theorem find_zero {n : Nat} {L : List Gm.Pl} (hL : Gm.Okay L) {z m k : Int} (hz : 0 ≤ z) (h : findF n L z m k = 0) :
    ∃ M j f o : Nat, Hitt n L z m M j f o ∧ hitF n L z m k = ((j : Int), (f : Int), (o : Int)) := by
  have hh : hitF n L z m k = (z / 64, (Gm.atP L (z / 64)).1, z % 64) := if_pos h
  unfold findF at h
  by_cases hf : fltF L z m k = 0
  · rw [if_pos hf] at h
    obtain ⟨M, j, f, r, hm, hw, hmod, hz1, hj, hj1, hat, hpl, hf32, hal⟩ := flt_zero hL hz hf
    have hfn : (Gm.atP L (z / 64)).1 < n := by
      by_cases hc : (Gm.atP L (z / 64)).1 < n
      · exact hc
      · rw [if_neg hc] at h; omega
    have h1 : (Gm.atP L (z / 64)).1 = f := by rw [hat]
    have hw2 : M = 1 ∨ M = 2 ∨ M = 4 := by
      rw [hm] at hw
      unfold isW at hw
      simp at hw
      omega
    have ho : z % 64 = (((z % 64).toNat : Nat) : Int) := by omega
    have hfit : (z % 64).toNat + M ≤ 64 := by
      subst hm
      rcases hw2 with rfl | rfl | rfl
      · omega
      · simp at hmod; omega
      · simp at hmod; omega
    refine ⟨M, j, f, (z % 64).toNat, ⟨hm, by rw [← hm]; exact hw, hj, hj1, h1, by rw [h1] at hfn; omega, hf32, ho, hfit, ?_⟩, ?_⟩
    · have := alwF_zero hal
      rw [hat]; exact this
    · rw [hh, h1, hj, ← ho]
  · rw [if_neg hf] at h; omega

def loadF (n : Nat) (S : List Int) (L : List Gm.Pl) (z m : Int) : Int :=
  if findF n L z m 1 = 0 then num (((Fr.frameL S (Gm.atP L (z / 64)).1.toNat).drop (z % 64).toNat).take m.toNat) else 0
def saveS (n : Nat) (S : List Int) (L : List Gm.Pl) (z m x : Int) : List Int :=
  if findF n L z m 2 = 0 then Fr.layF S (Gm.atP L (z / 64)).1.toNat (putZ (Fr.frameL S (Gm.atP L (z / 64)).1.toNat) (z % 64).toNat m.toNat x) else S
def saveD (n : Nat) (L : List Gm.Pl) (D : List Bool) (z m : Int) : List Bool :=
  if findF n L z m 2 = 0 then D.set (z / 64).toNat true else D
theorem loadF_is {n : Nat} {S : List Int} {L : List Gm.Pl} {z m : Int} {M j f o : Nat} (h : findF n L z m 1 = 0) (H : Hitt n L z m M j f o) : loadF n S L z m = num (((Fr.frameL S f).drop o).take M) := by
  unfold loadF
  rw [if_pos h, H.hat, H.ho, H.hm]
  simp
theorem saveS_is {n : Nat} {S : List Int} {L : List Gm.Pl} {z m x : Int} {M j f o : Nat} (h : findF n L z m 2 = 0) (H : Hitt n L z m M j f o) : saveS n S L z m x = Fr.layF S f (putZ (Fr.frameL S f) o M x) := by
  unfold saveS
  rw [if_pos h, H.hat, H.ho, H.hm]
  simp
theorem saveD_is {n : Nat} {L : List Gm.Pl} {D : List Bool} {z m : Int} {M j f o : Nat} (h : findF n L z m 2 = 0) (H : Hitt n L z m M j f o) : saveD n L D z m = D.set j true := by
  unfold saveD
  rw [if_pos h, H.hj]
  simp
theorem load_len {S : List Int} {f o M : Nat} (hS : S.length = 2048) (hf : f < 32) (hfit : o + M ≤ 64) (x : Int) : (putZ (Fr.frameL S f) o M x).length = 64 := by
  rw [length_putZ _ _ _ _ (by rw [Fr.length_frameL hS hf]; omega), Fr.length_frameL hS hf]

section
variable {b s m n : Nat} {S : List Int} {L : List Gm.Pl} {D : List Bool}
theorem load_bad (z q c : Int) (h0 : 0 ≤ z) (h1 : z < 4294967296) (hc : findF n L z q 1 = c) (hz : ¬ c = 0) (w : World) (hP : PV w b s m n S L D) :
    Calls Try.prog 15 #[.pointer (some ⟨b, 0, none⟩), .int .u32 z, .int .i64 q] w fun e w' => e = .returned (.tuple #[.int .u32 0, .int .i64 c]) ∧ Below w.heap.size w w' := by
  have hh : hitF n L z q 1 = (0, 0, 0) := by unfold hitF; rw [hc, if_neg hz]
  have HF := Lib.hid (find_any (b := b) (s := s) (m := m) (n := n) (S := S) (D := D) z q 1 c _ h0 h1 hc hh w hP)
  have HBX : Hid (∀ W, Below w.heap.size w W → Below w.heap.size w (W.alloc (.cells #[.int .i64 0, .int .i64 0, .int .i64 0, .bool false] 32))) := Lib.hid fun W h => h.alloc h.size _
  have hz0 : (c == 0) = false := by simpa using hz
  clear hP hc hz hh
  go_enter Try.func15, Try.ntmps15
  go_wp2_with fail
  refine HF.out.mono ?_
  rintro e w1 ⟨rfl, hb1⟩
  have HB1 := Lib.hid (HBX.out _ hb1)
  clear hb1
  unfold hitV
  go_wp2
  go_ret2
  exact ⟨rfl, HB1.out⟩
theorem load_ok (z q u : Int) (h0 : 0 ≤ z) (h1 : z < 4294967296) (hc : findF n L z q 1 = 0) (hu : loadF n S L z q = u) (w : World) (hP : PV w b s m n S L D) :
    Calls Try.prog 15 #[.pointer (some ⟨b, 0, none⟩), .int .u32 z, .int .i64 q] w fun e w' => e = .returned (.tuple #[.int .u32 u, .int .i64 0]) ∧ Below w.heap.size w w' := by
  obtain ⟨M, j, f, o, H, hh⟩ := find_zero hP.mp.2 h0 hc
  have HF := Lib.hid (find_any (b := b) (s := s) (m := m) (n := n) (S := S) (D := D) z q 1 0 _ h0 h1 hc hh w hP)
  have HL : Hid (∀ W, PV W b s m n S L D → Calls Try.prog 43 #[.pointer (some ⟨s, 0, none⟩), .int .i64 f, .int .i64 o, .int .i64 q] W fun e w' => e = .returned (.tuple #[.int .u32 u, .int .i64 0]) ∧ W = w') := Lib.hid fun W hW => by
    have := Fr.load_in s n f o M S W hW.st H.fn H.hw H.fit
    rw [← loadF_is hc H, hu, ← H.hm] at this
    exact this
  have HBX : Hid (∀ W, Below w.heap.size w W → Below w.heap.size w (W.alloc (.cells (hitC ((j : Int), (f : Int), (o : Int))).toArray 32))) := Lib.hid fun W h => h.alloc h.size _
  have HP := Lib.hid hP
  clear hP hc hu hh H
  generalize (j : Int) = J at HF HBX
  generalize (f : Int) = F at HF HBX HL
  generalize (o : Int) = O at HF HBX HL
  go_enter Try.func15, Try.ntmps15
  go_wp2_with fail
  refine HF.out.mono ?_
  rintro e w1 ⟨rfl, hb1⟩
  have HB1 := Lib.hid (HBX.out _ hb1)
  have HN : Hid (Blk (w1.alloc (.cells (hitC (J, F, O)).toArray 32)) w1.heap.size 32 (hitC (J, F, O))) := Lib.hid (Blk.new w1 _ _)
  clear hb1
  unfold hitC at HB1
  unfold hitV
  go_upto_region 4 with fail
  change Hid (Blk (w1.alloc (.cells #[.int .i64 J, .int .i64 F, .int .i64 O, .bool false] 32)) w1.heap.size 32 (hitC (J, F, O))) at HN
  generalize w1.alloc (.cells #[.int .i64 J, .int .i64 F, .int .i64 O, .bool false] 32) = V at HB1 HN ⊢
  generalize w1.heap.size = g at HN ⊢
  have HV := Lib.hid (HP.out.more HB1.out)
  have c0 := HV.out.cell0
  obtain ⟨n0, n1, n2, _⟩ := HAt.cells HN.out
  have b0 : b < V.heap.size := HV.out.lt
  have b1 : g < V.heap.size := HN.out.lt
  have HLD : Hid (∀ W, Below V.heap.size V W → Calls Try.prog 43 #[.pointer (some ⟨s, 0, none⟩), .int .i64 F, .int .i64 O, .int .i64 q] W fun e w' => e = .returned (.tuple #[.int .u32 u, .int .i64 0]) ∧ W = w') := Lib.hid fun W hW => HL.out W (HV.out.more hW)
  dsimp only at n1 n2
  apply wp_region_auto [23, 24, 25, 26, 27, 28, 29, 30, 31, 32, 22, 33, 34, 10] [_, _, _, _, _, _, _, _, _, _, _, _, _, _] (fun W' => Below V.heap.size V W')
  case hm => kernel_rfl
  case hT => intro y; simp only [setAll, List.setIfInBounds_toArray, List.set_cons_succ, List.set_cons_zero]; exact rfl
  case hok => kernel_rfl
  case hn => decide
  case hw => exact (Below.refl _ _).drew
  case hs =>
    refine auto_op 23 [] (by kernel_rfl) (fun y w' HW hd K hK => ?_) ?_
    · go_simp
      refine hK _ _ ?_ ?_ HW
      · simp [upd]
      · exact rfl
    refine auto_op 24 [0] (by kernel_rfl) (fun y w' HW hd K hK => ?_) ?_
    · have e0 := hd_nth (hd 0 (by simp)) rfl
      go_simp
      refine hK _ _ ?_ ?_ HW
      · simp [upd, e0]
      · exact rfl
    refine auto_op 25 [1] (by kernel_rfl) (fun y w' HW hd K hK => ?_) ?_
    · have e1 := hd_nth (hd 1 (by simp)) rfl
      go_simp
      refine hK _ _ ?_ ?_ HW
      · simp [upd, e1]
      · exact rfl
    refine auto_op 26 [2] (by kernel_rfl) (fun y w' HW hd K hK => ?_) ?_
    · have e2 := hd_nth (hd 2 (by simp)) rfl
      have hcl : ∀ p : Addr, p.block < V.heap.size → w'.cell? p = V.cell? p := fun p hp => HW.cell hp
      go_simp
      refine hK _ _ ?_ ?_ HW
      · simp [upd, e2]
      · exact rfl
    refine auto_op 27 [] (by kernel_rfl) (fun y w' HW hd K hK => ?_) ?_
    · go_simp
      refine hK _ _ ?_ ?_ HW
      · simp [upd]
      · exact rfl
    refine auto_op 28 [4] (by kernel_rfl) (fun y w' HW hd K hK => ?_) ?_
    · have e4 := hd_nth (hd 4 (by simp)) rfl
      have hcl : ∀ p : Addr, p.block < V.heap.size → w'.cell? p = V.cell? p := fun p hp => HW.cell hp
      go_simp
      refine hK _ _ ?_ ?_ HW
      · simp [upd, e4]
      · exact rfl
    refine auto_op 29 [] (by kernel_rfl) (fun y w' HW hd K hK => ?_) ?_
    · go_simp
      refine hK _ _ ?_ ?_ HW
      · simp [upd]
      · exact rfl
    refine auto_op 30 [6] (by kernel_rfl) (fun y w' HW hd K hK => ?_) ?_
    · have e6 := hd_nth (hd 6 (by simp)) rfl
      have hcl : ∀ p : Addr, p.block < V.heap.size → w'.cell? p = V.cell? p := fun p hp => HW.cell hp
      go_simp
      refine hK _ _ ?_ ?_ HW
      · simp [upd, e6]
      · exact rfl
    refine auto_op 31 [] (by kernel_rfl) (fun y w' HW hd K hK => ?_) ?_
    · go_simp
      refine hK _ _ ?_ ?_ HW
      · simp [upd]
      · exact rfl
    refine auto_op 32 [3, 5, 7, 8] (by kernel_rfl) (fun y w' HW hd K hK => ?_) ?_
    · have e3 := hd_nth (hd 3 (by simp)) rfl
      have e5 := hd_nth (hd 5 (by simp)) rfl
      have e7 := hd_nth (hd 7 (by simp)) rfl
      have e8 := hd_nth (hd 8 (by simp)) rfl
      go_simp
      refine (HLD.out _ HW).mono ?_
      rintro e w3 ⟨rfl, rfl⟩
      refine hK _ _ ?_ ?_ HW
      · simp [upd, e3, e5, e7, e8]
      · exact rfl
    refine auto_op 22 [9] (by kernel_rfl) (fun y w' HW hd K hK => ?_) ?_
    · have e9 := hd_nth (hd 9 (by simp)) rfl
      go_simp
      refine hK _ _ ?_ ?_ HW
      · simp [upd, e9]
      · exact rfl
    refine auto_op 33 [10] (by kernel_rfl) (fun y w' HW hd K hK => ?_) ?_
    · have e10 := hd_nth (hd 10 (by simp)) rfl
      go_simp
      refine hK _ _ ?_ ?_ HW
      · simp [upd, e10]
      · exact rfl
    refine auto_op 34 [10] (by kernel_rfl) (fun y w' HW hd K hK => ?_) ?_
    · have e10 := hd_nth (hd 10 (by simp)) rfl
      go_simp
      refine hK _ _ ?_ ?_ HW
      · simp [upd, e10]
      · exact rfl
    refine auto_op 10 [11, 9, 0, 1, 2, 3, 4, 5, 6, 7, 8, 9, 10, 11] (by kernel_rfl) (fun y w' HW hd K hK => ?_) ?_
    · have e0 := hd_nth (hd 0 (by simp)) rfl
      have e1 := hd_nth (hd 1 (by simp)) rfl
      have e2 := hd_nth (hd 2 (by simp)) rfl
      have e3 := hd_nth (hd 3 (by simp)) rfl
      have e4 := hd_nth (hd 4 (by simp)) rfl
      have e5 := hd_nth (hd 5 (by simp)) rfl
      have e6 := hd_nth (hd 6 (by simp)) rfl
      have e7 := hd_nth (hd 7 (by simp)) rfl
      have e8 := hd_nth (hd 8 (by simp)) rfl
      have e9 := hd_nth (hd 9 (by simp)) rfl
      have e10 := hd_nth (hd 10 (by simp)) rfl
      have e11 := hd_nth (hd 11 (by simp)) rfl
      go_simp
      refine hK _ _ ?_ ?_ HW
      · simp [upd, e0, e1, e2, e3, e4, e5, e6, e7, e8, e9, e10, e11]
      · exact rfl
    refine auto_last fun y w' HW hd K hK => ?_
    have e0 := hd_nth (hd 0 (by omega)) rfl
    have e1 := hd_nth (hd 1 (by omega)) rfl
    have e2 := hd_nth (hd 2 (by omega)) rfl
    have e3 := hd_nth (hd 3 (by omega)) rfl
    have e4 := hd_nth (hd 4 (by omega)) rfl
    have e5 := hd_nth (hd 5 (by omega)) rfl
    have e6 := hd_nth (hd 6 (by omega)) rfl
    have e7 := hd_nth (hd 7 (by omega)) rfl
    have e8 := hd_nth (hd 8 (by omega)) rfl
    have e9 := hd_nth (hd 9 (by omega)) rfl
    have e10 := hd_nth (hd 10 (by omega)) rfl
    have e11 := hd_nth (hd 11 (by omega)) rfl
    have e12 := hd_nth (hd 12 (by omega)) rfl
    have e13 := hd_nth (hd 13 (by omega)) rfl
    go_simp
    refine hK _ _ ?_
    clear hd hK K e0 e1 e2 e3 e4 e5 e6 e7 e8 e9 e10 e11 e12 e13
    have HW2 := Lib.hid (HB1.out.trans (HW.mono HB1.out.size))
    clear HW
    go_wp2
    go_ret2
    exact ⟨rfl, HW2.out⟩
theorem load_any (z q c u : Int) (h0 : 0 ≤ z) (h1 : z < 4294967296) (hc : findF n L z q 1 = c) (hu : loadF n S L z q = u) (w : World) (hP : PV w b s m n S L D) :
    Calls Try.prog 15 #[.pointer (some ⟨b, 0, none⟩), .int .u32 z, .int .i64 q] w fun e w' => e = .returned (.tuple #[.int .u32 u, .int .i64 c]) ∧ Below w.heap.size w w' := by
  by_cases hz : c = 0
  · subst hz
    exact load_ok z q u h0 h1 hc hu w hP
  · unfold loadF at hu
    rw [hc, if_neg hz] at hu
    subst hu
    exact load_bad z q c h0 h1 hc hz w hP

theorem save_bad (z q x c : Int) (h0 : 0 ≤ z) (h1 : z < 4294967296) (hc : findF n L z q 2 = c) (hz : ¬ c = 0) (w : World) (hP : PV w b s m n S L D) :
    Calls Try.prog 27 #[.pointer (some ⟨b, 0, none⟩), .int .u32 z, .int .i64 q, .int .u32 x] w fun e w' => e = .returned (.int .i64 c) ∧ Below w.heap.size w w' := by
  have hh : hitF n L z q 2 = (0, 0, 0) := by unfold hitF; rw [hc, if_neg hz]
  have HF := Lib.hid (find_any (b := b) (s := s) (m := m) (n := n) (S := S) (D := D) z q 2 c _ h0 h1 hc hh w hP)
  have HBX : Hid (∀ W, Below w.heap.size w W → Below w.heap.size w (W.alloc (.cells #[.int .i64 0, .int .i64 0, .int .i64 0, .bool false] 32))) := Lib.hid fun W h => h.alloc h.size _
  have hz0 : (c == 0) = false := by simpa using hz
  clear hP hc hz hh
  go_enter Try.func27, Try.ntmps27
  go_wp2_with fail
  refine HF.out.mono ?_
  rintro e w1 ⟨rfl, hb1⟩
  have HB1 := Lib.hid (HBX.out _ hb1)
  clear hb1
  unfold hitV
  go_wp2
  go_ret
  exact ⟨rfl, HB1.out⟩
theorem save_ok (z q x : Int) (h0 : 0 ≤ z) (h1 : z < 4294967296) (hx0 : 0 ≤ x) (hx1 : x < 4294967296) (hc : findF n L z q 2 = 0) (w : World) (hP : PV w b s m n S L D) :
    Calls Try.prog 27 #[.pointer (some ⟨b, 0, none⟩), .int .u32 z, .int .i64 q, .int .u32 x] w fun e w' => e = .returned (.int .i64 0) ∧ PV w' b s m n (saveS n S L z q x) L (saveD n L D z q) ∧ Kq [s, b] w w' := by
  obtain ⟨M, j, f, o, H, hh⟩ := find_zero hP.mp.2 h0 hc
  have HF := Lib.hid (find_any (b := b) (s := s) (m := m) (n := n) (S := S) (D := D) z q 2 0 _ h0 h1 hc hh w hP)
  obtain ⟨S', hS'⟩ : ∃ S', saveS n S L z q x = S' := ⟨_, rfl⟩
  have HL : Hid (∀ W, PV W b s m n S L D → Calls Try.prog 52 #[.pointer (some ⟨s, 0, none⟩), .int .i64 f, .int .i64 o, .int .i64 q, .int .u32 x] W fun e w' => e = .returned (.int .i64 0) ∧ PV w' b s m n S' L D ∧ W.grownBy w' (some s)) := Lib.hid fun W hW => by
    have := Fr.save_in s n f o M x S W hW.st H.fn H.hw H.fit hx0 hx1
    rw [← saveS_is hc H, hS', ← H.hm] at this
    exact this.mono fun e w' ⟨he, hs, hg⟩ => ⟨he, hW.saved hs hg, hg⟩
  have HBX : Hid (∀ W, Below w.heap.size w W → Below w.heap.size w (W.alloc (.cells (hitC ((j : Int), (f : Int), (o : Int))).toArray 32))) := Lib.hid fun W h => h.alloc h.size _
  have HP := Lib.hid hP
  have HSD := Lib.hid (saveD_is (D := D) hc H)
  have HJ := Lib.hid H.j12
  have f2 : (0 : Int) ≤ (j : Int) ∧ (j : Int) < 12 := by have := H.j12; omega
  rw [hS', HSD.out]
  clear hP hc hS' hh H HSD hx0 hx1
  generalize (f : Int) = F at HF HBX HL
  generalize (o : Int) = O at HF HBX HL
  go_enter Try.func27, Try.ntmps27
  go_wp2_with fail
  refine HF.out.mono ?_
  rintro e w1 ⟨rfl, hb1⟩
  have HB1 := Lib.hid (HBX.out _ hb1)
  have HN : Hid (Blk (w1.alloc (.cells (hitC (j, F, O)).toArray 32)) w1.heap.size 32 (hitC (j, F, O))) := Lib.hid (Blk.new w1 _ _)
  have HGB := Lib.hid (Nat.lt_of_lt_of_le HP.out.lt hb1.size)
  clear hb1 f2
  unfold hitC at HB1
  unfold hitV
  go_upto_region 4 with fail
  change Hid (Blk (w1.alloc (.cells #[.int .i64 j, .int .i64 F, .int .i64 O, .bool false] 32)) w1.heap.size 32 (hitC (j, F, O))) at HN
  generalize w1.alloc (.cells #[.int .i64 j, .int .i64 F, .int .i64 O, .bool false] 32) = V at HB1 HN ⊢
  generalize w1.heap.size = g at HN HGB ⊢
  have HV := Lib.hid (HP.out.more HB1.out)
  have c0 := HV.out.cell0
  obtain ⟨n0, n1, n2, _⟩ := HAt.cells HN.out
  dsimp only at n0 n1 n2
  go_still_tail 10, (by kernel_rfl)
  change wpList _ _ _ _ _ V.drew
  have HV2 : Hid (PV V.drew b s m n S L D) := Lib.hid (HV.out.more (Below.refl _ _).drew)
  have HN2 : Hid (Blk V.drew g 32 (hitC (j, F, O))) := Lib.hid (HN.out.more (Below.refl _ _).drew)
  have HB2 : Hid (Below w.heap.size w V.drew) := Lib.hid HB1.out.drew
  clear c0 n0 n1 n2 HV HN HB1
  generalize V.drew = V2 at HV2 HN2 HB2 ⊢
  go_wp2_with fail
  refine (HL.out _ HV2.out).mono ?_
  rintro e w3 ⟨rfl, hv3, hg3⟩
  have HV3 := Lib.hid hv3
  have HK3 : Hid (Kq [s, b] w w3) := Lib.hid ((Kq.of_below HB2.out).trans (Kq.of_grown hg3 (by simp)))
  have HN3 := Lib.hid (HN2.out.kept hg3 (fun e => by have := HGB.out; have := HP.out.sm; have := HP.out.mb; injection e; omega))
  clear hv3 hg3 HV2 HN2 HB2
  have HPM := Lib.hid (HV3.out.mark j)
  have HKM := Lib.hid (HK3.out.setCell b (2 + j) (.bool true) (.inl (by simp)))
  obtain ⟨n0, _, _, _⟩ := HAt.cells HN3.out
  dsimp only at n0
  have f2 : (0 : Int) ≤ (j : Int) ∧ (j : Int) < 12 := by have := HJ.out; omega
  have fz := HV3.out.blk.frozen (2 + j)
  have c2 : w3.cell? ⟨b, 2 + j, none⟩ = some (.bool (D.getD j false)) := HV3.out.blk.cell (by
    rw [show 2 + j = j + 1 + 1 by omega]
    have := HV3.out.len
    have := HJ.out
    simp [vCells, List.getD, show j < D.length by omega])
  go_upto_region 5 with fail
  go_region
  all_goals go_wp2
  all_goals go_ret
  all_goals exact ⟨rfl, HPM.out.more (Below.refl _ _).drew, HKM.out.trans (Kq.of_below (Below.refl _ _).drew)⟩
theorem save_any (z q x c : Int) (S' : List Int) (D' : List Bool) (h0 : 0 ≤ z) (h1 : z < 4294967296) (hx0 : 0 ≤ x) (hx1 : x < 4294967296) (hc : findF n L z q 2 = c) (hS : saveS n S L z q x = S') (hD : saveD n L D z q = D') (w : World) (hP : PV w b s m n S L D) :
    Calls Try.prog 27 #[.pointer (some ⟨b, 0, none⟩), .int .u32 z, .int .i64 q, .int .u32 x] w fun e w' => e = .returned (.int .i64 c) ∧ PV w' b s m n S' L D' ∧ Kq [s, b] w w' := by
  by_cases hz : c = 0
  · subst hz
    subst hS
    subst hD
    exact save_ok z q x h0 h1 hx0 hx1 hc w hP
  · have e1 : saveS n S L z q x = S := by unfold saveS; rw [hc, if_neg hz]
    have e2 : saveD n L D z q = D := by unfold saveD; rw [hc, if_neg hz]
    rw [e1] at hS
    rw [e2] at hD
    subst hS
    subst hD
    exact (save_bad z q x c h0 h1 hc hz w hP).mono fun e w' ⟨he, hb⟩ => ⟨he, hP.more hb, Kq.of_below hb⟩
end
end Go.Proofs.Ytoafonbplbblpaa.Vw
end
section
/- Package view: own bytes, plainly: where a byte lies, bytes read and written one by one, parts of a range. -/
namespace Go.Proofs.Ytoafonbplbblpaa.Vw
open Go.RowKit Ut Oc
set_option maxRecDepth 100000
set_option linter.unusedVariables false

/-- is the byte at p (below 512) an own one; where it lies in the frames' bytes -/
def okA (n : Nat) (L : List Gm.Pl) (p : Nat) : Bool := okP n (Gm.plN L (p / 64))
def frN (L : List Gm.Pl) (j : Nat) : Nat := (Gm.plN L j).1.toNat
def posn (L : List Gm.Pl) (p : Nat) : Nat := 64 * frN L (p / 64) + p % 64
def ownB (n : Nat) (L : List Gm.Pl) (z k : Int) : Bool := decide (0 ≤ k) && decide (z ≤ 512) && decide (k ≤ 512 - z) && (List.range k.toNat).all fun i => okA n L (z.toNat + i)

theorem ok_frame {n : Nat} {L : List Gm.Pl} (hL : Gm.Okay L) {j : Nat} (h : okP n (Gm.plN L j) = true) :
    ∃ f : Nat, (Gm.plN L j).1 = f ∧ frN L j = f ∧ f < n ∧ f < 32 := by
  unfold okP at h
  simp at h
  rcases Gm.pl_cases hL j with h2 | ⟨f, r, h2, hf, _, _, h4⟩
  · rw [h2] at h; exact absurd h.1 (by decide)
  · rw [h2] at h
    exact ⟨f, by rw [h2], by unfold frN; rw [h2]; simp, by have := h.2; simp at this; exact this, hf⟩
theorem own_cases (n : Nat) (L : List Gm.Pl) (z k : Int) (hz : 0 ≤ z) :
    (ownB n L z k = false ∧ (k < 0 ∨ 512 < z ∨ 512 - z < k)) ∨ ∃ a K : Nat, z = a ∧ k = K ∧ a + K ≤ 512 ∧ (ownB n L z k = true ↔ ∀ i, i < K → okA n L (a + i) = true) := by
  by_cases h : k < 0 ∨ 512 < z ∨ 512 - z < k
  · refine .inl ⟨?_, h⟩
    unfold ownB
    rcases h with h | h | h
    · simp [show ¬ 0 ≤ k by omega]
    · simp [show ¬ z ≤ 512 by omega]
    · simp [show ¬ k ≤ 512 - z by omega]
  · refine .inr ⟨z.toNat, k.toNat, by omega, by omega, by omega, ?_⟩
    unfold ownB
    simp [show 0 ≤ k by omega, show z ≤ 512 by omega, show k ≤ 512 - z by omega]

/-- the first k bytes of zs laid from a on; .. of a marked -/
def wS (L : List Gm.Pl) (S : List Int) (a : Nat) (zs : List Int) : Nat → List Int
  | 0 => S
  | k + 1 => (wS L S a zs k).set (posn L (a + k)) (zs.getD k 0)
def wD (D : List Bool) (a : Nat) : Nat → List Bool
  | 0 => D
  | k + 1 => (wD D a k).set ((a + k) / 64) true
/-- the first k bytes from a on -/
def rB (L : List Gm.Pl) (S : List Int) (a k : Nat) : List Int := (List.range k).map fun i => S.getD (posn L (a + i)) 0
theorem rB_succ (L : List Gm.Pl) (S : List Int) (a k : Nat) : rB L S a (k + 1) = rB L S a k ++ [S.getD (posn L (a + k)) 0] := by unfold rB; rw [List.range_succ, List.map_append]; rfl
theorem rB_len (L : List Gm.Pl) (S : List Int) (a k : Nat) : (rB L S a k).length = k := by simp [rB]
theorem wS_len (L : List Gm.Pl) (S : List Int) (a : Nat) (zs : List Int) (k : Nat) : (wS L S a zs k).length = S.length := by
  induction k with
  | zero => rfl
  | succ k ih => simp only [wS, List.length_set]; exact ih
theorem bytes_set {S : List Int} (h : AreBytes S) (j : Nat) (x : Int) (hx : 0 ≤ x ∧ x < 256) : AreBytes (S.set j x) := fun z hz => by
  rcases List.mem_or_eq_of_mem_set hz with h1 | rfl
  · exact h z h1
  · exact hx
theorem wS_bytes {L : List Gm.Pl} {S : List Int} (h : AreBytes S) (a : Nat) {zs : List Int} (hz : AreBytes zs) (k : Nat) : AreBytes (wS L S a zs k) := by
  induction k with
  | zero => exact h
  | succ k ih => exact bytes_set ih _ _ (hz.at_ k)
theorem wD_len (D : List Bool) (a k : Nat) : (wD D a k).length = D.length := by
  induction k with
  | zero => rfl
  | succ k ih => simp only [wD, List.length_set]; exact ih

/-- one byte, by the store's own words -/
theorem lay_one {S : List Int} (hS : S.length = 2048) {f o : Nat} (hf : f < 32) (ho : o < 64) {x : Int} (hx : 0 ≤ x ∧ x < 256) : Fr.layF S f (putZ (Fr.frameL S f) o 1 x) = S.set (64 * f + o) x := by
  have hl : (Fr.frameL S f).length = 64 := Fr.length_frameL hS hf
  have e1 : bytesN x 1 = [x] := by simp [bytesN, byteN, List.range_succ]; omega
  unfold Fr.layF splice putZ
  rw [e1]
  have hlen : ((Fr.frameL S f).take o ++ ([x] ++ (Fr.frameL S f).drop (o + 1))).length = 64 := by simp [hl]; omega
  rw [hlen]
  refine List.ext_getElem? fun j => ?_
  unfold Fr.frameL
  by_cases h1 : j < 64 * f
  · rw [List.getElem?_append_left (by simp; omega), List.getElem?_take, if_pos h1, List.getElem?_set_ne (by omega)]
  · rw [List.getElem?_append_right (by simp; omega)]
    have hq : (S.take (64 * f)).length = 64 * f := by simp; omega
    rw [hq]
    by_cases h2 : j < 64 * f + o
    · rw [List.getElem?_append_left (by simp; omega), List.getElem?_append_left (by simp; omega), List.getElem?_take, if_pos (by omega), List.getElem?_take, if_pos (by omega), List.getElem?_drop, List.getElem?_set_ne (by omega), show 64 * f + (j - 64 * f) = j by omega]
    · by_cases h3 : j = 64 * f + o
      · subst h3
        rw [List.getElem?_append_left (by simp; omega), List.getElem?_append_right (by simp; omega), List.getElem?_set_self (by omega)]
        have : (List.take o (List.take 64 (List.drop (64 * f) S))).length = o := by simp; omega
        rw [this, show 64 * f + o - 64 * f - o = 0 by omega]
        rfl
      · have ht : (List.take o (List.take 64 (List.drop (64 * f) S))).length = o := by simp; omega
        by_cases h4 : j < 64 * f + 64
        · rw [List.getElem?_append_left (by simp; omega), List.getElem?_append_right (by simp; omega), ht, List.getElem?_set_ne (by omega), List.getElem?_append_right (by simp; omega)]
          simp only [List.length_singleton, List.getElem?_drop, List.getElem?_take]
          rw [if_pos (by omega)]
          congr 1
          omega
        · rw [List.getElem?_append_right (by simp; omega), List.getElem?_set_ne (by omega), List.getElem?_drop]
          congr 1
          simp
          omega
theorem num_one {S : List Int} (hS : S.length = 2048) {f o : Nat} (hf : f < 32) (ho : o < 64) : num (((Fr.frameL S f).drop o).take 1) = S.getD (64 * f + o) 0 := by
  have e : ((Fr.frameL S f).drop o).take 1 = [S.getD (64 * f + o) 0] := by
    unfold Fr.frameL
    refine List.ext_getElem? fun j => ?_
    rw [List.getElem?_take]
    by_cases hj : j = 0
    · subst hj
      rw [if_pos (by omega), List.getElem?_drop, List.getElem?_take, if_pos (by omega), List.getElem?_drop]
      simp [List.getD, List.getElem?_eq_getElem (show 64 * f + o < S.length by omega)]
    · rw [if_neg (by omega)]
      rw [List.getElem?_eq_none (by simp; omega)]
  rw [e]
  simp [num]

/-- a part of a range of bytes: its page, where it begins in it, how many, how many are ahead of it -/
structure Part where
  page : Nat
  off : Nat
  k : Nat
  from_ : Nat
def Part.v (p : Part) : Value := .agg #[.int .i64 p.page, .int .i64 p.off, .int .i64 p.k, .int .i64 p.from_]
def Part.cs (p : Part) : List Value := [.int .i64 p.page, .int .i64 p.off, .int .i64 p.k, .int .i64 p.from_]
/-- a part of the K bytes from a on -/
def Part.fine (a K : Nat) (p : Part) : Prop := p.off + p.k ≤ 64 ∧ p.from_ + p.k ≤ K ∧ a + p.from_ = 64 * p.page + p.off ∧ 0 < p.k
abbrev BP (a K : Nat) := { p : Part // p.fine a K }
def nxt (a K i : Nat) : Nat := min (64 - (a + i) % 64) (K - i)
theorem nxt_bd {a K i : Nat} (h : i < K) : 0 < nxt a K i ∧ (a + i) % 64 + nxt a K i ≤ 64 ∧ i + nxt a K i ≤ K := by unfold nxt; omega
def partAt (a K i : Nat) : Part := ⟨(a + i) / 64, (a + i) % 64, nxt a K i, i⟩
theorem partAt_fine {a K i : Nat} (h : i < K) : (partAt a K i).fine a K := by
  have := nxt_bd (a := a) h
  refine ⟨this.2.1, this.2.2, ?_, this.1⟩
  show a + i = 64 * ((a + i) / 64) + (a + i) % 64
  omega
def partsG (a K : Nat) : Nat → Nat → List (BP a K)
  | 0, _ => []
  | m + 1, i => if h : i < K then ⟨partAt a K i, partAt_fine h⟩ :: partsG a K m (i + nxt a K i) else []
theorem partsG_nil {a K m i : Nat} (h : K ≤ i) : partsG a K m i = [] := by
  cases m with
  | zero => rfl
  | succ m => unfold partsG; rw [dif_neg (by omega)]
theorem partsG_cons {a K m i : Nat} (h : i < K) : partsG a K (m + 1) i = ⟨partAt a K i, partAt_fine h⟩ :: partsG a K m (i + nxt a K i) := by
  show (if h : i < K then _ else _) = _
  rw [dif_pos h]
theorem partsG_len (a K m i : Nat) : (partsG a K m i).length ≤ m := by
  induction m generalizing i with
  | zero => simp [partsG]
  | succ m ih =>
    unfold partsG
    by_cases h : i < K
    · rw [dif_pos h]; simp; exact ih _
    · rw [dif_neg h]; simp
/-- what holds of each part's page holds of each byte's -/
theorem parts_all {a K : Nat} (P : Nat → Prop) : ∀ (m i : Nat), K ≤ i + m → ((∀ x ∈ partsG a K m i, P x.1.page) ↔ ∀ j, i ≤ j → j < K → P ((a + j) / 64)) := by
  intro m
  induction m with
  | zero => intro i hi; simp [partsG]; intro j h1 h2; omega
  | succ m ih =>
    intro i hi
    by_cases h : i < K
    · have hb := nxt_bd (a := a) h
      rw [partsG_cons h]
      rw [List.forall_mem_cons, ih (i + nxt a K i) (by omega)]
      constructor
      · rintro ⟨h1, h2⟩ j hj1 hj2
        by_cases hj : i + nxt a K i ≤ j
        · exact h2 j hj hj2
        · have : (a + j) / 64 = (a + i) / 64 := by omega
          rw [this]; exact h1
      · intro h1
        exact ⟨h1 i (Nat.le_refl _) h, fun j hj1 hj2 => h1 j (by omega) hj2⟩
    · rw [partsG_nil (by omega)]
      simp
      intro j h1 h2
      omega

/-- the bytes of a part -/
def prtB (L : List Gm.Pl) (S : List Int) (p : Part) : List Int := ((Fr.frameL S (frN L p.page)).drop p.off).take p.k
theorem prtB_eq {a K : Nat} {L : List Gm.Pl} {S : List Int} (hS : S.length = 2048) {p : Part} (hp : p.fine a K) (hf : frN L p.page < 32) : prtB L S p = (List.range p.k).map fun i => S.getD (posn L (a + p.from_ + i)) 0 := by
  obtain ⟨h1, h2, h3, h4⟩ := hp
  unfold prtB Fr.frameL
  refine List.ext_getElem? fun j => ?_
  rw [List.getElem?_take]
  by_cases hj : j < p.k
  · rw [if_pos hj, List.getElem?_drop, List.getElem?_take, if_pos (by omega), List.getElem?_drop, List.getElem?_map, List.getElem?_range hj]
    have e1 : (a + p.from_ + j) / 64 = p.page := by omega
    have e2 : (a + p.from_ + j) % 64 = p.off + j := by omega
    have e3 : posn L (a + p.from_ + j) = 64 * frN L p.page + (p.off + j) := by unfold posn; rw [e1, e2]
    rw [Option.map_some, e3]
    simp [List.getD, List.getElem?_eq_getElem (show 64 * frN L p.page + (p.off + j) < S.length by omega)]
  · rw [if_neg hj, List.getElem?_eq_none (by simp; omega)]
/-- .. written -/
def prtS (L : List Gm.Pl) (S : List Int) (zs : List Int) (p : Part) : Nat → List Int
  | 0 => S
  | i + 1 => (prtS L S zs p i).set (64 * frN L p.page + (p.off + i)) (zs.getD (p.from_ + i) 0)
theorem prtS_eq {a K : Nat} {L : List Gm.Pl} {S zs : List Int} {p : Part} (hp : p.fine a K) : ∀ i, i ≤ p.k → prtS L (wS L S a zs p.from_) zs p i = wS L S a zs (p.from_ + i) := by
  obtain ⟨h1, h2, h3, h4⟩ := hp
  intro i
  induction i with
  | zero => intro _; rfl
  | succ i ih =>
    intro hi
    show (prtS L (wS L S a zs p.from_) zs p i).set _ _ = (wS L S a zs (p.from_ + i)).set _ _
    rw [ih (by omega)]
    have e1 : (a + (p.from_ + i)) / 64 = p.page := by omega
    have e2 : (a + (p.from_ + i)) % 64 = p.off + i := by omega
    have e3 : posn L (a + (p.from_ + i)) = 64 * frN L p.page + (p.off + i) := by unfold posn; rw [e1, e2]
    show _ = (wS L S a zs (p.from_ + i)).set (posn L (a + (p.from_ + i))) (zs.getD (p.from_ + i) 0)
    rw [e3]
theorem prtS_len (L : List Gm.Pl) (S zs : List Int) (p : Part) (i : Nat) : (prtS L S zs p i).length = S.length := by
  induction i with
  | zero => rfl
  | succ i ih => simp only [prtS, List.length_set]; exact ih
theorem set_twice {D : List Bool} (j : Nat) : (D.set j true).set j true = D.set j true := by rw [List.set_set]
theorem wD_part {a K : Nat} {D : List Bool} {p : Part} (hp : p.fine a K) : ∀ i, 0 < i → i ≤ p.k → wD D a (p.from_ + i) = (wD D a p.from_).set p.page true := by
  obtain ⟨h1, h2, h3, h4⟩ := hp
  intro i
  induction i with
  | zero => intro h; omega
  | succ i ih =>
    intro _ hi
    show (wD D a (p.from_ + i)).set ((a + (p.from_ + i)) / 64) _ = _
    have e1 : (a + (p.from_ + i)) / 64 = p.page := by omega
    rw [e1]
    by_cases h0 : i = 0
    · subst h0; rfl
    · rw [ih (by omega) (by omega), List.set_set]
/-- over all parts -/
def foldS (L : List Gm.Pl) (zs : List Int) {a K : Nat} : List Int → List (BP a K) → List Int
  | S, [] => S
  | S, p :: l => foldS L zs (prtS L S zs p.1 p.1.k) l
def foldD {a K : Nat} : List Bool → List (BP a K) → List Bool
  | D, [] => D
  | D, p :: l => foldD (D.set p.1.page true) l
theorem foldS_snoc {L : List Gm.Pl} {zs : List Int} {a K : Nat} (l : List (BP a K)) (p : BP a K) : ∀ S, foldS L zs S (l ++ [p]) = prtS L (foldS L zs S l) zs p.1 p.1.k := by
  induction l with
  | nil => intro S; rfl
  | cons q l ih => intro S; exact ih _
theorem foldD_snoc {a K : Nat} (l : List (BP a K)) (p : BP a K) : ∀ D, foldD D (l ++ [p]) = (foldD D l).set p.1.page true := by
  induction l with
  | nil => intro S; rfl
  | cons q l ih => intro S; exact ih _
theorem foldS_len {L : List Gm.Pl} {zs : List Int} {a K : Nat} (l : List (BP a K)) : ∀ S, (foldS L zs S l).length = S.length := by
  induction l with
  | nil => intro S; rfl
  | cons q l ih => intro S; rw [show foldS L zs S (q :: l) = foldS L zs (prtS L S zs q.1 q.1.k) l from rfl, ih, prtS_len]
theorem foldS_parts {L : List Gm.Pl} {zs : List Int} {a K : Nat} {S : List Int} : ∀ m i, K ≤ i + m → i ≤ K → foldS L zs (wS L S a zs i) (partsG a K m i) = wS L S a zs K := by
  intro m
  induction m with
  | zero => intro i h1 h2; obtain rfl : i = K := by omega
            rfl
  | succ m ih =>
    intro i h1 h2
    by_cases h : i < K
    · rw [partsG_cons h]
      have hb := nxt_bd (a := a) h
      show foldS L zs (prtS L (wS L S a zs i) zs (partAt a K i) (partAt a K i).k) _ = _
      rw [show prtS L (wS L S a zs i) zs (partAt a K i) (partAt a K i).k = wS L S a zs (i + nxt a K i) from prtS_eq (partAt_fine h) _ (Nat.le_refl _)]
      exact ih _ (by omega) (by omega)
    · obtain rfl : i = K := by omega
      rw [partsG_nil (Nat.le_refl _)]; rfl
theorem foldD_parts {a K : Nat} {D : List Bool} : ∀ m i, K ≤ i + m → i ≤ K → foldD (wD D a i) (partsG a K m i) = wD D a K := by
  intro m
  induction m with
  | zero => intro i h1 h2; obtain rfl : i = K := by omega
            rfl
  | succ m ih =>
    intro i h1 h2
    by_cases h : i < K
    · rw [partsG_cons h]
      have hb := nxt_bd (a := a) h
      show foldD ((wD D a i).set (partAt a K i).page true) _ = _
      rw [show (wD D a i).set (partAt a K i).page true = wD D a (i + nxt a K i) from (wD_part (partAt_fine h) _ hb.1 (Nat.le_refl _)).symm]
      exact ih _ (by omega) (by omega)
    · obtain rfl : i = K := by omega
      rw [partsG_nil (Nat.le_refl _)]; rfl
/-- all parts' bytes -/
def foldB (L : List Gm.Pl) (S : List Int) {a K : Nat} (l : List (BP a K)) : List Int := l.flatMap fun p => prtB L S p.1
theorem rB_add (L : List Gm.Pl) (S : List Int) (a i m : Nat) : rB L S a (i + m) = rB L S a i ++ (List.range m).map fun j => S.getD (posn L (a + i + j)) 0 := by
  induction m with
  | zero => simp
  | succ m ih => rw [← Nat.add_assoc, rB_succ, ih, List.range_succ, List.map_append, List.append_assoc]; simp [Nat.add_assoc]
theorem foldB_parts {L : List Gm.Pl} {a K : Nat} {S : List Int} (hS : S.length = 2048) (hf : ∀ i, i < K → frN L ((a + i) / 64) < 32) : ∀ m i, K ≤ i + m → i ≤ K → rB L S a i ++ foldB L S (partsG a K m i) = rB L S a K := by
  intro m
  induction m with
  | zero => intro i h1 h2; obtain rfl : i = K := by omega
            simp [foldB, partsG]
  | succ m ih =>
    intro i h1 h2
    by_cases h : i < K
    · rw [partsG_cons h]
      have hb := nxt_bd (a := a) h
      show rB L S a i ++ (prtB L S (partAt a K i) ++ foldB L S (partsG a K m (i + nxt a K i))) = _
      rw [prtB_eq hS (partAt_fine h) (hf i h), ← List.append_assoc]
      rw [show rB L S a i ++ (List.range (partAt a K i).k).map (fun j => S.getD (posn L (a + (partAt a K i).from_ + j)) 0) = rB L S a (i + nxt a K i) from (rB_add L S a i (nxt a K i)).symm]
      exact ih _ (by omega) (by omega)
    · obtain rfl : i = K := by omega
      rw [partsG_nil (Nat.le_refl _)]
      simp [foldB]
end Go.Proofs.Ytoafonbplbblpaa.Vw
end
