/- Package view: Load, Save, Dirty, Map, Store, of the program. -/
import Derived.Test.YtlgohgjnocoadaaYb
import Derived.Test.YtlgohgjnocoadaaRd
import Derived.StillTailTactics
namespace Go.Proofs.Ytlgohgjnocoadaa.Vw
open Go.RowKit Ut Oc
set_option maxRecDepth 100000
set_option linter.unusedVariables false
set_option maxHeartbeats 4000000

/-- one that is there: page, frame, place, all plain numbers -/
structure Hitt (n : Nat) (L : List Gm.Pl) (z m : Int) (M j f o : Nat) : Prop where
  hm : m = M
  hw : isW (M : Int) = true
  hj : z / 64 = j
  j12 : j < 12
  hat : (Gm.atP L (z / 64)).1 = f
  fn : f < n
  f32 : f < 32
  ho : z % 64 = o
  fit : o + M ≤ 64
  th : Gm.thB (Gm.atP L (z / 64)) = true
theorem find_zero {n : Nat} {L : List Gm.Pl} (hL : Gm.Okay L) {z m k : Int} (hz : 0 ≤ z) (h : findF n L z m k = 0) :
    ∃ M j f o : Nat, Hitt n L z m M j f o ∧ hitF n L z m k = ((j : Int), (f : Int), (o : Int)) := by
  have hh : hitF n L z m k = (z / 64, (Gm.atP L (z / 64)).1, z % 64) := if_pos h
  unfold findF at h
  by_cases hf : fltF L z m k = 0
  · rw [if_pos hf] at h
    obtain ⟨M, j, f, r, hm, hw, hmod, hz1, hj, hj1, hat, hpl, hf32, hal⟩ := flt_zero hL hz hf
    have hfn : (Gm.atP L (z / 64)).1 < n := by
      by_cases hc : (Gm.atP L (z / 64)).1 < n
      · exact hc
      · rw [if_neg hc] at h; omega
    have h1 : (Gm.atP L (z / 64)).1 = f := by rw [hat]
    have hw2 : M = 1 ∨ M = 2 ∨ M = 4 := by
      rw [hm] at hw
      unfold isW at hw
      simp at hw
      omega
    have ho : z % 64 = (((z % 64).toNat : Nat) : Int) := by omega
    have hfit : (z % 64).toNat + M ≤ 64 := by
      subst hm
      rcases hw2 with rfl | rfl | rfl
      · omega
      · simp at hmod; omega
      · simp at hmod; omega
    refine ⟨M, j, f, (z % 64).toNat, ⟨hm, by rw [← hm]; exact hw, hj, hj1, h1, by rw [h1] at hfn; omega, hf32, ho, hfit, ?_⟩, ?_⟩
    · have := alwF_zero hal
      rw [hat]; exact this
    · rw [hh, h1, hj, ← ho]
  · rw [if_neg hf] at h; omega

def loadF (n : Nat) (S : List Int) (L : List Gm.Pl) (z m : Int) : Int :=
  if findF n L z m 1 = 0 then num (((Fr.frameL S (Gm.atP L (z / 64)).1.toNat).drop (z % 64).toNat).take m.toNat) else 0
def saveS (n : Nat) (S : List Int) (L : List Gm.Pl) (z m x : Int) : List Int :=
  if findF n L z m 2 = 0 then Fr.layF S (Gm.atP L (z / 64)).1.toNat (putZ (Fr.frameL S (Gm.atP L (z / 64)).1.toNat) (z % 64).toNat m.toNat x) else S
def saveD (n : Nat) (L : List Gm.Pl) (D : List Bool) (z m : Int) : List Bool :=
  if findF n L z m 2 = 0 then D.set (z / 64).toNat true else D
theorem loadF_is {n : Nat} {S : List Int} {L : List Gm.Pl} {z m : Int} {M j f o : Nat} (h : findF n L z m 1 = 0) (H : Hitt n L z m M j f o) : loadF n S L z m = num (((Fr.frameL S f).drop o).take M) := by
  unfold loadF
  rw [if_pos h, H.hat, H.ho, H.hm]
  simp
theorem saveS_is {n : Nat} {S : List Int} {L : List Gm.Pl} {z m x : Int} {M j f o : Nat} (h : findF n L z m 2 = 0) (H : Hitt n L z m M j f o) : saveS n S L z m x = Fr.layF S f (putZ (Fr.frameL S f) o M x) := by
  unfold saveS
  rw [if_pos h, H.hat, H.ho, H.hm]
  simp
theorem saveD_is {n : Nat} {L : List Gm.Pl} {D : List Bool} {z m : Int} {M j f o : Nat} (h : findF n L z m 2 = 0) (H : Hitt n L z m M j f o) : saveD n L D z m = D.set j true := by
  unfold saveD
  rw [if_pos h, H.hj]
  simp
theorem load_len {S : List Int} {f o M : Nat} (hS : S.length = 2048) (hf : f < 32) (hfit : o + M ≤ 64) (x : Int) : (putZ (Fr.frameL S f) o M x).length = 64 := by
  rw [length_putZ _ _ _ _ (by rw [Fr.length_frameL hS hf]; omega), Fr.length_frameL hS hf]

section
variable {b s m n : Nat} {S : List Int} {L : List Gm.Pl} {D : List Bool}
theorem load_bad (z q c : Int) (h0 : 0 ≤ z) (h1 : z < 4294967296) (hc : findF n L z q 1 = c) (hz : ¬ c = 0) (w : World) (hP : PV w b s m n S L D) :
    Calls Try.prog 17 #[.pointer (some ⟨b, 0, none⟩), .int .u32 z, .int .i64 q] w fun e w' => e = .returned (.tuple #[.int .u32 0, .int .i64 c]) ∧ Below w.heap.size w w' := by
  have hh : hitF n L z q 1 = (0, 0, 0) := by unfold hitF; rw [hc, if_neg hz]
  have HF := Lib.hid (find_any (b := b) (s := s) (m := m) (n := n) (S := S) (D := D) z q 1 c _ h0 h1 hc hh w hP)
  have HBX : Hid (∀ W, Below w.heap.size w W → Below w.heap.size w (W.alloc (.cells #[.int .i64 0, .int .i64 0, .int .i64 0, .bool false] 38))) := Lib.hid fun W h => h.alloc h.size _
  have hz0 : (c == 0) = false := by simpa using hz
  clear hP hc hz hh
  go_enter Try.func17, Try.ntmps17
  go_wp2_with fail
  refine HF.out.mono ?_
  rintro e w1 ⟨rfl, hb1⟩
  have HB1 := Lib.hid (HBX.out _ hb1)
  clear hb1
  unfold hitV
  go_wp2
  go_ret2
  exact ⟨rfl, HB1.out⟩
theorem load_ok (z q u : Int) (h0 : 0 ≤ z) (h1 : z < 4294967296) (hc : findF n L z q 1 = 0) (hu : loadF n S L z q = u) (w : World) (hP : PV w b s m n S L D) :
    Calls Try.prog 17 #[.pointer (some ⟨b, 0, none⟩), .int .u32 z, .int .i64 q] w fun e w' => e = .returned (.tuple #[.int .u32 u, .int .i64 0]) ∧ Below w.heap.size w w' := by
  obtain ⟨M, j, f, o, H, hh⟩ := find_zero hP.mp.2 h0 hc
  have HF := Lib.hid (find_any (b := b) (s := s) (m := m) (n := n) (S := S) (D := D) z q 1 0 _ h0 h1 hc hh w hP)
  have HL : Hid (∀ W, PV W b s m n S L D → Calls Try.prog 25 #[.pointer (some ⟨s, 0, none⟩), .int .i64 f, .int .i64 o, .int .i64 q] W fun e w' => e = .returned (.tuple #[.int .u32 u, .int .i64 0]) ∧ W = w') := Lib.hid fun W hW => by
    have := Fr.load_in s n f o M S W hW.st H.fn H.hw H.fit
    rw [← loadF_is hc H, hu, ← H.hm] at this
    exact this
  have HBX : Hid (∀ W, Below w.heap.size w W → Below w.heap.size w (W.alloc (.cells (hitC ((j : Int), (f : Int), (o : Int))).toArray 38))) := Lib.hid fun W h => h.alloc h.size _
  have HP := Lib.hid hP
  clear hP hc hu hh H
  generalize (j : Int) = J at HF HBX
  generalize (f : Int) = F at HF HBX HL
  generalize (o : Int) = O at HF HBX HL
  go_enter Try.func17, Try.ntmps17
  go_wp2_with fail
  refine HF.out.mono ?_
  rintro e w1 ⟨rfl, hb1⟩
  have HB1 := Lib.hid (HBX.out _ hb1)
  have HN : Hid (Blk (w1.alloc (.cells (hitC (J, F, O)).toArray 38)) w1.heap.size 38 (hitC (J, F, O))) := Lib.hid (Blk.new w1 _ _)
  clear hb1
  unfold hitC at HB1
  unfold hitV
  go_upto_region 4 with fail
  change Hid (Blk (w1.alloc (.cells #[.int .i64 J, .int .i64 F, .int .i64 O, .bool false] 38)) w1.heap.size 38 (hitC (J, F, O))) at HN
  generalize w1.alloc (.cells #[.int .i64 J, .int .i64 F, .int .i64 O, .bool false] 38) = V at HB1 HN ⊢
  generalize w1.heap.size = g at HN ⊢
  have HV := Lib.hid (HP.out.more HB1.out)
  have c0 := HV.out.cell0
  obtain ⟨n0, n1, n2, _⟩ := HAt.cells HN.out
  have b0 : b < V.heap.size := HV.out.lt
  have b1 : g < V.heap.size := HN.out.lt
  have HLD : Hid (∀ W, Below V.heap.size V W → Calls Try.prog 25 #[.pointer (some ⟨s, 0, none⟩), .int .i64 F, .int .i64 O, .int .i64 q] W fun e w' => e = .returned (.tuple #[.int .u32 u, .int .i64 0]) ∧ W = w') := Lib.hid fun W hW => HL.out W (HV.out.more hW)
  dsimp only at n1 n2
  apply wp_region_auto [23, 24, 25, 26, 27, 28, 29, 30, 31, 32, 22, 33, 34, 10] [_, _, _, _, _, _, _, _, _, _, _, _, _, _] (fun W' => Below V.heap.size V W')
  case hm => kernel_rfl
  case hT => intro y; simp only [setAll, List.setIfInBounds_toArray, List.set_cons_succ, List.set_cons_zero]; exact rfl
  case hok => kernel_rfl
  case hn => decide
  case hw => exact (Below.refl _ _).drew
  case hs =>
    refine auto_op 23 [] (by kernel_rfl) (fun y w' HW hd K hK => ?_) ?_
    · go_simp
      refine hK _ _ ?_ ?_ HW
      · simp [upd]
      · exact rfl
    refine auto_op 24 [0] (by kernel_rfl) (fun y w' HW hd K hK => ?_) ?_
    · have e0 := hd_nth (hd 0 (by simp)) rfl
      go_simp
      refine hK _ _ ?_ ?_ HW
      · simp [upd, e0]
      · exact rfl
    refine auto_op 25 [1] (by kernel_rfl) (fun y w' HW hd K hK => ?_) ?_
    · have e1 := hd_nth (hd 1 (by simp)) rfl
      go_simp
      refine hK _ _ ?_ ?_ HW
      · simp [upd, e1]
      · exact rfl
    refine auto_op 26 [2] (by kernel_rfl) (fun y w' HW hd K hK => ?_) ?_
    · have e2 := hd_nth (hd 2 (by simp)) rfl
      have hcl : ∀ p : Addr, p.block < V.heap.size → w'.cell? p = V.cell? p := fun p hp => HW.cell hp
      go_simp
      refine hK _ _ ?_ ?_ HW
      · simp [upd, e2]
      · exact rfl
    refine auto_op 27 [] (by kernel_rfl) (fun y w' HW hd K hK => ?_) ?_
    · go_simp
      refine hK _ _ ?_ ?_ HW
      · simp [upd]
      · exact rfl
    refine auto_op 28 [4] (by kernel_rfl) (fun y w' HW hd K hK => ?_) ?_
    · have e4 := hd_nth (hd 4 (by simp)) rfl
      have hcl : ∀ p : Addr, p.block < V.heap.size → w'.cell? p = V.cell? p := fun p hp => HW.cell hp
      go_simp
      refine hK _ _ ?_ ?_ HW
      · simp [upd, e4]
      · exact rfl
    refine auto_op 29 [] (by kernel_rfl) (fun y w' HW hd K hK => ?_) ?_
    · go_simp
      refine hK _ _ ?_ ?_ HW
      · simp [upd]
      · exact rfl
    refine auto_op 30 [6] (by kernel_rfl) (fun y w' HW hd K hK => ?_) ?_
    · have e6 := hd_nth (hd 6 (by simp)) rfl
      have hcl : ∀ p : Addr, p.block < V.heap.size → w'.cell? p = V.cell? p := fun p hp => HW.cell hp
      go_simp
      refine hK _ _ ?_ ?_ HW
      · simp [upd, e6]
      · exact rfl
    refine auto_op 31 [] (by kernel_rfl) (fun y w' HW hd K hK => ?_) ?_
    · go_simp
      refine hK _ _ ?_ ?_ HW
      · simp [upd]
      · exact rfl
    refine auto_op 32 [3, 5, 7, 8] (by kernel_rfl) (fun y w' HW hd K hK => ?_) ?_
    · have e3 := hd_nth (hd 3 (by simp)) rfl
      have e5 := hd_nth (hd 5 (by simp)) rfl
      have e7 := hd_nth (hd 7 (by simp)) rfl
      have e8 := hd_nth (hd 8 (by simp)) rfl
      go_simp
      refine (HLD.out _ HW).mono ?_
      rintro e w3 ⟨rfl, rfl⟩
      refine hK _ _ ?_ ?_ HW
      · simp [upd, e3, e5, e7, e8]
      · exact rfl
    refine auto_op 22 [9] (by kernel_rfl) (fun y w' HW hd K hK => ?_) ?_
    · have e9 := hd_nth (hd 9 (by simp)) rfl
      go_simp
      refine hK _ _ ?_ ?_ HW
      · simp [upd, e9]
      · exact rfl
    refine auto_op 33 [10] (by kernel_rfl) (fun y w' HW hd K hK => ?_) ?_
    · have e10 := hd_nth (hd 10 (by simp)) rfl
      go_simp
      refine hK _ _ ?_ ?_ HW
      · simp [upd, e10]
      · exact rfl
    refine auto_op 34 [10] (by kernel_rfl) (fun y w' HW hd K hK => ?_) ?_
    · have e10 := hd_nth (hd 10 (by simp)) rfl
      go_simp
      refine hK _ _ ?_ ?_ HW
      · simp [upd, e10]
      · exact rfl
    refine auto_op 10 [11, 9, 0, 1, 2, 3, 4, 5, 6, 7, 8, 9, 10, 11] (by kernel_rfl) (fun y w' HW hd K hK => ?_) ?_
    · have e0 := hd_nth (hd 0 (by simp)) rfl
      have e1 := hd_nth (hd 1 (by simp)) rfl
      have e2 := hd_nth (hd 2 (by simp)) rfl
      have e3 := hd_nth (hd 3 (by simp)) rfl
      have e4 := hd_nth (hd 4 (by simp)) rfl
      have e5 := hd_nth (hd 5 (by simp)) rfl
      have e6 := hd_nth (hd 6 (by simp)) rfl
      have e7 := hd_nth (hd 7 (by simp)) rfl
      have e8 := hd_nth (hd 8 (by simp)) rfl
      have e9 := hd_nth (hd 9 (by simp)) rfl
      have e10 := hd_nth (hd 10 (by simp)) rfl
      have e11 := hd_nth (hd 11 (by simp)) rfl
      go_simp
      refine hK _ _ ?_ ?_ HW
      · simp [upd, e0, e1, e2, e3, e4, e5, e6, e7, e8, e9, e10, e11]
      · exact rfl
    refine auto_last fun y w' HW hd K hK => ?_
    have e0 := hd_nth (hd 0 (by omega)) rfl
    have e1 := hd_nth (hd 1 (by omega)) rfl
    have e2 := hd_nth (hd 2 (by omega)) rfl
    have e3 := hd_nth (hd 3 (by omega)) rfl
    have e4 := hd_nth (hd 4 (by omega)) rfl
    have e5 := hd_nth (hd 5 (by omega)) rfl
    have e6 := hd_nth (hd 6 (by omega)) rfl
    have e7 := hd_nth (hd 7 (by omega)) rfl
    have e8 := hd_nth (hd 8 (by omega)) rfl
    have e9 := hd_nth (hd 9 (by omega)) rfl
    have e10 := hd_nth (hd 10 (by omega)) rfl
    have e11 := hd_nth (hd 11 (by omega)) rfl
    have e12 := hd_nth (hd 12 (by omega)) rfl
    have e13 := hd_nth (hd 13 (by omega)) rfl
    go_simp
    refine hK _ _ ?_
    clear hd hK K e0 e1 e2 e3 e4 e5 e6 e7 e8 e9 e10 e11 e12 e13
    have HW2 := Lib.hid (HB1.out.trans (HW.mono HB1.out.size))
    clear HW
    go_wp2
    go_ret2
    exact ⟨rfl, HW2.out⟩
theorem load_any (z q c u : Int) (h0 : 0 ≤ z) (h1 : z < 4294967296) (hc : findF n L z q 1 = c) (hu : loadF n S L z q = u) (w : World) (hP : PV w b s m n S L D) :
    Calls Try.prog 17 #[.pointer (some ⟨b, 0, none⟩), .int .u32 z, .int .i64 q] w fun e w' => e = .returned (.tuple #[.int .u32 u, .int .i64 c]) ∧ Below w.heap.size w w' := by
  by_cases hz : c = 0
  · subst hz
    exact load_ok z q u h0 h1 hc hu w hP
  · unfold loadF at hu
    rw [hc, if_neg hz] at hu
    subst hu
    exact load_bad z q c h0 h1 hc hz w hP

theorem save_bad (z q x c : Int) (h0 : 0 ≤ z) (h1 : z < 4294967296) (hc : findF n L z q 2 = c) (hz : ¬ c = 0) (w : World) (hP : PV w b s m n S L D) :
    Calls Try.prog 13 #[.pointer (some ⟨b, 0, none⟩), .int .u32 z, .int .i64 q, .int .u32 x] w fun e w' => e = .returned (.int .i64 c) ∧ Below w.heap.size w w' := by
  have hh : hitF n L z q 2 = (0, 0, 0) := by unfold hitF; rw [hc, if_neg hz]
  have HF := Lib.hid (find_any (b := b) (s := s) (m := m) (n := n) (S := S) (D := D) z q 2 c _ h0 h1 hc hh w hP)
  have HBX : Hid (∀ W, Below w.heap.size w W → Below w.heap.size w (W.alloc (.cells #[.int .i64 0, .int .i64 0, .int .i64 0, .bool false] 38))) := Lib.hid fun W h => h.alloc h.size _
  have hz0 : (c == 0) = false := by simpa using hz
  clear hP hc hz hh
  go_enter Try.func13, Try.ntmps13
  go_wp2_with fail
  refine HF.out.mono ?_
  rintro e w1 ⟨rfl, hb1⟩
  have HB1 := Lib.hid (HBX.out _ hb1)
  clear hb1
  unfold hitV
  go_wp2
  go_ret
  exact ⟨rfl, HB1.out⟩
theorem save_ok (z q x : Int) (h0 : 0 ≤ z) (h1 : z < 4294967296) (hx0 : 0 ≤ x) (hx1 : x < 4294967296) (hc : findF n L z q 2 = 0) (w : World) (hP : PV w b s m n S L D) :
    Calls Try.prog 13 #[.pointer (some ⟨b, 0, none⟩), .int .u32 z, .int .i64 q, .int .u32 x] w fun e w' => e = .returned (.int .i64 0) ∧ PV w' b s m n (saveS n S L z q x) L (saveD n L D z q) ∧ Kq [s, b] w w' := by
  obtain ⟨M, j, f, o, H, hh⟩ := find_zero hP.mp.2 h0 hc
  have HF := Lib.hid (find_any (b := b) (s := s) (m := m) (n := n) (S := S) (D := D) z q 2 0 _ h0 h1 hc hh w hP)
  obtain ⟨S', hS'⟩ : ∃ S', saveS n S L z q x = S' := ⟨_, rfl⟩
  have HL : Hid (∀ W, PV W b s m n S L D → Calls Try.prog 36 #[.pointer (some ⟨s, 0, none⟩), .int .i64 f, .int .i64 o, .int .i64 q, .int .u32 x] W fun e w' => e = .returned (.int .i64 0) ∧ PV w' b s m n S' L D ∧ W.grownBy w' (some s)) := Lib.hid fun W hW => by
    have := Fr.save_in s n f o M x S W hW.st H.fn H.hw H.fit hx0 hx1
    rw [← saveS_is hc H, hS', ← H.hm] at this
    exact this.mono fun e w' ⟨he, hs, hg⟩ => ⟨he, hW.saved hs hg, hg⟩
  have HBX : Hid (∀ W, Below w.heap.size w W → Below w.heap.size w (W.alloc (.cells (hitC ((j : Int), (f : Int), (o : Int))).toArray 38))) := Lib.hid fun W h => h.alloc h.size _
  have HP := Lib.hid hP
  have HSD := Lib.hid (saveD_is (D := D) hc H)
  have HJ := Lib.hid H.j12
  have f2 : (0 : Int) ≤ (j : Int) ∧ (j : Int) < 12 := by have := H.j12; omega
  rw [hS', HSD.out]
  clear hP hc hS' hh H HSD hx0 hx1
  generalize (f : Int) = F at HF HBX HL
  generalize (o : Int) = O at HF HBX HL
  go_enter Try.func13, Try.ntmps13
  go_wp2_with fail
  refine HF.out.mono ?_
  rintro e w1 ⟨rfl, hb1⟩
  have HB1 := Lib.hid (HBX.out _ hb1)
  have HN : Hid (Blk (w1.alloc (.cells (hitC (j, F, O)).toArray 38)) w1.heap.size 38 (hitC (j, F, O))) := Lib.hid (Blk.new w1 _ _)
  have HGB := Lib.hid (Nat.lt_of_lt_of_le HP.out.lt hb1.size)
  clear hb1 f2
  unfold hitC at HB1
  unfold hitV
  go_upto_region 4 with fail
  change Hid (Blk (w1.alloc (.cells #[.int .i64 j, .int .i64 F, .int .i64 O, .bool false] 38)) w1.heap.size 38 (hitC (j, F, O))) at HN
  generalize w1.alloc (.cells #[.int .i64 j, .int .i64 F, .int .i64 O, .bool false] 38) = V at HB1 HN ⊢
  generalize w1.heap.size = g at HN HGB ⊢
  have HV := Lib.hid (HP.out.more HB1.out)
  have c0 := HV.out.cell0
  obtain ⟨n0, n1, n2, _⟩ := HAt.cells HN.out
  dsimp only at n0 n1 n2
  go_still_tail 10, (by kernel_rfl)
  change wpList _ _ _ _ _ V.drew
  have HV2 : Hid (PV V.drew b s m n S L D) := Lib.hid (HV.out.more (Below.refl _ _).drew)
  have HN2 : Hid (Blk V.drew g 38 (hitC (j, F, O))) := Lib.hid (HN.out.more (Below.refl _ _).drew)
  have HB2 : Hid (Below w.heap.size w V.drew) := Lib.hid HB1.out.drew
  clear c0 n0 n1 n2 HV HN HB1
  generalize V.drew = V2 at HV2 HN2 HB2 ⊢
  go_wp2_with fail
  refine (HL.out _ HV2.out).mono ?_
  rintro e w3 ⟨rfl, hv3, hg3⟩
  have HV3 := Lib.hid hv3
  have HK3 : Hid (Kq [s, b] w w3) := Lib.hid ((Kq.of_below HB2.out).trans (Kq.of_grown hg3 (by simp)))
  have HN3 := Lib.hid (HN2.out.kept hg3 (fun e => by have := HGB.out; have := HP.out.sm; have := HP.out.mb; injection e; omega))
  clear hv3 hg3 HV2 HN2 HB2
  have HPM := Lib.hid (HV3.out.mark j)
  have HKM := Lib.hid (HK3.out.setCell b (2 + j) (.bool true) (.inl (by simp)))
  obtain ⟨n0, _, _, _⟩ := HAt.cells HN3.out
  dsimp only at n0
  have f2 : (0 : Int) ≤ (j : Int) ∧ (j : Int) < 12 := by have := HJ.out; omega
  have fz := HV3.out.blk.frozen (2 + j)
  have c2 : w3.cell? ⟨b, 2 + j, none⟩ = some (.bool (D.getD j false)) := HV3.out.blk.cell (by
    rw [show 2 + j = j + 1 + 1 by omega]
    have := HV3.out.len
    have := HJ.out
    simp [vCells, List.getD, show j < D.length by omega])
  go_upto_region 5 with fail
  go_region
  all_goals go_wp2
  all_goals go_ret
  all_goals exact ⟨rfl, HPM.out.more (Below.refl _ _).drew, HKM.out.trans (Kq.of_below (Below.refl _ _).drew)⟩
theorem save_any (z q x c : Int) (S' : List Int) (D' : List Bool) (h0 : 0 ≤ z) (h1 : z < 4294967296) (hx0 : 0 ≤ x) (hx1 : x < 4294967296) (hc : findF n L z q 2 = c) (hS : saveS n S L z q x = S') (hD : saveD n L D z q = D') (w : World) (hP : PV w b s m n S L D) :
    Calls Try.prog 13 #[.pointer (some ⟨b, 0, none⟩), .int .u32 z, .int .i64 q, .int .u32 x] w fun e w' => e = .returned (.int .i64 c) ∧ PV w' b s m n S' L D' ∧ Kq [s, b] w w' := by
  by_cases hz : c = 0
  · subst hz
    subst hS
    subst hD
    exact save_ok z q x h0 h1 hx0 hx1 hc w hP
  · have e1 : saveS n S L z q x = S := by unfold saveS; rw [hc, if_neg hz]
    have e2 : saveD n L D z q = D := by unfold saveD; rw [hc, if_neg hz]
    rw [e1] at hS
    rw [e2] at hD
    subst hS
    subst hD
    exact (save_bad z q x c h0 h1 hc hz w hP).mono fun e w' ⟨he, hb⟩ => ⟨he, hP.more hb, Kq.of_below hb⟩
end
end Go.Proofs.Ytlgohgjnocoadaa.Vw
