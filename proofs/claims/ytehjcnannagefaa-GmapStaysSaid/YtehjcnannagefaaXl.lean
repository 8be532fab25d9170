/- The walk of hermitagelaw15.GmapRights. -/
import Derived.Test.YtehjcnannagefaaXj
import Derived.Deep.Cut
namespace Go.Proofs.Ytehjcnannagefaa.Gm
open Go.RowKit Ut
set_option maxRecDepth 100000
set_option linter.unusedVariables false
set_option maxHeartbeats 8000000

theorem plN_set {L : List Pl} (h : Okay L) (k : Nat) (hk : k < 12) (p : Pl) : plN (L.set k p) k = p := by
  simp [plN, List.getD, h.1, hk]
theorem plN_other (L : List Pl) (k j : Nat) (hne : j ≠ k) (p : Pl) : plN (L.set k p) j = plN L j := by
  simp only [plN, List.getD_eq_getElem?_getD, List.getElem?_set_ne (Ne.symm hne)]
theorem plN_no (k : Nat) : plN noP k = (0, 0) := by
  unfold plN noP
  rw [List.getD_eq_getElem?_getD, List.getElem?_replicate]
  split <;> rfl
/-- the pages told where one alone is there -/
theorem upto_one (k f r : Nat) (hk : k < 12) (h : 0 < r) : upto (noP.set k ((f : Int), (r : Int))) 12 = [(k : Int)] := by
  have ht : thB ((f : Int), (r : Int)) = true := by unfold thB; simp; omega
  have key : ∀ m, upto (noP.set k ((f : Int), (r : Int))) m = if k < m then [(k : Int)] else [] := fun m => by
    induction m with
    | zero => rfl
    | succ m ih =>
      rw [upto_succ, ih]
      by_cases hm : m = k
      · subst hm
        rw [plN_set noP_ok m hk, ht]
        simp
      · rw [plN_other _ _ _ hm, plN_no, if_neg (show ¬ thB (0, 0) = true by decide)]
        by_cases hlt : k < m
        · rw [if_pos hlt, if_pos (by omega)]; rfl
        · rw [if_neg hlt, if_neg (by omega)]; rfl
  rw [key, if_pos hk]

def one (k f r : Nat) : List Pl := noP.set k ((f : Int), (r : Int))
theorem one_at (k f r : Nat) (hk : k < 12) : atP (one k f r) k = ((f : Int), (r : Int)) := (atP_is hk).trans (plN_set noP_ok k hk _)
theorem one_set (k f r : Nat) (hk : k < 12) (hf : f < 32) (h0 : 0 < r) (h3 : r ≤ 3) : setE noP k ((f : Int), (r : Int)) = 0 ∧ setL noP k ((f : Int), (r : Int)) = one k f r ∧ setE (one k f r) k ((f : Int), (r : Int)) = 5 ∧ setL (one k f r) k ((f : Int), (r : Int)) = one k f r := by
  have hp : okB ((f : Int), (r : Int)) = true := by unfold okB; simp; omega
  have e1 : setE noP k ((f : Int), (r : Int)) = 0 := by rw [setE_is hk, if_pos hp, plN_no, if_neg (by decide)]
  have e2 : setE (one k f r) k ((f : Int), (r : Int)) = 5 := by rw [setE_is hk, if_pos hp, show plN (one k f r) k = _ from plN_set noP_ok k hk _, if_pos (th_ok hp)]
  refine ⟨e1, ?_, e2, ?_⟩
  · unfold setL; rw [if_pos e1]; rfl
  · unfold setL; rw [e2]; rfl
theorem rights_by (x y z : Nat) (k f r : Nat) (hx : x < 256) (hy : y < 256) (hz : z < 256) (ex : (x : Int) % 12 = k) (ey : (y : Int) % 32 = f) (ez : 1 + (z : Int) % 3 = r) (L : List Pl) (c0 c1 c2 : Int) (t8 : Bool) (h8 : decide ((k : Int) < 8) = t8) (ht8 : (c0 == 0) = t8)
    (ht1 : (bits .and .i64 (r : Int) 1 != 0) = (c1 == 0)) (ht2 : (bits .and .i64 (r : Int) 2 != 0) = (c2 == 0))
    (N1 : Hid (∀ W b, MAt W b noP → Calls Try.prog 10 #[.pointer (some ⟨b, 0, none⟩), .int .i64 k, .agg #[.int .i64 f, .int .i64 r]] W fun e w' => e = .returned (.int .i64 0) ∧ MAt w' b L ∧ W.grownBy w' (some b)))
    (N2 : Hid (∀ W b, MAt W b L → Calls Try.prog 10 #[.pointer (some ⟨b, 0, none⟩), .int .i64 k, .agg #[.int .i64 f, .int .i64 r]] W fun e w' => e = .returned (.int .i64 5) ∧ MAt w' b L ∧ W.grownBy w' (some b)))
    (A0 : Hid (∀ W b, MAt W b L → Calls Try.prog 17 #[.pointer (some ⟨b, 0, none⟩), .int .i64 k, .int .i64 0] W fun e w' => e = .returned (.int .i64 c0) ∧ Below W.heap.size W w'))
    (A1 : Hid (∀ W b, MAt W b L → Calls Try.prog 17 #[.pointer (some ⟨b, 0, none⟩), .int .i64 k, .int .i64 1] W fun e w' => e = .returned (.int .i64 c1) ∧ Below W.heap.size W w'))
    (A2 : Hid (∀ W b, MAt W b L → Calls Try.prog 17 #[.pointer (some ⟨b, 0, none⟩), .int .i64 k, .int .i64 2] W fun e w' => e = .returned (.int .i64 c2) ∧ Below W.heap.size W w'))
    (PG : Hid (∀ W b, MAt W b L → Calls Try.prog 15 #[.pointer (some ⟨b, 0, none⟩)] W fun e w' => ∃ a cap, e = .returned (.slice (some a) 1 cap) ∧ Hid (w'.cell? a = some (.int .i64 k) ∧ a.block < w'.heap.size) ∧ Below W.heap.size W w')) (w : World) :
    Calls Try.prog 5 #[.int .u8 x, .int .u8 y, .int .u8 z] w fun e w' => e = .returned (.bool true) ∧ Below w.heap.size w w' := by
  have HN : Hid (Blk (w.alloc (.cells #[.int .i64 f, .int .i64 r] 30)) w.heap.size 30 [.int .i64 f, .int .i64 r]) := Blk.new w _ _
  have HB := Lib.hid (box_below w f r)
  go_enter Try.func5, Try.ntmps5
  go_wp2_with fail
  generalize w.alloc (.cells #[.int .i64 f, .int .i64 r] 30) = U at HN HB ⊢
  obtain ⟨pb, hpb⟩ : ∃ pb, w.heap.size = pb := ⟨_, rfl⟩
  rw [hpb] at HN ⊢
  clear hpb
  refine (new_any U).mono ?_
  rintro e w1 ⟨rfl, hF, hb⟩
  have HF1 := Lib.hid hF
  have HNU := Lib.hid HN.out.lt
  have hn := HN.out.below hb HN.out.lt
  have HN1 := Lib.hid hn
  have n0 : w1.cell? ⟨pb, 0, none⟩ = some (.int .i64 f) := hn.cell rfl
  have n1 : w1.cell? ⟨pb, 1, none⟩ = some (.int .i64 r) := hn.cell rfl
  have HB1 := Lib.hid (HB.out.trans (hb.mono HB.out.size))
  have HMU : Hid (w.heap.size ≤ U.heap.size ∧ pb < U.heap.size) := Lib.hid ⟨HB.out.size, HN.out.lt⟩
  generalize U.heap.size = m at HF1 HMU ⊢
  clear hF hb hn HN HB HNU
  go_wp2_with fail
  clear n0 n1
  refine (N1.out w1 m HF1.out).mono ?_
  rintro e w2 ⟨rfl, hF, hg⟩
  have HF2 := Lib.hid hF
  have hn := HN1.out.kept hg (fun e => by injection e with e; have := HMU.out.2; omega)
  have HN2 := Lib.hid hn
  have n0 : w2.cell? ⟨pb, 0, none⟩ = some (.int .i64 f) := hn.cell rfl
  have n1 : w2.cell? ⟨pb, 1, none⟩ = some (.int .i64 r) := hn.cell rfl
  have HB2 := Lib.hid (below_of_grown HB1.out hg HB1.out.size HMU.out.1)
  clear hF hg hn HF1 HB1 HN1
  go_wp2_with fail
  clear n0 n1
  refine (N2.out w2 m HF2.out).mono ?_
  rintro e w3 ⟨rfl, hF, hg⟩
  have HF3 := Lib.hid hF
  have hn := HN2.out.kept hg (fun e => by injection e with e; have := HMU.out.2; omega)
  have n0 : w3.cell? ⟨pb, 0, none⟩ = some (.int .i64 f) := hn.cell rfl
  have n1 : w3.cell? ⟨pb, 1, none⟩ = some (.int .i64 r) := hn.cell rfl
  have n2 : pb < w3.heap.size := hn.lt
  have HB3 := Lib.hid (below_of_grown HB2.out hg HB2.out.size HMU.out.1)
  have HAL : Hid (∀ W, Below w3.heap.size w3 W → MAt W m L) := Lib.hid fun W h => hF.more h
  clear hF hg hn HF2 HB2 HN2
  go_upto_region 6 with fail
  apply wp_region_auto [39, 40, 41, 42, 43, 44, 45, 46, 47, 48, 49, 50, 51, 52, 53, 54, 55, 56, 57] [_, _, _, _, _, _, _, _, _, _, _, _, _, _, _, _, _, _, _] (fun W' => Below w3.heap.size w3 W')
  case hm => kernel_rfl
  case hT => intro y; simp only [setAll, List.setIfInBounds_toArray, List.set_cons_succ, List.set_cons_zero]; exact rfl
  case hok => kernel_rfl
  case hn => decide
  case hw => exact (Below.refl _ _).drew
  case hs =>
    refine auto_op 39 [] (by kernel_rfl) (fun y w' HW hd K hK => ?_) ?_
    · go_simp
      refine hK _ _ ?_ ?_ HW
      · simp [upd]
      · exact rfl
    refine auto_op 40 [] (by kernel_rfl) (fun y w' HW hd K hK => ?_) ?_
    · go_simp
      refine hK _ _ ?_ ?_ HW
      · simp [upd]
      · exact rfl
    refine auto_op 41 [0, 1] (by kernel_rfl) (fun y w' HW hd K hK => ?_) ?_
    · have e0 := hd_nth (hd 0 (by simp)) rfl
      have e1 := hd_nth (hd 1 (by simp)) rfl
      go_simp
      refine (A1.out _ m (HAL.out _ HW)).mono ?_
      rintro e w5 ⟨rfl, hb6⟩
      refine hK _ _ ?_ ?_ (HW.trans (hb6.mono HW.size))
      · simp [upd, e0, e1]
      · exact rfl
    refine auto_op 42 [2] (by kernel_rfl) (fun y w' HW hd K hK => ?_) ?_
    · have e2 := hd_nth (hd 2 (by simp)) rfl
      go_simp
      refine hK _ _ ?_ ?_ HW
      · simp [upd, e2]
      · exact rfl
    refine auto_op 43 [] (by kernel_rfl) (fun y w' HW hd K hK => ?_) ?_
    · go_simp
      refine hK _ _ ?_ ?_ HW
      · simp [upd]
      · exact rfl
    refine auto_op 44 [4] (by kernel_rfl) (fun y w' HW hd K hK => ?_) ?_
    · have e4 := hd_nth (hd 4 (by simp)) rfl
      have hcl : ∀ p : Addr, p.block < w3.heap.size → w'.cell? p = w3.cell? p := fun p hp => HW.cell hp
      go_simp
      refine hK _ _ ?_ ?_ HW
      · simp [upd, e4]
      · exact rfl
    refine auto_op 45 [5] (by kernel_rfl) (fun y w' HW hd K hK => ?_) ?_
    · have e5 := hd_nth (hd 5 (by simp)) rfl
      go_simp
      refine hK _ _ ?_ ?_ HW
      · simp [upd, e5]
      · exact rfl
    refine auto_op 46 [6] (by kernel_rfl) (fun y w' HW hd K hK => ?_) ?_
    · have e6 := hd_nth (hd 6 (by simp)) rfl
      go_simp
      refine hK _ _ ?_ ?_ HW
      · simp [upd, e6]
      · exact rfl
    refine auto_op 47 [3, 7] (by kernel_rfl) (fun y w' HW hd K hK => ?_) ?_
    · have e3 := hd_nth (hd 3 (by simp)) rfl
      have e7 := hd_nth (hd 7 (by simp)) rfl
      go_simp
      refine hK _ _ ?_ ?_ HW
      · simp [upd, e3, e7]
      · exact rfl
    refine auto_op 48 [8, 2] (by kernel_rfl) (fun y w' HW hd K hK => ?_) ?_
    · have e2 := hd_nth (hd 2 (by simp)) rfl
      have e8 := hd_nth (hd 8 (by simp)) rfl
      go_simp
      refine hK _ _ ?_ ?_ HW
      · simp [upd, e2, e8]
      · exact rfl
    refine auto_op 49 [9] (by kernel_rfl) (fun y w' HW hd K hK => ?_) ?_
    · have e9 := hd_nth (hd 9 (by simp)) rfl
      go_simp
      refine hK _ _ ?_ ?_ HW
      · simp [upd, e9]
      · exact rfl
    refine auto_op 50 [9] (by kernel_rfl) (fun y w' HW hd K hK => ?_) ?_
    · have e9 := hd_nth (hd 9 (by simp)) rfl
      go_simp
      refine hK _ _ ?_ ?_ HW
      · simp [upd, e9]
      · exact rfl
    refine auto_op 51 [10, 11, 9, 9] (by kernel_rfl) (fun y w' HW hd K hK => ?_) ?_
    · have e9 := hd_nth (hd 9 (by simp)) rfl
      have e10 := hd_nth (hd 10 (by simp)) rfl
      have e11 := hd_nth (hd 11 (by simp)) rfl
      go_simp
      refine (A2.out _ m (HAL.out _ HW)).mono ?_
      rintro e w5 ⟨rfl, hb6⟩
      refine hK _ _ ?_ ?_ (HW.trans (hb6.mono HW.size))
      · simp [upd, e9, e10, e11]
      · exact rfl
    refine auto_op 52 [12, 9] (by kernel_rfl) (fun y w' HW hd K hK => ?_) ?_
    · have e9 := hd_nth (hd 9 (by simp)) rfl
      have e12 := hd_nth (hd 12 (by simp)) rfl
      go_simp
      refine hK _ _ ?_ ?_ HW
      · simp [upd, e9, e12]
      · exact rfl
    refine auto_op 53 [9] (by kernel_rfl) (fun y w' HW hd K hK => ?_) ?_
    · have e9 := hd_nth (hd 9 (by simp)) rfl
      go_simp
      refine hK _ _ ?_ ?_ HW
      · simp [upd, e9]
      · exact rfl
    refine auto_op 54 [14, 9] (by kernel_rfl) (fun y w' HW hd K hK => ?_) ?_
    · have e9 := hd_nth (hd 9 (by simp)) rfl
      have e14 := hd_nth (hd 14 (by simp)) rfl
      have hcl : ∀ p : Addr, p.block < w3.heap.size → w'.cell? p = w3.cell? p := fun p hp => HW.cell hp
      go_simp
      refine hK _ _ ?_ ?_ HW
      · simp [upd, e9, e14]
      · exact rfl
    refine auto_op 55 [15, 9] (by kernel_rfl) (fun y w' HW hd K hK => ?_) ?_
    · have e9 := hd_nth (hd 9 (by simp)) rfl
      have e15 := hd_nth (hd 15 (by simp)) rfl
      go_simp
      refine hK _ _ ?_ ?_ HW
      · simp [upd, e9, e15]
      · exact rfl
    refine auto_op 56 [16, 9] (by kernel_rfl) (fun y w' HW hd K hK => ?_) ?_
    · have e9 := hd_nth (hd 9 (by simp)) rfl
      have e16 := hd_nth (hd 16 (by simp)) rfl
      go_simp
      refine hK _ _ ?_ ?_ HW
      · simp [upd, e9, e16]
      · exact rfl
    refine auto_op 57 [13, 17, 9] (by kernel_rfl) (fun y w' HW hd K hK => ?_) ?_
    · have e9 := hd_nth (hd 9 (by simp)) rfl
      have e13 := hd_nth (hd 13 (by simp)) rfl
      have e17 := hd_nth (hd 17 (by simp)) rfl
      go_simp
      refine hK _ _ ?_ ?_ HW
      · simp [upd, e9, e13, e17]
      · exact rfl
    refine auto_last fun y w' HW hd K hK => ?_
    have e0 := hd_nth (hd 0 (by omega)) rfl
    have e1 := hd_nth (hd 1 (by omega)) rfl
    have e2 := hd_nth (hd 2 (by omega)) rfl
    have e3 := hd_nth (hd 3 (by omega)) rfl
    have e4 := hd_nth (hd 4 (by omega)) rfl
    have e5 := hd_nth (hd 5 (by omega)) rfl
    have e6 := hd_nth (hd 6 (by omega)) rfl
    have e7 := hd_nth (hd 7 (by omega)) rfl
    have e8 := hd_nth (hd 8 (by omega)) rfl
    have e9 := hd_nth (hd 9 (by omega)) rfl
    have e10 := hd_nth (hd 10 (by omega)) rfl
    have e11 := hd_nth (hd 11 (by omega)) rfl
    have e12 := hd_nth (hd 12 (by omega)) rfl
    have e13 := hd_nth (hd 13 (by omega)) rfl
    have e14 := hd_nth (hd 14 (by omega)) rfl
    have e15 := hd_nth (hd 15 (by omega)) rfl
    have e16 := hd_nth (hd 16 (by omega)) rfl
    have e17 := hd_nth (hd 17 (by omega)) rfl
    have e18 := hd_nth (hd 18 (by omega)) rfl
    go_simp
    refine hK _ _ ?_
    clear hd hK K e0 e1 e2 e3 e4 e5 e6 e7 e8 e9 e10 e11 e12 e13 e14 e15 e16 e17 e18
    clear n0 n1 n2 ht1 ht2
    have HWW := Lib.hid HW
    clear HW
    go_wp2_with fail
    refine (PG.out w' m (HAL.out _ HWW.out)).mono ?_
    rintro e w4 ⟨pa, cap, rfl, HP, hb⟩
    have HB4 := Lib.hid (HWW.out.trans (hb.mono HWW.out.size))
    clear hb HWW
    go_wp2_with fail
    refine (A0.out w4 m (HAL.out _ HB4.out)).mono ?_
    rintro e w5 ⟨rfl, hb⟩
    have HB5 := Lib.hid (HB4.out.trans (hb.mono HB4.out.size))
    have p0 := (hb.cell (p := pa) HP.out.2).trans HP.out.1
    have p0' : w5.cell? (pa.add 0) = some (.int .i64 k) := p0
    clear hb HB4
    go_wp2_with fail
    clear p0 p0'
    refine (awake_any w5).mono ?_
    rintro e w6 ⟨rfl, hb⟩
    have HB6 := Lib.hid (HB3.out.trans ((HB5.out.trans (hb.mono HB5.out.size)).mono HB3.out.size))
    clear hb
    go_wp2
    go_ret
    exact ⟨rfl, HB6.out⟩
theorem rights_any (x y z : Nat) (hx : x < 256) (hy : y < 256) (hz : z < 256) (w : World) :
    Calls Try.prog 5 #[.int .u8 x, .int .u8 y, .int .u8 z] w fun e w' => e = .returned (.bool true) ∧ Below w.heap.size w w' := by
  obtain ⟨k, hk, ek⟩ : ∃ k : Nat, k < 12 ∧ (x : Int) % 12 = k := ⟨x % 12, by omega, by omega⟩
  obtain ⟨f, hf, ef⟩ : ∃ f : Nat, f < 32 ∧ (y : Int) % 32 = f := ⟨y % 32, by omega, by omega⟩
  obtain ⟨r, h0, h3, er⟩ : ∃ r : Nat, 0 < r ∧ r ≤ 3 ∧ 1 + (z : Int) % 3 = r := ⟨1 + z % 3, by omega, by omega, by omega⟩
  obtain ⟨s1, s2, s3, s4⟩ := one_set k f r hk hf h0 h3
  have ha := one_at k f r hk
  have hu : upto (one k f r) 12 = [(k : Int)] := upto_one k f r hk h0
  generalize one k f r = L at s2 s3 s4 ha hu
  have hth : thB ((f : Int), (r : Int)) = true := by unfold thB; simp; omega
  refine rights_by x y z k f r hx hy hz ek ef er L (alwF (atP L k) k 0) (alwF (atP L k) k 1) (alwF (atP L k) k 2) (decide ((k : Int) < 8)) rfl ?_ ?_ ?_ (Lib.hid fun W b h => set_any b noP L k 0 _ s1 s2 W h) (Lib.hid fun W b h => set_any b L L k 5 _ s3 s4 W h) (Lib.hid fun W b h => allows_any b L k 0 _ rfl W h) (Lib.hid fun W b h => allows_any b L k 1 _ rfl W h) (Lib.hid fun W b h => allows_any b L k 2 _ rfl W h) (Lib.hid fun W b h => ?_) w
  · rw [ha]
    unfold alwF
    rw [if_pos hth]
    unfold mayB
    rw [if_pos rfl]
    by_cases h : (k : Int) < 8
    · simp [h]
    · simp [h]
  · rw [ha]
    unfold alwF
    rw [if_pos hth]
    obtain rfl | rfl | rfl : r = 1 ∨ r = 2 ∨ r = 3 := by omega
    all_goals rfl
  · rw [ha]
    unfold alwF
    rw [if_pos hth]
    obtain rfl | rfl | rfl : r = 1 ∨ r = 2 ∨ r = 3 := by omega
    all_goals rfl
  · refine (pages_any b L W h).mono fun e w' h => ?_
    obtain ⟨a, n, cap, he, hr, hb⟩ := h
    have hr2 := hr.out
    rw [hu] at hr2
    obtain rfl : 1 = n := hr2.1
    obtain ⟨y, rfl, hy, hc⟩ := hr2.2 0 (by omega)
    exact ⟨y, cap, he, Lib.hid ⟨hc, hy⟩, hb⟩
end Go.Proofs.Ytehjcnannagefaa.Gm
