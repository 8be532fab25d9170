/- The walk of hermitagelaw03.PartsAll. -/
import Derived.Test.YtpoelobljklgpaaPu
import Derived.Deep.DeepCutAuto
import Derived.Deep.CutBlock
import Derived.StillTailTactics
import Derived.Deep.QuietTactic
import Derived.BigQuiet
namespace Go.Proofs.Ytpoelobljklgpaa.Pt
open Go.RowKit Ut
set_option linter.unusedVariables false

set_option maxRecDepth 100000 in
set_option maxHeartbeats 4000000 in
theorem all_any (n : Int) (a b c : Option Addr) (n1 c1 n2 c2 n3 c3 : Nat) (fs ms os : List Int) (w : World) (hn0 : 0 ≤ n) (hn1 : n < 256) (h1 : RowK .i64 w w.heap.size a n1 fs) (h2 : RowK .i64 w w.heap.size b n2 ms) (h3 : RowK .i64 w w.heap.size c n3 os)
    (hm : ∀ z ∈ ms, -9223372036854775808 ≤ z ∧ z < 9223372036854775808) :
    Calls Try.prog 5 #[.int .u8 n, .slice a n1 c1, .slice b n2 c2, .slice c n3 c3] w fun e w' => e = .returned (.bool true) ∧ Below w.heap.size w w' := by
  have H1 := Lib.hid h1
  have H2 := Lib.hid h2
  have H3 := Lib.hid h3
  have HM := Lib.hid hm
  clear h1 h2 h3 hm
  obtain ⟨K, hK⟩ : ∃ K : Nat, n % 65 = (K : Int) := ⟨(n % 65).toNat, by omega⟩
  have hK64 : K ≤ 64 := by omega
  go_enter Try.func5, Try.ntmps5
  go_wp2_with fail
  refine (tab_new K _ hK64).mono ?_
  rintro e w1 ⟨bt, rfl, hT, hbt, hb1⟩
  have HT := Lib.hid hT
  clear hT hK
  go_upto_block 0 with fail
  go_cut [12] (fun _ wx => ∃ L, Tab wx bt L ∧ Okay L ∧ L.length = K ∧ Below w.heap.size w wx)
  case first =>
    go_wp2
    go_loopw [12] (fun i wr => ∃ (k : Nat) (L : List Int), i = .int .i64 k ∧ k ≤ 60 ∧ Tab wr bt L ∧ Okay L ∧ L.length = K ∧ Below w.heap.size w wr) (fun i _ => 60 - (intOf i).toNat)
    case atStart => exact ⟨0, _, rfl, by omega, HT.out, rep_okay K hK64, by simp, hb1⟩
    case round =>
      obtain ⟨k, L, rfl, hk, hTL, hOL, hLK, hb⟩ := hrel
      have HTL := Lib.hid hTL
      have HOL := Lib.hid hOL
      have HLK := Lib.hid hLK
      clear hTL hOL hLK
      by_cases k1 : k < n1
      · by_cases k2 : k < n2
        · by_cases k3 : k < n3
          · by_cases k4 : k < 60
            · obtain ⟨x, rfl, _, hx⟩ := (H1.out.below hb).2 k k1
              obtain ⟨y, rfl, _, hy⟩ := (H2.out.below hb).2 k k2
              obtain ⟨z, rfl, _, hz⟩ := (H3.out.below hb).2 k k3
              have hmb := HM.out (ms.getD k 0) (by
                have hlt : k < ms.length := by rw [H2.out.1]; exact k2
                rw [List.getD_eq_getElem?_getD, List.getElem?_eq_getElem hlt]
                exact List.getElem_mem hlt)
              obtain ⟨f, hf⟩ : ∃ f, f = fs.getD k 0 := ⟨_, rfl⟩
              obtain ⟨m, hm⟩ : ∃ m, m = ms.getD k 0 := ⟨_, rfl⟩
              obtain ⟨o, ho⟩ : ∃ o, o = os.getD k 0 := ⟨_, rfl⟩
              rw [← hf] at hx
              rw [← hm] at hy hmb
              rw [← ho] at hz
              clear hf hm ho
              have b0 : (0 : Int) ≤ (k : Int) := by omega
              have b1 : (k : Int) < (n1 : Int) := by omega
              have b2 : (k : Int) < (n2 : Int) := by omega
              have b3 : (k : Int) < (n3 : Int) := by omega
              go_wp2
              go_still_tail 13, (by kernel_rfl)
              change wpList _ _ _ _ _ wr.drew
              have HTd : Hid (Tab wr.drew bt L) := HTL
              have hbd : Below w.heap.size w wr.drew := hb.drew
              obtain ⟨W2, hW2⟩ : ∃ W2, wr.drew = W2 := ⟨_, rfl⟩
              rw [hW2] at HTd hbd ⊢
              clear hW2
              go_wp2_with fail
              refine (tab_give HTd.out HOL.out f m o hmb).mono ?_
              rintro e w3 ⟨rfl, hT3, hg3⟩
              have HT3 := Lib.hid hT3
              have hb3 := hbd.grown hg3 hbd.size (fun q e => by injection e with e; omega)
              clear hT3
              go_wp2
              go_roundw
              case rel => exact ⟨k + 1, giveL L f m o, by go_num, by omega, HT3.out, (giveL_okay HOL.out f m o).1, by rw [(giveL_okay HOL.out f m o).2]; exact HLK.out, hb3⟩
              case measure => simp [intOf]; omega
            · have d4 : ¬ (k : Int) < 60 := by omega
              go_wp2
              go_meet
              exact ⟨L, HTL.out, HOL.out, HLK.out, hb⟩
          · have d3 : ¬ (k : Int) < (n3 : Int) := by omega
            go_wp2
            go_meet
            exact ⟨L, HTL.out, HOL.out, HLK.out, hb⟩
        · have d2 : ¬ (k : Int) < (n2 : Int) := by omega
          go_wp2
          go_meet
          exact ⟨L, HTL.out, HOL.out, HLK.out, hb⟩
      · have d1 : ¬ (k : Int) < (n1 : Int) := by omega
        go_wp2
        go_meet
        exact ⟨L, HTL.out, HOL.out, HLK.out, hb⟩
  case rest =>
    obtain ⟨L, hTL, hOL, hLK, hb⟩ := hcut
    have HTL := Lib.hid hTL
    have HOL := Lib.hid hOL
    have HLK := Lib.hid hLK
    clear hTL hOL hLK
    go_wp2_with fail
    refine (tab_runs HTL.out HOL.out).mono ?_
    rintro e w4 ⟨v, rs, rfl, hnm, ho, hb4⟩
    have HNm := Lib.hid hnm
    have hKr : rs.length ≤ K := by have h1 := nm_length hnm; have h2 := HLK.out; omega
    have hb5 := hb.trans (hb4.mono hb.size)
    have hT4 := HTL.out.below hb4
    have HT4 := Lib.hid hT4
    have hro := ho.row
    have hcell : (∃ g cap, v = .slice (some ⟨g, 0, none⟩) rs.length cap ∧ rs.length ≤ cap ∧ cap ≤ 9223372036854775807 ∧ g < w4.heap.size ∧ ∀ i, i < rs.length → CellsAt w4 g i (rs.getD i default)) ∨ (v = .slice none 0 0 ∧ rs = []) := by
      rcases hro with ⟨h1, h2⟩ | ⟨g, cap, h1, h2, h3, h4, h5⟩
      · exact .inr ⟨h1, h2⟩
      · exact .inl ⟨g, cap, h1, h2, by unfold maxLen at h3; omega, h4, h5⟩
    have hpos0 : posOf rs K 0 = 0 := by
      unfold posOf
      by_cases h0 : 0 < rs.length
      · rw [if_pos h0]
        obtain ⟨a, m, e1, _, _, _, _, _, e7, _⟩ := fw_at hnm 0 h0
        rw [e1, (e7 rfl).1]; rfl
      · rw [if_neg h0]
        have : rs = [] := List.length_eq_zero_iff.1 (by omega)
        subst this
        have hL0 : L = [] := hnm
        have := HLK.out
        rw [hL0] at this
        simp at this
        omega
    have HP0 := Lib.hid hpos0
    clear hnm ho hT4 hro hpos0
    rcases hcell with ⟨g, cap, rfl, hl1, hl2, hg, hcs⟩ | ⟨rfl, hnil⟩
    · obtain ⟨len, hlen⟩ : ∃ len, len = rs.length := ⟨_, rfl⟩
      rw [← hlen] at hl1 hcs hKr ⊢
      have HC := Lib.hid hcs
      have HLen := Lib.hid hlen
      clear hcs hlen
      go_wp2
      go_loopw [14, 15] (fun t i wr => ∃ (k : Nat) (pos : Int), k ≤ len ∧ i = .int .i64 k ∧ t = .int .i64 pos ∧ Hid (pos = posOf rs K k) ∧ Below w4.heap.size w4 wr) (fun _ i _ => len - (intOf i).toNat)
      case atStart => exact ⟨0, 0, Nat.zero_le _, rfl, rfl, HP0.out.symm, Below.refl _ _⟩
      case round =>
        obtain ⟨k, pos, hk, rfl, rfl, hpos, hbw⟩ := hrel
        by_cases hlt : k < len
        · obtain ⟨a', m, e1, e2, e3, e4, e5, e6, e7, e8, e9⟩ := fw_at HNm.out k (by have := HLen.out; omega)
          obtain ⟨d1, d2, d3⟩ := (HC.out k hlt).below hg hbw
          have hLen' : K = L.length := HLK.out.symm
          have hpa : pos = (a' : Int) := by
            rw [hpos.out]
            unfold posOf
            rw [if_pos (by have := HLen.out; omega), e1]
            omega
          obtain ⟨u, hu⟩ : ∃ u, u = (rs.getD k default).w := ⟨_, rfl⟩
          rw [e1, show ((0 : Nat) : Int) + (a' : Int) = (a' : Int) by omega] at d1
          rw [e2] at d2
          rw [← hu] at d3 e5
          have hwho := who_at (L := L) (a := a') (u := u) (by omega) (e5 a' (by omega) (by omega))
          have HWho := Lib.hid hwho
          have hnext : (a' : Int) + (m : Int) = posOf rs K (k + 1) := by
            unfold posOf
            by_cases c : k + 1 < rs.length
            · rw [if_pos c, e8 c]; omega
            · rw [if_neg c]
              have := e9 (by have := HLen.out; omega)
              omega
          have HNe := Lib.hid hnext
          have hma : (a' : Int) + (m : Int) ≤ (K : Int) := by omega
          have hwr : IntKind.i64.wrap ((K : Int) - (a' : Int)) = (K : Int) - (a' : Int) := IntWalk.i64_in _ (by omega)
          have t1 : decide ((m : Int) < 1) = false := decide_eq_false (by omega)
          have t2 : decide ((K : Int) - (a' : Int) < (m : Int)) = false := decide_eq_false (by omega)
          have b0 : (0 : Int) ≤ (k : Int) := by omega
          have b1 : (k : Int) < (len : Int) := by omega
          subst hpa
          have HT5 : Hid (Tab wr bt L) := Lib.hid (HT4.out.below hbw)
          have H6 := Lib.hid e6
          clear e1 e2 e4 e5 e6 e7 e8 e9 hwho hnext hLen' hpos
          by_cases k0 : k = 0
          · subst k0
            have hi0 : decide ((0 : Int) < ((0 : Nat) : Int)) = false := by decide
            clear hu H6
            go_wp2
            go_quiet (fail)
            have HT6 : Hid (Tab (wr.drewN nq) bt L) := HT5
            have hbW : Below w4.heap.size w4 (wr.drewN nq) := ⟨hbw.os, hbw.tape, hbw.output, hbw.size, hbw.block⟩
            have f1 : (wr.drewN nq).cell? ⟨g, 0 * 3 + 1, none⟩ = some (.int .i64 m) := d2
            have f2 : (wr.drewN nq).cell? ⟨g, 0 * 3 + 2, none⟩ = some (.int .i64 u) := d3
            have hgW : g < (wr.drewN nq).heap.size := Nat.lt_of_lt_of_le hg hbw.size
            obtain ⟨WW, hWW⟩ : ∃ WW, wr.drewN nq = WW := ⟨_, rfl⟩
            rw [hWW] at HT6 hbW f1 f2 hgW ⊢
            clear hWW d1 d2 d3
            by_cases hu0 : 0 ≤ u
            · have hu0' : decide (0 ≤ u) = true := decide_eq_true hu0
              have hw1 : Calls Try.prog 12 #[.pointer (some ⟨bt, 0, none⟩), .int .i64 a'] WW fun e W' => e = .returned (.tuple #[.int .i64 u, .bool true]) ∧ Below WW.heap.size WW W' := by
                have h := tab_who HT6.out HOL.out (a' : Int)
                rwa [HWho.out.1, HWho.out.2, hu0', if_pos hu0] at h
              have HW1 := Lib.hid hw1
              clear hw1
              go_wp2_with fail
              refine HW1.out.mono ?_
              rintro e w6 ⟨rfl, hb6⟩
              have f1 := (hb6.cell (p := ⟨g, 0 * 3 + 1, none⟩) hgW).trans f1
              have f2 := (hb6.cell (p := ⟨g, 0 * 3 + 2, none⟩) hgW).trans f2
              have hb7 := hbW.trans (hb6.mono hbW.size)
              go_wp2
              go_roundw
              case rel => exact ⟨0 + 1, (a' : Int) + (m : Int), by omega, by go_num, rfl, HNe.out, hb7⟩
              case measure => simp [intOf]; omega
            · have hu0' : decide (0 ≤ u) = false := decide_eq_false hu0
              have hw1 : Calls Try.prog 12 #[.pointer (some ⟨bt, 0, none⟩), .int .i64 a'] WW fun e W' => e = .returned (.tuple #[.int .i64 0, .bool false]) ∧ Below WW.heap.size WW W' := by
                have h := tab_who HT6.out HOL.out (a' : Int)
                rwa [HWho.out.1, HWho.out.2, hu0', if_neg hu0] at h
              have HW1 := Lib.hid hw1
              clear hw1
              go_wp2_with fail
              refine HW1.out.mono ?_
              rintro e w6 ⟨rfl, hb6⟩
              have f1 := (hb6.cell (p := ⟨g, 0 * 3 + 1, none⟩) hgW).trans f1
              have f2 := (hb6.cell (p := ⟨g, 0 * 3 + 2, none⟩) hgW).trans f2
              have hb7 := hbW.trans (hb6.mono hbW.size)
              go_wp2
              go_roundw
              case rel => exact ⟨0 + 1, (a' : Int) + (m : Int), by omega, by go_num, rfl, HNe.out, hb7⟩
              case measure => simp [intOf]; omega
          · obtain ⟨j, rfl⟩ : ∃ j, k = j + 1 := ⟨k - 1, by omega⟩
            obtain ⟨g1, g2, g3⟩ := (HC.out j (by omega)).below hg hbw
            have hne := H6.out j rfl
            obtain ⟨u', hu'⟩ : ∃ u', u' = (rs.getD j default).w := ⟨_, rfl⟩
            rw [← hu'] at g3 hne
            rw [← hu] at hne
            have hne1 : (u == u') = false := by simpa using hne
            have hwj : IntKind.i64.wrap ((j : Int) + 1 - 1) = (j : Int) := by rw [IntWalk.i64_in _ (by omega)]; omega
            have hj0 : (0 : Int) ≤ (j : Int) := by omega
            have hj1 : (j : Int) < (len : Int) := by omega
            have hj2 : (0 : Int) ≤ (j : Int) + 1 := by omega
            have hj3 : (j : Int) + 1 < (len : Int) := by omega
            have hj4 : decide ((0 : Int) < (j : Int) + 1) = true := decide_eq_true (by omega)
            have hj5 : ((j : Int) + 1).toNat = j + 1 := by omega
            clear hu hu' hne k0
            go_wp2
            go_quiet (fail)
            have HT6 : Hid (Tab (wr.drewN nq) bt L) := HT5
            have hbW : Below w4.heap.size w4 (wr.drewN nq) := ⟨hbw.os, hbw.tape, hbw.output, hbw.size, hbw.block⟩
            have f1 : (wr.drewN nq).cell? ⟨g, (j + 1) * 3 + 1, none⟩ = some (.int .i64 m) := d2
            have f2 : (wr.drewN nq).cell? ⟨g, (j + 1) * 3 + 2, none⟩ = some (.int .i64 u) := d3
            have hgW : g < (wr.drewN nq).heap.size := Nat.lt_of_lt_of_le hg hbw.size
            obtain ⟨WW, hWW⟩ : ∃ WW, wr.drewN nq = WW := ⟨_, rfl⟩
            rw [hWW] at HT6 hbW f1 f2 hgW ⊢
            clear hWW d1 d2 d3
            by_cases hu0 : 0 ≤ u
            · have hu0' : decide (0 ≤ u) = true := decide_eq_true hu0
              have hw1 : Calls Try.prog 12 #[.pointer (some ⟨bt, 0, none⟩), .int .i64 a'] WW fun e W' => e = .returned (.tuple #[.int .i64 u, .bool true]) ∧ Below WW.heap.size WW W' := by
                have h := tab_who HT6.out HOL.out (a' : Int)
                rwa [HWho.out.1, HWho.out.2, hu0', if_pos hu0] at h
              have HW1 := Lib.hid hw1
              clear hw1
              go_wp2_with fail
              refine HW1.out.mono ?_
              rintro e w6 ⟨rfl, hb6⟩
              have f1 := (hb6.cell (p := ⟨g, (j + 1) * 3 + 1, none⟩) hgW).trans f1
              have f2 := (hb6.cell (p := ⟨g, (j + 1) * 3 + 2, none⟩) hgW).trans f2
              have hb7 := hbW.trans (hb6.mono hbW.size)
              go_wp2
              go_roundw
              case rel => exact ⟨(j + 1) + 1, (a' : Int) + (m : Int), by omega, by go_num, rfl, HNe.out, hb7⟩
              case measure => simp [intOf]; omega
            · have hu0' : decide (0 ≤ u) = false := decide_eq_false hu0
              have hw1 : Calls Try.prog 12 #[.pointer (some ⟨bt, 0, none⟩), .int .i64 a'] WW fun e W' => e = .returned (.tuple #[.int .i64 0, .bool false]) ∧ Below WW.heap.size WW W' := by
                have h := tab_who HT6.out HOL.out (a' : Int)
                rwa [HWho.out.1, HWho.out.2, hu0', if_neg hu0] at h
              have HW1 := Lib.hid hw1
              clear hw1
              go_wp2_with fail
              refine HW1.out.mono ?_
              rintro e w6 ⟨rfl, hb6⟩
              have f1 := (hb6.cell (p := ⟨g, (j + 1) * 3 + 1, none⟩) hgW).trans f1
              have f2 := (hb6.cell (p := ⟨g, (j + 1) * 3 + 2, none⟩) hgW).trans f2
              have hb7 := hbW.trans (hb6.mono hbW.size)
              go_wp2
              go_roundw
              case rel => exact ⟨(j + 1) + 1, (a' : Int) + (m : Int), by omega, by go_num, rfl, HNe.out, hb7⟩
              case measure => simp [intOf]; omega
        · have hkn : k = len := by omega
          have hpK : pos = (K : Int) := by
            rw [hpos.out]
            unfold posOf
            rw [if_neg (by have := HLen.out; omega)]
          subst hkn
          subst hpK
          have b1 : ¬ (k : Int) < (k : Int) := by omega
          have hb8 := hb5.trans (hbw.mono hb5.size)
          go_wp2_with (go_at_call 9; refine (awake_keep (Nat.le_refl _) hb8).mono ?_; rintro e w9 ⟨rfl, hb9⟩)
          go_ret
          exact ⟨rfl, hb9⟩
    · subst hnil
      have hK0 : K = 0 := by
        have hL0 : L = [] := HNm.out
        have := HLK.out
        rw [hL0] at this
        simp at this
        omega
      subst hK0
      go_wp2
      go_loopw [14, 15] (fun t i wr => i = .int .i64 0 ∧ t = .int .i64 0 ∧ Below w4.heap.size w4 wr) (fun _ i _ => 0)
      case atStart => exact ⟨rfl, rfl, Below.refl _ _⟩
      case round =>
        obtain ⟨rfl, rfl, hbw⟩ := hrel
        have hb8 := hb5.trans (hbw.mono hb5.size)
        go_wp2_with (go_at_call 9; refine (awake_keep (Nat.le_refl _) hb8).mono ?_; rintro e w9 ⟨rfl, hb9⟩)
        go_ret
        exact ⟨rfl, hb9⟩
end Go.Proofs.Ytpoelobljklgpaa.Pt
