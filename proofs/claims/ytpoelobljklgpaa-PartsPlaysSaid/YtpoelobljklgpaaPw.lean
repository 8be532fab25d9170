/- The walk of hermitagelaw03.PartsPlays. -/
import Derived.Test.YtpoelobljklgpaaPu
import Derived.Deep.DeepCutAuto
import Derived.Deep.CutBlock
import Derived.StillTailTactics
import Derived.Deep.QuietTactic
import Derived.BigQuiet
namespace Go.Proofs.Ytpoelobljklgpaa.Pt
open Go.RowKit Ut
set_option linter.unusedVariables false

set_option maxRecDepth 100000 in
set_option maxHeartbeats 4000000 in
theorem plays_any (n : Int) (a b c : Option Addr) (n1 c1 n2 c2 n3 c3 : Nat) (fs ms os : List Int) (w : World) (hn : -9223372036854775808 ≤ n ∧ n < 9223372036854775808) (h1 : RowK .i64 w w.heap.size a n1 fs) (h2 : RowK .i64 w w.heap.size b n2 ms) (h3 : RowK .i64 w w.heap.size c n3 os)
    (hm : ∀ z ∈ ms, -9223372036854775808 ≤ z ∧ z < 9223372036854775808) :
    Calls Try.prog 3 #[.int .i64 n, .slice a n1 c1, .slice b n2 c2, .slice c n3 c3] w fun e w' => e = .returned (.bool true) ∧ Below w.heap.size w w' := by
  have H1 := Lib.hid h1
  have H2 := Lib.hid h2
  have H3 := Lib.hid h3
  have HM := Lib.hid hm
  clear h1 h2 h3 hm
  have hn0 := Lib.hid hn
  clear hn
  by_cases hbad : n < 0 ∨ 64 < n
  · have hB := Lib.hid hbad
    clear hbad
    go_enter Try.func3, Try.ntmps3
    go_wp2_with (first | (go_at_call 7; refine (new_no n _ hB.out).mono ?_; rintro e w1 ⟨rfl, rfl⟩) | (go_at_call 8; refine (refNew_no n _ hB.out).mono ?_; rintro e w2 ⟨rfl, rfl⟩) | (go_at_call 9; refine (awake_keep (Nat.le_refl _) (Below.refl _ _)).mono ?_; rintro e w9 ⟨rfl, hb9⟩))
    go_ret
    exact ⟨rfl, hb9⟩
  · obtain ⟨KK, hKK⟩ : ∃ KK : Nat, n = (KK : Int) := ⟨n.toNat, by omega⟩
    subst hKK
    have hK64 : KK ≤ 64 := by omega
    clear hbad
    go_enter Try.func3, Try.ntmps3
    go_wp2_with fail
    refine (tab_new KK _ hK64).mono ?_
    rintro e w1 ⟨bt, rfl, hT, hbt, hb1⟩
    have HT := Lib.hid hT
    clear hT
    go_wp2_with fail
    refine (refNew_yes KK _ hK64).mono ?_
    rintro e w2 ⟨rfl, hR, hb2⟩
    have HR := Lib.hid hR
    obtain ⟨br, hbr⟩ : ∃ br, br = w1.heap.size := ⟨_, rfl⟩
    rw [← hbr] at HR ⊢
    have hT2 := HT.out.below hb2
    have HT2 := Lib.hid hT2
    have hbrw : w.heap.size ≤ br := by rw [hbr]; exact hb1.size
    have hb12 := hb1.trans (hb2.mono hb1.size)
    clear HT hT2 hR hbr hb1 hb2
    go_wp2
    go_loopw [13] (fun i wr => ∃ (k : Nat) (X : List Int), i = .int .i64 k ∧ k ≤ 80 ∧ Tab wr bt X ∧ RefAt wr br X ∧ Okay X ∧ Below w.heap.size w wr) (fun i _ => 80 - (intOf i).toNat)
    case atStart => exact ⟨0, _, rfl, by omega, HT2.out, HR.out, rep_okay KK hK64, hb12⟩
    case round =>
      clear HT2 HR hb12 hK64
      obtain ⟨k, X, rfl, hk, hTX, hRX, hOX, hb⟩ := hrel
      have HTX := Lib.hid hTX
      have HRX := Lib.hid hRX
      have HOX := Lib.hid hOX
      clear hTX hRX hOX
      by_cases k1 : k < n1
      · by_cases k2 : k < n2
        · by_cases k3 : k < n3
          · by_cases k4 : k < 80
            · obtain ⟨gx, rfl, px, hx⟩ := H1.out.2 k k1
              obtain ⟨gy, rfl, py, hy⟩ := H2.out.2 k k2
              obtain ⟨gz, rfl, pz, hz⟩ := H3.out.2 k k3
              have hmb := HM.out (ms.getD k 0) (by
                have hlt : k < ms.length := by rw [H2.out.1]; exact k2
                rw [List.getD_eq_getElem?_getD, List.getElem?_eq_getElem hlt]
                exact List.getElem_mem hlt)
              obtain ⟨f, hf⟩ : ∃ f, f = fs.getD k 0 := ⟨_, rfl⟩
              obtain ⟨m, hm⟩ : ∃ m, m = ms.getD k 0 := ⟨_, rfl⟩
              obtain ⟨o, ho⟩ : ∃ o, o = os.getD k 0 := ⟨_, rfl⟩
              rw [← hf] at hx
              rw [← hm] at hy hmb
              rw [← ho] at hz
              clear hf hm ho
              have HX : Hid (∀ W', Below w.heap.size w W' → W'.cell? (gx.add k) = some (.int .i64 f)) := Lib.hid fun W' h => (h.cell (p := gx.add k) (by rw [block_of_add]; exact px)).trans hx
              have HY : Hid (∀ W', Below w.heap.size w W' → W'.cell? (gy.add k) = some (.int .i64 m)) := Lib.hid fun W' h => (h.cell (p := gy.add k) (by rw [block_of_add]; exact py)).trans hy
              have HZ : Hid (∀ W', Below w.heap.size w W' → W'.cell? (gz.add k) = some (.int .i64 o)) := Lib.hid fun W' h => (h.cell (p := gz.add k) (by rw [block_of_add]; exact pz)).trans hz
              clear hx hy hz px py pz
              have b0 : (0 : Int) ≤ (k : Int) := by omega
              have b1 : (k : Int) < (n1 : Int) := by omega
              have b2 : (k : Int) < (n2 : Int) := by omega
              have b3 : (k : Int) < (n3 : Int) := by omega
              go_wp2
              rw [show decide ((k : Int) < 80) = true from decide_eq_true (by omega)]
              refine wp_region_by (by kernel_rfl)
                (fun y => #[.int .i64 KK, .slice (some gx) n1 c1, .slice (some gy) n2 c2, .slice (some gz) n3 c3, undef, undef, undef, undef, u8, .pointer (some ⟨bt, 0, none⟩), .int .i64 0, .pointer (some ⟨br, 0, none⟩), .int .i64 0, .int .i64 k, u14, u15, u16, u17, .tuple #[.pointer (some ⟨bt, 0, none⟩), .int .i64 0], .int .i64 KK, .tuple #[.pointer (some ⟨bt, 0, none⟩), .int .i64 0], .pointer (some ⟨bt, 0, none⟩), .int .i64 0, .tuple #[.pointer (some ⟨br, 0, none⟩), .int .i64 0], .int .i64 KK, .tuple #[.pointer (some ⟨br, 0, none⟩), .int .i64 0], .pointer (some ⟨br, 0, none⟩), .int .i64 0, .int .i64 0, .int .i64 0, .bool false, .bool false, .pointer (some ⟨bt, 0, none⟩), .bool false, .pointer (some ⟨br, 0, none⟩), .bool false, .bool false, .bool false, .pointer (some ⟨br, 0, none⟩), .bool false, undef, .int .i64 k, .slice (some gx) n1 c1, .int .i64 n1, .bool true, .bool true, .int .i64 k, .slice (some gy) n2 c2, .int .i64 n2, .bool true, .bool true, .bool true, .int .i64 k, .slice (some gz) n3 c3, .int .i64 n3, .bool true, .bool true, .bool true, .int .i64 k, .bool true, .bool true, u61, u62, y 0, y 1, y 2, y 3, y 4, y 5, y 6, y 7, y 8, y 9, y 10, y 11, y 12, y 13, y 14, y 15, y 16, y 17, y 18, y 19, y 20, y 21, y 22, y 23, y 24, y 25, y 26, y 27, u91, u92, u93, u94, u95, u96, u97, u98, u99, u100, u101, u102, u103, u104, u105, u106, u107, u108, u109, u110, u111, u112, u113, u114, u115, u116, u117, u118, u119, u120, u121, u122, u123, u124, u125, u126, u127, u128, u129, u130, u131, u132, u133, u134, u135, u136, u137, u138, u139, u140, u141, u142, u143, u144, u145, u146, u147, u148, u149, u150, u151, u152, u153, u154, u155, u156, u157, u158, undef])
                (fun j v _ => match j with | 0 => v = .pointer (some ⟨bt, 0, none⟩) | 1 => v = .slice (some gx) n1 c1 | 2 => v = .int .i64 k | 3 => v = .pointer (some (gx.add k)) | 4 => v = .int .i64 f | 5 => v = .slice (some gy) n2 c2 | 6 => v = .int .i64 k | 7 => v = .pointer (some (gy.add k)) | 8 => v = .int .i64 m | 9 => v = .slice (some gz) n3 c3 | 10 => v = .int .i64 k | 11 => v = .pointer (some (gz.add k)) | 12 => v = .int .i64 o | 13 => v = .int .i64 (giveE X f m o) | 14 => v = .pointer (some ⟨br, 0, none⟩) | 15 => v = .slice (some gx) n1 c1 | 16 => v = .int .i64 k | 17 => v = .pointer (some (gx.add k)) | 18 => v = .int .i64 f | 19 => v = .slice (some gy) n2 c2 | 20 => v = .int .i64 k | 21 => v = .pointer (some (gy.add k)) | 22 => v = .int .i64 m | 23 => v = .slice (some gz) n3 c3 | 24 => v = .int .i64 k | 25 => v = .pointer (some (gz.add k)) | 26 => v = .int .i64 o | 27 => v = .int .i64 (giveE X f m o) | _ => True)
                (fun L W' => Tab W' bt (cond (L 13) (giveL X f m o) X) ∧ RefAt W' br (cond (L 27) (giveL X f m o) X) ∧ Below w.heap.size w W') (fun _ _ _ => True) (by kernel_rfl) (by decide) (fun _ _ _ _ _ _ _ _ _ _ _ h => h) (fun j => match j with | 0 => u63 | 1 => u64 | 2 => u65 | 3 => u66 | 4 => u67 | 5 => u68 | 6 => u69 | 7 => u70 | 8 => u71 | 9 => u72 | 10 => u73 | 11 => u74 | 12 => u75 | 13 => u76 | 14 => u77 | 15 => u78 | 16 => u79 | 17 => u80 | 18 => u81 | 19 => u82 | 20 => u83 | 21 => u84 | 22 => u85 | 23 => u86 | 24 => u87 | 25 => u88 | 26 => u89 | 27 => u90 | _ => undef) rfl (fun L hL => by rw [hL 13 (by decide), hL 27 (by decide)]; exact ⟨HTX.out, HRX.out, hb.drew⟩) ?_
              refine steps_op [] (by kernel_rfl) (fun L y w' hL hcl HW hd K hK => ?_) ?_
              · go_simp
                exact hK _ _ _ (by simp [upd]) rfl HW trivial
              refine steps_op [] (by kernel_rfl) (fun L y w' hL hcl HW hd K hK => ?_) ?_
              · go_simp
                exact hK _ _ _ (by simp [upd]) rfl HW trivial
              refine steps_op [] (by kernel_rfl) (fun L y w' hL hcl HW hd K hK => ?_) ?_
              · go_simp
                exact hK _ _ _ (by simp [upd]) rfl HW trivial
              refine steps_op [1, 2] (by kernel_rfl) (fun L y w' hL hcl HW hd K hK => ?_) ?_
              · have e1 : y 1 = .slice (some gx) n1 c1 := hd 1 (by simp)
                have e2 : y 2 = .int .i64 k := hd 2 (by simp)
                go_simp
                exact hK _ _ _ (by simp [upd, e1, e2]) rfl HW trivial
              refine steps_op [3] (by kernel_rfl) (fun L y w' hL hcl HW hd K hK => ?_) ?_
              · have e3 : y 3 = .pointer (some (gx.add k)) := hd 3 (by simp)
                have c1 := HX.out _ HW.2.2
                go_simp
                exact hK _ _ _ (by simp [upd, e3]) rfl HW trivial
              refine steps_op [] (by kernel_rfl) (fun L y w' hL hcl HW hd K hK => ?_) ?_
              · go_simp
                exact hK _ _ _ (by simp [upd]) rfl HW trivial
              refine steps_op [] (by kernel_rfl) (fun L y w' hL hcl HW hd K hK => ?_) ?_
              · go_simp
                exact hK _ _ _ (by simp [upd]) rfl HW trivial
              refine steps_op [5, 6] (by kernel_rfl) (fun L y w' hL hcl HW hd K hK => ?_) ?_
              · have e5 : y 5 = .slice (some gy) n2 c2 := hd 5 (by simp)
                have e6 : y 6 = .int .i64 k := hd 6 (by simp)
                go_simp
                exact hK _ _ _ (by simp [upd, e5, e6]) rfl HW trivial
              refine steps_op [7] (by kernel_rfl) (fun L y w' hL hcl HW hd K hK => ?_) ?_
              · have e7 : y 7 = .pointer (some (gy.add k)) := hd 7 (by simp)
                have c1 := HY.out _ HW.2.2
                go_simp
                exact hK _ _ _ (by simp [upd, e7]) rfl HW trivial
              refine steps_op [] (by kernel_rfl) (fun L y w' hL hcl HW hd K hK => ?_) ?_
              · go_simp
                exact hK _ _ _ (by simp [upd]) rfl HW trivial
              refine steps_op [] (by kernel_rfl) (fun L y w' hL hcl HW hd K hK => ?_) ?_
              · go_simp
                exact hK _ _ _ (by simp [upd]) rfl HW trivial
              refine steps_op [9, 10] (by kernel_rfl) (fun L y w' hL hcl HW hd K hK => ?_) ?_
              · have e9 : y 9 = .slice (some gz) n3 c3 := hd 9 (by simp)
                have e10 : y 10 = .int .i64 k := hd 10 (by simp)
                go_simp
                exact hK _ _ _ (by simp [upd, e9, e10]) rfl HW trivial
              refine steps_op [11] (by kernel_rfl) (fun L y w' hL hcl HW hd K hK => ?_) ?_
              · have e11 : y 11 = .pointer (some (gz.add k)) := hd 11 (by simp)
                have c1 := HZ.out _ HW.2.2
                go_simp
                exact hK _ _ _ (by simp [upd, e11]) rfl HW trivial
              refine steps_op [0, 4, 8, 12] (by kernel_rfl) (fun L y w' hL hcl HW hd K hK => ?_) ?_
              · have e0 : y 0 = .pointer (some ⟨bt, 0, none⟩) := hd 0 (by simp)
                have e4 : y 4 = .int .i64 f := hd 4 (by simp)
                have e8 : y 8 = .int .i64 m := hd 8 (by simp)
                have e12 : y 12 = .int .i64 o := hd 12 (by simp)
                have HA := HW.1
                have HB := HW.2.1
                rw [hL] at HA
                go_simp
                refine (tab_give HA HOX.out f m o hmb).mono ?_
                rintro e W3 ⟨rfl, hT3, hg3⟩
                exact hK _ _ _ (by simp [upd, e0, e4, e8, e12]) rfl ⟨hT3, HB.kept hg3 (fun q e => by injection e with e; subst e; obtain ⟨cc, hcc⟩ := HA.block; exact ⟨cc, _, _, hcc, by decide, by decide⟩), HW.2.2.grown hg3 HW.2.2.size (fun q e => by injection e with e; omega)⟩ trivial
              refine steps_op [] (by kernel_rfl) (fun L y w' hL hcl HW hd K hK => ?_) ?_
              · go_simp
                exact hK _ _ _ (by simp [upd]) rfl HW trivial
              refine steps_op [] (by kernel_rfl) (fun L y w' hL hcl HW hd K hK => ?_) ?_
              · go_simp
                exact hK _ _ _ (by simp [upd]) rfl HW trivial
              refine steps_op [] (by kernel_rfl) (fun L y w' hL hcl HW hd K hK => ?_) ?_
              · go_simp
                exact hK _ _ _ (by simp [upd]) rfl HW trivial
              refine steps_op [15, 16] (by kernel_rfl) (fun L y w' hL hcl HW hd K hK => ?_) ?_
              · have e15 : y 15 = .slice (some gx) n1 c1 := hd 15 (by simp)
                have e16 : y 16 = .int .i64 k := hd 16 (by simp)
                go_simp
                exact hK _ _ _ (by simp [upd, e15, e16]) rfl HW trivial
              refine steps_op [17] (by kernel_rfl) (fun L y w' hL hcl HW hd K hK => ?_) ?_
              · have e17 : y 17 = .pointer (some (gx.add k)) := hd 17 (by simp)
                have c1 := HX.out _ HW.2.2
                go_simp
                exact hK _ _ _ (by simp [upd, e17]) rfl HW trivial
              refine steps_op [] (by kernel_rfl) (fun L y w' hL hcl HW hd K hK => ?_) ?_
              · go_simp
                exact hK _ _ _ (by simp [upd]) rfl HW trivial
              refine steps_op [] (by kernel_rfl) (fun L y w' hL hcl HW hd K hK => ?_) ?_
              · go_simp
                exact hK _ _ _ (by simp [upd]) rfl HW trivial
              refine steps_op [19, 20] (by kernel_rfl) (fun L y w' hL hcl HW hd K hK => ?_) ?_
              · have e19 : y 19 = .slice (some gy) n2 c2 := hd 19 (by simp)
                have e20 : y 20 = .int .i64 k := hd 20 (by simp)
                go_simp
                exact hK _ _ _ (by simp [upd, e19, e20]) rfl HW trivial
              refine steps_op [21] (by kernel_rfl) (fun L y w' hL hcl HW hd K hK => ?_) ?_
              · have e21 : y 21 = .pointer (some (gy.add k)) := hd 21 (by simp)
                have c1 := HY.out _ HW.2.2
                go_simp
                exact hK _ _ _ (by simp [upd, e21]) rfl HW trivial
              refine steps_op [] (by kernel_rfl) (fun L y w' hL hcl HW hd K hK => ?_) ?_
              · go_simp
                exact hK _ _ _ (by simp [upd]) rfl HW trivial
              refine steps_op [] (by kernel_rfl) (fun L y w' hL hcl HW hd K hK => ?_) ?_
              · go_simp
                exact hK _ _ _ (by simp [upd]) rfl HW trivial
              refine steps_op [23, 24] (by kernel_rfl) (fun L y w' hL hcl HW hd K hK => ?_) ?_
              · have e23 : y 23 = .slice (some gz) n3 c3 := hd 23 (by simp)
                have e24 : y 24 = .int .i64 k := hd 24 (by simp)
                go_simp
                exact hK _ _ _ (by simp [upd, e23, e24]) rfl HW trivial
              refine steps_op [25] (by kernel_rfl) (fun L y w' hL hcl HW hd K hK => ?_) ?_
              · have e25 : y 25 = .pointer (some (gz.add k)) := hd 25 (by simp)
                have c1 := HZ.out _ HW.2.2
                go_simp
                exact hK _ _ _ (by simp [upd, e25]) rfl HW trivial
              refine steps_op [14, 18, 22, 26, 13] (by kernel_rfl) (fun L y w' hL hcl HW hd K hK => ?_) ?_
              · have e13 : y 13 = .int .i64 (giveE X f m o) := hd 13 (by simp)
                have e14 : y 14 = .pointer (some ⟨br, 0, none⟩) := hd 14 (by simp)
                have e18 : y 18 = .int .i64 f := hd 18 (by simp)
                have e22 : y 22 = .int .i64 m := hd 22 (by simp)
                have e26 : y 26 = .int .i64 o := hd 26 (by simp)
                have HA := HW.1
                have HB := HW.2.1
                rw [hL] at HB
                go_simp
                refine (ref_give HB HOX.out f m o).mono ?_
                rintro e W3 ⟨rfl, hT3, hg3⟩
                exact hK _ _ _ (by simp [upd, e13, e14, e18, e22, e26]) rfl ⟨HA.kept hg3 (fun q e => by injection e with e; subst e; obtain ⟨cc, hcc⟩ := HB.block; exact ⟨cc, _, _, hcc, by decide, by decide⟩), hT3, HW.2.2.grown hg3 HW.2.2.size (fun q e => by injection e with e; omega)⟩ trivial
              refine steps_last fun L y w' hL hLs HW hd K hK => ?_
              have e0 : y 0 = .pointer (some ⟨bt, 0, none⟩) := hd 0 (by omega)
              have e1 : y 1 = .slice (some gx) n1 c1 := hd 1 (by omega)
              have e2 : y 2 = .int .i64 k := hd 2 (by omega)
              have e3 : y 3 = .pointer (some (gx.add k)) := hd 3 (by omega)
              have e4 : y 4 = .int .i64 f := hd 4 (by omega)
              have e5 : y 5 = .slice (some gy) n2 c2 := hd 5 (by omega)
              have e6 : y 6 = .int .i64 k := hd 6 (by omega)
              have e7 : y 7 = .pointer (some (gy.add k)) := hd 7 (by omega)
              have e8 : y 8 = .int .i64 m := hd 8 (by omega)
              have e9 : y 9 = .slice (some gz) n3 c3 := hd 9 (by omega)
              have e10 : y 10 = .int .i64 k := hd 10 (by omega)
              have e11 : y 11 = .pointer (some (gz.add k)) := hd 11 (by omega)
              have e12 : y 12 = .int .i64 o := hd 12 (by omega)
              have e13 : y 13 = .int .i64 (giveE X f m o) := hd 13 (by omega)
              have e14 : y 14 = .pointer (some ⟨br, 0, none⟩) := hd 14 (by omega)
              have e15 : y 15 = .slice (some gx) n1 c1 := hd 15 (by omega)
              have e16 : y 16 = .int .i64 k := hd 16 (by omega)
              have e17 : y 17 = .pointer (some (gx.add k)) := hd 17 (by omega)
              have e18 : y 18 = .int .i64 f := hd 18 (by omega)
              have e19 : y 19 = .slice (some gy) n2 c2 := hd 19 (by omega)
              have e20 : y 20 = .int .i64 k := hd 20 (by omega)
              have e21 : y 21 = .pointer (some (gy.add k)) := hd 21 (by omega)
              have e22 : y 22 = .int .i64 m := hd 22 (by omega)
              have e23 : y 23 = .slice (some gz) n3 c3 := hd 23 (by omega)
              have e24 : y 24 = .int .i64 k := hd 24 (by omega)
              have e25 : y 25 = .pointer (some (gz.add k)) := hd 25 (by omega)
              have e26 : y 26 = .int .i64 o := hd 26 (by omega)
              have e27 : y 27 = .int .i64 (giveE X f m o) := hd 27 (by omega)
              go_simp
              refine hK _ _ ?_
              have HA := HW.1
              have HB := HW.2.1
              have hbd := HW.2.2
              rw [hLs 13 (by omega)] at HA
              rw [hLs 27 (by omega)] at HB
              clear hd HW hLs hL L hK e0 e1 e2 e3 e4 e5 e6 e7 e8 e9 e10 e11 e12 e13 e14 e15 e16 e17 e18 e19 e20 e21 e22 e23 e24 e25 e26 e27
              have HTG : Hid (Tab w' bt (giveL X f m o)) := Lib.hid HA
              have HRG : Hid (RefAt w' br (giveL X f m o)) := Lib.hid HB
              clear HA HB
              have HOG : Hid (Okay (giveL X f m o)) := Lib.hid (giveL_okay HOX.out f m o).1
              obtain ⟨G, hG⟩ : ∃ G, G = giveL X f m o := ⟨_, rfl⟩
              rw [← hG] at HTG HRG HOG
              obtain ⟨er, her⟩ : ∃ er, er = giveE X f m o := ⟨_, rfl⟩
              rw [← her]
              clear hG her HTX HRX HOX
              have c1 := HX.out _ hbd
              go_wp2_with fail
              refine (tab_who HTG.out HOG.out f).mono ?_
              rintro e w4 ⟨rfl, hb4⟩
              have HT4 := Lib.hid (HTG.out.below hb4)
              have HR4 := Lib.hid (HRG.out.below hb4)
              have hbd4 := hbd.trans (hb4.mono hbd.size)
              clear HTG HRG hb4 c1
              have c1 := HX.out _ hbd4
              go_wp2_with fail
              refine (refWho_any br f G _ HR4.out).mono ?_
              rintro e w5 ⟨rfl, rfl⟩
              clear c1
              go_wp2
              have hGl : G.length ≤ 1000 := by have := HOG.out.1; omega
              have hPl : (plR o G).length ≤ 100000 := by have := plR_length o G; omega
              obtain ⟨ga, gcap, hcell, _, hbr4, _⟩ := HR4.out.form
              refine wp_region_by (by kernel_rfl)
                (fun y => #[.int .i64 KK, .slice (some gx) n1 c1, .slice (some gy) n2 c2, .slice (some gz) n3 c3, undef, undef, undef, undef, u8, .pointer (some ⟨bt, 0, none⟩), .int .i64 0, .pointer (some ⟨br, 0, none⟩), .int .i64 0, .int .i64 k, .int .i64 (whoRW f G), .bool (whoRB f G), .int .i64 (whoRW f G), .bool (whoRB f G), .tuple #[.pointer (some ⟨bt, 0, none⟩), .int .i64 0], .int .i64 KK, .tuple #[.pointer (some ⟨bt, 0, none⟩), .int .i64 0], .pointer (some ⟨bt, 0, none⟩), .int .i64 0, .tuple #[.pointer (some ⟨br, 0, none⟩), .int .i64 0], .int .i64 KK, .tuple #[.pointer (some ⟨br, 0, none⟩), .int .i64 0], .pointer (some ⟨br, 0, none⟩), .int .i64 0, .int .i64 0, .int .i64 0, .bool false, .bool false, .pointer (some ⟨bt, 0, none⟩), .bool false, .pointer (some ⟨br, 0, none⟩), .bool false, .bool false, .bool false, .pointer (some ⟨br, 0, none⟩), .bool false, undef, .int .i64 k, .slice (some gx) n1 c1, .int .i64 n1, .bool true, .bool true, .int .i64 k, .slice (some gy) n2 c2, .int .i64 n2, .bool true, .bool true, .bool true, .int .i64 k, .slice (some gz) n3 c3, .int .i64 n3, .bool true, .bool true, .bool true, .int .i64 k, .bool true, .bool true, u61, u62, .pointer (some ⟨bt, 0, none⟩), .slice (some gx) n1 c1, .int .i64 k, .pointer (some (gx.add k)), .int .i64 f, .slice (some gy) n2 c2, .int .i64 k, .pointer (some (gy.add k)), .int .i64 m, .slice (some gz) n3 c3, .int .i64 k, .pointer (some (gz.add k)), .int .i64 o, .int .i64 er, .pointer (some ⟨br, 0, none⟩), .slice (some gx) n1 c1, .int .i64 k, .pointer (some (gx.add k)), .int .i64 f, .slice (some gy) n2 c2, .int .i64 k, .pointer (some (gy.add k)), .int .i64 m, .slice (some gz) n3 c3, .int .i64 k, .pointer (some (gz.add k)), .int .i64 o, .int .i64 er, .bool false, .tuple #[.int .i64 (whoRW f G), .bool (whoRB f G)], .pointer (some ⟨bt, 0, none⟩), .slice (some gx) n1 c1, .int .i64 k, .pointer (some (gx.add k)), .int .i64 f, .tuple #[.int .i64 (whoRW f G), .bool (whoRB f G)], .int .i64 (whoRW f G), .bool (whoRB f G), .tuple #[.int .i64 (whoRW f G), .bool (whoRB f G)], .pointer (some ⟨br, 0, none⟩), .slice (some gx) n1 c1, .int .i64 k, .pointer (some (gx.add k)), .int .i64 f, .tuple #[.int .i64 (whoRW f G), .bool (whoRB f G)], .int .i64 (whoRW f G), .bool (whoRB f G), y 0, y 1, y 2, y 3, y 4, y 5, y 6, y 7, y 8, y 9, y 10, y 11, y 12, y 13, y 14, y 15, y 16, y 17, y 18, y 19, y 20, y 21, y 22, y 23, y 24, y 25, y 26, y 27, y 28, y 29, y 30, y 31, y 32, y 33, y 34, y 35, y 36, y 37, y 38, y 39, y 40, y 41, y 42, y 43, y 44, y 45, y 46, y 47, u158, undef])
                (fun j v W' => match j with | 0 => v = .int .i64 (whoRW f G) | 1 => v = .int .i64 (whoRW f G) | 2 => v = .bool false | 3 => v = .bool false | 4 => v = .bool (whoRB f G) | 5 => v = .bool (whoRB f G) | 6 => v = .bool false | 7 => v = .bool false | 8 => v = .bool false | 9 => v = .pointer (some ⟨bt, 0, none⟩) | 10 => v = .int .i64 (cntNeg G) | 11 => v = .pointer (some ⟨br, 0, none⟩) | 12 => v = .int .i64 (cntNeg G) | 13 => v = .bool false | 14 => v = .bool false | 15 => v = .bool false | 16 => v = .pointer (some ⟨bt, 0, none⟩) | 17 => v = .int .i64 G.length | 18 => v = .pointer (some ⟨br, 0, none⟩) | 19 => v = .pointer (some ⟨br, 0, none⟩) | 20 => v = .pointer (some ⟨br, 0, none⟩) | 21 => v = .slice ga G.length gcap | 22 => v = .int .i64 G.length | 23 => v = .bool false | 24 => v = .bool false | 25 => v = .bool false | 26 => v = .pointer (some ⟨bt, 0, none⟩) | 27 => v = .slice (some gz) n3 c3 | 28 => v = .int .i64 k | 29 => v = .pointer (some (gz.add k)) | 30 => v = .int .i64 o | 31 => ∃ ra rc rB, v = .slice ra (plR o G).length rc ∧ rB ≤ W'.heap.size ∧ RowK .i64 W' rB ra (plR o G).length (plR o G) | 32 => v = .pointer (some ⟨br, 0, none⟩) | 33 => v = .slice (some gz) n3 c3 | 34 => v = .int .i64 k | 35 => v = .pointer (some (gz.add k)) | 36 => v = .int .i64 o | 37 => ∃ ra rc rB, v = .slice ra (plR o G).length rc ∧ rB ≤ W'.heap.size ∧ RowK .i64 W' rB ra (plR o G).length (plR o G) | 38 => v = .bool true | 39 => v = .bool false | 40 => v = .bool false | 41 => v = .bool false | 42 => v = .pointer (some ⟨bt, 0, none⟩) | 43 => ∃ rs rB, rB ≤ W'.heap.size ∧ RowS W' rB v rs ∧ Nm rs G | 44 => v = .pointer (some ⟨br, 0, none⟩) | 45 => ∃ rs rB, rB ≤ W'.heap.size ∧ RowS W' rB v rs ∧ Nm rs G | 46 => v = .bool true | 47 => v = .bool false | _ => True)
                (fun _ W' => Below w4.heap.size w4 W') (fun _ W' W'' => Below W'.heap.size W' W'') (by kernel_rfl) (by decide) (fun i j L v w w' hne hcl hi hj hle hR => match j, hR with | 0, h => h | 1, h => h | 2, h => h | 3, h => h | 4, h => h | 5, h => h | 6, h => h | 7, h => h | 8, h => h | 9, h => h | 10, h => h | 11, h => h | 12, h => h | 13, h => h | 14, h => h | 15, h => h | 16, h => h | 17, h => h | 18, h => h | 19, h => h | 20, h => h | 21, h => h | 22, h => h | 23, h => h | 24, h => h | 25, h => h | 26, h => h | 27, h => h | 28, h => h | 29, h => h | 30, h => h | 31, ⟨ra, rc, rB, q1, q2, q3⟩ => ⟨ra, rc, rB, q1, Nat.le_trans q2 hle.size, q3.below (hle.mono q2)⟩ | 32, h => h | 33, h => h | 34, h => h | 35, h => h | 36, h => h | 37, ⟨ra, rc, rB, q1, q2, q3⟩ => ⟨ra, rc, rB, q1, Nat.le_trans q2 hle.size, q3.below (hle.mono q2)⟩ | 38, h => h | 39, h => h | 40, h => h | 41, h => h | 42, h => h | 43, ⟨rs, rB, q2, q3, q4⟩ => ⟨rs, rB, Nat.le_trans q2 hle.size, q3.below (hle.mono q2), q4⟩ | 44, h => h | 45, ⟨rs, rB, q2, q3, q4⟩ => ⟨rs, rB, Nat.le_trans q2 hle.size, q3.below (hle.mono q2), q4⟩ | 46, h => h | 47, h => h | (_ + 48), _ => trivial) (fun j => match j with | 0 => u110 | 1 => u111 | 2 => u112 | 3 => u113 | 4 => u114 | 5 => u115 | 6 => u116 | 7 => u117 | 8 => u118 | 9 => u119 | 10 => u120 | 11 => u121 | 12 => u122 | 13 => u123 | 14 => u124 | 15 => u125 | 16 => u126 | 17 => u127 | 18 => u128 | 19 => u129 | 20 => u130 | 21 => u131 | 22 => u132 | 23 => u133 | 24 => u134 | 25 => u135 | 26 => u136 | 27 => u137 | 28 => u138 | 29 => u139 | 30 => u140 | 31 => u141 | 32 => u142 | 33 => u143 | 34 => u144 | 35 => u145 | 36 => u146 | 37 => u147 | 38 => u148 | 39 => u149 | 40 => u150 | 41 => u151 | 42 => u152 | 43 => u153 | 44 => u154 | 45 => u155 | 46 => u156 | 47 => u157 | _ => undef) rfl (fun _ _ => (Below.refl _ _).drew) ?_
              refine steps_op [] (by kernel_rfl) (fun L y w' hL hcl HW hd K hK => ?_) ?_
              · go_simp
                exact hK _ _ _ (by simp [upd]) rfl HW (Below.refl _ _)
              refine steps_op [] (by kernel_rfl) (fun L y w' hL hcl HW hd K hK => ?_) ?_
              · go_simp
                exact hK _ _ _ (by simp [upd]) rfl HW (Below.refl _ _)
              refine steps_op [0, 1] (by kernel_rfl) (fun L y w' hL hcl HW hd K hK => ?_) ?_
              · have e0 : y 0 = .int .i64 (whoRW f G) := hd 0 (by simp)
                have e1 : y 1 = .int .i64 (whoRW f G) := hd 1 (by simp)
                go_simp
                exact hK _ _ _ (by simp [upd, e0, e1]) rfl HW (Below.refl _ _)
              refine steps_op [2] (by kernel_rfl) (fun L y w' hL hcl HW hd K hK => ?_) ?_
              · have e2 : y 2 = .bool false := hd 2 (by simp)
                go_simp
                exact hK _ _ _ (by simp [upd, e2]) rfl HW (Below.refl _ _)
              refine steps_op [3] (by kernel_rfl) (fun L y w' hL hcl HW hd K hK => ?_) ?_
              · have e3 : y 3 = .bool false := hd 3 (by simp)
                go_simp
                exact hK _ _ _ (by simp [upd, e3]) rfl HW (Below.refl _ _)
              refine steps_op [3] (by kernel_rfl) (fun L y w' hL hcl HW hd K hK => ?_) ?_
              · have e3 : y 3 = .bool false := hd 3 (by simp)
                go_simp
                exact hK _ _ _ (by simp [upd, e3]) rfl HW (Below.refl _ _)
              refine steps_op [4, 5, 3] (by kernel_rfl) (fun L y w' hL hcl HW hd K hK => ?_) ?_
              · have e3 : y 3 = .bool false := hd 3 (by simp)
                have e4 : y 4 = .bool (whoRB f G) := hd 4 (by simp)
                have e5 : y 5 = .bool (whoRB f G) := hd 5 (by simp)
                go_simp
                exact hK _ _ _ (by simp [upd, e3, e4, e5]) rfl HW (Below.refl _ _)
              refine steps_op [3, 6] (by kernel_rfl) (fun L y w' hL hcl HW hd K hK => ?_) ?_
              · have e3 : y 3 = .bool false := hd 3 (by simp)
                have e6 : y 6 = .bool false := hd 6 (by simp)
                go_simp
                exact hK _ _ _ (by simp [upd, e3, e6]) rfl HW (Below.refl _ _)
              refine steps_op [7, 3] (by kernel_rfl) (fun L y w' hL hcl HW hd K hK => ?_) ?_
              · have e3 : y 3 = .bool false := hd 3 (by simp)
                have e7 : y 7 = .bool false := hd 7 (by simp)
                go_simp
                exact hK _ _ _ (by simp [upd, e3, e7]) rfl HW (Below.refl _ _)
              refine steps_op [8] (by kernel_rfl) (fun L y w' hL hcl HW hd K hK => ?_) ?_
              · have e8 : y 8 = .bool false := hd 8 (by simp)
                go_simp
                exact hK _ _ _ (by simp [upd, e8]) rfl HW (Below.refl _ _)
              refine steps_op [9, 8, 8] (by kernel_rfl) (fun L y w' hL hcl HW hd K hK => ?_) ?_
              · have e8 : y 8 = .bool false := hd 8 (by simp)
                have e9 : y 9 = .pointer (some ⟨bt, 0, none⟩) := hd 9 (by simp)
                go_simp
                refine (tab_free (HT4.out.below HW) HOG.out).mono ?_
                rintro e W3 ⟨rfl, hq⟩
                exact hK _ _ _ (by simp [upd, e8, e9]) rfl (HW.trans (hq.mono HW.size)) hq
              refine steps_op [8] (by kernel_rfl) (fun L y w' hL hcl HW hd K hK => ?_) ?_
              · have e8 : y 8 = .bool false := hd 8 (by simp)
                go_simp
                exact hK _ _ _ (by simp [upd, e8]) rfl HW (Below.refl _ _)
              refine steps_op [11, 10, 8] (by kernel_rfl) (fun L y w' hL hcl HW hd K hK => ?_) ?_
              · have e8 : y 8 = .bool false := hd 8 (by simp)
                have e10 : y 10 = .int .i64 (cntNeg G) := hd 10 (by simp)
                have e11 : y 11 = .pointer (some ⟨br, 0, none⟩) := hd 11 (by simp)
                go_simp
                refine (refFree_any br G _ (HR4.out.below HW) hGl).mono ?_
                rintro e W3 ⟨rfl, rfl⟩
                exact hK _ _ _ (by simp [upd, e8, e10, e11]) rfl HW (Below.refl _ _)
              refine steps_op [10, 12, 8] (by kernel_rfl) (fun L y w' hL hcl HW hd K hK => ?_) ?_
              · have e8 : y 8 = .bool false := hd 8 (by simp)
                have e10 : y 10 = .int .i64 (cntNeg G) := hd 10 (by simp)
                have e12 : y 12 = .int .i64 (cntNeg G) := hd 12 (by simp)
                go_simp
                exact hK _ _ _ (by simp [upd, e8, e10, e12]) rfl HW (Below.refl _ _)
              refine steps_op [8, 13] (by kernel_rfl) (fun L y w' hL hcl HW hd K hK => ?_) ?_
              · have e8 : y 8 = .bool false := hd 8 (by simp)
                have e13 : y 13 = .bool false := hd 13 (by simp)
                go_simp
                exact hK _ _ _ (by simp [upd, e8, e13]) rfl HW (Below.refl _ _)
              refine steps_op [14, 12] (by kernel_rfl) (fun L y w' hL hcl HW hd K hK => ?_) ?_
              · have e12 : y 12 = .int .i64 (cntNeg G) := hd 12 (by simp)
                have e14 : y 14 = .bool false := hd 14 (by simp)
                go_simp
                exact hK _ _ _ (by simp [upd, e12, e14]) rfl HW (Below.refl _ _)
              refine steps_op [15] (by kernel_rfl) (fun L y w' hL hcl HW hd K hK => ?_) ?_
              · have e15 : y 15 = .bool false := hd 15 (by simp)
                go_simp
                exact hK _ _ _ (by simp [upd, e15]) rfl HW (Below.refl _ _)
              refine steps_op [16, 15, 15] (by kernel_rfl) (fun L y w' hL hcl HW hd K hK => ?_) ?_
              · have e15 : y 15 = .bool false := hd 15 (by simp)
                have e16 : y 16 = .pointer (some ⟨bt, 0, none⟩) := hd 16 (by simp)
                go_simp
                refine (tab_len (HT4.out.below HW) HOG.out).mono ?_
                rintro e W3 ⟨rfl, hq⟩
                exact hK _ _ _ (by simp [upd, e15, e16]) rfl (HW.trans (hq.mono HW.size)) hq
              refine steps_op [15] (by kernel_rfl) (fun L y w' hL hcl HW hd K hK => ?_) ?_
              · have e15 : y 15 = .bool false := hd 15 (by simp)
                go_simp
                exact hK _ _ _ (by simp [upd, e15]) rfl HW (Below.refl _ _)
              refine steps_op [18, 15] (by kernel_rfl) (fun L y w' hL hcl HW hd K hK => ?_) ?_
              · have e15 : y 15 = .bool false := hd 15 (by simp)
                have e18 : y 18 = .pointer (some ⟨br, 0, none⟩) := hd 18 (by simp)
                go_simp
                exact hK _ _ _ (by simp [upd, e15, e18]) rfl HW (Below.refl _ _)
              refine steps_op [19, 15] (by kernel_rfl) (fun L y w' hL hcl HW hd K hK => ?_) ?_
              · have e15 : y 15 = .bool false := hd 15 (by simp)
                have e19 : y 19 = .pointer (some ⟨br, 0, none⟩) := hd 19 (by simp)
                go_simp
                exact hK _ _ _ (by simp [upd, e15, e19]) rfl HW (Below.refl _ _)
              refine steps_op [20, 15] (by kernel_rfl) (fun L y w' hL hcl HW hd K hK => ?_) ?_
              · have e15 : y 15 = .bool false := hd 15 (by simp)
                have e20 : y 20 = .pointer (some ⟨br, 0, none⟩) := hd 20 (by simp)
                have c1 := (HW.cell (p := ⟨br, 0, none⟩) hbr4).trans hcell
                go_simp
                exact hK _ _ _ (by simp [upd, e15, e20]) rfl HW (Below.refl _ _)
              refine steps_op [21, 15] (by kernel_rfl) (fun L y w' hL hcl HW hd K hK => ?_) ?_
              · have e15 : y 15 = .bool false := hd 15 (by simp)
                have e21 : y 21 = .slice ga G.length gcap := hd 21 (by simp)
                go_simp
                exact hK _ _ _ (by simp [upd, e15, e21]) rfl HW (Below.refl _ _)
              refine steps_op [17, 22, 15] (by kernel_rfl) (fun L y w' hL hcl HW hd K hK => ?_) ?_
              · have e15 : y 15 = .bool false := hd 15 (by simp)
                have e17 : y 17 = .int .i64 G.length := hd 17 (by simp)
                have e22 : y 22 = .int .i64 G.length := hd 22 (by simp)
                go_simp
                exact hK _ _ _ (by simp [upd, e15, e17, e22]) rfl HW (Below.refl _ _)
              refine steps_op [15, 23] (by kernel_rfl) (fun L y w' hL hcl HW hd K hK => ?_) ?_
              · have e15 : y 15 = .bool false := hd 15 (by simp)
                have e23 : y 23 = .bool false := hd 23 (by simp)
                go_simp
                exact hK _ _ _ (by simp [upd, e15, e23]) rfl HW (Below.refl _ _)
              refine steps_op [24, 17] (by kernel_rfl) (fun L y w' hL hcl HW hd K hK => ?_) ?_
              · have e17 : y 17 = .int .i64 G.length := hd 17 (by simp)
                have e24 : y 24 = .bool false := hd 24 (by simp)
                go_simp
                exact hK _ _ _ (by simp [upd, e17, e24]) rfl HW (Below.refl _ _)
              refine steps_op [25] (by kernel_rfl) (fun L y w' hL hcl HW hd K hK => ?_) ?_
              · have e25 : y 25 = .bool false := hd 25 (by simp)
                go_simp
                exact hK _ _ _ (by simp [upd, e25]) rfl HW (Below.refl _ _)
              refine steps_op [25] (by kernel_rfl) (fun L y w' hL hcl HW hd K hK => ?_) ?_
              · have e25 : y 25 = .bool false := hd 25 (by simp)
                go_simp
                exact hK _ _ _ (by simp [upd, e25]) rfl HW (Below.refl _ _)
              refine steps_op [25] (by kernel_rfl) (fun L y w' hL hcl HW hd K hK => ?_) ?_
              · have e25 : y 25 = .bool false := hd 25 (by simp)
                go_simp
                exact hK _ _ _ (by simp [upd, e25]) rfl HW (Below.refl _ _)
              refine steps_op [27, 28, 25] (by kernel_rfl) (fun L y w' hL hcl HW hd K hK => ?_) ?_
              · have e25 : y 25 = .bool false := hd 25 (by simp)
                have e27 : y 27 = .slice (some gz) n3 c3 := hd 27 (by simp)
                have e28 : y 28 = .int .i64 k := hd 28 (by simp)
                go_simp
                exact hK _ _ _ (by simp [upd, e25, e27, e28]) rfl HW (Below.refl _ _)
              refine steps_op [29, 25] (by kernel_rfl) (fun L y w' hL hcl HW hd K hK => ?_) ?_
              · have e25 : y 25 = .bool false := hd 25 (by simp)
                have e29 : y 29 = .pointer (some (gz.add k)) := hd 29 (by simp)
                have c1 := HZ.out _ (hbd4.trans (HW.mono hbd4.size))
                go_simp
                exact hK _ _ _ (by simp [upd, e25, e29]) rfl HW (Below.refl _ _)
              refine steps_op [26, 30, 25, 25] (by kernel_rfl) (fun L y w' hL hcl HW hd K hK => ?_) ?_
              · have e25 : y 25 = .bool false := hd 25 (by simp)
                have e26 : y 26 = .pointer (some ⟨bt, 0, none⟩) := hd 26 (by simp)
                have e30 : y 30 = .int .i64 o := hd 30 (by simp)
                go_simp
                refine (tab_of (HT4.out.below HW) HOG.out o).mono ?_
                rintro e W3 ⟨v, rfl, ho, hq⟩
                exact hK v _ _ (by simp [upd, e25, e26, e30]) (by obtain ⟨ra, rc, hv, _, _, hr⟩ := OwnI.row ho; exact ⟨ra, rc, _, hv, Nat.le_refl _, hr⟩) (HW.trans (hq.mono HW.size)) hq
              refine steps_op [25] (by kernel_rfl) (fun L y w' hL hcl HW hd K hK => ?_) ?_
              · have e25 : y 25 = .bool false := hd 25 (by simp)
                go_simp
                exact hK _ _ _ (by simp [upd, e25]) rfl HW (Below.refl _ _)
              refine steps_op [25] (by kernel_rfl) (fun L y w' hL hcl HW hd K hK => ?_) ?_
              · have e25 : y 25 = .bool false := hd 25 (by simp)
                go_simp
                exact hK _ _ _ (by simp [upd, e25]) rfl HW (Below.refl _ _)
              refine steps_op [25] (by kernel_rfl) (fun L y w' hL hcl HW hd K hK => ?_) ?_
              · have e25 : y 25 = .bool false := hd 25 (by simp)
                go_simp
                exact hK _ _ _ (by simp [upd, e25]) rfl HW (Below.refl _ _)
              refine steps_op [33, 34, 25] (by kernel_rfl) (fun L y w' hL hcl HW hd K hK => ?_) ?_
              · have e25 : y 25 = .bool false := hd 25 (by simp)
                have e33 : y 33 = .slice (some gz) n3 c3 := hd 33 (by simp)
                have e34 : y 34 = .int .i64 k := hd 34 (by simp)
                go_simp
                exact hK _ _ _ (by simp [upd, e25, e33, e34]) rfl HW (Below.refl _ _)
              refine steps_op [35, 25] (by kernel_rfl) (fun L y w' hL hcl HW hd K hK => ?_) ?_
              · have e25 : y 25 = .bool false := hd 25 (by simp)
                have e35 : y 35 = .pointer (some (gz.add k)) := hd 35 (by simp)
                have c1 := HZ.out _ (hbd4.trans (HW.mono hbd4.size))
                go_simp
                exact hK _ _ _ (by simp [upd, e25, e35]) rfl HW (Below.refl _ _)
              refine steps_op [32, 36, 31, 25] (by kernel_rfl) (fun L y w' hL hcl HW hd K hK => ?_) ?_
              · have e25 : y 25 = .bool false := hd 25 (by simp)
                have e32 : y 32 = .pointer (some ⟨br, 0, none⟩) := hd 32 (by simp)
                have e36 : y 36 = .int .i64 o := hd 36 (by simp)
                go_simp
                refine (refOf_any br o G _ (HR4.out.below HW) hGl).mono ?_
                rintro e W3 ⟨v, rfl, ho, hq⟩
                exact hK v _ _ (by simp [upd, e25, e32, e36]) (by obtain ⟨ra, rc, hv, _, _, hr⟩ := OwnI.row ho; exact ⟨ra, rc, _, hv, Nat.le_refl _, hr⟩) (HW.trans (hq.mono HW.size)) hq
              refine steps_op [31, 37, 37, 25] (by kernel_rfl) (fun L y w' hL hcl HW hd K hK => ?_) ?_
              · have e25 : y 25 = .bool false := hd 25 (by simp)
                obtain ⟨ra, rc, rB, e31, hB1, hr1⟩ := hd 31 (by simp)
                obtain ⟨sa, sc, sB, e37, hB2, hr2⟩ := hd 37 (by simp)
                go_simp
                refine (ints_same ra sa rc sc _ rB sB (plR o G) _ hPl hB1 hB2 hr1 hr2).mono ?_
                rintro e W3 ⟨rfl, hq⟩
                exact hK _ _ _ (by simp [upd, e25, e31, e37]) rfl (HW.trans (hq.mono HW.size)) hq
              refine steps_op [38, 25] (by kernel_rfl) (fun L y w' hL hcl HW hd K hK => ?_) ?_
              · have e25 : y 25 = .bool false := hd 25 (by simp)
                have e38 : y 38 = .bool true := hd 38 (by simp)
                go_simp
                exact hK _ _ _ (by simp [upd, e25, e38]) rfl HW (Below.refl _ _)
              refine steps_op [25, 39] (by kernel_rfl) (fun L y w' hL hcl HW hd K hK => ?_) ?_
              · have e25 : y 25 = .bool false := hd 25 (by simp)
                have e39 : y 39 = .bool false := hd 39 (by simp)
                go_simp
                exact hK _ _ _ (by simp [upd, e25, e39]) rfl HW (Below.refl _ _)
              refine steps_op [40, 38] (by kernel_rfl) (fun L y w' hL hcl HW hd K hK => ?_) ?_
              · have e38 : y 38 = .bool true := hd 38 (by simp)
                have e40 : y 40 = .bool false := hd 40 (by simp)
                go_simp
                exact hK _ _ _ (by simp [upd, e38, e40]) rfl HW (Below.refl _ _)
              refine steps_op [41] (by kernel_rfl) (fun L y w' hL hcl HW hd K hK => ?_) ?_
              · have e41 : y 41 = .bool false := hd 41 (by simp)
                go_simp
                exact hK _ _ _ (by simp [upd, e41]) rfl HW (Below.refl _ _)
              refine steps_op [42, 41, 41] (by kernel_rfl) (fun L y w' hL hcl HW hd K hK => ?_) ?_
              · have e41 : y 41 = .bool false := hd 41 (by simp)
                have e42 : y 42 = .pointer (some ⟨bt, 0, none⟩) := hd 42 (by simp)
                go_simp
                refine (tab_runs (HT4.out.below HW) HOG.out).mono ?_
                rintro e W3 ⟨v, rs, rfl, hnm, ho, hq⟩
                exact hK v _ _ (by simp [upd, e41, e42]) ⟨rs, _, Nat.le_refl _, ho.row, hnm⟩ (HW.trans (hq.mono HW.size)) hq
              refine steps_op [41] (by kernel_rfl) (fun L y w' hL hcl HW hd K hK => ?_) ?_
              · have e41 : y 41 = .bool false := hd 41 (by simp)
                go_simp
                exact hK _ _ _ (by simp [upd, e41]) rfl HW (Below.refl _ _)
              refine steps_op [44, 43, 41] (by kernel_rfl) (fun L y w' hL hcl HW hd K hK => ?_) ?_
              · have e41 : y 41 = .bool false := hd 41 (by simp)
                have e44 : y 44 = .pointer (some ⟨br, 0, none⟩) := hd 44 (by simp)
                go_simp
                refine (refRuns_any br G _ (HR4.out.below HW) hGl).mono ?_
                rintro e W3 ⟨v, rs, rfl, hnm, ho, hq⟩
                exact hK v _ _ (by simp [upd, e41, e44]) ⟨rs, _, Nat.le_refl _, ho.row, hnm⟩ (HW.trans (hq.mono HW.size)) hq
              refine steps_op [43, 45, 45, 41] (by kernel_rfl) (fun L y w' hL hcl HW hd K hK => ?_) ?_
              · have e41 : y 41 = .bool false := hd 41 (by simp)
                obtain ⟨rs, rB, hB1, hr1, hn1⟩ := hd 43 (by simp)
                obtain ⟨rs', sB, hB2, hr2, hn2⟩ := hd 45 (by simp)
                obtain rfl := Fw.unique hn1 hn2
                have hrl : rs.length ≤ 100000 := by have q1 := nm_length hn1; omega
                go_simp
                refine (runs_same (y 43) (y 45) rB sB rs _ hrl hB1 hB2 hr1 hr2).mono ?_
                rintro e W3 ⟨rfl, hq⟩
                exact hK _ _ _ (by simp [upd, e41]) rfl (HW.trans (hq.mono HW.size)) hq
              refine steps_op [46, 41] (by kernel_rfl) (fun L y w' hL hcl HW hd K hK => ?_) ?_
              · have e41 : y 41 = .bool false := hd 41 (by simp)
                have e46 : y 46 = .bool true := hd 46 (by simp)
                go_simp
                exact hK _ _ _ (by simp [upd, e41, e46]) rfl HW (Below.refl _ _)
              refine steps_last fun L y w' hL hLs HW hd K hK => ?_
              have e0 : y 0 = .int .i64 (whoRW f G) := hd 0 (by omega)
              have e1 : y 1 = .int .i64 (whoRW f G) := hd 1 (by omega)
              have e2 : y 2 = .bool false := hd 2 (by omega)
              have e3 : y 3 = .bool false := hd 3 (by omega)
              have e4 : y 4 = .bool (whoRB f G) := hd 4 (by omega)
              have e5 : y 5 = .bool (whoRB f G) := hd 5 (by omega)
              have e6 : y 6 = .bool false := hd 6 (by omega)
              have e7 : y 7 = .bool false := hd 7 (by omega)
              have e8 : y 8 = .bool false := hd 8 (by omega)
              have e9 : y 9 = .pointer (some ⟨bt, 0, none⟩) := hd 9 (by omega)
              have e10 : y 10 = .int .i64 (cntNeg G) := hd 10 (by omega)
              have e11 : y 11 = .pointer (some ⟨br, 0, none⟩) := hd 11 (by omega)
              have e12 : y 12 = .int .i64 (cntNeg G) := hd 12 (by omega)
              have e13 : y 13 = .bool false := hd 13 (by omega)
              have e14 : y 14 = .bool false := hd 14 (by omega)
              have e15 : y 15 = .bool false := hd 15 (by omega)
              have e16 : y 16 = .pointer (some ⟨bt, 0, none⟩) := hd 16 (by omega)
              have e17 : y 17 = .int .i64 G.length := hd 17 (by omega)
              have e18 : y 18 = .pointer (some ⟨br, 0, none⟩) := hd 18 (by omega)
              have e19 : y 19 = .pointer (some ⟨br, 0, none⟩) := hd 19 (by omega)
              have e20 : y 20 = .pointer (some ⟨br, 0, none⟩) := hd 20 (by omega)
              have e21 : y 21 = .slice ga G.length gcap := hd 21 (by omega)
              have e22 : y 22 = .int .i64 G.length := hd 22 (by omega)
              have e23 : y 23 = .bool false := hd 23 (by omega)
              have e24 : y 24 = .bool false := hd 24 (by omega)
              have e25 : y 25 = .bool false := hd 25 (by omega)
              have e26 : y 26 = .pointer (some ⟨bt, 0, none⟩) := hd 26 (by omega)
              have e27 : y 27 = .slice (some gz) n3 c3 := hd 27 (by omega)
              have e28 : y 28 = .int .i64 k := hd 28 (by omega)
              have e29 : y 29 = .pointer (some (gz.add k)) := hd 29 (by omega)
              have e30 : y 30 = .int .i64 o := hd 30 (by omega)
              have e32 : y 32 = .pointer (some ⟨br, 0, none⟩) := hd 32 (by omega)
              have e33 : y 33 = .slice (some gz) n3 c3 := hd 33 (by omega)
              have e34 : y 34 = .int .i64 k := hd 34 (by omega)
              have e35 : y 35 = .pointer (some (gz.add k)) := hd 35 (by omega)
              have e36 : y 36 = .int .i64 o := hd 36 (by omega)
              have e38 : y 38 = .bool true := hd 38 (by omega)
              have e39 : y 39 = .bool false := hd 39 (by omega)
              have e40 : y 40 = .bool false := hd 40 (by omega)
              have e41 : y 41 = .bool false := hd 41 (by omega)
              have e42 : y 42 = .pointer (some ⟨bt, 0, none⟩) := hd 42 (by omega)
              have e44 : y 44 = .pointer (some ⟨br, 0, none⟩) := hd 44 (by omega)
              have e46 : y 46 = .bool true := hd 46 (by omega)
              have e47 : y 47 = .bool false := hd 47 (by omega)
              go_simp
              refine hK _ _ ?_
              have hbe := hbd4.trans (HW.mono hbd4.size)
              have HTE : Hid (Tab w' bt G) := Lib.hid (HT4.out.below HW)
              have HRE : Hid (RefAt w' br G) := Lib.hid (HR4.out.below HW)
              clear hd HW hLs hL L hK e0 e1 e2 e3 e4 e5 e6 e7 e8 e9 e10 e11 e12 e13 e14 e15 e16 e17 e18 e19 e20 e21 e22 e23 e24 e25 e26 e27 e28 e29 e30 e32 e33 e34 e35 e36 e38 e39 e40 e41 e42 e44 e46 e47
              go_wp2
              go_roundw
              case rel => exact ⟨k + 1, G, by go_num, by omega, HTE.out, HRE.out, HOG.out, hbe⟩
              case measure => simp [intOf]; omega

            · have d4 : ¬ (k : Int) < 80 := by omega
              go_wp2_with (go_at_call 9; refine (awake_keep (Nat.le_refl _) hb).mono ?_; rintro e w9 ⟨rfl, hb9⟩)
              go_ret
              exact ⟨rfl, hb9⟩
          · have d3 : ¬ (k : Int) < (n3 : Int) := by omega
            go_wp2_with (go_at_call 9; refine (awake_keep (Nat.le_refl _) hb).mono ?_; rintro e w9 ⟨rfl, hb9⟩)
            go_ret
            exact ⟨rfl, hb9⟩
        · have d2 : ¬ (k : Int) < (n2 : Int) := by omega
          go_wp2_with (go_at_call 9; refine (awake_keep (Nat.le_refl _) hb).mono ?_; rintro e w9 ⟨rfl, hb9⟩)
          go_ret
          exact ⟨rfl, hb9⟩
      · have d1 : ¬ (k : Int) < (n1 : Int) := by omega
        go_wp2_with (go_at_call 9; refine (awake_keep (Nat.le_refl _) hb).mono ?_; rintro e w9 ⟨rfl, hb9⟩)
        go_ret
        exact ⟨rfl, hb9⟩
end Go.Proofs.Ytpoelobljklgpaa.Pt
