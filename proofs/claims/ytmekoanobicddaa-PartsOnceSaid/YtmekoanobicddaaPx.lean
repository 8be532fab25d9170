/- The walk of hermitagelaw03.PartsOnce. -/
import Derived.Test.YtmekoanobicddaaPu
import Derived.Deep.DeepCutAuto
import Derived.Deep.CutBlock
import Derived.StillTailTactics
import Derived.Deep.QuietTactic
import Derived.BigQuiet
import Derived.Test.YtmekoanobicddaaRa
namespace Go.Proofs.Ytmekoanobicddaa.Pt
open Go.RowKit Ut
set_option linter.unusedVariables false

theorem setR_getD (L : List Int) (F N : Nat) (who : Int) (h : F + N ≤ L.length) (q : Nat) : (setR L F N who).getD q 0 = if F ≤ q ∧ q < F + N then who else L.getD q 0 := by
  unfold setR
  simp only [List.getD_eq_getElem?_getD, List.getElem?_append, List.length_append, List.length_take, List.length_replicate, List.getElem?_take, List.getElem?_replicate, List.getElem?_drop]
  have e : min F L.length = F := by omega
  rw [e]
  by_cases h1 : q < F + N
  · rw [if_pos h1]
    by_cases h2 : q < F
    · rw [if_pos h2, if_pos h2, if_neg (by omega)]
    · rw [if_neg h2, if_pos (by omega), if_pos ⟨by omega, h1⟩]; rfl
  · rw [if_neg h1, if_neg (by omega), show F + N + (q - (F + N)) = q by omega]
theorem cntNeg_append (A B : List Int) : cntNeg (A ++ B) = cntNeg A + cntNeg B := by
  unfold cntNeg
  rw [List.filter_append, List.length_append]; omega
theorem cntNeg_setR (L : List Int) (F N : Nat) (who : Int) (h : F + N ≤ L.length) (hu : ∀ j, j < N → L.getD (F + j) 0 < 0) (hw : 0 ≤ who) : cntNeg (setR L F N who) = cntNeg L - N := by
  have h1 : L = L.take F ++ ((L.drop F).take N ++ L.drop (F + N)) := by
    rw [← List.drop_drop, List.take_append_drop, List.take_append_drop]
  have h2 : cntNeg ((L.drop F).take N) = N := by
    unfold cntNeg
    rw [List.filter_eq_self.2, List.length_take, List.length_drop]
    · omega
    · intro z hz
      obtain ⟨j, hj, rfl⟩ := List.mem_iff_getElem.1 hz
      have hj' : j < N := by simp at hj; omega
      have := hu j hj'
      rw [List.getD_eq_getElem?_getD, List.getElem?_eq_getElem (by omega)] at this
      simpa using this
  have h3 : cntNeg (List.replicate N who) = 0 := by
    unfold cntNeg
    rw [List.filter_eq_nil_iff.2]
    · rfl
    · intro z hz
      have := (List.mem_replicate.1 hz).2
      simp; omega
  have h4 := congrArg cntNeg h1
  rw [cntNeg_append, cntNeg_append, h2] at h4
  unfold setR
  rw [cntNeg_append, cntNeg_append, h3]
  omega

theorem rowS_form {W : World} {B : Nat} {v : Value} {rs : List R3} (h : RowS W B v rs) : (∃ g cap, v = .slice (some ⟨g, 0, none⟩) rs.length cap ∧ rs.length ≤ cap ∧ cap ≤ 9223372036854775807 ∧ g < B ∧ ∀ i, i < rs.length → CellsAt W g i (rs.getD i default)) ∨ (v = .slice none 0 0 ∧ rs = []) := by
  rcases h with ⟨h1, h2⟩ | ⟨g, cap, h1, h2, h3, h4, h5⟩
  · exact .inr ⟨h1, h2⟩
  · exact .inl ⟨g, cap, h1, h2, by unfold maxLen at h3; omega, h4, h5⟩

theorem meas (mm kk : Nat) (h : kk + 1 ≤ mm) : mm - (intOf (.int .i64 ((kk : Int) + 1))).toNat < mm - (intOf (.int .i64 (kk : Int))).toNat := by simp [intOf]; omega
/-- the place that is asked for -/
theorem at_facts (a mm kk len : Nat) (e4 : a + mm ≤ len) (h64 : len ≤ 64) (hkm : kk < mm) :
    ∃ q : Nat, q < len ∧ a ≤ q ∧ q < a + mm ∧ wrap64 ((a : Int) + (kk : Int)) = (q : Int) ∧ IntKind.i64.wrap ((a : Int) + (kk : Int)) = (q : Int) ∧ (kk : Int) < (mm : Int) ∧ (kk : Int) < 64 ∧ kk + 1 ≤ mm := by
  refine ⟨a + kk, by omega, by omega, by omega, ?_, ?_, by omega, by omega, by omega⟩
  · rw [IntWalk.wrap64_in _ ⟨by omega, by omega⟩]; omega
  · rw [IntWalk.i64_in _ (by omega)]; omega
/-- .. whether it was given now: from f on, many -/
theorem given_facts (F N q len : Nat) (h64 : len ≤ 64) (hF : F + N ≤ len) (hq : q < len) :
    (q < F ∧ decide ((F : Int) ≤ (q : Int)) = false) ∨
    (F + N ≤ q ∧ decide ((F : Int) ≤ (q : Int)) = true ∧ IntKind.i64.wrap ((q : Int) - (F : Int)) = (q : Int) - (F : Int) ∧ wrap64 ((q : Int) - (F : Int)) = (q : Int) - (F : Int) ∧ decide ((q : Int) - (F : Int) < (N : Int)) = false) ∨
    (F ≤ q ∧ q < F + N ∧ decide ((F : Int) ≤ (q : Int)) = true ∧ IntKind.i64.wrap ((q : Int) - (F : Int)) = (q : Int) - (F : Int) ∧ wrap64 ((q : Int) - (F : Int)) = (q : Int) - (F : Int) ∧ decide ((q : Int) - (F : Int) < (N : Int)) = true) := by
  by_cases h1 : q < F
  · exact .inl ⟨h1, decide_eq_false (by omega)⟩
  · by_cases h2 : q < F + N
    · exact .inr (.inr ⟨by omega, h2, decide_eq_true (by omega), IntWalk.i64_in _ (by omega), IntWalk.wrap64_in _ ⟨by omega, by omega⟩, decide_eq_true (by omega)⟩)
    · exact .inr (.inl ⟨by omega, decide_eq_true (by omega), IntWalk.i64_in _ (by omega), IntWalk.wrap64_in _ ⟨by omega, by omega⟩, decide_eq_false (by omega)⟩)
/-- what Who tells of place q, when all of F .. F + N - 1 are given to o -/
theorem who_facts {X G : List Int} {F N q : Nat} {o u : Int} (hl : G.length = X.length) (hgd : ∀ q, G.getD q 0 = if F ≤ q ∧ q < F + N then o else X.getD q 0) (hu : ∀ j, j < N → X.getD (F + j) 0 < 0) (ho : 0 ≤ o) (hq : q < X.length) (hx : X.getD q 0 = u) :
    (F ≤ q → q < F + N → u < 0 ∧ whoRB (q : Int) G = true ∧ whoRW (q : Int) G = o) ∧
    (q < F ∨ F + N ≤ q → (0 ≤ u → whoRB (q : Int) G = true ∧ whoRW (q : Int) G = u) ∧ (u < 0 → whoRB (q : Int) G = false ∧ whoRW (q : Int) G = 0)) := by
  have hb := who_at (L := G) (a := q) (u := G.getD q 0) (by omega) rfl
  constructor
  · intro h1 h2
    have e : G.getD q 0 = o := by rw [hgd, if_pos ⟨h1, h2⟩]
    have hneg := hu (q - F) (by omega)
    rw [show F + (q - F) = q by omega, hx] at hneg
    rw [e, if_pos ho, decide_eq_true ho] at hb
    exact ⟨hneg, hb⟩
  · intro h
    have e : G.getD q 0 = u := by rw [hgd, if_neg (by omega), hx]
    rw [e] at hb
    refine ⟨fun h0 => ?_, fun h0 => ?_⟩
    · rwa [if_pos h0, decide_eq_true h0] at hb
    · rwa [if_neg (by omega), decide_eq_false (by omega)] at hb

set_option maxRecDepth 100000 in
set_option maxHeartbeats 40000000 in
theorem once_any (n : Int) (a b c : Option Addr) (n1 c1 n2 c2 n3 c3 : Nat) (fs ms os : List Int) (w : World) (hn0 : 0 ≤ n) (hn1 : n < 256) (h1 : RowK .i64 w w.heap.size a n1 fs) (h2 : RowK .i64 w w.heap.size b n2 ms) (h3 : RowK .i64 w w.heap.size c n3 os)
    (hm : ∀ z ∈ ms, -9223372036854775808 ≤ z ∧ z < 9223372036854775808) :
    Calls Try.prog 3 #[.int .u8 n, .slice a n1 c1, .slice b n2 c2, .slice c n3 c3] w fun e w' => e = .returned (.bool true) ∧ Below w.heap.size w w' := by
  have H1 := Lib.hid h1
  have H2 := Lib.hid h2
  have H3 := Lib.hid h3
  have HM := Lib.hid hm
  clear h1 h2 h3 hm
  obtain ⟨KK, hK⟩ : ∃ KK : Nat, n % 65 = (KK : Int) := ⟨(n % 65).toNat, by omega⟩
  have hK64 : KK ≤ 64 := by omega
  go_enter Try.func3, Try.ntmps3
  go_wp2_with fail
  refine (tab_new KK _ hK64).mono ?_
  rintro e w1 ⟨bt, rfl, hT, hbt, hb1⟩
  have HT := Lib.hid hT
  clear hT hK
  go_wp2
  go_loopw [11] (fun i wr => ∃ (k : Nat) (X : List Int), i = .int .i64 k ∧ k ≤ 60 ∧ Tab wr bt X ∧ Okay X ∧ Below w.heap.size w wr) (fun i _ => 60 - (intOf i).toNat)
  case atStart => exact ⟨0, _, rfl, by omega, HT.out, rep_okay KK hK64, hb1⟩
  case round =>
    clear HT hb1 hK64
    obtain ⟨k, X, rfl, hk, hTX, hOX, hb⟩ := hrel
    have HTX := Lib.hid hTX
    have HOX := Lib.hid hOX
    clear hTX hOX
    by_cases k1 : k < n1
    · by_cases k2 : k < n2
      · by_cases k3 : k < n3
        · by_cases k4 : k < 60
          · obtain ⟨gx, rfl, px, hx⟩ := H1.out.2 k k1
            obtain ⟨gy, rfl, py, hy⟩ := H2.out.2 k k2
            obtain ⟨gz, rfl, pz, hz⟩ := H3.out.2 k k3
            have hmb := HM.out (ms.getD k 0) (by
              have hlt : k < ms.length := by rw [H2.out.1]; exact k2
              rw [List.getD_eq_getElem?_getD, List.getElem?_eq_getElem hlt]
              exact List.getElem_mem hlt)
            obtain ⟨f, hf⟩ : ∃ f, f = fs.getD k 0 := ⟨_, rfl⟩
            obtain ⟨m, hm⟩ : ∃ m, m = ms.getD k 0 := ⟨_, rfl⟩
            obtain ⟨o, ho⟩ : ∃ o, o = os.getD k 0 := ⟨_, rfl⟩
            rw [← hf] at hx
            rw [← hm] at hy hmb
            rw [← ho] at hz
            clear hf hm ho
            have HX : Hid (∀ W', Below w.heap.size w W' → W'.cell? (gx.add k) = some (.int .i64 f)) := Lib.hid fun W' h => (h.cell (p := gx.add k) (by rw [block_of_add]; exact px)).trans hx
            have HY : Hid (∀ W', Below w.heap.size w W' → W'.cell? (gy.add k) = some (.int .i64 m)) := Lib.hid fun W' h => (h.cell (p := gy.add k) (by rw [block_of_add]; exact py)).trans hy
            have HZ : Hid (∀ W', Below w.heap.size w W' → W'.cell? (gz.add k) = some (.int .i64 o)) := Lib.hid fun W' h => (h.cell (p := gz.add k) (by rw [block_of_add]; exact pz)).trans hz
            clear hx hy hz px py pz
            have b0 : (0 : Int) ≤ (k : Int) := by omega
            have b1 : (k : Int) < (n1 : Int) := by omega
            have b2 : (k : Int) < (n2 : Int) := by omega
            have b3 : (k : Int) < (n3 : Int) := by omega
            go_wp2_with fail
            refine (tab_runs HTX.out HOX.out).mono ?_
            rintro e w4 ⟨v, rs, rfl, hnm, ho, hb4⟩
            have HNm := Lib.hid hnm
            have hbd4 := hb.trans (hb4.mono hb.size)
            have HT4 := Lib.hid (HTX.out.below hb4)
            have HO4 := Lib.hid ho
            have hbw : bt < wr.heap.size := by obtain ⟨cc, hcc⟩ := HTX.out.block; exact (Array.getElem?_eq_some_iff.1 hcc).1
            have HNE : Hid (v.ownBlock ≠ some bt) := Lib.hid fun e => by have := (OwnS.at_least ho e).1; omega
            clear hnm ho hb4 HTX hbw
            go_wp2_with fail
            refine (tab_free HT4.out HOX.out).mono ?_
            rintro e w5 ⟨rfl, hb5⟩
            have HT5 := Lib.hid (HT4.out.below hb5)
            have hbd5 := hbd4.trans (hb5.mono hbd4.size)
            have HO5 := Lib.hid (HO4.out.below hb5)
            clear HO4
            have c1 := HX.out _ hbd5
            have c2 := HY.out _ hbd5
            have c3 := HZ.out _ hbd5
            go_wp2
            go_still_tail 13, (by kernel_rfl)
            change wpList _ _ _ _ _ w5.drew
            have HTd : Hid (Tab w5.drew bt X) := HT5
            have hbd6 : Below w.heap.size w w5.drew := hbd5.drew
            have HOd : Hid (OwnS w5.drew wr.heap.size v rs) := HO5
            obtain ⟨W2, hW2⟩ : ∃ W2, w5.drew = W2 := ⟨_, rfl⟩
            rw [hW2] at HTd hbd6 HOd ⊢
            clear hW2 hb5 hbd5 HT5 HO5 c1 c2 c3
            rcases giveL_cases X f m o with ⟨_, hE, hL⟩ | ⟨F, N, rfl, rfl, q1, q2, q3, q4, ⟨_, hE, hL⟩ | ⟨hu, hE, hL⟩⟩
            · have HG := Lib.hid (show Calls Try.prog 11 #[.pointer (some ⟨bt, 0, none⟩), .int .i64 f, .int .i64 m, .int .i64 o] W2 fun e W' => e = .returned (.int .i64 1) ∧ Tab W' bt X ∧ W2.grownBy W' (some bt) by have h := tab_give HTd.out HOX.out f m o hmb; rwa [hE, hL] at h)
              have hE1 : (1 : Int) ≠ 0 := by decide
              generalize (1 : Int) = ec at HG hE1
              clear hE hL
              as_aux_lemma =>
                go_wp2_with fail
                refine HG.out.mono ?_
                rintro e w6 ⟨rfl, hT6, hg6⟩
                have HT6 := Lib.hid hT6
                have hbd7 := hbd6.grown hg6 hbd6.size (fun q e => by injection e with e; omega)
                have HR6 : Hid (RowS w6 w6.heap.size v rs) := Lib.hid (OwnS.row (World.ownsRow.kept HOd.out hg6 (.inr HNE.out)))
                clear hT6 hg6 HOd HTd HG hbd6
                go_wp2_with fail
                refine (tab_runs HT6.out HOX.out).mono ?_
                rintro e w7 ⟨v', rs', rfl, hnm', ho', hb'⟩
                obtain rfl := Fw.unique HNm.out hnm'
                have HR7 := Lib.hid ho'.row
                have HT7 := Lib.hid (HT6.out.below hb')
                have hbd8 := hbd7.trans (hb'.mono hbd7.size)
                have hR67 : Hid (RowS w7 w6.heap.size v rs) := Lib.hid (HR6.out.below hb')
                have hs67 : w6.heap.size ≤ w7.heap.size := hb'.size
                have hrl : rs.length ≤ 100000 := by have h1 := nm_length HNm.out; have h2 := HOX.out.1; omega
                clear HT6 HR6 hnm' ho' hb' hbd7
                go_wp2_with fail
                refine (runs_same v v' w6.heap.size w7.heap.size rs w7 hrl hs67 (Nat.le_refl _) hR67.out HR7.out).mono ?_
                rintro e w8 ⟨rfl, hb'⟩
                have HT8 := Lib.hid (HT7.out.below hb')
                have hbd9 := hbd8.trans (hb'.mono hbd8.size)
                clear HT7 HR7 hR67 hb' hbd8
                go_wp2_with fail
                refine (tab_free HT8.out HOX.out).mono ?_
                rintro e w9 ⟨rfl, hb'⟩
                have HT9 := Lib.hid (HT8.out.below hb')
                have hbd10 := hbd9.trans (hb'.mono hbd9.size)
                clear HT8 hb' hbd9
                go_wp2
                go_roundw
                case rel => exact ⟨k + 1, X, by go_num, by omega, HT9.out, HOX.out, hbd10⟩
                case measure => simp [intOf]; omega
            · have HG := Lib.hid (show Calls Try.prog 11 #[.pointer (some ⟨bt, 0, none⟩), .int .i64 (F : Int), .int .i64 (N : Int), .int .i64 o] W2 fun e W' => e = .returned (.int .i64 5) ∧ Tab W' bt X ∧ W2.grownBy W' (some bt) by have h := tab_give HTd.out HOX.out F N o hmb; rwa [hE, hL] at h)
              have hE1 : (5 : Int) ≠ 0 := by decide
              generalize (5 : Int) = ec at HG hE1
              clear hE hL
              as_aux_lemma =>
                go_wp2_with fail
                refine HG.out.mono ?_
                rintro e w6 ⟨rfl, hT6, hg6⟩
                have HT6 := Lib.hid hT6
                have hbd7 := hbd6.grown hg6 hbd6.size (fun q e => by injection e with e; omega)
                have HR6 : Hid (RowS w6 w6.heap.size v rs) := Lib.hid (OwnS.row (World.ownsRow.kept HOd.out hg6 (.inr HNE.out)))
                clear hT6 hg6 HOd HTd HG hbd6
                go_wp2_with fail
                refine (tab_runs HT6.out HOX.out).mono ?_
                rintro e w7 ⟨v', rs', rfl, hnm', ho', hb'⟩
                obtain rfl := Fw.unique HNm.out hnm'
                have HR7 := Lib.hid ho'.row
                have HT7 := Lib.hid (HT6.out.below hb')
                have hbd8 := hbd7.trans (hb'.mono hbd7.size)
                have hR67 : Hid (RowS w7 w6.heap.size v rs) := Lib.hid (HR6.out.below hb')
                have hs67 : w6.heap.size ≤ w7.heap.size := hb'.size
                have hrl : rs.length ≤ 100000 := by have h1 := nm_length HNm.out; have h2 := HOX.out.1; omega
                clear HT6 HR6 hnm' ho' hb' hbd7
                go_wp2_with fail
                refine (runs_same v v' w6.heap.size w7.heap.size rs w7 hrl hs67 (Nat.le_refl _) hR67.out HR7.out).mono ?_
                rintro e w8 ⟨rfl, hb'⟩
                have HT8 := Lib.hid (HT7.out.below hb')
                have hbd9 := hbd8.trans (hb'.mono hbd8.size)
                clear HT7 HR7 hR67 hb' hbd8
                go_wp2_with fail
                refine (tab_free HT8.out HOX.out).mono ?_
                rintro e w9 ⟨rfl, hb'⟩
                have HT9 := Lib.hid (HT8.out.below hb')
                have hbd10 := hbd9.trans (hb'.mono hbd9.size)
                clear HT8 hb' hbd9
                go_wp2
                go_roundw
                case rel => exact ⟨k + 1, X, by go_num, by omega, HT9.out, HOX.out, hbd10⟩
                case measure => simp [intOf]; omega
            · have HG := Lib.hid (show Calls Try.prog 11 #[.pointer (some ⟨bt, 0, none⟩), .int .i64 (F : Int), .int .i64 (N : Int), .int .i64 o] W2 fun e W' => e = .returned (.int .i64 0) ∧ Tab W' bt (setR X F N o) ∧ W2.grownBy W' (some bt) by have h := tab_give HTd.out HOX.out F N o hmb; rwa [hE, hL] at h)
              have hOG : Okay (setR X F N o) := setR_okay HOX.out F N o q2 q3 q4
              have HOG := Lib.hid hOG
              have hcn : cntNeg (setR X F N o) = cntNeg X - N := cntNeg_setR X F N o q2 hu q3
              have HCN := Lib.hid hcn
              have HU := Lib.hid hu
              clear hE hL hOG hcn hu
              have hgd : ∀ q, (setR X F N o).getD q 0 = if F ≤ q ∧ q < F + N then o else X.getD q 0 := fun q => setR_getD X F N o q2 q
              have HGD := Lib.hid hgd
              have hgl : (setR X F N o).length = X.length := setR_length X F N o q2
              have HGL := Lib.hid hgl
              clear hgd hgl
              obtain ⟨G, hG⟩ : ∃ G, G = setR X F N o := ⟨_, rfl⟩
              rw [← hG] at HG HOG HCN HGD HGL
              clear hG
              go_wp2_with fail
              refine HG.out.mono ?_
              rintro e w6 ⟨rfl, hT6, hg6⟩
              have HT6 := Lib.hid hT6
              have hbd7 := hbd6.grown hg6 hbd6.size (fun q e => by injection e with e; omega)
              have HR6 : Hid (RowS w6 w6.heap.size v rs) := Lib.hid (OwnS.row (World.ownsRow.kept HOd.out hg6 (.inr HNE.out)))
              clear hT6 hg6 HOd HTd HG hbd6
              have hcx := cntNeg_bd X
              have HX64 := HOX.out.1
              have HW7 := Lib.hid (IntWalk.i64_in (cntNeg X - N) (by omega))
              go_wp2
              refine wp_region_by (by kernel_rfl)
                (fun y => #[.int .u8 n, .slice (some gx) n1 c1, .slice (some gy) n2 c2, .slice (some gz) n3 c3, undef, undef, undef, undef, u8, .pointer (some ⟨bt, 0, none⟩), .int .i64 0, .int .i64 k, v, .int .i64 (cntNeg X), .int .i64 0, u15, u16, u17, u18, u19, u20, .tuple #[.pointer (some ⟨bt, 0, none⟩), .int .i64 0], .int .u8 n, .int .u8 (n % 65), .int .i64 KK, .tuple #[.pointer (some ⟨bt, 0, none⟩), .int .i64 0], .pointer (some ⟨bt, 0, none⟩), .int .i64 0, .pointer (some ⟨bt, 0, none⟩), .bool false, .bool false, .int .i64 0, .bool false, .bool false, .int .i64 k, .slice (some gx) n1 c1, .int .i64 n1, .bool true, .bool true, .int .i64 k, .slice (some gy) n2 c2, .int .i64 n2, .bool true, .bool true, .bool true, .int .i64 k, .slice (some gz) n3 c3, .int .i64 n3, .bool true, .bool true, .bool true, .int .i64 k, .bool true, .bool true, u54, u55, .pointer (some ⟨bt, 0, none⟩), v, .pointer (some ⟨bt, 0, none⟩), .int .i64 (cntNeg X), .pointer (some ⟨bt, 0, none⟩), .slice (some gx) n1 c1, .int .i64 k, .pointer (some (gx.add k)), .int .i64 F, .slice (some gy) n2 c2, .int .i64 k, .pointer (some (gy.add k)), .int .i64 N, .slice (some gz) n3 c3, .int .i64 k, .pointer (some (gz.add k)), .int .i64 o, .int .i64 0, .int .i64 0, .bool false, u76, u77, u78, u79, u80, u81, u82, u83, u84, u85, u86, y 0, y 1, y 2, y 3, y 4, y 5, y 6, y 7, u95, u96, u97, u98, u99, u100, u101, u102, u103, u104, u105, u106, u107, u108, u109, u110, u111, u112, u113, u114, u115, u116, u117, u118, u119, u120, u121, u122, u123, u124, u125, u126, u127, u128, u129, u130, u131, u132, u133, u134, u135, u136, u137, u138, u139, u140, u141, u142, u143, u144, u145, u146, u147, u148, u149, u150, u151, u152, u153, u154, u155, u156, u157, u158, u159, u160, u161, u162, u163, u164, u165, u166, u167, u168, u169, u170, u171, u172, u173, u174, u175, u176, u177, u178, u179, u180, u181, u182, u183, u184, u185, u186, u187, u188, u189, u190, u191, u192, u193, u194, u195, u196, u197, u198, undef])
                (fun j v _ => match j with | 0 => v = .pointer (some ⟨bt, 0, none⟩) | 1 => v = .int .i64 (cntNeg X - N) | 2 => v = .int .i64 (cntNeg X) | 3 => v = .slice (some gy) n2 c2 | 4 => v = .int .i64 k | 5 => v = .pointer (some (gy.add k)) | 6 => v = .int .i64 N | 7 => v = .int .i64 (cntNeg X - N) | _ => True)
                (fun _ W' => Below w6.heap.size w6 W') (fun _ _ _ => True) (by kernel_rfl) (by decide) (fun _ _ _ _ _ _ _ _ _ _ _ h => h) (fun j => match j with | 0 => u87 | 1 => u88 | 2 => u89 | 3 => u90 | 4 => u91 | 5 => u92 | 6 => u93 | 7 => u94 | _ => undef) rfl (fun _ _ => (Below.refl _ _).drew) ?_
              refine steps_op [] (by kernel_rfl) (fun L y w' hL hcl HW hd K hK => ?_) ?_
              · go_simp
                exact hK _ _ _ (by simp [upd]) rfl HW trivial
              refine steps_op [0] (by kernel_rfl) (fun L y w' hL hcl HW hd K hK => ?_) ?_
              · have e0 : y 0 = .pointer (some ⟨bt, 0, none⟩) := hd 0 (by simp)
                go_simp
                refine (tab_free (HT6.out.below HW) HOG.out).mono ?_
                rintro e W3 ⟨rfl, hq⟩
                exact hK (.int .i64 (cntNeg X - N)) _ _ (by simp [upd, e0, HCN.out]) rfl (HW.trans (hq.mono HW.size)) trivial
              refine steps_op [] (by kernel_rfl) (fun L y w' hL hcl HW hd K hK => ?_) ?_
              · go_simp
                exact hK _ _ _ (by simp [upd]) rfl HW trivial
              refine steps_op [] (by kernel_rfl) (fun L y w' hL hcl HW hd K hK => ?_) ?_
              · go_simp
                exact hK _ _ _ (by simp [upd]) rfl HW trivial
              refine steps_op [] (by kernel_rfl) (fun L y w' hL hcl HW hd K hK => ?_) ?_
              · go_simp
                exact hK _ _ _ (by simp [upd]) rfl HW trivial
              refine steps_op [3, 4] (by kernel_rfl) (fun L y w' hL hcl HW hd K hK => ?_) ?_
              · have e3 : y 3 = .slice (some gy) n2 c2 := hd 3 (by simp)
                have e4 : y 4 = .int .i64 k := hd 4 (by simp)
                go_simp
                exact hK _ _ _ (by simp [upd, e3, e4]) rfl HW trivial
              refine steps_op [5] (by kernel_rfl) (fun L y w' hL hcl HW hd K hK => ?_) ?_
              · have e5 : y 5 = .pointer (some (gy.add k)) := hd 5 (by simp)
                have c1 := HY.out _ (hbd7.trans (HW.mono hbd7.size))
                go_simp
                exact hK _ _ _ (by simp [upd, e5]) rfl HW trivial
              refine steps_op [2, 6] (by kernel_rfl) (fun L y w' hL hcl HW hd K hK => ?_) ?_
              · have e2 : y 2 = .int .i64 (cntNeg X) := hd 2 (by simp)
                have e6 : y 6 = .int .i64 N := hd 6 (by simp)
                go_simp
                exact hK _ _ _ (by simp [upd, e2, e6, HW7.out]) rfl HW trivial
              refine steps_last fun L y w' hL hLs HW hd K hK => ?_
              have e0 : y 0 = .pointer (some ⟨bt, 0, none⟩) := hd 0 (by omega)
              have e1 : y 1 = .int .i64 (cntNeg X - N) := hd 1 (by omega)
              have e2 : y 2 = .int .i64 (cntNeg X) := hd 2 (by omega)
              have e3 : y 3 = .slice (some gy) n2 c2 := hd 3 (by omega)
              have e4 : y 4 = .int .i64 k := hd 4 (by omega)
              have e5 : y 5 = .pointer (some (gy.add k)) := hd 5 (by omega)
              have e6 : y 6 = .int .i64 N := hd 6 (by omega)
              have e7 : y 7 = .int .i64 (cntNeg X - N) := hd 7 (by omega)
              go_simp
              refine hK _ _ ?_
              have hbe := hbd7.trans (HW.mono hbd7.size)
              have HTE : Hid (Tab w' bt G) := Lib.hid (HT6.out.below HW)
              have hcell := rowS_form (HR6.out.below HW)
              have hs6 : w6.heap.size ≤ w'.heap.size := HW.size
              clear hd hLs hL L hK HW e0 e1 e2 e3 e4 e5 e6 e7
              clear HR6 HT6 hbd7 HCN HW7 hcx
              rcases hcell with ⟨g, cap, rfl, hl1, hl2, hg, hcs⟩ | ⟨rfl, hnil⟩
              · obtain ⟨len, hlen⟩ : ∃ len, len = rs.length := ⟨_, rfl⟩
                rw [← hlen] at hl1 hcs ⊢
                have HC := Lib.hid hcs
                have HLen := Lib.hid hlen
                have hg' : g < w'.heap.size := by omega
                clear hcs hlen HNE
                go_wp2
                go_loopw [15] (fun i wj => ∃ jn : Nat, jn ≤ len ∧ i = .int .i64 jn ∧ Below w'.heap.size w' wj) (fun i _ => len - (intOf i).toNat)
                case atStart => exact ⟨0, Nat.zero_le _, rfl, Below.refl _ _⟩
                case round =>
                  obtain ⟨jn, hj, rfl, hbj⟩ := hrel
                  by_cases hlt : jn < len
                  · obtain ⟨a', mm, e1, e2, e3, e4, e5, _, _, _, _⟩ := fw_at HNm.out jn (by have := HLen.out; omega)
                    have HD : Hid ((rs.getD jn default).f = (a' : Int) ∧ (rs.getD jn default).n = (mm : Int)) := Lib.hid ⟨by rw [e1]; omega, e2⟩
                    obtain ⟨u, hu⟩ : ∃ u, u = (rs.getD jn default).w := ⟨_, rfl⟩
                    rw [← hu] at e5
                    have HUw := Lib.hid hu
                    have HE5 := Lib.hid e5
                    clear e1 e2 hu e5
                    have b4 : (0 : Int) ≤ (jn : Int) := by omega
                    have b5 : (jn : Int) < (len : Int) := by omega
                    go_wp2
                    go_loopw [16] (fun i wk => ∃ kk : Nat, kk ≤ mm ∧ i = .int .i64 kk ∧ Below w'.heap.size w' wk) (fun i _ => mm - (intOf i).toNat)
                    case atStart => exact ⟨0, Nat.zero_le _, rfl, hbj⟩
                    case round =>
                      obtain ⟨kk, hkk, rfl, hbk⟩ := hrel
                      obtain ⟨d1, d2, d3⟩ := (HC.out jn hlt).below hg' hbk
                      rw [HD.out.1] at d1
                      rw [HD.out.2] at d2
                      rw [← HUw.out] at d3
                      by_cases hkm : kk < mm
                      · obtain ⟨q, hq1, hq2, hq3, hwa, hwb, k5, k6, hsucc⟩ := at_facts a' mm kk X.length e4 HX64 hkm
                        have hwf := who_facts HGL.out HGD.out HU.out q3 hq1 (HE5.out q hq2 hq3)
                        have hgf := given_facts F N q X.length HX64 q2 hq1
                        have HWF := Lib.hid hwf
                        have HGF := Lib.hid hgf
                        clear hwf hgf hq1 hq2 hq3 hkm hkk e4 e3
                        go_wp2_with fail
                        rcases HGF.out with ⟨hlt1, t1⟩ | ⟨hge, t1, wq1, wq2, t2⟩ | ⟨hge, hlt2, t1, wq1, wq2, t2⟩
                        · have p1 := of_decide_eq_false t1
                          have p1n : ¬ F ≤ q := Nat.not_le.2 hlt1
                          by_cases h0 : 0 ≤ u
                          · have hwho := (HWF.out.2 (.inl hlt1)).1 h0
                            have h0' : ¬ u < 0 := Int.not_lt.2 h0
                            have HW1 : Hid (∀ W, Below w'.heap.size w' W → Calls Try.prog 13 #[.pointer (some ⟨bt, 0, none⟩), .int .i64 (q : Int)] W fun e W' => e = .returned (.tuple #[.int .i64 u, .bool true]) ∧ Below W.heap.size W W') := Lib.hid fun W hbW => by
                              have h := tab_who (HTE.out.below hbW) HOG.out (q : Int)
                              rwa [hwho.1, hwho.2] at h
                            clear hwho
                            refine (HW1.out _ hbk).mono ?_
                            rintro e w8 ⟨rfl, hb8⟩
                            have hb9 := hbk.trans (hb8.mono hbk.size)
                            have hbe9 := hbe.trans (hb9.mono hbe.size)
                            obtain ⟨d1, _, _⟩ := (HC.out jn hlt).below hg' hb9
                            rw [HD.out.1] at d1
                            clear hb8 HW1
                            go_wp2
                            clear d1
                            apply wp_region_auto [134, 135, 136, 137, 138, 139, 140, 141, 142, 143, 144, 145, 146, 147, 148, 149, 150, 151, 152] [_, _, _, _, _, _, _, _, _, _, _, _, _, _, _, _, _, _, _] (fun W' => Below w8.heap.size w8 W')
                            case hm => kernel_rfl
                            case hT => intro y; simp only [setAll, List.setIfInBounds_toArray, List.set_cons_succ, List.set_cons_zero]; exact rfl
                            case hok => kernel_rfl
                            case hn => decide
                            case hw => exact (Below.refl _ _).drew
                            case hs =>
                              refine auto_op 134 [] (by kernel_rfl) (fun y w' HW hd K hK => ?_) ?_
                              · go_simp
                                refine hK _ _ ?_ ?_ HW
                                · simp [upd]
                                · exact rfl
                              refine auto_op 135 [] (by kernel_rfl) (fun y w' HW hd K hK => ?_) ?_
                              · go_simp
                                refine hK _ _ ?_ ?_ HW
                                · simp [upd]
                                · exact rfl
                              refine auto_op 136 [] (by kernel_rfl) (fun y w' HW hd K hK => ?_) ?_
                              · go_simp
                                refine hK _ _ ?_ ?_ HW
                                · simp [upd]
                                · exact rfl
                              refine auto_op 137 [1, 2] (by kernel_rfl) (fun y w' HW hd K hK => ?_) ?_
                              · have e1 := hd_nth (hd 1 (by simp)) rfl
                                have e2 := hd_nth (hd 2 (by simp)) rfl
                                go_simp
                                refine hK _ _ ?_ ?_ HW
                                · simp [upd, e1, e2]
                                · exact rfl
                              refine auto_op 138 [3] (by kernel_rfl) (fun y w' HW hd K hK => ?_) ?_
                              · have e3 := hd_nth (hd 3 (by simp)) rfl
                                have hcl : ∀ p : Addr, p.block < w8.heap.size → w'.cell? p = w8.cell? p := fun p hp => HW.cell hp
                                have m1 := HX.out _ (hbe9.trans (HW.mono hbe9.size))
                                go_simp
                                refine hK _ _ ?_ ?_ HW
                                · simp [upd, e3]
                                · exact rfl
                              refine auto_op 139 [0, 4] (by kernel_rfl) (fun y w' HW hd K hK => ?_) ?_
                              · have e0 := hd_nth (hd 0 (by simp)) rfl
                                have e4 := hd_nth (hd 4 (by simp)) rfl
                                go_simp
                                refine hK _ _ ?_ ?_ HW
                                · simp [upd, e0, e4]
                                · exact rfl
                              refine auto_op 140 [5] (by kernel_rfl) (fun y w' HW hd K hK => ?_) ?_
                              · have e5 := hd_nth (hd 5 (by simp)) rfl
                                go_simp
                                refine hK _ _ ?_ ?_ HW
                                · simp [upd, e5]
                                · exact rfl
                              refine auto_op 141 [6] (by kernel_rfl) (fun y w' HW hd K hK => ?_) ?_
                              · have e6 := hd_nth (hd 6 (by simp)) rfl
                                go_simp
                                refine hK _ _ ?_ ?_ HW
                                · simp [upd, e6]
                                · exact rfl
                              refine auto_op 142 [6] (by kernel_rfl) (fun y w' HW hd K hK => ?_) ?_
                              · have e6 := hd_nth (hd 6 (by simp)) rfl
                                go_simp
                                refine hK _ _ ?_ ?_ HW
                                · simp [upd, e6]
                                · exact rfl
                              refine auto_op 143 [6] (by kernel_rfl) (fun y w' HW hd K hK => ?_) ?_
                              · have e6 := hd_nth (hd 6 (by simp)) rfl
                                go_simp
                                refine hK _ _ ?_ ?_ HW
                                · simp [upd, e6]
                                · exact rfl
                              refine auto_op 144 [8, 9, 6] (by kernel_rfl) (fun y w' HW hd K hK => ?_) ?_
                              · have e6 := hd_nth (hd 6 (by simp)) rfl
                                have e8 := hd_nth (hd 8 (by simp)) rfl
                                have e9 := hd_nth (hd 9 (by simp)) rfl
                                go_simp
                                refine hK _ _ ?_ ?_ HW
                                · simp [upd, e6, e8, e9]
                                · exact rfl
                              refine auto_op 145 [10, 6] (by kernel_rfl) (fun y w' HW hd K hK => ?_) ?_
                              · have e6 := hd_nth (hd 6 (by simp)) rfl
                                have e10 := hd_nth (hd 10 (by simp)) rfl
                                have hcl : ∀ p : Addr, p.block < w8.heap.size → w'.cell? p = w8.cell? p := fun p hp => HW.cell hp
                                go_simp
                                refine hK _ _ ?_ ?_ HW
                                · simp [upd, e6, e10]
                                · exact rfl
                              refine auto_op 146 [7, 11, 6] (by kernel_rfl) (fun y w' HW hd K hK => ?_) ?_
                              · have e6 := hd_nth (hd 6 (by simp)) rfl
                                have e7 := hd_nth (hd 7 (by simp)) rfl
                                have e11 := hd_nth (hd 11 (by simp)) rfl
                                go_simp
                                refine hK _ _ ?_ ?_ HW
                                · simp [upd, e6, e7, e11]
                                · exact rfl
                              refine auto_op 147 [6] (by kernel_rfl) (fun y w' HW hd K hK => ?_) ?_
                              · have e6 := hd_nth (hd 6 (by simp)) rfl
                                go_simp
                                refine hK _ _ ?_ ?_ HW
                                · simp [upd, e6]
                                · exact rfl
                              refine auto_op 148 [6] (by kernel_rfl) (fun y w' HW hd K hK => ?_) ?_
                              · have e6 := hd_nth (hd 6 (by simp)) rfl
                                go_simp
                                refine hK _ _ ?_ ?_ HW
                                · simp [upd, e6]
                                · exact rfl
                              refine auto_op 149 [13, 14, 6] (by kernel_rfl) (fun y w' HW hd K hK => ?_) ?_
                              · have e6 := hd_nth (hd 6 (by simp)) rfl
                                have e13 := hd_nth (hd 13 (by simp)) rfl
                                have e14 := hd_nth (hd 14 (by simp)) rfl
                                go_simp
                                refine hK _ _ ?_ ?_ HW
                                · simp [upd, e6, e13, e14]
                                · exact rfl
                              refine auto_op 150 [15, 6] (by kernel_rfl) (fun y w' HW hd K hK => ?_) ?_
                              · have e6 := hd_nth (hd 6 (by simp)) rfl
                                have e15 := hd_nth (hd 15 (by simp)) rfl
                                have hcl : ∀ p : Addr, p.block < w8.heap.size → w'.cell? p = w8.cell? p := fun p hp => HW.cell hp
                                go_simp
                                refine hK _ _ ?_ ?_ HW
                                · simp [upd, e6, e15]
                                · exact rfl
                              refine auto_op 151 [12, 16, 6] (by kernel_rfl) (fun y w' HW hd K hK => ?_) ?_
                              · have e6 := hd_nth (hd 6 (by simp)) rfl
                                have e12 := hd_nth (hd 12 (by simp)) rfl
                                have e16 := hd_nth (hd 16 (by simp)) rfl
                                go_simp
                                refine hK _ _ ?_ ?_ HW
                                · simp [upd, e6, e12, e16]
                                · exact rfl
                              refine auto_op 152 [6, 17] (by kernel_rfl) (fun y w' HW hd K hK => ?_) ?_
                              · have e6 := hd_nth (hd 6 (by simp)) rfl
                                have e17 := hd_nth (hd 17 (by simp)) rfl
                                go_simp
                                refine hK _ _ ?_ ?_ HW
                                · simp [upd, e6, e17]
                                · exact rfl
                              refine auto_last fun y w' HW hd K hK => ?_
                              have e0 := hd_nth (hd 0 (by omega)) rfl
                              have e1 := hd_nth (hd 1 (by omega)) rfl
                              have e2 := hd_nth (hd 2 (by omega)) rfl
                              have e3 := hd_nth (hd 3 (by omega)) rfl
                              have e4 := hd_nth (hd 4 (by omega)) rfl
                              have e5 := hd_nth (hd 5 (by omega)) rfl
                              have e6 := hd_nth (hd 6 (by omega)) rfl
                              have e7 := hd_nth (hd 7 (by omega)) rfl
                              have e8 := hd_nth (hd 8 (by omega)) rfl
                              have e9 := hd_nth (hd 9 (by omega)) rfl
                              have e10 := hd_nth (hd 10 (by omega)) rfl
                              have e11 := hd_nth (hd 11 (by omega)) rfl
                              have e12 := hd_nth (hd 12 (by omega)) rfl
                              have e13 := hd_nth (hd 13 (by omega)) rfl
                              have e14 := hd_nth (hd 14 (by omega)) rfl
                              have e15 := hd_nth (hd 15 (by omega)) rfl
                              have e16 := hd_nth (hd 16 (by omega)) rfl
                              have e17 := hd_nth (hd 17 (by omega)) rfl
                              have e18 := hd_nth (hd 18 (by omega)) rfl
                              go_simp
                              refine hK _ _ ?_
                              have hbN := hb9.trans (HW.mono hb9.size)
                              have hbf := hbe9.trans (HW.mono hbe9.size)
                              have f1 := HX.out _ hbf
                              have f2 := HY.out _ hbf
                              have f4 := HZ.out _ hbf
                              obtain ⟨z1, z2, f3⟩ := (HC.out jn hlt).below hg' hbN
                              rw [← HUw.out] at f3
                              clear z1 z2 hbf
                              clear hd K hK HW hb9 hbe9 e0 e1 e2 e3 e4 e5 e6 e7 e8 e9 e10 e11 e12 e13 e14 e15 e16 e17 e18
                              go_wp2
                              go_roundw
                              case rel => exact ⟨kk + 1, hsucc, by go_num, hbN⟩
                              case measure => exact meas _ _ hsucc
                          · have h0' : u < 0 := Int.not_le.1 h0
                            have hwho := (HWF.out.2 (.inl hlt1)).2 h0'
                            have HW1 : Hid (∀ W, Below w'.heap.size w' W → Calls Try.prog 13 #[.pointer (some ⟨bt, 0, none⟩), .int .i64 (q : Int)] W fun e W' => e = .returned (.tuple #[.int .i64 0, .bool false]) ∧ Below W.heap.size W W') := Lib.hid fun W hbW => by
                              have h := tab_who (HTE.out.below hbW) HOG.out (q : Int)
                              rwa [hwho.1, hwho.2] at h
                            clear hwho
                            refine (HW1.out _ hbk).mono ?_
                            rintro e w8 ⟨rfl, hb8⟩
                            have hb9 := hbk.trans (hb8.mono hbk.size)
                            have hbe9 := hbe.trans (hb9.mono hbe.size)
                            obtain ⟨d1, _, _⟩ := (HC.out jn hlt).below hg' hb9
                            rw [HD.out.1] at d1
                            clear hb8 HW1
                            go_wp2
                            clear d1
                            apply wp_region_auto [134, 135, 136, 137, 138, 139, 140, 141, 142, 143, 144, 145, 146, 147, 148, 149, 150, 151, 152] [_, _, _, _, _, _, _, _, _, _, _, _, _, _, _, _, _, _, _] (fun W' => Below w8.heap.size w8 W')
                            case hm => kernel_rfl
                            case hT => intro y; simp only [setAll, List.setIfInBounds_toArray, List.set_cons_succ, List.set_cons_zero]; exact rfl
                            case hok => kernel_rfl
                            case hn => decide
                            case hw => exact (Below.refl _ _).drew
                            case hs =>
                              refine auto_op 134 [] (by kernel_rfl) (fun y w' HW hd K hK => ?_) ?_
                              · go_simp
                                refine hK _ _ ?_ ?_ HW
                                · simp [upd]
                                · exact rfl
                              refine auto_op 135 [] (by kernel_rfl) (fun y w' HW hd K hK => ?_) ?_
                              · go_simp
                                refine hK _ _ ?_ ?_ HW
                                · simp [upd]
                                · exact rfl
                              refine auto_op 136 [] (by kernel_rfl) (fun y w' HW hd K hK => ?_) ?_
                              · go_simp
                                refine hK _ _ ?_ ?_ HW
                                · simp [upd]
                                · exact rfl
                              refine auto_op 137 [1, 2] (by kernel_rfl) (fun y w' HW hd K hK => ?_) ?_
                              · have e1 := hd_nth (hd 1 (by simp)) rfl
                                have e2 := hd_nth (hd 2 (by simp)) rfl
                                go_simp
                                refine hK _ _ ?_ ?_ HW
                                · simp [upd, e1, e2]
                                · exact rfl
                              refine auto_op 138 [3] (by kernel_rfl) (fun y w' HW hd K hK => ?_) ?_
                              · have e3 := hd_nth (hd 3 (by simp)) rfl
                                have hcl : ∀ p : Addr, p.block < w8.heap.size → w'.cell? p = w8.cell? p := fun p hp => HW.cell hp
                                have m1 := HX.out _ (hbe9.trans (HW.mono hbe9.size))
                                go_simp
                                refine hK _ _ ?_ ?_ HW
                                · simp [upd, e3]
                                · exact rfl
                              refine auto_op 139 [0, 4] (by kernel_rfl) (fun y w' HW hd K hK => ?_) ?_
                              · have e0 := hd_nth (hd 0 (by simp)) rfl
                                have e4 := hd_nth (hd 4 (by simp)) rfl
                                go_simp
                                refine hK _ _ ?_ ?_ HW
                                · simp [upd, e0, e4]
                                · exact rfl
                              refine auto_op 140 [5] (by kernel_rfl) (fun y w' HW hd K hK => ?_) ?_
                              · have e5 := hd_nth (hd 5 (by simp)) rfl
                                go_simp
                                refine hK _ _ ?_ ?_ HW
                                · simp [upd, e5]
                                · exact rfl
                              refine auto_op 141 [6] (by kernel_rfl) (fun y w' HW hd K hK => ?_) ?_
                              · have e6 := hd_nth (hd 6 (by simp)) rfl
                                go_simp
                                refine hK _ _ ?_ ?_ HW
                                · simp [upd, e6]
                                · exact rfl
                              refine auto_op 142 [6] (by kernel_rfl) (fun y w' HW hd K hK => ?_) ?_
                              · have e6 := hd_nth (hd 6 (by simp)) rfl
                                go_simp
                                refine hK _ _ ?_ ?_ HW
                                · simp [upd, e6]
                                · exact rfl
                              refine auto_op 143 [6] (by kernel_rfl) (fun y w' HW hd K hK => ?_) ?_
                              · have e6 := hd_nth (hd 6 (by simp)) rfl
                                go_simp
                                refine hK _ _ ?_ ?_ HW
                                · simp [upd, e6]
                                · exact rfl
                              refine auto_op 144 [8, 9, 6] (by kernel_rfl) (fun y w' HW hd K hK => ?_) ?_
                              · have e6 := hd_nth (hd 6 (by simp)) rfl
                                have e8 := hd_nth (hd 8 (by simp)) rfl
                                have e9 := hd_nth (hd 9 (by simp)) rfl
                                go_simp
                                refine hK _ _ ?_ ?_ HW
                                · simp [upd, e6, e8, e9]
                                · exact rfl
                              refine auto_op 145 [10, 6] (by kernel_rfl) (fun y w' HW hd K hK => ?_) ?_
                              · have e6 := hd_nth (hd 6 (by simp)) rfl
                                have e10 := hd_nth (hd 10 (by simp)) rfl
                                have hcl : ∀ p : Addr, p.block < w8.heap.size → w'.cell? p = w8.cell? p := fun p hp => HW.cell hp
                                go_simp
                                refine hK _ _ ?_ ?_ HW
                                · simp [upd, e6, e10]
                                · exact rfl
                              refine auto_op 146 [7, 11, 6] (by kernel_rfl) (fun y w' HW hd K hK => ?_) ?_
                              · have e6 := hd_nth (hd 6 (by simp)) rfl
                                have e7 := hd_nth (hd 7 (by simp)) rfl
                                have e11 := hd_nth (hd 11 (by simp)) rfl
                                go_simp
                                refine hK _ _ ?_ ?_ HW
                                · simp [upd, e6, e7, e11]
                                · exact rfl
                              refine auto_op 147 [6] (by kernel_rfl) (fun y w' HW hd K hK => ?_) ?_
                              · have e6 := hd_nth (hd 6 (by simp)) rfl
                                go_simp
                                refine hK _ _ ?_ ?_ HW
                                · simp [upd, e6]
                                · exact rfl
                              refine auto_op 148 [6] (by kernel_rfl) (fun y w' HW hd K hK => ?_) ?_
                              · have e6 := hd_nth (hd 6 (by simp)) rfl
                                go_simp
                                refine hK _ _ ?_ ?_ HW
                                · simp [upd, e6]
                                · exact rfl
                              refine auto_op 149 [13, 14, 6] (by kernel_rfl) (fun y w' HW hd K hK => ?_) ?_
                              · have e6 := hd_nth (hd 6 (by simp)) rfl
                                have e13 := hd_nth (hd 13 (by simp)) rfl
                                have e14 := hd_nth (hd 14 (by simp)) rfl
                                go_simp
                                refine hK _ _ ?_ ?_ HW
                                · simp [upd, e6, e13, e14]
                                · exact rfl
                              refine auto_op 150 [15, 6] (by kernel_rfl) (fun y w' HW hd K hK => ?_) ?_
                              · have e6 := hd_nth (hd 6 (by simp)) rfl
                                have e15 := hd_nth (hd 15 (by simp)) rfl
                                have hcl : ∀ p : Addr, p.block < w8.heap.size → w'.cell? p = w8.cell? p := fun p hp => HW.cell hp
                                go_simp
                                refine hK _ _ ?_ ?_ HW
                                · simp [upd, e6, e15]
                                · exact rfl
                              refine auto_op 151 [12, 16, 6] (by kernel_rfl) (fun y w' HW hd K hK => ?_) ?_
                              · have e6 := hd_nth (hd 6 (by simp)) rfl
                                have e12 := hd_nth (hd 12 (by simp)) rfl
                                have e16 := hd_nth (hd 16 (by simp)) rfl
                                go_simp
                                refine hK _ _ ?_ ?_ HW
                                · simp [upd, e6, e12, e16]
                                · exact rfl
                              refine auto_op 152 [6, 17] (by kernel_rfl) (fun y w' HW hd K hK => ?_) ?_
                              · have e6 := hd_nth (hd 6 (by simp)) rfl
                                have e17 := hd_nth (hd 17 (by simp)) rfl
                                go_simp
                                refine hK _ _ ?_ ?_ HW
                                · simp [upd, e6, e17]
                                · exact rfl
                              refine auto_last fun y w' HW hd K hK => ?_
                              have e0 := hd_nth (hd 0 (by omega)) rfl
                              have e1 := hd_nth (hd 1 (by omega)) rfl
                              have e2 := hd_nth (hd 2 (by omega)) rfl
                              have e3 := hd_nth (hd 3 (by omega)) rfl
                              have e4 := hd_nth (hd 4 (by omega)) rfl
                              have e5 := hd_nth (hd 5 (by omega)) rfl
                              have e6 := hd_nth (hd 6 (by omega)) rfl
                              have e7 := hd_nth (hd 7 (by omega)) rfl
                              have e8 := hd_nth (hd 8 (by omega)) rfl
                              have e9 := hd_nth (hd 9 (by omega)) rfl
                              have e10 := hd_nth (hd 10 (by omega)) rfl
                              have e11 := hd_nth (hd 11 (by omega)) rfl
                              have e12 := hd_nth (hd 12 (by omega)) rfl
                              have e13 := hd_nth (hd 13 (by omega)) rfl
                              have e14 := hd_nth (hd 14 (by omega)) rfl
                              have e15 := hd_nth (hd 15 (by omega)) rfl
                              have e16 := hd_nth (hd 16 (by omega)) rfl
                              have e17 := hd_nth (hd 17 (by omega)) rfl
                              have e18 := hd_nth (hd 18 (by omega)) rfl
                              go_simp
                              refine hK _ _ ?_
                              have hbN := hb9.trans (HW.mono hb9.size)
                              have hbf := hbe9.trans (HW.mono hbe9.size)
                              have f1 := HX.out _ hbf
                              have f2 := HY.out _ hbf
                              have f4 := HZ.out _ hbf
                              obtain ⟨z1, z2, f3⟩ := (HC.out jn hlt).below hg' hbN
                              rw [← HUw.out] at f3
                              clear z1 z2 hbf
                              clear hd K hK HW hb9 hbe9 e0 e1 e2 e3 e4 e5 e6 e7 e8 e9 e10 e11 e12 e13 e14 e15 e16 e17 e18
                              go_wp2
                              go_roundw
                              case rel => exact ⟨kk + 1, hsucc, by go_num, hbN⟩
                              case measure => exact meas _ _ hsucc
                        · have p1 := of_decide_eq_true t1
                          have p2 := of_decide_eq_false t2
                          by_cases h0 : 0 ≤ u
                          · have hwho := (HWF.out.2 (.inr hge)).1 h0
                            have h0' : ¬ u < 0 := Int.not_lt.2 h0
                            have HW1 : Hid (∀ W, Below w'.heap.size w' W → Calls Try.prog 13 #[.pointer (some ⟨bt, 0, none⟩), .int .i64 (q : Int)] W fun e W' => e = .returned (.tuple #[.int .i64 u, .bool true]) ∧ Below W.heap.size W W') := Lib.hid fun W hbW => by
                              have h := tab_who (HTE.out.below hbW) HOG.out (q : Int)
                              rwa [hwho.1, hwho.2] at h
                            clear hwho
                            refine (HW1.out _ hbk).mono ?_
                            rintro e w8 ⟨rfl, hb8⟩
                            have hb9 := hbk.trans (hb8.mono hbk.size)
                            have hbe9 := hbe.trans (hb9.mono hbe.size)
                            obtain ⟨d1, d2, d3⟩ := (HC.out jn hlt).below hg' hb9
                            rw [HD.out.1] at d1
                            rw [← HUw.out] at d3
                            have c1 := HX.out _ hbe9
                            have c2 := HY.out _ hbe9
                            have c3 := HZ.out _ hbe9
                            clear hb8 HW1
                            go_wp2
                            go_still_tail 19, (by kernel_rfl)
                            change wpList _ _ _ _ _ w8.drew
                            have hbN : Below w'.heap.size w' w8.drew := hb9.drew
                            have f1 : w8.drew.cell? (gx.add k) = some (.int .i64 F) := c1
                            have f2 : w8.drew.cell? (gy.add k) = some (.int .i64 N) := c2
                            have f3 : w8.drew.cell? ⟨g, jn * 3 + 2, none⟩ = some (.int .i64 u) := d3
                            have f4 : w8.drew.cell? (gz.add k) = some (.int .i64 o) := c3
                            obtain ⟨WW, hWW⟩ : ∃ WW, w8.drew = WW := ⟨_, rfl⟩
                            rw [hWW] at hbN f1 f2 f3 f4 ⊢
                            clear hWW d1 d2 d3 c1 c2 c3 hb9 hbe9
                            go_wp2
                            go_roundw
                            case rel => exact ⟨kk + 1, hsucc, by go_num, hbN⟩
                            case measure => exact meas _ _ hsucc
                          · have h0' : u < 0 := Int.not_le.1 h0
                            have hwho := (HWF.out.2 (.inr hge)).2 h0'
                            have HW1 : Hid (∀ W, Below w'.heap.size w' W → Calls Try.prog 13 #[.pointer (some ⟨bt, 0, none⟩), .int .i64 (q : Int)] W fun e W' => e = .returned (.tuple #[.int .i64 0, .bool false]) ∧ Below W.heap.size W W') := Lib.hid fun W hbW => by
                              have h := tab_who (HTE.out.below hbW) HOG.out (q : Int)
                              rwa [hwho.1, hwho.2] at h
                            clear hwho
                            refine (HW1.out _ hbk).mono ?_
                            rintro e w8 ⟨rfl, hb8⟩
                            have hb9 := hbk.trans (hb8.mono hbk.size)
                            have hbe9 := hbe.trans (hb9.mono hbe.size)
                            obtain ⟨d1, d2, d3⟩ := (HC.out jn hlt).below hg' hb9
                            rw [HD.out.1] at d1
                            rw [← HUw.out] at d3
                            have c1 := HX.out _ hbe9
                            have c2 := HY.out _ hbe9
                            have c3 := HZ.out _ hbe9
                            clear hb8 HW1
                            go_wp2
                            go_still_tail 19, (by kernel_rfl)
                            change wpList _ _ _ _ _ w8.drew
                            have hbN : Below w'.heap.size w' w8.drew := hb9.drew
                            have f1 : w8.drew.cell? (gx.add k) = some (.int .i64 F) := c1
                            have f2 : w8.drew.cell? (gy.add k) = some (.int .i64 N) := c2
                            have f3 : w8.drew.cell? ⟨g, jn * 3 + 2, none⟩ = some (.int .i64 u) := d3
                            have f4 : w8.drew.cell? (gz.add k) = some (.int .i64 o) := c3
                            obtain ⟨WW, hWW⟩ : ∃ WW, w8.drew = WW := ⟨_, rfl⟩
                            rw [hWW] at hbN f1 f2 f3 f4 ⊢
                            clear hWW d1 d2 d3 c1 c2 c3 hb9 hbe9
                            go_wp2
                            go_roundw
                            case rel => exact ⟨kk + 1, hsucc, by go_num, hbN⟩
                            case measure => exact meas _ _ hsucc
                        · have p1 := of_decide_eq_true t1
                          have p2 := of_decide_eq_true t2
                          obtain ⟨h0', hwho⟩ := HWF.out.1 hge hlt2
                          have h0 : ¬ 0 ≤ u := Int.not_le.2 h0'
                          have HW1 : Hid (∀ W, Below w'.heap.size w' W → Calls Try.prog 13 #[.pointer (some ⟨bt, 0, none⟩), .int .i64 (q : Int)] W fun e W' => e = .returned (.tuple #[.int .i64 o, .bool true]) ∧ Below W.heap.size W W') := Lib.hid fun W hbW => by
                            have h := tab_who (HTE.out.below hbW) HOG.out (q : Int)
                            rwa [hwho.1, hwho.2] at h
                          clear hwho
                          refine (HW1.out _ hbk).mono ?_
                          rintro e w8 ⟨rfl, hb8⟩
                          have hb9 := hbk.trans (hb8.mono hbk.size)
                          have hbe9 := hbe.trans (hb9.mono hbe.size)
                          obtain ⟨d1, d2, d3⟩ := (HC.out jn hlt).below hg' hb9
                          rw [HD.out.1] at d1
                          rw [← HUw.out] at d3
                          have c1 := HX.out _ hbe9
                          have c2 := HY.out _ hbe9
                          have c3 := HZ.out _ hbe9
                          clear hb8 HW1
                          go_wp2
                          go_still_tail 19, (by kernel_rfl)
                          change wpList _ _ _ _ _ w8.drew
                          have hbN : Below w'.heap.size w' w8.drew := hb9.drew
                          have f1 : w8.drew.cell? (gx.add k) = some (.int .i64 F) := c1
                          have f2 : w8.drew.cell? (gy.add k) = some (.int .i64 N) := c2
                          have f3 : w8.drew.cell? ⟨g, jn * 3 + 2, none⟩ = some (.int .i64 u) := d3
                          have f4 : w8.drew.cell? (gz.add k) = some (.int .i64 o) := c3
                          obtain ⟨WW, hWW⟩ : ∃ WW, w8.drew = WW := ⟨_, rfl⟩
                          rw [hWW] at hbN f1 f2 f3 f4 ⊢
                          clear hWW d1 d2 d3 c1 c2 c3 hb9 hbe9
                          go_wp2
                          go_roundw
                          case rel => exact ⟨kk + 1, hsucc, by go_num, hbN⟩
                          case measure => exact meas _ _ hsucc
                      · have k5 : ¬ (kk : Int) < (mm : Int) := by omega
                        go_wp2
                        go_roundw
                        case rel => exact ⟨jn + 1, by omega, by go_num, hbk⟩
                        case measure => simp [intOf]; omega
                  · have b5 : ¬ (jn : Int) < (len : Int) := by omega
                    have HT9 := Lib.hid (HTE.out.below hbj)
                    have hbe9 := hbe.trans (hbj.mono hbe.size)
                    go_wp2
                    go_roundw
                    case rel => exact ⟨k + 1, G, by go_num, by omega, HT9.out, HOG.out, hbe9⟩
                    case measure => simp [intOf]; omega
              · subst hnil
                clear HNE
                go_wp2
                go_loopw [15] (fun i wj => i = .int .i64 0 ∧ Below w'.heap.size w' wj) (fun i _ => 0)
                case atStart => exact ⟨rfl, Below.refl _ _⟩
                case round =>
                  obtain ⟨rfl, hbj⟩ := hrel
                  have HT9 := Lib.hid (HTE.out.below hbj)
                  have hbe9 := hbe.trans (hbj.mono hbe.size)
                  go_wp2
                  go_roundw
                  case rel => exact ⟨k + 1, G, by go_num, by omega, HT9.out, HOG.out, hbe9⟩
                  case measure => simp [intOf]; omega
          · have d4 : ¬ (k : Int) < 60 := by omega
            go_wp2_with (go_at_call 14; refine (awake_keep (Nat.le_refl _) hb).mono ?_; rintro e w9 ⟨rfl, hb9⟩)
            go_ret
            exact ⟨rfl, hb9⟩
        · have d3 : ¬ (k : Int) < (n3 : Int) := by omega
          go_wp2_with (go_at_call 14; refine (awake_keep (Nat.le_refl _) hb).mono ?_; rintro e w9 ⟨rfl, hb9⟩)
          go_ret
          exact ⟨rfl, hb9⟩
      · have d2 : ¬ (k : Int) < (n2 : Int) := by omega
        go_wp2_with (go_at_call 14; refine (awake_keep (Nat.le_refl _) hb).mono ?_; rintro e w9 ⟨rfl, hb9⟩)
        go_ret
        exact ⟨rfl, hb9⟩
    · have d1 : ¬ (k : Int) < (n1 : Int) := by omega
      go_wp2_with (go_at_call 14; refine (awake_keep (Nat.le_refl _) hb).mono ?_; rintro e w9 ⟨rfl, hb9⟩)
      go_ret
      exact ⟨rfl, hb9⟩
end Go.Proofs.Ytmekoanobicddaa.Pt
