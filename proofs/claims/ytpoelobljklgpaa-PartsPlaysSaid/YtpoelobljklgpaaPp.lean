/- The document's own table: Runs. -/
import Derived.Test.YtpoelobljklgpaaPo
import Derived.Deep.QuietTactic
import Derived.BigQuiet
namespace Go.Proofs.Ytpoelobljklgpaa.Pt
open Go.RowKit Ut
set_option linter.unusedVariables false

theorem nm_nil {rs : List R3} (h : Nm rs []) : rs = [] := by
  cases rs with
  | nil => rfl
  | cons r rs =>
    obtain ⟨_, h2, _, L', hL, _⟩ := h
    have := congrArg List.length hL
    simp at this; omega
/-- the last run is the last place's -/
theorem nm_last {rs : List R3} {L : List Int} (h : Nm rs L) (hL : L ≠ []) : rs ≠ [] ∧ (rs.getD (rs.length - 1) default).w = L.getD (L.length - 1) 0 ∧ 1 ≤ (rs.getD (rs.length - 1) default).n ∧ (rs.getD (rs.length - 1) default).n ≤ L.length := by
  have hne : rs ≠ [] := fun e => hL (by subst e; exact h)
  refine ⟨hne, ?_⟩
  obtain ⟨l, rs0, rfl⟩ : ∃ l rs0, rs = rs0 ++ [l] := ⟨rs.getLast hne, rs.dropLast, (List.dropLast_concat_getLast hne).symm⟩
  have hg : (rs0 ++ [l]).getD ((rs0 ++ [l]).length - 1) default = l := by simp [List.getD]
  rw [hg]
  obtain ⟨L0, e, _, _, hn, _⟩ := Fw.unsnoc h
  have hlen : L.length = L0.length + l.n.toNat := by rw [e]; simp
  refine ⟨?_, hn, by omega⟩
  rw [e]
  simp only [List.getD_eq_getElem?_getD, List.getElem?_append, List.length_append, List.length_replicate, List.getElem?_replicate]
  rw [if_neg (by omega), if_pos (by omega)]
  rfl

/-- what Runs answers -/
def RunsPost (w : World) (L : List Int) (e : Ending) (W' : World) : Prop := ∃ v rs, e = .returned v ∧ Nm rs L ∧ OwnS W' w.heap.size v rs ∧ Below w.heap.size w W'

theorem RefAt.head {W : World} {br : Nat} {L : List Int} (h : RefAt W br L) {a : Option Addr} {n cap : Nat} (hc : W.cell? ⟨br, 0, none⟩ = some (.slice a n cap)) {x : Addr} (hx : a = some x) : ∃ g, x = ⟨g, 0, none⟩ := by
  obtain ⟨v, h1, h2⟩ := h
  have : W.cell? ⟨br, 0, none⟩ = some v := by simp [World.cell?, h1]
  rw [this] at hc
  injection hc with hc
  subst hc
  rcases h2.2 with ⟨e, _⟩ | ⟨g, _, _, e, _⟩
  · injection e with e1; rw [e1] at hx; cases hx
  · injection e with e1; rw [e1] at hx; injection hx with hx; exact ⟨g, hx.symm⟩

set_option maxRecDepth 100000 in
set_option maxHeartbeats 2000000 in
theorem refRuns_any (br : Nat) (L : List Int) (w : World) (hR : RefAt w br L) (hl : L.length ≤ 1000) :
    Calls Try.prog 22 #[.pointer (some ⟨br, 0, none⟩)] w (RunsPost w L) := by
  obtain ⟨a, cap, hc, _, hbr, hn, hcap, hrow, _, _⟩ := hR.form
  obtain ⟨n, hln⟩ : ∃ n, n = L.length := ⟨_, rfl⟩
  rw [← hln] at hc hn hrow hl
  have HRo := Lib.hid hrow
  have HL := Lib.hid hln
  have HCC := Lib.hid hc
  obtain ⟨i0, hi, hz0, hz1, hz2⟩ := info_parts A.info45
  have HI := Lib.hid hi
  have hhd : ∀ x, a = some x → ∃ g, x = ⟨g, 0, none⟩ := fun x hx => hR.head hc hx
  have HHd := Lib.hid hhd
  clear hrow hln hR hi hhd
  go_enter Try.func22, Try.ntmps22
  go_wp2
  go_loopw [3, 4] (fun o i wr => ∃ (k : Nat) (rs : List R3) (b : Option Addr) (c : Nat), k ≤ n ∧ o = .slice b rs.length c ∧ i = .int .i64 k ∧ Nm rs (L.take k) ∧ rs.length ≤ k ∧ OwnS wr w.heap.size (.slice b rs.length c) rs ∧ Below w.heap.size w wr) (fun _ i _ => n - (intOf i).toNat)
  case atStart => exact ⟨0, [], none, 0, Nat.zero_le _, rfl, rfl, rfl, Nat.le_refl _, OwnS.nil _ _, Below.refl _ _⟩
  case round =>
    obtain ⟨k, rs, b, c, hk, rfl, rfl, hnm, hrl, ho, hb⟩ := hrel
    have hc' := (hb.cell (p := ⟨br, 0, none⟩) hbr).trans HCC.out
    clear hc
    have HO := Lib.hid ho
    have HNm := Lib.hid hnm
    clear ho hnm
    by_cases hlt : k < n
    · obtain ⟨x, rfl, hxb, hx⟩ := (HRo.out.below hb).2 k hlt
      obtain ⟨q0, rfl⟩ := HHd.out x rfl
      rw [add_plain] at hx
      have hnext : Nm (putL rs ⟨(k : Int), 1, L.getD k 0⟩) (L.take (k + 1)) := by
        have h := putL_nm (r := ⟨(k : Int), 1, L.getD k 0⟩) HNm.out (by simp; have := HL.out; omega) (by simp) (by simp) (by simp; omega)
        have hkL : k < L.length := by have := HL.out; omega
        rw [List.take_succ_eq_append_getElem hkL]
        have e : L.getD k 0 = L[k] := by simp [List.getD, hkL]
        rw [e] at h ⊢
        exact h
      have HNx := Lib.hid hnext
      clear hnext
      have h0 : (0 : Int) ≤ (k : Int) := by omega
      have h2' : (k : Int) < (n : Int) := by omega
      obtain ⟨m, hm⟩ : ∃ m, m = rs.length := ⟨_, rfl⟩
      have HM := Lib.hid hm
      rw [← hm] at HO hrl ⊢
      by_cases hk0 : k = 0
      · subst hk0
        obtain ⟨u, hu⟩ : ∃ u, u = L.getD 0 0 := ⟨_, rfl⟩
        rw [← hu] at hx HNx
        have hrs : rs = [] := nm_nil (by simpa using HNm.out)
        have hp : putL rs ⟨((0 : Nat) : Int), 1, u⟩ = rs ++ [⟨0, 1, u⟩] := by unfold putL; rw [if_neg (by simp), if_pos hrs, hrs]; rfl
        rw [hp] at HNx
        clear hp hrs hu hm hc'
        have hc' := (hb.cell (p := ⟨br, 0, none⟩) hbr).trans HCC.out
        have HNw : Hid (∀ (q j : Nat) (z : Value), (cs3 [(⟨0, 1, u⟩ : R3)])[j]? = some z → ((wr.drewN q).alloc (.cells #[.int .i64 0, .int .i64 1, .int .i64 u] 45)).cell? ((⟨wr.heap.size, 0, none⟩ : Addr).add j) = some z) := Lib.hid fun q j z hj => cell_three_new (wr.drewN q) ⟨0, 1, u⟩ 45 j z hj
        have HBw : Hid (∀ q : Nat, Below wr.heap.size wr ((wr.drewN q).alloc (.cells #[.int .i64 0, .int .i64 1, .int .i64 u] 45))) := Lib.hid fun q => Below.alloc (w := wr.drewN q) (show Below wr.heap.size wr (wr.drewN q) from ⟨rfl, rfl, rfl, Nat.le_refl _, fun _ _ => rfl⟩) (Nat.le_refl _) _
        have HQ : ∀ q, ((wr.drewN q).alloc (.cells #[.int .i64 0, .int .i64 1, .int .i64 u] 45)).ownsRow w.heap.size 45 3 (.slice b m c) m (cs3 rs) := fun q => by
          have h := HO.out.below (HBw.out q)
          unfold OwnS at h
          rwa [← HM.out] at h
        have hsz := hb.size
        go_wp2
        go_quiet (fail)
        go_wp2_with (at_builtin; refine wpList_append_own_at _ rfl _ _ _ rfl w.heap.size 45 i0 _ 3 24 Try.underlying41 HI.out hz0 hz1 hz2 rfl (by decide) (.slice b m c) m (cs3 rs) rfl (HQ _) ⟨wr.heap.size, 0, none⟩ 1 1 (cs3 [⟨0, 1, u⟩]) rfl rfl (HNw.out _) (cs3_one _) (by unfold maxLen; omega) (by omega) (by simp; omega) ?_; intro v' w1 hown' hgrow _ hat; clear HQ; obtain ⟨g', cap', rfl⟩ := ownsRow_succ hown')
        have hbn := (hb.trans ((HBw.out nq).mono hsz)).grown hgrow (by simp; omega) (fun q e => (OwnS.at_least HO.out e).1)
        have hlen : (rs ++ [(⟨0, 1, u⟩ : R3)]).length = m + 1 := by rw [List.length_append, ← HM.out]; rfl
        go_roundw
        case rel =>
          refine ⟨0 + 1, rs ++ [⟨0, 1, u⟩], some ⟨g', 0, none⟩, cap', by omega, by rw [hlen], by go_num, HNx.out, by rw [hlen]; omega, ?_, hbn⟩
          unfold OwnS
          rw [hlen, cs3_append]
          exact hown'
        case measure => simp [intOf]; omega
      · obtain ⟨j, rfl⟩ : ∃ j, k = j + 1 := ⟨k - 1, by omega⟩
        have hlj : (L.take (j + 1)).length = j + 1 := by have := HL.out; simp; omega
        obtain ⟨hne, hlw, hln1, hln2⟩ := nm_last HNm.out (by intro e; rw [e] at hlj; cases hlj)
        obtain ⟨y, hy1, _, hy⟩ := (HRo.out.below hb).2 j (by omega)
        obtain rfl : (⟨q0, 0, none⟩ : Addr) = y := by injection hy1
        rw [add_plain] at hy
        have hjL : j < L.length := by have := HL.out; omega
        have hg : (L.take (j + 1)).getD j 0 = L.getD j 0 := by simp [List.getD]
        rw [hlj, Nat.add_sub_cancel, hg, ← hm] at hlw
        rw [hlj] at hln2
        rw [← hm] at hln1 hln2
        obtain ⟨u, hu⟩ : ∃ u, u = L.getD (j + 1) 0 := ⟨_, rfl⟩
        obtain ⟨u', hu'⟩ : ∃ u, u = L.getD j 0 := ⟨_, rfl⟩
        rw [← hu] at hx HNx
        rw [← hu'] at hy hlw
        have hjb : (0 : Int) ≤ (j : Int) := by omega
        have hjb2 : (j : Int) < (n : Int) := by omega
        have hw9 : IntKind.i64.wrap ((j : Int) + 1 - 1) = (j : Int) := by rw [IntWalk.i64_in _ (by omega)]; omega
        have ht9 : ((j : Int) + 1).toNat = j + 1 := by omega
        have hj9 : (0 : Int) ≤ (j : Int) + 1 := by omega
        have hj8 : (j : Int) + 1 < (n : Int) := by omega
        have hj7 : decide ((0 : Int) < (j : Int) + 1) = true := decide_eq_true (by omega)
        by_cases he : u = u'
        · subst he
          obtain ⟨l, hle⟩ : ∃ l, l = rs.getD (m - 1) default := ⟨_, rfl⟩
          rw [← hle] at hlw hln1 hln2
          have hp : putL rs ⟨((j + 1 : Nat) : Int), 1, u⟩ = rs.set (m - 1) ⟨l.f, wrap64 (l.n + 1), l.w⟩ := by
            unfold putL
            rw [if_neg (by simp), if_neg hne, ← hm, ← hle, if_pos (by simp only [hlw])]
          rw [hp] at HNx
          obtain ⟨m', hm'⟩ : ∃ m', m = m' + 1 := ⟨m - 1, by
            have : rs.length ≠ 0 := fun e => hne (List.length_eq_zero_iff.1 e)
            omega⟩
          have HM' := Lib.hid hm'
          subst hm'
          rw [Nat.add_sub_cancel] at hle HNx
          obtain ⟨g, e1, hgb, hgl⟩ : ∃ g, b = some ⟨g, 0, none⟩ ∧ w.heap.size ≤ g ∧ g < wr.heap.size := by
            rcases HO.out.2 with ⟨_, h0⟩ | ⟨g, cap', cur, h, h1, h2, _⟩
            · omega
            · injection h with e1 e2 e3; exact ⟨g, e1, h1, (Array.getElem?_eq_some_iff.1 h2).1⟩
          subst e1
          have ho1 : OwnS wr w.heap.size (.slice (some ⟨g, 0, none⟩) rs.length c) rs := by
            have h := HO.out
            rwa [HM.out] at h
          obtain ⟨d1, d2, d3⟩ := ho1.cellAt m' (by omega)
          rw [← hle] at d1 d2 d3
          have hf : wr.frozen? ⟨g, m' * 3 + 1, none⟩ = false := World.ownsRow.frozenAt ho1 _
          have hs := World.ownsRow.stored ho1 (m' * 3 + 1) (.int .i64 (l.n + 1))
          have HS := Lib.hid hs
          have hcs := cs3_set rs m' ⟨0, l.n + 1, 0⟩ (by omega)
          rw [← hle] at hcs
          have HC := Lib.hid hcs
          have hwn : wrap64 (l.n + 1) = l.n + 1 := IntWalk.wrap64_in _ ⟨by omega, by omega⟩
          rw [hwn] at HNx
          have hm0 : (0 : Int) ≤ (m' : Int) := by omega
          have hm1 : (m' : Int) < ((m' + 1 : Nat) : Int) := by omega
          clear hp hne hlw hg hlj hu hu' hm hy1 hk0 hs hcs hle hwn ho1
          go_wp2
          go_quiet (fail)
          go_wp2
          go_roundw
          case rel =>
            have hb2 : Below w.heap.size w ((wr.drewN nq).setCell ⟨g, m' * 3 + 1, none⟩ (.int .i64 (l.n + 1))) := Below.setCell (w := wr.drewN nq) (p := ⟨g, m' * 3 + 1, none⟩) ⟨hb.os, hb.tape, hb.output, hb.size, hb.block⟩ hgb _
            refine ⟨j + 1 + 1, _, some ⟨g, 0, none⟩, c, by omega, by rw [List.length_set, ← HM.out], by go_num, HNx.out, by rw [List.length_set, ← HM.out]; omega, ?_, hb2⟩
            unfold OwnS
            rw [List.length_set, ← HC.out]
            exact HS.out.1
          case measure => simp [intOf]; omega
        · have he' : (u == u') = false := by simpa using he
          have hp : putL rs ⟨((j + 1 : Nat) : Int), 1, u⟩ = rs ++ [⟨(j : Int) + 1, 1, u⟩] := by
            unfold putL
            rw [if_neg (by simp), if_neg hne, ← hm, if_neg (by simp only [hlw]; exact fun e => he e.symm)]
            simp
          rw [hp] at HNx
          clear hp hne hlw hln1 hln2 hg hlj hu hu' hm he hy1 hk0
          have HNw : Hid (∀ (q jj : Nat) (z : Value), (cs3 [(⟨(j : Int) + 1, 1, u⟩ : R3)])[jj]? = some z → ((wr.drewN q).alloc (.cells #[.int .i64 ((j : Int) + 1), .int .i64 1, .int .i64 u] 45)).cell? ((⟨wr.heap.size, 0, none⟩ : Addr).add jj) = some z) := Lib.hid fun q jj z hj => cell_three_new (wr.drewN q) ⟨(j : Int) + 1, 1, u⟩ 45 jj z hj
          have HBw : Hid (∀ q : Nat, Below wr.heap.size wr ((wr.drewN q).alloc (.cells #[.int .i64 ((j : Int) + 1), .int .i64 1, .int .i64 u] 45))) := Lib.hid fun q => Below.alloc (w := wr.drewN q) (show Below wr.heap.size wr (wr.drewN q) from ⟨rfl, rfl, rfl, Nat.le_refl _, fun _ _ => rfl⟩) (Nat.le_refl _) _
          have HQ : ∀ q, ((wr.drewN q).alloc (.cells #[.int .i64 ((j : Int) + 1), .int .i64 1, .int .i64 u] 45)).ownsRow w.heap.size 45 3 (.slice b m c) m (cs3 rs) := fun q => by
            have h := HO.out.below (HBw.out q)
            unfold OwnS at h
            rwa [← HM.out] at h
          have hsz := hb.size
          go_wp2
          go_quiet (fail)
          go_wp2_with (at_builtin; refine wpList_append_own_at _ rfl _ _ _ rfl w.heap.size 45 i0 _ 3 24 Try.underlying41 HI.out hz0 hz1 hz2 rfl (by decide) (.slice b m c) m (cs3 rs) rfl (HQ _) ⟨wr.heap.size, 0, none⟩ 1 1 (cs3 [⟨(j : Int) + 1, 1, u⟩]) rfl rfl (HNw.out _) (cs3_one _) (by unfold maxLen; omega) (by omega) (by simp; omega) ?_; intro v' w1 hown' hgrow _ hat; clear HQ; obtain ⟨g', cap', rfl⟩ := ownsRow_succ hown')
          have hbn := (hb.trans ((HBw.out nq).mono hsz)).grown hgrow (by simp; omega) (fun q e => (OwnS.at_least HO.out e).1)
          have hlen : (rs ++ [(⟨(j : Int) + 1, 1, u⟩ : R3)]).length = m + 1 := by rw [List.length_append, ← HM.out]; rfl
          go_roundw
          case rel =>
            refine ⟨j + 1 + 1, rs ++ [⟨(j : Int) + 1, 1, u⟩], some ⟨g', 0, none⟩, cap', by omega, by rw [hlen], by go_num, HNx.out, by rw [hlen]; omega, ?_, hbn⟩
            unfold OwnS
            rw [hlen, cs3_append]
            exact hown'
          case measure => simp [intOf]; omega
    · have hkn : k = n := by omega
      have h2' : ¬ (k : Int) < (n : Int) := by omega
      have hfull : L.take k = L := by rw [hkn, HL.out]; exact List.take_length
      rw [hfull] at HNm
      clear hkn hfull
      go_wp2
      go_ret
      exact ⟨_, rs, rfl, HNm.out, HO.out, hb⟩
end Go.Proofs.Ytpoelobljklgpaa.Pt
