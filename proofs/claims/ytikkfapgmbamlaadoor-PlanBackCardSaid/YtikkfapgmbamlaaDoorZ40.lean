/- Several texts in one: Fi -/
import Derived.Test.YtikkfapgmbamlaaDoorZ39
section
/- The document's Parse of layer 5: a text whose last line has no end; any text. -/
namespace Go.Proofs.YtikkfapgmbamlaaDoor.Pl
open Go.RowKit Ut
set_option linter.unusedVariables false
set_option maxRecDepth 100000

theorem no_ten {s : ByteArray} {j : Nat} (h : ∀ q, j ≤ q → (hq : q < s.size) → s[q]'hq ≠ 10) : (10 : UInt8) ∉ s.data.toList.drop j := by
  intro hm
  obtain ⟨i, hi, e⟩ := List.getElem_of_mem hm
  have hl : s.data.toList.length = s.size := by simp
  have hi2 := hi
  rw [List.length_drop, hl] at hi2
  rw [List.getElem_drop] at e
  have hlt : j + i < s.size := by omega
  exact h (j + i) (by omega) hlt e
theorem cut_there {s : ByteArray} {j : Nat} (hj : j < s.size) (h1 : s[j]'hj = 10) (h : ∀ q, j + 1 ≤ q → (hq : q < s.size) → s[q]'hq ≠ 10) : linesL (s.extract 0 (j + 1)).data.toList = some (cutL 10 s.data.toList).1 := by
  have e : (s.extract 0 (j + 1)).data.toList = s.data.toList.take (j + 1) := by
    rw [tb_part, tb_list, List.drop_zero]
  have et : s.data.toList.take (j + 1) = s.data.toList.take j ++ [10] := by
    rw [List.take_add_one, List.getElem?_eq_getElem (by simpa using hj)]
    rw [← h1]; rfl
  have hp := cutL_plain 10 (s.data.toList.take (j + 1)) (s.data.toList.drop (j + 1)) (no_ten h)
  rw [List.take_append_drop] at hp
  have h2 : (cutL 10 (s.data.toList.take (j + 1))).2 = [] := by rw [et, cutL_end]
  rw [e, hp]
  unfold linesL
  rw [if_pos h2]
theorem cut_none {s : ByteArray} (h : ∀ q, 0 ≤ q → (hq : q < s.size) → s[q]'hq ≠ 10) : linesL ByteArray.empty.data.toList = some (cutL 10 s.data.toList).1 := by
  have e : ByteArray.empty.data.toList = [] := rfl
  have hn := no_ten h
  rw [List.drop_zero] at hn
  have hp := cutL_plain 10 [] s.data.toList hn
  rw [List.nil_append] at hp
  rw [e, hp]
  rfl
/-- the number of the first line that can't be -/
def partN (l : List UInt8) : Nat := match runL (cutL 10 l).1 pc0 (-1) 0 with
  | .inl n => n
  | .inr _ => (cutL 10 l).1.length + 1
set_option maxHeartbeats 8000000 in
theorem refParse_part (s : ByteArray) (hs : s.size ≤ 16384) (hw0 : (cutL 10 s.data.toList).2 ≠ []) (w : World) :
    Calls Tryd.prog 15 #[.string s] w fun e w' => e = .returned (.tuple #[zeroC, .int .i64 6, .int .i64 (partN s.data.toList)]) ∧ Below w.heap.size w w' := by
  obtain ⟨pn, hpn⟩ : ∃ pn, partN s.data.toList = pn := ⟨_, rfl⟩
  rw [hpn]
  have hx := refLines_any s (by omega)
  have hl : linesL s.data.toList = none := by unfold linesL; rw [if_neg hw0]
  rw [hl] at hx
  simp only [Option.getD_none, Option.isSome_none, List.length_nil] at hx
  have hpos : 0 < s.size := by
    rcases Nat.eq_zero_or_pos s.size with h | h
    · exact absurd (by rw [show s.data.toList = [] from List.length_eq_zero_iff.1 (by simpa using h)]; rfl) hw0
    · exact h
  have HA := Lib.hid (fun (v : Value) (W : World) (B : Nat) (h : OwnS W B 9 v (cutL 10 s.data.toList).1.length (cutL 10 s.data.toList).1) => refAll_cut s.data.toList (by simpa using hs) v W h)
  have HT : Hid (∀ (j : Nat) (hj : j < s.size), s[j]'hj = 10 → (∀ q, j + 1 ≤ q → (hq : q < s.size) → s[q]'hq ≠ 10) → linesL (s.extract 0 (j + 1)).data.toList = some (cutL 10 s.data.toList).1) := Lib.hid fun j hj h1 h2 => cut_there hj h1 h2
  have HU : Hid ((∀ q, 0 ≤ q → (hq : q < s.size) → s[q]'hq ≠ 10) → linesL ByteArray.empty.data.toList = some (cutL 10 s.data.toList).1) := Lib.hid cut_none
  have HPN : Hid (pn = match runL (cutL 10 s.data.toList).1 pc0 (-1) 0 with | .inl n => n | .inr _ => (cutL 10 s.data.toList).1.length + 1) := Lib.hid (by rw [← hpn]; rfl)
  have HPI : Hid (∀ c, runL (cutL 10 s.data.toList).1 pc0 (-1) 0 = .inr c → PIn c ∧ c.gs.length + c.rs.length + c.ps.length + c.ns.length + c.ss.length ≤ 16384) := Lib.hid fun c h => runL_fit (by simpa using hs) h
  have HCT : Hid (∀ ps cur, RefAt 10 s s.size ps cur → ps = (cutL 10 s.data.toList).1) := Lib.hid fun ps cur h => by rw [h.done rfl]
  obtain ⟨ls, hls⟩ : ∃ ls, (cutL 10 s.data.toList).1 = ls := ⟨_, rfl⟩
  rw [hls] at HA HT HU HPN HPI HCT
  have HLL : Hid (ls.length ≤ s.size) := Lib.hid (by rw [← hls]; have := cutL_count 10 s.data.toList; simpa using this)
  clear hl hw0 hls hpn
  have hal : Below w.heap.size w (w.alloc (.cells zeroL.toArray 36 (0, 0))) := (Below.refl _ _).alloc (Nat.le_refl _) _
  have HZ := Lib.hid (heap_alloc_new w (.cells zeroL.toArray 36 (0, 0)))
  have HAL := Lib.hid hal
  clear hal
  go_enter Tryd.func15, Tryd.ntmps15
  go_wp2_with (go_at_call 13; refine (hx _ _ (Nat.le_refl _)).mono ?_; rintro e w2 ⟨v, rfl, hown, hpl, hb2⟩; have hz2 := (hb2.block _ (by simp)).trans HZ.out; have hl2 : w.heap.size < w2.heap.size := (Array.getElem?_eq_some_iff.1 hz2).1; have HZ2 := Lib.hid hz2; have hb3 := HAL.out.trans (hb2.mono (by simp)); obtain ⟨la, lc, rfl, _, _, _⟩ := OwnS.row hown; clear hz2 hb2 hx hown hpl)
  go_loop [7, 8] (fun n i => ∃ (k : Nat) (ps : List (List UInt8)) (cur : List UInt8), k ≤ s.size ∧ i = .int .i64 k ∧ n = .int .i64 ((ps.length : Int) + 1) ∧ RefAt 10 s k ps cur) (fun _ i => s.size - (intOf i).toNat)
  case atStart => exact ⟨0, [], [], Nat.zero_le _, rfl, rfl, RefAt.start _ _⟩
  case round =>
    obtain ⟨k, ps, cur, hk, rfl, rfl, hat⟩ := hrel
    have HAT := Lib.hid hat
    have hlen := hat.len
    clear hat
    by_cases hlt : k < s.size
    · by_cases he : (((s[k]'hlt).toNat : Nat) : Int) = 10
      · have HN := Lib.hid (HAT.out.hit hlt (UInt8.toNat_inj.1 (by simp; omega)))
        go_wp2
        go_round
        case rel => exact ⟨k + 1, _, _, by omega, by go_num, by simp, HN.out⟩
        case measure => simp [intOf]; omega
      · have HN := Lib.hid (HAT.out.put hlt (fun h => he (by rw [h]; rfl)))
        go_wp2
        go_round
        case rel => exact ⟨k + 1, _, _, by omega, by go_num, rfl, HN.out⟩
        case measure => simp [intOf]; omega
    · obtain rfl : k = s.size := by omega
      obtain rfl := HCT.out ps cur HAT.out
      obtain ⟨n, hn⟩ : ∃ n, ps.length = n := ⟨_, rfl⟩
      have HNN := Lib.hid hn
      rw [hn] at HA
      rw [hn] at HLL
      have hnl := HLL.out
      rw [hn]
      clear hn hlen
      go_wp2
      go_loopw [5, 6, 9] (fun l wh i wr => (∃ j : Nat, j < s.size ∧ i = .int .i64 ((j : Int) + 1) ∧ wh = .bool false ∧ l = .slice la 0 lc ∧ (∀ q, j + 1 ≤ q → (hq : q < s.size) → s[q]'hq ≠ 10) ∧ wr = w2) ∨
        (∃ (j : Nat) (a : Option Addr) (cap : Nat), j < s.size ∧ i = .int .i64 j ∧ wh = .bool true ∧ l = .slice a n cap ∧ OwnS wr w2.heap.size 9 (.slice a n cap) n ps ∧ Below w2.heap.size w2 wr)) (fun _ _ i _ => (intOf i).toNat)
      case atStart => exact .inl ⟨s.size - 1, by omega, by congr 1; omega, rfl, rfl, fun q h1 h2 => absurd h2 (by omega), rfl⟩
      case round =>
        rcases hrel with ⟨j, hj, rfl, rfl, rfl, hno, rfl⟩ | ⟨j, a, cap, hj, rfl, rfl, rfl, hown, hbw⟩
        · by_cases he : (((s[j]'hj).toNat : Nat) : Int) = 10
          · have hy := refLines_any (s.extract 0 (j + 1)) (by simp; omega)
            rw [HT.out j hj (UInt8.toNat_inj.1 (by simp; omega)) hno] at hy
            simp only [Option.getD_some, Option.isSome_some, HNN.out] at hy
            clear hno
            go_wp2_with (go_at_call 13; refine (hy _ _ (Nat.le_refl _)).mono ?_; rintro e w3 ⟨v, rfl, hown, hpl, hbw⟩; obtain ⟨la2, lc2, rfl, _, _, _⟩ := OwnS.row hown; clear hy hpl)
            go_roundw
            case rel => exact .inr ⟨j, la2, lc2, hj, by go_num, rfl, rfl, hown, hbw⟩
            case measure => simp [intOf]
          · by_cases hj0 : j = 0
            · subst hj0
              have hy := refLines_any ByteArray.empty (by decide)
              rw [HU.out (fun q _ hq => by
                by_cases h : q = 0
                · subst h; exact fun h => he (by rw [h]; rfl)
                · exact hno q (by omega) hq)] at hy
              simp only [Option.getD_some, Option.isSome_some, HNN.out] at hy
              clear hno
              go_wp2_with (go_at_call 13; refine (hy _ _ (Nat.le_refl _)).mono ?_; rintro e w3 ⟨v, rfl, hown, hpl, hbw⟩; obtain ⟨la2, lc2, rfl, _, _, _⟩ := OwnS.row hown; clear hy hpl)
              go_roundw
              case rel => exact .inr ⟨0, la2, lc2, hj, by go_num, rfl, rfl, hown, hbw⟩
              case measure => simp [intOf]
            · have hji : ((j : Int) + 1 == 1) = false := by simp; omega
              have hjk : ((j : Int) == 0) = false := by simp; omega
              have hjl : ¬ (j : Int) + 1 = 1 := by omega
              have HNO := Lib.hid hno
              clear hno
              go_wp2
              go_roundw
              case rel => exact .inl ⟨j - 1, by omega, by have : ((j - 1 : Nat) : Int) + 1 = j := by omega
                                                          rw [this], rfl, rfl, fun q h1 h2 => by
                by_cases h : q = j
                · subst h; exact fun h => he (by rw [h]; rfl)
                · exact HNO.out q (by omega) h2, by first | trivial | rfl⟩
              case measure => simp [intOf]
        · have HC := Lib.hid (HA.out _ _ _ hown)
          have HZ3 := Lib.hid ((hbw.block _ hl2).trans HZ2.out)
          have hl3 := (Array.getElem?_eq_some_iff.1 HZ3.out).1
          have hb4 := hb3.trans (hbw.mono hb3.size)
          clear hown
          cases hq : runL ps pc0 (-1) 0 with
          | inl m =>
            have hm1 := runL_pos hq
            rw [hq] at HPN HC
            obtain rfl : pn = m := HPN.out
            clear hq
            by_cases hj0 : j = 0
            · subst hj0
              go_upto_region 22 with (go_at_call 22; refine HC.out.mono ?_; rintro e w4 ⟨hq2, hb7⟩; obtain ⟨x, y, z, a1, n1, c1, a2, n2, c2, a3, n3, c3, a4, n4, c4, a5, n5, c5, rfl⟩ := lines_inl hq2; have hz4 := (hb7.block _ hl3).trans HZ3.out; have hl4 := (Array.getElem?_eq_some_iff.1 hz4).1; have HZ4 := Lib.hid hz4; have hb5 := hb4.trans (hb7.mono hb4.size); clear hq2 hb7 hz4)
              have HZ5 := Lib.hid ((Below.heap_alloc w4 (.cells #[.int .i64 x, .slice a1 n1 c1, .slice a2 n2 c2, .slice a3 n3 c3, .slice a4 n4 c4, .slice a5 n5 c5, .int .i64 y, .int .i64 z] 36 (0, 0)) _ hl4).trans HZ4.out)
              have hb6 := hb5.alloc hb5.size (.cells #[.int .i64 x, .slice a1 n1 c1, .slice a2 n2 c2, .slice a3 n3 c3, .slice a4 n4 c4, .slice a5 n5 c5, .int .i64 y, .int .i64 z] 36 (0, 0))
              refine wp_region_lit ?_
              refine wpList_build rfl 36 #[] rfl (by kernel_rfl) ?_
              refine wpList_value rfl (.int .i64 pn) (by kernel_rfl) ?_
              refine wpList_store_row rfl 36 (.tmp 2) (.tmp 79) rfl w.heap.size zeroL.toArray (by kernel_rfl) (by kernel_rfl) 36 _ HZ5.out (by kernel_rfl) rfl (by kernel_rfl) ?_
              have hrow := Lib.hid (setRow_heap _ w.heap.size _ zeroL.toArray _ _ HZ5.out)
              have hbe := below_setRow hb6 (Nat.le_refl _) zeroL.toArray
              go_wp2
              exact bodyPost_ret (v := .tuple #[zeroC, .int .i64 6, .int .i64 pn]) (results_ctt rfl _ _ w.heap.size zeroL.toArray _ _ rfl rfl rfl hrow.out (by kernel_rfl)) rfl ⟨rfl, hbe⟩
            · have hjp : 0 < (j : Int) := by omega
              go_upto_region 22 with (go_at_call 22; refine HC.out.mono ?_; rintro e w4 ⟨hq2, hb7⟩; obtain ⟨x, y, z, a1, n1, c1, a2, n2, c2, a3, n3, c3, a4, n4, c4, a5, n5, c5, rfl⟩ := lines_inl hq2; have hz4 := (hb7.block _ hl3).trans HZ3.out; have hl4 := (Array.getElem?_eq_some_iff.1 hz4).1; have HZ4 := Lib.hid hz4; have hb5 := hb4.trans (hb7.mono hb4.size); clear hq2 hb7 hz4)
              have HZ5 := Lib.hid ((Below.heap_alloc w4 (.cells #[.int .i64 x, .slice a1 n1 c1, .slice a2 n2 c2, .slice a3 n3 c3, .slice a4 n4 c4, .slice a5 n5 c5, .int .i64 y, .int .i64 z] 36 (0, 0)) _ hl4).trans HZ4.out)
              have hb6 := hb5.alloc hb5.size (.cells #[.int .i64 x, .slice a1 n1 c1, .slice a2 n2 c2, .slice a3 n3 c3, .slice a4 n4 c4, .slice a5 n5 c5, .int .i64 y, .int .i64 z] 36 (0, 0))
              refine wp_region_lit ?_
              refine wpList_build rfl 36 #[] rfl (by kernel_rfl) ?_
              refine wpList_value rfl (.int .i64 pn) (by kernel_rfl) ?_
              refine wpList_store_row rfl 36 (.tmp 2) (.tmp 79) rfl w.heap.size zeroL.toArray (by kernel_rfl) (by kernel_rfl) 36 _ HZ5.out (by kernel_rfl) rfl (by kernel_rfl) ?_
              have hrow := Lib.hid (setRow_heap _ w.heap.size _ zeroL.toArray _ _ HZ5.out)
              have hbe := below_setRow hb6 (Nat.le_refl _) zeroL.toArray
              go_wp2
              exact bodyPost_ret (v := .tuple #[zeroC, .int .i64 6, .int .i64 pn]) (results_ctt rfl _ _ w.heap.size zeroL.toArray _ _ rfl rfl rfl hrow.out (by kernel_rfl)) rfl ⟨rfl, hbe⟩
          | inr c =>
            obtain ⟨hp1, hp2⟩ := HPI.out c hq
            have HP1 := Lib.hid hp1
            have HP2 := Lib.hid hp2
            rw [hq] at HPN HC
            have HPN2 : Hid (pn = n + 1) := Lib.hid (by have h1 : pn = ps.length + 1 := HPN.out
                                                        rw [h1, HNN.out])
            clear hq hp1 hp2
            by_cases hj0 : j = 0
            · subst hj0
              go_upto_region 23 with (go_at_call 22; refine HC.out.mono ?_; rintro e w4 ⟨hq2, hb7⟩; obtain ⟨ga, gc, ra, rc, pa, qc, na, nc, sa, sc, rfl, _, _⟩ := lines_inr hq2 HP1.out HP2.out; have hz4 := (hb7.block _ hl3).trans HZ3.out; have hl4 := (Array.getElem?_eq_some_iff.1 hz4).1; have HZ4 := Lib.hid hz4; have hb5 := hb4.trans (hb7.mono hb4.size); clear hq2 hb7 hz4)
              have HZ5 := Lib.hid ((Below.heap_alloc w4 (.cells #[.int .i64 c.cats, .slice ga c.gs.length gc, .slice ra c.rs.length rc, .slice pa c.ps.length qc, .slice na c.ns.length nc, .slice sa c.ss.length sc, .int .i64 c.gate, .int .i64 c.quota] 36 (0, 0)) _ hl4).trans HZ4.out)
              have hb6 := hb5.alloc hb5.size (.cells #[.int .i64 c.cats, .slice ga c.gs.length gc, .slice ra c.rs.length rc, .slice pa c.ps.length qc, .slice na c.ns.length nc, .slice sa c.ss.length sc, .int .i64 c.gate, .int .i64 c.quota] 36 (0, 0))
              refine wp_region_lit ?_
              refine wpList_build rfl 36 #[] rfl (by kernel_rfl) ?_
              refine wpList_value rfl (.int .i64 ((n : Int) + 1)) (by kernel_rfl) ?_
              refine wpList_store_row rfl 36 (.tmp 2) (.tmp 81) rfl w.heap.size zeroL.toArray (by kernel_rfl) (by kernel_rfl) 36 _ HZ5.out (by kernel_rfl) rfl (by kernel_rfl) ?_
              have hrow := Lib.hid (setRow_heap _ w.heap.size _ zeroL.toArray _ _ HZ5.out)
              have hbe := below_setRow hb6 (Nat.le_refl _) zeroL.toArray
              go_wp2
              exact bodyPost_ret (v := .tuple #[zeroC, .int .i64 6, .int .i64 ((n : Int) + 1)]) (results_ctt rfl _ _ w.heap.size zeroL.toArray _ _ rfl rfl rfl hrow.out (by kernel_rfl)) rfl ⟨by rw [HPN2.out]; rfl, hbe⟩
            · have hjp : 0 < (j : Int) := by omega
              go_upto_region 23 with (go_at_call 22; refine HC.out.mono ?_; rintro e w4 ⟨hq2, hb7⟩; obtain ⟨ga, gc, ra, rc, pa, qc, na, nc, sa, sc, rfl, _, _⟩ := lines_inr hq2 HP1.out HP2.out; have hz4 := (hb7.block _ hl3).trans HZ3.out; have hl4 := (Array.getElem?_eq_some_iff.1 hz4).1; have HZ4 := Lib.hid hz4; have hb5 := hb4.trans (hb7.mono hb4.size); clear hq2 hb7 hz4)
              have HZ5 := Lib.hid ((Below.heap_alloc w4 (.cells #[.int .i64 c.cats, .slice ga c.gs.length gc, .slice ra c.rs.length rc, .slice pa c.ps.length qc, .slice na c.ns.length nc, .slice sa c.ss.length sc, .int .i64 c.gate, .int .i64 c.quota] 36 (0, 0)) _ hl4).trans HZ4.out)
              have hb6 := hb5.alloc hb5.size (.cells #[.int .i64 c.cats, .slice ga c.gs.length gc, .slice ra c.rs.length rc, .slice pa c.ps.length qc, .slice na c.ns.length nc, .slice sa c.ss.length sc, .int .i64 c.gate, .int .i64 c.quota] 36 (0, 0))
              refine wp_region_lit ?_
              refine wpList_build rfl 36 #[] rfl (by kernel_rfl) ?_
              refine wpList_value rfl (.int .i64 ((n : Int) + 1)) (by kernel_rfl) ?_
              refine wpList_store_row rfl 36 (.tmp 2) (.tmp 81) rfl w.heap.size zeroL.toArray (by kernel_rfl) (by kernel_rfl) 36 _ HZ5.out (by kernel_rfl) rfl (by kernel_rfl) ?_
              have hrow := Lib.hid (setRow_heap _ w.heap.size _ zeroL.toArray _ _ HZ5.out)
              have hbe := below_setRow hb6 (Nat.le_refl _) zeroL.toArray
              go_wp2
              exact bodyPost_ret (v := .tuple #[zeroC, .int .i64 6, .int .i64 ((n : Int) + 1)]) (results_ctt rfl _ _ w.heap.size zeroL.toArray _ _ rfl rfl rfl hrow.out (by kernel_rfl)) rfl ⟨by rw [HPN2.out]; rfl, hbe⟩
/-- the document's Parse of any text -/
theorem refParse_any5 (s : ByteArray) (hs : s.size ≤ 16384) (w : World) :
    Calls Tryd.prog 15 #[.string s] w fun e w' => ParsePost s.data.toList w.heap.size e w' ∧ Below w.heap.size w w' := by
  have hl : ¬ 16384 < s.data.toList.length := by simpa using hs
  by_cases h0 : (cutL 10 s.data.toList).2 = []
  · have hrd := readL_whole h0
    cases hq : runL (cutL 10 s.data.toList).1 pc0 (-1) 0 with
    | inl m =>
      rw [hq] at hrd
      refine (refParse_bad s hs h0 m hq w).mono fun e w' ⟨h1, h2⟩ => ⟨?_, h2⟩
      unfold ParsePost; rw [if_neg hl, hrd]; exact h1
    | inr c =>
      rw [hq] at hrd
      simp only at hrd
      by_cases hn : (cutL 10 s.data.toList).1.length = 0
      · rw [if_pos hn] at hrd
        refine (refParse_none s hs h0 c hq hn w).mono fun e w' ⟨h1, h2⟩ => ⟨?_, h2⟩
        unfold ParsePost; rw [if_neg hl, hrd]; exact h1
      · rw [if_neg hn] at hrd
        by_cases he : (chk c).1 = 0
        · refine (refParse_right s hs h0 c hq hn _ he rfl w).mono fun e w' ⟨h1, h2⟩ => ⟨?_, h2⟩
          unfold ParsePost; rw [if_neg hl, hrd]; simp only; rw [if_pos he]; exact h1
        · refine (refParse_wrong s hs h0 c hq hn _ rfl he w).mono fun e w' ⟨h1, h2⟩ => ⟨?_, h2⟩
          unfold ParsePost; rw [if_neg hl, hrd]; simp only; rw [if_neg he]; exact h1
  · have hrd := readL_part h0
    refine (refParse_part s hs h0 w).mono fun e w' ⟨h1, h2⟩ => ⟨?_, h2⟩
    unfold ParsePost
    unfold partN at h1
    cases hq : runL (cutL 10 s.data.toList).1 pc0 (-1) 0 with
    | inl m => rw [hq] at hrd h1; rw [if_neg hl, hrd]; exact h1
    | inr c => rw [hq] at hrd h1; rw [if_neg hl, hrd]; exact h1
end Go.Proofs.YtikkfapgmbamlaaDoor.Pl
end
