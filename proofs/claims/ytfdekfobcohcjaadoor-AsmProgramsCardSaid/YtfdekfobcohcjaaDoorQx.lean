/- The document's Program: the words that a text's lines say. -/
import Derived.Test.YtfdekfobcohcjaaDoorQw
import Derived.Test.YtfdekfobcohcjaaDoorQj
import Derived.Test.YtfdekfobcohcjaaDoorEp
import Derived.Deep.OwnRows
namespace Go.Proofs.YtfdekfobcohcjaaDoor.As
open Go.RowKit Ut Is Pl
set_option linter.unusedVariables false
set_option maxRecDepth 100000
set_option maxHeartbeats 8000000

/-! ### how many lines -/
def NIs (s : ByteArray) (k m : Nat) : Prop := m = (cutL 10 (s.data.toList.take k)).1.length + (if k = s.size then overN s.data.toList else 0)
theorem ni_start (s : ByteArray) : NIs s 0 0 := by
  unfold NIs
  by_cases h : 0 = s.size
  · have hl : s.data.toList = [] := List.length_eq_zero_iff.1 (by have : s.data.toList.length = s.size := rfl; omega)
    rw [if_pos h, hl]; rfl
  · rw [if_neg h]; rfl
theorem ni_take {s : ByteArray} {k : Nat} (hk : k < s.size) : cutL 10 (s.data.toList.take (k + 1)) = cutS 10 (cutL 10 (s.data.toList.take k)) (s[k]'hk) := by
  have e : s.data.toList.take (k + 1) = s.data.toList.take k ++ [s[k]'hk] := by
    rw [List.take_add_one, List.getElem?_eq_getElem (by simpa using hk)]
    rfl
  rw [e, cutL_snoc]
theorem ni_all {s : ByteArray} {k : Nat} (hk : k + 1 = s.size) : s.data.toList.take (k + 1) = s.data.toList := List.take_of_length_le (by have : s.data.toList.length = s.size := rfl; omega)
theorem ni_hit {s : ByteArray} {k m : Nat} (h : NIs s k m) (hk : k < s.size) (hb : s[k]'hk = 10) : NIs s (k + 1) (m + 1) := by
  unfold NIs at h ⊢
  rw [if_neg (by omega)] at h
  have ht := ni_take hk
  have hc : cutL 10 (s.data.toList.take (k + 1)) = ((cutL 10 (s.data.toList.take k)).1 ++ [(cutL 10 (s.data.toList.take k)).2], []) := by rw [ht]; simp [cutS, hb]
  by_cases hl : k + 1 = s.size
  · rw [if_pos hl]
    unfold overN
    rw [ni_all hl] at hc ⊢
    rw [hc]
    simp [h]
  · rw [if_neg hl, hc]
    simp [h]
theorem ni_last {s : ByteArray} {k m : Nat} (h : NIs s k m) (hk : k < s.size) (hb : ¬ s[k]'hk = 10) (hl : k + 1 = s.size) : NIs s (k + 1) (m + 1) := by
  unfold NIs at h ⊢
  rw [if_neg (by omega)] at h
  have ht := ni_take hk
  have hc : cutL 10 (s.data.toList.take (k + 1)) = ((cutL 10 (s.data.toList.take k)).1, (cutL 10 (s.data.toList.take k)).2 ++ [s[k]'hk]) := by rw [ht]; simp [cutS, hb]
  rw [if_pos hl]
  unfold overN
  rw [ni_all hl] at hc ⊢
  rw [hc]
  simp [h]
theorem ni_put {s : ByteArray} {k m : Nat} (h : NIs s k m) (hk : k < s.size) (hb : ¬ s[k]'hk = 10) (hl : ¬ k + 1 = s.size) : NIs s (k + 1) m := by
  unfold NIs at h ⊢
  rw [if_neg (by omega)] at h
  have ht := ni_take hk
  have hc : cutL 10 (s.data.toList.take (k + 1)) = ((cutL 10 (s.data.toList.take k)).1, (cutL 10 (s.data.toList.take k)).2 ++ [s[k]'hk]) := by rw [ht]; simp [cutS, hb]
  rw [if_neg hl, hc]
  simp [h]
theorem ni_end {s : ByteArray} {m : Nat} (h : NIs s s.size m) : m = (cutL 10 s.data.toList).1.length + overN s.data.toList := by
  unfold NIs at h
  rw [if_pos rfl, List.take_of_length_le (by simp)] at h
  exact h
theorem bad_of {s : ByteArray} {k : Nat} {ps : List (List UInt8)} {cur : List UInt8} (h : RefAt 10 s k (ps ++ [cur]) []) (hg : AllGood ps ps.length) (hn : lineO cur = none) : badAt (cutL 10 s.data.toList).1 = ps.length ∧ ps.length < (cutL 10 s.data.toList).1.length := by
  obtain ⟨t, ht⟩ := cutL_more 10 (s.data.toList.take k) (s.data.toList.drop k)
  rw [List.take_append_drop, h.cut] at ht
  rw [ht]
  have e1 : (ps ++ [cur] ++ t).getD ps.length [] = cur := by simp [List.getD]
  have hl : ps.length < (ps ++ [cur] ++ t).length := by simp <;> omega
  refine ⟨bad_here (fun j hj => ?_) hl (by rw [e1, hn]; rfl), hl⟩
  have := hg j hj
  have e : (ps ++ [cur] ++ t).getD j [] = ps.getD j [] := by
    simp only [List.getD_eq_getElem?_getD, List.append_assoc]
    rw [List.getElem?_append_left hj]
  rw [e]; exact this
theorem good_more {ps : List (List UInt8)} {cur : List UInt8} {z : Int} (hg : AllGood ps ps.length) (hn : lineO cur = some z) : AllGood (ps ++ [cur]) (ps ++ [cur]).length := fun j hj => by
  by_cases h : j < ps.length
  · have := hg j h
    have e : (ps ++ [cur]).getD j [] = ps.getD j [] := by
      simp only [List.getD_eq_getElem?_getD]
      rw [List.getElem?_append_left h]
    rw [e]; exact this
  · obtain rfl : j = ps.length := by simp at hj; omega
    have e1 : (ps ++ [cur]).getD ps.length [] = cur := by simp [List.getD]
    rw [e1, hn]; rfl
theorem pieces_le {s : ByteArray} {k : Nat} {ps : List (List UInt8)} {cur : List UInt8} (h : RefAt 10 s k ps cur) : ps.length ≤ (cutL 10 s.data.toList).1.length := by
  obtain ⟨t, ht⟩ := cutL_more 10 (s.data.toList.take k) (s.data.toList.drop k)
  rw [List.take_append_drop, h.cut] at ht
  rw [ht, List.length_append]
  exact Nat.le_add_right _ _
theorem refProgram_any (s : ByteArray) (hs : s.size ≤ 16384) (w : World) :
    Calls Tryd.prog 13 #[.string s] w fun e w' => ProgPost s.data.toList w e w' := by
  obtain ⟨i0, hi, hz0, hz1, hz2⟩ := info_parts info_word
  obtain ⟨j0, hj, hy0, hy1, hy2⟩ := info_parts info_u8'
  have hsi : (s.size : Int) ≤ 16384 := by omega
  obtain ⟨B, hB⟩ : ∃ B, B = w.heap.size := ⟨_, rfl⟩
  have HBE := Lib.hid hB
  have hBw : B ≤ w.heap.size := Nat.le_of_eq hB
  clear hB
  go_enter Tryd.func13, Tryd.ntmps13
  go_wp2
  go_loop [5, 6] (fun n i => ∃ k m : Nat, k ≤ s.size ∧ m ≤ k ∧ i = .int .i64 k ∧ n = .int .i64 m ∧ NIs s k m) (fun _ i => s.size - (intOf i).toNat)
  case atStart => exact ⟨0, 0, Nat.zero_le _, Nat.le_refl _, rfl, rfl, ni_start s⟩
  case round =>
    obtain ⟨k, m, hk, hm, rfl, rfl, hni⟩ := hrel
    have HNI := Lib.hid hni
    clear hni
    by_cases hlt : k < s.size
    · by_cases he : (((s[k]'hlt).toNat : Nat) : Int) = 10
      · have hc1 : ((((s[k]'hlt).toNat : Nat) : Int) == 10) = true := by rw [beq_iff_eq]; exact he
        have HN := Lib.hid (ni_hit HNI.out hlt (UInt8.toNat_inj.1 (by simp; omega)))
        clear he
        go_wp2
        go_round
        case rel => exact ⟨k + 1, m + 1, by omega, by omega, by go_num, by go_num, HN.out⟩
        case measure => simp [intOf]; omega
      · have hc1 : ((((s[k]'hlt).toNat : Nat) : Int) == 10) = false := by rw [beq_eq_false_iff_ne]; exact he
        have hne : ¬ s[k]'hlt = 10 := fun h => he (by rw [h]; rfl)
        by_cases hl : k + 1 = s.size
        · have hc2 : ((k : Int) == (s.size : Int) - 1) = true := by rw [beq_iff_eq]; omega
          have HN := Lib.hid (ni_last HNI.out hlt hne hl)
          clear he hne
          go_wp2
          go_round
          case rel => exact ⟨k + 1, m + 1, by omega, by omega, by go_num, by go_num, HN.out⟩
          case measure => simp [intOf]; omega
        · have hc2 : ((k : Int) == (s.size : Int) - 1) = false := by rw [beq_eq_false_iff_ne]; omega
          have HN := Lib.hid (ni_put HNI.out hlt hne hl)
          clear he hne
          go_wp2
          go_round
          case rel => exact ⟨k + 1, m, by omega, by omega, by go_num, rfl, HN.out⟩
          case measure => simp [intOf]; omega
    · obtain rfl : k = s.size := by omega
      have hend := ni_end HNI.out
      by_cases h5 : 512 < m
      · have hl : longB s.data.toList = true := by unfold longB; rw [← hend, decide_eq_true h5]; simp
        obtain ⟨e1, e2, e3⟩ := prog_long hl
        have H1 := Lib.hid e1
        have H2 := Lib.hid e2
        have H3 := Lib.hid e3
        have h5i : (512 : Int) < (m : Int) := by omega
        clear hl e1 e2 e3 hend
        go_wp2
        exact bodyPost_ret (v := .tuple #[.slice none 0 0, .int .i64 10, .int .i64 0]) (by simp [results, Tryd.results13, go_sem]) rfl ⟨none, 0, 0, by rw [H2.out, H3.out], by rw [H1.out]; exact RowK.nil _ _ _ _, by omega, Below.refl _ _⟩
      · have hl : longB s.data.toList = false := by
          unfold longB
          rw [size_list, ← hend, decide_eq_false h5, decide_eq_false (by omega)]; rfl
        have h5i : (m : Int) ≤ 512 := by omega
        have HBAD := Lib.hid (prog_bad hl)
        have HGOOD := Lib.hid (prog_good hl)
        have HEND := Lib.hid hend
        have hlen : s.data.toList.length = s.size := rfl
        have HPL := Lib.hid (fun k ps cur (h : RefAt 10 s k ps cur) => (show ps.length ≤ 512 by have := pieces_le h; omega))
        clear hl hend hlt hk
        go_wp2
        go_loopw [7, 8, 9] (fun v u i wr => ∃ (k : Nat) (ps : List (List UInt8)) (cur : List UInt8), k ≤ s.size ∧ i = .int .i64 k ∧ RefAt 10 s k ps cur ∧ AllGood ps ps.length ∧ OwnI .u32 wr B 59 v ps.length (ps.map fun p => (lineO p).getD 0) ∧ OwnI .u8 wr B 5 u cur.length (bz cur) ∧ Below B w wr) (fun _ _ i _ => s.size - (intOf i).toNat)
        case atStart => exact ⟨0, [], [], Nat.zero_le _, rfl, RefAt.start _ _, AllGood.zero _, OwnI.nil _ _ _ _, OwnI.nil _ _ _ _, Below.refl _ _⟩
        case round =>
          obtain ⟨k, ps, cur, hk, rfl, hat, hgood, hown, hcur, hbel⟩ := hrel
          have hbs := Nat.le_trans hBw hbel.size
          have HAT := Lib.hid hat
          have HG := Lib.hid hgood
          have hlen2 := hat.len
          have hp512 : ps.length ≤ 512 := HPL.out _ _ _ hat
          clear hgood
          by_cases hlt : k < s.size
          · by_cases he : (((s[k]'hlt).toNat : Nat) : Int) = 10
            · have HN := Lib.hid (hat.hit hlt (UInt8.toNat_inj.1 (by simp; omega)))
              have hc1 : ((((s[k]'hlt).toNat : Nat) : Int) == 10) = true := by rw [beq_iff_eq]; exact he
              have hc2 : ((((s[k]'hlt).toNat : Nat) : Int) != 10) = false := by rw [bne, hc1]; rfl
              obtain ⟨a, cap, rfl, hcap, hcm, hrow⟩ := OwnI.row hcur
              have hcv : (convert 70 9 (.slice a cur.length cap)).run Tryd.prog wr = .ok (.string (tb cur)) wr := by
                rw [← str_bz]
                exact run_convert_row Tryd.underlying70 Tryd.underlying5 Tryd.underlying9 hrow
              have hcs : (tb cur).size ≤ 1099511627776 := by rw [tb_size]; omega
              have HC := Lib.hid (refWord_any (tb cur) hcs wr)
              rw [show (tb cur).data.toList = cur from rfl] at HC
              obtain ⟨a2, cap2, rfl, hcap2, hcm2, hrow2⟩ := OwnI.row hown
              have HOWN := Lib.hid hown
              have HBEL := Lib.hid hbel
              clear hrow hrow2 hat hcur hown hbel he hcs
              go_wp2_with fail
              refine HC.out.mono ?_
              rintro e w5 ⟨z, rfl, hz, hb5⟩
              have HB5 := Lib.hid (HBEL.out.trans (hb5.mono hbs))
              cases ho : lineO cur with
              | none =>
                obtain ⟨b1, b2⟩ := bad_of HN.out HG.out ho
                obtain ⟨e1, e2, e3⟩ := HBAD.out (.inl (by rw [b1]; exact b2))
                rw [b1] at e3
                have H1 := Lib.hid e1
                have H2 := Lib.hid e2
                have H3 := Lib.hid e3
                clear e1 e2 e3 b1 b2 hz hcv ho hb5
                go_wp2
                exact bodyPost_ret (v := .tuple #[.slice none 0 0, .int .i64 6, .int .i64 ((ps.length : Int) + 1)]) (by simp [results, Tryd.results13, go_sem]) rfl ⟨none, 0, 0, by rw [H2.out, H3.out], by rw [H1.out]; exact RowK.nil _ _ _ _, by omega, HBE.out ▸ HB5.out⟩
              | some z0 =>
                obtain rfl : z = z0 := hz z0 ho
                have hown5 := OwnI.below HOWN.out hb5
                have HO := Lib.hid ho
                have hbs5 := Nat.le_trans hBw HB5.out.size
                have HO5 := Lib.hid hown5
                clear hz hcv ho hb5 hown5
                go_wp2_with (at_builtin; refine wpList_append_own _ rfl _ _ 35 rfl B 59 i0 (.int .u32 0) 1 4 Tryd.underlying35 hi hz0 hz1 hz2 rfl (by decide) _ _ _ rfl (World.ownsRow.alloc HO5.out _) ⟨w5.heap.size, 0, none⟩ 1 1 [.int .u32 z] rfl rfl ?c1 ?c2 ?c3 ?c4 ?c5 ?_)
                case c1 => exact cell_one_new _ _ _
                case c2 => intro u hu; simp at hu; subst hu; rfl
                case c3 => unfold maxLen; omega
                case c4 => omega
                case c5 => simp; omega
                · intro v' w6 hown' hgrow _
                  have hb1 : Below B w w6 := (HB5.out.alloc hbs5 _).grown hgrow (by simp; omega) (fun q hq => (World.ownsRow.lt HO5.out q hq).1)
                  have ho1 : OwnI .u32 w6 B 59 v' (ps ++ [cur]).length ((ps ++ [cur]).map fun p => (lineO p).getD 0) := by
                    unfold OwnI
                    rw [List.map_append, List.map_append, List.length_append]
                    simpa [HO.out] using hown'
                  have HB6 := Lib.hid hb1
                  have HO6 := Lib.hid ho1
                  clear hown' hgrow hb1 ho1
                  go_wp2
                  go_roundw
                  case rel => exact ⟨k + 1, _, _, by omega, by go_num, HN.out, good_more HG.out HO.out, HO6.out, OwnI.nil _ _ _ _, HB6.out⟩
                  case measure => simp [intOf]; omega
            · have HN := Lib.hid (hat.put hlt (fun h => he (by rw [h]; rfl)))
              have hc1 : ((((s[k]'hlt).toNat : Nat) : Int) == 10) = false := by rw [beq_eq_false_iff_ne]; exact he
              have hc2 : ((((s[k]'hlt).toNat : Nat) : Int) != 10) = true := by rw [bne, hc1]; rfl
              have HOWN := Lib.hid hown
              have HCUR := Lib.hid hcur
              have HBEL := Lib.hid hbel
              clear hat he hown hcur hbel
              go_wp2_with (at_builtin; refine wpList_append_own _ rfl _ _ 70 rfl B 5 j0 (.int .u8 0) 1 1 Tryd.underlying70 hj hy0 hy1 hy2 rfl (by decide) _ _ _ rfl (World.ownsRow.alloc HCUR.out _) ⟨wr.heap.size, 0, none⟩ 1 1 [.int .u8 ((s[k]'hlt).toNat : Nat)] rfl rfl ?c1 ?c2 ?c3 ?c4 ?c5 ?_)
              case c1 => exact cell_one_new _ _ _
              case c2 => intro u hu; simp at hu; subst hu; rfl
              case c3 => unfold maxLen; omega
              case c4 => omega
              case c5 => simp; omega
              · intro v' w1 hown' hgrow _
                have hb1 : Below B w w1 := (HBEL.out.alloc hbs _).grown hgrow (by simp; omega) (fun q hq => (World.ownsRow.lt HCUR.out q hq).1)
                have ho1 : OwnI .u8 w1 B 5 v' (cur ++ [s[k]'hlt]).length (bz (cur ++ [s[k]'hlt])) := by
                  unfold OwnI bz
                  rw [List.map_append, List.map_append, List.length_append]
                  simpa [bz] using hown'
                have ho2 : OwnI .u32 w1 B 59 _ ps.length (ps.map fun p => (lineO p).getD 0) := ownsRow_other (World.ownsRow.alloc HOWN.out _) hgrow (fun q cs e' f h1 h2 => by have := own_tag (World.ownsRow.alloc HCUR.out _) q cs e' f h1 h2; rw [this]; decide)
                have HO1 := Lib.hid ho1
                have HO2 := Lib.hid ho2
                have HB1 := Lib.hid hb1
                clear hown' hgrow ho1 ho2 hb1
                go_wp2
                go_roundw
                case rel => exact ⟨k + 1, _, _, by omega, by go_num, HN.out, HG.out, HO2.out, HO1.out, HB1.out⟩
                case measure => simp [intOf]; omega
          · have hd := hat.done (by omega)
            obtain ⟨a, cap, rfl, hcap, hcm, hrow⟩ := OwnI.row hcur
            obtain ⟨a2, cap2, rfl, hcap2, hcm2, hrow2⟩ := OwnI.row hown
            rw [hd] at HBAD HGOOD
            have HR2 := Lib.hid hrow2
            have HBEL := Lib.hid hbel
            have hbn := bad_none HG.out
            by_cases h0 : cur.length = 0
            · have h00 : cur = [] := List.length_eq_zero_iff.1 h0
              obtain ⟨e1, e2, e3⟩ := HGOOD.out hbn h00
              have H1 := Lib.hid e1
              have H2 := Lib.hid e2
              have H3 := Lib.hid e3
              have h0i : ¬ (0 : Int) < (cur.length : Int) := by omega
              have h0j : (cur.length : Int) ≤ 0 := by omega
              clear e1 e2 e3 hbn hd hrow hrow2 hat hcur hown hbel h00
              go_wp2
              exact bodyPost_ret (v := .tuple #[.slice a2 ps.length cap2, .int .i64 0, .int .i64 0]) (by simp [results, Tryd.results13, go_sem]) rfl ⟨a2, ps.length, cap2, by rw [H2.out, H3.out], by rw [H1.out]; exact HR2.out, by omega, HBE.out ▸ HBEL.out⟩
            · have h00 : ¬ cur = [] := fun h => h0 (by rw [h]; rfl)
              obtain ⟨e1, e2, e3⟩ := HBAD.out (.inr h00)
              rw [hbn] at e3
              have H1 := Lib.hid e1
              have H2 := Lib.hid e2
              have H3 := Lib.hid e3
              have h0i : (0 : Int) < (cur.length : Int) := by omega
              clear e1 e2 e3 hbn hd hrow hrow2 hat hcur hown hbel h00
              go_wp2
              exact bodyPost_ret (v := .tuple #[.slice none 0 0, .int .i64 6, .int .i64 ((ps.length : Int) + 1)]) (by simp [results, Tryd.results13, go_sem]) rfl ⟨none, 0, 0, by rw [H2.out, H3.out], by rw [H1.out]; exact RowK.nil _ _ _ _, by omega, HBE.out ▸ HBEL.out⟩
end Go.Proofs.YtfdekfobcohcjaaDoor.As
