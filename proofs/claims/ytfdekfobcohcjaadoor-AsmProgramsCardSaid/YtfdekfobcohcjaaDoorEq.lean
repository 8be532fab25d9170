/- The document's Split of layer 5. -/
import Derived.Test.YtfdekfobcohcjaaDoorEp
namespace Go.Proofs.YtfdekfobcohcjaaDoor.Pl
open Go.RowKit Ut
set_option linter.unusedVariables false

theorem wordsL_early {s : ByteArray} {k : Nat} {ps : List (List UInt8)} {cur : List UInt8} (h : RefAt 32 s (k + 1) (ps ++ [[]]) cur) : wordsL s.data.toList = none := by
  obtain ⟨t, ht⟩ := cutL_more 32 (s.data.toList.take (k + 1)) (s.data.toList.drop (k + 1))
  rw [List.take_append_drop, h.cut] at ht
  unfold wordsL
  rw [ht, if_pos (by simp)]
set_option maxHeartbeats 1000000 in
set_option maxRecDepth 100000 in
theorem refSplit_any (s : ByteArray) (hs : s.size ≤ 1099511627776) (B : Nat) (w : World) (hB : B ≤ w.heap.size) :
    Calls Tryd.prog 27 #[.string s] w fun e w' => ∃ v, e = .returned (.tuple #[v, .bool (wordsL s.data.toList).isSome]) ∧ OwnS w' B 9 v ((wordsL s.data.toList).getD []).length ((wordsL s.data.toList).getD []) ∧ ((wordsL s.data.toList).getD []).length ≤ s.size + 1 ∧ Below B w w' := by
  obtain ⟨i0, hi, hz0, hz1, hz2⟩ := info_parts info_str
  obtain ⟨j0, hj, hy0, hy1, hy2⟩ := info_parts info_u8'
  obtain ⟨o, ho⟩ : ∃ o, wordsL s.data.toList = o := ⟨_, rfl⟩
  rw [ho]
  have HO := Lib.hid ho
  clear ho
  obtain ⟨ws, hws⟩ : ∃ ws, o.getD [] = ws := ⟨_, rfl⟩
  obtain ⟨b, hb⟩ : ∃ b, o.isSome = b := ⟨_, rfl⟩
  rw [hws, hb]
  have HW := Lib.hid hws
  have HB := Lib.hid hb
  clear hws hb
  go_enter Tryd.func27, Tryd.ntmps27
  go_wp2
  go_loopw [4, 5, 6] (fun v u i wr => ∃ (k : Nat) (ps : List (List UInt8)) (cur : List UInt8), k ≤ s.size ∧ i = .int .i64 k ∧ RefAt 32 s k ps cur ∧ [] ∉ ps ∧ OwnS wr B 9 v ps.length ps ∧ OwnI .u8 wr B 5 u cur.length (bz cur) ∧ Below B w wr) (fun _ _ i _ => s.size - (intOf i).toNat)
  case atStart => exact ⟨0, [], [], Nat.zero_le _, rfl, RefAt.start _ _, by simp, OwnS.nil _ _ _, OwnI.nil _ _ _ _, Below.refl _ _⟩
  case round =>
    obtain ⟨k, ps, cur, hk, rfl, hat, hne, hown, hcur, hbel⟩ := hrel
    have HNE := Lib.hid hne
    clear hne
    have hbs := Nat.le_trans hB hbel.size
    have HAT := Lib.hid hat
    have hlen := hat.len
    by_cases hlt : k < s.size
    · by_cases he : (((s[k]'hlt).toNat : Nat) : Int) = 32
      · have hhit := hat.hit hlt (UInt8.toNat_inj.1 (by simp; omega))
        by_cases h0 : cur.length = 0
        · have h00 : cur = [] := List.length_eq_zero_iff.1 h0
          rw [h00] at hhit
          have eo := HO.out.symm.trans (wordsL_early hhit)
          have e1 : ws = [] := by rw [← HW.out, eo]; rfl
          have e2 : b = false := by rw [← HB.out, eo]; rfl
          subst e1
          subst e2
          obtain ⟨a, cap, rfl, hcap, hcm, hrow⟩ := OwnI.row hcur
          clear hrow hat hcur eo hhit h00
          go_wp2
          go_ret2
          exact ⟨_, rfl, OwnS.nil _ _ _, Nat.zero_le _, hbel⟩
        · have HN := Lib.hid hhit
          have HCN : Hid (cur ≠ []) := Lib.hid (fun h => h0 (by rw [h]; rfl))
          clear hhit
          obtain ⟨a, cap, rfl, hcap, hcm, hrow⟩ := OwnI.row hcur
          have hcv : ∀ W, Below wr.heap.size wr W → (convert 70 9 (.slice a cur.length cap)).run Tryd.prog W = .ok (.string (tb cur)) W := fun W hW => by
            rw [← str_bz]
            exact run_convert_row Tryd.underlying70 Tryd.underlying5 Tryd.underlying9 (hrow.below hW)
          have hc0 := hcv wr (Below.refl _ _)
          clear hcv hrow hat hcur
          go_wp2_with (at_builtin; refine wpList_append_own _ rfl _ _ 57 rfl B 9 i0 (.string ⟨#[]⟩) 1 16 Tryd.underlying57 hi hz0 hz1 hz2 rfl (by decide) _ _ _ rfl (World.ownsRow.alloc hown _) ⟨wr.heap.size, 0, none⟩ 1 1 [.string (tb cur)] rfl rfl ?c1 ?c2 ?c3 ?c4 ?c5 ?_)
          case c1 => exact cell_one_new _ _ _
          case c2 => intro u hu; simp at hu; subst hu; rfl
          case c3 => unfold maxLen; omega
          case c4 => omega
          case c5 => simp; omega
          · intro v' w1 hown' hgrow _
            have hb1 : Below B w w1 := (hbel.alloc hbs _).grown hgrow (by simp; omega) (fun q hq => (World.ownsRow.lt hown q hq).1)
            have ho1 : OwnS w1 B 9 v' (ps ++ [cur]).length (ps ++ [cur]) := by
              unfold OwnS
              rw [List.map_append, List.length_append]
              simpa [encS] using hown'
            clear hown' hgrow hown hbel hc0
            go_wp2
            go_roundw
            case rel => exact ⟨k + 1, _, _, by omega, by go_num, HN.out, (by simp only [List.mem_append, List.mem_singleton, not_or]; exact ⟨HNE.out, fun h => HCN.out h.symm⟩), ho1, OwnI.nil _ _ _ _, hb1⟩
            case measure => simp [intOf]; omega
      · have HN := Lib.hid (hat.put hlt (fun h => he (by rw [h]; rfl)))
        clear hat
        go_wp2_with (at_builtin; refine wpList_append_own _ rfl _ _ 70 rfl B 5 j0 (.int .u8 0) 1 1 Tryd.underlying70 hj hy0 hy1 hy2 rfl (by decide) _ _ _ rfl (World.ownsRow.alloc hcur _) ⟨wr.heap.size, 0, none⟩ 1 1 [.int .u8 ((s[k]'hlt).toNat : Nat)] rfl rfl ?c1 ?c2 ?c3 ?c4 ?c5 ?_)
        case c1 => exact cell_one_new _ _ _
        case c2 => intro u hu; simp at hu; subst hu; rfl
        case c3 => unfold maxLen; omega
        case c4 => omega
        case c5 => simp; omega
        · intro v' w1 hown' hgrow _
          have hb1 : Below B w w1 := (hbel.alloc hbs _).grown hgrow (by simp; omega) (fun q hq => (World.ownsRow.lt hcur q hq).1)
          have ho1 : OwnI .u8 w1 B 5 v' (cur ++ [s[k]'hlt]).length (bz (cur ++ [s[k]'hlt])) := by
            unfold OwnI bz
            rw [List.map_append, List.map_append, List.length_append]
            simpa [bz] using hown'
          have ho2 : OwnS w1 B 9 _ ps.length ps := ownsRow_other (World.ownsRow.alloc hown _) hgrow (fun q cs e' f h1 h2 => by have := own_tag (World.ownsRow.alloc hcur _) q cs e' f h1 h2; rw [this]; decide)
          clear hown' hgrow hown hcur hbel
          go_wp2
          go_roundw
          case rel => exact ⟨k + 1, _, _, by omega, by go_num, HN.out, HNE.out, ho2, ho1, hb1⟩
          case measure => simp [intOf]; omega
    · have HD := Lib.hid (hat.done (by omega))
      have hcl : (cur = [] ↔ cur.length = 0) := List.length_eq_zero_iff.symm
      obtain ⟨a, cap, rfl, hcap, hcm, hrow⟩ := OwnI.row hcur
      have hcv := run_convert_row (P := Tryd.prog) (dst := 9) Tryd.underlying70 Tryd.underlying5 Tryd.underlying9 (cap := cap) hrow
      rw [str_bz] at hcv
      clear hrow hat
      by_cases h0 : cur.length = 0
      · have h00 := hcl.2 h0
        have e : wordsL s.data.toList = none := by unfold wordsL; rw [HD.out, h00]; simp
        have eo := HO.out.symm.trans e
        have e1 : ws = [] := by rw [← HW.out, eo]; rfl
        have e2 : b = false := by rw [← HB.out, eo]; rfl
        subst e1
        subst e2
        clear hcl h00 hcur eo e hcv
        go_wp2
        go_ret2
        exact ⟨_, rfl, OwnS.nil _ _ _, Nat.zero_le _, hbel⟩
      · have h00 : ¬ cur = [] := fun h => h0 (hcl.1 h)
        have e : wordsL s.data.toList = some (ps ++ [cur]) := by
          unfold wordsL; rw [HD.out, if_neg]
          simp only [List.mem_append, List.mem_singleton, not_or]; exact ⟨HNE.out, fun h => h00 h.symm⟩
        have eo := HO.out.symm.trans e
        have e1 : ws = ps ++ [cur] := by rw [← HW.out, eo]; rfl
        have e2 : b = true := by rw [← HB.out, eo]; rfl
        subst e2
        have HE := Lib.hid e1
        clear hcl h00 hcur eo e e1
        go_wp2_with (at_builtin; refine wpList_append_own _ rfl _ _ 57 rfl B 9 i0 (.string ⟨#[]⟩) 1 16 Tryd.underlying57 hi hz0 hz1 hz2 rfl (by decide) _ _ _ rfl (World.ownsRow.alloc hown _) ⟨wr.heap.size, 0, none⟩ 1 1 [.string (tb cur)] rfl rfl ?c1 ?c2 ?c3 ?c4 ?c5 ?_)
        case c1 => exact cell_one_new _ _ _
        case c2 => intro u hu; simp at hu; subst hu; rfl
        case c3 => unfold maxLen; omega
        case c4 => omega
        case c5 => simp; omega
        · intro v' w1 hown' hgrow _
          have hb1 : Below B w w1 := (hbel.alloc hbs _).grown hgrow (by simp; omega) (fun q hq => (World.ownsRow.lt hown q hq).1)
          have ho1 : OwnS w1 B 9 v' (ps ++ [cur]).length (ps ++ [cur]) := by
            unfold OwnS
            rw [List.map_append, List.length_append]
            simpa [encS] using hown'
          clear hown' hgrow hown hbel hcv
          go_wp2
          go_ret2
          rw [HE.out]
          exact ⟨_, rfl, ho1, by simp; omega, hb1⟩
end Go.Proofs.YtfdekfobcohcjaaDoor.Pl
