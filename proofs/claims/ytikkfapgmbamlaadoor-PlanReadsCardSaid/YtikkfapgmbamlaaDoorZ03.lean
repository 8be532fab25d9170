/- Several texts in one: Eq Ef -/
import Derived.Test.YtikkfapgmbamlaaDoorZ02
section
/- The document's Split of layer 5. -/
namespace Go.Proofs.YtikkfapgmbamlaaDoor.Pl
open Go.RowKit Ut
set_option linter.unusedVariables false

theorem wordsL_early {s : ByteArray} {k : Nat} {ps : List (List UInt8)} {cur : List UInt8} (h : RefAt 32 s (k + 1) (ps ++ [[]]) cur) : wordsL s.data.toList = none := by
  obtain ⟨t, ht⟩ := cutL_more 32 (s.data.toList.take (k + 1)) (s.data.toList.drop (k + 1))
  rw [List.take_append_drop, h.cut] at ht
  unfold wordsL
  rw [ht, if_pos (by simp)]
set_option maxHeartbeats 1000000 in
set_option maxRecDepth 100000 in
theorem refSplit_any (s : ByteArray) (hs : s.size ≤ 1099511627776) (B : Nat) (w : World) (hB : B ≤ w.heap.size) :
    Calls Tryd.prog 8 #[.string s] w fun e w' => ∃ v, e = .returned (.tuple #[v, .bool (wordsL s.data.toList).isSome]) ∧ OwnS w' B 9 v ((wordsL s.data.toList).getD []).length ((wordsL s.data.toList).getD []) ∧ ((wordsL s.data.toList).getD []).length ≤ s.size + 1 ∧ Below B w w' := by
  obtain ⟨i0, hi, hz0, hz1, hz2⟩ := info_parts info_str
  obtain ⟨j0, hj, hy0, hy1, hy2⟩ := info_parts info_u8'
  obtain ⟨o, ho⟩ : ∃ o, wordsL s.data.toList = o := ⟨_, rfl⟩
  rw [ho]
  have HO := Lib.hid ho
  clear ho
  obtain ⟨ws, hws⟩ : ∃ ws, o.getD [] = ws := ⟨_, rfl⟩
  obtain ⟨b, hb⟩ : ∃ b, o.isSome = b := ⟨_, rfl⟩
  rw [hws, hb]
  have HW := Lib.hid hws
  have HB := Lib.hid hb
  clear hws hb
  go_enter Tryd.func8, Tryd.ntmps8
  go_wp2
  go_loopw [4, 5, 6] (fun v u i wr => ∃ (k : Nat) (ps : List (List UInt8)) (cur : List UInt8), k ≤ s.size ∧ i = .int .i64 k ∧ RefAt 32 s k ps cur ∧ [] ∉ ps ∧ OwnS wr B 9 v ps.length ps ∧ OwnI .u8 wr B 5 u cur.length (bz cur) ∧ Below B w wr) (fun _ _ i _ => s.size - (intOf i).toNat)
  case atStart => exact ⟨0, [], [], Nat.zero_le _, rfl, RefAt.start _ _, by simp, OwnS.nil _ _ _, OwnI.nil _ _ _ _, Below.refl _ _⟩
  case round =>
    obtain ⟨k, ps, cur, hk, rfl, hat, hne, hown, hcur, hbel⟩ := hrel
    have HNE := Lib.hid hne
    clear hne
    have hbs := Nat.le_trans hB hbel.size
    have HAT := Lib.hid hat
    have hlen := hat.len
    by_cases hlt : k < s.size
    · by_cases he : (((s[k]'hlt).toNat : Nat) : Int) = 32
      · have hhit := hat.hit hlt (UInt8.toNat_inj.1 (by simp; omega))
        by_cases h0 : cur.length = 0
        · have h00 : cur = [] := List.length_eq_zero_iff.1 h0
          rw [h00] at hhit
          have eo := HO.out.symm.trans (wordsL_early hhit)
          have e1 : ws = [] := by rw [← HW.out, eo]; rfl
          have e2 : b = false := by rw [← HB.out, eo]; rfl
          subst e1
          subst e2
          obtain ⟨a, cap, rfl, hcap, hcm, hrow⟩ := OwnI.row hcur
          clear hrow hat hcur eo hhit h00
          go_wp2
          go_ret2
          exact ⟨_, rfl, OwnS.nil _ _ _, Nat.zero_le _, hbel⟩
        · have HN := Lib.hid hhit
          have HCN : Hid (cur ≠ []) := Lib.hid (fun h => h0 (by rw [h]; rfl))
          clear hhit
          obtain ⟨a, cap, rfl, hcap, hcm, hrow⟩ := OwnI.row hcur
          have hcv : ∀ W, Below wr.heap.size wr W → (convert 51 9 (.slice a cur.length cap)).run Tryd.prog W = .ok (.string (tb cur)) W := fun W hW => by
            rw [← str_bz]
            exact run_convert_row Tryd.underlying51 Tryd.underlying5 Tryd.underlying9 (hrow.below hW)
          have hc0 := hcv wr (Below.refl _ _)
          clear hcv hrow hat hcur
          go_wp2_with (at_builtin; refine wpList_append_own _ rfl _ _ 23 rfl B 9 i0 (.string ⟨#[]⟩) 1 16 Tryd.underlying23 hi hz0 hz1 hz2 rfl (by decide) _ _ _ rfl (World.ownsRow.alloc hown _) ⟨wr.heap.size, 0, none⟩ 1 1 [.string (tb cur)] rfl rfl ?c1 ?c2 ?c3 ?c4 ?c5 ?_)
          case c1 => exact cell_one_new _ _ _
          case c2 => intro u hu; simp at hu; subst hu; rfl
          case c3 => unfold maxLen; omega
          case c4 => omega
          case c5 => simp; omega
          · intro v' w1 hown' hgrow _
            have hb1 : Below B w w1 := (hbel.alloc hbs _).grown hgrow (by simp; omega) (fun q hq => (World.ownsRow.lt hown q hq).1)
            have ho1 : OwnS w1 B 9 v' (ps ++ [cur]).length (ps ++ [cur]) := by
              unfold OwnS
              rw [List.map_append, List.length_append]
              simpa [encS] using hown'
            clear hown' hgrow hown hbel hc0
            go_wp2
            go_roundw
            case rel => exact ⟨k + 1, _, _, by omega, by go_num, HN.out, (by simp only [List.mem_append, List.mem_singleton, not_or]; exact ⟨HNE.out, fun h => HCN.out h.symm⟩), ho1, OwnI.nil _ _ _ _, hb1⟩
            case measure => simp [intOf]; omega
      · have HN := Lib.hid (hat.put hlt (fun h => he (by rw [h]; rfl)))
        clear hat
        go_wp2_with (at_builtin; refine wpList_append_own _ rfl _ _ 51 rfl B 5 j0 (.int .u8 0) 1 1 Tryd.underlying51 hj hy0 hy1 hy2 rfl (by decide) _ _ _ rfl (World.ownsRow.alloc hcur _) ⟨wr.heap.size, 0, none⟩ 1 1 [.int .u8 ((s[k]'hlt).toNat : Nat)] rfl rfl ?c1 ?c2 ?c3 ?c4 ?c5 ?_)
        case c1 => exact cell_one_new _ _ _
        case c2 => intro u hu; simp at hu; subst hu; rfl
        case c3 => unfold maxLen; omega
        case c4 => omega
        case c5 => simp; omega
        · intro v' w1 hown' hgrow _
          have hb1 : Below B w w1 := (hbel.alloc hbs _).grown hgrow (by simp; omega) (fun q hq => (World.ownsRow.lt hcur q hq).1)
          have ho1 : OwnI .u8 w1 B 5 v' (cur ++ [s[k]'hlt]).length (bz (cur ++ [s[k]'hlt])) := by
            unfold OwnI bz
            rw [List.map_append, List.map_append, List.length_append]
            simpa [bz] using hown'
          have ho2 : OwnS w1 B 9 _ ps.length ps := ownsRow_other (World.ownsRow.alloc hown _) hgrow (fun q cs e' f h1 h2 => by have := own_tag (World.ownsRow.alloc hcur _) q cs e' f h1 h2; rw [this]; decide)
          clear hown' hgrow hown hcur hbel
          go_wp2
          go_roundw
          case rel => exact ⟨k + 1, _, _, by omega, by go_num, HN.out, HNE.out, ho2, ho1, hb1⟩
          case measure => simp [intOf]; omega
    · have HD := Lib.hid (hat.done (by omega))
      have hcl : (cur = [] ↔ cur.length = 0) := List.length_eq_zero_iff.symm
      obtain ⟨a, cap, rfl, hcap, hcm, hrow⟩ := OwnI.row hcur
      have hcv := run_convert_row (P := Tryd.prog) (dst := 9) Tryd.underlying51 Tryd.underlying5 Tryd.underlying9 (cap := cap) hrow
      rw [str_bz] at hcv
      clear hrow hat
      by_cases h0 : cur.length = 0
      · have h00 := hcl.2 h0
        have e : wordsL s.data.toList = none := by unfold wordsL; rw [HD.out, h00]; simp
        have eo := HO.out.symm.trans e
        have e1 : ws = [] := by rw [← HW.out, eo]; rfl
        have e2 : b = false := by rw [← HB.out, eo]; rfl
        subst e1
        subst e2
        clear hcl h00 hcur eo e hcv
        go_wp2
        go_ret2
        exact ⟨_, rfl, OwnS.nil _ _ _, Nat.zero_le _, hbel⟩
      · have h00 : ¬ cur = [] := fun h => h0 (hcl.1 h)
        have e : wordsL s.data.toList = some (ps ++ [cur]) := by
          unfold wordsL; rw [HD.out, if_neg]
          simp only [List.mem_append, List.mem_singleton, not_or]; exact ⟨HNE.out, fun h => h00 h.symm⟩
        have eo := HO.out.symm.trans e
        have e1 : ws = ps ++ [cur] := by rw [← HW.out, eo]; rfl
        have e2 : b = true := by rw [← HB.out, eo]; rfl
        subst e2
        have HE := Lib.hid e1
        clear hcl h00 hcur eo e e1
        go_wp2_with (at_builtin; refine wpList_append_own _ rfl _ _ 23 rfl B 9 i0 (.string ⟨#[]⟩) 1 16 Tryd.underlying23 hi hz0 hz1 hz2 rfl (by decide) _ _ _ rfl (World.ownsRow.alloc hown _) ⟨wr.heap.size, 0, none⟩ 1 1 [.string (tb cur)] rfl rfl ?c1 ?c2 ?c3 ?c4 ?c5 ?_)
        case c1 => exact cell_one_new _ _ _
        case c2 => intro u hu; simp at hu; subst hu; rfl
        case c3 => unfold maxLen; omega
        case c4 => omega
        case c5 => simp; omega
        · intro v' w1 hown' hgrow _
          have hb1 : Below B w w1 := (hbel.alloc hbs _).grown hgrow (by simp; omega) (fun q hq => (World.ownsRow.lt hown q hq).1)
          have ho1 : OwnS w1 B 9 v' (ps ++ [cur]).length (ps ++ [cur]) := by
            unfold OwnS
            rw [List.map_append, List.length_append]
            simpa [encS] using hown'
          clear hown' hgrow hown hbel hcv
          go_wp2
          go_ret2
          rw [HE.out]
          exact ⟨_, rfl, ho1, by simp; omega, hb1⟩
end Go.Proofs.YtikkfapgmbamlaaDoor.Pl
end
section
/- plan: Number. -/
namespace Go.Proofs.YtikkfapgmbamlaaDoor.Pl
open Go.RowKit Ut
set_option linter.unusedVariables false

theorem valD_lt : ∀ (l : List UInt8), l.all isDig = true → valD l < 10 ^ l.length := by
  refine snoc_ind (fun _ => by simp [valD]) (fun l b ih hd => ?_)
  rw [valD_snoc, List.length_append]
  have hb : 48 ≤ b.toNat ∧ b.toNat ≤ 57 := by
    rw [← isDig_iff]; exact List.all_eq_true.1 hd b (by simp)
  have := ih (by rw [List.all_eq_true] at hd ⊢; exact fun x hx => hd x (by simp [hx]))
  simp only [List.length_cons, List.length_nil, Nat.zero_add, Nat.pow_succ]
  omega
theorem pow9 (k : Nat) (h : k ≤ 9) : 10 ^ k ≤ 1000000000 := by
  have : 10 ^ k ≤ 10 ^ 9 := Nat.pow_le_pow_right (by decide) h
  omega
theorem take_snoc (s : ByteArray) (k : Nat) (h : k < s.size) : s.data.toList.take (k + 1) = s.data.toList.take k ++ [s[k]'h] := by
  rw [List.take_add_one, List.getElem?_eq_getElem (by simpa using h)]
  rfl
theorem head_eq (s : ByteArray) (h : 0 < s.size) : s.data.toList.getD 0 0 = s[0]'h := by
  have h2 : 0 < s.data.toList.length := by simpa using h
  simp only [List.getD, List.getElem?_eq_getElem h2, Option.getD_some]
  rfl
theorem not_dig {s : ByteArray} {k : Nat} (hk : k < s.size) (h : isDig (s[k]'hk) = false) : s.data.toList.all isDig = false := by
  rw [List.all_eq_false]
  exact ⟨s[k]'hk, by show s[k]'hk ∈ s.data.toList; exact Array.mem_toList_iff.2 (Array.getElem_mem hk), by simp [h]⟩

/-- what Number answers -/
def numV (l : List UInt8) : Value := .tuple #[.int .i64 (((numL l).getD 0 : Nat) : Int), .bool (numL l).isSome]
theorem numV_none {l : List UInt8} (h : numL l = none) : numV l = .tuple #[.int .i64 0, .bool false] := by unfold numV; rw [h]; rfl
theorem numV_some {l : List UInt8} {n : Nat} (h : numL l = some n) : numV l = .tuple #[.int .i64 n, .bool true] := by unfold numV; rw [h]; rfl

theorem eq48 {b : UInt8} : ((b.toNat : Nat) : Int) = 48 ↔ b = 48 := by
  constructor
  · intro h
    exact UInt8.toNat_inj.1 (by simp; omega)
  · rintro rfl; rfl
set_option maxHeartbeats 1000000 in
set_option maxRecDepth 100000 in
theorem number_any (s : ByteArray) (B : Nat) (w : World) (hB : B ≤ w.heap.size) :
    Calls Tryd.prog 10 #[.string s] w fun e w' => e = .returned (numV s.data.toList) ∧ Below B w w' := by
  by_cases h0 : s.size = 0
  · have hl : s.data.toList = [] := List.length_eq_zero_iff.1 (by simpa using h0)
    have HV := Lib.hid (numV_none (l := s.data.toList) (by rw [hl]; rfl))
    have ht : (s.toList == []) = true := by rw [ByteArray.toList_eq, hl]; rfl
    clear hl
    go_enter Tryd.func10, Tryd.ntmps10
    go_wp2
    go_ret2
    exact ⟨HV.out.symm ▸ rfl, Below.refl _ _⟩
  · have ht : (s.toList == []) = false := by
      rw [ByteArray.toList_eq]
      cases h : s.data.toList with
      | nil => exact absurd (by have := congrArg List.length h; simpa using this) h0
      | cons b r => rfl
    have hpos : 0 < s.size := by omega
    have HL := Lib.hid (show s.data.toList ≠ [] from fun h => h0 (by have := congrArg List.length h; simpa using this))
    by_cases h9 : 9 < s.size
    · have HV := Lib.hid (numV_none (l := s.data.toList) (by unfold numL; rw [if_pos (.inr (.inl (by simpa using h9)))]))
      go_enter Tryd.func10, Tryd.ntmps10
      go_wp2
      go_ret2
      exact ⟨HV.out.symm ▸ rfl, Below.refl _ _⟩
    · have H0 := Lib.hid (head_eq s hpos)
      by_cases hz : (((s[0]'hpos).toNat : Nat) : Int) = 48
      · by_cases h1 : 1 < s.size
        · have HV := Lib.hid (numV_none (l := s.data.toList) (by
            unfold numL
            rw [if_pos (.inr (.inr (.inl ⟨H0.out.trans (eq48.1 hz), by simpa using h1⟩)))]))
          go_enter Tryd.func10, Tryd.ntmps10
          go_wp2
          go_ret2
          exact ⟨HV.out.symm ▸ rfl, Below.refl _ _⟩
        · have hguard : ¬ (s[0]'hpos = 48 ∧ 1 < s.size) := fun h => h1 h.2
          go_enter Tryd.func10, Tryd.ntmps10
          go_wp2
          go_loopw [4] (fun n wr => ∃ k : Nat, k ≤ s.size ∧ n = .int .i64 (valD (s.data.toList.take k)) ∧ (s.data.toList.take k).all isDig = true ∧ wr.heap[w.heap.size]? = some (.stringIter s k) ∧ Below B w wr) (fun _ wr => s.size - wr.iterPos w.heap.size)
          case atStart => exact ⟨0, Nat.zero_le _, rfl, rfl, World.iter_heap w s 0, (Below.refl _ w).alloc hB _⟩
          case round =>
            obtain ⟨k, hk, rfl, hall, hit, hbel⟩ := hrel
            have hsz : w.heap.size < wr.heap.size := (Array.getElem?_eq_some_iff.1 hit).1
            have HM : Hid (wr.iterPos w.heap.size = k) := Lib.hid (by simp [World.iterPos, hit])
            have HG := Lib.hid hguard
            clear hguard
            by_cases hp : k < s.size
            · have hnx : ∀ ty, (Instr.next (.pointer (some ⟨w.heap.size, 0, none⟩)) true ty).run Tryd.prog wr = _ := fun ty => Lib.run_next_any_at wr w.heap.size s k ty hit hp
              obtain ⟨hd1, hd2, hd3⟩ := dec_span s k hp
              have hd4 := decode_le s k
              have hit2 := Lib.iterAt_heap wr w.heap.size s k (k + (Utf8.decode s k).2) hit
              have hb2 := Lib.below_iterAt hbel (k := w.heap.size) hB s (k + (Utf8.decode s k).2)
              generalize hWW : wr.iterAt w.heap.size s (k + (Utf8.decode s k).2) = WW at hnx hit2 hb2
              have hvl := valD_lt _ hall
              have hvp := pow9 k (by omega)
              have hln : (s.data.toList.take k).length = k := by simp; omega
              rw [hln] at hvl
              have hvb : valD (s.data.toList.take k) < 1000000000 := Nat.lt_of_lt_of_le hvl hvp
              clear hvl hvp hln
              by_cases hlo : (Utf8.decode s k).1 < 48
              · have HN := Lib.hid (numV_none (l := s.data.toList) (by
                  have hdg : isDig (s[k]'hp) = false := by
                    rcases hd3 with ⟨_, e, _⟩ | ⟨h, _⟩
                    · simp [isDig]; omega
                    · omega
                  unfold numL; rw [if_pos (.inr (.inr (.inr (not_dig hp hdg))))]))
                clear hd3 hWW hall hit hbel
                go_wp2
                go_ret2
                exact ⟨HN.out.symm ▸ rfl, hb2⟩
              · by_cases hhi : 57 < (Utf8.decode s k).1
                · have HN := Lib.hid (numV_none (l := s.data.toList) (by
                    have hdg : isDig (s[k]'hp) = false := by
                      rcases hd3 with ⟨_, e, _⟩ | ⟨h, h2⟩
                      · simp [isDig]; omega
                      · have h3 := h2 k (Nat.le_refl _) (by omega)
                        have e := get_at s k hp
                        simp only [Nat.add_zero] at e
                        rw [e] at h3
                        simp [isDig]; omega
                    unfold numL; rw [if_pos (.inr (.inr (.inr (not_dig hp hdg))))]))
                  clear hd3 hWW hall hit hbel
                  go_wp2
                  go_ret2
                  exact ⟨HN.out.symm ▸ rfl, hb2⟩
                · have hone : (Utf8.decode s k).1 = (s[k]'hp).toNat ∧ (Utf8.decode s k).2 = 1 := by
                    rcases hd3 with ⟨_, e1, e2⟩ | ⟨h, _⟩
                    · exact ⟨e1, e2⟩
                    · omega
                  have H1 := Lib.hid hone
                  have HA := Lib.hid hall
                  clear hd3 hWW hall hit hbel hone
                  go_wp2
                  go_roundw
                  case rel =>
                    refine ⟨k + 1, by omega, ?_, ?_, ?_, hb2⟩
                    · rw [take_snoc s k hp, valD_snoc]
                      have := H1.out.1
                      go_num
                    · rw [take_snoc s k hp, List.all_append, HA.out]
                      have := H1.out.1
                      simp [isDig]; omega
                    · rw [hit2, H1.out.2]
                  case measure => rw [HM.out]; simp only [World.iterPos, hit2, H1.out.2]; omega
            · obtain rfl : k = s.size := by omega
              have hnx : ∀ ty, (Instr.next (.pointer (some ⟨w.heap.size, 0, none⟩)) true ty).run Tryd.prog wr = _ := fun ty => Lib.run_next_end_at wr w.heap.size s _ ty hit hp
              rw [List.take_of_length_le (by simp)] at hall ⊢
              have HN := Lib.hid (numV_some (l := s.data.toList) (n := valD s.data.toList) (by
                unfold numL
                rw [if_neg]
                rintro (h | h | h | h)
                · exact HL.out h
                · exact h9 (by simpa using h)
                · exact HG.out ⟨H0.out.symm.trans h.1, by simpa using h.2⟩
                · rw [hall] at h; cases h))
              clear hall hit
              go_wp2
              go_ret2
              exact ⟨HN.out.symm ▸ rfl, hbel⟩
      · have hguard : ¬ (s[0]'hpos = 48 ∧ 1 < s.size) := fun h => hz (eq48.2 h.1)
        go_enter Tryd.func10, Tryd.ntmps10
        go_wp2
        go_loopw [4] (fun n wr => ∃ k : Nat, k ≤ s.size ∧ n = .int .i64 (valD (s.data.toList.take k)) ∧ (s.data.toList.take k).all isDig = true ∧ wr.heap[w.heap.size]? = some (.stringIter s k) ∧ Below B w wr) (fun _ wr => s.size - wr.iterPos w.heap.size)
        case atStart => exact ⟨0, Nat.zero_le _, rfl, rfl, World.iter_heap w s 0, (Below.refl _ w).alloc hB _⟩
        case round =>
          obtain ⟨k, hk, rfl, hall, hit, hbel⟩ := hrel
          have hsz : w.heap.size < wr.heap.size := (Array.getElem?_eq_some_iff.1 hit).1
          have HM : Hid (wr.iterPos w.heap.size = k) := Lib.hid (by simp [World.iterPos, hit])
          have HG := Lib.hid hguard
          clear hguard
          by_cases hp : k < s.size
          · have hnx : ∀ ty, (Instr.next (.pointer (some ⟨w.heap.size, 0, none⟩)) true ty).run Tryd.prog wr = _ := fun ty => Lib.run_next_any_at wr w.heap.size s k ty hit hp
            obtain ⟨hd1, hd2, hd3⟩ := dec_span s k hp
            have hd4 := decode_le s k
            have hit2 := Lib.iterAt_heap wr w.heap.size s k (k + (Utf8.decode s k).2) hit
            have hb2 := Lib.below_iterAt hbel (k := w.heap.size) hB s (k + (Utf8.decode s k).2)
            generalize hWW : wr.iterAt w.heap.size s (k + (Utf8.decode s k).2) = WW at hnx hit2 hb2
            have hvl := valD_lt _ hall
            have hvp := pow9 k (by omega)
            have hln : (s.data.toList.take k).length = k := by simp; omega
            rw [hln] at hvl
            have hvb : valD (s.data.toList.take k) < 1000000000 := Nat.lt_of_lt_of_le hvl hvp
            clear hvl hvp hln
            by_cases hlo : (Utf8.decode s k).1 < 48
            · have HN := Lib.hid (numV_none (l := s.data.toList) (by
                have hdg : isDig (s[k]'hp) = false := by
                  rcases hd3 with ⟨_, e, _⟩ | ⟨h, _⟩
                  · simp [isDig]; omega
                  · omega
                unfold numL; rw [if_pos (.inr (.inr (.inr (not_dig hp hdg))))]))
              clear hd3 hWW hall hit hbel
              go_wp2
              go_ret2
              exact ⟨HN.out.symm ▸ rfl, hb2⟩
            · by_cases hhi : 57 < (Utf8.decode s k).1
              · have HN := Lib.hid (numV_none (l := s.data.toList) (by
                  have hdg : isDig (s[k]'hp) = false := by
                    rcases hd3 with ⟨_, e, _⟩ | ⟨h, h2⟩
                    · simp [isDig]; omega
                    · have h3 := h2 k (Nat.le_refl _) (by omega)
                      have e := get_at s k hp
                      simp only [Nat.add_zero] at e
                      rw [e] at h3
                      simp [isDig]; omega
                  unfold numL; rw [if_pos (.inr (.inr (.inr (not_dig hp hdg))))]))
                clear hd3 hWW hall hit hbel
                go_wp2
                go_ret2
                exact ⟨HN.out.symm ▸ rfl, hb2⟩
              · have hone : (Utf8.decode s k).1 = (s[k]'hp).toNat ∧ (Utf8.decode s k).2 = 1 := by
                  rcases hd3 with ⟨_, e1, e2⟩ | ⟨h, _⟩
                  · exact ⟨e1, e2⟩
                  · omega
                have H1 := Lib.hid hone
                have HA := Lib.hid hall
                clear hd3 hWW hall hit hbel hone
                go_wp2
                go_roundw
                case rel =>
                  refine ⟨k + 1, by omega, ?_, ?_, ?_, hb2⟩
                  · rw [take_snoc s k hp, valD_snoc]
                    have := H1.out.1
                    go_num
                  · rw [take_snoc s k hp, List.all_append, HA.out]
                    have := H1.out.1
                    simp [isDig]; omega
                  · rw [hit2, H1.out.2]
                case measure => rw [HM.out]; simp only [World.iterPos, hit2, H1.out.2]; omega
          · obtain rfl : k = s.size := by omega
            have hnx : ∀ ty, (Instr.next (.pointer (some ⟨w.heap.size, 0, none⟩)) true ty).run Tryd.prog wr = _ := fun ty => Lib.run_next_end_at wr w.heap.size s _ ty hit hp
            rw [List.take_of_length_le (by simp)] at hall ⊢
            have HN := Lib.hid (numV_some (l := s.data.toList) (n := valD s.data.toList) (by
              unfold numL
              rw [if_neg]
              rintro (h | h | h | h)
              · exact HL.out h
              · exact h9 (by simpa using h)
              · exact HG.out ⟨H0.out.symm.trans h.1, by simpa using h.2⟩
              · rw [hall] at h; cases h))
            clear hall hit
            go_wp2
            go_ret2
            exact ⟨HN.out.symm ▸ rfl, hbel⟩
end Go.Proofs.YtikkfapgmbamlaaDoor.Pl
end
