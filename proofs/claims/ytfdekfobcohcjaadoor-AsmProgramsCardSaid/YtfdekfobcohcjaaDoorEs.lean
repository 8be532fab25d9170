/- The document's Number of layer 5. -/
import Derived.Test.YtfdekfobcohcjaaDoorEf
namespace Go.Proofs.YtfdekfobcohcjaaDoor.Pl
open Go.RowKit Ut
set_option linter.unusedVariables false

set_option maxHeartbeats 1000000 in
set_option maxRecDepth 100000 in
theorem refNumber_any (s : ByteArray) (hs : s.size ≤ 1099511627776) (w : World) :
    Calls Tryd.prog 60 #[.string s] w fun e w' => e = .returned (numV s.data.toList) ∧ w = w' := by
  by_cases h0 : s.size = 0
  · have hl : s.data.toList = [] := List.length_eq_zero_iff.1 (by simpa using h0)
    have HV := Lib.hid (numV_none (l := s.data.toList) (by rw [hl]; rfl))
    clear hl
    go_enter Tryd.func60, Tryd.ntmps60
    go_wp2
    go_ret2
    exact ⟨HV.out.symm ▸ rfl, rfl⟩
  · have hpos : 0 < s.size := by omega
    have hne : ((s.size : Int) == 0) = false := by rw [beq_eq_false_iff_ne]; omega
    have HL := Lib.hid (show s.data.toList ≠ [] from fun h => h0 (by have := congrArg List.length h; simpa using this))
    by_cases h9 : 9 < s.size
    · have HV := Lib.hid (numV_none (l := s.data.toList) (by unfold numL; rw [if_pos (.inr (.inl (by simpa using h9)))]))
      go_enter Tryd.func60, Tryd.ntmps60
      go_wp2
      go_ret2
      exact ⟨HV.out.symm ▸ rfl, rfl⟩
    · have H0 := Lib.hid (head_eq s hpos)
      have h9b : decide (9 < (s.size : Int)) = false := by simp <;> omega
      by_cases hz : (((s[0]'hpos).toNat : Nat) : Int) = 48
      · by_cases h1 : 1 < s.size
        · have h1b : decide (1 < (s.size : Int)) = true := by simp <;> omega
          have HV := Lib.hid (numV_none (l := s.data.toList) (by
            unfold numL
            rw [if_pos (.inr (.inr (.inl ⟨H0.out.trans (eq48.1 hz), by simpa using h1⟩)))]))
          go_enter Tryd.func60, Tryd.ntmps60
          go_wp2
          go_ret2
          exact ⟨HV.out.symm ▸ rfl, rfl⟩
        · have hguard : ¬ (s[0]'hpos = 48 ∧ 1 < s.size) := fun h => h1 h.2
          have h1b : decide (1 < (s.size : Int)) = false := by simp <;> omega
          go_enter Tryd.func60, Tryd.ntmps60
          go_wp2
          go_loop [4, 5] (fun n i => ∃ k : Nat, k ≤ s.size ∧ i = .int .i64 k ∧ n = .int .i64 (valD (s.data.toList.take k)) ∧ (s.data.toList.take k).all isDig = true) (fun _ i => s.size - (intOf i).toNat)
          case atStart => exact ⟨0, Nat.zero_le _, rfl, rfl, rfl⟩
          case round =>
            obtain ⟨k, hk, rfl, rfl, hall⟩ := hrel
            have HG := Lib.hid hguard
            clear hguard
            by_cases hp : k < s.size
            · have hvl := valD_lt _ hall
              have hvp := pow9 k (by omega)
              have hln : (s.data.toList.take k).length = k := by simp; omega
              rw [hln] at hvl
              have hvb : valD (s.data.toList.take k) < 1000000000 := Nat.lt_of_lt_of_le hvl hvp
              clear hvl hvp hln
              have HA := Lib.hid hall
              by_cases hlo : (s[k]'hp).toNat < 48
              · have HN := Lib.hid (numV_none (l := s.data.toList) (by
                  have hdg : isDig (s[k]'hp) = false := by simp [isDig]; omega
                  unfold numL; rw [if_pos (.inr (.inr (.inr (not_dig hp hdg))))]))
                clear hall
                go_wp2
                go_ret2
                exact ⟨HN.out.symm ▸ rfl, rfl⟩
              · by_cases hhi : 57 < (s[k]'hp).toNat
                · have HN := Lib.hid (numV_none (l := s.data.toList) (by
                    have hdg : isDig (s[k]'hp) = false := by simp [isDig]; omega
                    unfold numL; rw [if_pos (.inr (.inr (.inr (not_dig hp hdg))))]))
                  clear hall
                  go_wp2
                  go_ret2
                  exact ⟨HN.out.symm ▸ rfl, rfl⟩
                · have hlo2 : 48 ≤ (s[k]'hp).toNat := by omega
                  have hhi2 : (s[k]'hp).toNat ≤ 57 := by omega
                  clear hall
                  go_wp2
                  go_round
                  case rel =>
                    refine ⟨k + 1, by omega, by go_num, ?_, ?_⟩
                    · rw [take_snoc s k hp, valD_snoc]
                      go_num
                    · rw [take_snoc s k hp, List.all_append, HA.out]
                      simp [isDig]; omega
                  case measure => simp [intOf]; omega
            · obtain rfl : k = s.size := by omega
              rw [List.take_of_length_le (by simp)] at hall ⊢
              have HN := Lib.hid (numV_some (l := s.data.toList) (n := valD s.data.toList) (by
                unfold numL
                rw [if_neg]
                rintro (h | h | h | h)
                · exact HL.out h
                · exact h9 (by simpa using h)
                · exact HG.out ⟨H0.out.symm.trans h.1, by simpa using h.2⟩
                · rw [hall] at h; cases h))
              clear hall
              go_wp2
              go_ret2
              exact ⟨HN.out.symm ▸ rfl, rfl⟩
      · have hguard : ¬ (s[0]'hpos = 48 ∧ 1 < s.size) := fun h => hz (eq48.2 h.1)
        go_enter Tryd.func60, Tryd.ntmps60
        go_wp2
        go_loop [4, 5] (fun n i => ∃ k : Nat, k ≤ s.size ∧ i = .int .i64 k ∧ n = .int .i64 (valD (s.data.toList.take k)) ∧ (s.data.toList.take k).all isDig = true) (fun _ i => s.size - (intOf i).toNat)
        case atStart => exact ⟨0, Nat.zero_le _, rfl, rfl, rfl⟩
        case round =>
          obtain ⟨k, hk, rfl, rfl, hall⟩ := hrel
          have HG := Lib.hid hguard
          clear hguard
          by_cases hp : k < s.size
          · have hvl := valD_lt _ hall
            have hvp := pow9 k (by omega)
            have hln : (s.data.toList.take k).length = k := by simp; omega
            rw [hln] at hvl
            have hvb : valD (s.data.toList.take k) < 1000000000 := Nat.lt_of_lt_of_le hvl hvp
            clear hvl hvp hln
            have HA := Lib.hid hall
            by_cases hlo : (s[k]'hp).toNat < 48
            · have HN := Lib.hid (numV_none (l := s.data.toList) (by
                have hdg : isDig (s[k]'hp) = false := by simp [isDig]; omega
                unfold numL; rw [if_pos (.inr (.inr (.inr (not_dig hp hdg))))]))
              clear hall
              go_wp2
              go_ret2
              exact ⟨HN.out.symm ▸ rfl, rfl⟩
            · by_cases hhi : 57 < (s[k]'hp).toNat
              · have HN := Lib.hid (numV_none (l := s.data.toList) (by
                  have hdg : isDig (s[k]'hp) = false := by simp [isDig]; omega
                  unfold numL; rw [if_pos (.inr (.inr (.inr (not_dig hp hdg))))]))
                clear hall
                go_wp2
                go_ret2
                exact ⟨HN.out.symm ▸ rfl, rfl⟩
              · have hlo2 : 48 ≤ (s[k]'hp).toNat := by omega
                have hhi2 : (s[k]'hp).toNat ≤ 57 := by omega
                clear hall
                go_wp2
                go_round
                case rel =>
                  refine ⟨k + 1, by omega, by go_num, ?_, ?_⟩
                  · rw [take_snoc s k hp, valD_snoc]
                    go_num
                  · rw [take_snoc s k hp, List.all_append, HA.out]
                    simp [isDig]; omega
                case measure => simp [intOf]; omega
          · obtain rfl : k = s.size := by omega
            rw [List.take_of_length_le (by simp)] at hall ⊢
            have HN := Lib.hid (numV_some (l := s.data.toList) (n := valD s.data.toList) (by
              unfold numL
              rw [if_neg]
              rintro (h | h | h | h)
              · exact HL.out h
              · exact h9 (by simpa using h)
              · exact HG.out ⟨H0.out.symm.trans h.1, by simpa using h.2⟩
              · rw [hall] at h; cases h))
            clear hall
            go_wp2
            go_ret2
            exact ⟨HN.out.symm ▸ rfl, rfl⟩
end Go.Proofs.YtfdekfobcohcjaaDoor.Pl
