/- plan: Number. -/
import Derived.Test.YtfdekfobcohcjaaDoorEb
namespace Go.Proofs.YtfdekfobcohcjaaDoor.Pl
open Go.RowKit Ut
set_option linter.unusedVariables false

theorem valD_lt : ∀ (l : List UInt8), l.all isDig = true → valD l < 10 ^ l.length := by
  refine snoc_ind (fun _ => by simp [valD]) (fun l b ih hd => ?_)
  rw [valD_snoc, List.length_append]
  have hb : 48 ≤ b.toNat ∧ b.toNat ≤ 57 := by
    rw [← isDig_iff]; exact List.all_eq_true.1 hd b (by simp)
  have := ih (by rw [List.all_eq_true] at hd ⊢; exact fun x hx => hd x (by simp [hx]))
  simp only [List.length_cons, List.length_nil, Nat.zero_add, Nat.pow_succ]
  omega
theorem pow9 (k : Nat) (h : k ≤ 9) : 10 ^ k ≤ 1000000000 := by
  have : 10 ^ k ≤ 10 ^ 9 := Nat.pow_le_pow_right (by decide) h
  omega
theorem take_snoc (s : ByteArray) (k : Nat) (h : k < s.size) : s.data.toList.take (k + 1) = s.data.toList.take k ++ [s[k]'h] := by
  rw [List.take_add_one, List.getElem?_eq_getElem (by simpa using h)]
  rfl
theorem head_eq (s : ByteArray) (h : 0 < s.size) : s.data.toList.getD 0 0 = s[0]'h := by
  have h2 : 0 < s.data.toList.length := by simpa using h
  simp only [List.getD, List.getElem?_eq_getElem h2, Option.getD_some]
  rfl
theorem not_dig {s : ByteArray} {k : Nat} (hk : k < s.size) (h : isDig (s[k]'hk) = false) : s.data.toList.all isDig = false := by
  rw [List.all_eq_false]
  exact ⟨s[k]'hk, by show s[k]'hk ∈ s.data.toList; exact Array.mem_toList_iff.2 (Array.getElem_mem hk), by simp [h]⟩

/-- what Number answers -/
def numV (l : List UInt8) : Value := .tuple #[.int .i64 (((numL l).getD 0 : Nat) : Int), .bool (numL l).isSome]
theorem numV_none {l : List UInt8} (h : numL l = none) : numV l = .tuple #[.int .i64 0, .bool false] := by unfold numV; rw [h]; rfl
theorem numV_some {l : List UInt8} {n : Nat} (h : numL l = some n) : numV l = .tuple #[.int .i64 n, .bool true] := by unfold numV; rw [h]; rfl

theorem eq48 {b : UInt8} : ((b.toNat : Nat) : Int) = 48 ↔ b = 48 := by
  constructor
  · intro h
    exact UInt8.toNat_inj.1 (by simp; omega)
  · rintro rfl; rfl
set_option maxHeartbeats 1000000 in
set_option maxRecDepth 100000 in
theorem number_any (s : ByteArray) (B : Nat) (w : World) (hB : B ≤ w.heap.size) :
    Calls Tryd.prog 73 #[.string s] w fun e w' => e = .returned (numV s.data.toList) ∧ Below B w w' := by
  by_cases h0 : s.size = 0
  · have hl : s.data.toList = [] := List.length_eq_zero_iff.1 (by simpa using h0)
    have HV := Lib.hid (numV_none (l := s.data.toList) (by rw [hl]; rfl))
    have ht : (s.toList == []) = true := by rw [ByteArray.toList_eq, hl]; rfl
    clear hl
    go_enter Tryd.func73, Tryd.ntmps73
    go_wp2
    go_ret2
    exact ⟨HV.out.symm ▸ rfl, Below.refl _ _⟩
  · have ht : (s.toList == []) = false := by
      rw [ByteArray.toList_eq]
      cases h : s.data.toList with
      | nil => exact absurd (by have := congrArg List.length h; simpa using this) h0
      | cons b r => rfl
    have hpos : 0 < s.size := by omega
    have HL := Lib.hid (show s.data.toList ≠ [] from fun h => h0 (by have := congrArg List.length h; simpa using this))
    by_cases h9 : 9 < s.size
    · have HV := Lib.hid (numV_none (l := s.data.toList) (by unfold numL; rw [if_pos (.inr (.inl (by simpa using h9)))]))
      go_enter Tryd.func73, Tryd.ntmps73
      go_wp2
      go_ret2
      exact ⟨HV.out.symm ▸ rfl, Below.refl _ _⟩
    · have H0 := Lib.hid (head_eq s hpos)
      by_cases hz : (((s[0]'hpos).toNat : Nat) : Int) = 48
      · by_cases h1 : 1 < s.size
        · have HV := Lib.hid (numV_none (l := s.data.toList) (by
            unfold numL
            rw [if_pos (.inr (.inr (.inl ⟨H0.out.trans (eq48.1 hz), by simpa using h1⟩)))]))
          go_enter Tryd.func73, Tryd.ntmps73
          go_wp2
          go_ret2
          exact ⟨HV.out.symm ▸ rfl, Below.refl _ _⟩
        · have hguard : ¬ (s[0]'hpos = 48 ∧ 1 < s.size) := fun h => h1 h.2
          go_enter Tryd.func73, Tryd.ntmps73
          go_wp2
          go_loopw [4] (fun n wr => ∃ k : Nat, k ≤ s.size ∧ n = .int .i64 (valD (s.data.toList.take k)) ∧ (s.data.toList.take k).all isDig = true ∧ wr.heap[w.heap.size]? = some (.stringIter s k) ∧ Below B w wr) (fun _ wr => s.size - wr.iterPos w.heap.size)
          case atStart => exact ⟨0, Nat.zero_le _, rfl, rfl, World.iter_heap w s 0, (Below.refl _ w).alloc hB _⟩
          case round =>
            obtain ⟨k, hk, rfl, hall, hit, hbel⟩ := hrel
            have hsz : w.heap.size < wr.heap.size := (Array.getElem?_eq_some_iff.1 hit).1
            have HM : Hid (wr.iterPos w.heap.size = k) := Lib.hid (by simp [World.iterPos, hit])
            have HG := Lib.hid hguard
            clear hguard
            by_cases hp : k < s.size
            · have hnx : ∀ ty, (Instr.next (.pointer (some ⟨w.heap.size, 0, none⟩)) true ty).run Tryd.prog wr = _ := fun ty => Lib.run_next_any_at wr w.heap.size s k ty hit hp
              obtain ⟨hd1, hd2, hd3⟩ := dec_span s k hp
              have hd4 := decode_le s k
              have hit2 := Lib.iterAt_heap wr w.heap.size s k (k + (Utf8.decode s k).2) hit
              have hb2 := Lib.below_iterAt hbel (k := w.heap.size) hB s (k + (Utf8.decode s k).2)
              generalize hWW : wr.iterAt w.heap.size s (k + (Utf8.decode s k).2) = WW at hnx hit2 hb2
              have hvl := valD_lt _ hall
              have hvp := pow9 k (by omega)
              have hln : (s.data.toList.take k).length = k := by simp; omega
              rw [hln] at hvl
              have hvb : valD (s.data.toList.take k) < 1000000000 := Nat.lt_of_lt_of_le hvl hvp
              clear hvl hvp hln
              by_cases hlo : (Utf8.decode s k).1 < 48
              · have HN := Lib.hid (numV_none (l := s.data.toList) (by
                  have hdg : isDig (s[k]'hp) = false := by
                    rcases hd3 with ⟨_, e, _⟩ | ⟨h, _⟩
                    · simp [isDig]; omega
                    · omega
                  unfold numL; rw [if_pos (.inr (.inr (.inr (not_dig hp hdg))))]))
                clear hd3 hWW hall hit hbel
                go_wp2
                go_ret2
                exact ⟨HN.out.symm ▸ rfl, hb2⟩
              · by_cases hhi : 57 < (Utf8.decode s k).1
                · have HN := Lib.hid (numV_none (l := s.data.toList) (by
                    have hdg : isDig (s[k]'hp) = false := by
                      rcases hd3 with ⟨_, e, _⟩ | ⟨h, h2⟩
                      · simp [isDig]; omega
                      · have h3 := h2 k (Nat.le_refl _) (by omega)
                        have e := get_at s k hp
                        simp only [Nat.add_zero] at e
                        rw [e] at h3
                        simp [isDig]; omega
                    unfold numL; rw [if_pos (.inr (.inr (.inr (not_dig hp hdg))))]))
                  clear hd3 hWW hall hit hbel
                  go_wp2
                  go_ret2
                  exact ⟨HN.out.symm ▸ rfl, hb2⟩
                · have hone : (Utf8.decode s k).1 = (s[k]'hp).toNat ∧ (Utf8.decode s k).2 = 1 := by
                    rcases hd3 with ⟨_, e1, e2⟩ | ⟨h, _⟩
                    · exact ⟨e1, e2⟩
                    · omega
                  have H1 := Lib.hid hone
                  have HA := Lib.hid hall
                  clear hd3 hWW hall hit hbel hone
                  go_wp2
                  go_roundw
                  case rel =>
                    refine ⟨k + 1, by omega, ?_, ?_, ?_, hb2⟩
                    · rw [take_snoc s k hp, valD_snoc]
                      have := H1.out.1
                      go_num
                    · rw [take_snoc s k hp, List.all_append, HA.out]
                      have := H1.out.1
                      simp [isDig]; omega
                    · rw [hit2, H1.out.2]
                  case measure => rw [HM.out]; simp only [World.iterPos, hit2, H1.out.2]; omega
            · obtain rfl : k = s.size := by omega
              have hnx : ∀ ty, (Instr.next (.pointer (some ⟨w.heap.size, 0, none⟩)) true ty).run Tryd.prog wr = _ := fun ty => Lib.run_next_end_at wr w.heap.size s _ ty hit hp
              rw [List.take_of_length_le (by simp)] at hall ⊢
              have HN := Lib.hid (numV_some (l := s.data.toList) (n := valD s.data.toList) (by
                unfold numL
                rw [if_neg]
                rintro (h | h | h | h)
                · exact HL.out h
                · exact h9 (by simpa using h)
                · exact HG.out ⟨H0.out.symm.trans h.1, by simpa using h.2⟩
                · rw [hall] at h; cases h))
              clear hall hit
              go_wp2
              go_ret2
              exact ⟨HN.out.symm ▸ rfl, hbel⟩
      · have hguard : ¬ (s[0]'hpos = 48 ∧ 1 < s.size) := fun h => hz (eq48.2 h.1)
        go_enter Tryd.func73, Tryd.ntmps73
        go_wp2
        go_loopw [4] (fun n wr => ∃ k : Nat, k ≤ s.size ∧ n = .int .i64 (valD (s.data.toList.take k)) ∧ (s.data.toList.take k).all isDig = true ∧ wr.heap[w.heap.size]? = some (.stringIter s k) ∧ Below B w wr) (fun _ wr => s.size - wr.iterPos w.heap.size)
        case atStart => exact ⟨0, Nat.zero_le _, rfl, rfl, World.iter_heap w s 0, (Below.refl _ w).alloc hB _⟩
        case round =>
          obtain ⟨k, hk, rfl, hall, hit, hbel⟩ := hrel
          have hsz : w.heap.size < wr.heap.size := (Array.getElem?_eq_some_iff.1 hit).1
          have HM : Hid (wr.iterPos w.heap.size = k) := Lib.hid (by simp [World.iterPos, hit])
          have HG := Lib.hid hguard
          clear hguard
          by_cases hp : k < s.size
          · have hnx : ∀ ty, (Instr.next (.pointer (some ⟨w.heap.size, 0, none⟩)) true ty).run Tryd.prog wr = _ := fun ty => Lib.run_next_any_at wr w.heap.size s k ty hit hp
            obtain ⟨hd1, hd2, hd3⟩ := dec_span s k hp
            have hd4 := decode_le s k
            have hit2 := Lib.iterAt_heap wr w.heap.size s k (k + (Utf8.decode s k).2) hit
            have hb2 := Lib.below_iterAt hbel (k := w.heap.size) hB s (k + (Utf8.decode s k).2)
            generalize hWW : wr.iterAt w.heap.size s (k + (Utf8.decode s k).2) = WW at hnx hit2 hb2
            have hvl := valD_lt _ hall
            have hvp := pow9 k (by omega)
            have hln : (s.data.toList.take k).length = k := by simp; omega
            rw [hln] at hvl
            have hvb : valD (s.data.toList.take k) < 1000000000 := Nat.lt_of_lt_of_le hvl hvp
            clear hvl hvp hln
            by_cases hlo : (Utf8.decode s k).1 < 48
            · have HN := Lib.hid (numV_none (l := s.data.toList) (by
                have hdg : isDig (s[k]'hp) = false := by
                  rcases hd3 with ⟨_, e, _⟩ | ⟨h, _⟩
                  · simp [isDig]; omega
                  · omega
                unfold numL; rw [if_pos (.inr (.inr (.inr (not_dig hp hdg))))]))
              clear hd3 hWW hall hit hbel
              go_wp2
              go_ret2
              exact ⟨HN.out.symm ▸ rfl, hb2⟩
            · by_cases hhi : 57 < (Utf8.decode s k).1
              · have HN := Lib.hid (numV_none (l := s.data.toList) (by
                  have hdg : isDig (s[k]'hp) = false := by
                    rcases hd3 with ⟨_, e, _⟩ | ⟨h, h2⟩
                    · simp [isDig]; omega
                    · have h3 := h2 k (Nat.le_refl _) (by omega)
                      have e := get_at s k hp
                      simp only [Nat.add_zero] at e
                      rw [e] at h3
                      simp [isDig]; omega
                  unfold numL; rw [if_pos (.inr (.inr (.inr (not_dig hp hdg))))]))
                clear hd3 hWW hall hit hbel
                go_wp2
                go_ret2
                exact ⟨HN.out.symm ▸ rfl, hb2⟩
              · have hone : (Utf8.decode s k).1 = (s[k]'hp).toNat ∧ (Utf8.decode s k).2 = 1 := by
                  rcases hd3 with ⟨_, e1, e2⟩ | ⟨h, _⟩
                  · exact ⟨e1, e2⟩
                  · omega
                have H1 := Lib.hid hone
                have HA := Lib.hid hall
                clear hd3 hWW hall hit hbel hone
                go_wp2
                go_roundw
                case rel =>
                  refine ⟨k + 1, by omega, ?_, ?_, ?_, hb2⟩
                  · rw [take_snoc s k hp, valD_snoc]
                    have := H1.out.1
                    go_num
                  · rw [take_snoc s k hp, List.all_append, HA.out]
                    have := H1.out.1
                    simp [isDig]; omega
                  · rw [hit2, H1.out.2]
                case measure => rw [HM.out]; simp only [World.iterPos, hit2, H1.out.2]; omega
          · obtain rfl : k = s.size := by omega
            have hnx : ∀ ty, (Instr.next (.pointer (some ⟨w.heap.size, 0, none⟩)) true ty).run Tryd.prog wr = _ := fun ty => Lib.run_next_end_at wr w.heap.size s _ ty hit hp
            rw [List.take_of_length_le (by simp)] at hall ⊢
            have HN := Lib.hid (numV_some (l := s.data.toList) (n := valD s.data.toList) (by
              unfold numL
              rw [if_neg]
              rintro (h | h | h | h)
              · exact HL.out h
              · exact h9 (by simpa using h)
              · exact HG.out ⟨H0.out.symm.trans h.1, by simpa using h.2⟩
              · rw [hall] at h; cases h))
            clear hall hit
            go_wp2
            go_ret2
            exact ⟨HN.out.symm ▸ rfl, hbel⟩
end Go.Proofs.YtfdekfobcohcjaaDoor.Pl
