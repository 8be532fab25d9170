/- The document's List, big, word. -/
import Derived.Test.YtfdekfobcohcjaaDoorQo

import Derived.Test.YtfdekfobcohcjaaDoorQk
namespace Go.Proofs.YtfdekfobcohcjaaDoor.As
open Go.RowKit Ut Is Pl
set_option linter.unusedVariables false
set_option maxRecDepth 100000
set_option maxHeartbeats 8000000

theorem refList_long (a : Option Addr) (n cap : Nat) (h : 512 < n) (hn : n ≤ 9223372036854775807) (w : World) :
    Calls Tryd.prog 15 #[.slice a n cap] w fun e w' => e = .returned (.tuple #[.string ⟨#[]⟩, .int .i64 10]) ∧ Below w.heap.size w w' := by
  have hi : (512 : Int) < (n : Int) := by omega
  go_enter Tryd.func15, Tryd.ntmps15
  go_wp2
  go_ret2
  exact ⟨rfl, Below.refl _ _⟩
theorem refList_short (a : Option Addr) (n cap : Nat) (xs : List Nat) (h : n ≤ 512) (hx : ∀ x ∈ xs, x < 4294967296) (w : World) (hrow : RowK .u32 w w.heap.size a n (xs.map Int.ofNat)) :
    Calls Tryd.prog 15 #[.slice a n cap] w fun e w' => e = .returned (.tuple #[.string (tb (listL xs)), .int .i64 0]) ∧ Below w.heap.size w w' := by
  have hlen : xs.length = n := by have := hrow.1; simpa using this
  have HX := Lib.hid hx
  have HL := Lib.hid hlen
  have HR := Lib.hid hrow
  have hi : (n : Int) ≤ 512 := by omega
  have HLN : Hid (∀ k, (listL (xs.take k)).length ≤ 27 * n) := Lib.hid fun k => by
    have := list_len (xs.take k) fun x hm => hx x (List.mem_of_mem_take hm)
    simp only [List.length_take] at this
    omega
  clear hx hlen hrow
  go_enter Tryd.func15, Tryd.ntmps15
  go_wp2
  go_loopw [4, 5] (fun t i wr => ∃ k : Nat, k ≤ n ∧ i = .int .i64 k ∧ t = .string (tb (listL (xs.take k))) ∧ Below w.heap.size w wr) (fun _ i _ => n - (intOf i).toNat)
  case atStart => exact ⟨0, Nat.zero_le _, rfl, rfl, Below.refl _ _⟩
  case round =>
    obtain ⟨k, hk, rfl, rfl, hb⟩ := hrel
    have HB := Lib.hid hb
    by_cases hlt : k < n
    · obtain ⟨ad, rfl, had, hc⟩ := (HR.out.below hb).2 k hlt
      have hlk : k < xs.length := by have := HL.out; omega
      have hst := listL_succ hlk
      have hxk : xs.getD k 0 < 4294967296 := HX.out _ (by rw [List.getD_eq_getElem?_getD, List.getElem?_eq_getElem hlk]; exact List.getElem_mem hlk)
      have hcx : (xs.map Int.ofNat).getD k 0 = ((xs.getD k 0 : Nat) : Int) := by simp [List.getD, hlk]
      rw [hcx] at hc
      generalize xs.getD k 0 = x at hc hxk hst
      have hls : (tb (listL (xs.take k))).size ≤ 13824 := by rw [tb_size]; have := HLN.out k; omega
      have hwl := (line_word x hxk).2.1
      have hadl : ad.block < wr.heap.size := by have := hb.size; omega
      have hrt : tb (listL (xs.take (k + 1))) = (tb (listL (xs.take k)) ++ tb (wText x)) ++ ⟨#[10]⟩ := by
        rw [hst, ← tb_app2, ← tb_app2]; rfl
      have hd := fun W => refDec_any x hxk W
      generalize tb (listL (xs.take k)) = T0 at hls hrt ⊢
      clear hb hst hcx
      cases hdt : decT x
      · have hw : wText x = wordM ++ Lib.decDigits x := by unfold wText; rw [hdt]; rfl
        have hdv : decV x = insV 0 0 0 0 0 := by unfold decV; rw [hdt]; rfl
        rw [hdv, hdt] at hd
        have hfu := fun W => digits2_any x (by omega) W
        have hts : (tb (Lib.decDigits x)).size ≤ 10 := by rw [tb_size]; exact dec_len 9 x (by omega)
        have hrt2 : tb (listL (xs.take (k + 1))) = ((T0 ++ ⟨#[46, 119, 111, 114, 100, 32]⟩) ++ tb (Lib.decDigits x)) ++ ⟨#[10]⟩ := by
          rw [hrt, hw, ← tb_app2, ← ByteArray.append_assoc]; rfl
        generalize tb (Lib.decDigits x) = td at hfu hts hrt2
        have HD := Lib.hid hd
        have HF := Lib.hid hfu
        have HT := Lib.hid hrt2
        have c1 : ¬ 9223372036854775807 < T0.size + 6 := by omega
        have c2 : ¬ 9223372036854775807 < T0.size + 6 + td.size := by omega
        have c3 : ¬ 9223372036854775807 < T0.size + 6 + td.size + 1 := by omega
        have hwr : IntKind.i64.wrap (x : Int) = (x : Int) := IntWalk.i64_in _ (by omega)
        have hxi : (x : Int) < 4294967296 := by omega
        clear hd hfu hrt hrt2 hw hdv hdt hwl hts hls
        go_wp2_with fail
        refine (HD.out _).mono ?_
        rintro e w1 ⟨rfl, hb1⟩
        have hc1 := (hb1.cell (p := ad.add k) (by rw [block_of_add]; omega)).trans hc
        have hadl1 : ad.block < w1.heap.size := Nat.lt_of_lt_of_le hadl hb1.size
        have hbU : Below w1.heap.size w1 (insW 0 0 0 0 0 w1) := ins_below 0 0 0 0 0 w1
        have hc2 := (hbU.cell (p := ad.add k) (by rw [block_of_add]; omega)).trans hc1
        have HB1 := Lib.hid ((HB.out.trans (hb1.mono HB.out.size)).trans (hbU.mono (HB.out.trans (hb1.mono HB.out.size)).size))
        clear hb1 hbU hc hadl
        go_wp2_with fail
        refine (HF.out _).mono ?_
        rintro e w2 ⟨rfl, hb2⟩
        have HB2 := Lib.hid (HB1.out.trans (hb2.mono HB1.out.size))
        clear hb2 hc1 hc2
        go_wp2
        go_roundw
        case rel => exact ⟨k + 1, by omega, by go_num, by rw [HT.out], HB2.out⟩
        case measure => simp [intOf]; omega
      · have hv : validB (wO x) (wD x) (wA x) (wB x) (immZ x) = true := hdt
        have hw : wText x = textL (wO x) (wD x) (wA x) (wB x) (immZ x) := by unfold wText; rw [hdt]; rfl
        have hdv : decV x = insV (wO x) (wD x) (wA x) (wB x) (immZ x) := by unfold decV; rw [hdt]; rfl
        rw [hdv, hdt] at hd
        have htx := fun W => refText_good (wO x) (wD x) (wA x) (wB x) (immZ x) hv W
        rw [hw] at hrt hwl
        generalize wO x = o at hd htx hrt hwl
        generalize ((wD x : Nat) : Int) = d at hd htx hrt hwl
        generalize ((wA x : Nat) : Int) = a at hd htx hrt hwl
        generalize ((wB x : Nat) : Int) = b at hd htx hrt hwl
        generalize immZ x = m at hd htx hrt hwl
        have hts : (tb (textL o d a b m)).size ≤ 26 := by rw [tb_size]; exact hwl
        generalize tb (textL o d a b m) = td at htx hrt hts
        have HD := Lib.hid hd
        have HF := Lib.hid htx
        have HT := Lib.hid hrt
        have c1 : ¬ 9223372036854775807 < T0.size + td.size := by omega
        have c2 : ¬ 9223372036854775807 < T0.size + td.size + 1 := by omega
        have hxi : (x : Int) < 4294967296 := by omega
        clear hd htx hrt hw hdv hdt hwl hts hls hv
        go_wp2_with fail
        refine (HD.out _).mono ?_
        rintro e w1 ⟨rfl, hb1⟩
        obtain ⟨U, hU⟩ : ∃ U, U = insW o d a b m w1 := ⟨_, rfl⟩
        have HU := Lib.hid hU
        have hbU : Below w1.heap.size w1 U := hU ▸ ins_below o d a b m w1
        have HBU := Lib.hid ((HB.out.trans (hb1.mono HB.out.size)).trans (hbU.mono (HB.out.trans (hb1.mono HB.out.size)).size))
        clear hb1 hU hbU hc hadl
        go_wp2_with fail
        rw [show w1.alloc (.cells #[.int .i64 o, .int .i64 d, .int .i64 a, .int .i64 b, .int .i64 m] 23) = U from HU.out.symm]
        refine (HF.out _).mono ?_
        rintro e w2 ⟨rfl, hb2⟩
        have HB2 := Lib.hid (HBU.out.trans (hb2.mono HBU.out.size))
        clear hb2
        go_wp2
        go_roundw
        case rel => exact ⟨k + 1, by omega, by go_num, by rw [HT.out], HB2.out⟩
        case measure => simp [intOf]; omega
    · obtain rfl : k = n := by omega
      have e : xs.take k = xs := List.take_of_length_le (by have := HL.out; omega)
      rw [e]
      obtain ⟨T0, hT0⟩ : ∃ T0, tb (listL xs) = T0 := ⟨_, rfl⟩
      rw [hT0]
      have HT0 := Lib.hid hT0
      clear hb e hT0
      go_wp2
      go_ret2
      exact ⟨by rw [HT0.out]; rfl, HB.out⟩
/-! ### big -/
theorem big_none {l : List UInt8} (h : l = [] ∨ 10 < l.length ∨ (l.getD 0 0 = 48 ∧ 1 < l.length) ∨ l.all isDig = false ∨ 4294967296 ≤ valD l) : bigL l = none := by unfold bigL; rw [if_pos h]
theorem pow10 (k : Nat) (h : k ≤ 10) : 10 ^ k ≤ 10000000000 := Nat.pow_le_pow_right (by decide) h
def BigPost (l : List UInt8) (w : World) (e : Ending) (w' : World) : Prop := ∃ z : Int, e = .returned (.tuple #[.int .u32 z, .bool (bigL l).isSome]) ∧ (∀ n : Nat, bigL l = some n → z = n) ∧ w = w'
theorem refBig_any (s : ByteArray) (hs : s.size ≤ 1099511627776) (w : World) :
    Calls Tryd.prog 50 #[.string s] w fun e w' => BigPost s.data.toList w e w' := by
  by_cases h0 : s.size < 1
  · have hl : s.data.toList = [] := List.length_eq_zero_iff.1 (by have : s.data.toList.length = s.size := rfl; omega)
    have HN := Lib.hid (big_none (l := s.data.toList) (.inl hl))
    have h0i : (s.size : Int) < 1 := by omega
    clear hl
    go_enter Tryd.func50, Tryd.ntmps50
    go_wp2
    go_ret2
    exact ⟨0, by rw [HN.out]; rfl, fun n h => (by rw [HN.out] at h; cases h), rfl⟩
  · have hpos : 0 < s.size := by omega
    have h0i : ¬ (s.size : Int) < 1 := by omega
    have HL := Lib.hid (show s.data.toList ≠ [] from fun h => h0 (by have h1 : s.data.toList.length = s.size := rfl; rw [h] at h1; simp at h1; omega))
    by_cases h9 : 10 < s.size
    · have HN := Lib.hid (big_none (l := s.data.toList) (.inr (.inl (by simpa using h9))))
      have h9i : (10 : Int) < (s.size : Int) := by omega
      go_enter Tryd.func50, Tryd.ntmps50
      go_wp2
      go_ret2
      exact ⟨0, by rw [HN.out]; rfl, fun n h => (by rw [HN.out] at h; cases h), rfl⟩
    · have H0 := Lib.hid (head_eq s hpos)
      have h9b : decide (10 < (s.size : Int)) = false := by simp <;> omega
      have h9i : ¬ (10 : Int) < (s.size : Int) := by omega
      by_cases hz : (((s[0]'hpos).toNat : Nat) : Int) = 48
      · by_cases h1 : 1 < s.size
        · have h1b : decide (1 < (s.size : Int)) = true := by simp <;> omega
          have HN := Lib.hid (big_none (l := s.data.toList) (.inr (.inr (.inl ⟨H0.out.trans (eq48.1 hz), by simpa using h1⟩))))
          go_enter Tryd.func50, Tryd.ntmps50
          go_wp2
          go_ret2
          exact ⟨0, by rw [HN.out]; rfl, fun n h => (by rw [HN.out] at h; cases h), rfl⟩
        · have hguard : ¬ (s[0]'hpos = 48 ∧ 1 < s.size) := fun h => h1 h.2
          have h1b : decide (1 < (s.size : Int)) = false := by simp <;> omega
          go_enter Tryd.func50, Tryd.ntmps50
          go_wp2
          go_loop [4, 5] (fun n i => ∃ k : Nat, k ≤ s.size ∧ i = .int .i64 k ∧ n = .int .i64 (valD (s.data.toList.take k)) ∧ (s.data.toList.take k).all isDig = true) (fun _ i => s.size - (intOf i).toNat)
          case atStart => exact ⟨0, Nat.zero_le _, rfl, rfl, rfl⟩
          case round =>
            obtain ⟨k, hk, rfl, rfl, hall⟩ := hrel
            have HG := Lib.hid hguard
            clear hguard
            by_cases hp : k < s.size
            · have hvl := valD_lt _ hall
              have hvp := pow10 k (by omega)
              have hln : (s.data.toList.take k).length = k := by simp; omega
              rw [hln] at hvl
              have hvb : valD (s.data.toList.take k) < 10000000000 := Nat.lt_of_lt_of_le hvl hvp
              clear hvl hvp hln
              have HA := Lib.hid hall
              by_cases hlo : (s[k]'hp).toNat < 48
              · have HN := Lib.hid (big_none (l := s.data.toList) (.inr (.inr (.inr (.inl (not_dig hp (by simp [isDig]; omega)))))))
                clear hall
                go_wp2
                go_ret2
                exact ⟨0, by rw [HN.out]; rfl, fun n h => (by rw [HN.out] at h; cases h), rfl⟩
              · by_cases hhi : 57 < (s[k]'hp).toNat
                · have HN := Lib.hid (big_none (l := s.data.toList) (.inr (.inr (.inr (.inl (not_dig hp (by simp [isDig]; omega)))))))
                  clear hall
                  go_wp2
                  go_ret2
                  exact ⟨0, by rw [HN.out]; rfl, fun n h => (by rw [HN.out] at h; cases h), rfl⟩
                · have hlo2 : 48 ≤ (s[k]'hp).toNat := by omega
                  have hhi2 : (s[k]'hp).toNat ≤ 57 := by omega
                  clear hall
                  go_wp2
                  go_round
                  case rel =>
                    refine ⟨k + 1, by omega, by go_num, ?_, ?_⟩
                    · rw [take_snoc s k hp, valD_snoc]
                      go_num
                    · rw [take_snoc s k hp, List.all_append, HA.out]
                      simp [isDig]; omega
                  case measure => simp [intOf]; omega
            · obtain rfl : k = s.size := by omega
              have hvl := valD_lt _ hall
              have hvp := pow10 s.size (by omega)
              have hln : (s.data.toList.take s.size).length = s.size := by simp
              rw [hln] at hvl
              have hvb := Nat.lt_of_lt_of_le hvl hvp
              rw [List.take_of_length_le (by simp)] at hall hvb ⊢
              by_cases h32 : valD s.data.toList < 4294967296
              · have HN := Lib.hid (show bigL s.data.toList = some (valD s.data.toList) by
                  unfold bigL
                  rw [if_neg]
                  rintro (h | h | h | h | h)
                  · exact HL.out h
                  · exact h9 (by simpa using h)
                  · exact HG.out ⟨H0.out.symm.trans h.1, by simpa using h.2⟩
                  · rw [hall] at h; cases h
                  · omega)
                clear hall hvl hvp hln
                generalize valD s.data.toList = v at h32 HN hvb ⊢
                have hwr : IntKind.u32.wrap (v : Int) = (v : Int) := IntWalk.u32_in _ (by omega)
                have h32b : decide ((v : Int) < 4294967296) = true := decide_eq_true (by omega)
                have h32i : (v : Int) < 4294967296 := by omega
                go_wp2
                go_ret2
                exact ⟨v, by rw [HN.out]; rfl, fun n h => (by rw [HN.out] at h; cases h; rfl), rfl⟩
              · have HN := Lib.hid (big_none (l := s.data.toList) (.inr (.inr (.inr (.inr (by omega))))))
                clear hall hvl hvp hln
                generalize valD s.data.toList = v at h32 hvb ⊢
                obtain ⟨z, hz9⟩ : ∃ z, IntKind.u32.wrap (v : Int) = z := ⟨_, rfl⟩
                have h32b : decide ((v : Int) < 4294967296) = false := decide_eq_false (by omega)
                have h32i : ¬ (v : Int) < 4294967296 := by omega
                go_wp2
                go_ret2
                exact ⟨z, by rw [HN.out]; rfl, fun n h => (by rw [HN.out] at h; cases h), rfl⟩
      · have hguard : ¬ (s[0]'hpos = 48 ∧ 1 < s.size) := fun h => hz (eq48.2 h.1)
        go_enter Tryd.func50, Tryd.ntmps50
        go_wp2
        go_loop [4, 5] (fun n i => ∃ k : Nat, k ≤ s.size ∧ i = .int .i64 k ∧ n = .int .i64 (valD (s.data.toList.take k)) ∧ (s.data.toList.take k).all isDig = true) (fun _ i => s.size - (intOf i).toNat)
        case atStart => exact ⟨0, Nat.zero_le _, rfl, rfl, rfl⟩
        case round =>
          obtain ⟨k, hk, rfl, rfl, hall⟩ := hrel
          have HG := Lib.hid hguard
          clear hguard
          by_cases hp : k < s.size
          · have hvl := valD_lt _ hall
            have hvp := pow10 k (by omega)
            have hln : (s.data.toList.take k).length = k := by simp; omega
            rw [hln] at hvl
            have hvb : valD (s.data.toList.take k) < 10000000000 := Nat.lt_of_lt_of_le hvl hvp
            clear hvl hvp hln
            have HA := Lib.hid hall
            by_cases hlo : (s[k]'hp).toNat < 48
            · have HN := Lib.hid (big_none (l := s.data.toList) (.inr (.inr (.inr (.inl (not_dig hp (by simp [isDig]; omega)))))))
              clear hall
              go_wp2
              go_ret2
              exact ⟨0, by rw [HN.out]; rfl, fun n h => (by rw [HN.out] at h; cases h), rfl⟩
            · by_cases hhi : 57 < (s[k]'hp).toNat
              · have HN := Lib.hid (big_none (l := s.data.toList) (.inr (.inr (.inr (.inl (not_dig hp (by simp [isDig]; omega)))))))
                clear hall
                go_wp2
                go_ret2
                exact ⟨0, by rw [HN.out]; rfl, fun n h => (by rw [HN.out] at h; cases h), rfl⟩
              · have hlo2 : 48 ≤ (s[k]'hp).toNat := by omega
                have hhi2 : (s[k]'hp).toNat ≤ 57 := by omega
                clear hall
                go_wp2
                go_round
                case rel =>
                  refine ⟨k + 1, by omega, by go_num, ?_, ?_⟩
                  · rw [take_snoc s k hp, valD_snoc]
                    go_num
                  · rw [take_snoc s k hp, List.all_append, HA.out]
                    simp [isDig]; omega
                case measure => simp [intOf]; omega
          · obtain rfl : k = s.size := by omega
            have hvl := valD_lt _ hall
            have hvp := pow10 s.size (by omega)
            have hln : (s.data.toList.take s.size).length = s.size := by simp
            rw [hln] at hvl
            have hvb := Nat.lt_of_lt_of_le hvl hvp
            rw [List.take_of_length_le (by simp)] at hall hvb ⊢
            by_cases h32 : valD s.data.toList < 4294967296
            · have HN := Lib.hid (show bigL s.data.toList = some (valD s.data.toList) by
                unfold bigL
                rw [if_neg]
                rintro (h | h | h | h | h)
                · exact HL.out h
                · exact h9 (by simpa using h)
                · exact HG.out ⟨H0.out.symm.trans h.1, by simpa using h.2⟩
                · rw [hall] at h; cases h
                · omega)
              clear hall hvl hvp hln
              generalize valD s.data.toList = v at h32 HN hvb ⊢
              have hwr : IntKind.u32.wrap (v : Int) = (v : Int) := IntWalk.u32_in _ (by omega)
              have h32b : decide ((v : Int) < 4294967296) = true := decide_eq_true (by omega)
              have h32i : (v : Int) < 4294967296 := by omega
              go_wp2
              go_ret2
              exact ⟨v, by rw [HN.out]; rfl, fun n h => (by rw [HN.out] at h; cases h; rfl), rfl⟩
            · have HN := Lib.hid (big_none (l := s.data.toList) (.inr (.inr (.inr (.inr (by omega))))))
              clear hall hvl hvp hln
              generalize valD s.data.toList = v at h32 hvb ⊢
              obtain ⟨z, hz9⟩ : ∃ z, IntKind.u32.wrap (v : Int) = z := ⟨_, rfl⟩
              have h32b : decide ((v : Int) < 4294967296) = false := decide_eq_false (by omega)
              have h32i : ¬ (v : Int) < 4294967296 := by omega
              go_wp2
              go_ret2
              exact ⟨z, by rw [HN.out]; rfl, fun n h => (by rw [HN.out] at h; cases h), rfl⟩
end Go.Proofs.YtfdekfobcohcjaaDoor.As
