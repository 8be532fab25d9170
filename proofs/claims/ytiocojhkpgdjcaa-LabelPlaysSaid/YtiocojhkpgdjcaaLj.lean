/- The document's Join and Meet of layer 1: what each returns, for every list. -/
import Derived.Test.YtiocojhkpgdjcaaLi
namespace Go.Proofs.Ytiocojhkpgdjcaa.La
open Go.RowKit Ut

/-- the bits of o, and the first c bits of s -/
def jn (o s c : Nat) : Nat := o ||| s % 2 ^ c
theorem tb_jn (o s c i : Nat) : (jn o s c).testBit i = (o.testBit i || (decide (i < c) && s.testBit i)) := by
  unfold jn; rw [Nat.testBit_or, Nat.testBit_mod_two_pow]
theorem jn_lt (o s c : Nat) (ho : o < 256) (hs : s < 256) : jn o s c < 256 := or_lt _ _ ho (Nat.lt_of_le_of_lt (Nat.mod_le _ _) hs)
theorem jn_zero (o s : Nat) : jn o s 0 = o := by unfold jn; simp [Nat.mod_one]
theorem jn_eight (o s : Nat) (hs : s < 256) : jn o s 8 = o ||| s := by unfold jn; rw [Nat.mod_eq_of_lt hs]
theorem jn_stay (o s c : Nat) (h : s.testBit c = false ∨ (jn o s c).testBit c = true) : jn o s (c + 1) = jn o s c := by
  apply Nat.eq_of_testBit_eq
  intro i
  have hc := tb_jn o s c c
  rw [tb_jn, tb_jn]
  by_cases e : i = c
  · subst e
    rcases h with h | h
    · simp [h]
    · rw [h] at hc; simp at hc; simp [← hc]
  · have : decide (i < c + 1) = decide (i < c) := by
      rw [decide_eq_decide]; omega
    rw [this]
theorem set_all : (List.range 256).all (fun x => (List.range 8).all fun k => x.testBit k || x + 2 ^ k == x ||| 2 ^ k) = true := by decide +kernel
theorem set_any (x k : Nat) (hx : x < 256) (hk : k < 8) (h : x.testBit k = false) : x + 2 ^ k = x ||| 2 ^ k := by
  have := List.all_eq_true.1 (List.all_eq_true.1 set_all x (List.mem_range.2 hx)) k (List.mem_range.2 hk)
  rw [h] at this
  simpa using this
theorem jn_set (o s c : Nat) (ho : o < 256) (hs : s < 256) (hc8 : c < 8) (h1 : s.testBit c = true) (h2 : (jn o s c).testBit c = false) : jn o s (c + 1) = jn o s c + 2 ^ c := by
  rw [set_any _ c (jn_lt o s c ho hs) hc8 h2]
  apply Nat.eq_of_testBit_eq
  intro i
  rw [Nat.testBit_or, tb_jn, tb_jn, Nat.testBit_two_pow]
  by_cases e : i = c
  · subst e; simp [h1]
  · have h3 : decide (i < c + 1) = decide (i < c) := by
      rw [decide_eq_decide]; omega
    have h4 : decide (c = i) = false := by simp; omega
    rw [h3, h4]; simp

/-- what is known of a list that came in: each element's cell -/
def Row (w : World) (a : Option Addr) (len : Nat) (zs : List Int) : Prop := zs.length = len ∧ len ≤ 9223372036854775807 ∧ ∀ i, i < len → ∃ x, a = some x ∧ x.block < w.heap.size ∧ w.cell? (x.add i) = some (.int .i64 (zs.getD i 0))

theorem joinZ_bad (zs : List Int) (h : tog .or 0 zs = none) : joinZ zs = -1 := by unfold joinZ; rw [togP_no _ _ _ h]; rfl
theorem joinZ_good (zs : List Int) (v : Int) (h : tog .or 0 zs = some v) : joinZ zs = v := by unfold joinZ; rw [togP_yes .or 0 zs v rfl h]; rfl

set_option maxRecDepth 100000 in
theorem refJoin_any (a : Option Addr) (len cap : Nat) (zs : List Int) (w : World) (hrow : Row w a len zs) :
    Calls Try.prog 17 #[.slice a len cap] w fun e w' => e = .returned (.int .i64 (joinZ zs)) ∧ w = w' := by
  obtain ⟨hl, hm, hc⟩ := hrow
  have HL := Lib.hid hl
  have HC := Lib.hid hc
  clear hl hc
  go_enter Try.func17, Try.ntmps17
  go_wp2
  go_loop [3, 4] (fun o i => ∃ k r : Nat, k ≤ len ∧ i = .int .i64 k ∧ o = .int .i64 r ∧ r < 256 ∧ tog .or 0 zs = tog .or r (zs.drop k)) (fun _ i => len - (intOf i).toNat)
  case atStart => exact ⟨0, 0, Nat.zero_le _, rfl, rfl, by omega, rfl⟩
  case round =>
    obtain ⟨k, r, hk, rfl, rfl, hr, ht⟩ := hrel
    have HT := Lib.hid ht
    clear ht
    by_cases hlt : k < len
    · obtain ⟨x, rfl, _, hx⟩ := HC.out k hlt
      obtain ⟨s, hs⟩ : ∃ s, zs.getD k 0 = s := ⟨_, rfl⟩
      rw [hs] at hx
      have HS := Lib.hid hs
      clear hs
      cases hy : isL s
      · have HN := Lib.hid (joinZ_bad zs (HT.out.trans (tog_cons .or r s zs k (HL.out ▸ hlt) HS.out false hy)))
        go_wp2_with (go_at_call 28; refine (refIs_any _ _).mono ?_; rintro e w' ⟨rfl, rfl⟩)
        go_ret
        exact ⟨congrArg (fun v => Ending.returned (.int .i64 v)) HN.out.symm, rfl⟩
      · have HN := Lib.hid ((HT.out.trans (tog_cons .or r s zs k (HL.out ▸ hlt) HS.out true hy)).trans (if_pos rfl))
        obtain ⟨n, hn, rfl⟩ := isL_ex s hy
        go_wp2_with (go_at_call 28; refine (refIs_any _ _).mono ?_; rintro e w' ⟨rfl, rfl⟩)
        clear hy
        go_loop [3, 5] (fun o i => ∃ c q : Nat, c ≤ 8 ∧ i = .int .i64 c ∧ o = .int .i64 q ∧ q = jn r n c) (fun _ i => 8 - (intOf i).toNat)
        case atStart => exact ⟨0, r, Nat.zero_le _, rfl, rfl, (jn_zero r n).symm⟩
        case round =>
          obtain ⟨c, q, hc8, rfl, rfl, hq⟩ := hrel
          have HQ := Lib.hid hq
          have hq2 : q < 256 := by rw [hq]; exact jn_lt r n c hr hn
          by_cases hclt : c < 8
          · obtain ⟨p, hp, hp2, hp3⟩ : ∃ p : Nat, wrap64 (2 ^ c) = (p : Int) ∧ p ≤ 128 ∧ Hid (p = 2 ^ c) := ⟨2 ^ c, wrap_pow c hclt, pow_le c hclt, rfl⟩
            have e1 := hasZ_nat n c hn hclt
            have e2 := hasZ_nat q c hq2 hclt
            rw [hq] at e2
            cases h1 : hasZ n c
            · have HJ := Lib.hid (jn_stay r n c (.inl (e1.symm.trans h1)))
              clear e1 e2 hq
              go_wp2_with (go_at_call 29; refine (refHas_any _ _ hc8 _).mono ?_; rintro e w' ⟨rfl, rfl⟩)
              go_round
              case rel => exact ⟨c + 1, q, by omega, by go_num, rfl, by rw [HJ.out]; exact HQ.out⟩
              case measure => simp [intOf]; omega
            · cases h2 : hasZ q c
              · have HJ := Lib.hid (jn_set r n c hr hn hclt (e1.symm.trans h1) (e2.symm.trans (hq ▸ h2)))
                clear e1 e2 hq
                go_wp2_with (go_at_call 29; refine (refHas_any _ _ hc8 _).mono ?_; rintro e w' ⟨rfl, rfl⟩)
                go_round
                case rel => exact ⟨c + 1, q + p, by omega, by go_num, by go_num, by rw [HJ.out, HQ.out, hp3.out]⟩
                case measure => simp [intOf]; omega
              · have HJ := Lib.hid (jn_stay r n c (.inr (e2.symm.trans (hq ▸ h2))))
                clear e1 e2 hq
                go_wp2_with (go_at_call 29; refine (refHas_any _ _ hc8 _).mono ?_; rintro e w' ⟨rfl, rfl⟩)
                go_round
                case rel => exact ⟨c + 1, q, by omega, by go_num, rfl, by rw [HJ.out]; exact HQ.out⟩
                case measure => simp [intOf]; omega
          · obtain rfl : c = 8 := by omega
            have HE : Hid (q = r ||| n) := Lib.hid (by rw [hq]; exact jn_eight r n hn)
            clear hq
            go_wp2
            go_round
            case rel => exact ⟨k + 1, q, by omega, by go_num, rfl, hq2, HN.out.trans (by rw [bits_or_l r n hr hn, HE.out])⟩
            case measure => simp [intOf]; omega
    · have HE := Lib.hid (joinZ_good zs r (HT.out.trans (by rw [List.drop_of_length_le (by have := HL.out; omega)]; rfl)))
      go_wp2
      go_ret
      exact ⟨congrArg (fun v => Ending.returned (.int .i64 v)) HE.out.symm, rfl⟩

/-- all of the list have category c -/
def allHas (zs : List Int) (c : Nat) : Bool := zs.all fun s => hasZ s c
theorem allHas_cons (zs : List Int) (c k : Nat) (s : Int) (h : k < zs.length) (e : zs.getD k 0 = s) : allHas (zs.take (k + 1)) c = (allHas (zs.take k) c && hasZ s c) := by
  have e' : zs[k] = s := by rw [← e]; simp [List.getD, h]
  unfold allHas
  rw [List.take_succ_eq_append_getElem h, List.all_append, e']
  simp
theorem meetZ_bad (zs : List Int) (h : zs.all isL = false) : meetZ zs = -1 := by
  have : ∀ (l : List Int) (v : Int), l.all isL = false → tog .and v l = none := by
    intro l
    induction l with
    | nil => intro v h; cases h
    | cons s r ih =>
      intro v h
      cases hs : isL s
      · exact tog_stop _ _ _ _ hs
      · rw [tog_step _ _ _ _ hs]
        exact ih _ (by simpa [hs] using h)
  unfold meetZ
  rw [togP_no _ _ _ (this zs 255 h)]; rfl
theorem tog_and (l : List Int) : ∀ v : Nat, v < 256 → l.all isL = true → ∃ m : Nat, m < 256 ∧ tog .and v l = some (m : Int) ∧ ∀ c, c < 8 → m.testBit c = (v.testBit c && allHas l c) := by
  induction l with
  | nil => intro v hv _; exact ⟨v, hv, rfl, fun c _ => by simp [allHas]⟩
  | cons s r ih =>
    intro v hv h
    simp only [List.all_cons, Bool.and_eq_true] at h
    obtain ⟨n, hn, rfl⟩ := isL_ex s h.1
    rw [tog_step _ _ _ _ h.1, bits_and_l v n hv hn]
    obtain ⟨m, hm, e, hb⟩ := ih (v &&& n) (and_lt v n hn) h.2
    refine ⟨m, hm, e, fun c hc => ?_⟩
    rw [hb c hc, Nat.testBit_and]
    simp only [allHas, List.all_cons, hasZ_nat n c hn hc, Bool.and_assoc]
theorem meetZ_good (zs : List Int) (h : zs.all isL = true) : ∃ m : Nat, m < 256 ∧ meetZ zs = m ∧ ∀ c, c < 8 → m.testBit c = allHas zs c := by
  obtain ⟨m, hm, e, hb⟩ := tog_and zs 255 (by omega) h
  refine ⟨m, hm, ?_, fun c hc => ?_⟩
  · unfold meetZ
    rw [togP_yes .and 255 zs m rfl e]; rfl
  · have : Nat.testBit 255 c = true := by
      rcases (show c = 0 ∨ c = 1 ∨ c = 2 ∨ c = 3 ∨ c = 4 ∨ c = 5 ∨ c = 6 ∨ c = 7 by omega) with rfl | rfl | rfl | rfl | rfl | rfl | rfl | rfl <;> rfl
    rw [hb c hc, this]; rfl
theorem all_cons (zs : List Int) (k : Nat) (s : Int) (h : k < zs.length) (e : zs.getD k 0 = s) : (zs.take (k + 1)).all isL = ((zs.take k).all isL && isL s) := by
  have e' : zs[k] = s := by rw [← e]; simp [List.getD, h]
  rw [List.take_succ_eq_append_getElem h, List.all_append, e']
  simp
theorem all_stop (zs : List Int) (k : Nat) (s : Int) (h : k < zs.length) (e : zs.getD k 0 = s) (hs : isL s = false) : zs.all isL = false := by
  have e' : zs[k] = s := by rw [← e]; simp [List.getD, h]
  cases q : zs.all isL
  · rfl
  · have := List.all_eq_true.1 q s (e' ▸ List.getElem_mem h)
    rw [hs] at this; cases this

set_option maxRecDepth 100000 in
theorem refMeet_bits (a : Option Addr) (len cap : Nat) (zs : List Int) (w : World) (hrow : Row w a len zs) (m : Nat) (hm256 : m < 256) (hmz : Hid (zs.all isL = true → meetZ zs = m)) (hmb : Hid (zs.all isL = true → ∀ c, c < 8 → m.testBit c = allHas zs c)) :
    Calls Try.prog 19 #[.slice a len cap] w fun e w' => e = .returned (.int .i64 (meetZ zs)) ∧ w = w' := by
  obtain ⟨hl, hm, hc⟩ := hrow
  have HL := Lib.hid hl
  have HC := Lib.hid hc
  clear hl hc
  go_enter Try.func19, Try.ntmps19
  go_wp2
  go_loop [3] (fun i => ∃ k : Nat, k ≤ len ∧ i = .int .i64 k ∧ (zs.take k).all isL = true) (fun i => len - (intOf i).toNat)
  case atStart => exact ⟨0, Nat.zero_le _, rfl, by simp⟩
  case round =>
    obtain ⟨k, hk, rfl, ht⟩ := hrel
    have HT := Lib.hid ht
    clear ht
    by_cases hlt : k < len
    · obtain ⟨x, rfl, _, hx⟩ := HC.out k hlt
      obtain ⟨s, hs⟩ : ∃ s, zs.getD k 0 = s := ⟨_, rfl⟩
      rw [hs] at hx
      have HS := Lib.hid hs
      clear hs
      cases hy : isL s
      · have HN := Lib.hid (meetZ_bad zs (all_stop zs k s (HL.out ▸ hlt) HS.out hy))
        go_wp2_with (go_at_call 28; refine (refIs_any _ _).mono ?_; rintro e w' ⟨rfl, rfl⟩)
        go_ret
        exact ⟨congrArg (fun v => Ending.returned (.int .i64 v)) HN.out.symm, rfl⟩
      · have HN := Lib.hid (all_cons zs k s (HL.out ▸ hlt) HS.out)
        have HY := Lib.hid hy
        go_wp2_with (go_at_call 28; refine (refIs_any _ _).mono ?_; rintro e w' ⟨rfl, rfl⟩)
        go_round
        case rel => exact ⟨k + 1, by omega, by go_num, by rw [HN.out, HT.out, HY.out]; rfl⟩
        case measure => simp [intOf]; omega
    · have hall : zs.all isL = true := by
        have e := HT.out
        rw [List.take_of_length_le (by have := HL.out; omega)] at e
        exact e
      have HM := Lib.hid (hmz.out hall)
      have HB := Lib.hid (hmb.out hall)
      clear hall
      go_wp2
      go_loop [4, 5] (fun o i => ∃ c q : Nat, c ≤ 8 ∧ i = .int .i64 c ∧ o = .int .i64 q ∧ q = m % 2 ^ c) (fun _ i => 8 - (intOf i).toNat)
      case atStart => exact ⟨0, 0, Nat.zero_le _, rfl, rfl, by simp [Nat.mod_one]⟩
      case round =>
        obtain ⟨c, q, hc8, rfl, rfl, hq⟩ := hrel
        have HQ := Lib.hid hq
        have hq2 : q < 256 := by rw [hq]; exact Nat.lt_of_le_of_lt (Nat.mod_le _ _) hm256
        clear hq
        by_cases hclt : c < 8
        · obtain ⟨p, hp, hp2, hp3⟩ : ∃ p : Nat, wrap64 (2 ^ c) = (p : Int) ∧ p ≤ 128 ∧ Hid (p = 2 ^ c) := ⟨2 ^ c, wrap_pow c hclt, pow_le c hclt, rfl⟩
          go_wp2
          go_loop [6, 7] (fun b i => ∃ j : Nat, j ≤ len ∧ i = .int .i64 j ∧ b = .bool (allHas (zs.take j) c)) (fun _ i => len - (intOf i).toNat)
          case atStart => exact ⟨0, Nat.zero_le _, rfl, rfl⟩
          case round =>
            obtain ⟨j, hj, rfl, rfl⟩ := hrel
            by_cases hjlt : j < len
            · obtain ⟨x, rfl, _, hx⟩ := HC.out j hjlt
              obtain ⟨s, hs⟩ : ∃ s, zs.getD j 0 = s := ⟨_, rfl⟩
              rw [hs] at hx
              have HA := Lib.hid (allHas_cons zs c j s (HL.out ▸ hjlt) hs)
              clear hs
              cases ha : allHas (zs.take j) c
              · have HX := Lib.hid ha
                go_wp2_with (go_at_call 29; refine (refHas_any _ _ hc8 _).mono ?_; rintro e w' ⟨rfl, rfl⟩)
                go_round
                case rel => exact ⟨j + 1, by omega, by go_num, by rw [HA.out, HX.out]; rfl⟩
                case measure => simp [intOf]; omega
              · have HX := Lib.hid ha
                go_wp2_with (go_at_call 29; refine (refHas_any _ _ hc8 _).mono ?_; rintro e w' ⟨rfl, rfl⟩)
                go_round
                case rel => exact ⟨j + 1, by omega, by go_num, by rw [HA.out, HX.out]; rfl⟩
                case measure => simp [intOf]; omega
            · have et : zs.take j = zs := List.take_of_length_le (by have := HL.out; omega)
              rw [et]
              clear et
              have eb := HB.out c hclt
              cases ha : allHas zs c
              · have HJ := Lib.hid (low_no m c hm256 hclt (eb.trans ha))
                clear eb
                go_wp2
                go_round
                case rel => exact ⟨c + 1, q, by omega, by go_num, rfl, by rw [HJ.out]; exact HQ.out⟩
                case measure => simp [intOf]; omega
              · have HJ := Lib.hid (low_yes m c hm256 hclt (eb.trans ha))
                clear eb
                go_wp2
                go_round
                case rel => exact ⟨c + 1, q + p, by omega, by go_num, by go_num, by rw [HJ.out, HQ.out, hp3.out]⟩
                case measure => simp [intOf]; omega
        · obtain rfl : c = 8 := by omega
          have HE : Hid (meetZ zs = (q : Int)) := Lib.hid (by rw [HM.out, HQ.out]; exact congrArg (fun x : Nat => (x : Int)) (Nat.mod_eq_of_lt hm256).symm)
          go_wp2
          go_ret
          exact ⟨congrArg (fun v => Ending.returned (.int .i64 v)) HE.out.symm, rfl⟩

theorem refMeet_any (a : Option Addr) (len cap : Nat) (zs : List Int) (w : World) (hrow : Row w a len zs) :
    Calls Try.prog 19 #[.slice a len cap] w fun e w' => e = .returned (.int .i64 (meetZ zs)) ∧ w = w' := by
  cases h : zs.all isL
  · exact refMeet_bits a len cap zs w hrow 0 (by omega) (fun k => by rw [h] at k; cases k) (fun k => by rw [h] at k; cases k)
  · obtain ⟨m, hm, e, hb⟩ := meetZ_good zs h
    exact refMeet_bits a len cap zs w hrow m hm (fun _ => e) (fun _ => hb)
end Go.Proofs.Ytiocojhkpgdjcaa.La
