/- Several texts in one: Es Fa Ec -/
import Derived.Test.YtikkfapgmbamlaaDoorZ02
import Derived.Test.YtikkfapgmbamlaaDoorZ06
import Derived.Test.YtikkfapgmbamlaaDoorZ05
import Derived.BigQuiet
import Derived.Test.YtikkfapgmbamlaaDoorZ04
section
/- The document's Number of layer 5. -/
namespace Go.Proofs.YtikkfapgmbamlaaDoor.Pl
open Go.RowKit Ut
set_option linter.unusedVariables false

set_option maxHeartbeats 1000000 in
set_option maxRecDepth 100000 in
theorem refNumber_any (s : ByteArray) (hs : s.size ≤ 1099511627776) (w : World) :
    Calls Tryd.prog 11 #[.string s] w fun e w' => e = .returned (numV s.data.toList) ∧ w = w' := by
  by_cases h0 : s.size = 0
  · have hl : s.data.toList = [] := List.length_eq_zero_iff.1 (by simpa using h0)
    have HV := Lib.hid (numV_none (l := s.data.toList) (by rw [hl]; rfl))
    clear hl
    go_enter Tryd.func11, Tryd.ntmps11
    go_wp2
    go_ret2
    exact ⟨HV.out.symm ▸ rfl, rfl⟩
  · have hpos : 0 < s.size := by omega
    have hne : ((s.size : Int) == 0) = false := by rw [beq_eq_false_iff_ne]; omega
    have HL := Lib.hid (show s.data.toList ≠ [] from fun h => h0 (by have := congrArg List.length h; simpa using this))
    by_cases h9 : 9 < s.size
    · have HV := Lib.hid (numV_none (l := s.data.toList) (by unfold numL; rw [if_pos (.inr (.inl (by simpa using h9)))]))
      go_enter Tryd.func11, Tryd.ntmps11
      go_wp2
      go_ret2
      exact ⟨HV.out.symm ▸ rfl, rfl⟩
    · have H0 := Lib.hid (head_eq s hpos)
      have h9b : decide (9 < (s.size : Int)) = false := by simp <;> omega
      by_cases hz : (((s[0]'hpos).toNat : Nat) : Int) = 48
      · by_cases h1 : 1 < s.size
        · have h1b : decide (1 < (s.size : Int)) = true := by simp <;> omega
          have HV := Lib.hid (numV_none (l := s.data.toList) (by
            unfold numL
            rw [if_pos (.inr (.inr (.inl ⟨H0.out.trans (eq48.1 hz), by simpa using h1⟩)))]))
          go_enter Tryd.func11, Tryd.ntmps11
          go_wp2
          go_ret2
          exact ⟨HV.out.symm ▸ rfl, rfl⟩
        · have hguard : ¬ (s[0]'hpos = 48 ∧ 1 < s.size) := fun h => h1 h.2
          have h1b : decide (1 < (s.size : Int)) = false := by simp <;> omega
          go_enter Tryd.func11, Tryd.ntmps11
          go_wp2
          go_loop [4, 5] (fun n i => ∃ k : Nat, k ≤ s.size ∧ i = .int .i64 k ∧ n = .int .i64 (valD (s.data.toList.take k)) ∧ (s.data.toList.take k).all isDig = true) (fun _ i => s.size - (intOf i).toNat)
          case atStart => exact ⟨0, Nat.zero_le _, rfl, rfl, rfl⟩
          case round =>
            obtain ⟨k, hk, rfl, rfl, hall⟩ := hrel
            have HG := Lib.hid hguard
            clear hguard
            by_cases hp : k < s.size
            · have hvl := valD_lt _ hall
              have hvp := pow9 k (by omega)
              have hln : (s.data.toList.take k).length = k := by simp; omega
              rw [hln] at hvl
              have hvb : valD (s.data.toList.take k) < 1000000000 := Nat.lt_of_lt_of_le hvl hvp
              clear hvl hvp hln
              have HA := Lib.hid hall
              by_cases hlo : (s[k]'hp).toNat < 48
              · have HN := Lib.hid (numV_none (l := s.data.toList) (by
                  have hdg : isDig (s[k]'hp) = false := by simp [isDig]; omega
                  unfold numL; rw [if_pos (.inr (.inr (.inr (not_dig hp hdg))))]))
                clear hall
                go_wp2
                go_ret2
                exact ⟨HN.out.symm ▸ rfl, rfl⟩
              · by_cases hhi : 57 < (s[k]'hp).toNat
                · have HN := Lib.hid (numV_none (l := s.data.toList) (by
                    have hdg : isDig (s[k]'hp) = false := by simp [isDig]; omega
                    unfold numL; rw [if_pos (.inr (.inr (.inr (not_dig hp hdg))))]))
                  clear hall
                  go_wp2
                  go_ret2
                  exact ⟨HN.out.symm ▸ rfl, rfl⟩
                · have hlo2 : 48 ≤ (s[k]'hp).toNat := by omega
                  have hhi2 : (s[k]'hp).toNat ≤ 57 := by omega
                  clear hall
                  go_wp2
                  go_round
                  case rel =>
                    refine ⟨k + 1, by omega, by go_num, ?_, ?_⟩
                    · rw [take_snoc s k hp, valD_snoc]
                      go_num
                    · rw [take_snoc s k hp, List.all_append, HA.out]
                      simp [isDig]; omega
                  case measure => simp [intOf]; omega
            · obtain rfl : k = s.size := by omega
              rw [List.take_of_length_le (by simp)] at hall ⊢
              have HN := Lib.hid (numV_some (l := s.data.toList) (n := valD s.data.toList) (by
                unfold numL
                rw [if_neg]
                rintro (h | h | h | h)
                · exact HL.out h
                · exact h9 (by simpa using h)
                · exact HG.out ⟨H0.out.symm.trans h.1, by simpa using h.2⟩
                · rw [hall] at h; cases h))
              clear hall
              go_wp2
              go_ret2
              exact ⟨HN.out.symm ▸ rfl, rfl⟩
      · have hguard : ¬ (s[0]'hpos = 48 ∧ 1 < s.size) := fun h => hz (eq48.2 h.1)
        go_enter Tryd.func11, Tryd.ntmps11
        go_wp2
        go_loop [4, 5] (fun n i => ∃ k : Nat, k ≤ s.size ∧ i = .int .i64 k ∧ n = .int .i64 (valD (s.data.toList.take k)) ∧ (s.data.toList.take k).all isDig = true) (fun _ i => s.size - (intOf i).toNat)
        case atStart => exact ⟨0, Nat.zero_le _, rfl, rfl, rfl⟩
        case round =>
          obtain ⟨k, hk, rfl, rfl, hall⟩ := hrel
          have HG := Lib.hid hguard
          clear hguard
          by_cases hp : k < s.size
          · have hvl := valD_lt _ hall
            have hvp := pow9 k (by omega)
            have hln : (s.data.toList.take k).length = k := by simp; omega
            rw [hln] at hvl
            have hvb : valD (s.data.toList.take k) < 1000000000 := Nat.lt_of_lt_of_le hvl hvp
            clear hvl hvp hln
            have HA := Lib.hid hall
            by_cases hlo : (s[k]'hp).toNat < 48
            · have HN := Lib.hid (numV_none (l := s.data.toList) (by
                have hdg : isDig (s[k]'hp) = false := by simp [isDig]; omega
                unfold numL; rw [if_pos (.inr (.inr (.inr (not_dig hp hdg))))]))
              clear hall
              go_wp2
              go_ret2
              exact ⟨HN.out.symm ▸ rfl, rfl⟩
            · by_cases hhi : 57 < (s[k]'hp).toNat
              · have HN := Lib.hid (numV_none (l := s.data.toList) (by
                  have hdg : isDig (s[k]'hp) = false := by simp [isDig]; omega
                  unfold numL; rw [if_pos (.inr (.inr (.inr (not_dig hp hdg))))]))
                clear hall
                go_wp2
                go_ret2
                exact ⟨HN.out.symm ▸ rfl, rfl⟩
              · have hlo2 : 48 ≤ (s[k]'hp).toNat := by omega
                have hhi2 : (s[k]'hp).toNat ≤ 57 := by omega
                clear hall
                go_wp2
                go_round
                case rel =>
                  refine ⟨k + 1, by omega, by go_num, ?_, ?_⟩
                  · rw [take_snoc s k hp, valD_snoc]
                    go_num
                  · rw [take_snoc s k hp, List.all_append, HA.out]
                    simp [isDig]; omega
                case measure => simp [intOf]; omega
          · obtain rfl : k = s.size := by omega
            rw [List.take_of_length_le (by simp)] at hall ⊢
            have HN := Lib.hid (numV_some (l := s.data.toList) (n := valD s.data.toList) (by
              unfold numL
              rw [if_neg]
              rintro (h | h | h | h)
              · exact HL.out h
              · exact h9 (by simpa using h)
              · exact HG.out ⟨H0.out.symm.trans h.1, by simpa using h.2⟩
              · rw [hall] at h; cases h))
            clear hall
            go_wp2
            go_ret2
            exact ⟨HN.out.symm ▸ rfl, rfl⟩
end Go.Proofs.YtikkfapgmbamlaaDoor.Pl
end
section
/- The document's rank, numbers, labelled of layer 5. -/
namespace Go.Proofs.YtikkfapgmbamlaaDoor.Pl
open Go.RowKit Ut
set_option linter.unusedVariables false
set_option maxRecDepth 100000

/-- how many words a line has with that first word; 0 if it can't be one -/
def cntZ (w : List UInt8) : Int := match rankL w with | some r => ((kf r).length : Int) + 1 | none => 0
theorem ref_word (s : ByteArray) (l : List UInt8) : (s.toList == l) = decide (s.data.toList = l) := by
  rw [ByteArray.toList_eq]
  cases h : decide (s.data.toList = l)
  · simpa using h
  · simpa using h
theorem refRank_at (s : ByteArray) (r n : Int) (w : World) (hr : rankZ s.data.toList = r) (hn : cntZ s.data.toList = n) :
    Calls Tryd.prog 33 #[.string s] w fun e w' => e = .returned (.tuple #[.int .i64 r, .int .i64 n]) ∧ w = w' := by
  have q := ref_word s
  have k : ∀ j, j < 7 → s.data.toList = kw j → rankL s.data.toList = some j := fun j hj h => by
    rw [h]
    match j, hj with
    | 0, _ => decide +kernel
    | 1, _ => decide +kernel
    | 2, _ => decide +kernel
    | 3, _ => decide +kernel
    | 4, _ => decide +kernel
    | 5, _ => decide +kernel
    | 6, _ => decide +kernel
    | j + 7, h => omega
  have kn : (∀ j, j < 7 → s.data.toList ≠ kw j) → rankL s.data.toList = none := fun h => by
    cases hx : rankL s.data.toList with
    | none => rfl
    | some j => exact absurd (rank_back hx).1.symm (h j (rank_back hx).2)
  generalize hl : s.data.toList = l at k kn q hr hn
  have HK : Hid (∀ j, j < 7 → l = kw j → r = j ∧ n = ((kf j).length : Int) + 1) := Lib.hid fun j hj h => by
    have e := k j hj h
    unfold rankZ at hr
    unfold cntZ at hn
    rw [e] at hr hn
    exact ⟨hr.symm, hn.symm⟩
  have HN : Hid ((∀ j, j < 7 → l ≠ kw j) → r = -1 ∧ n = 0) := Lib.hid fun h => by
    have e := kn h
    unfold rankZ at hr
    unfold cntZ at hn
    rw [e] at hr hn
    exact ⟨hr.symm, hn.symm⟩
  clear k kn hr hn
  have t0 := q (kw 0)
  have t1 := q (kw 1)
  have t2 := q (kw 2)
  have t3 := q (kw 3)
  have t4 := q (kw 4)
  have t5 := q (kw 5)
  have t6 := q (kw 6)
  clear q hl
  generalize e0 : decide (l = kw 0) = b0 at t0
  generalize e1 : decide (l = kw 1) = b1 at t1
  generalize e2 : decide (l = kw 2) = b2 at t2
  generalize e3 : decide (l = kw 3) = b3 at t3
  generalize e4 : decide (l = kw 4) = b4 at t4
  generalize e5 : decide (l = kw 5) = b5 at t5
  generalize e6 : decide (l = kw 6) = b6 at t6
  have E0 := Lib.hid e0
  have E1 := Lib.hid e1
  have E2 := Lib.hid e2
  have E3 := Lib.hid e3
  have E4 := Lib.hid e4
  have E5 := Lib.hid e5
  have E6 := Lib.hid e6
  clear e0 e1 e2 e3 e4 e5 e6
  have HA : Hid (b0 = false → b1 = false → b2 = false → b3 = false → b4 = false → b5 = false → b6 = false → r = -1 ∧ n = 0) := Lib.hid fun f0 f1 f2 f3 f4 f5 f6 => HN.out fun j hj => by
    have g0 := E0.out.trans f0
    have g1 := E1.out.trans f1
    have g2 := E2.out.trans f2
    have g3 := E3.out.trans f3
    have g4 := E4.out.trans f4
    have g5 := E5.out.trans f5
    have g6 := E6.out.trans f6
    simp only [decide_eq_false_iff_not] at g0 g1 g2 g3 g4 g5 g6
    match j, hj with
    | 0, _ => exact g0
    | 1, _ => exact g1
    | 2, _ => exact g2
    | 3, _ => exact g3
    | 4, _ => exact g4
    | 5, _ => exact g5
    | 6, _ => exact g6
    | j + 7, h => omega
  simp only [kw] at t0 t1 t2 t3 t4 t5 t6
  cases b0
  case true =>
    obtain ⟨rfl, rfl⟩ := HK.out 0 (by omega) (by simpa using E0.out)
    go_enter Tryd.func33, Tryd.ntmps33
    go_wp2
    go_ret2
    exact ⟨rfl, rfl⟩
  cases b1
  case true =>
    obtain ⟨rfl, rfl⟩ := HK.out 1 (by omega) (by simpa using E1.out)
    go_enter Tryd.func33, Tryd.ntmps33
    go_wp2
    go_ret2
    exact ⟨rfl, rfl⟩
  cases b2
  case true =>
    obtain ⟨rfl, rfl⟩ := HK.out 2 (by omega) (by simpa using E2.out)
    go_enter Tryd.func33, Tryd.ntmps33
    go_wp2
    go_ret2
    exact ⟨rfl, rfl⟩
  cases b3
  case true =>
    obtain ⟨rfl, rfl⟩ := HK.out 3 (by omega) (by simpa using E3.out)
    go_enter Tryd.func33, Tryd.ntmps33
    go_wp2
    go_ret2
    exact ⟨rfl, rfl⟩
  cases b4
  case true =>
    obtain ⟨rfl, rfl⟩ := HK.out 4 (by omega) (by simpa using E4.out)
    go_enter Tryd.func33, Tryd.ntmps33
    go_wp2
    go_ret2
    exact ⟨rfl, rfl⟩
  cases b5
  case true =>
    obtain ⟨rfl, rfl⟩ := HK.out 5 (by omega) (by simpa using E5.out)
    go_enter Tryd.func33, Tryd.ntmps33
    go_wp2
    go_ret2
    exact ⟨rfl, rfl⟩
  cases b6
  case true =>
    obtain ⟨rfl, rfl⟩ := HK.out 6 (by omega) (by simpa using E6.out)
    go_enter Tryd.func33, Tryd.ntmps33
    go_wp2
    go_ret2
    exact ⟨rfl, rfl⟩
  obtain ⟨rfl, rfl⟩ := HA.out rfl rfl rfl rfl rfl rfl rfl
  go_enter Tryd.func33, Tryd.ntmps33
  go_wp2
  go_ret2
  exact ⟨rfl, rfl⟩
theorem refRank_any (l : List UInt8) (w : World) :
    Calls Tryd.prog 33 #[.string (tb l)] w fun e w' => e = .returned (.tuple #[.int .i64 (rankZ l), .int .i64 (cntZ l)]) ∧ w = w' := refRank_at (tb l) _ _ w (by rw [tb_list]) (by rw [tb_list])

/-- words as numbers -/
def numsL : List (List UInt8) → Option (List Int)
  | [] => some []
  | t :: ts => match numL t with
    | none => none
    | some n => match numsL ts with
      | none => none
      | some l => some ((n : Int) :: l)
theorem numsL_step {ts : List (List UInt8)} {k : Nat} (hk : k < ts.length) : numsL (ts.drop k) = match numL (ts.getD k []) with
    | none => none
    | some n => match numsL (ts.drop (k + 1)) with
      | none => none
      | some l => some ((n : Int) :: l) := by
  rw [List.drop_eq_getElem_cons hk, numsL]
  simp only [List.getD, List.getElem?_eq_getElem hk, Option.getD_some]
theorem numL_lt {l : List UInt8} {n : Nat} (hn : numL l = some n) : n < 1000000000 := by
  unfold numL at hn
  split at hn
  · cases hn
  · rename_i hc
    injection hn with hn
    subst hn
    have hall : l.all isDig = true := by simpa using fun e => hc (.inr (.inr (.inr e)))
    have hl : l.length ≤ 9 := Nat.le_of_not_lt fun e => hc (.inr (.inl e))
    have h1 := valD_lt l hall
    have h2 := pow9 l.length hl
    omega
theorem info_int5 : (Tryd.prog.info? 3).map (fun i => (i.zero, i.size, i.bytes)) = some (some (.int .i64 0), 1, 8) := by kernel_rfl
set_option maxHeartbeats 1000000 in
theorem refNumbers_any (a : Option Addr) (n cap fr : Nat) (ts : List (List UInt8)) (hfr : fr ≤ n) (hn : n ≤ 1099511627776) (hts : ∀ k, (ts.getD k []).length ≤ 1099511627776) (B : Nat) (w : World) (hB : B ≤ w.heap.size) (hrow : RowS w w.heap.size a n ts) (o : Option (List Int)) (ho : numsL (ts.drop fr) = o) :
    Calls Tryd.prog 87 #[.slice a n cap, .int .i64 fr] w fun e w' => ∃ v, e = .returned (.tuple #[v, .bool o.isSome]) ∧ OwnI .i64 w' B 3 v (o.getD []).length (o.getD []) ∧ Below w.heap.size w w' := by
  obtain ⟨i0, hi, hz0, hz1, hz2⟩ := info_parts info_int5
  have HL := Lib.hid hrow.1
  have HT := Lib.hid hts
  have HO := Lib.hid ho
  have HR := Lib.hid hrow
  clear hrow ho hts
  go_enter Tryd.func87, Tryd.ntmps87
  go_wp2
  go_loopw [6, 7] (fun v i wr => ∃ (k : Nat) (us : List Int), fr ≤ k ∧ k ≤ n ∧ i = .int .i64 k ∧ us.length = k - fr ∧ numsL (ts.drop fr) = (numsL (ts.drop k)).map (us ++ ·) ∧ OwnI .i64 wr w.heap.size 3 v us.length us ∧ Below w.heap.size w wr) (fun _ i _ => n - (intOf i).toNat)
  case atStart => exact ⟨fr, [], Nat.le_refl _, hfr, rfl, by simp, by cases numsL (ts.drop fr) <;> rfl, OwnI.nil _ _ _ _, Below.refl _ _⟩
  case round =>
    obtain ⟨k, us, hk0, hk, rfl, hul, hnu, hown, hbel⟩ := hrel
    have hbs := hbel.size
    have HU := Lib.hid hnu
    clear hnu
    by_cases hlt : k < n
    · obtain ⟨x, rfl, hx, hc⟩ := (HR.out.below hbel).at k hlt
      have hstep := numsL_step (ts := ts) (k := k) (by have := HL.out; omega)
      have hxl := HT.out k
      generalize ts.getD k [] = t at hc hstep hxl
      have hy := refNumber_any (tb t) (by rw [tb_size]; exact hxl) wr
      rw [tb_list] at hy
      cases hq : numL t with
      | none =>
        rw [hq] at hstep
        rw [numV_none hq] at hy
        have HE : Hid (o = none) := Lib.hid (by rw [← HO.out, HU.out, hstep]; rfl)
        clear hstep hq
        generalize tb t = tx at hc hy
        go_wp2_with (go_at_call 11; refine hy.mono ?_; rintro e w1 ⟨rfl, rfl⟩)
        go_ret2
        rw [HE.out]
        exact ⟨_, rfl, OwnI.nil _ _ _ _, hbel⟩
      | some m =>
        rw [hq] at hstep
        rw [numV_some hq] at hy
        have hm := numL_lt hq
        have HE : Hid (numsL (ts.drop fr) = (numsL (ts.drop (k + 1))).map ((us ++ [(m : Int)]) ++ ·)) := Lib.hid (by
          rw [HU.out, hstep]
          cases numsL (ts.drop (k + 1)) <;> simp)
        clear hstep hq
        generalize tb t = tx at hc hy
        go_wp2_with (first | (go_at_call 11; refine hy.mono ?_; rintro e w1 ⟨rfl, rfl⟩) | (at_builtin; refine wpList_append_own _ rfl _ _ 134 rfl w.heap.size 3 i0 (.int .i64 0) 1 8 Tryd.underlying134 hi hz0 hz1 hz2 rfl (by decide) _ _ _ rfl (World.ownsRow.alloc hown _) ⟨wr.heap.size, 0, none⟩ 1 1 [.int .i64 m] rfl rfl ?c1 ?c2 ?c3 ?c4 ?c5 ?_))
        case c1 => exact cell_one_new _ _ _
        case c2 => intro u hu; simp at hu; subst hu; rfl
        case c3 => unfold maxLen; omega
        case c4 => omega
        case c5 => simp; omega
        · intro v' w2 hown' hgrow _
          have hb1 : Below w.heap.size w w2 := (hbel.alloc hbs _).grown hgrow (by simp; omega) (fun q hq => (World.ownsRow.lt hown q hq).1)
          have ho1 : OwnI .i64 w2 w.heap.size 3 v' (us ++ [(m : Int)]).length (us ++ [(m : Int)]) := by
            unfold OwnI
            rw [List.map_append, List.length_append]
            rw [hul]
            simpa using hown'
          clear hown' hgrow hown hbel hc
          go_wp2
          go_roundw
          case rel => exact ⟨k + 1, us ++ [(m : Int)], by omega, by omega, by go_num, by simp; omega, HE.out, ho1, hb1⟩
          case measure => simp [intOf]; omega
    · obtain rfl : k = n := by omega
      have HE : Hid (o = some us) := Lib.hid (by rw [← HO.out, HU.out, List.drop_of_length_le (by have := HL.out; omega)]; simp [numsL])
      obtain ⟨ga, gc, rfl, _, _, _⟩ := OwnI.row hown
      go_wp2
      go_ret2
      rw [HE.out]
      refine ⟨_, rfl, ?_, hbel⟩
      refine ⟨hown.1, ?_⟩
      rcases hown.2 with h0 | ⟨g, cap, cur, hv, hb, r⟩
      · exact .inl h0
      · exact .inr ⟨g, cap, cur, hv, Nat.le_trans hB hb, r⟩
theorem lab_split (x y z : List UInt8) : valsL [108, 110, 110] [x, y, z] = if (La.parseF x).2 = 0 then (numsL [y, z]).map ((La.parseF x).1 :: ·) else none := by
  have hn : ∀ w, valL 110 w = (numL w).map Int.ofNat := fun w => by
    unfold valL
    rw [if_neg (by decide), if_neg (by rintro ⟨h, _⟩; revert h; decide)]
  have hl : valL 108 x = if (La.parseF x).2 = 0 then some (La.parseF x).1 else none := by unfold valL; rw [if_pos rfl]
  simp only [valsL, hn, hl, numsL]
  by_cases h : (La.parseF x).2 = 0
  · rw [if_pos h, if_pos h]
    cases numL y <;> cases numL z <;> rfl
  · rw [if_neg h, if_neg h]
theorem below_dn {B : Nat} {w W : World} (h : Below B w W) (n : Nat) : Below B w (W.drewN n) := h.trans ⟨rfl, rfl, rfl, Nat.le_refl _, fun _ _ => rfl⟩
theorem add_pos (ad : Addr) (k : Nat) (hk : 0 < k) : ad.add k = ⟨ad.block, ad.off + k, none⟩ := by
  unfold Addr.add
  rw [if_neg (by omega)]
theorem results_tmp4 {fn : Func} {t u v x : Tmp} (h : fn.results = #[.tmp t, .tmp u, .tmp v, .tmp x]) (tmps : Array Value) (P : Program) (w : World) :
    (results fn tmps).run P w = .ok (.tuple #[tmps.getD t undef, tmps.getD u undef, tmps.getD v undef, tmps.getD x undef]) w := by
  simp [results, h]
set_option maxHeartbeats 1000000 in
theorem refLabelled_any (ad : Addr) (cap : Nat) (x y z h0 : List UInt8) (hx : x.length ≤ 1099511627776) (hts : ∀ k, ([h0, x, y, z].getD k []).length ≤ 1099511627776) (B : Nat) (w : World) (hB : B ≤ w.heap.size) (hrow : RowS w w.heap.size (some ad) 4 [h0, x, y, z]) :
    Calls Tryd.prog 68 #[.slice (some ad) 4 cap] w fun e w' => (match valsL [108, 110, 110] [x, y, z] with
      | some [l, p, q] => e = .returned (.tuple #[.int .i64 l, .int .i64 p, .int .i64 q, .bool true])
      | _ => e = .returned (.tuple #[.int .i64 0, .int .i64 0, .int .i64 0, .bool false])) ∧ Below w.heap.size w w' := by
  obtain ⟨a1, e1, ha1, hc1⟩ := hrow.at 1 (by omega)
  obtain rfl : ad = a1 := by injection e1
  have hp := La.refParse_any (tb x) (B := w.heap.size) (w0 := w) (w := w) (Nat.le_refl _) (Below.refl _ _)
  rw [tb_list] at hp
  have hcx : w.cell? ⟨ad.block, ad.off + 1, none⟩ = some (.string (tb x)) := by rw [← add_pos ad 1 (by omega)]; exact hc1
  rw [lab_split]
  have HN := fun (W : World) (hW : Below w.heap.size w W) => refNumbers_any (some ad) 4 cap 2 [h0, x, y, z] (by omega) (by omega) hts W.heap.size W (Nat.le_refl _) ((hrow.below hW).more hW.size) _ rfl
  have HN2 := Lib.hid HN
  clear HN e1 hc1 hrow hts
  have hd : List.drop 2 [h0, x, y, z] = [y, z] := rfl
  rw [hd] at HN2
  have hlen : ∀ l, numsL [y, z] = some l → l.length = 2 := fun l hl => by
    simp only [numsL] at hl
    cases hy : numL y with
    | none => rw [hy] at hl; cases hl
    | some m =>
      cases hz : numL z with
      | none => rw [hy, hz] at hl; cases hl
      | some m2 => rw [hy, hz] at hl; injection hl with hl; subst hl; rfl
  have hin : ∀ l, numsL [y, z] = some l → ∀ u ∈ l, -9223372036854775808 ≤ u ∧ u < 9223372036854775808 := fun l hl => by
    simp only [numsL] at hl
    cases hy : numL y with
    | none => rw [hy] at hl; cases hl
    | some m =>
      cases hz : numL z with
      | none => rw [hy, hz] at hl; cases hl
      | some m2 =>
        rw [hy, hz] at hl; injection hl with hl; subst hl
        have := numL_lt hy
        have := numL_lt hz
        intro u hu
        simp at hu
        rcases hu with rfl | rfl <;> omega
  generalize tb x = tx at hp hcx
  cases hpf : La.parseF x with
  | mk q1 q2 =>
  rw [hpf] at hp
  simp only at hp ⊢
  cases hq : numsL [y, z] with
  | none =>
    rw [hq] at HN2
    simp only [Option.map_none, ite_self] 
    have HQ : Hid (∀ c : Prop, (if q2 = 0 then (none : Option (List Int)) else none) = none) := Lib.hid fun _ => by split <;> rfl
    clear hlen hin hpf hq
    by_cases hq2 : q2 = 0
    · subst hq2
      go_enter Tryd.func68, Tryd.ntmps68
      go_wp2_with (first | (go_at_call 86; refine hp.mono ?_; rintro e w1 ⟨rfl, hb1⟩) | (go_at_call 87; refine (HN2.out _ hb1).mono ?_; rintro e w2 ⟨v, rfl, hown, hb2⟩; have hb3 := hb1.trans (hb2.mono hb1.size); obtain ⟨ga, gc, rfl, _, _, _⟩ := OwnI.row hown))
      (try simp only [Exit.inBlock, Exit.then])
      refine bodyPost_ret (results_tmp4 rfl _ _ _) rfl ?_
      exact ⟨rfl, hb3⟩
    · go_enter Tryd.func68, Tryd.ntmps68
      go_wp2_with (first | (go_at_call 86; refine hp.mono ?_; rintro e w1 ⟨rfl, hb1⟩) | (go_at_call 87; refine (HN2.out _ hb1).mono ?_; rintro e w2 ⟨v, rfl, hown, hb2⟩; have hb3 := hb1.trans (hb2.mono hb1.size); obtain ⟨ga, gc, rfl, _, _, _⟩ := OwnI.row hown))
      (try simp only [Exit.inBlock, Exit.then])
      refine bodyPost_ret (results_tmp4 rfl _ _ _) rfl ?_
      exact ⟨rfl, hb3⟩
  | some l =>
    rw [hq] at HN2
    have hl2 := hlen l hq
    have hli := hin l hq
    clear hlen hin hpf hq
    obtain ⟨p, q, rfl⟩ : ∃ p q, l = [p, q] := by
      match l, hl2 with
      | [p, q], _ => exact ⟨p, q, rfl⟩
      | [], h => cases h
      | [_], h => cases h
      | _ :: _ :: _ :: _, h => simp at h
    by_cases hq2 : q2 = 0
    · subst hq2
      rw [if_pos rfl]
      simp only [Option.map_some]
      have HN3 : Hid (∀ W, Below w.heap.size w W → Calls Tryd.prog 87 #[.slice (some ad) 4 cap, .int .i64 (2 : Nat)] W fun e w' => ∃ v, e = .returned (.tuple #[v, .bool true]) ∧ OwnI .i64 w' W.heap.size 3 v 2 [p, q] ∧ Below W.heap.size W w') := Lib.hid HN2.out
      clear HN2
      go_enter Tryd.func68, Tryd.ntmps68
      go_wp2_with (first | (go_at_call 86; refine hp.mono ?_; rintro e w1 ⟨rfl, hb1⟩) | (go_at_call 87; refine (HN3.out _ hb1).mono ?_; rintro e w2 ⟨v, rfl, hown, hb2⟩; have hb3 := hb1.trans (hb2.mono hb1.size); obtain ⟨g, gc, rfl, hgB, hgl, hgc, hgm⟩ := OwnI.form hown (by decide); have k0 := OwnI.cellAt hown 0 (by decide); have k1 := OwnI.cellAt hown 1 (by decide); clear hown))
      simp only [List.getD_cons_zero, List.getD_cons_succ] at k0 k1
      go_quiet (fail)
      go_wp2
      (try simp only [Exit.inBlock, Exit.then])
      refine bodyPost_ret (results_tmp4 rfl _ _ _) rfl ?_
      exact ⟨rfl, below_dn hb3 _⟩
    · rw [if_neg hq2]
      go_enter Tryd.func68, Tryd.ntmps68
      go_wp2_with (first | (go_at_call 86; refine hp.mono ?_; rintro e w1 ⟨rfl, hb1⟩) | (go_at_call 87; refine (HN2.out _ hb1).mono ?_; rintro e w2 ⟨v, rfl, hown, hb2⟩; have hb3 := hb1.trans (hb2.mono hb1.size); obtain ⟨ga, gc, rfl, _, _, _⟩ := OwnI.row hown))
      (try simp only [Exit.inBlock, Exit.then])
      refine bodyPost_ret (results_tmp4 rfl _ _ _) rfl ?_
      exact ⟨rfl, hb3⟩
end Go.Proofs.YtikkfapgmbamlaaDoor.Pl
end
section
/- plan: a configuration that grows in memory. -/
namespace Go.Proofs.YtikkfapgmbamlaaDoor.Pl
open Go.RowKit Ut
set_option linter.unusedVariables false

/-- every block of texts is as it was, and every configuration's but b -/
def KeptS (b : Nat) (w w' : World) : Prop := w.heap.size ≤ w'.heap.size ∧ ∀ (g : Nat) (cs : Array Value) (t : TypeId) (f : Nat × Nat), g ≠ b → (t = 9 ∨ t = 36 ∨ t = 74) → w.heap[g]? = some (Obj.cells cs t f) → w'.heap[g]? = some (Obj.cells cs t f)
theorem KeptS.refl (b : Nat) (w : World) : KeptS b w w := ⟨Nat.le_refl _, fun _ _ _ _ _ _ h => h⟩
theorem KeptS.trans {q : Nat} {a b c : World} (h : KeptS q a b) (k : KeptS q b c) : KeptS q a c := ⟨Nat.le_trans h.1 k.1, fun g cs t f hg ht e => k.2 g cs t f hg ht (h.2 g cs t f hg ht e)⟩
theorem KeptS.of_below {b : Nat} {w w' : World} (h : Below w.heap.size w w') : KeptS b w w' := ⟨h.size, fun g cs t f _ _ e => (h.block g (Array.getElem?_eq_some_iff.1 e).1).trans e⟩
theorem KeptS.of_kept {b : Nat} {e : TypeId} {w w' : World} (h : Kept e w w') (hne : 9 ≠ e ∧ 36 ≠ e ∧ 74 ≠ e) : KeptS b w w' := ⟨h.1, fun g cs t f _ ht hc => h.2 g cs _ f (ht.elim (fun q => q ▸ hne.1) (fun q => q.elim (fun q => q ▸ hne.2.1) (fun q => q ▸ hne.2.2))) hc⟩
theorem KeptS.setCell {w : World} {b o : Nat} {v : Value} : KeptS b w (w.setCell ⟨b, o, none⟩ v) :=
  ⟨by simp, fun g cs' t' f' hg _ hc => by rw [Below.heap_setCell _ _ _ _ hg]; exact hc⟩
theorem KeptS.ownS {b : Nat} {w w' : World} {B n : Nat} {v : Value} {ts : List (List UInt8)} (h : OwnS w B 9 v n ts) (hk : KeptS b w w') (hb : ∀ cs f, w.heap[b]? ≠ some (Obj.cells cs 9 f)) : OwnS w' B 9 v n ts := by
  refine ⟨h.1, ?_⟩
  rcases h.2 with h0 | ⟨g, cap, cur, rfl, hB, hg', r⟩
  · exact .inl h0
  · exact .inr ⟨g, cap, cur, rfl, hB, hk.2 _ _ _ _ (by rintro rfl; exact hb _ _ hg') (.inl rfl) hg', r⟩

/-- integers of the kind -/
def In64 (x : List Int) : Prop := ∀ z ∈ x, -9223372036854775808 ≤ z ∧ z < 9223372036854775808
/-- a configuration that grows in block b -/
structure BoxP (w : World) (B b : Nat) (p : PC) (vg vr vp vn vs : Value) : Prop where
  box : w.heap[b]? = some (.cells #[.int .i64 p.cats, vg, vr, vp, vn, vs, .int .i64 p.gate, .int .i64 p.quota] 36 (0, 0))
  hB : B ≤ b
  og : OwnT 3 w B 58 vg p.gs
  or : OwnT 3 w B 60 vr p.rs
  op : OwnT 2 w B 62 vp p.ps
  on : OwnT 2 w B 64 vn p.ns
  os : OwnT 2 w B 66 vs p.ss
theorem BoxP.below {w w' : World} {B b : Nat} {p : PC} {vg vr vp vn vs : Value} (h : BoxP w B b p vg vr vp vn vs) (hb : Below w.heap.size w w') : BoxP w' B b p vg vr vp vn vs :=
  ⟨(hb.block b (Array.getElem?_eq_some_iff.1 h.box).1).trans h.box, h.hB, h.og.below hb, h.or.below hb, h.op.below hb, h.on.below hb, h.os.below hb⟩

theorem box_set {w : World} {b : Nat} {cs : List Value} {t : TypeId} (h : w.heap[b]? = some (.cells cs.toArray t (0, 0))) (i : Nat) (u : Value) : (w.setCell ⟨b, i, none⟩ u).heap[b]? = some (.cells (cs.set i u).toArray t (0, 0)) := by
  have hlt := (Array.getElem?_eq_some_iff.1 h).1
  simp [World.setCell, Array.getElem?_modify, h]
theorem ownT_set {k : Nat} {w : World} {B b o : Nat} {e t : TypeId} {v u : Value} {xs : List (List Int)} {cs : Array Value} {f : Nat × Nat} (h : OwnT k w B e v xs) (hb : w.heap[b]? = some (Obj.cells cs t f)) (hne : e ≠ t) : OwnT k (w.setCell ⟨b, o, none⟩ u) B e v xs :=
  ⟨ownsRow_setCell_other h.1 (own_ne_box h.1 hb hne) u, h.2⟩
theorem BoxP.set1 {W w' : World} {B b : Nat} {p : PC} {vg vr vp vn vs vg' : Value} {y : List Int} (h : BoxP W B b p vg vr vp vn vs) (hK : Kept 58 W w') (hA : OwnT 3 w' B 58 vg' (p.gs ++ [y])) : BoxP (w'.setCell ⟨b, 1, none⟩ vg') B b (p.put 1 y) vg' vr vp vn vs := by
  have hb := hK.2 _ _ _ _ (by decide) h.box
  exact ⟨box_set hb 1 vg', h.hB, ownT_set hA hb (by decide), ownT_set (hK.ownT h.or (by decide)) hb (by decide), ownT_set (hK.ownT h.op (by decide)) hb (by decide), ownT_set (hK.ownT h.on (by decide)) hb (by decide), ownT_set (hK.ownT h.os (by decide)) hb (by decide)⟩
theorem BoxP.set2 {W w' : World} {B b : Nat} {p : PC} {vg vr vp vn vs vr' : Value} {y : List Int} (h : BoxP W B b p vg vr vp vn vs) (hK : Kept 60 W w') (hA : OwnT 3 w' B 60 vr' (p.rs ++ [y])) : BoxP (w'.setCell ⟨b, 2, none⟩ vr') B b (p.put 2 y) vg vr' vp vn vs := by
  have hb := hK.2 _ _ _ _ (by decide) h.box
  exact ⟨box_set hb 2 vr', h.hB, ownT_set (hK.ownT h.og (by decide)) hb (by decide), ownT_set hA hb (by decide), ownT_set (hK.ownT h.op (by decide)) hb (by decide), ownT_set (hK.ownT h.on (by decide)) hb (by decide), ownT_set (hK.ownT h.os (by decide)) hb (by decide)⟩
theorem BoxP.set3 {W w' : World} {B b : Nat} {p : PC} {vg vr vp vn vs vp' : Value} {y : List Int} (h : BoxP W B b p vg vr vp vn vs) (hK : Kept 62 W w') (hA : OwnT 2 w' B 62 vp' (p.ps ++ [y])) : BoxP (w'.setCell ⟨b, 3, none⟩ vp') B b (p.put 3 y) vg vr vp' vn vs := by
  have hb := hK.2 _ _ _ _ (by decide) h.box
  exact ⟨box_set hb 3 vp', h.hB, ownT_set (hK.ownT h.og (by decide)) hb (by decide), ownT_set (hK.ownT h.or (by decide)) hb (by decide), ownT_set hA hb (by decide), ownT_set (hK.ownT h.on (by decide)) hb (by decide), ownT_set (hK.ownT h.os (by decide)) hb (by decide)⟩
theorem BoxP.set4 {W w' : World} {B b : Nat} {p : PC} {vg vr vp vn vs vn' : Value} {y : List Int} (h : BoxP W B b p vg vr vp vn vs) (hK : Kept 64 W w') (hA : OwnT 2 w' B 64 vn' (p.ns ++ [y])) : BoxP (w'.setCell ⟨b, 4, none⟩ vn') B b (p.put 4 y) vg vr vp vn' vs := by
  have hb := hK.2 _ _ _ _ (by decide) h.box
  exact ⟨box_set hb 4 vn', h.hB, ownT_set (hK.ownT h.og (by decide)) hb (by decide), ownT_set (hK.ownT h.or (by decide)) hb (by decide), ownT_set (hK.ownT h.op (by decide)) hb (by decide), ownT_set hA hb (by decide), ownT_set (hK.ownT h.os (by decide)) hb (by decide)⟩
theorem BoxP.set5 {W w' : World} {B b : Nat} {p : PC} {vg vr vp vn vs vs' : Value} {y : List Int} (h : BoxP W B b p vg vr vp vn vs) (hK : Kept 66 W w') (hA : OwnT 2 w' B 66 vs' (p.ss ++ [y])) : BoxP (w'.setCell ⟨b, 5, none⟩ vs') B b (p.put 5 y) vg vr vp vn vs' := by
  have hb := hK.2 _ _ _ _ (by decide) h.box
  exact ⟨box_set hb 5 vs', h.hB, ownT_set (hK.ownT h.og (by decide)) hb (by decide), ownT_set (hK.ownT h.or (by decide)) hb (by decide), ownT_set (hK.ownT h.op (by decide)) hb (by decide), ownT_set (hK.ownT h.on (by decide)) hb (by decide), ownT_set hA hb (by decide)⟩
end Go.Proofs.YtikkfapgmbamlaaDoor.Pl
end
