/- Several texts in one: Pq Pr Pp Ps -/
import Derived.Test.YtikkfapgmbamlaaDoorZ18
import Derived.Deep.QuietTactic
import Derived.BigQuiet
section
/- The document's own table: Give. -/
namespace Go.Proofs.YtikkfapgmbamlaaDoor.Pt
open Go.RowKit Ut
set_option linter.unusedVariables false

def refBad (f n who : Int) (L : List Int) : Prop := f < 0 ∨ n < 1 ∨ (L.length : Int) < f ∨ (L.length : Int) - f < n ∨ who < 0 ∨ 64 ≤ who

theorem refGive_arg (br : Nat) (f n who : Int) (L : List Int) (w : World) (hR : RefAt w br L) (hl : L.length ≤ 1000) (hbad : refBad f n who L) :
    Calls Tryd.prog 73 #[.pointer (some ⟨br, 0, none⟩), .int .i64 f, .int .i64 n, .int .i64 who] w fun e W' => e = .returned (.int .i64 1) ∧ w = W' := by
  obtain ⟨a, cap, hc, _, hbr, hn, hcap, hrow, _, _⟩ := hR.form
  unfold refBad at hbad
  obtain ⟨m, hlm⟩ : ∃ m, m = L.length := ⟨_, rfl⟩
  rw [← hlm] at hc hn hbad hl
  clear hlm hrow hR
  by_cases h1 : f < 0
  · go_enter Tryd.func73, Tryd.ntmps73
    go_wp2
    go_ret
    exact ⟨rfl, rfl⟩
  · by_cases h2 : n < 1
    · go_enter Tryd.func73, Tryd.ntmps73
      go_wp2
      go_ret
      exact ⟨rfl, rfl⟩
    · by_cases h3 : (m : Int) < f
      · go_enter Tryd.func73, Tryd.ntmps73
        go_wp2
        go_ret
        exact ⟨rfl, rfl⟩
      · by_cases h4 : (m : Int) - f < n
        · go_enter Tryd.func73, Tryd.ntmps73
          go_wp2
          go_ret
          exact ⟨rfl, rfl⟩
        · by_cases h5 : who < 0
          · go_enter Tryd.func73, Tryd.ntmps73
            go_wp2
            go_ret
            exact ⟨rfl, rfl⟩
          · have h6 : 64 ≤ who := by omega
            go_enter Tryd.func73, Tryd.ntmps73
            go_wp2
            go_ret
            exact ⟨rfl, rfl⟩

set_option maxRecDepth 100000 in
theorem refGive_used (br F N : Nat) (who : Int) (L : List Int) (w : World) (hR : RefAt w br L) (hl : L.length ≤ 1000) (hN : 1 ≤ N) (hFN : F + N ≤ L.length) (hw0 : 0 ≤ who) (hw1 : who < 64) (hu : ∃ j, j < N ∧ 0 ≤ L.getD (F + j) 0) :
    Calls Tryd.prog 73 #[.pointer (some ⟨br, 0, none⟩), .int .i64 F, .int .i64 N, .int .i64 who] w fun e W' => e = .returned (.int .i64 5) ∧ w = W' := by
  obtain ⟨a, cap, hc, _, hbr, hn, hcap, hrow, _, _⟩ := hR.form
  obtain ⟨m, hlm⟩ : ∃ m, m = L.length := ⟨_, rfl⟩
  rw [← hlm] at hc hn hFN hl hrow
  have HRo := Lib.hid hrow
  have HU := Lib.hid hu
  clear hlm hrow hR hu
  have h1 : ¬ (F : Int) < 0 := by omega
  have h2 : ¬ (N : Int) < 1 := by omega
  have h3 : ¬ (m : Int) < (F : Int) := by omega
  have h4 : ¬ (m : Int) - (F : Int) < (N : Int) := by omega
  go_enter Tryd.func73, Tryd.ntmps73
  go_wp2
  go_loop [9] (fun i => ∃ k : Nat, k ≤ N ∧ i = .int .i64 k ∧ Hid (∀ j, j < k → L.getD (F + j) 0 < 0)) (fun i => N - (intOf i).toNat)
  case atStart => exact ⟨0, Nat.zero_le _, rfl, fun j hj => absurd hj (by omega)⟩
  case round =>
    obtain ⟨k, hk, rfl, hall⟩ := hrel
    by_cases hlt : k < N
    · obtain ⟨x, rfl, _, hx⟩ := HRo.out.2 (F + k) (by omega)
      have b0 : (0 : Int) ≤ (F : Int) + (k : Int) := by omega
      have b1 : (F : Int) + (k : Int) < (m : Int) := by omega
      have b2 : (k : Int) < (N : Int) := by omega
      obtain ⟨u, hu⟩ : ∃ u, u = L.getD (F + k) 0 := ⟨_, rfl⟩
      rw [← hu] at hx
      have HU2 := Lib.hid hu
      clear hu
      by_cases h5 : 0 ≤ u
      · go_wp2
        go_ret
        exact ⟨rfl, rfl⟩
      · go_wp2
        go_round
        case rel =>
          refine ⟨k + 1, by omega, by go_num, fun j hj => ?_⟩
          by_cases e : j = k
          · subst e; rw [← HU2.out]; omega
          · exact hall.out j (by omega)
        case measure => simp [intOf]; omega
    · exfalso
      obtain ⟨j, hj, hj2⟩ := HU.out
      have := hall.out j (by omega)
      omega

/-- L with n places from F on made who's -/
def setR (L : List Int) (F k : Nat) (who : Int) : List Int := L.take F ++ List.replicate k who ++ L.drop (F + k)
theorem setR_length (L : List Int) (F k : Nat) (who : Int) (h : F + k ≤ L.length) : (setR L F k who).length = L.length := by simp [setR]; omega
theorem setR_succ (L : List Int) (F k : Nat) (who : Int) (h : F + k < L.length) : (setR L F k who).set (F + k) who = setR L F (k + 1) who := by
  unfold setR
  have hl : (L.take F ++ List.replicate k who).length = F + k := by simp; omega
  rw [List.set_append_right _ _ (by omega), hl, Nat.sub_self, List.drop_eq_getElem_cons h, List.set_cons_zero, List.replicate_succ', List.append_assoc, List.append_assoc, List.append_assoc]
  rfl

set_option maxRecDepth 100000 in
set_option maxHeartbeats 2000000 in
theorem refGive_ok (br F N : Nat) (who : Int) (L : List Int) (w : World) (hR : RefAt w br L) (hl : L.length ≤ 1000) (hN : 1 ≤ N) (hFN : F + N ≤ L.length) (hw0 : 0 ≤ who) (hw1 : who < 64) (hu : ∀ j, j < N → L.getD (F + j) 0 < 0) :
    Calls Tryd.prog 73 #[.pointer (some ⟨br, 0, none⟩), .int .i64 F, .int .i64 N, .int .i64 who] w fun e W' => e = .returned (.int .i64 0) ∧ RefAt W' br (setR L F N who) ∧ w.grownBy W' (some br) := by
  obtain ⟨a, cap, hc, hfr, hbr, hn, hcap, hrow, hheap, _⟩ := hR.form
  obtain ⟨m, hlm⟩ : ∃ m, m = L.length := ⟨_, rfl⟩
  rw [← hlm] at hc hn hFN hl hrow hheap
  have HRo := Lib.hid hrow
  have HU := Lib.hid hu
  have HH := Lib.hid hheap
  have HL := Lib.hid hlm
  clear hlm hrow hR hu hheap
  have h1 : ¬ (F : Int) < 0 := by omega
  have h2 : ¬ (N : Int) < 1 := by omega
  have h3 : ¬ (m : Int) < (F : Int) := by omega
  have h4 : ¬ (m : Int) - (F : Int) < (N : Int) := by omega
  go_enter Tryd.func73, Tryd.ntmps73
  go_wp2
  go_loop [9] (fun i => ∃ k : Nat, k ≤ N ∧ i = .int .i64 k) (fun i => N - (intOf i).toNat)
  case atStart => exact ⟨0, Nat.zero_le _, rfl⟩
  case round =>
    obtain ⟨k, hk, rfl⟩ := hrel
    by_cases hlt : k < N
    · obtain ⟨x, rfl, _, hx⟩ := HRo.out.2 (F + k) (by omega)
      have b0 : (0 : Int) ≤ (F : Int) + (k : Int) := by omega
      have b1 : (F : Int) + (k : Int) < (m : Int) := by omega
      have b2 : (k : Int) < (N : Int) := by omega
      have h5 := HU.out k hlt
      obtain ⟨u, hu⟩ : ∃ u, u = L.getD (F + k) 0 := ⟨_, rfl⟩
      rw [← hu] at hx h5
      clear hu
      have h6 : ¬ 0 ≤ u := by omega
      go_wp2
      go_round
      case rel => exact ⟨k + 1, by omega, by go_num⟩
      case measure => simp [intOf]; omega
    · have hkN : k = N := by omega
      subst hkN
      have b2 : ¬ (k : Int) < (k : Int) := by omega
      have hmade := OwnI.made .i64 w w.heap.size 3 (Nat.le_refl _)
      have HMd := Lib.hid hmade
      have hrow2 := HRo.out.below ((Below.refl w.heap.size w).alloc (Nat.le_refl _) (.cells #[] 3))
      have HR2 := Lib.hid hrow2
      clear hmade hrow2
      go_wp2_with (at_builtin; refine wpList_append_ints rfl _ _ _ rfl .i64 w.heap.size 3 8 Tryd.underlying134 A.info3 _ 0 [] rfl HMd.out _ a m cap L rfl HR2.out (by unfold maxLen; omega) (by omega) (by simp) ?_; intro v1 w1 ho1 hb1 _; obtain ⟨g1, c1, rfl, hg1, hg2, hg3, hg4⟩ := OwnI.form ho1.out (by omega))
      have hba : Below w.heap.size w w1 := ((Below.refl w.heap.size w).alloc (Nat.le_refl _) (.cells #[] 3)).trans hb1
      have hoS : OwnI .i64 w1 w.heap.size 3 (.slice (some ⟨g1, 0, none⟩) (0 + m) c1) m (setR L F 0 who) := by
        have h := ho1.out
        rw [List.nil_append] at h
        have e : setR L F 0 who = L := by unfold setR; simp
        rw [e]
        simpa using h
      rw [Nat.zero_add] at hoS hg3
      have HS0 := Lib.hid hoS
      unfold maxLen at hg4
      clear hoS ho1
      go_loopw [11] (fun i wr => ∃ q : Nat, q ≤ k ∧ i = .int .i64 q ∧ OwnI .i64 wr w.heap.size 3 (.slice (some ⟨g1, 0, none⟩) m c1) m (setR L F q who) ∧ Below w.heap.size w wr) (fun i _ => k - (intOf i).toNat)
      case atStart => exact ⟨0, Nat.zero_le _, rfl, HS0.out, hba⟩
      case round =>
        obtain ⟨q, hq, rfl, ho, hb⟩ := hrel
        have HO := Lib.hid ho
        clear ho
        by_cases hlt2 : q < k
        · have cc := HO.out.cellAt (F + q) (by omega)
          have ff := HO.out.frozenAt (F + q)
          have hst := HO.out.store (F + q) who
          have hsu := setR_succ L F q who (by have := HL.out; omega)
          rw [hsu] at hst
          have HSt := Lib.hid hst
          have b3 : (0 : Int) ≤ (F : Int) + (q : Int) := by omega
          have b4 : (F : Int) + (q : Int) < (m : Int) := by omega
          have b5 : (q : Int) < (k : Int) := by omega
          clear hst hsu
          go_wp2
          go_roundw
          case rel => exact ⟨q + 1, by omega, by go_num, HSt.out, hb.setCell (p := ⟨g1, F + q, none⟩) hg1 _⟩
          case measure => simp [intOf]; omega
        · have hqk : q = k := by omega
          subst hqk
          have b5 : ¬ (q : Int) < (q : Int) := by omega
          have hH2 := (hb.block br hbr).trans HH.out
          have d1 : wr.cell? ⟨br, 0, none⟩ = some (.slice a m cap) := by simp [World.cell?, hH2]
          have d2 : wr.frozen? ⟨br, 0, none⟩ = false := by simp [World.frozen?, hH2]
          have HH2 := Lib.hid hH2
          clear hH2 hc hfr
          go_wp2
          go_ret
          refine ⟨rfl, ⟨_, heap_set HH2.out 0 _, ?_⟩, grownBy_trans (grownBy_of_below _ hb) (grownBy_setCell' _ _ _)⟩
          have hne : some br ≠ (Value.slice (some ⟨g1, 0, none⟩) m c1).ownBlock := by
            simp only [Value.ownBlock, ne_eq, Option.some.injEq]
            omega
          have ho2 := World.ownsRow.kept HO.out (grownBy_setCell' wr br (.slice (some ⟨g1, 0, none⟩) m c1)) (.inr hne.symm)
          rw [setR_length _ _ _ _ (by have := HL.out; omega), ← HL.out]
          exact ownsRow_less ho2 (Nat.zero_le _)
end Go.Proofs.YtikkfapgmbamlaaDoor.Pt
end
section
/- A table in memory, by whose each place is: what each call does. -/
namespace Go.Proofs.YtikkfapgmbamlaaDoor.Pt
open Go.RowKit Ut
set_option linter.unusedVariables false

/-- whose the places are can be so -/
def Okay (L : List Int) : Prop := L.length ≤ 64 ∧ ∀ o ∈ L, -1 ≤ o ∧ o < 64
/-- block bt is a table in which the places are L's -/
def Tab (W : World) (bt : Nat) (L : List Int) : Prop := ∃ xs : List BR, Mach W bt (vals xs) ∧ Nm (vals xs) L

theorem fw_fine : ∀ {rs : List R3} {k : Nat} {prev : Option Int} {L : List Int}, Fw k prev rs L → k + L.length ≤ 64 → (∀ o ∈ L, -1 ≤ o ∧ o < 64) → ∃ xs : List BR, vals xs = rs ∧ xs.length ≤ L.length
  | [], k, _, L, h, _, _ => ⟨[], rfl, Nat.zero_le _⟩
  | r :: rs, k, prev, L, ⟨h1, h2, _, L', hL, h4⟩, h64, hb => by
    subst hL
    have hlen : (List.replicate r.n.toNat r.w ++ L').length = r.n.toNat + L'.length := by simp
    rw [hlen] at h64
    obtain ⟨xs, hx, hxl⟩ := fw_fine h4 (by omega) (fun o ho => hb o (by simp [ho]))
    have hw := hb r.w (List.mem_append_left _ (List.mem_replicate.2 ⟨by omega, rfl⟩))
    obtain ⟨x, hx1⟩ : ∃ x : BR, x.1 = r := ⟨⟨r, by unfold Fine; omega⟩, rfl⟩
    refine ⟨x :: xs, ?_, ?_⟩
    · show x.1 :: vals xs = _
      rw [hx1, hx]
    · rw [hlen]
      show xs.length + 1 ≤ _
      omega
theorem fw_length : ∀ {xs : List BR} {k : Nat} {prev : Option Int} {L : List Int}, Fw k prev (vals xs) L → xs.length ≤ L.length
  | [], _, _, _, _ => Nat.zero_le _
  | x :: xs, k, prev, L, h => by
    obtain ⟨h1, h2, _, L', hL, h4⟩ := fw_cons h
    subst hL
    have := fw_length (xs := xs) h4
    simp; omega

theorem Tab.below {W W' : World} {bt : Nat} {L : List Int} (h : Tab W bt L) (hb : Below W.heap.size W W') : Tab W' bt L := by
  obtain ⟨xs, h1, h2⟩ := h
  exact ⟨xs, h1.below hb, h2⟩
theorem Tab.kept {W W' : World} {bt : Nat} {L : List Int} {row : Option Nat} (h : Tab W bt L) (hg : W.grownBy W' row) (hr : ∀ q, row = some q → ∃ c t f, W.heap[q]? = some (.cells c t f) ∧ t ≠ 128 ∧ t ≠ 126) : Tab W' bt L := by
  obtain ⟨xs, h1, h2⟩ := h
  exact ⟨xs, h1.kept hg hr, h2⟩
theorem Tab.block {W : World} {bt : Nat} {L : List Int} (h : Tab W bt L) : ∃ c, W.heap[bt]? = some (.cells c 128 (0, 0)) := by
  obtain ⟨xs, ⟨v, h1, _⟩, _⟩ := h
  exact ⟨_, h1⟩
theorem RefAt.block {W : World} {br : Nat} {L : List Int} (h : RefAt W br L) : ∃ c, W.heap[br]? = some (.cells c 138 (0, 0)) := by
  obtain ⟨v, h1, _⟩ := h
  exact ⟨_, h1⟩

theorem tab_len {bt : Nat} {L : List Int} {w : World} (h : Tab w bt L) (hL : Okay L) :
    Calls Tryd.prog 92 #[.pointer (some ⟨bt, 0, none⟩)] w fun e W' => e = .returned (.int .i64 L.length) ∧ Below w.heap.size w W' := by
  obtain ⟨xs, h1, h2⟩ := h
  have := len_any _ xs w h1.tbl (Nat.le_trans (fw_length h2) hL.1)
  rwa [sumN_fw h2] at this

theorem count_neg {L : List Int} (h : ∀ o ∈ L, -1 ≤ o ∧ o < 64) : (L.count (-1) : Int) = cntNeg L := by
  unfold cntNeg
  rw [List.count_eq_countP, List.countP_eq_length_filter]
  congr 2
  apply List.filter_congr
  intro o ho
  have := h o ho
  rw [Bool.eq_iff_iff]
  simp
  omega

theorem who_fw {xs : List BR} {L : List Int} (h : Nm (vals xs) L) (hL : Okay L) (i : Int) : whoB i xs = whoRB i L ∧ whoW i xs = whoRW i L := by
  have key : whoB i xs = whoRB i L ∧ (whoB i xs = true → (seekR i xs).w = L.getD i.toNat 0) := by
    obtain ⟨hno, hyes⟩ := seek_fw h i
    by_cases hin : 0 ≤ i ∧ i < L.length
    · obtain ⟨hx, a, m, e1, e2, e3, e4, e5, e6, e7, e8⟩ := hyes i.toNat (by omega) (by omega)
      have hw : hx.1.w = L.getD i.toNat 0 := (e7 i.toNat e4 e5).symm
      have hs : seekR i xs = hx.1 := by unfold seekR; rw [e1]
      have hmem : L.getD i.toNat 0 ∈ L := by
        have hlt : i.toNat < L.length := by omega
        rw [List.getD_eq_getElem?_getD, List.getElem?_eq_getElem hlt]
        exact List.getElem_mem hlt
      have hb := hL.2 _ hmem
      refine ⟨?_, fun _ => by rw [hs, hw]⟩
      unfold whoB whoRB
      rw [e1, hs, hw, decide_eq_true hin.1, decide_eq_true hin.2]
      simp only [Option.isSome_some, Bool.true_and, Bool.and_self]
      rw [Bool.eq_iff_iff]
      simp only [Bool.not_eq_true', beq_eq_false_iff_ne, ne_eq, decide_eq_true_eq]
      omega
    · have := hno (by omega)
      have hb : whoB i xs = false := by unfold whoB; rw [this]; rfl
      refine ⟨?_, fun h => by rw [hb] at h; cases h⟩
      rw [hb]
      unfold whoRB
      by_cases c : 0 ≤ i
      · rw [decide_eq_false (show ¬ i < (L.length : Int) by omega)]; simp
      · rw [decide_eq_false c]; simp
  refine ⟨key.1, ?_⟩
  unfold whoW whoRW
  rw [← key.1]
  cases hb : whoB i xs with
  | false => rfl
  | true => simpa using key.2 hb

theorem placesFrom_none (who : Int) : ∀ (A : List Int) (k : Nat), (∀ o ∈ A, o ≠ who) → placesFrom who k A = []
  | [], _, _ => rfl
  | o :: A, k, h => by
    rw [placesFrom, if_neg (h o (by simp)), placesFrom_none who A (k + 1) (fun o ho => h o (by simp [ho]))]
    rfl

theorem bad_iff {xs : List BR} {L : List Int} (h : Nm (vals xs) L) (f n who : Int) : badArg f n who xs ↔ refBad f n who L := by
  unfold badArg refBad
  rw [sumN_fw h]
  have hi : isOwn who = false ↔ who < 0 ∨ 64 ≤ who := by
    unfold isOwn
    simp only [Bool.and_eq_false_iff, decide_eq_false_iff_not]
    omega
  rw [hi]
  omega

theorem tab_give_bad {bt : Nat} {L : List Int} {w : World} (h : Tab w bt L) (hL : Okay L) (f n who : Int) (hn : -9223372036854775808 ≤ n ∧ n < 9223372036854775808) (hbad : refBad f n who L) :
    Calls Tryd.prog 80 #[.pointer (some ⟨bt, 0, none⟩), .int .i64 f, .int .i64 n, .int .i64 who] w fun e W' => e = .returned (.int .i64 1) ∧ Below w.heap.size w W' := by
  obtain ⟨xs, h1, h2⟩ := h
  exact give_arg bt f n who xs w h1 (Nat.le_trans (fw_length h2) hL.1) hn ((bad_iff h2 f n who).2 hbad)

/-- the hole is wide enough just where all its places are nobody's -/
theorem hole_iff {xs : List BR} {L : List Int} (h : Nm (vals xs) L) (hL : Okay L) (F N : Nat) (hN : 1 ≤ N) (hFN : F + N ≤ L.length) :
    ((seekR F xs).w = -1 ∧ (F : Int) + N ≤ (seekR F xs).f + (seekR F xs).n) ↔ ∀ j, j < N → L.getD (F + j) 0 < 0 := by
  obtain ⟨hx, a, m, e1, e2, e3, e4, e5, e6, e7, e8⟩ := (seek_fw h F).2 F (by omega) (by omega)
  have hs : seekR F xs = hx.1 := by unfold seekR; rw [e1]
  rw [hs]
  have hmem : ∀ q, q < L.length → -1 ≤ L.getD q 0 := fun q hq => by
    have : L.getD q 0 ∈ L := by
      rw [List.getD_eq_getElem?_getD, List.getElem?_eq_getElem hq]
      exact List.getElem_mem hq
    exact (hL.2 _ this).1
  constructor
  · rintro ⟨hw, hend⟩ j hj
    rw [e7 (F + j) (by omega) (by omega), hw]
    omega
  · intro hall
    have h0 := hall 0 (by omega)
    have hF := hmem F (by omega)
    rw [Nat.add_zero] at h0
    have hw : hx.1.w = -1 := by
      have := e7 F e4 e5
      omega
    refine ⟨hw, ?_⟩
    rcases Nat.lt_or_ge (a + m) (F + N) with hlt | hge
    · exfalso
      have h1 := e8 (by omega)
      have h2 := hall (a + m - F) (by omega)
      rw [show F + (a + m - F) = a + m by omega] at h2
      have h3 := hmem (a + m) (by omega)
      apply h1
      omega
    · omega

theorem tab_give_used {bt : Nat} {L : List Int} {w : World} (h : Tab w bt L) (hL : Okay L) (F N : Nat) (who : Int) (hN : 1 ≤ N) (hFN : F + N ≤ L.length) (hw0 : 0 ≤ who) (hw1 : who < 64) (hu : ∃ j, j < N ∧ 0 ≤ L.getD (F + j) 0) :
    Calls Tryd.prog 80 #[.pointer (some ⟨bt, 0, none⟩), .int .i64 F, .int .i64 N, .int .i64 who] w fun e W' => e = .returned (.int .i64 5) ∧ Below w.heap.size w W' := by
  obtain ⟨xs, h1, h2⟩ := h
  refine give_pre bt F N who xs w h1 (Nat.le_trans (fw_length h2) hL.1) (by rw [sumN_fw h2]; have := hL.1; omega) (fun hb => ?_) ?_
  · have := (bad_iff h2 _ _ _).1 hb
    unfold refBad at this
    omega
  · have hi := hole_iff h2 hL F N hN hFN
    by_cases c : (seekR F xs).w = -1
    · refine .inr ?_
      rcases Int.lt_or_le ((seekR F xs).f + (seekR F xs).n) ((F : Int) + N) with hlt | hge
      · exact hlt
      · exfalso
        obtain ⟨j, hj, hj2⟩ := hu
        have := hi.1 ⟨c, hge⟩ j hj
        omega
    · exact .inl c

theorem overK_set (L : List Int) (F N : Nat) (who : Int) (h : F + N ≤ L.length) : overK ⟨F, N, who⟩ 0 L = setR L F N who := by
  have e : L = L.take F ++ ((L.drop F).take N ++ L.drop (F + N)) := by
    rw [← List.drop_drop, List.take_append_drop, List.take_append_drop]
  have l1 : (L.take F).length = F := by simp; omega
  have l2 : ((L.drop F).take N).length = N := by simp; omega
  conv => lhs; rw [e]
  rw [overK_append, overK_append, overK_out _ (L.take F) 0 (by simp only; omega), overK_in _ ((L.drop F).take N) _ (by simp only; omega) (by simp only; omega), overK_out _ (L.drop (F + N)) _ (by simp only; omega), l2]
  unfold setR
  rw [List.append_assoc]

theorem setR_okay {L : List Int} (hL : Okay L) (F N : Nat) (who : Int) (h : F + N ≤ L.length) (hw0 : 0 ≤ who) (hw1 : who < 64) : Okay (setR L F N who) := by
  refine ⟨by rw [setR_length _ _ _ _ h]; exact hL.1, fun o ho => ?_⟩
  unfold setR at ho
  rcases List.mem_append.1 ho with ho | ho
  · rcases List.mem_append.1 ho with ho | ho
    · exact hL.2 o (List.mem_of_mem_take ho)
    · have := (List.mem_replicate.1 ho).2; omega
  · exact hL.2 o (List.mem_of_mem_drop ho)

theorem tab_give_ok {bt : Nat} {L : List Int} {w : World} (h : Tab w bt L) (hL : Okay L) (F N : Nat) (who : Int) (hN : 1 ≤ N) (hFN : F + N ≤ L.length) (hw0 : 0 ≤ who) (hw1 : who < 64) (hu : ∀ j, j < N → L.getD (F + j) 0 < 0) :
    Calls Tryd.prog 80 #[.pointer (some ⟨bt, 0, none⟩), .int .i64 F, .int .i64 N, .int .i64 who] w fun e W' => e = .returned (.int .i64 0) ∧ Tab W' bt (setR L F N who) ∧ w.grownBy W' (some bt) := by
  obtain ⟨xs, h1, h2⟩ := h
  have hgood : ¬ badArg (F : Int) (N : Int) who xs := fun hb => by
    have := (bad_iff h2 _ _ _).1 hb
    unfold refBad at this
    omega
  have hsum : sumN xs ≤ 64 := by rw [sumN_fw h2]; have := hL.1; omega
  have hfree := (hole_iff h2 hL F N hN hFN).2 hu
  refine (give_ok bt F N who xs w h1 (Nat.le_trans (fw_length h2) hL.1) hsum hgood hfree).mono ?_
  rintro e W' ⟨he, hM, hg⟩
  refine ⟨he, ?_, hg⟩
  have hmem : ∀ q, q < L.length → -1 ≤ L.getD q 0 := fun q hq => by
    have : L.getD q 0 ∈ L := by
      rw [List.getD_eq_getElem?_getD, List.getElem?_eq_getElem hq]
      exact List.getElem_mem hq
    exact (hL.2 _ this).1
  have hnm : Nm (withL ⟨⟨F, N, who⟩, fine_arg hgood hsum⟩ xs) (setR L F N who) := by
    have := with_fw ⟨⟨F, N, who⟩, fine_arg hgood hsum⟩ h2 (rs := []) (L0 := []) rfl rfl (by have := hL.1; omega) (by simp only; omega) (fun p hp c1 c2 => by
      simp only at c1 c2
      have h3 := hu (p - F) (by omega)
      rw [show F + (p - F) = p by omega] at h3
      have := hmem p hp
      omega) (by simp only; omega) (by simp only; omega)
    rw [List.nil_append, overK_set L F N who hFN] at this
    exact this
  obtain ⟨ys, hy, _⟩ := fw_fine hnm (by rw [setR_length _ _ _ _ hFN]; have := hL.1; omega) (setR_okay hL F N who hFN hw0 hw1).2
  exact ⟨ys, by rw [hy]; exact hM, by rw [hy]; exact hnm⟩

theorem rep_okay (n : Nat) (h : n ≤ 64) : Okay (List.replicate n (-1)) := ⟨by simpa using h, fun o ho => by have := (List.mem_replicate.1 ho).2; omega⟩
theorem tab_new (n : Nat) (w : World) (h : n ≤ 64) :
    Calls Tryd.prog 44 #[.int .i64 n] w fun e W' => ∃ bt, e = .returned (.tuple #[.pointer (some ⟨bt, 0, none⟩), .int .i64 0]) ∧ Tab W' bt (List.replicate n (-1)) ∧ w.heap.size ≤ bt ∧ Below w.heap.size w W' := by
  refine (new_yes n w (by omega) (by omega)).mono ?_
  rintro e W' ⟨bt, he, hM, hb, hbl⟩
  have hnm : Nm (newL n) (List.replicate n (-1)) := by
    have := putL_nm (rs := []) (L := []) (r := ⟨0, n, -1⟩) rfl rfl (by simp only; omega) (by simp only; omega) (by simp)
    simpa [newL] using this
  obtain ⟨ys, hy, _⟩ := fw_fine hnm (by have := (rep_okay n h).1; omega) (rep_okay n h).2
  exact ⟨bt, he, ⟨ys, by rw [hy]; exact hM, by rw [hy]; exact hnm⟩, hb, hbl⟩
end Go.Proofs.YtikkfapgmbamlaaDoor.Pt
end
section
/- The document's own table: Runs. -/
namespace Go.Proofs.YtikkfapgmbamlaaDoor.Pt
open Go.RowKit Ut
set_option linter.unusedVariables false

theorem nm_nil {rs : List R3} (h : Nm rs []) : rs = [] := by
  cases rs with
  | nil => rfl
  | cons r rs =>
    obtain ⟨_, h2, _, L', hL, _⟩ := h
    have := congrArg List.length hL
    simp at this; omega
/-- the last run is the last place's -/
theorem nm_last {rs : List R3} {L : List Int} (h : Nm rs L) (hL : L ≠ []) : rs ≠ [] ∧ (rs.getD (rs.length - 1) default).w = L.getD (L.length - 1) 0 ∧ 1 ≤ (rs.getD (rs.length - 1) default).n ∧ (rs.getD (rs.length - 1) default).n ≤ L.length := by
  have hne : rs ≠ [] := fun e => hL (by subst e; exact h)
  refine ⟨hne, ?_⟩
  obtain ⟨l, rs0, rfl⟩ : ∃ l rs0, rs = rs0 ++ [l] := ⟨rs.getLast hne, rs.dropLast, (List.dropLast_concat_getLast hne).symm⟩
  have hg : (rs0 ++ [l]).getD ((rs0 ++ [l]).length - 1) default = l := by simp [List.getD]
  rw [hg]
  obtain ⟨L0, e, _, _, hn, _⟩ := Fw.unsnoc h
  have hlen : L.length = L0.length + l.n.toNat := by rw [e]; simp
  refine ⟨?_, hn, by omega⟩
  rw [e]
  simp only [List.getD_eq_getElem?_getD, List.getElem?_append, List.length_append, List.length_replicate, List.getElem?_replicate]
  rw [if_neg (by omega), if_pos (by omega)]
  rfl

/-- what Runs answers -/
def RunsPost (w : World) (L : List Int) (e : Ending) (W' : World) : Prop := ∃ v rs, e = .returned v ∧ Nm rs L ∧ OwnS W' w.heap.size v rs ∧ Below w.heap.size w W'

theorem RefAt.head {W : World} {br : Nat} {L : List Int} (h : RefAt W br L) {a : Option Addr} {n cap : Nat} (hc : W.cell? ⟨br, 0, none⟩ = some (.slice a n cap)) {x : Addr} (hx : a = some x) : ∃ g, x = ⟨g, 0, none⟩ := by
  obtain ⟨v, h1, h2⟩ := h
  have : W.cell? ⟨br, 0, none⟩ = some v := by simp [World.cell?, h1]
  rw [this] at hc
  injection hc with hc
  subst hc
  rcases h2.2 with ⟨e, _⟩ | ⟨g, _, _, e, _⟩
  · injection e with e1; rw [e1] at hx; cases hx
  · injection e with e1; rw [e1] at hx; injection hx with hx; exact ⟨g, hx.symm⟩

end Go.Proofs.YtikkfapgmbamlaaDoor.Pt
end
section
/- hermitagelaw03's ints, runs and awake. -/
namespace Go.Proofs.YtikkfapgmbamlaaDoor.Pt
open Go.RowKit Ut
set_option linter.unusedVariables false

def aw5 : List Int := [-1, 7, 7, -1, -1]
theorem aw5_runs : Nm [⟨0, 1, -1⟩, ⟨1, 2, 7⟩, ⟨3, 2, -1⟩] aw5 := by
  refine ⟨rfl, by decide, by simp, [7, 7, -1, -1], rfl, rfl, by decide, by simp, [-1, -1], rfl, rfl, by decide, by simp, [], rfl, rfl⟩
theorem aw5_okay : Okay aw5 := ⟨by decide, by decide⟩

end Go.Proofs.YtikkfapgmbamlaaDoor.Pt
end
