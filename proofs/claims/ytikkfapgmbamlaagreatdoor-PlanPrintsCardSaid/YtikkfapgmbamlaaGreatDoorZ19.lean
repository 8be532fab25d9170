/- Several texts in one: Pr Pp Ps Pu Ca Cb -/
import Derived.Test.YtikkfapgmbamlaaGreatDoorZ18
import Derived.Test.YtikkfapgmbamlaaGreatDoorZ17
import Derived.Deep.QuietTactic
import Derived.BigQuiet
import Derived.Test.YtikkfapgmbamlaaGreatDoorZ14
section
/- A table in memory, by whose each place is: what each call does. -/
namespace Go.Proofs.YtikkfapgmbamlaaGreatDoor.Pt
open Go.RowKit Ut
set_option linter.unusedVariables false

/-- whose the places are can be so -/
def Okay (L : List Int) : Prop := L.length ≤ 64 ∧ ∀ o ∈ L, -1 ≤ o ∧ o < 64
/-- block bt is a table in which the places are L's -/
def Tab (W : World) (bt : Nat) (L : List Int) : Prop := ∃ xs : List BR, Mach W bt (vals xs) ∧ Nm (vals xs) L

theorem fw_fine : ∀ {rs : List R3} {k : Nat} {prev : Option Int} {L : List Int}, Fw k prev rs L → k + L.length ≤ 64 → (∀ o ∈ L, -1 ≤ o ∧ o < 64) → ∃ xs : List BR, vals xs = rs ∧ xs.length ≤ L.length
  | [], k, _, L, h, _, _ => ⟨[], rfl, Nat.zero_le _⟩
  | r :: rs, k, prev, L, ⟨h1, h2, _, L', hL, h4⟩, h64, hb => by
    subst hL
    have hlen : (List.replicate r.n.toNat r.w ++ L').length = r.n.toNat + L'.length := by simp
    rw [hlen] at h64
    obtain ⟨xs, hx, hxl⟩ := fw_fine h4 (by omega) (fun o ho => hb o (by simp [ho]))
    have hw := hb r.w (List.mem_append_left _ (List.mem_replicate.2 ⟨by omega, rfl⟩))
    obtain ⟨x, hx1⟩ : ∃ x : BR, x.1 = r := ⟨⟨r, by unfold Fine; omega⟩, rfl⟩
    refine ⟨x :: xs, ?_, ?_⟩
    · show x.1 :: vals xs = _
      rw [hx1, hx]
    · rw [hlen]
      show xs.length + 1 ≤ _
      omega
theorem fw_length : ∀ {xs : List BR} {k : Nat} {prev : Option Int} {L : List Int}, Fw k prev (vals xs) L → xs.length ≤ L.length
  | [], _, _, _, _ => Nat.zero_le _
  | x :: xs, k, prev, L, h => by
    obtain ⟨h1, h2, _, L', hL, h4⟩ := fw_cons h
    subst hL
    have := fw_length (xs := xs) h4
    simp; omega

theorem Tab.below {W W' : World} {bt : Nat} {L : List Int} (h : Tab W bt L) (hb : Below W.heap.size W W') : Tab W' bt L := by
  obtain ⟨xs, h1, h2⟩ := h
  exact ⟨xs, h1.below hb, h2⟩
theorem Tab.kept {W W' : World} {bt : Nat} {L : List Int} {row : Option Nat} (h : Tab W bt L) (hg : W.grownBy W' row) (hr : ∀ q, row = some q → ∃ c t f, W.heap[q]? = some (.cells c t f) ∧ t ≠ 110 ∧ t ≠ 108) : Tab W' bt L := by
  obtain ⟨xs, h1, h2⟩ := h
  exact ⟨xs, h1.kept hg hr, h2⟩
theorem Tab.block {W : World} {bt : Nat} {L : List Int} (h : Tab W bt L) : ∃ c, W.heap[bt]? = some (.cells c 110 (0, 0)) := by
  obtain ⟨xs, ⟨v, h1, _⟩, _⟩ := h
  exact ⟨_, h1⟩
theorem RefAt.block {W : World} {br : Nat} {L : List Int} (h : RefAt W br L) : ∃ c, W.heap[br]? = some (.cells c 121 (0, 0)) := by
  obtain ⟨v, h1, _⟩ := h
  exact ⟨_, h1⟩

theorem tab_len {bt : Nat} {L : List Int} {w : World} (h : Tab w bt L) (hL : Okay L) :
    Calls Tryz.prog 76 #[.pointer (some ⟨bt, 0, none⟩)] w fun e W' => e = .returned (.int .i64 L.length) ∧ Below w.heap.size w W' := by
  obtain ⟨xs, h1, h2⟩ := h
  have := len_any _ xs w h1.tbl (Nat.le_trans (fw_length h2) hL.1)
  rwa [sumN_fw h2] at this

theorem count_neg {L : List Int} (h : ∀ o ∈ L, -1 ≤ o ∧ o < 64) : (L.count (-1) : Int) = cntNeg L := by
  unfold cntNeg
  rw [List.count_eq_countP, List.countP_eq_length_filter]
  congr 2
  apply List.filter_congr
  intro o ho
  have := h o ho
  rw [Bool.eq_iff_iff]
  simp
  omega

theorem who_fw {xs : List BR} {L : List Int} (h : Nm (vals xs) L) (hL : Okay L) (i : Int) : whoB i xs = whoRB i L ∧ whoW i xs = whoRW i L := by
  have key : whoB i xs = whoRB i L ∧ (whoB i xs = true → (seekR i xs).w = L.getD i.toNat 0) := by
    obtain ⟨hno, hyes⟩ := seek_fw h i
    by_cases hin : 0 ≤ i ∧ i < L.length
    · obtain ⟨hx, a, m, e1, e2, e3, e4, e5, e6, e7, e8⟩ := hyes i.toNat (by omega) (by omega)
      have hw : hx.1.w = L.getD i.toNat 0 := (e7 i.toNat e4 e5).symm
      have hs : seekR i xs = hx.1 := by unfold seekR; rw [e1]
      have hmem : L.getD i.toNat 0 ∈ L := by
        have hlt : i.toNat < L.length := by omega
        rw [List.getD_eq_getElem?_getD, List.getElem?_eq_getElem hlt]
        exact List.getElem_mem hlt
      have hb := hL.2 _ hmem
      refine ⟨?_, fun _ => by rw [hs, hw]⟩
      unfold whoB whoRB
      rw [e1, hs, hw, decide_eq_true hin.1, decide_eq_true hin.2]
      simp only [Option.isSome_some, Bool.true_and, Bool.and_self]
      rw [Bool.eq_iff_iff]
      simp only [Bool.not_eq_true', beq_eq_false_iff_ne, ne_eq, decide_eq_true_eq]
      omega
    · have := hno (by omega)
      have hb : whoB i xs = false := by unfold whoB; rw [this]; rfl
      refine ⟨?_, fun h => by rw [hb] at h; cases h⟩
      rw [hb]
      unfold whoRB
      by_cases c : 0 ≤ i
      · rw [decide_eq_false (show ¬ i < (L.length : Int) by omega)]; simp
      · rw [decide_eq_false c]; simp
  refine ⟨key.1, ?_⟩
  unfold whoW whoRW
  rw [← key.1]
  cases hb : whoB i xs with
  | false => rfl
  | true => simpa using key.2 hb

theorem placesFrom_none (who : Int) : ∀ (A : List Int) (k : Nat), (∀ o ∈ A, o ≠ who) → placesFrom who k A = []
  | [], _, _ => rfl
  | o :: A, k, h => by
    rw [placesFrom, if_neg (h o (by simp)), placesFrom_none who A (k + 1) (fun o ho => h o (by simp [ho]))]
    rfl

theorem bad_iff {xs : List BR} {L : List Int} (h : Nm (vals xs) L) (f n who : Int) : badArg f n who xs ↔ refBad f n who L := by
  unfold badArg refBad
  rw [sumN_fw h]
  have hi : isOwn who = false ↔ who < 0 ∨ 64 ≤ who := by
    unfold isOwn
    simp only [Bool.and_eq_false_iff, decide_eq_false_iff_not]
    omega
  rw [hi]
  omega

theorem tab_give_bad {bt : Nat} {L : List Int} {w : World} (h : Tab w bt L) (hL : Okay L) (f n who : Int) (hn : -9223372036854775808 ≤ n ∧ n < 9223372036854775808) (hbad : refBad f n who L) :
    Calls Tryz.prog 66 #[.pointer (some ⟨bt, 0, none⟩), .int .i64 f, .int .i64 n, .int .i64 who] w fun e W' => e = .returned (.int .i64 1) ∧ Below w.heap.size w W' := by
  obtain ⟨xs, h1, h2⟩ := h
  exact give_arg bt f n who xs w h1 (Nat.le_trans (fw_length h2) hL.1) hn ((bad_iff h2 f n who).2 hbad)

/-- the hole is wide enough just where all its places are nobody's -/
theorem hole_iff {xs : List BR} {L : List Int} (h : Nm (vals xs) L) (hL : Okay L) (F N : Nat) (hN : 1 ≤ N) (hFN : F + N ≤ L.length) :
    ((seekR F xs).w = -1 ∧ (F : Int) + N ≤ (seekR F xs).f + (seekR F xs).n) ↔ ∀ j, j < N → L.getD (F + j) 0 < 0 := by
  obtain ⟨hx, a, m, e1, e2, e3, e4, e5, e6, e7, e8⟩ := (seek_fw h F).2 F (by omega) (by omega)
  have hs : seekR F xs = hx.1 := by unfold seekR; rw [e1]
  rw [hs]
  have hmem : ∀ q, q < L.length → -1 ≤ L.getD q 0 := fun q hq => by
    have : L.getD q 0 ∈ L := by
      rw [List.getD_eq_getElem?_getD, List.getElem?_eq_getElem hq]
      exact List.getElem_mem hq
    exact (hL.2 _ this).1
  constructor
  · rintro ⟨hw, hend⟩ j hj
    rw [e7 (F + j) (by omega) (by omega), hw]
    omega
  · intro hall
    have h0 := hall 0 (by omega)
    have hF := hmem F (by omega)
    rw [Nat.add_zero] at h0
    have hw : hx.1.w = -1 := by
      have := e7 F e4 e5
      omega
    refine ⟨hw, ?_⟩
    rcases Nat.lt_or_ge (a + m) (F + N) with hlt | hge
    · exfalso
      have h1 := e8 (by omega)
      have h2 := hall (a + m - F) (by omega)
      rw [show F + (a + m - F) = a + m by omega] at h2
      have h3 := hmem (a + m) (by omega)
      apply h1
      omega
    · omega

theorem tab_give_used {bt : Nat} {L : List Int} {w : World} (h : Tab w bt L) (hL : Okay L) (F N : Nat) (who : Int) (hN : 1 ≤ N) (hFN : F + N ≤ L.length) (hw0 : 0 ≤ who) (hw1 : who < 64) (hu : ∃ j, j < N ∧ 0 ≤ L.getD (F + j) 0) :
    Calls Tryz.prog 66 #[.pointer (some ⟨bt, 0, none⟩), .int .i64 F, .int .i64 N, .int .i64 who] w fun e W' => e = .returned (.int .i64 5) ∧ Below w.heap.size w W' := by
  obtain ⟨xs, h1, h2⟩ := h
  refine give_pre bt F N who xs w h1 (Nat.le_trans (fw_length h2) hL.1) (by rw [sumN_fw h2]; have := hL.1; omega) (fun hb => ?_) ?_
  · have := (bad_iff h2 _ _ _).1 hb
    unfold refBad at this
    omega
  · have hi := hole_iff h2 hL F N hN hFN
    by_cases c : (seekR F xs).w = -1
    · refine .inr ?_
      rcases Int.lt_or_le ((seekR F xs).f + (seekR F xs).n) ((F : Int) + N) with hlt | hge
      · exact hlt
      · exfalso
        obtain ⟨j, hj, hj2⟩ := hu
        have := hi.1 ⟨c, hge⟩ j hj
        omega
    · exact .inl c

theorem overK_set (L : List Int) (F N : Nat) (who : Int) (h : F + N ≤ L.length) : overK ⟨F, N, who⟩ 0 L = setR L F N who := by
  have e : L = L.take F ++ ((L.drop F).take N ++ L.drop (F + N)) := by
    rw [← List.drop_drop, List.take_append_drop, List.take_append_drop]
  have l1 : (L.take F).length = F := by simp; omega
  have l2 : ((L.drop F).take N).length = N := by simp; omega
  conv => lhs; rw [e]
  rw [overK_append, overK_append, overK_out _ (L.take F) 0 (by simp only; omega), overK_in _ ((L.drop F).take N) _ (by simp only; omega) (by simp only; omega), overK_out _ (L.drop (F + N)) _ (by simp only; omega), l2]
  unfold setR
  rw [List.append_assoc]

theorem setR_okay {L : List Int} (hL : Okay L) (F N : Nat) (who : Int) (h : F + N ≤ L.length) (hw0 : 0 ≤ who) (hw1 : who < 64) : Okay (setR L F N who) := by
  refine ⟨by rw [setR_length _ _ _ _ h]; exact hL.1, fun o ho => ?_⟩
  unfold setR at ho
  rcases List.mem_append.1 ho with ho | ho
  · rcases List.mem_append.1 ho with ho | ho
    · exact hL.2 o (List.mem_of_mem_take ho)
    · have := (List.mem_replicate.1 ho).2; omega
  · exact hL.2 o (List.mem_of_mem_drop ho)

theorem tab_give_ok {bt : Nat} {L : List Int} {w : World} (h : Tab w bt L) (hL : Okay L) (F N : Nat) (who : Int) (hN : 1 ≤ N) (hFN : F + N ≤ L.length) (hw0 : 0 ≤ who) (hw1 : who < 64) (hu : ∀ j, j < N → L.getD (F + j) 0 < 0) :
    Calls Tryz.prog 66 #[.pointer (some ⟨bt, 0, none⟩), .int .i64 F, .int .i64 N, .int .i64 who] w fun e W' => e = .returned (.int .i64 0) ∧ Tab W' bt (setR L F N who) ∧ w.grownBy W' (some bt) := by
  obtain ⟨xs, h1, h2⟩ := h
  have hgood : ¬ badArg (F : Int) (N : Int) who xs := fun hb => by
    have := (bad_iff h2 _ _ _).1 hb
    unfold refBad at this
    omega
  have hsum : sumN xs ≤ 64 := by rw [sumN_fw h2]; have := hL.1; omega
  have hfree := (hole_iff h2 hL F N hN hFN).2 hu
  refine (give_ok bt F N who xs w h1 (Nat.le_trans (fw_length h2) hL.1) hsum hgood hfree).mono ?_
  rintro e W' ⟨he, hM, hg⟩
  refine ⟨he, ?_, hg⟩
  have hmem : ∀ q, q < L.length → -1 ≤ L.getD q 0 := fun q hq => by
    have : L.getD q 0 ∈ L := by
      rw [List.getD_eq_getElem?_getD, List.getElem?_eq_getElem hq]
      exact List.getElem_mem hq
    exact (hL.2 _ this).1
  have hnm : Nm (withL ⟨⟨F, N, who⟩, fine_arg hgood hsum⟩ xs) (setR L F N who) := by
    have := with_fw ⟨⟨F, N, who⟩, fine_arg hgood hsum⟩ h2 (rs := []) (L0 := []) rfl rfl (by have := hL.1; omega) (by simp only; omega) (fun p hp c1 c2 => by
      simp only at c1 c2
      have h3 := hu (p - F) (by omega)
      rw [show F + (p - F) = p by omega] at h3
      have := hmem p hp
      omega) (by simp only; omega) (by simp only; omega)
    rw [List.nil_append, overK_set L F N who hFN] at this
    exact this
  obtain ⟨ys, hy, _⟩ := fw_fine hnm (by rw [setR_length _ _ _ _ hFN]; have := hL.1; omega) (setR_okay hL F N who hFN hw0 hw1).2
  exact ⟨ys, by rw [hy]; exact hM, by rw [hy]; exact hnm⟩

theorem rep_okay (n : Nat) (h : n ≤ 64) : Okay (List.replicate n (-1)) := ⟨by simpa using h, fun o ho => by have := (List.mem_replicate.1 ho).2; omega⟩
theorem tab_new (n : Nat) (w : World) (h : n ≤ 64) :
    Calls Tryz.prog 29 #[.int .i64 n] w fun e W' => ∃ bt, e = .returned (.tuple #[.pointer (some ⟨bt, 0, none⟩), .int .i64 0]) ∧ Tab W' bt (List.replicate n (-1)) ∧ w.heap.size ≤ bt ∧ Below w.heap.size w W' := by
  refine (new_yes n w (by omega) (by omega)).mono ?_
  rintro e W' ⟨bt, he, hM, hb, hbl⟩
  have hnm : Nm (newL n) (List.replicate n (-1)) := by
    have := putL_nm (rs := []) (L := []) (r := ⟨0, n, -1⟩) rfl rfl (by simp only; omega) (by simp only; omega) (by simp)
    simpa [newL] using this
  obtain ⟨ys, hy, _⟩ := fw_fine hnm (by have := (rep_okay n h).1; omega) (rep_okay n h).2
  exact ⟨bt, he, ⟨ys, by rw [hy]; exact hM, by rw [hy]; exact hnm⟩, hb, hbl⟩
end Go.Proofs.YtikkfapgmbamlaaGreatDoor.Pt
end
section
/- The document's own table: Runs. -/
namespace Go.Proofs.YtikkfapgmbamlaaGreatDoor.Pt
open Go.RowKit Ut
set_option linter.unusedVariables false

theorem nm_nil {rs : List R3} (h : Nm rs []) : rs = [] := by
  cases rs with
  | nil => rfl
  | cons r rs =>
    obtain ⟨_, h2, _, L', hL, _⟩ := h
    have := congrArg List.length hL
    simp at this; omega
/-- the last run is the last place's -/
theorem nm_last {rs : List R3} {L : List Int} (h : Nm rs L) (hL : L ≠ []) : rs ≠ [] ∧ (rs.getD (rs.length - 1) default).w = L.getD (L.length - 1) 0 ∧ 1 ≤ (rs.getD (rs.length - 1) default).n ∧ (rs.getD (rs.length - 1) default).n ≤ L.length := by
  have hne : rs ≠ [] := fun e => hL (by subst e; exact h)
  refine ⟨hne, ?_⟩
  obtain ⟨l, rs0, rfl⟩ : ∃ l rs0, rs = rs0 ++ [l] := ⟨rs.getLast hne, rs.dropLast, (List.dropLast_concat_getLast hne).symm⟩
  have hg : (rs0 ++ [l]).getD ((rs0 ++ [l]).length - 1) default = l := by simp [List.getD]
  rw [hg]
  obtain ⟨L0, e, _, _, hn, _⟩ := Fw.unsnoc h
  have hlen : L.length = L0.length + l.n.toNat := by rw [e]; simp
  refine ⟨?_, hn, by omega⟩
  rw [e]
  simp only [List.getD_eq_getElem?_getD, List.getElem?_append, List.length_append, List.length_replicate, List.getElem?_replicate]
  rw [if_neg (by omega), if_pos (by omega)]
  rfl

/-- what Runs answers -/
def RunsPost (w : World) (L : List Int) (e : Ending) (W' : World) : Prop := ∃ v rs, e = .returned v ∧ Nm rs L ∧ OwnS W' w.heap.size v rs ∧ Below w.heap.size w W'

theorem RefAt.head {W : World} {br : Nat} {L : List Int} (h : RefAt W br L) {a : Option Addr} {n cap : Nat} (hc : W.cell? ⟨br, 0, none⟩ = some (.slice a n cap)) {x : Addr} (hx : a = some x) : ∃ g, x = ⟨g, 0, none⟩ := by
  obtain ⟨v, h1, h2⟩ := h
  have : W.cell? ⟨br, 0, none⟩ = some v := by simp [World.cell?, h1]
  rw [this] at hc
  injection hc with hc
  subst hc
  rcases h2.2 with ⟨e, _⟩ | ⟨g, _, _, e, _⟩
  · injection e with e1; rw [e1] at hx; cases hx
  · injection e with e1; rw [e1] at hx; injection hx with hx; exact ⟨g, hx.symm⟩

end Go.Proofs.YtikkfapgmbamlaaGreatDoor.Pt
end
section
/- hermitagelaw03's ints, runs and awake. -/
namespace Go.Proofs.YtikkfapgmbamlaaGreatDoor.Pt
open Go.RowKit Ut
set_option linter.unusedVariables false

def aw5 : List Int := [-1, 7, 7, -1, -1]
theorem aw5_runs : Nm [⟨0, 1, -1⟩, ⟨1, 2, 7⟩, ⟨3, 2, -1⟩] aw5 := by
  refine ⟨rfl, by decide, by simp, [7, 7, -1, -1], rfl, rfl, by decide, by simp, [-1, -1], rfl, rfl, by decide, by simp, [], rfl, rfl⟩
theorem aw5_okay : Okay aw5 := ⟨by decide, by decide⟩

end Go.Proofs.YtikkfapgmbamlaaGreatDoor.Pt
end
section
/- Give of both tables, said once; what a row of numbers that came in gives at a place. -/
namespace Go.Proofs.YtikkfapgmbamlaaGreatDoor.Pt
open Go.RowKit Ut
set_option linter.unusedVariables false

def badB (L : List Int) (f n who : Int) : Bool := decide (f < 0) || decide (n < 1) || decide ((L.length : Int) < f) || decide ((L.length : Int) - f < n) || decide (who < 0) || decide (64 ≤ who)
def usedB (L : List Int) (f n : Int) : Bool := (List.range n.toNat).any fun j => decide (0 ≤ L.getD (f.toNat + j) 0)
def giveE (L : List Int) (f n who : Int) : Int := if badB L f n who then 1 else if usedB L f n then 5 else 0
def giveL (L : List Int) (f n who : Int) : List Int := if badB L f n who then L else if usedB L f n then L else setR L f.toNat n.toNat who

theorem badB_iff (L : List Int) (f n who : Int) : badB L f n who = true ↔ refBad f n who L := by
  unfold badB refBad
  simp only [Bool.or_eq_true, decide_eq_true_eq]
  omega
theorem giveL_cases (L : List Int) (f n who : Int) : (refBad f n who L ∧ giveE L f n who = 1 ∧ giveL L f n who = L) ∨
    ∃ F N : Nat, f = F ∧ n = N ∧ 1 ≤ N ∧ F + N ≤ L.length ∧ 0 ≤ who ∧ who < 64 ∧ (((∃ j, j < N ∧ 0 ≤ L.getD (F + j) 0) ∧ giveE L f n who = 5 ∧ giveL L f n who = L) ∨
      ((∀ j, j < N → L.getD (F + j) 0 < 0) ∧ giveE L f n who = 0 ∧ giveL L f n who = setR L F N who)) := by
  cases hb : badB L f n who with
  | true => exact .inl ⟨(badB_iff L f n who).1 hb, by unfold giveE; rw [hb]; rfl, by unfold giveL; rw [hb]; rfl⟩
  | false =>
    have hgood : ¬ refBad f n who L := fun h => by rw [(badB_iff L f n who).2 h] at hb; cases hb
    unfold refBad at hgood
    refine .inr ⟨f.toNat, n.toNat, by omega, by omega, by omega, by omega, by omega, by omega, ?_⟩
    cases hu : usedB L f n with
    | true =>
      refine .inl ⟨?_, by unfold giveE; rw [hb, hu]; rfl, by unfold giveL; rw [hb, hu]; rfl⟩
      unfold usedB at hu
      simp only [List.any_eq_true, List.mem_range, decide_eq_true_eq] at hu
      exact hu
    | false =>
      refine .inr ⟨fun j hj => ?_, by unfold giveE; rw [hb, hu]; rfl, by unfold giveL; rw [hb, hu]; rfl⟩
      unfold usedB at hu
      rw [List.any_eq_false] at hu
      have := hu j (List.mem_range.2 hj)
      simp only [decide_eq_true_eq] at this
      omega
theorem giveL_okay {L : List Int} (hL : Okay L) (f n who : Int) : Okay (giveL L f n who) ∧ (giveL L f n who).length = L.length := by
  rcases giveL_cases L f n who with ⟨_, _, e⟩ | ⟨F, N, _, _, h1, h2, h3, h4, ⟨_, _, e⟩ | ⟨_, _, e⟩⟩
  · rw [e]; exact ⟨hL, rfl⟩
  · rw [e]; exact ⟨hL, rfl⟩
  · rw [e]; exact ⟨setR_okay hL F N who h2 h3 h4, setR_length _ _ _ _ h2⟩

theorem tab_give {bt : Nat} {L : List Int} {w : World} (h : Tab w bt L) (hL : Okay L) (f n who : Int) (hn : -9223372036854775808 ≤ n ∧ n < 9223372036854775808) :
    Calls Tryz.prog 66 #[.pointer (some ⟨bt, 0, none⟩), .int .i64 f, .int .i64 n, .int .i64 who] w fun e W' => e = .returned (.int .i64 (giveE L f n who)) ∧ Tab W' bt (giveL L f n who) ∧ w.grownBy W' (some bt) := by
  rcases giveL_cases L f n who with ⟨hb, e1, e2⟩ | ⟨F, N, rfl, rfl, h1, h2, h3, h4, ⟨hu, e1, e2⟩ | ⟨hu, e1, e2⟩⟩
  · rw [e1, e2]
    exact (tab_give_bad h hL f n who hn hb).mono fun e W' ⟨he, hbl⟩ => ⟨he, h.below hbl, grownBy_of_below _ hbl⟩
  · rw [e1, e2]
    exact (tab_give_used h hL F N who h1 h2 h3 h4 hu).mono fun e W' ⟨he, hbl⟩ => ⟨he, h.below hbl, grownBy_of_below _ hbl⟩
  · rw [e1, e2]
    exact tab_give_ok h hL F N who h1 h2 h3 h4 hu
theorem ref_give {br : Nat} {L : List Int} {w : World} (h : RefAt w br L) (hL : Okay L) (f n who : Int) :
    Calls Tryz.prog 60 #[.pointer (some ⟨br, 0, none⟩), .int .i64 f, .int .i64 n, .int .i64 who] w fun e W' => e = .returned (.int .i64 (giveE L f n who)) ∧ RefAt W' br (giveL L f n who) ∧ w.grownBy W' (some br) := by
  have hl : L.length ≤ 1000 := by have := hL.1; omega
  rcases giveL_cases L f n who with ⟨hb, e1, e2⟩ | ⟨F, N, rfl, rfl, h1, h2, h3, h4, ⟨hu, e1, e2⟩ | ⟨hu, e1, e2⟩⟩
  · rw [e1, e2]
    exact (refGive_arg br f n who L w h hl hb).mono fun e W' ⟨he, hw⟩ => by subst hw; exact ⟨he, h, World.grownBy.refl w _⟩
  · rw [e1, e2]
    exact (refGive_used br F N who L w h hl h1 h2 h3 h4 hu).mono fun e W' ⟨he, hw⟩ => by subst hw; exact ⟨he, h, World.grownBy.refl w _⟩
  · rw [e1, e2]
    exact refGive_ok br F N who L w h hl h1 h2 h3 h4 hu

/-- run number i of the runs that say L -/
theorem fw_at : ∀ {rs : List R3} {k : Nat} {prev : Option Int} {L : List Int}, Fw k prev rs L → ∀ i, i < rs.length → ∃ a m : Nat, (rs.getD i default).f = (k : Int) + a ∧ (rs.getD i default).n = m ∧ 1 ≤ m ∧ a + m ≤ L.length ∧
    (∀ q, a ≤ q → q < a + m → L.getD q 0 = (rs.getD i default).w) ∧ (∀ j, i = j + 1 → (rs.getD i default).w ≠ (rs.getD j default).w) ∧ (i = 0 → a = 0 ∧ prev ≠ some (rs.getD i default).w) ∧
    (i + 1 < rs.length → (rs.getD (i + 1) default).f = (k : Int) + a + m) ∧ (i + 1 = rs.length → a + m = L.length)
  | [], _, _, _, _, i, hi => by cases hi
  | r :: rs, k, prev, L, ⟨h1, h2, h3, L', hL, h4⟩, i, hi => by
    subst hL
    have hlen : (List.replicate r.n.toNat r.w ++ L').length = r.n.toNat + L'.length := by simp
    cases i with
    | zero =>
      refine ⟨0, r.n.toNat, by simp [h1], by simp; omega, by omega, by rw [hlen]; omega, fun q _ hq => ?_, (fun j e => by cases e), fun _ => ⟨rfl, h3⟩, fun hlt => ?_, fun he => ?_⟩
      · rw [getD_rep, if_pos (by omega)]; rfl
      · obtain ⟨a, m, e1, e2, e3, e4, e5, e6, e7, e8, e9⟩ := fw_at h4 0 (by simpa using hlt)
        have := (e7 rfl).1
        simp only [List.getD_cons_succ]
        rw [e1, this]; omega
      · have : rs = [] := List.length_eq_zero_iff.1 (by simpa using he.symm)
        subst this
        have : L' = [] := h4
        rw [hlen, this]; simp
    | succ i =>
      obtain ⟨a, m, e1, e2, e3, e4, e5, e6, e7, e8, e9⟩ := fw_at h4 i (by simpa using hi)
      simp only [List.getD_cons_succ]
      refine ⟨r.n.toNat + a, m, by rw [e1]; omega, e2, e3, by rw [hlen]; omega, fun q hq1 hq2 => ?_, fun j e => ?_, (fun e => by cases e), fun hlt => ?_, fun he => ?_⟩
      · rw [getD_rep, if_neg (by omega)]; exact e5 _ (by omega) (by omega)
      · obtain rfl : i = j := by omega
        cases i with
        | zero =>
          simp only [List.getD_cons_zero]
          intro e
          exact (e7 rfl).2 (by rw [e])
        | succ i =>
          simp only [List.getD_cons_succ]
          exact e6 i rfl
      · rw [e8 (by simpa using hlt)]; omega
      · rw [hlen]; have := e9 (by simpa using he); omega
theorem nm_length {rs : List R3} {L : List Int} (h : Nm rs L) : rs.length ≤ L.length := by
  suffices hh : ∀ {rs : List R3} {k : Nat} {prev : Option Int} {L : List Int}, Fw k prev rs L → rs.length ≤ L.length from hh h
  intro rs
  induction rs with
  | nil => intro _ _ _ _; exact Nat.zero_le _
  | cons r rs ih =>
    rintro k prev L ⟨h1, h2, h3, L', hL, h4⟩
    subst hL
    have := ih h4
    simp; omega
/-- where run i begins; behind the last one: how many places there are -/
def posOf (rs : List R3) (K i : Nat) : Int := if i < rs.length then (rs.getD i default).f else K
theorem who_at {L : List Int} {a : Nat} {u : Int} (ha : a < L.length) (hu : L.getD a 0 = u) : whoRB (a : Int) L = decide (0 ≤ u) ∧ whoRW (a : Int) L = if 0 ≤ u then u else 0 := by
  have hb : whoRB (a : Int) L = decide (0 ≤ u) := by
    unfold whoRB
    rw [Int.toNat_natCast, hu, show decide ((0 : Int) ≤ (a : Int)) = true from decide_eq_true (by omega), show decide ((a : Int) < L.length) = true from decide_eq_true (by omega)]
    rfl
  refine ⟨hb, ?_⟩
  unfold whoRW
  rw [hb, Int.toNat_natCast, hu]
  by_cases h : 0 ≤ u <;> simp [h]
end Go.Proofs.YtikkfapgmbamlaaGreatDoor.Pt
end
section
/- Configurations: rows of records in memory; a configuration as a value; which are right, plainly. -/
namespace Go.Proofs.YtikkfapgmbamlaaGreatDoor.Cf
open Go.RowKit Ut
set_option maxRecDepth 100000
set_option linter.unusedVariables false

/-- what lay there reads as before -/
theorem old_cells {W V : World} (h : Below W.heap.size W V) (b o : Nat) (hb : b < W.heap.size) : V.cell? ⟨b, o, none⟩ = W.cell? ⟨b, o, none⟩ := h.cell (p := ⟨b, o, none⟩) hb
theorem add_plus (x : Addr) (m j : Nat) : (x.add m).add j = x.add (m + j) := add_of_add x m j

/-- the slice at a of n records of k integers each reads as Z, and lies below block B -/
def RowT (k : Nat) (w : World) (B : Nat) (a : Option Addr) (n : Nat) (Z : Nat → Nat → Int) : Prop :=
  ∀ i, i < n → ∃ x, a = some x ∧ x.block < B ∧ ∀ j, j < k → w.cell? (x.add (i * k + j)) = some (.int .i64 (Z i j)) ∧ -9223372036854775808 ≤ Z i j ∧ Z i j < 9223372036854775808
theorem RowT.below {k n B : Nat} {w w' : World} {a : Option Addr} {Z : Nat → Nat → Int} (h : RowT k w B a n Z) (hb : Below B w w') : RowT k w' B a n Z := fun i hi => by
  obtain ⟨x, e, hx, hc⟩ := h i hi
  exact ⟨x, e, hx, fun j hj => ⟨(hb.cell (p := x.add _) (by rw [block_of_add]; exact hx)).trans (hc j hj).1, (hc j hj).2⟩⟩
theorem RowT.more {k n B B' : Nat} {w : World} {a : Option Addr} {Z : Nat → Nat → Int} (h : RowT k w B a n Z) (hB : B ≤ B') : RowT k w B' a n Z := fun i hi => by
  obtain ⟨x, e, hx, hc⟩ := h i hi
  exact ⟨x, e, by omega, hc⟩
theorem RowT.take {k n m B : Nat} {w : World} {a : Option Addr} {Z : Nat → Nat → Int} (h : RowT k w B a n Z) (hm : m ≤ n) : RowT k w B a m Z := fun i hi => h i (by omega)
theorem add_some (x : Addr) (m j : Nat) (hj : j ≠ 0) : x.add (m + j) = ⟨(x.add m).block, (x.add m).off + j, none⟩ := by
  rw [← add_of_add]
  generalize x.add m = y
  unfold Addr.add
  rw [if_neg hj]
/-- record number i of three -/
theorem RowT.at3 {n B : Nat} {w : World} {a : Option Addr} {Z : Nat → Nat → Int} (h : RowT 3 w B a n Z) (i : Nat) (hi : i < n) :
    ∃ x, a = some x ∧ x.block < B ∧ w.cell? (x.add (i * 3)) = some (.int .i64 (Z i 0)) ∧ w.cell? ⟨(x.add (i * 3)).block, (x.add (i * 3)).off + 1, none⟩ = some (.int .i64 (Z i 1)) ∧ w.cell? ⟨(x.add (i * 3)).block, (x.add (i * 3)).off + 2, none⟩ = some (.int .i64 (Z i 2)) := by
  obtain ⟨x, e, hx, hc⟩ := h i hi
  refine ⟨x, e, hx, (hc 0 (by omega)).1, ?_, ?_⟩
  · rw [← add_some x _ 1 (by omega)]; exact (hc 1 (by omega)).1
  · rw [← add_some x _ 2 (by omega)]; exact (hc 2 (by omega)).1
theorem RowT.at2 {n B : Nat} {w : World} {a : Option Addr} {Z : Nat → Nat → Int} (h : RowT 2 w B a n Z) (i : Nat) (hi : i < n) :
    ∃ x, a = some x ∧ x.block < B ∧ w.cell? (x.add (i * 2)) = some (.int .i64 (Z i 0)) ∧ w.cell? ⟨(x.add (i * 2)).block, (x.add (i * 2)).off + 1, none⟩ = some (.int .i64 (Z i 1)) := by
  obtain ⟨x, e, hx, hc⟩ := h i hi
  refine ⟨x, e, hx, (hc 0 (by omega)).1, ?_⟩
  rw [← add_some x _ 1 (by omega)]; exact (hc 1 (by omega)).1
theorem RowT.bd {k n B : Nat} {w : World} {a : Option Addr} {Z : Nat → Nat → Int} (h : RowT k w B a n Z) (i j : Nat) (hi : i < n) (hj : j < k) : -9223372036854775808 ≤ Z i j ∧ Z i j < 9223372036854775808 := by
  obtain ⟨x, e, hx, hc⟩ := h i hi
  exact (hc j hj).2

/-- a configuration: as it lies in memory, and what its records read as -/
structure Cfg where
  cats : Int
  ga : Option Addr
  gn : Nat
  gc : Nat
  ra : Option Addr
  rn : Nat
  rc : Nat
  pa : Option Addr
  pn : Nat
  pc : Nat
  na : Option Addr
  nn : Nat
  nc : Nat
  sa : Option Addr
  sn : Nat
  sc : Nat
  gate : Int
  quota : Int
  G : Nat → Nat → Int
  R : Nat → Nat → Int
  P : Nat → Nat → Int
  N : Nat → Nat → Int
  S : Nat → Nat → Int
abbrev Cfg.cs (c : Cfg) : Array Value := #[.int .i64 c.cats, .slice c.ga c.gn c.gc, .slice c.ra c.rn c.rc, .slice c.pa c.pn c.pc, .slice c.na c.nn c.nc, .slice c.sa c.sn c.sc, .int .i64 c.gate, .int .i64 c.quota]
abbrev Cfg.v (c : Cfg) : Value := .agg c.cs
structure Cfg.At (c : Cfg) (w : World) (B : Nat) : Prop where
  g : RowT 3 w B c.ga c.gn c.G
  r : RowT 3 w B c.ra c.rn c.R
  p : RowT 2 w B c.pa c.pn c.P
  n : RowT 2 w B c.na c.nn c.N
  s : RowT 2 w B c.sa c.sn c.S
  lg : c.gn ≤ c.gc ∧ c.gn ≤ 140737488355328
  lr : c.rn ≤ c.rc ∧ c.rn ≤ 140737488355328
  lp : c.pn ≤ c.pc ∧ c.pn ≤ 140737488355328
  ln : c.nn ≤ c.nc ∧ c.nn ≤ 140737488355328
  ls : c.sn ≤ c.sc ∧ c.sn ≤ 140737488355328
  i1 : -9223372036854775808 ≤ c.cats ∧ c.cats < 9223372036854775808
  i2 : -9223372036854775808 ≤ c.gate ∧ c.gate < 9223372036854775808
  i3 : -9223372036854775808 ≤ c.quota ∧ c.quota < 9223372036854775808
theorem Cfg.At.below {c : Cfg} {w w' : World} {B : Nat} (h : c.At w B) (hb : Below B w w') : c.At w' B :=
  ⟨h.g.below hb, h.r.below hb, h.p.below hb, h.n.below hb, h.s.below hb, h.lg, h.lr, h.lp, h.ln, h.ls, h.i1, h.i2, h.i3⟩

theorem Cfg.At.more_at {c : Cfg} {w : World} {B B' : Nat} (h : c.At w B) (hB : B ≤ B') : c.At w B' :=
  ⟨h.g.more hB, h.r.more hB, h.p.more hB, h.n.more hB, h.s.more hB, h.lg, h.lr, h.lp, h.ln, h.ls, h.i1, h.i2, h.i3⟩

/-- how many frames the first k guests have -/
def sumG (G : Nat → Nat → Int) : Nat → Int
  | 0 => 0
  | k + 1 => sumG G k + (G k 1 + G k 2)
/-- each of the first n guests has a page, and at most 8 with what it may take -/
def Small (G : Nat → Nat → Int) (n : Nat) : Prop := ∀ i, i < n → 1 ≤ G i 1 ∧ G i 1 ≤ 8 ∧ 0 ≤ G i 2 ∧ G i 1 + G i 2 ≤ 8
theorem sumG_bd {G : Nat → Nat → Int} {n : Nat} (h : Small G n) : ∀ k, k ≤ n → (k : Int) ≤ sumG G k ∧ sumG G k ≤ 8 * k
  | 0, _ => by simp [sumG]
  | k + 1, hk => by
    have := sumG_bd h k (by omega)
    have := h k (by omega)
    simp only [sumG]
    omega

/-! ### which are right -/
def inB (n a b : Int) : Bool := decide (a ≤ n) && decide (n ≤ b)
def isG (c : Cfg) (i : Int) : Bool := decide (0 ≤ i) && decide (i < c.gn)
def wrongG (c : Cfg) (i : Nat) : Bool := !La.validB (c.G i 0) c.cats || !inB (c.G i 1) 1 8 || !inB (c.G i 2) 0 (8 - c.G i 1)
/-- whose the sectors are behind the first k ranges -/
def secs (c : Cfg) : Nat → List Int
  | 0 => List.replicate 32 (-1)
  | k + 1 => Pt.giveL (secs c k) (c.R k 1) (c.R k 2) k
def wrongR (c : Cfg) (i : Nat) : Bool := !La.validB (c.R i 0) c.cats || !decide (Pt.giveE (secs c i) (c.R i 1) (c.R i 2) i = 0)
/-- the first of n for which it is so -/
def firstI (n : Nat) (p : Nat → Bool) : Option Nat := (List.range n).find? p
def portB (c : Cfg) (i : Nat) (g : Int) : Bool := (firstI i fun k => decide (c.P k 1 = g)).isSome
def wrongP (c : Cfg) (i : Nat) : Bool :=
  if c.P i 1 = -1 then !La.validB (c.P i 0) c.cats else !isG c (c.P i 1) || !decide (c.P i 0 = c.G (c.P i 1).toNat 0) || portB c i (c.P i 1)
def wrongN (c : Cfg) (i : Nat) : Bool := !isG c (c.N i 0) || !isG c (c.N i 1) || decide (c.N i 0 = c.N i 1) || !La.flowsZ (c.G (c.N i 0).toNat 0) (c.G (c.N i 1).toNat 0)
def wrongS (c : Cfg) (i : Nat) : Bool := !isG c (c.S i 0) || !inB (c.S i 1) 1 32
def wrongGate (c : Cfg) : Bool := if c.gate = -1 then !decide (c.quota = 0) else !isG c c.gate || !inB c.quota 0 64
def need (c : Cfg) : Int := sumG c.G c.gn + c.nn
end Go.Proofs.YtikkfapgmbamlaaGreatDoor.Cf
end
section
/- within, framesOf. -/
namespace Go.Proofs.YtikkfapgmbamlaaGreatDoor.Cf
open Go.RowKit Ut
set_option maxRecDepth 100000
set_option linter.unusedVariables false

theorem within_any (n a b : Int) (w : World) : Calls Tryz.prog 31 #[.int .i64 n, .int .i64 a, .int .i64 b] w fun e w' => e = .returned (.bool (inB n a b)) ∧ w = w' := by
  by_cases h1 : a ≤ n
  · by_cases h2 : n ≤ b
    · have hb : inB n a b = true := by unfold inB; simp [h1, h2]
      rw [hb]
      clear hb
      go_enter Tryz.func31, Tryz.ntmps31
      go_wp2
      go_ret
      exact ⟨rfl, rfl⟩
    · have hb : inB n a b = false := by unfold inB; simp [h2]
      rw [hb]
      clear hb
      go_enter Tryz.func31, Tryz.ntmps31
      go_wp2
      go_ret
      exact ⟨rfl, rfl⟩
  · have hb : inB n a b = false := by unfold inB; simp [h1]
    rw [hb]
    clear hb
    go_enter Tryz.func31, Tryz.ntmps31
    go_wp2
    go_ret
    exact ⟨rfl, rfl⟩

set_option maxRecDepth 100000 in
theorem framesOf_any (a : Option Addr) (n c B : Nat) (G : Nat → Nat → Int) (w : World) (hB : B ≤ w.heap.size) (h : RowT 3 w B a n G) (hn : n ≤ 4) (hs : Small G n) :
    Calls Tryz.prog 70 #[.slice a n c] w fun e w' => e = .returned (.int .i64 (sumG G n)) ∧ Below w.heap.size w w' := by
  have H := Lib.hid h
  have HS := Lib.hid hs
  clear h hs
  go_enter Tryz.func70, Tryz.ntmps70
  go_wp2
  go_loopw [3, 8] (fun s i wr => ∃ k : Nat, k ≤ n ∧ s = .int .i64 (sumG G k) ∧ i = .int .i64 k ∧ Below w.heap.size w wr) (fun _ i _ => n - (intOf i).toNat)
  case atStart => exact ⟨0, Nat.zero_le _, rfl, rfl, Below.refl _ _⟩
  case round =>
    obtain ⟨k, hk, rfl, rfl, hb⟩ := hrel
    by_cases hlt : k < n
    · obtain ⟨x, rfl, hx, c0, c1, c2⟩ := (H.out.below (hb.mono hB)).at3 k hlt
      have hsb := sumG_bd HS.out k hk
      have hst := HS.out k hlt
      have hsn : Hid (sumG G (k + 1) = sumG G k + (G k 1 + G k 2)) := Lib.hid rfl
      have b0 : (0 : Int) ≤ (k : Int) := by omega
      have b1 : (k : Int) < (n : Int) := by omega
      obtain ⟨s, hs⟩ : ∃ s, s = sumG G k := ⟨_, rfl⟩
      obtain ⟨l, hl⟩ : ∃ l, l = G k 0 := ⟨_, rfl⟩
      obtain ⟨p, hp⟩ : ∃ p, p = G k 1 := ⟨_, rfl⟩
      obtain ⟨q, hq⟩ : ∃ q, q = G k 2 := ⟨_, rfl⟩
      rw [← hs, ← hp, ← hq] at hsn
      rw [← hs] at hsb ⊢
      rw [← hp, ← hq] at hst
      rw [← hl] at c0
      rw [← hp] at c1
      rw [← hq] at c2
      clear hs hl hp hq
      go_wp2
      go_roundw
      case rel => exact ⟨k + 1, by omega, by rw [hsn.out], by go_num, hb.alloc hb.size _⟩
      case measure => simp [intOf]; omega
    · have hkn : k = n := by omega
      subst hkn
      have b1 : ¬ (k : Int) < (k : Int) := by omega
      go_wp2
      go_ret
      exact ⟨rfl, hb⟩
end Go.Proofs.YtikkfapgmbamlaaGreatDoor.Cf
end
