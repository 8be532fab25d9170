/- The document's own table: New, Who, Free, Of. -/
import Derived.Test.YtpoelobljklgpaaPm
import Derived.Test.YtpoelobljklgpaaPn
namespace Go.Proofs.Ytpoelobljklgpaa.Pt
open Go.RowKit Ut
set_option linter.unusedVariables false

/-- block br is the document's table: whose the places are -/
def RefAt (W : World) (br : Nat) (L : List Int) : Prop := ∃ v, W.heap[br]? = some (.cells #[v] 37 (0, 0)) ∧ W.ownsRow 0 3 1 v L.length (L.map (Value.int .i64))

theorem RefAt.form {W : World} {br : Nat} {L : List Int} (h : RefAt W br L) : ∃ a cap, W.cell? ⟨br, 0, none⟩ = some (.slice a L.length cap) ∧ W.frozen? ⟨br, 0, none⟩ = false ∧ br < W.heap.size ∧ L.length ≤ cap ∧ cap ≤ 9223372036854775807 ∧ RowK .i64 W W.heap.size a L.length L ∧ W.heap[br]? = some (.cells #[.slice a L.length cap] 37 (0, 0)) ∧ W.ownsRow 0 3 1 (.slice a L.length cap) L.length (L.map (Value.int .i64)) := by
  obtain ⟨v, h1, h2⟩ := h
  obtain ⟨a, cap, rfl, h3, h4, h5⟩ := RowK.of_own h2
  exact ⟨a, cap, by simp [World.cell?, h1], by simp [World.frozen?, h1], (Array.getElem?_eq_some_iff.1 h1).1, h3, h4, h5, h1, h2⟩
theorem RefAt.kept {W W' : World} {br : Nat} {L : List Int} {row : Option Nat} (h : RefAt W br L) (hg : W.grownBy W' row) (hr : ∀ q, row = some q → ∃ c t f, W.heap[q]? = some (.cells c t f) ∧ t ≠ 37 ∧ t ≠ 3) : RefAt W' br L := by
  obtain ⟨v, h1, h2⟩ := h
  refine ⟨v, (hg.block br (Array.getElem?_eq_some_iff.1 h1).1 fun e => ?_).trans h1, World.ownsRow.kept h2 hg ?_⟩
  · obtain ⟨c, t, f, hq, ht, _⟩ := hr br e.symm
    rw [h1] at hq
    injection hq with hq
    injection hq with _ hq
    exact ht hq.symm
  · rcases h2.2 with ⟨rfl, _⟩ | ⟨g, cap, cur, rfl, _, hgb, _⟩
    · exact .inl rfl
    · refine .inr fun e => ?_
      obtain ⟨c, t, f, hq, _, ht⟩ := hr g (by simpa [Value.ownBlock] using e.symm)
      rw [hgb] at hq
      injection hq with hq
      injection hq with _ hq
      exact ht hq.symm
theorem RefAt.below {W W' : World} {br : Nat} {L : List Int} (h : RefAt W br L) (hb : Below W.heap.size W W') : RefAt W' br L :=
  h.kept (row := none) ⟨hb.os, hb.tape, hb.output, hb.size, fun q hq _ => hb.block q hq⟩ (fun q e => by cases e)

def whoRB (i : Int) (L : List Int) : Bool := decide (0 ≤ i) && decide (i < L.length) && decide (0 ≤ L.getD i.toNat 0)
def whoRW (i : Int) (L : List Int) : Int := if whoRB i L then L.getD i.toNat 0 else 0

set_option maxRecDepth 100000 in
theorem refWho_any (br : Nat) (i : Int) (L : List Int) (w : World) (hR : RefAt w br L) :
    Calls Try.prog 13 #[.pointer (some ⟨br, 0, none⟩), .int .i64 i] w fun e W' => e = .returned (.tuple #[.int .i64 (whoRW i L), .bool (whoRB i L)]) ∧ w = W' := by
  obtain ⟨a, cap, hc, _, _, hn, hcap, hrow, _, _⟩ := hR.form
  have hno : ∀ (h : whoRB i L = false), whoRW i L = 0 := fun h => by unfold whoRW; rw [h]; rfl
  obtain ⟨n, hln⟩ : ∃ n, n = L.length := ⟨_, rfl⟩
  rw [← hln] at hc hn hrow
  have HRo := Lib.hid hrow
  clear hrow
  by_cases h1 : i < 0
  · have hb : whoRB i L = false := by unfold whoRB; simp; omega
    have HB := Lib.hid hb
    have HW := Lib.hid (hno hb)
    clear hb hln
    go_enter Try.func13, Try.ntmps13
    go_wp2
    go_ret2
    exact ⟨by rw [HB.out, HW.out]; rfl, rfl⟩
  · obtain ⟨p, rfl⟩ : ∃ p : Nat, i = (p : Int) := ⟨i.toNat, by omega⟩
    by_cases h2 : p < n
    · obtain ⟨x, rfl, _, hx⟩ := HRo.out.2 p h2
      by_cases h3 : L.getD p 0 < 0
      · have hb : whoRB (p : Int) L = false := by
          unfold whoRB
          rw [Int.toNat_natCast, show decide (0 ≤ L.getD p 0) = false from decide_eq_false (by omega), Bool.and_false]
        have HB := Lib.hid hb
        have HW := Lib.hid (hno hb)
        obtain ⟨u, hu⟩ : ∃ u, u = L.getD p 0 := ⟨_, rfl⟩
        rw [← hu] at hx h3
        clear hb hln hno hu
        have h0 : (0 : Int) ≤ (p : Int) := by omega
        have h2' : (p : Int) < (n : Int) := by omega
        go_enter Try.func13, Try.ntmps13
        go_wp2
        go_ret2
        exact ⟨by rw [HB.out, HW.out]; rfl, rfl⟩
      · have hb : whoRB (p : Int) L = true := by
          unfold whoRB
          rw [Int.toNat_natCast, show decide (0 ≤ L.getD p 0) = true from decide_eq_true (by omega), show decide ((0 : Int) ≤ (p : Int)) = true from decide_eq_true (by omega), show decide ((p : Int) < L.length) = true from decide_eq_true (by omega)]
          rfl
        have hw : whoRW (p : Int) L = L.getD p 0 := by unfold whoRW; rw [hb, Int.toNat_natCast]; rfl
        have HB := Lib.hid hb
        have HW := Lib.hid hw
        obtain ⟨u, hu⟩ : ∃ u, u = L.getD p 0 := ⟨_, rfl⟩
        rw [← hu] at hx h3 HW
        clear hb hln hno hw hu
        have h0 : (0 : Int) ≤ (p : Int) := by omega
        have h2' : (p : Int) < (n : Int) := by omega
        go_enter Try.func13, Try.ntmps13
        go_wp2
        go_ret2
        exact ⟨by rw [HB.out, HW.out]; rfl, rfl⟩
    · have hb : whoRB (p : Int) L = false := by unfold whoRB; simp; omega
      have HB := Lib.hid hb
      have HW := Lib.hid (hno hb)
      clear hb hln hno
      have h2' : ¬ (p : Int) < (n : Int) := by omega
      go_enter Try.func13, Try.ntmps13
      go_wp2
      go_ret2
      exact ⟨by rw [HB.out, HW.out]; rfl, rfl⟩

/-- how many are below nought -/
def cntNeg (L : List Int) : Int := (L.filter fun o => decide (o < 0)).length
theorem cntNeg_take (L : List Int) (k : Nat) (hk : k < L.length) : cntNeg (L.take (k + 1)) = cntNeg (L.take k) + if L.getD k 0 < 0 then 1 else 0 := by
  rw [List.take_succ_eq_append_getElem hk]
  unfold cntNeg
  rw [List.filter_append, List.length_append]
  have e : L.getD k 0 = L[k] := by simp [List.getD, hk]
  rw [e]
  by_cases h : L[k] < 0 <;> simp [h]
theorem cntNeg_bd (L : List Int) : 0 ≤ cntNeg L ∧ cntNeg L ≤ L.length := by
  unfold cntNeg
  exact ⟨by omega, by have := List.length_filter_le (fun o => decide (o < 0)) L; omega⟩

set_option maxRecDepth 100000 in
theorem refFree_any (br : Nat) (L : List Int) (w : World) (hR : RefAt w br L) (hl : L.length ≤ 1000) :
    Calls Try.prog 15 #[.pointer (some ⟨br, 0, none⟩)] w fun e W' => e = .returned (.int .i64 (cntNeg L)) ∧ w = W' := by
  obtain ⟨a, cap, hc, _, _, hn, hcap, hrow, _, _⟩ := hR.form
  obtain ⟨n, hln⟩ : ∃ n, n = L.length := ⟨_, rfl⟩
  rw [← hln] at hc hn hrow hl
  have HRo := Lib.hid hrow
  have HL := Lib.hid hln
  clear hrow hln
  go_enter Try.func15, Try.ntmps15
  go_wp2
  go_loop [3, 4] (fun c i => ∃ k : Nat, k ≤ n ∧ c = .int .i64 (cntNeg (L.take k)) ∧ i = .int .i64 k) (fun _ i => n - (intOf i).toNat)
  case atStart => exact ⟨0, Nat.zero_le _, rfl, rfl⟩
  case round =>
    obtain ⟨k, hk, rfl, rfl⟩ := hrel
    have hbd := cntNeg_bd (L.take k)
    have hlk : (L.take k).length ≤ k := List.length_take_le _ _
    by_cases hlt : k < n
    · obtain ⟨x, rfl, _, hx⟩ := HRo.out.2 k hlt
      have hts := cntNeg_take L k (by have := HL.out; omega)
      obtain ⟨u, hu⟩ : ∃ u, u = L.getD k 0 := ⟨_, rfl⟩
      rw [← hu] at hx hts
      have HT := Lib.hid hts
      clear hts hu
      have h0 : (0 : Int) ≤ (k : Int) := by omega
      have h2' : (k : Int) < (n : Int) := by omega
      by_cases h3 : u < 0
      · go_wp2
        go_round
        case rel => exact ⟨k + 1, by omega, by rw [HT.out, if_pos h3], by go_num⟩
        case measure => simp [intOf]; omega
      · go_wp2
        go_round
        case rel => exact ⟨k + 1, by omega, by rw [HT.out, if_neg h3]; simp, by go_num⟩
        case measure => simp [intOf]; omega
    · have hkn : k = n := by omega
      have h2' : ¬ (k : Int) < (n : Int) := by omega
      have hfull : L.take k = L := by rw [hkn, HL.out]; exact List.take_length
      have HF := Lib.hid hfull
      clear hkn hfull
      go_wp2
      go_ret
      exact ⟨by rw [← HF.out]; simp [HF.out], rfl⟩
end Go.Proofs.Ytpoelobljklgpaa.Pt
