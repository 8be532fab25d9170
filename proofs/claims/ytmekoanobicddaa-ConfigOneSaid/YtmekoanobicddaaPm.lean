/- Plain facts: runs that say whose each place is. -/
import Derived.Test.YtmekoanobicddaaPh
import Derived.Test.YtmekoanobicddaaPj
namespace Go.Proofs.Ytmekoanobicddaa.Pt
open Go.RowKit
set_option linter.unusedVariables false

/-- the runs rs, the first from place k on, behind one of prev's, say L -/
def Fw (k : Nat) (prev : Option Int) : List R3 → List Int → Prop
  | [], L => L = []
  | r :: rs, L => r.f = (k : Int) ∧ 1 ≤ r.n ∧ prev ≠ some r.w ∧ ∃ L', L = List.replicate r.n.toNat r.w ++ L' ∧ Fw (k + r.n.toNat) (some r.w) rs L'
def Nm (rs : List R3) (L : List Int) : Prop := Fw 0 none rs L
def lastW (prev : Option Int) (rs : List R3) : Option Int := match rs.getLast? with | some l => some l.w | none => prev

theorem lastW_cons (prev : Option Int) (r : R3) (rs : List R3) : lastW prev (r :: rs) = lastW (some r.w) rs := by
  cases rs with
  | nil => rfl
  | cons s ss => simp [lastW, List.getLast?_cons]

theorem Fw.snoc {r : R3} : ∀ {rs : List R3} {k : Nat} {prev : Option Int} {L : List Int}, Fw k prev rs L → r.f = ((k + L.length : Nat) : Int) → 1 ≤ r.n → lastW prev rs ≠ some r.w → Fw k prev (rs ++ [r]) (L ++ List.replicate r.n.toNat r.w)
  | [], k, prev, L, h, hf, hn, hl => by
    obtain rfl : L = [] := h
    exact ⟨by simpa using hf, hn, hl, [], by simp, rfl⟩
  | s :: rs, k, prev, L, ⟨h1, h2, h3, L', hL, h4⟩, hf, hn, hl => by
    subst hL
    rw [lastW_cons] at hl
    refine ⟨h1, h2, h3, L' ++ List.replicate r.n.toNat r.w, by rw [List.append_assoc], Fw.snoc h4 ?_ hn hl⟩
    rw [hf]; simp; omega

theorem Fw.unsnoc {l : R3} : ∀ {rs : List R3} {k : Nat} {prev : Option Int} {L : List Int}, Fw k prev (rs ++ [l]) L → ∃ L0, L = L0 ++ List.replicate l.n.toNat l.w ∧ Fw k prev rs L0 ∧ l.f = ((k + L0.length : Nat) : Int) ∧ 1 ≤ l.n ∧ lastW prev rs ≠ some l.w
  | [], k, prev, L, ⟨h1, h2, h3, L', hL, h4⟩ => by
    obtain rfl : L' = [] := h4
    exact ⟨[], by simpa using hL, rfl, by simpa using h1, h2, h3⟩
  | s :: rs, k, prev, L, ⟨h1, h2, h3, L', hL, h4⟩ => by
    obtain ⟨L0, e, hf, hff, hn, hl⟩ := Fw.unsnoc h4
    subst e
    subst hL
    refine ⟨List.replicate s.n.toNat s.w ++ L0, by rw [List.append_assoc], ⟨h1, h2, h3, L0, rfl, hf⟩, ?_, hn, by rw [lastW_cons]; exact hl⟩
    rw [hff]; simp; omega

theorem Fw.unique : ∀ {rs rs' : List R3} {k : Nat} {prev : Option Int} {L : List Int}, Fw k prev rs L → Fw k prev rs' L → rs = rs'
  | [], [], _, _, _, _, _ => rfl
  | [], r :: rs, k, prev, L, h, ⟨_, h2, _, L', hL, _⟩ => by
    obtain rfl : L = [] := h
    have := congrArg List.length hL
    simp at this; omega
  | r :: rs, [], k, prev, L, ⟨_, h2, _, L', hL, _⟩, h => by
    obtain rfl : L = [] := h
    have := congrArg List.length hL
    simp at this; omega
  | r :: rs, r' :: rs', k, prev, L, ⟨h1, h2, h3, L1, hL1, h4⟩, ⟨h1', h2', h3', L1', hL1', h4'⟩ => by
    have key : ∀ (a b : R3) (sa sb : List R3) (La Lb : List Int), 1 ≤ a.n → 1 ≤ b.n → List.replicate a.n.toNat a.w ++ La = List.replicate b.n.toNat b.w ++ Lb → Fw (k + a.n.toNat) (some a.w) sa La → ¬ a.n.toNat < b.n.toNat := by
      intro a b sa sb La Lb ha hb he hF hlt
      have hw : a.w = b.w := by
        have h0 := congrArg (fun l => l[0]?) he
        simp only [List.getElem?_append, List.length_replicate, List.getElem?_replicate] at h0
        rw [if_pos (by omega), if_pos (by omega), if_pos (by omega), if_pos (by omega)] at h0
        simpa using h0
      have hL : La = List.replicate (b.n.toNat - a.n.toNat) b.w ++ Lb := by
        have e : List.replicate b.n.toNat b.w = List.replicate a.n.toNat b.w ++ List.replicate (b.n.toNat - a.n.toNat) b.w := by rw [List.replicate_append_replicate]; congr 1; omega
        rw [e, hw, List.append_assoc] at he
        exact List.append_cancel_left he
      cases sa with
      | nil =>
        have : La = [] := hF
        rw [this] at hL
        have := congrArg List.length hL
        simp at this; omega
      | cons s ss =>
        obtain ⟨_, hs, hne, L2, hL2, _⟩ := hF
        apply hne
        have h0 := congrArg (fun l => l[0]?) (hL2.symm.trans hL)
        simp only [List.getElem?_append, List.length_replicate, List.getElem?_replicate] at h0
        rw [if_pos (by omega), if_pos (by omega), if_pos (by omega), if_pos (by omega)] at h0
        rw [hw]
        simpa using h0.symm
    have hn1 := key r r' rs rs' L1 L1' h2 h2' (hL1.symm.trans hL1') h4
    have hn2 := key r' r rs' rs L1' L1 h2' h2 (hL1'.symm.trans hL1) h4'
    have hn : r.n = r'.n := by omega
    have hw : r.w = r'.w := by
      have h0 := congrArg (fun l => l[0]?) (hL1.symm.trans hL1')
      simp only [List.getElem?_append, List.length_replicate, List.getElem?_replicate] at h0
      rw [if_pos (by omega), if_pos (by omega), if_pos (by omega), if_pos (by omega)] at h0
      simpa using h0
    have hr : r = r' := by
      cases r; cases r'
      simp only at h1 h1' hn hw
      rw [h1, h1', hn, hw]
    subst hr
    have hL : L1 = L1' := List.append_cancel_left (hL1.symm.trans hL1')
    subst hL
    rw [Fw.unique h4 h4']

/-- put keeps the runs in order -/
theorem putL_nm {rs : List R3} {L : List Int} {r : R3} (h : Nm rs L) (hf : r.f = (L.length : Int)) (h0 : 0 ≤ r.n) (hn : r.n ≤ 1000) (hL : L.length ≤ 1000) : Nm (putL rs r) (L ++ List.replicate r.n.toNat r.w) := by
  unfold putL
  by_cases hz : r.n = 0
  · rw [if_pos hz, hz]; simpa using h
  · rw [if_neg hz]
    by_cases hnil : rs = []
    · rw [if_pos hnil]
      subst hnil
      obtain rfl : L = [] := h
      exact ⟨by simpa using hf, by omega, by simp, [], by simp, rfl⟩
    · rw [if_neg hnil]
      obtain ⟨l, rs0, rfl⟩ : ∃ l rs0, rs = rs0 ++ [l] := ⟨rs.getLast hnil, rs.dropLast, (List.dropLast_concat_getLast hnil).symm⟩
      have hg : (rs0 ++ [l]).getD ((rs0 ++ [l]).length - 1) default = l := by simp [List.getD]
      rw [hg]
      obtain ⟨L0, e, hF, hlf, hln, hlast⟩ := Fw.unsnoc h
      by_cases hw : l.w = r.w
      · rw [if_pos hw]
        have hset : (rs0 ++ [l]).set ((rs0 ++ [l]).length - 1) ⟨l.f, wrap64 (l.n + r.n), l.w⟩ = rs0 ++ [⟨l.f, l.n + r.n, l.w⟩] := by
          have hlen : l.n ≤ 1000 := by
            have := congrArg List.length e
            simp at this; omega
          rw [IntWalk.wrap64_in _ ⟨by omega, by omega⟩]
          simp
        rw [hset]
        have h2 := Fw.snoc (r := ⟨l.f, l.n + r.n, l.w⟩) hF hlf (by simp only; omega) hlast
        have e2 : L ++ List.replicate r.n.toNat r.w = L0 ++ List.replicate (l.n + r.n).toNat l.w := by
          rw [e, List.append_assoc, ← hw, List.replicate_append_replicate]
          congr 2
          omega
        rw [e2]
        exact h2
      · rw [if_neg hw]
        refine Fw.snoc h (by simpa using hf) (by omega) ?_
        simp [lastW, hw]
end Go.Proofs.Ytmekoanobicddaa.Pt
