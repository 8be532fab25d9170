/- The walk of hermitagelaw15.GmapRights. -/
import Derived.Test.YtlgohgjnocoadaaXj
import Derived.Deep.Cut
namespace Go.Proofs.Ytlgohgjnocoadaa.Gm
open Go.RowKit Ut
set_option maxRecDepth 100000
set_option linter.unusedVariables false
set_option maxHeartbeats 8000000

theorem plN_set {L : List Pl} (h : Okay L) (k : Nat) (hk : k < 12) (p : Pl) : plN (L.set k p) k = p := by
  simp [plN, List.getD, h.1, hk]
theorem plN_other (L : List Pl) (k j : Nat) (hne : j ≠ k) (p : Pl) : plN (L.set k p) j = plN L j := by
  simp only [plN, List.getD_eq_getElem?_getD, List.getElem?_set_ne (Ne.symm hne)]
theorem plN_no (k : Nat) : plN noP k = (0, 0) := by
  unfold plN noP
  rw [List.getD_eq_getElem?_getD, List.getElem?_replicate]
  split <;> rfl
/-- the pages told where one alone is there -/
theorem upto_one (k f r : Nat) (hk : k < 12) (h : 0 < r) : upto (noP.set k ((f : Int), (r : Int))) 12 = [(k : Int)] := by
  have ht : thB ((f : Int), (r : Int)) = true := by unfold thB; simp; omega
  have key : ∀ m, upto (noP.set k ((f : Int), (r : Int))) m = if k < m then [(k : Int)] else [] := fun m => by
    induction m with
    | zero => rfl
    | succ m ih =>
      rw [upto_succ, ih]
      by_cases hm : m = k
      · subst hm
        rw [plN_set noP_ok m hk, ht]
        simp
      · rw [plN_other _ _ _ hm, plN_no, if_neg (show ¬ thB (0, 0) = true by decide)]
        by_cases hlt : k < m
        · rw [if_pos hlt, if_pos (by omega)]; rfl
        · rw [if_neg hlt, if_neg (by omega)]; rfl
  rw [key, if_pos hk]

def one (k f r : Nat) : List Pl := noP.set k ((f : Int), (r : Int))
theorem one_at (k f r : Nat) (hk : k < 12) : atP (one k f r) k = ((f : Int), (r : Int)) := (atP_is hk).trans (plN_set noP_ok k hk _)
theorem one_set (k f r : Nat) (hk : k < 12) (hf : f < 32) (h0 : 0 < r) (h3 : r ≤ 3) : setE noP k ((f : Int), (r : Int)) = 0 ∧ setL noP k ((f : Int), (r : Int)) = one k f r ∧ setE (one k f r) k ((f : Int), (r : Int)) = 5 ∧ setL (one k f r) k ((f : Int), (r : Int)) = one k f r := by
  have hp : okB ((f : Int), (r : Int)) = true := by unfold okB; simp; omega
  have e1 : setE noP k ((f : Int), (r : Int)) = 0 := by rw [setE_is hk, if_pos hp, plN_no, if_neg (by decide)]
  have e2 : setE (one k f r) k ((f : Int), (r : Int)) = 5 := by rw [setE_is hk, if_pos hp, show plN (one k f r) k = _ from plN_set noP_ok k hk _, if_pos (th_ok hp)]
  refine ⟨e1, ?_, e2, ?_⟩
  · unfold setL; rw [if_pos e1]; rfl
  · unfold setL; rw [e2]; rfl
end Go.Proofs.Ytlgohgjnocoadaa.Gm
