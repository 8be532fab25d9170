/- Several texts in one: Ym Xl -/
import Derived.Test.YtoafonbplbblpaaZ21
import Derived.StillTailTactics
import Derived.Test.YtoafonbplbblpaaZ14
import Derived.Deep.Cut
section
/- Package view: Write of the program. -/
namespace Go.Proofs.Ytoafonbplbblpaa.Vw
open Go.RowKit Go.Shelf Ut Oc
set_option maxRecDepth 100000
set_option linter.unusedVariables false
set_option maxHeartbeats 4000000

theorem prtS_bytes {L : List Gm.Pl} {S : List Int} (h : AreBytes S) {zs : List Int} (hz : AreBytes zs) (p : Part) (i : Nat) : AreBytes (prtS L S zs p i) := by
  induction i with
  | zero => exact h
  | succ i ih => exact bytes_set ih _ _ (hz.at_ _)

section
variable {b s m n : Nat} {S : List Int} {L : List Gm.Pl} {D : List Bool}
/-- between two parts: their bytes are laid, their pages marked -/
def WrI (b s m n : Nat) (S : List Int) (L : List Gm.Pl) (D : List Bool) (zs : List Int) (Bv Bs : Nat) (sv : Value) {a K : Nat} (pre : List (BP a K)) (W : World) : Prop :=
  PV W b s m n (foldS L zs S pre) L (foldD D pre) ∧ Boxed W Bv 27 (.pointer (some ⟨b, 0, none⟩)) ∧ Boxed W Bs 122 sv
theorem wrI_own (zs : List Int) (Bv Bs : Nat) (sv : Value) {a K : Nat} (B : Nat) : OwnFrom B (fun (pre : List (BP a K)) W => WrI b s m n S L D zs Bv Bs sv pre W) := fun pre X Y row hs hg hr => by
  obtain ⟨h1, h2, h3⟩ := hs
  have hr2 := fun r e => (hr r e).2
  exact ⟨pv_own h1 hg hr2, boxed_own _ _ (fun _ : Unit => _) () X Y row h2 hg hr2, boxed_own _ _ (fun _ : Unit => _) () X Y row h3 hg hr2⟩
/-- what both sides write, whatever they are asked -/
def wrtS (n : Nat) (S : List Int) (L : List Gm.Pl) (z : Int) (zs : List Int) : List Int := if ownB n L z zs.length = true then wS L S z.toNat zs zs.length else S
def wrtD (n : Nat) (L : List Gm.Pl) (D : List Bool) (z : Int) (k : Nat) : List Bool := if ownB n L z k = true then wD D z.toNat k else D
/-- .. read -/
def rdL (n : Nat) (S : List Int) (L : List Gm.Pl) (z k : Int) : List Int := if ownB n L z k = true then rB L S z.toNat k.toNat else []
theorem rdL_len (n : Nat) (S : List Int) (L : List Gm.Pl) (z k : Int) : (rdL n S L z k).length = if ownB n L z k = true then k.toNat else 0 := by
  unfold rdL
  by_cases h : ownB n L z k = true
  · rw [if_pos h, if_pos h, rB_len]
  · rw [if_neg h, if_neg h]; rfl
theorem read_any (z k : Int) (t : Bool) (h0 : 0 ≤ z) (h1 : z < 4294967296) (ht : ownB n L z k = t) (w : World) (hP : PV w b s m n S L D) :
    Calls Try.prog 58 #[.pointer (some ⟨b, 0, none⟩), .int .u32 z, .int .i64 k] w fun e w' => ∃ p q c, e = .returned (.tuple #[.slice p q c, .bool t]) ∧ Hid (RowK .u8 w' w'.heap.size p q (rdL n S L z k)) ∧ Below w.heap.size w w' := by
  have hno : ownB n L z k = false → Calls Try.prog 58 #[.pointer (some ⟨b, 0, none⟩), .int .u32 z, .int .i64 k] w fun e w' => ∃ p q c, e = .returned (.tuple #[.slice p q c, .bool false]) ∧ Hid (RowK .u8 w' w'.heap.size p q (rdL n S L z k)) ∧ Below w.heap.size w w' := fun hf => by
    have e : rdL n S L z k = [] := by unfold rdL; rw [hf]; rfl
    rw [e]
    exact (read_no _ z k w fun W c hW => each_no _ z k _ W (fun V hV => own_any z k false h0 h1 hf V ((hP.more hW).more hV)) rfl ⟨_, _, rfl⟩).mono fun e w' ⟨he, hb⟩ => ⟨none, 0, 0, he, RowK.nil _ _ _ _, hb⟩
  rcases own_cases n L z k h0 with ⟨h2, _⟩ | ⟨a, K, rfl, rfl, h2, h3⟩
  · rw [h2] at ht
    subst ht
    exact hno h2
  · cases t
    · exact hno ht
    · have e : rdL n S L a K = rB L S a K := by unfold rdL; rw [if_pos ht]; rfl
      rw [e]
      exact read_yes a K h2 ht (h3.1 ht) w hP
end
end Go.Proofs.Ytoafonbplbblpaa.Vw
end
section
/- The walk of hermitagelaw15.GmapRights. -/
namespace Go.Proofs.Ytoafonbplbblpaa.Gm
open Go.RowKit Ut
set_option maxRecDepth 100000
set_option linter.unusedVariables false
set_option maxHeartbeats 8000000

theorem plN_set {L : List Pl} (h : Okay L) (k : Nat) (hk : k < 12) (p : Pl) : plN (L.set k p) k = p := by
  simp [plN, List.getD, h.1, hk]
theorem plN_other (L : List Pl) (k j : Nat) (hne : j ≠ k) (p : Pl) : plN (L.set k p) j = plN L j := by
  simp only [plN, List.getD_eq_getElem?_getD, List.getElem?_set_ne (Ne.symm hne)]
theorem plN_no (k : Nat) : plN noP k = (0, 0) := by
  unfold plN noP
  rw [List.getD_eq_getElem?_getD, List.getElem?_replicate]
  split <;> rfl
/-- the pages told where one alone is there -/
theorem upto_one (k f r : Nat) (hk : k < 12) (h : 0 < r) : upto (noP.set k ((f : Int), (r : Int))) 12 = [(k : Int)] := by
  have ht : thB ((f : Int), (r : Int)) = true := by unfold thB; simp; omega
  have key : ∀ m, upto (noP.set k ((f : Int), (r : Int))) m = if k < m then [(k : Int)] else [] := fun m => by
    induction m with
    | zero => rfl
    | succ m ih =>
      rw [upto_succ, ih]
      by_cases hm : m = k
      · subst hm
        rw [plN_set noP_ok m hk, ht]
        simp
      · rw [plN_other _ _ _ hm, plN_no, if_neg (show ¬ thB (0, 0) = true by decide)]
        by_cases hlt : k < m
        · rw [if_pos hlt, if_pos (by omega)]; rfl
        · rw [if_neg hlt, if_neg (by omega)]; rfl
  rw [key, if_pos hk]

def one (k f r : Nat) : List Pl := noP.set k ((f : Int), (r : Int))
theorem one_at (k f r : Nat) (hk : k < 12) : atP (one k f r) k = ((f : Int), (r : Int)) := (atP_is hk).trans (plN_set noP_ok k hk _)
theorem one_set (k f r : Nat) (hk : k < 12) (hf : f < 32) (h0 : 0 < r) (h3 : r ≤ 3) : setE noP k ((f : Int), (r : Int)) = 0 ∧ setL noP k ((f : Int), (r : Int)) = one k f r ∧ setE (one k f r) k ((f : Int), (r : Int)) = 5 ∧ setL (one k f r) k ((f : Int), (r : Int)) = one k f r := by
  have hp : okB ((f : Int), (r : Int)) = true := by unfold okB; simp; omega
  have e1 : setE noP k ((f : Int), (r : Int)) = 0 := by rw [setE_is hk, if_pos hp, plN_no, if_neg (by decide)]
  have e2 : setE (one k f r) k ((f : Int), (r : Int)) = 5 := by rw [setE_is hk, if_pos hp, show plN (one k f r) k = _ from plN_set noP_ok k hk _, if_pos (th_ok hp)]
  refine ⟨e1, ?_, e2, ?_⟩
  · unfold setL; rw [if_pos e1]; rfl
  · unfold setL; rw [e2]; rfl
end Go.Proofs.Ytoafonbplbblpaa.Gm
end
