/- Several texts in one: Zp -/
import Derived.Test.YtoafonbplbblpaaZ35
import Derived.Test.YtoafonbplbblpaaZ18
section
/- hermitagelaw17: WalkTables. -/
namespace Go.Proofs.Ytoafonbplbblpaa.Wa
open Go.RowKit Go.Shelf Ut Oc Vw
set_option maxRecDepth 100000
set_option linter.unusedVariables false
set_option maxHeartbeats 4000000

/-- what a walk's answer says of the tables -/
structure Says (n : Nat) (S : List Int) (L : List Gm.Pl) (p z : Int) (R : Stp) : Prop where
  r8 : R.rt < 8
  l8 : R.lf < 8
  lr : 0 ≤ R.lf → 0 ≤ R.rt
  root : 0 ≤ R.rt → R.rt = p ∧ z < 16384 ∧ hasT n L R.rt = true
  no : R.lf < 0 → R.f ≠ 0 ∧ R.o = false ∧ R.r = 0 ∧ R.g = 0
  leaf : 0 ≤ R.lf → hasT n L R.lf = true ∧ ∃ x y, wordT n S L R.rt (z / 1024).toNat = x ∧ wordT n S L R.lf (z / 64 % 16).toNat = y ∧ Pe.tabF x = 0 ∧ Pe.gF (Pe.tabF x) x = R.lf ∧ Pe.leafF y = R.f ∧ R.o = Pe.oF R.f ∧ R.r = Pe.rF R.f y ∧ R.g = Pe.gF R.f y
theorem none_zero {n : Nat} {L : List Gm.Pl} {p : Int} (h : noneF n L p = 0) : hasT n L p = true := by
  unfold noneF at h
  by_cases ht : hasT n L p = true
  · exact ht
  · rw [if_neg ht] at h; exact absurd h (by decide)
theorem walk_says (n : Nat) (S : List Int) (L : List Gm.Pl) (p z : Int) : Says n S L p z (walkF n S L p z) := by
  unfold walkF
  by_cases h0 : 16384 ≤ z
  · rw [if_pos h0]
    exact ⟨by decide, by decide, by decide, fun h => absurd h (show ¬ (0 : Int) ≤ -1 by decide), fun _ => ⟨show (2 : Int) ≠ 0 by decide, rfl, rfl, rfl⟩, fun h => absurd h (show ¬ (0 : Int) ≤ -1 by decide)⟩
  rw [if_neg h0]
  by_cases h1 : noneF n L p = 0
  · rw [if_neg (fun e => e h1)]
    have ht := none_zero h1
    have hb := hasT_bd ht
    by_cases h2 : rootF n S L p z = 0
    · rw [if_neg (fun e => e h2)]
      by_cases h3 : noneF n L (rootT n S L p z) = 0
      · rw [if_neg (fun e => e h3)]
        have ht3 := none_zero h3
        have hb3 := hasT_bd ht3
        exact ⟨hb.2, hb3.2, fun _ => hb.1, fun _ => ⟨rfl, by omega, ht⟩, fun h => absurd h (show ¬ rootT n S L p z < 0 by omega), fun _ => ⟨ht3, _, _, rfl, rfl, h2, rfl, rfl, rfl, rfl, rfl⟩⟩
      · rw [if_pos h3]
        exact ⟨hb.2, by show (-1 : Int) < 8; decide, fun _ => hb.1, fun _ => ⟨rfl, by omega, ht⟩, fun _ => ⟨h3, rfl, rfl, rfl⟩, fun h => absurd h (show ¬ (0 : Int) ≤ -1 by decide)⟩
    · rw [if_pos h2]
      exact ⟨hb.2, by show (-1 : Int) < 8; decide, fun _ => hb.1, fun _ => ⟨rfl, by omega, ht⟩, fun _ => ⟨h2, rfl, rfl, rfl⟩, fun h => absurd h (show ¬ (0 : Int) ≤ -1 by decide)⟩
  · rw [if_pos h1]
    exact ⟨by show (-1 : Int) < 8; decide, by show (-1 : Int) < 8; decide, fun h => absurd h (show ¬ (0 : Int) ≤ -1 by decide), fun h => absurd h (show ¬ (0 : Int) ≤ -1 by decide), fun _ => ⟨h1, rfl, rfl, rfl⟩, fun h => absurd h (show ¬ (0 : Int) ≤ -1 by decide)⟩

/-- all that is there may be read -/
def OddM (L : List Gm.Pl) : Prop := ∀ j, Gm.thB (Gm.plN L j) = true → (Gm.plN L j).2 % 2 = 1
theorem odd_mem (T : Nat → Bool) : ∀ k, ∀ p ∈ mkG T k, p = (0, 0) ∨ p.2 % 2 = 1 := by
  intro k
  induction k with
  | zero => intro p hp; exact .inl (List.eq_of_mem_replicate hp)
  | succ k ih =>
    intro p hp
    unfold mkG at hp
    by_cases ht : T k = true
    · rw [if_pos ht] at hp
      unfold Gm.setL at hp
      by_cases he : Gm.setE (mkG T k) k (zk k) = 0
      · rw [if_pos he] at hp
        rcases List.mem_or_eq_of_mem_set hp with h | rfl
        · exact ih p h
        · exact .inr (by unfold zk; show (3 - 2 * ((k : Int) / 9)) % 2 = 1; omega)
      · rw [if_neg he] at hp; exact ih p hp
    · rw [if_neg ht] at hp; exact ih p hp
theorem odd_map (x : Nat) : OddM (mapG x) := fun j hj => by
  have h := odd_mem (hereB x) 10
  by_cases hl : j < (mapG x).length
  · have e : Gm.plN (mapG x) j = (mapG x)[j] := by simp [Gm.plN, List.getD, hl]
    rcases h _ (List.getElem_mem hl) with h1 | h1
    · rw [e, h1] at hj; exact absurd hj (by decide)
    · rw [e]; exact h1
  · have e : Gm.plN (mapG x) j = (0, 0) := by simp [Gm.plN, List.getD, List.getElem?_eq_none (Nat.le_of_not_lt hl)]
    rw [e] at hj; exact absurd hj (by decide)
section
variable {n : Nat} {S : List Int} {L : List Gm.Pl}
/-- a table's word, loaded -/
theorem load_word (hL : Gm.Okay L) (hO : OddM L) (hS : S.length = 2048) (hB : AreBytes S) {p : Int} {i : Nat} (hi : i < 16) (ht : hasT n L p = true) :
    findF n L (64 * p + 4 * (i : Int)) 4 1 = 0 ∧ loadF n S L (64 * p + 4 * (i : Int)) 4 = (wordT n S L p i : Int) := by
  have hb := hasT_bd ht
  obtain ⟨k, rfl⟩ := Int.eq_ofNat_of_zero_le hb.1
  have hk : k < 8 := by omega
  rw [hasT_in n L hk] at ht
  obtain ⟨f, hf1, hf2, hf3, hf4⟩ := ok_frame hL ht
  have hth : Gm.thB (Gm.plN L k) = true := by unfold okP at ht; simp at ht; exact ht.1
  have ea : (64 * (k : Int) + 4 * (i : Int)) / 64 = (k : Int) := by omega
  have eo : ((64 * (k : Int) + 4 * (i : Int)) % 64).toNat = 4 * i := by omega
  have hat : Gm.atP L (k : Int) = Gm.plN L k := Gm.atP_is (by omega)
  have h0 : findF n L (64 * (k : Int) + 4 * (i : Int)) 4 1 = 0 := by
    have hfl : fltF L (64 * (k : Int) + 4 * (i : Int)) 4 1 = 0 := by
      unfold fltF
      rw [if_pos (by simp [isW]; omega), if_neg (by omega), ea, hat]
      unfold Gm.alwF
      rw [if_pos hth, if_pos (by unfold Gm.mayB; simp [hO k hth])]
    unfold findF
    rw [if_pos hfl, ea, hat, hf1, if_pos (by omega)]
  refine ⟨h0, ?_⟩
  unfold loadF
  rw [if_pos h0, ea, hat, eo, hf1]
  have hp : Part.fine (64 * k + 4 * i) 4 ⟨k, 4 * i, 4, 0⟩ := ⟨by show 4 * i + 4 ≤ 64; omega, by show 0 + 4 ≤ 4; omega, by show 64 * k + 4 * i + 0 = 64 * k + 4 * i; omega, by show 0 < 4; omega⟩
  have hq := prtB_eq (S := S) (L := L) hS hp (by show frN L k < 32; omega)
  unfold prtB at hq
  dsimp only at hq
  rw [hf2] at hq
  show num (((Fr.frameL S (Int.toNat (f : Int))).drop (4 * i)).take (Int.toNat 4)) = _
  rw [Int.toNat_natCast, show Int.toNat 4 = 4 from rfl, hq]
  unfold wordT
  rw [hasT_in n L hk, if_pos ht, Int.toNat_natCast, Int.toNat_of_nonneg (num4 hB _).1]
  rfl
/-- .. is an own page -/
theorem own_page {p : Int} (ht : hasT n L p = true) : ownB n L (64 * p) 64 = true := by
  have hb := hasT_bd ht
  obtain ⟨k, rfl⟩ := Int.eq_ofNat_of_zero_le hb.1
  have hk : k < 8 := by omega
  rw [hasT_in n L hk] at ht
  unfold ownB
  rw [show Int.toNat (64 * (k : Int)) = 64 * k by omega, show Int.toNat 64 = 64 from rfl]
  have e : ((List.range 64).all fun i => okA n L (64 * k + i)) = true := List.all_eq_true.2 fun i hi => by
    have : i < 64 := by simpa using hi
    unfold okA
    rw [show (64 * k + i) / 64 = k by omega]
    exact ht
  rw [e]
  simp
  omega
end
end Go.Proofs.Ytoafonbplbblpaa.Wa
end
