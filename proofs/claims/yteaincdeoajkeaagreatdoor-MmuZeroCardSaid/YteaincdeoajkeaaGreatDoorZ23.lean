/- Several texts in one: Zk Zp Iz Bw -/
import Derived.Test.YteaincdeoajkeaaGreatDoorZ19
import Derived.Test.YteaincdeoajkeaaGreatDoorZ22
import Derived.Test.YteaincdeoajkeaaGreatDoorZ11
import Derived.Test.YteaincdeoajkeaaGreatDoorZ18
import Derived.Test.YteaincdeoajkeaaGreatDoorZ13
import Derived.Test.YteaincdeoajkeaaGreatDoorZ02
import Derived.Deep.QuietTactic
import Derived.BigQuiet
section
/- hermitagelaw17: awake. -/
namespace Go.Proofs.YteaincdeoajkeaaGreatDoor.Wa
open Go.RowKit Go.Shelf Ut Oc Vw
set_option maxRecDepth 100000
set_option linter.unusedVariables false
set_option maxHeartbeats 4000000

def awZ (i : Nat) : Int × Int := if i = 0 then (64, 513) else (128, 771)
theorem aw_loc : locF 12 (putS (mapG 0) awZ (cnt2 2)) (mapG 0) true 1 false 5 1 = ((3, 8, 5), 0) := by decide +kernel
end Go.Proofs.YteaincdeoajkeaaGreatDoor.Wa
end
section
/- hermitagelaw17: WalkTables. -/
namespace Go.Proofs.YteaincdeoajkeaaGreatDoor.Wa
open Go.RowKit Go.Shelf Ut Oc Vw
set_option maxRecDepth 100000
set_option linter.unusedVariables false
set_option maxHeartbeats 4000000

/-- what a walk's answer says of the tables -/
structure Says (n : Nat) (S : List Int) (L : List Gm.Pl) (p z : Int) (R : Stp) : Prop where
  r8 : R.rt < 8
  l8 : R.lf < 8
  lr : 0 ≤ R.lf → 0 ≤ R.rt
  root : 0 ≤ R.rt → R.rt = p ∧ z < 16384 ∧ hasT n L R.rt = true
  no : R.lf < 0 → R.f ≠ 0 ∧ R.o = false ∧ R.r = 0 ∧ R.g = 0
  leaf : 0 ≤ R.lf → hasT n L R.lf = true ∧ ∃ x y, wordT n S L R.rt (z / 1024).toNat = x ∧ wordT n S L R.lf (z / 64 % 16).toNat = y ∧ Pe.tabF x = 0 ∧ Pe.gF (Pe.tabF x) x = R.lf ∧ Pe.leafF y = R.f ∧ R.o = Pe.oF R.f ∧ R.r = Pe.rF R.f y ∧ R.g = Pe.gF R.f y
theorem none_zero {n : Nat} {L : List Gm.Pl} {p : Int} (h : noneF n L p = 0) : hasT n L p = true := by
  unfold noneF at h
  by_cases ht : hasT n L p = true
  · exact ht
  · rw [if_neg ht] at h; exact absurd h (by decide)
theorem walk_says (n : Nat) (S : List Int) (L : List Gm.Pl) (p z : Int) : Says n S L p z (walkF n S L p z) := by
  unfold walkF
  by_cases h0 : 16384 ≤ z
  · rw [if_pos h0]
    exact ⟨by decide, by decide, by decide, fun h => absurd h (show ¬ (0 : Int) ≤ -1 by decide), fun _ => ⟨show (2 : Int) ≠ 0 by decide, rfl, rfl, rfl⟩, fun h => absurd h (show ¬ (0 : Int) ≤ -1 by decide)⟩
  rw [if_neg h0]
  by_cases h1 : noneF n L p = 0
  · rw [if_neg (fun e => e h1)]
    have ht := none_zero h1
    have hb := hasT_bd ht
    by_cases h2 : rootF n S L p z = 0
    · rw [if_neg (fun e => e h2)]
      by_cases h3 : noneF n L (rootT n S L p z) = 0
      · rw [if_neg (fun e => e h3)]
        have ht3 := none_zero h3
        have hb3 := hasT_bd ht3
        exact ⟨hb.2, hb3.2, fun _ => hb.1, fun _ => ⟨rfl, by omega, ht⟩, fun h => absurd h (show ¬ rootT n S L p z < 0 by omega), fun _ => ⟨ht3, _, _, rfl, rfl, h2, rfl, rfl, rfl, rfl, rfl⟩⟩
      · rw [if_pos h3]
        exact ⟨hb.2, by show (-1 : Int) < 8; decide, fun _ => hb.1, fun _ => ⟨rfl, by omega, ht⟩, fun _ => ⟨h3, rfl, rfl, rfl⟩, fun h => absurd h (show ¬ (0 : Int) ≤ -1 by decide)⟩
    · rw [if_pos h2]
      exact ⟨hb.2, by show (-1 : Int) < 8; decide, fun _ => hb.1, fun _ => ⟨rfl, by omega, ht⟩, fun _ => ⟨h2, rfl, rfl, rfl⟩, fun h => absurd h (show ¬ (0 : Int) ≤ -1 by decide)⟩
  · rw [if_pos h1]
    exact ⟨by show (-1 : Int) < 8; decide, by show (-1 : Int) < 8; decide, fun h => absurd h (show ¬ (0 : Int) ≤ -1 by decide), fun h => absurd h (show ¬ (0 : Int) ≤ -1 by decide), fun _ => ⟨h1, rfl, rfl, rfl⟩, fun h => absurd h (show ¬ (0 : Int) ≤ -1 by decide)⟩

/-- all that is there may be read -/
def OddM (L : List Gm.Pl) : Prop := ∀ j, Gm.thB (Gm.plN L j) = true → (Gm.plN L j).2 % 2 = 1
theorem odd_mem (T : Nat → Bool) : ∀ k, ∀ p ∈ mkG T k, p = (0, 0) ∨ p.2 % 2 = 1 := by
  intro k
  induction k with
  | zero => intro p hp; exact .inl (List.eq_of_mem_replicate hp)
  | succ k ih =>
    intro p hp
    unfold mkG at hp
    by_cases ht : T k = true
    · rw [if_pos ht] at hp
      unfold Gm.setL at hp
      by_cases he : Gm.setE (mkG T k) k (zk k) = 0
      · rw [if_pos he] at hp
        rcases List.mem_or_eq_of_mem_set hp with h | rfl
        · exact ih p h
        · exact .inr (by unfold zk; show (3 - 2 * ((k : Int) / 9)) % 2 = 1; omega)
      · rw [if_neg he] at hp; exact ih p hp
    · rw [if_neg ht] at hp; exact ih p hp
theorem odd_map (x : Nat) : OddM (mapG x) := fun j hj => by
  have h := odd_mem (hereB x) 10
  by_cases hl : j < (mapG x).length
  · have e : Gm.plN (mapG x) j = (mapG x)[j] := by simp [Gm.plN, List.getD, hl]
    rcases h _ (List.getElem_mem hl) with h1 | h1
    · rw [e, h1] at hj; exact absurd hj (by decide)
    · rw [e]; exact h1
  · have e : Gm.plN (mapG x) j = (0, 0) := by simp [Gm.plN, List.getD, List.getElem?_eq_none (Nat.le_of_not_lt hl)]
    rw [e] at hj; exact absurd hj (by decide)
section
variable {n : Nat} {S : List Int} {L : List Gm.Pl}
/-- a table's word, loaded -/
theorem load_word (hL : Gm.Okay L) (hO : OddM L) (hS : S.length = 2048) (hB : AreBytes S) {p : Int} {i : Nat} (hi : i < 16) (ht : hasT n L p = true) :
    findF n L (64 * p + 4 * (i : Int)) 4 1 = 0 ∧ loadF n S L (64 * p + 4 * (i : Int)) 4 = (wordT n S L p i : Int) := by
  have hb := hasT_bd ht
  obtain ⟨k, rfl⟩ := Int.eq_ofNat_of_zero_le hb.1
  have hk : k < 8 := by omega
  rw [hasT_in n L hk] at ht
  obtain ⟨f, hf1, hf2, hf3, hf4⟩ := ok_frame hL ht
  have hth : Gm.thB (Gm.plN L k) = true := by unfold okP at ht; simp at ht; exact ht.1
  have ea : (64 * (k : Int) + 4 * (i : Int)) / 64 = (k : Int) := by omega
  have eo : ((64 * (k : Int) + 4 * (i : Int)) % 64).toNat = 4 * i := by omega
  have hat : Gm.atP L (k : Int) = Gm.plN L k := Gm.atP_is (by omega)
  have h0 : findF n L (64 * (k : Int) + 4 * (i : Int)) 4 1 = 0 := by
    have hfl : fltF L (64 * (k : Int) + 4 * (i : Int)) 4 1 = 0 := by
      unfold fltF
      rw [if_pos (by simp [isW]; omega), if_neg (by omega), ea, hat]
      unfold Gm.alwF
      rw [if_pos hth, if_pos (by unfold Gm.mayB; simp [hO k hth])]
    unfold findF
    rw [if_pos hfl, ea, hat, hf1, if_pos (by omega)]
  refine ⟨h0, ?_⟩
  unfold loadF
  rw [if_pos h0, ea, hat, eo, hf1]
  have hp : Part.fine (64 * k + 4 * i) 4 ⟨k, 4 * i, 4, 0⟩ := ⟨by show 4 * i + 4 ≤ 64; omega, by show 0 + 4 ≤ 4; omega, by show 64 * k + 4 * i + 0 = 64 * k + 4 * i; omega, by show 0 < 4; omega⟩
  have hq := prtB_eq (S := S) (L := L) hS hp (by show frN L k < 32; omega)
  unfold prtB at hq
  dsimp only at hq
  rw [hf2] at hq
  show num (((Fr.frameL S (Int.toNat (f : Int))).drop (4 * i)).take (Int.toNat 4)) = _
  rw [Int.toNat_natCast, show Int.toNat 4 = 4 from rfl, hq]
  unfold wordT
  rw [hasT_in n L hk, if_pos ht, Int.toNat_natCast, Int.toNat_of_nonneg (num4 hB _).1]
  rfl
/-- .. is an own page -/
theorem own_page {p : Int} (ht : hasT n L p = true) : ownB n L (64 * p) 64 = true := by
  have hb := hasT_bd ht
  obtain ⟨k, rfl⟩ := Int.eq_ofNat_of_zero_le hb.1
  have hk : k < 8 := by omega
  rw [hasT_in n L hk] at ht
  unfold ownB
  rw [show Int.toNat (64 * (k : Int)) = 64 * k by omega, show Int.toNat 64 = 64 from rfl]
  have e : ((List.range 64).all fun i => okA n L (64 * k + i)) = true := List.all_eq_true.2 fun i hi => by
    have : i < 64 := by simpa using hi
    unfold okA
    rw [show (64 * k + i) / 64 = k by omega]
    exact ht
  rw [e]
  simp
  omega
end
end Go.Proofs.YteaincdeoajkeaaGreatDoor.Wa
end
section
/- Stage 20, plainly: what a walk leans on: it says the same as long as both tables' pages lie there with the same bytes; writes, drops and pages that are there again that leave it. -/
namespace Go.Proofs.YteaincdeoajkeaaGreatDoor.Mm
open Go.RowKit Go.Shelf Ut Oc Vw Wa
set_option linter.unusedVariables false

section
variable {S S' : List Int} {L L' : List Gm.Pl} {p z : Int} {f o i : Nat}
theorem getD_frame (hS : S.length = 2048) (hf : f < 32) (ho : o < 64) : S.getD (64 * f + o) 0 = (Fr.frameL S f).getD o 0 := by
  unfold Fr.frameL
  rw [List.getD_eq_getElem?_getD, List.getD_eq_getElem?_getD, List.getElem?_take, if_pos ho, List.getElem?_drop]
/-- a table's word hangs on its page's bytes -/
theorem word_frame (hS : S.length = 2048) (hS' : S'.length = 2048) (hL : Gm.Okay L) (hL' : Gm.Okay L') (hi : i < 16) (ht : hasT 12 L' p = hasT 12 L p) (hf : hasT 12 L p = true → Fr.frameL S' (frN L' p.toNat) = Fr.frameL S (frN L p.toNat)) : wordT 12 S' L' p i = wordT 12 S L p i := by
  unfold wordT
  rw [ht]
  by_cases h : hasT 12 L p = true
  · rw [if_pos h, if_pos h]
    have hb := hasT_bd h
    have h' : hasT 12 L' p = true := ht.trans h
    obtain ⟨q, rfl⟩ : ∃ q : Nat, p = q := ⟨p.toNat, by omega⟩
    have hq : q < 8 := by omega
    rw [hasT_in 12 L hq] at h
    rw [hasT_in 12 L' hq] at h'
    obtain ⟨f1, _, e1, _, b1⟩ := ok_frame hL h
    obtain ⟨f2, _, e2, _, b2⟩ := ok_frame hL' h'
    have hf := hf (by rw [hasT_in 12 L hq]; exact h)
    rw [Int.toNat_natCast] at hf ⊢
    rw [e1, e2] at hf
    congr 2
    unfold rB
    apply List.map_congr_left
    intro j hj
    rw [List.mem_range] at hj
    unfold posn
    have e3 : (64 * q + 4 * i + j) / 64 = q := by omega
    rw [e3, e1, e2, getD_frame hS' b2 (by omega), getD_frame hS b1 (by omega), hf]
  · rw [if_neg h, if_neg h]
/-- a walk hangs on its two tables -/
theorem walk_cong (hS : S.length = 2048) (hS' : S'.length = 2048) (hL : Gm.Okay L) (hL' : Gm.Okay L') (h0 : 0 ≤ z)
    (h1 : hasT 12 L' p = hasT 12 L p) (f1 : hasT 12 L p = true → Fr.frameL S' (frN L' p.toNat) = Fr.frameL S (frN L p.toNat))
    (h2 : hasT 12 L p = true → hasT 12 L' (rootT 12 S L p z) = hasT 12 L (rootT 12 S L p z)) (f2 : hasT 12 L p = true → hasT 12 L (rootT 12 S L p z) = true → Fr.frameL S' (frN L' (rootT 12 S L p z).toNat) = Fr.frameL S (frN L (rootT 12 S L p z).toNat)) : walkF 12 S' L' p z = walkF 12 S L p z := by
  unfold walkF
  by_cases hz : 16384 ≤ z
  · rw [if_pos hz, if_pos hz]
  rw [if_neg hz, if_neg hz]
  have hn : noneF 12 L' p = noneF 12 L p := by unfold noneF; rw [h1]
  rw [hn]
  unfold st1
  rw [hn]
  by_cases hp : noneF 12 L p = 0
  · have hpn : ¬ noneF 12 L p ≠ 0 := fun e => e hp
    rw [if_neg hpn, if_neg hpn]
    have ht := none_zero hp
    have hw : rootW 12 S' L' p z = rootW 12 S L p z := word_frame hS hS' hL hL' (by omega) h1 f1
    have hrf : rootF 12 S' L' p z = rootF 12 S L p z := by unfold rootF; rw [hw]
    have hrt : rootT 12 S' L' p z = rootT 12 S L p z := by unfold rootT; rw [hrf, hw]
    unfold st2 st3
    rw [hrf, hrt]
    have hn2 : noneF 12 L' (rootT 12 S L p z) = noneF 12 L (rootT 12 S L p z) := by unfold noneF; rw [h2 ht]
    rw [hn2]
    by_cases hr : rootF 12 S L p z ≠ 0
    · rw [if_pos hr, if_pos hr]
    · rw [if_neg hr, if_neg hr]
      by_cases hl : noneF 12 L (rootT 12 S L p z) = 0
      · have hln : ¬ noneF 12 L (rootT 12 S L p z) ≠ 0 := fun e => e hl
        rw [if_neg hln, if_neg hln]
        have ht2 := none_zero hl
        have hw2 : leafW 12 S' L' p z = leafW 12 S L p z := by
          unfold leafW
          rw [hrt]
          exact word_frame hS hS' hL hL' (by omega) (h2 ht) (f2 ht)
        have hle : leafE 12 S' L' p z = leafE 12 S L p z := by unfold leafE; rw [hw2]
        unfold st4
        rw [hle, hw2, hrt]
      · rw [if_pos hl, if_pos hl]
  · rw [if_pos hp, if_pos hp]
/-- all addresses of a page are walked alike -/
theorem walk_page (S : List Int) (L : List Gm.Pl) (p z : Int) (h0 : 0 ≤ z) : walkF 12 S L p z = walkF 12 S L p (64 * (z / 64)) := by
  have e1 : 64 * (z / 64) / 1024 = z / 1024 := by omega
  have e2 : 64 * (z / 64) / 64 % 16 = z / 64 % 16 := by omega
  have e3 : (16384 ≤ 64 * (z / 64)) = (16384 ≤ z) := by rw [eq_iff_iff]; omega
  unfold walkF st2 st3 st4 leafE leafW rootT rootF rootW
  rw [e1, e2]
  simp only [e3]
end

/-- law20's pages: each in a frame of its own -/
theorem lay_frame {L : List Gm.Pl} (h : Lay L) {i : Nat} (hi : i < 12) (ho : Gm.thB (Gm.plN L i) = true) : Gm.plN L i = placeP i ∧ frN L i = 11 - i := by
  rcases h.2 i hi with e | e
  · rw [e] at ho; exact absurd ho (by decide)
  · refine ⟨e, ?_⟩
    unfold frN
    rw [e]
    unfold placeP
    dsimp only
    omega
theorem lay_drop {L : List Gm.Pl} (h : Lay L) (p : Int) (hL : Gm.Okay (Gm.drL L p)) : Lay (Gm.drL L p) := by
  refine ⟨hL, fun i hi => ?_⟩
  unfold Gm.drL
  by_cases he : Gm.drE L p = 0
  · rw [if_pos he]
    by_cases hip : i = p.toNat
    · subst hip
      exact .inl (Gm.plN_set h.1 _ hi _)
    · rw [Gm.plN_other L _ i hip]
      exact h.2 i hi
  · rw [if_neg he]
    exact h.2 i hi
theorem lay_set {L : List Gm.Pl} (h : Lay L) (p : Int) (h0 : 0 ≤ p) (hL : Gm.Okay (Gm.setL L p (placeP p))) : Lay (Gm.setL L p (placeP p)) := by
  refine ⟨hL, fun i hi => ?_⟩
  unfold Gm.setL
  by_cases he : Gm.setE L p (placeP p) = 0
  · rw [if_pos he]
    by_cases hip : i = p.toNat
    · subst hip
      rw [Gm.plN_set h.1 _ hi]
      exact .inr (by rw [Int.toNat_of_nonneg h0])
    · rw [Gm.plN_other L _ i hip]
      exact h.2 i hi
  · rw [if_neg he]
    exact h.2 i hi
theorem has_th {L : List Gm.Pl} {p : Int} (h : hasT 12 L p = true) : ∃ q : Nat, p = q ∧ q < 8 ∧ Gm.thB (Gm.plN L q) = true := by
  have hb := hasT_bd h
  obtain ⟨q, rfl⟩ : ∃ q : Nat, p = q := ⟨p.toNat, by omega⟩
  refine ⟨q, rfl, by omega, ?_⟩
  rw [hasT_in 12 L (by omega)] at h
  unfold okP at h
  simp at h
  exact h.1

/-- a translation that a walk says: of that page from that root, through these tables, with these rights, to that page -/
structure TrW (S : List Int) (L : List Gm.Pl) (kr kp rt lf r g : Int) : Prop where
  w : walkF 12 S L kr (64 * kp) = ⟨true, r, g, 0, rt, lf⟩
  k0 : 0 ≤ kp
section
variable {S S' : List Int} {L L' : List Gm.Pl} {kr kp rt lf r g : Int}
theorem TrW.tables (h : TrW S L kr kp rt lf r g) : rt = kr ∧ hasT 12 L rt = true ∧ hasT 12 L lf = true ∧ lf = rootT 12 S L kr (64 * kp) := by
  have hs := walk_says 12 S L kr (64 * kp)
  rw [h.w] at hs
  have hl : 0 ≤ lf := by
    by_cases hl : 0 ≤ lf
    · exact hl
    · exact absurd rfl (hs.no (show lf < 0 by omega)).1
  obtain ⟨e, _, ht⟩ := hs.root (hs.lr hl)
  have hz : (walkF 12 S L kr (64 * kp)).f = 0 := by rw [h.w]
  obtain ⟨_, _, _, _, _, e4⟩ := walkF_zero hz
  have e5 := congrArg Stp.lf (h.w.symm.trans e4)
  exact ⟨e, ht, (hs.leaf hl).1, e5⟩
theorem TrW.stay (h : TrW S L kr kp rt lf r g) (hS : S.length = 2048) (hS' : S'.length = 2048) (hL : Gm.Okay L) (hL' : Gm.Okay L') (h1 : hasT 12 L' rt = true) (h2 : hasT 12 L' lf = true)
    (f1 : Fr.frameL S' (frN L' rt.toNat) = Fr.frameL S (frN L rt.toNat)) (f2 : Fr.frameL S' (frN L' lf.toNat) = Fr.frameL S (frN L lf.toNat)) : TrW S' L' kr kp rt lf r g := by
  obtain ⟨e, t1, t2, e2⟩ := h.tables
  subst e
  have hk := h.k0
  refine ⟨?_, hk⟩
  rw [walk_cong hS hS' hL hL' (by omega) (h1.trans t1.symm) (fun _ => f1) (fun _ => by rw [← e2]; exact h2.trans t2.symm) (fun _ _ => by rw [← e2]; exact f2)]
  exact h.w
/-- another page is written -/
theorem TrW.write (h : TrW S L kr kp rt lf r g) (hS : S.length = 2048) (hL : Lay L) {j : Nat} (hj : j < 12) (hth : Gm.thB (Gm.plN L j) = true) (hr : rt ≠ j) (hl : lf ≠ j) {xs : List Int} (hx : xs.length = 64) : TrW (Fr.layF S (frN L j) xs) L kr kp rt lf r g := by
  obtain ⟨_, t1, t2, _⟩ := h.tables
  have hfj := (lay_frame hL hj hth).2
  have hf : ∀ q : Int, hasT 12 L q = true → q ≠ j → Fr.frameL (Fr.layF S (frN L j) xs) (frN L q.toNat) = Fr.frameL S (frN L q.toNat) := fun q hq hne => by
    obtain ⟨m, rfl, hm, hmt⟩ := has_th hq
    have hfm := (lay_frame hL (show m < 12 by omega) hmt).2
    rw [Int.toNat_natCast]
    exact Fr.frameL_other hS (by omega) (by omega) hx (by omega)
  exact h.stay hS (Fr.length_layF hS (by omega) hx) hL.1 hL.1 t1 t2 (hf rt t1 hr) (hf lf t2 hl)
theorem TrW.drop (h : TrW S L kr kp rt lf r g) (hS : S.length = 2048) (hL : Gm.Okay L) {p : Int} (hL' : Gm.Okay (Gm.drL L p)) (hr : rt ≠ p) (hl : lf ≠ p) : TrW S (Gm.drL L p) kr kp rt lf r g := by
  obtain ⟨_, t1, t2, _⟩ := h.tables
  have hq : ∀ q : Int, hasT 12 L q = true → q ≠ p → hasT 12 (Gm.drL L p) q = true ∧ frN (Gm.drL L p) q.toNat = frN L q.toNat := fun q hq hne => by
    obtain ⟨m, rfl, hm, hmt⟩ := has_th hq
    have e := Gm.stay_drop (L := L) (k := m) rfl p (fun e => hne e.symm)
    rw [Int.toNat_natCast]
    unfold frN
    rw [hasT_in 12 _ hm, e, ← hasT_in 12 L hm]
    exact ⟨hq, rfl⟩
  obtain ⟨a1, a2⟩ := hq rt t1 hr
  obtain ⟨b1, b2⟩ := hq lf t2 hl
  exact h.stay hS hS hL hL' a1 b1 (by rw [a2]) (by rw [b2])
theorem TrW.set (h : TrW S L kr kp rt lf r g) (hS : S.length = 2048) (hL : Gm.Okay L) {p : Int} {pl : Gm.Pl} (hL' : Gm.Okay (Gm.setL L p pl)) : TrW S (Gm.setL L p pl) kr kp rt lf r g := by
  obtain ⟨_, t1, t2, _⟩ := h.tables
  have hq : ∀ q : Int, hasT 12 L q = true → hasT 12 (Gm.setL L p pl) q = true ∧ frN (Gm.setL L p pl) q.toNat = frN L q.toNat := fun q hq => by
    obtain ⟨m, rfl, hm, hmt⟩ := has_th hq
    have e := Gm.stay_set (L := L) (k := m) rfl hmt p pl
    rw [Int.toNat_natCast]
    unfold frN
    rw [hasT_in 12 _ hm, e, ← hasT_in 12 L hm]
    exact ⟨hq, rfl⟩
  obtain ⟨a1, a2⟩ := hq rt t1
  obtain ⟨b1, b2⟩ := hq lf t2
  exact h.stay hS hS hL hL' a1 b1 (by rw [a2]) (by rw [b2])
/-- what a look by the translation comes to -/
theorem TrW.loc (h : TrW S L kr kp rt lf r g) (us : Bool) (va k : Int) (h0 : 0 ≤ va) (hv : va / 64 = kp) : locF 12 S L true kr us va k = if Pe.alwB true r k us = false then ((0, 0, 0), 6) else (hitF 12 L (g * 64 + va % 64) 1 k, findF 12 L (g * 64 + va % 64) 1 k) := by
  unfold locF
  have e : walkF 12 S L kr va = ⟨true, r, g, 0, rt, lf⟩ := by rw [walk_page S L kr va h0, hv]; exact h.w
  rw [e, if_neg (by decide), if_neg (fun e => e rfl)]
theorem TrW.g0 (h : TrW S L kr kp rt lf r g) : 0 ≤ g ∧ g < 32 := by
  have := walkF_page (n := 12) (S := S) (L := L) (p := kr) (z := 64 * kp) (by rw [h.w])
  rw [h.w] at this
  exact this
/-- what a walk that finds it says -/
theorem trW_of (S : List Int) (L : List Gm.Pl) (kr va : Int) (h0 : 0 ≤ va) (hf : (walkF 12 S L kr va).f = 0) : TrW S L kr (va / 64) (walkF 12 S L kr va).rt (walkF 12 S L kr va).lf (walkF 12 S L kr va).r (walkF 12 S L kr va).g := by
  refine ⟨?_, by omega⟩
  rw [← walk_page S L kr va h0]
  have ho : (walkF 12 S L kr va).o = true := by
    obtain ⟨_, _, _, _, h4, e⟩ := walkF_zero hf
    rw [e]
    show Pe.oF (leafE 12 S L kr va) = true
    unfold Pe.oF
    rw [h4]
    decide
  generalize walkF 12 S L kr va = R at hf ho
  obtain ⟨o, r, g, f, rt, lf⟩ := R
  dsimp only at hf ho
  rw [hf, ho]
end
section
variable {L : List Gm.Pl}
/-- where a byte of a page that is there lies -/
theorem find_there (hL : Lay L) {g off k : Int} (hg : 0 ≤ g) (ho : 0 ≤ off) (ho2 : off < 64) (hth : Gm.thB (Gm.atP L g) = true) :
    findF 12 L (g * 64 + off) 1 k = Gm.alwF (Gm.atP L g) g k ∧ (Gm.alwF (Gm.atP L g) g k = 0 → hitF 12 L (g * 64 + off) 1 k = (g, (Gm.atP L g).1, off)) ∧ (Gm.alwF (Gm.atP L g) g k ≠ 0 → hitF 12 L (g * 64 + off) 1 k = (0, 0, 0)) ∧ g < 12 ∧ Gm.atP L g = placeP g := by
  have hg12 : g < 12 := by
    by_cases h : g < 12
    · exact h
    · rw [Gm.atP_no (.inr (by omega))] at hth; exact absurd hth (by decide)
  obtain ⟨q, rfl⟩ : ∃ q : Nat, g = q := ⟨g.toNat, by omega⟩
  have e : Gm.atP L (q : Int) = placeP q := by
    rw [Gm.atP_is (by omega)] at hth ⊢
    exact (lay_frame hL (by omega) hth).1
  have e1 : ((q : Int) * 64 + off) / 64 = q := by omega
  have e2 : ((q : Int) * 64 + off) % 64 = off := by omega
  have hfl : fltF L ((q : Int) * 64 + off) 1 k = Gm.alwF (Gm.atP L q) q k := by
    unfold fltF
    rw [if_pos (by simp [isW, Int.emod_one]), if_neg (by omega), e1]
  have hfr : (Gm.atP L (q : Int)).1 < (12 : Nat) := by
    rw [e]
    unfold placeP
    dsimp only
    omega
  have hff : findF 12 L ((q : Int) * 64 + off) 1 k = Gm.alwF (Gm.atP L q) q k := by
    unfold findF
    rw [hfl, e1]
    by_cases h : Gm.alwF (Gm.atP L q) q k = 0
    · rw [if_pos h, if_pos hfr, h]
    · rw [if_neg h]
  refine ⟨hff, fun h => ?_, fun h => ?_, by omega, e⟩
  · unfold hitF
    rw [hff, if_pos h, e1, e2]
  · unfold hitF
    rw [hff, if_neg h]
end
end Go.Proofs.YteaincdeoajkeaaGreatDoor.Mm
end
section
/- The document's tables in the shadow (hermitageref19): rows of seven integers; what its acts leave, plainly; Table, own, Get. -/
namespace Go.Proofs.YteaincdeoajkeaaGreatDoor.Sw
open Go.RowKit Ut
set_option maxRecDepth 100000
set_option linter.unusedVariables false
set_option maxHeartbeats 4000000

/-- a translation and the pages that it was filled through -/
structure Ln where
  kr : Int
  kp : Int
  ep : Int
  ef : Int
  er : Int
  rt : Int
  lf : Int
deriving DecidableEq
instance : Inhabited Ln := ⟨⟨0, 0, 0, 0, 0, 0, 0⟩⟩
def Ln.l (x : Ln) : List Int := [x.kr, x.kp, x.ep, x.ef, x.er, x.rt, x.lf]
abbrev Ln.v (x : Ln) : Value := .agg #[.int .i64 x.kr, .int .i64 x.kp, .int .i64 x.ep, .int .i64 x.ef, .int .i64 x.er, .int .i64 x.rt, .int .i64 x.lf]
/-- it is that key's; it was filled through that page; it is to be told as a key, as what is kept -/
def Ln.is (x : Ln) (p q : Int) : Bool := x.kr == p && x.kp == q
def Ln.by_ (x : Ln) (p : Int) : Bool := x.rt == p || x.lf == p
def Ln.key (x : Ln) : List Int := [x.kr, x.kp]
def Ln.kept (x : Ln) : List Int := [x.kr, x.kp, x.ep, x.ef, x.er]
/-- a row of them lies at a -/
def LnRow (w : World) (a : Option Addr) (l : List Ln) : Prop := IRow 7 w a (l.map Ln.l)
theorem LnRow.at_ {w : World} {a : Option Addr} {l : List Ln} (h : LnRow w a l) {i : Nat} {x : Ln} (hx : l[i]? = some x) : ∃ y, a = some y ∧ y.block < w.heap.size ∧ (y.add (i * 7)).block < w.heap.size ∧ w.cell? (y.add (i * 7)) = some (.int .i64 x.kr) ∧ w.cell? ⟨(y.add (i * 7)).block, (y.add (i * 7)).off + 1, none⟩ = some (.int .i64 x.kp) ∧ w.cell? ⟨(y.add (i * 7)).block, (y.add (i * 7)).off + 2, none⟩ = some (.int .i64 x.ep) ∧ w.cell? ⟨(y.add (i * 7)).block, (y.add (i * 7)).off + 3, none⟩ = some (.int .i64 x.ef) ∧ w.cell? ⟨(y.add (i * 7)).block, (y.add (i * 7)).off + 4, none⟩ = some (.int .i64 x.er) ∧ w.cell? ⟨(y.add (i * 7)).block, (y.add (i * 7)).off + 5, none⟩ = some (.int .i64 x.rt) ∧ w.cell? ⟨(y.add (i * 7)).block, (y.add (i * 7)).off + 6, none⟩ = some (.int .i64 x.lf) := by
  obtain ⟨y, e, hy, hy2, h0, hj⟩ := IRow.at_ (x := x.l) h (by rw [List.getElem?_map, hx]; rfl)
  exact ⟨y, e, hy, hy2, h0 _ rfl, hj 1 _ (by decide) rfl, hj 2 _ (by decide) rfl, hj 3 _ (by decide) rfl, hj 4 _ (by decide) rfl, hj 5 _ (by decide) rfl, hj 6 _ (by decide) rfl⟩
section
variable {w w' : World} {d n cap : Nat} {a : Option Addr} {l : List Ln}
end
/-- what is told plainly: is a page a table; a key's; those that stay -/
def tabL (l : List Ln) (p : Int) : Bool := l.any fun x => x.by_ p
def findS (l : List Ln) (p q : Int) : Option Ln := l.find? (·.is p q)
def entS (o : Option Ln) : Int × Int × Int := match o with | some x => (x.ep, x.ef, x.er) | none => (0, 0, 0)
def entW (e : Int × Int × Int) : Value := .agg #[.int .i64 e.1, .int .i64 e.2.1, .int .i64 e.2.2]
def entD (e : Int × Int × Int) : List Value := [.int .i64 e.1, .int .i64 e.2.1, .int .i64 e.2.2]
def ownP (p : Int) : Bool := decide (0 ≤ p) && decide (p < 8)
theorem drewN_below {B : Nat} {w w' : World} (h : Below B w w') (d : Nat) : Below B w (w'.drewN d) := ⟨h.os, h.tape, h.output, h.size, h.block⟩
theorem by_cases_ (x : Ln) (p : Int) : (x.by_ p = true ∧ (x.rt == p) = true) ∨ (x.by_ p = true ∧ (x.rt == p) = false ∧ (x.lf == p) = true) ∨ (x.by_ p = false ∧ (x.rt == p) = false ∧ (x.lf == p) = false) := by
  unfold Ln.by_
  cases x.rt == p <;> cases x.lf == p <;> simp
theorem isS_cases (x : Ln) (p q : Int) : (x.is p q = true ∧ x.kr = p ∧ x.kp = q) ∨ (x.is p q = false ∧ (x.kr == p) = false) ∨ (x.is p q = false ∧ x.kr = p ∧ (x.kp == q) = false) := by
  unfold Ln.is
  by_cases h1 : x.kr = p
  · by_cases h2 : x.kp = q
    · exact .inl ⟨by simp [h1, h2], h1, h2⟩
    · exact .inr (.inr ⟨by simp [h2], h1, by simp [h2]⟩)
  · exact .inr (.inl ⟨by simp [h1], by simp [h1]⟩)
theorem noneS {f : Ln → Bool} {l : List Ln} {i : Nat} {x : Ln} (h : ∀ y ∈ l.take i, f y = false) (hx : l[i]? = some x) (hi : f x = false) : ∀ y ∈ l.take (i + 1), f y = false := fun y hy => by
  rw [List.take_add_one, hx] at hy
  rcases List.mem_append.1 hy with hy | hy
  · exact h y hy
  · simp at hy
    rw [hy]
    exact hi
theorem foundS {l : List Ln} {p q : Int} {i : Nat} {x : Ln} (h : ∀ y ∈ l.take i, y.is p q = false) (hx : l[i]? = some x) (hi : x.is p q = true) : findS l p q = some x := by
  unfold findS
  obtain ⟨hl, e⟩ := List.getElem?_eq_some_iff.1 hx
  rw [List.find?_eq_some_iff_getElem]
  refine ⟨hi, i, hl, e, fun j hj => ?_⟩
  have := h l[j] (by rw [List.mem_take_iff_getElem]; exact ⟨j, by omega, rfl⟩)
  simp [this]
theorem absentS {l : List Ln} {p q : Int} (h : ∀ y ∈ l, y.is p q = false) : findS l p q = none := by
  unfold findS
  rw [List.find?_eq_none]
  intro y hy
  simp [h y hy]

section
variable {d n cap : Nat} {a : Option Addr} {l : List Ln}
end
end Go.Proofs.YteaincdeoajkeaaGreatDoor.Sw
end
