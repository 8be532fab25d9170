/- The walk of hermitagelaw16.ViewBack. -/
import Derived.Test.YtlgohgjnocoadaaYo
namespace Go.Proofs.Ytlgohgjnocoadaa.Vw
open Go.RowKit Go.Shelf Ut Oc
set_option maxRecDepth 100000
set_option linter.unusedVariables false
set_option maxHeartbeats 8000000

section
variable {b s m n : Nat} {S : List Int} {L : List Gm.Pl} {D : List Bool}
theorem dirty_nil (w : World) (hP : PV w b s m n S L noD) :
    Calls Try.prog 11 #[.pointer (some ⟨b, 0, none⟩)] w fun e w' => e = .returned (.slice none 0 0) ∧ PV w' b s m n S L noD ∧ Kq [b] w w' := by
  have HP := Lib.hid hP
  have HM := Lib.hid (made_yes b s w hP.cell0)
  have HIX := Lib.hid (idx_bool noD rfl)
  have HA : Hid (∀ (ρ : Operand → Value) (o : Oper), o.op = .load 58 (.tmp 11) → ρ (.tmp 11) = .pointer (some ⟨b, 2, none⟩) → (execOp ρ o).run Try.prog w = .ok (.value (.agg (noD.map Value.bool).toArray)) w) :=
    Lib.hid fun ρ o ho hx => exec_load_blk hP.blk 2 58 (.tmp 11) ho hx (noD.map Value.bool) (vCells_d s m noD) _ Try.underlying58 rfl (size_bools noD rfl)
  clear hP
  generalize hA : (noD.map Value.bool).toArray = A at HA HIX
  clear hA
  go_enter Try.func11, Try.ntmps11
  go_upto_region 4 with (go_at_call 39; refine HM.out.mono ?_; rintro e w1 ⟨rfl, rfl⟩)
  refine wp_region_lit ?_
  refine Great.wpList_readTo rfl _ rfl (.pointer (some ⟨b, 0, none⟩)) (by kernel_rfl) ?_
  refine Great.wpList_readTo rfl _ rfl (.pointer (some ⟨b, 0, none⟩)) (by kernel_rfl) ?_
  refine Great.wpList_readTo rfl _ rfl (.pointer (some ⟨b, 2, none⟩)) (by kernel_rfl) ?_
  refine Great.wpList_readTo rfl _ rfl (.agg A) (HA.out _ _ rfl (by kernel_rfl)) ?_
  refine Great.wpList_readTo rfl _ rfl (.int .i64 0) (by kernel_rfl) ?_
  clear HA
  simp only [Act.put, List.setIfInBounds_toArray, List.set_cons_succ, List.set_cons_zero]
  go_wp2
  go_loopw [3, 13] (fun v j wr => ∃ k : Nat, k ≤ 12 ∧ v = .slice none 0 0 ∧ j = .int .i64 k ∧ Hid (Below w.heap.size w wr)) (fun _ j _ => 12 - (intOf j).toNat)
  case atStart => exact ⟨0, by omega, rfl, rfl, Below.refl _ _⟩
  case round =>
    obtain ⟨k, hk, rfl, rfl, HB⟩ := hrel
    by_cases hlt : k < 12
    · have f1 : (k : Int) < 12 := by omega
      have H3 := Lib.hid hlt
      have hix := HIX.out k hlt
      have hno : noD.getD k false = false := by
        unfold noD
        rw [List.getD_eq_getElem?_getD, List.getElem?_replicate]
        split <;> rfl
      rw [hno] at hix
      clear hlt hk hno
      go_wp2
      go_roundw
      case rel => exact ⟨k + 1, H3.out, rfl, by go_num, HB⟩
      case measure => have := H3.out; simp [intOf]; omega
    · have f1 : ¬ (k : Int) < 12 := by omega
      clear hlt hk
      have HPw := Lib.hid (HP.out.more HB.out)
      have HK : Hid (Kq [b] w (wr.setRow b (vCells s m noD).toArray)) := Lib.hid (Kq.setRow (Kq.of_below HB.out) b _ (by simp))
      have HPN := Lib.hid HPw.out.wiped
      go_upto_region 10 with fail
      refine wp_region_lit ?_
      refine Great.wpList_readTo rfl _ rfl (.pointer (some ⟨b, 0, none⟩)) (by kernel_rfl) ?_
      refine wpList_buildTo rfl 58 _ rfl _ rfl noDv.toArray (by kernel_rfl) ?_
      refine Great.wpList_readTo rfl _ rfl (.pointer (some ⟨b, 0, none⟩)) (by kernel_rfl) ?_
      refine Great.wpList_readTo rfl _ rfl (.pointer (some ⟨b, 2, none⟩)) (by kernel_rfl) ?_
      refine wpList_store_cells rfl 58 _ _ rfl b 2 60 (vCells s m noD) noDv (by kernel_rfl) (by kernel_rfl) HPw.out.blk (by kernel_rfl) (vCells_len s m noD rfl) noDv_one ?_
      rw [vCells_wipe s m noD rfl]
      generalize wr.setRow b (vCells s m noD).toArray = W at HK HPN ⊢
      go_wp2
      go_ret
      exact ⟨rfl, HPN.out, HK.out⟩
end

/-- one page alone was written -/
theorem dirt_one (j : Nat) (hj : j < 12) : dirtL (noD.set j true) 12 = [(j : Int)] := by
  match j, hj with
  | 0, _ => decide +kernel
  | 1, _ => decide +kernel
  | 2, _ => decide +kernel
  | 3, _ => decide +kernel
  | 4, _ => decide +kernel
  | 5, _ => decide +kernel
  | 6, _ => decide +kernel
  | 7, _ => decide +kernel
  | 8, _ => decide +kernel
  | 9, _ => decide +kernel
  | 10, _ => decide +kernel
  | 11, _ => decide +kernel
  | k + 12, h => omega
/-- a word that was saved is what lies there -/
theorem word_back {S : List Int} (hS : S.length = 2048) {f o : Nat} (hf : f < 32) (ho : o + 4 ≤ 64) {x : Int} (h0 : 0 ≤ x) (h1 : x < 4294967296) : num (((Fr.frameL (Fr.layF S f (putZ (Fr.frameL S f) o 4 x)) f).drop o).take 4) = x := by
  rw [Fr.frameL_lay hS hf (load_len hS hf ho x), putZ_part _ _ _ _ (by rw [Fr.length_frameL hS hf]; exact ho), num_bytes4 x h0 h1]
/-- a page's bytes at most, written, are read again -/
theorem wS_other {L : List Gm.Pl} {S : List Int} {a : Nat} {zs : List Int} (p : Nat) : ∀ k, (∀ i, i < k → posn L (a + i) ≠ p) → (wS L S a zs k).getD p 0 = S.getD p 0 := by
  intro k
  induction k with
  | zero => intro _; rfl
  | succ k ih =>
    intro h
    show ((wS L S a zs k).set (posn L (a + k)) _).getD p 0 = _
    rw [List.getD_eq_getElem?_getD, List.getElem?_set_ne (h k (by omega)), ← List.getD_eq_getElem?_getD]
    exact ih fun i hi => h i (by omega)
theorem wS_at {L : List Gm.Pl} {S : List Int} {a : Nat} {zs : List Int} : ∀ k, k ≤ 64 → (∀ i, i < k → posn L (a + i) < S.length) → ∀ j, j < k → (wS L S a zs k).getD (posn L (a + j)) 0 = zs.getD j 0 := by
  intro k
  induction k with
  | zero => intro _ _ j hj; omega
  | succ k ih =>
    intro hk hl j hj
    show ((wS L S a zs k).set (posn L (a + k)) _).getD (posn L (a + j)) 0 = _
    by_cases e : j = k
    · subst e
      have : posn L (a + j) < (wS L S a zs j).length := by rw [wS_len]; exact hl j (by omega)
      rw [List.getD_eq_getElem?_getD, List.getElem?_set_self this]
      rfl
    · have hne : posn L (a + k) ≠ posn L (a + j) := by unfold posn; omega
      rw [List.getD_eq_getElem?_getD, List.getElem?_set_ne hne, ← List.getD_eq_getElem?_getD]
      exact ih (by omega) (fun i hi => hl i (by omega)) j (by omega)
theorem read_back {n : Nat} {L : List Gm.Pl} (hL : Gm.Okay L) {S : List Int} (hS : S.length = 2048) {z : Int} (h0 : 0 ≤ z) {zs : List Int} (h : ownB n L z zs.length = true) (hk : zs.length ≤ 64) : rdL n (wrtS n S L z zs) L z zs.length = zs := by
  unfold rdL wrtS
  rw [if_pos h, if_pos h]
  rcases own_cases n L z zs.length h0 with ⟨h2, _⟩ | ⟨a, K, rfl, hK, haK, h3⟩
  · rw [h] at h2; cases h2
  · have hall := h3.1 h
    have hKK : zs.length = K := by omega
    simp only [Int.toNat_natCast]
    rw [hKK]
    refine List.ext_getElem? fun j => ?_
    unfold rB
    rw [List.getElem?_map]
    by_cases hj : j < K
    · rw [List.getElem?_range hj, Option.map_some]
      rw [wS_at K (by omega) (fun i hi => by
        obtain ⟨f, _, hf2, _, hf⟩ := ok_frame hL (show okP n (Gm.plN L ((a + i) / 64)) = true from hall i hi)
        unfold posn
        rw [hf2, hS]
        omega) j hj]
      simp [List.getD, List.getElem?_eq_getElem (show j < zs.length by omega)]
    · rw [List.getElem?_eq_none (by simp; omega), List.getElem?_eq_none (by omega)]
      rfl

/-- carried through a region that asks which pages were written -/
def DI (B : Nat) (w0 : World) (b s m n : Nat) (S : List Int) (L : List Gm.Pl) (x : Addr) (hb : Nat) (J : Int) (W : World) : Prop :=
  Below B w0 W ∧ PV W b s m n S L noD ∧ W.cell? x = some (.int .i64 J) ∧ W.cell? ⟨hb, 0, none⟩ = some (.int .i64 J) ∧ x.block ≠ b ∧ hb ≠ b ∧ x.block < W.heap.size ∧ hb < W.heap.size
theorem DI.act {B : Nat} {w0 W W' : World} {b s m n : Nat} {S : List Int} {L : List Gm.Pl} {x : Addr} {hb : Nat} {J : Int} (h : DI B w0 b s m n S L x hb J W) (hP : PV W' b s m n S L noD) (hk : Kq [b] W W') (hB : B ≤ b) : DI B w0 b s m n S L x hb J W' := by
  obtain ⟨h1, h2, h3, h4, h5, h6, h7, h8⟩ := h
  exact ⟨h1.trans (hk.under (by simpa using hB) (by have := h2.lt; omega)), hP, (hk.cell h7 (by simpa using h5)).trans h3, (hk.cell (p := ⟨hb, 0, none⟩) h8 (by simpa using h6)).trans h4, h5, h6, Nat.lt_of_lt_of_le h7 hk.size, Nat.lt_of_lt_of_le h8 hk.size⟩
end Go.Proofs.Ytlgohgjnocoadaa.Vw
