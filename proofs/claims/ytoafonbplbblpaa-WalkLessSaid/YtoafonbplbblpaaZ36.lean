/- Several texts in one: Zo -/
import Derived.Test.YtoafonbplbblpaaZ35
import Derived.Test.YtoafonbplbblpaaZ18
import Derived.Deep.DeepCutAuto
import Derived.Deep.CutRange
section
/- hermitagelaw17: WalkLess. -/
namespace Go.Proofs.Ytoafonbplbblpaa.Wa
open Go.RowKit Go.Shelf Ut Oc Vw
set_option maxRecDepth 100000
set_option linter.unusedVariables false
set_option maxHeartbeats 4000000

theorem find_no_hit {n : Nat} {L : List Gm.Pl} {z k : Int} (h : findF n L z 1 k ≠ 0) : hitF n L z 1 k = (0, 0, 0) := by unfold hitF; rw [if_neg h]
theorem loc_no {n : Nat} {S : List Int} {L : List Gm.Pl} {rt z k : Int} {us : Bool} (h : (locF n S L true rt us z k).2 ≠ 0) : (locF n S L true rt us z k).1 = (0, 0, 0) := by
  unfold locF at h ⊢
  rw [if_neg (by decide)] at h ⊢
  by_cases h1 : (walkF n S L rt z).f = 0
  · rw [if_neg (fun e => e h1)] at h ⊢
    by_cases h2 : Pe.alwB (walkF n S L rt z).o (walkF n S L rt z).r k us = false
    · rw [if_pos h2]
    · rw [if_neg h2] at h ⊢
      exact find_no_hit h
  · rw [if_pos h1]
/-- where it lies: by which tables -/
theorem loc_yes {n : Nat} {S : List Int} {L : List Gm.Pl} {rt z k : Int} {us : Bool} (h : (locF n S L true rt us z k).2 = 0) :
    (walkF n S L rt z).f = 0 ∧ Pe.alwB (walkF n S L rt z).o (walkF n S L rt z).r k us = true ∧ findF n L ((walkF n S L rt z).g * 64 + z % 64) 1 k = 0 ∧
    locF n S L true rt us z k = (hitF n L ((walkF n S L rt z).g * 64 + z % 64) 1 k, findF n L ((walkF n S L rt z).g * 64 + z % 64) 1 k) := by
  unfold locF at h ⊢
  rw [if_neg (by decide)] at h ⊢
  by_cases h1 : (walkF n S L rt z).f = 0
  · rw [if_neg (fun e => e h1)] at h ⊢
    by_cases h2 : Pe.alwB (walkF n S L rt z).o (walkF n S L rt z).r k us = false
    · rw [if_pos h2] at h; exact absurd h (by decide)
    · rw [if_neg h2] at h ⊢
      exact ⟨h1, by simpa using h2, h, rfl⟩
  · rw [if_pos h1] at h; exact absurd h h1
theorem loc_less {n : Nat} {S : List Int} {L : List Gm.Pl} {rt z k : Int} (h : (locF n S L true rt true z k).2 = 0) : locF n S L true rt false z k = locF n S L true rt true z k := by
  obtain ⟨h1, h2, _, e⟩ := loc_yes h
  rw [e]
  have h3 : Pe.alwB (walkF n S L rt z).o (walkF n S L rt z).r k false = true := by
    unfold Pe.alwB at h2 ⊢
    simp at h2 ⊢
    exact h2.1
  unfold locF
  rw [if_neg (by decide), if_neg (fun e => e h1), if_neg (by simp [h3])]
theorem loc_there {n : Nat} {S : List Int} {L : List Gm.Pl} (hL : Gm.Okay L) {rt z k : Int} {us : Bool} (h0 : 0 ≤ z) (h : (locF n S L true rt us z k).2 = 0) :
    ∃ P F R : Int, (locF n S L true rt us z k).1 = (P, F, z % 64) ∧ Gm.atP L P = (F, R) ∧ Gm.thB (F, R) = true ∧ 0 ≤ P ∧ P < 12 ∧ (k = 0 → P < 8) := by
  obtain ⟨h1, h2, h3, e⟩ := loc_yes h
  have hg := walkF_page h1
  rw [e]
  obtain ⟨g, hgg⟩ : ∃ g, (walkF n S L rt z).g = g := ⟨_, rfl⟩
  rw [hgg] at h3 hg ⊢
  have ha : hitF n L (g * 64 + z % 64) 1 k = ((g * 64 + z % 64) / 64, (Gm.atP L ((g * 64 + z % 64) / 64)).1, (g * 64 + z % 64) % 64) := if_pos h3
  have e1 : (g * 64 + z % 64) / 64 = g := by omega
  have e2 : (g * 64 + z % 64) % 64 = z % 64 := by omega
  rw [e1, e2] at ha
  unfold findF at h3
  have hf : fltF L (g * 64 + z % 64) 1 k = 0 := by
    by_cases hh : fltF L (g * 64 + z % 64) 1 k = 0
    · exact hh
    · rw [if_neg hh] at h3; exact absurd h3 hh
  obtain ⟨M, j, f, r, _, _, _, hz1, hj, hj12, hat, _, hf32, hal⟩ := flt_zero hL (by omega) hf
  rw [e1] at hat hj hal
  refine ⟨g, (f : Int), (r : Int), ?_, hat, alwF_zero hal, by omega, by omega, fun hk => ?_⟩
  · dsimp only
    rw [ha, hat]
  · unfold Gm.alwF Gm.mayB at hal
    rw [if_pos (alwF_zero hal), hk, if_pos rfl] at hal
    by_cases h8 : g < 8
    · exact h8
    · rw [if_neg (by simp [h8])] at hal
      exact absurd hal (by decide)

theorem less_any (x : Nat) (hx : x < 65536) (al : Option Addr) (ll cl B0 : Nat) (Z : Nat → Int × Int) (rt z k : Int) (h0 : 0 ≤ z) (h1 : z < 4294967296) (w : World) (hll : ll ≤ 9223372036854775807)
    (hl : PutRow w B0 al ll Z) (hB0 : B0 ≤ w.heap.size) :
    Calls Try.prog 6 #[.int .u16 x, .slice al ll cl, .int .i64 rt, .int .u32 z, .int .i64 k] w fun e w' => e = .returned (.bool true) ∧ Below w.heap.size w w' := by
  have HMK := Lib.hid (made17_any x hx al ll cl B0 Z w hll hl hB0)
  clear hl hB0
  generalize putS (mapG x) Z (cnt2 ll) = S at HMK
  generalize putD (mapG x) Z (cnt2 ll) = D at HMK
  generalize mapG x = LM at HMK
  go_enter Try.func6, Try.ntmps6
  go_wp2_with fail
  refine HMK.out.mono ?_
  rintro e w2 ⟨b, s, m, g, bt, B, q, gv, cap, rfl, hmd⟩
  have HB2 := Lib.hid hmd.blw
  have HP2 := Lib.hid hmd.pv
  clear hmd HMK
  obtain ⟨fa, hfa⟩ : ∃ c, (locF 12 S LM true rt true z k).2 = c := ⟨_, rfl⟩
  obtain ⟨ha, hha⟩ : ∃ h, (locF 12 S LM true rt true z k).1 = h := ⟨_, rfl⟩
  obtain ⟨fb, hfb⟩ : ∃ c, (locF 12 S LM true rt false z k).2 = c := ⟨_, rfl⟩
  obtain ⟨hb, hhb⟩ : ∃ h, (locF 12 S LM true rt false z k).1 = h := ⟨_, rfl⟩
  have HOK := Lib.hid HP2.out.mp.2
  have HL1 : Hid (fa = 0 → fb = 0 ∧ hb = ha) := Lib.hid fun e => by
    have := loc_less (hfa.trans e)
    exact ⟨by rw [← hfb, this, hfa, e], by rw [← hhb, this, hha]⟩
  have HL2 : Hid (fa ≠ 0 → ha = (0, 0, 0)) := Lib.hid fun e => by rw [← hha]; exact loc_no (fun h => e (hfa.symm.trans h))
  have HL3 : Hid (fb ≠ 0 → hb = (0, 0, 0)) := Lib.hid fun e => by rw [← hhb]; exact loc_no (fun h => e (hfb.symm.trans h))
  have HL4 : Hid (fb = 0 → ∃ P F R : Int, hb = (P, F, z % 64) ∧ Gm.atP LM P = (F, R) ∧ Gm.thB (F, R) = true ∧ 0 ≤ P ∧ P < 12 ∧ (k = 0 → P < 8)) := Lib.hid fun e => by rw [← hhb]; exact loc_there HOK.out h0 (hfb.trans e)
  have CA : Hid (Calls Try.prog 8 #[.pointer (some ⟨b, 0, none⟩), .agg #[.bool true, .int .i64 rt, .bool true], .int .u32 z, .int .i64 k] w2 fun e w' => e = .returned (.tuple #[hitV ha, .int .i64 fa]) ∧ Below w2.heap.size w2 w') := Lib.hid (find_any true true rt z k fa ha h0 h1 hfa hha w2 HP2.out)
  have CB : Hid (∀ W, Below w2.heap.size w2 W → Calls Try.prog 8 #[.pointer (some ⟨b, 0, none⟩), .agg #[.bool true, .int .i64 rt, .bool false], .int .u32 z, .int .i64 k] W fun e w' => e = .returned (.tuple #[hitV hb, .int .i64 fb]) ∧ Below W.heap.size W w') := Lib.hid fun W hW => find_any true false rt z k fb hb h0 h1 hfb hhb W (HP2.out.more hW)
  clear hfa hha hfb hhb
  obtain ⟨ha0, ha1, ha2⟩ := ha
  obtain ⟨hb0, hb1, hb2⟩ := hb
  unfold hitV at CA CB
  dsimp only at CA CB
  go_wp2_with fail
  refine CA.out.mono ?_
  rintro e w3 ⟨rfl, hb3⟩
  have HB3 : Hid (Below w2.heap.size w2 (w3.alloc (.cells #[.int .i64 ha0, .int .i64 ha1, .int .i64 ha2, .bool false] 32))) := Lib.hid (hb3.alloc hb3.size _)
  have HN3 : Hid (Blk (w3.alloc (.cells #[.int .i64 ha0, .int .i64 ha1, .int .i64 ha2, .bool false] 32)) w3.heap.size 32 (hitC (ha0, ha1, ha2))) := Lib.hid (Blk.new w3 _ _)
  clear hb3 CA
  go_upto_region 5 with fail
  generalize w3.alloc (.cells #[.int .i64 ha0, .int .i64 ha1, .int .i64 ha2, .bool false] 32) = w4 at HB3 HN3 ⊢
  generalize w3.heap.size = p1 at HN3 ⊢
  go_wp2_with fail
  refine (CB.out w4 HB3.out).mono ?_
  rintro e w5 ⟨rfl, hb5⟩
  have HB5 : Hid (Below w2.heap.size w2 (w5.alloc (.cells #[.int .i64 hb0, .int .i64 hb1, .int .i64 hb2, .bool false] 32))) := Lib.hid ((HB3.out.trans (hb5.mono HB3.out.size)).alloc (HB3.out.trans (hb5.mono HB3.out.size)).size _)
  have HN5 : Hid (Blk (w5.alloc (.cells #[.int .i64 hb0, .int .i64 hb1, .int .i64 hb2, .bool false] 32)) w5.heap.size 32 (hitC (hb0, hb1, hb2))) := Lib.hid (Blk.new w5 _ _)
  have HN6 : Hid (Blk (w5.alloc (.cells #[.int .i64 hb0, .int .i64 hb1, .int .i64 hb2, .bool false] 32)) p1 32 (hitC (ha0, ha1, ha2))) := Lib.hid ((HN3.out.more hb5).more ((Below.refl _ _).alloc (Nat.le_refl _) _))
  clear hb5 CB HB3 HN3
  go_upto_region 6 with fail
  generalize w5.alloc (.cells #[.int .i64 hb0, .int .i64 hb1, .int .i64 hb2, .bool false] 32) = w6 at HB5 HN5 HN6 ⊢
  generalize w5.heap.size = p2 at HN5 ⊢
  go_cut [64] from 45 to 64 (fun v wx => v = .bool false ∧ w6 = wx)
  case first =>
    obtain ⟨r0, r1, r2, r3⟩ := HAt.cells HN5.out
    obtain ⟨s0, s1, s2, s3⟩ := HAt.cells HN6.out
    dsimp only at r0 r1 r2 s0 s1 s2
    have rl := HN5.out.lt
    have sl := HN6.out.lt
    by_cases hz : fa = 0
    · obtain ⟨e1, e2⟩ := HL1.out hz
      injection e2 with e2 e3
      injection e3 with e3 e4
      subst hz e1 e2 e3 e4
      go_wp2_with fail
      go_meet
      exact ⟨rfl, rfl⟩
    · have e2 := HL2.out hz
      injection e2 with e2 e3
      injection e3 with e3 e4
      subst e2 e3 e4
      have hz2 : (fa == 0) = false := by simp [hz]
      have hz3 : (fa != 0) = true := by simp [hz]
      go_wp2_with fail
      go_meet
      exact ⟨rfl, rfl⟩
  case rest =>
    obtain ⟨rfl, rfl⟩ := hcut
    clear HL1 HL2 HN6
    obtain ⟨r0, r1, r2, r3⟩ := HAt.cells HN5.out
    dsimp only at r0 r1 r2
    have rl := HN5.out.lt
    by_cases hz : fb = 0
    · obtain ⟨P, F, R, e2, hat, hth, hP0, hP1, hk8⟩ := HL4.out hz
      injection e2 with e2 e3
      injection e3 with e3 e4
      subst hz e2 e3 e4
      have CM : Hid (∀ W, Below w2.heap.size w2 W → Calls Try.prog 19 #[.pointer (some ⟨b, 0, none⟩)] W fun e w' => e = .returned (.pointer (some ⟨m, 0, none⟩)) ∧ W = w') := Lib.hid fun W hW => map_any W (HP2.out.more hW)
      have CG : Hid (∀ W, Below w2.heap.size w2 W → Calls Try.prog 20 #[.pointer (some ⟨m, 0, none⟩), .int .i64 hb0] W fun e w' => e = .returned (.tuple #[.agg #[.int .i64 hb1, .int .i64 R], .bool true]) ∧ Below W.heap.size W w') := Lib.hid fun W hW => Gm.get_any m LM hb0 _ true hat hth W (HP2.out.more hW).mp
      have HK8 := Lib.hid hk8
      clear hat hth hk8 HL3 HL4
      go_upto_region 10 with fail
      go_cut [17, 18] from 65 to 80 (fun vp vt wx => ∃ p : Nat, vp = .pointer (some ⟨p, 0, none⟩) ∧ vt = .bool true ∧ Hid (Below w6.heap.size w6 wx) ∧ Hid (Blk wx p 58 [.int .i64 hb1, .int .i64 R]))
      case first =>
        have hd : Below w2.heap.size w2 w6.drew := HB5.out.drew
        have hdw : Below w6.heap.size w6 w6.drew := (Below.refl _ _).drew
        have HNZ : Hid (∀ V, Below (w6.drew.alloc (.cells #[.int .i64 0, .int .i64 0] 58)).heap.size (w6.drew.alloc (.cells #[.int .i64 0, .int .i64 0] 58)) V → Blk V w6.heap.size 58 [.int .i64 0, .int .i64 0]) := Lib.hid fun V h => (Blk.new w6.drew _ [.int .i64 0, .int .i64 0]).more h
        go_region_with (first | (go_at_call 19; refine (CM.out _ (by first | exact hd | exact hd.alloc hd.size _)).mono ?_; rintro e w3 ⟨rfl, rfl⟩) | (go_at_call 20; refine (CG.out _ (by first | exact hd | exact hd.alloc hd.size _)).mono ?_; rintro e w3 ⟨rfl, hb3⟩; have HB3 : Hid (Below w6.heap.size w6 w3) := Lib.hid (by first | exact hdw.trans (hb3.mono hdw.size) | exact (hdw.alloc hdw.size _).trans (hb3.mono (hdw.alloc hdw.size _).size)); first | (have q3 := HNZ.out _ hb3; have g0 : w3.frozen? ⟨w6.heap.size, 0, none⟩ = false := q3.frozen 0; have g1 : w3.frozen? ⟨w6.heap.size, 1, none⟩ = false := q3.frozen 1; have k0 : w3.cell? ⟨w6.heap.size, 0, none⟩ = some (.int .i64 0) := q3.cell rfl; have k1 : w3.cell? ⟨w6.heap.size, 1, none⟩ = some (.int .i64 0) := q3.cell rfl; have gl := q3.lt; have HQ3 := Lib.hid q3; clear q3 hb3) | clear hb3))
        all_goals
          go_wp2_with fail
          go_meet
          first
            | exact ⟨_, rfl, rfl, Lib.hid (HB3.out.alloc HB3.out.size _), Lib.hid (Blk.new w3 _ [.int .i64 hb1, .int .i64 R])⟩
            | exact ⟨_, rfl, rfl, Lib.hid ((HB3.out.setCell (p := ⟨w6.heap.size, 0, none⟩) (Nat.le_refl _) _).setCell (p := ⟨w6.heap.size, 1, none⟩) (Nat.le_refl _) _), Lib.hid ((HQ3.out.set 0 (.int .i64 hb1)).set 1 (.int .i64 R))⟩
      case rest =>
        obtain ⟨wa, rfl⟩ : ∃ X, X = wc := ⟨_, rfl⟩
        obtain ⟨p3, rfl, rfl, HBa, HNa⟩ := hcut
        have HN7 := Lib.hid (HN5.out.more HBa.out)
        have HB7 := Lib.hid (HB5.out.trans (HBa.out.mono HB5.out.size))
        clear r0 r1 r2 rl HN5 HBa CM CG
        obtain ⟨r0, r1, r2, r3⟩ := HAt.cells HN7.out
        dsimp only at r0 r1 r2
        have rl := HN7.out.lt
        have s0 := HNa.out.cell (j := 0) rfl
        have sl := HNa.out.lt
        by_cases hk : k = 0
        · have h8 := HK8.out hk
          subst hk
          have h9 : decide (hb0 < 8) = true := by simpa using h8
          go_wp2_with fail
          refine (awake17_any _).mono ?_
          rintro e w8 ⟨rfl, hb⟩
          have HB8 := Lib.hid (HB7.out.trans (hb.mono HB7.out.size))
          clear hb
          go_wp2
          go_ret
          exact ⟨rfl, HB2.out.trans (HB8.out.mono HB2.out.size)⟩
        · have hk2 : (k != 0) = true := by simp [hk]
          go_wp2_with fail
          refine (awake17_any _).mono ?_
          rintro e w8 ⟨rfl, hb⟩
          have HB8 := Lib.hid (HB7.out.trans (hb.mono HB7.out.size))
          clear hb
          go_wp2
          go_ret
          exact ⟨rfl, HB2.out.trans (HB8.out.mono HB2.out.size)⟩
    · have e2 := HL3.out hz
      injection e2 with e2 e3
      injection e3 with e3 e4
      subst e2 e3 e4
      have hz3 : (fb != 0) = true := by simp [hz]
      go_wp2_with fail
      refine (awake17_any _).mono ?_
      rintro e w7 ⟨rfl, hb⟩
      have HB7 := Lib.hid (HB5.out.trans (hb.mono HB5.out.size))
      clear hb
      go_wp2
      go_ret
      exact ⟨rfl, HB2.out.trans (HB7.out.mono HB2.out.size)⟩
end Go.Proofs.Ytoafonbplbblpaa.Wa
end
