/- The walk of ShadowPlays. -/
import Derived.Test.YtcdiigdbjncpeaaJn
import Derived.Test.YtcdiigdbjncpeaaJk
import Derived.Test.YtcdiigdbjncpeaaRd
import Derived.Test.YtcdiigdbjncpeaaSr
import Derived.Deep.Cut
import Derived.Deep.DeepCutAuto
import Derived.Deep.CutBlock
import Derived.Deep.CutRange
namespace Go.Proofs.Ytcdiigdbjncpeaa.Sw
open Go.RowKit Ut
set_option maxRecDepth 100000
set_option linter.unusedVariables false
set_option maxHeartbeats 8000000

/-- where the lists of both sides lie: only what they read as -/
def Lst (n : Nat) (xs : List (List Int)) (v : Value) (W : World) : Prop := ∃ a c, v = .slice a n c ∧ IRow 5 W a xs
theorem Lst.more {n : Nat} {xs : List (List Int)} {v : Value} {W W' : World} (h : Lst n xs v W) (hb : Below W.heap.size W W') : Lst n xs v W' := by
  obtain ⟨a, c, e, h⟩ := h
  exact ⟨a, c, e, h.more hb⟩
theorem lst_kept {n : Nat} {xs : List (List Int)} {i k : Nat} : ∀ j p, (if j = i then some (Lst n xs) else if j = k then some (Lst n xs) else none) = some p → ∀ v w w', Below w.heap.size w w' → p v w → p v w' := by
  intro j p h v w w' hb hp
  split at h
  · injection h with h
    subst h
    exact hp.more hb
  · split at h
    · injection h with h
      subst h
      exact hp.more hb
    · cases h

section
variable {PS : World → Nat → List Nat → List Ln → Prop} (C : ProgC PS)
include C
theorem plays19_any (a : Option Addr) (len cap : Nat) (Z : Nat → Ak) (w : World) (hlen : len ≤ 9223372036854775807) (hz : AkRow w a len Z) :
    Calls Try.prog 3 #[.slice a len cap] w fun e w' => e = .returned (.bool true) ∧ Below w.heap.size w w' := by
  have HZ := Lib.hid hz
  have HN := Lib.hid (C.new w)
  have HC := Lib.hid C
  have hlen0 : (len : Int) ≤ 9223372036854775807 := by omega
  clear hz C
  go_enter Try.func3, Try.ntmps3
  go_wp2_with fail
  refine HN.out.mono ?_
  rintro e w1 ⟨g, S, rfl, HP, hb1⟩
  have HJ1 : Hid (JB PS w (w1.alloc (.cells #[.slice none 0 0] 28)) g w1.heap.size w1.heap.size [] [] []) := Lib.hid (by
    have hA : Below w1.heap.size w1 (w1.alloc (.cells #[.slice none 0 0] 28)) := (Below.refl _ _).alloc (Nat.le_refl _) _
    refine ⟨⟨S, none, 0, HC.out.more HP.out.1 hA, ⟨Blk.new w1 _ [.slice none 0 0], rfl, IRow.nil _ _ _, (fun y e => by cases e)⟩, fun s hs => ⟨HP.out.2 s hs, ?_, ?_⟩, (fun h => absurd rfl h)⟩, hb1.size, by simp, by simp, (fun h => absurd rfl h), (fun h => absurd rfl h), hb1.trans (hA.mono hb1.size)⟩
    · have := HC.out.lt HP.out.1 s hs; omega
    · have := HC.out.lt HP.out.1 s hs; omega)
  clear HP hb1 HN
  go_upto_region 3 with fail
  generalize w1.alloc (.cells #[.slice none 0 0] 28) = V1 at HJ1 ⊢
  generalize w1.heap.size = d at HJ1 ⊢
  go_wp2
  go_loopw [5] (fun j wr => ∃ (k : Nat) (l : List Ln), k ≤ 100 ∧ j = .int .i64 k ∧ Hid (JB PS w wr g d d [] l l)) (fun j _ => 100 - (intOf j).toNat)
  case atStart => exact ⟨0, [], Nat.zero_le _, rfl, HJ1⟩
  case round =>
    clear HJ1
    obtain ⟨k, l, hk, rfl, HJ⟩ := hrel
    by_cases hin : k < len ∧ k < 100
    · obtain ⟨h0, h1⟩ := hin
      obtain ⟨y, rfl, hw, hc⟩ := act_on HZ.out h0
      obtain ⟨y1, y2, c0, c1, c2, c3, c4, c5, c6, c7⟩ := hc wr HJ.out.b
      have HW := Lib.hid hw
      have H1 := Lib.hid h1
      generalize Z k = x at HW c0 c1 c2 c3 c4 c5 c6 c7
      obtain ⟨kd, kr, kp, ep, ef, er, rt, lf⟩ := x
      dsimp only at c0 c1 c2 c3 c4 c5 c6 c7
      have f0 : (k : Int) < (len : Int) := by omega
      have f1 : (k : Int) < 100 := by omega
      have f2 : (0 : Int) ≤ (k : Int) := by omega
      clear hc hk h0 h1 hw
      have HLN : Hid (l.length ≤ 32) := Lib.hid (HJ.out.len HC.out)
      have HJ2 : Hid (JB PS w (wr.alloc (.cells #[.int .i64 kd, .int .i64 kr, .int .i64 kp, .int .i64 ep, .int .i64 ef, .int .i64 er, .int .i64 rt, .int .i64 lf] 34)) g d wr.heap.size [.int .i64 kd, .int .i64 kr, .int .i64 kp, .int .i64 ep, .int .i64 ef, .int .i64 er, .int .i64 rt, .int .i64 lf] l l) := Lib.hid (JB.arm HC.out HJ.out [.int .i64 kd, .int .i64 kr, .int .i64 kp, .int .i64 ep, .int .i64 ef, .int .i64 er, .int .i64 rt, .int .i64 lf])
      clear HJ HZ
      go_upto_region 9 with fail
      generalize wr.alloc (.cells #[.int .i64 kd, .int .i64 kr, .int .i64 kp, .int .i64 ep, .int .i64 ef, .int .i64 er, .int .i64 rt, .int .i64 lf] 34) = V2 at HJ2 ⊢
      generalize wr.heap.size = ab at HJ2 ⊢
      clear c0 c1 c2 c3 c4 c5 c6 c7 y1 y2
      have HDL := Lib.hid HJ2.out.dl
      have hbk := HJ2.out.bk (by simp)
      have a0 := hbk.cell (j := 0) rfl
      have a1 := hbk.cell (j := 1) rfl
      have a2 := hbk.cell (j := 2) rfl
      have a3 := hbk.cell (j := 3) rfl
      have a4 := hbk.cell (j := 4) rfl
      have a5 := hbk.cell (j := 5) rfl
      have a6 := hbk.cell (j := 6) rfl
      have a7 := hbk.cell (j := 7) rfl
      have al := hbk.lt
      clear hbk
      go_wp2_with fail
      refine (jDoes HC.out ⟨kd, kr, kp, ep, ef, er, rt, lf⟩ HW.out HJ2.out).mono ?_
      rintro e w3 ⟨t, ks, n, rfl, HJ3, HD⟩
      clear a0 a1 a2 a3 a4 a5 a6 a7 al HJ2 HW
      have hbk := HJ3.out.bk (by simp)
      have a0 := hbk.cell (j := 0) rfl
      have a1 := hbk.cell (j := 1) rfl
      have a2 := hbk.cell (j := 2) rfl
      have a3 := hbk.cell (j := 3) rfl
      have a4 := hbk.cell (j := 4) rfl
      have a5 := hbk.cell (j := 5) rfl
      have a6 := hbk.cell (j := 6) rfl
      have a7 := hbk.cell (j := 7) rfl
      have al := hbk.lt
      clear hbk
      go_upto_block 2 with fail
      go_cut [] (fun wx => ∃ l', Hid (JB PS w wx g d ab [.int .i64 kd, .int .i64 kr, .int .i64 kp, .int .i64 ep, .int .i64 ef, .int .i64 er, .int .i64 rt, .int .i64 lf] l' l'))
      case first =>
        have hd := HD.out
        clear HD
        rcases hd with ⟨h0, hT⟩ | ⟨h0, hT⟩ | ⟨h0, hT⟩ | ⟨hk, hown, hT, hn⟩ | ⟨hk, hown, hT, hn⟩
        · have h0' : kd = 0 := h0
          subst h0'
          have HT := Lib.hid hT
          obtain ⟨m0, hm0⟩ : ∃ m0, (goneS l rt false).length = m0 := ⟨_, rfl⟩
          have HM0 := Lib.hid hm0
          have HJ4 : Hid (JB PS w w3 g d ab [.int .i64 0, .int .i64 kr, .int .i64 kp, .int .i64 ep, .int .i64 ef, .int .i64 er, .int .i64 rt, .int .i64 lf] (leftS l rt false) l) := HJ3
          clear hT hm0 h0 HJ3
          go_wp2_with fail
          refine (dWroteJ HC.out rt false HJ4.out HLN.out).mono ?_
          rintro e w4 ⟨⟨b, c, rfl, HR⟩, HJ5, hk4⟩
          obtain ⟨b', c', hks, hr'⟩ := told_kept HT.out HDL.out hk4
          rw [List.length_map, HM0.out] at hks
          subst hks
          rw [HM0.out]
          have HR2 := Lib.hid hr'
          clear hr' hk4 HJ4 HT a0 a1 a2 a3 a4 a5 a6 a7 al
          go_wp2_with fail
          refine (keys19_true b' b c' c m0 _ w4 (by intro x hx; obtain ⟨z, _, rfl⟩ := List.mem_map.1 hx; rfl) (by rw [List.length_map, HM0.out]) (by have h1 := List.length_filter_le (fun x => goF rt false x) l; have h2 := HM0.out; unfold goneS at h2; have h3 := HLN.out; omega) HR2.out HR.out).mono ?_
          rintro e w5 ⟨rfl, hb5⟩
          have HJ6 := Lib.hid (HJ5.out.more HC.out hb5)
          clear HJ5 hb5 HR HR2
          go_wp2
          go_meet
          exact ⟨_, HJ6⟩
        · have h0' : kd = 1 := h0
          subst h0'
          have HT := Lib.hid hT
          obtain ⟨m0, hm0⟩ : ∃ m0, (goneS l rt true).length = m0 := ⟨_, rfl⟩
          have HM0 := Lib.hid hm0
          have HJ4 : Hid (JB PS w w3 g d ab [.int .i64 1, .int .i64 kr, .int .i64 kp, .int .i64 ep, .int .i64 ef, .int .i64 er, .int .i64 rt, .int .i64 lf] (leftS l rt true) l) := HJ3
          clear hT hm0 h0 HJ3
          go_wp2_with fail
          refine (dWroteJ HC.out rt true HJ4.out HLN.out).mono ?_
          rintro e w4 ⟨⟨b, c, rfl, HR⟩, HJ5, hk4⟩
          obtain ⟨b', c', hks, hr'⟩ := told_kept HT.out HDL.out hk4
          rw [List.length_map, HM0.out] at hks
          subst hks
          rw [HM0.out]
          have HR2 := Lib.hid hr'
          clear hr' hk4 HJ4 HT a0 a1 a2 a3 a4 a5 a6 a7 al
          go_wp2_with fail
          refine (keys19_true b' b c' c m0 _ w4 (by intro x hx; obtain ⟨z, _, rfl⟩ := List.mem_map.1 hx; rfl) (by rw [List.length_map, HM0.out]) (by have h1 := List.length_filter_le (fun x => goF rt true x) l; have h2 := HM0.out; unfold goneS at h2; have h3 := HLN.out; omega) HR2.out HR.out).mono ?_
          rintro e w5 ⟨rfl, hb5⟩
          have HJ6 := Lib.hid (HJ5.out.more HC.out hb5)
          clear HJ5 hb5 HR HR2
          go_wp2
          go_meet
          exact ⟨_, HJ6⟩
        · have h0' : kd = 2 := h0
          subst h0'
          have hT' : n = .int .i64 l.length := hT
          subst hT'
          have HJ4 : Hid (JB PS w w3 g d ab [.int .i64 2, .int .i64 kr, .int .i64 kp, .int .i64 ep, .int .i64 ef, .int .i64 er, .int .i64 rt, .int .i64 lf] [] l) := HJ3
          clear hT h0 HJ3
          obtain ⟨b, c, q0⟩ := HJ4.out.cell0
          have q1 : w3.frozen? ⟨d, 0, none⟩ = false := by
            obtain ⟨_, _, _, _, h2, _⟩ := HJ4.out.ex
            exact h2.blk.frozen 0
          have q2 := HJ4.out.dl
          go_wp2
          go_meet
          exact ⟨_, Lib.hid (JB.empty HC.out HJ4.out)⟩
        · have k0 : (kd == 0) = false := by simpa using hk.1
          have k1 : (kd == 1) = false := by simpa using hk.2.1
          have k2 : (kd == 2) = false := by simpa using hk.2.2
          have hn' := hn
          subst hn'
          have HT := Lib.hid hT
          have HO := Lib.hid hown
          have HJ4 : Hid (JB PS w w3 g d ab [.int .i64 kd, .int .i64 kr, .int .i64 kp, .int .i64 ep, .int .i64 ef, .int .i64 er, .int .i64 rt, .int .i64 lf] (fillS l ⟨kr, kp, ep, ef, er, rt, lf⟩) l) := Lib.hid (by
            have h := HJ3.out
            unfold actS at h
            rw [if_neg hk.1, if_neg hk.2.1, if_neg hk.2.2, if_pos hown] at h
            exact h)
          clear hk hown hT HJ3
          obtain ⟨m0, hm0⟩ : ∃ m0, (toldS l rt lf 8).length = m0 := ⟨_, rfl⟩
          have HM0 := Lib.hid hm0
          clear hm0
          go_wp2_with fail
          refine (dYesJ HC.out kr kp ep ef er rt lf HO.out.1 HO.out.2 HJ4.out HLN.out).mono ?_
          rintro e w4 ⟨⟨b, c, rfl, HR⟩, HJ5, hk4⟩
          obtain ⟨b', c', hks, hr'⟩ := told_kept HT.out HDL.out hk4
          have hks' : t = .slice b' m0 c' := by rw [hks]; exact congrArg (fun n => Value.slice b' n c') HM0.out
          subst hks'
          rw [HM0.out]
          have HR2 := Lib.hid hr'
          clear hr' hk4 HJ4 HT a0 a1 a2 a3 a4 a5 a6 a7 al hks
          go_wp2_with fail
          refine (ints19_true b' b c' c m0 _ w4 (by intro x hx; obtain ⟨z, _, rfl⟩ := List.mem_map.1 hx; rfl) HM0.out (by have h1 := told_len l rt lf 8; have h2 := HM0.out; omega) HR2.out HR.out).mono ?_
          rintro e w5 ⟨rfl, hb5⟩
          have HJ6 := Lib.hid (HJ5.out.more HC.out hb5)
          clear HJ5 hb5 HR HR2
          go_wp2
          go_meet
          exact ⟨_, HJ6⟩
        · have k0 : (kd == 0) = false := by simpa using hk.1
          have k1 : (kd == 1) = false := by simpa using hk.2.1
          have k2 : (kd == 2) = false := by simpa using hk.2.2
          have hn' := hn
          subst hn'
          have HT := Lib.hid hT
          have HO := Lib.hid hown
          have HJ4 : Hid (JB PS w w3 g d ab [.int .i64 kd, .int .i64 kr, .int .i64 kp, .int .i64 ep, .int .i64 ef, .int .i64 er, .int .i64 rt, .int .i64 lf] (l) l) := Lib.hid (by
            have h := HJ3.out
            unfold actS at h
            rw [if_neg hk.1, if_neg hk.2.1, if_neg hk.2.2, if_neg (by intro h2; have ha := h2.1; have hb := h2.2; dsimp only at ha hb hown; rw [ha, hb] at hown; simp at hown)] at h
            exact h)
          clear hk hown hT HJ3
          go_wp2_with fail
          refine (dNoJ HC.out kr kp ep ef er rt lf HO.out HJ4.out).mono ?_
          rintro e w4 ⟨rfl, HJ5, hk4⟩
          obtain ⟨b', c', hks, hr'⟩ := told_kept HT.out HDL.out hk4
          have hks' : t = .slice b' 0 c' := hks
          subst hks'
          have HR2 := Lib.hid hr'
          clear hr' hk4 HJ4 HT a0 a1 a2 a3 a4 a5 a6 a7 al hks
          go_wp2_with fail
          refine (ints19_true b' none c' 0 0 [] w4 (by intro x hx; cases hx) rfl (by decide) HR2.out (IRow.nil _ _ _)).mono ?_
          rintro e w5 ⟨rfl, hb5⟩
          have HJ6 := Lib.hid (HJ5.out.more HC.out hb5)
          clear HJ5 hb5 HR2
          go_wp2
          go_meet
          exact ⟨_, HJ6⟩
      case rest =>
        clear HD HJ3 a0 a1 a2 a3 a4 a5 a6 a7 al HDL HLN
        obtain ⟨l2, HJ4⟩ := hcut
        have HLN2 : Hid (l2.length ≤ 32) := Lib.hid (HJ4.out.len HC.out)
        obtain ⟨o, ho⟩ : ∃ o, findS l2 kr kp = o := ⟨_, rfl⟩
        have HO := Lib.hid ho
        obtain ⟨v0, v1, v2, haeq⟩ : ∃ v0 v1 v2, entS o = (v0, v1, v2) := ⟨_, _, _, rfl⟩
        have HAE := Lib.hid haeq
        obtain ⟨hs, hhs⟩ : ∃ hs, o.isSome = hs := ⟨_, rfl⟩
        have HHS := Lib.hid hhs
        clear ho haeq hhs
        have hbk := HJ4.out.bk (by simp)
        have a0 := hbk.cell (j := 0) rfl
        have a1 := hbk.cell (j := 1) rfl
        have a2 := hbk.cell (j := 2) rfl
        have a3 := hbk.cell (j := 3) rfl
        have a4 := hbk.cell (j := 4) rfl
        have a5 := hbk.cell (j := 5) rfl
        have a6 := hbk.cell (j := 6) rfl
        have a7 := hbk.cell (j := 7) rfl
        have al := hbk.lt
        clear hbk
        go_wp2_with fail
        refine (jGet HC.out kr kp o HO.out HJ4.out).mono ?_
        rintro e w5 ⟨rfl, hb5⟩
        have HJ5 := Lib.hid (HJ4.out.more HC.out hb5)
        rw [HAE.out, HHS.out]
        unfold entW
        dsimp only
        have hA6 : Below w5.heap.size w5 (w5.alloc (.cells #[.int .i64 v0, .int .i64 v1, .int .i64 v2] 32)) := (Below.refl _ _).alloc (Nat.le_refl _) _
        have HB6 : Hid (Blk (w5.alloc (.cells #[.int .i64 v0, .int .i64 v1, .int .i64 v2] 32)) w5.heap.size 32 [.int .i64 v0, .int .i64 v1, .int .i64 v2]) := Lib.hid (Blk.new w5 _ [.int .i64 v0, .int .i64 v1, .int .i64 v2])
        have HJ6 := Lib.hid (HJ5.out.more HC.out hA6)
        clear a0 a1 a2 a3 a4 a5 a6 a7 al HJ4 HJ5 hb5 hA6
        go_upto_region 23 with fail
        generalize w5.alloc (.cells #[.int .i64 v0, .int .i64 v1, .int .i64 v2] 32) = V6 at HB6 HJ6 ⊢
        generalize w5.heap.size = x5 at HB6 ⊢
        have hbk := HJ6.out.bk (by simp)
        have a0 := hbk.cell (j := 0) rfl
        have a1 := hbk.cell (j := 1) rfl
        have a2 := hbk.cell (j := 2) rfl
        have a3 := hbk.cell (j := 3) rfl
        have a4 := hbk.cell (j := 4) rfl
        have a5 := hbk.cell (j := 5) rfl
        have a6 := hbk.cell (j := 6) rfl
        have a7 := hbk.cell (j := 7) rfl
        have al := hbk.lt
        clear hbk
        go_wp2_with fail
        refine (dGetJ kr kp o HO.out HJ6.out HLN2.out).mono ?_
        rintro e w7 ⟨rfl, hb7⟩
        have HJ7 := Lib.hid (HJ6.out.more HC.out hb7)
        rw [HAE.out, HHS.out]
        unfold entW
        dsimp only
        have hA8 : Below w7.heap.size w7 (w7.alloc (.cells #[.int .i64 v0, .int .i64 v1, .int .i64 v2] 32)) := (Below.refl _ _).alloc (Nat.le_refl _) _
        have HB8 : Hid (Blk (w7.alloc (.cells #[.int .i64 v0, .int .i64 v1, .int .i64 v2] 32)) w7.heap.size 32 [.int .i64 v0, .int .i64 v1, .int .i64 v2]) := Lib.hid (Blk.new w7 _ [.int .i64 v0, .int .i64 v1, .int .i64 v2])
        have HJ8 := Lib.hid (HJ7.out.more HC.out hA8)
        have HB9 := Lib.hid ((HB6.out.more hb7).more hA8)
        clear a0 a1 a2 a3 a4 a5 a6 a7 al HJ6 HJ7 HB6 hb7 hA8
        go_upto_region 24 with fail
        generalize w7.alloc (.cells #[.int .i64 v0, .int .i64 v1, .int .i64 v2] 32) = V8 at HB8 HB9 HJ8 ⊢
        generalize w7.heap.size = x7 at HB8 ⊢
        have hbk := HJ8.out.bk (by simp)
        have a0 := hbk.cell (j := 0) rfl
        have a1 := hbk.cell (j := 1) rfl
        have a2 := hbk.cell (j := 2) rfl
        have a3 := hbk.cell (j := 3) rfl
        have a4 := hbk.cell (j := 4) rfl
        have a5 := hbk.cell (j := 5) rfl
        have a6 := hbk.cell (j := 6) rfl
        have a7 := hbk.cell (j := 7) rfl
        have al := hbk.lt
        clear hbk
        have r0 := HB9.out.cell (j := 0) rfl
        have r1 := HB9.out.cell (j := 1) rfl
        have r2 := HB9.out.cell (j := 2) rfl
        have rl := HB9.out.lt
        have s0 := HB8.out.cell (j := 0) rfl
        have s1 := HB8.out.cell (j := 1) rfl
        have s2 := HB8.out.cell (j := 2) rfl
        have sl := HB8.out.lt
        obtain ⟨b, c, q0⟩ := HJ8.out.cell0
        have ql := HJ8.out.dl
        obtain ⟨n2, hn2⟩ : ∃ n2, l2.length = n2 := ⟨_, rfl⟩
        rw [hn2] at q0
        have HNN : Hid (n2 ≤ 100000) := Lib.hid (by have := HLN2.out; omega)
        have HLL : Hid ((l2.map Ln.kept).length = n2) := Lib.hid (by rw [List.length_map, hn2])
        have HKL : Hid (∀ x ∈ l2.map Ln.kept, x.length = 5) := Lib.hid (by intro x hx; obtain ⟨z, _, rfl⟩ := List.mem_map.1 hx; rfl)
        obtain ⟨t1, ht1⟩ : ∃ t1, tabL l2 rt = t1 := ⟨_, rfl⟩
        obtain ⟨t2, ht2⟩ : ∃ t2, tabL l2 ep = t2 := ⟨_, rfl⟩
        have HLEN : Hid (∀ W', Below V8.heap.size V8 W' → Calls Try.prog 16 #[.pointer (some ⟨g, 0, none⟩)] W' fun e w' => e = .returned (.int .i64 n2) ∧ Below W'.heap.size W' w') := Lib.hid fun W' hb => jLen HC.out n2 hn2 (HJ8.out.more HC.out hb)
        have HLP : Hid (∀ W', Below V8.heap.size V8 W' → Calls Try.prog 18 #[.pointer (some ⟨g, 0, none⟩)] W' fun e w' => (∃ a c, e = .returned (.slice a n2 c) ∧ Hid (IRow 5 w' a (l2.map Ln.kept))) ∧ Below W'.heap.size W' w') := Lib.hid fun W' hb => jList HC.out n2 hn2 (HJ8.out.more HC.out hb)
        have HLD : Hid (∀ W', Below V8.heap.size V8 W' → Calls Try.prog 19 #[.pointer (some ⟨d, 0, none⟩)] W' fun e w' => (∃ a c, e = .returned (.slice a n2 c) ∧ Hid (IRow 5 w' a (l2.map Ln.kept))) ∧ Below W'.heap.size W' w') := Lib.hid fun W' hb => dListJ n2 hn2 (HJ8.out.more HC.out hb) HLN2.out
        have HTP1 : Hid (∀ W', Below V8.heap.size V8 W' → Calls Try.prog 20 #[.pointer (some ⟨g, 0, none⟩), .int .i64 rt] W' fun e w' => e = .returned (.bool t1) ∧ Below W'.heap.size W' w') := Lib.hid fun W' hb => jTable HC.out rt t1 ht1 (HJ8.out.more HC.out hb)
        have HTD1 : Hid (∀ W', Below V8.heap.size V8 W' → Calls Try.prog 21 #[.pointer (some ⟨d, 0, none⟩), .int .i64 rt] W' fun e w' => e = .returned (.bool t1) ∧ Below W'.heap.size W' w') := Lib.hid fun W' hb => dTableJ rt t1 ht1 (HJ8.out.more HC.out hb) HLN2.out
        have HTP2 : Hid (∀ W', Below V8.heap.size V8 W' → Calls Try.prog 20 #[.pointer (some ⟨g, 0, none⟩), .int .i64 ep] W' fun e w' => e = .returned (.bool t2) ∧ Below W'.heap.size W' w') := Lib.hid fun W' hb => jTable HC.out ep t2 ht2 (HJ8.out.more HC.out hb)
        have HTD2 : Hid (∀ W', Below V8.heap.size V8 W' → Calls Try.prog 21 #[.pointer (some ⟨d, 0, none⟩), .int .i64 ep] W' fun e w' => e = .returned (.bool t2) ∧ Below W'.heap.size W' w') := Lib.hid fun W' hb => dTableJ ep t2 ht2 (HJ8.out.more HC.out hb) HLN2.out
        clear hn2 ht1 ht2 HB8 HB9 HO HAE HHS
        apply wp_region_ev [105, 106, 107, 108, 109, 110, 111, 112, 113, 114, 115, 116, 117, 118, 119, 120, 121, 122, 123, 124, 125, 126, 127, 128, 129, 130, 131, 132, 133, 134, 135, 136, 137, 138, 139, 140, 141, 142, 143, 144, 145, 146, 147, 148, 149, 150, 151, 152, 153] [_, _, _, _, _, _, _, _, _, _, _, _, _, _, _, _, _, _, _, _, undef, _, undef, _, _, _, _, _, _, _, _, _, _, _, _, _, _, _, _, _, _, _, _, _, _, _, _, _, _] (fun j => if j = 20 then some (Lst n2 (l2.map Ln.kept)) else if j = 22 then some (Lst n2 (l2.map Ln.kept)) else none) (lst_kept)
        case hm => kernel_rfl
        case hT => intro y; simp only [setAll, List.setIfInBounds_toArray, List.set_cons_succ, List.set_cons_zero]; exact rfl
        case hok => kernel_rfl
        case hn => decide
        case hs =>
          refine ev_op 105 [] (by kernel_rfl) rfl (fun y w' HW hd K hK => ?_) ?_
          · have hcl : ∀ p : Addr, p.block < V8.heap.size → w'.cell? p = V8.cell? p := fun p hp => HW.cell hp
            go_simp
            refine hK _ _ ?_ ?_ (Below.refl _ _)
            · simp [upd]
            · exact rfl
          refine ev_op 106 [] (by kernel_rfl) rfl (fun y w' HW hd K hK => ?_) ?_
          · have hcl : ∀ p : Addr, p.block < V8.heap.size → w'.cell? p = V8.cell? p := fun p hp => HW.cell hp
            go_simp
            refine hK _ _ ?_ ?_ (Below.refl _ _)
            · simp [upd]
            · exact rfl
          refine ev_op 107 [0, 1] (by kernel_rfl) rfl (fun y w' HW hd K hK => ?_) ?_
          · have e0 := evR_nth (hd 0 (by simp)) rfl rfl
            have e1 := evR_nth (hd 1 (by simp)) rfl rfl
            go_simp
            refine hK _ _ ?_ ?_ (Below.refl _ _)
            · simp [upd, e0, e1]
            · exact rfl
          refine ev_op 108 [2] (by kernel_rfl) rfl (fun y w' HW hd K hK => ?_) ?_
          · have e2 := evR_nth (hd 2 (by simp)) rfl rfl
            go_simp
            refine hK _ _ ?_ ?_ (Below.refl _ _)
            · simp [upd, e2]
            · exact rfl
          refine ev_op 109 [3] (by kernel_rfl) rfl (fun y w' HW hd K hK => ?_) ?_
          · have e3 := evR_nth (hd 3 (by simp)) rfl rfl
            go_simp
            refine hK _ _ ?_ ?_ (Below.refl _ _)
            · simp [upd, e3]
            · exact rfl
          refine ev_op 110 [3] (by kernel_rfl) rfl (fun y w' HW hd K hK => ?_) ?_
          · have e3 := evR_nth (hd 3 (by simp)) rfl rfl
            go_simp
            refine hK _ _ ?_ ?_ (Below.refl _ _)
            · simp [upd, e3]
            · exact rfl
          refine ev_op 111 [4, 5, 3] (by kernel_rfl) rfl (fun y w' HW hd K hK => ?_) ?_
          · have e3 := evR_nth (hd 3 (by simp)) rfl rfl
            have e4 := evR_nth (hd 4 (by simp)) rfl rfl
            have e5 := evR_nth (hd 5 (by simp)) rfl rfl
            go_simp
            refine hK _ _ ?_ ?_ (Below.refl _ _)
            · simp [upd, e3, e4, e5]
            · exact rfl
          refine ev_op 112 [3, 6] (by kernel_rfl) rfl (fun y w' HW hd K hK => ?_) ?_
          · have e3 := evR_nth (hd 3 (by simp)) rfl rfl
            have e6 := evR_nth (hd 6 (by simp)) rfl rfl
            go_simp
            refine hK _ _ ?_ ?_ (Below.refl _ _)
            · simp [upd, e3, e6]
            · exact rfl
          refine ev_op 113 [7, 3] (by kernel_rfl) rfl (fun y w' HW hd K hK => ?_) ?_
          · have e3 := evR_nth (hd 3 (by simp)) rfl rfl
            have e7 := evR_nth (hd 7 (by simp)) rfl rfl
            go_simp
            refine hK _ _ ?_ ?_ (Below.refl _ _)
            · simp [upd, e3, e7]
            · exact rfl
          refine ev_op 114 [8] (by kernel_rfl) rfl (fun y w' HW hd K hK => ?_) ?_
          · have e8 := evR_nth (hd 8 (by simp)) rfl rfl
            go_simp
            refine hK _ _ ?_ ?_ (Below.refl _ _)
            · simp [upd, e8]
            · exact rfl
          refine ev_op 115 [9, 8, 8] (by kernel_rfl) rfl (fun y w' HW hd K hK => ?_) ?_
          · have e8 := evR_nth (hd 8 (by simp)) rfl rfl
            have e9 := evR_nth (hd 9 (by simp)) rfl rfl
            go_simp
            refine (HLEN.out _ HW).mono ?_
            rintro e w3 ⟨rfl, hb3⟩
            refine hK _ _ ?_ ?_ hb3
            · simp [upd, e8, e9]
            · exact rfl
          refine ev_op 116 [8] (by kernel_rfl) rfl (fun y w' HW hd K hK => ?_) ?_
          · have e8 := evR_nth (hd 8 (by simp)) rfl rfl
            go_simp
            refine hK _ _ ?_ ?_ (Below.refl _ _)
            · simp [upd, e8]
            · exact rfl
          refine ev_op 117 [11, 8] (by kernel_rfl) rfl (fun y w' HW hd K hK => ?_) ?_
          · have e8 := evR_nth (hd 8 (by simp)) rfl rfl
            have e11 := evR_nth (hd 11 (by simp)) rfl rfl
            go_simp
            refine hK _ _ ?_ ?_ (Below.refl _ _)
            · simp [upd, e8, e11]
            · exact rfl
          refine ev_op 118 [12, 8] (by kernel_rfl) rfl (fun y w' HW hd K hK => ?_) ?_
          · have e8 := evR_nth (hd 8 (by simp)) rfl rfl
            have e12 := evR_nth (hd 12 (by simp)) rfl rfl
            go_simp
            refine hK _ _ ?_ ?_ (Below.refl _ _)
            · simp [upd, e8, e12]
            · exact rfl
          refine ev_op 119 [13, 8] (by kernel_rfl) rfl (fun y w' HW hd K hK => ?_) ?_
          · have e8 := evR_nth (hd 8 (by simp)) rfl rfl
            have e13 := evR_nth (hd 13 (by simp)) rfl rfl
            have hcl : ∀ p : Addr, p.block < V8.heap.size → w'.cell? p = V8.cell? p := fun p hp => HW.cell hp
            go_simp
            refine hK _ _ ?_ ?_ (Below.refl _ _)
            · simp [upd, e8, e13]
            · exact rfl
          refine ev_op 120 [14, 8] (by kernel_rfl) rfl (fun y w' HW hd K hK => ?_) ?_
          · have e8 := evR_nth (hd 8 (by simp)) rfl rfl
            have e14 := evR_nth (hd 14 (by simp)) rfl rfl
            go_simp
            refine hK _ _ ?_ ?_ (Below.refl _ _)
            · simp [upd, e8, e14]
            · exact rfl
          refine ev_op 121 [10, 15, 8] (by kernel_rfl) rfl (fun y w' HW hd K hK => ?_) ?_
          · have e8 := evR_nth (hd 8 (by simp)) rfl rfl
            have e10 := evR_nth (hd 10 (by simp)) rfl rfl
            have e15 := evR_nth (hd 15 (by simp)) rfl rfl
            go_simp
            refine hK _ _ ?_ ?_ (Below.refl _ _)
            · simp [upd, e8, e10, e15]
            · exact rfl
          refine ev_op 122 [8, 16] (by kernel_rfl) rfl (fun y w' HW hd K hK => ?_) ?_
          · have e8 := evR_nth (hd 8 (by simp)) rfl rfl
            have e16 := evR_nth (hd 16 (by simp)) rfl rfl
            go_simp
            refine hK _ _ ?_ ?_ (Below.refl _ _)
            · simp [upd, e8, e16]
            · exact rfl
          refine ev_op 123 [17, 10] (by kernel_rfl) rfl (fun y w' HW hd K hK => ?_) ?_
          · have e10 := evR_nth (hd 10 (by simp)) rfl rfl
            have e17 := evR_nth (hd 17 (by simp)) rfl rfl
            go_simp
            refine hK _ _ ?_ ?_ (Below.refl _ _)
            · simp [upd, e10, e17]
            · exact rfl
          refine ev_op 124 [18] (by kernel_rfl) rfl (fun y w' HW hd K hK => ?_) ?_
          · have e18 := evR_nth (hd 18 (by simp)) rfl rfl
            go_simp
            refine hK _ _ ?_ ?_ (Below.refl _ _)
            · simp [upd, e18]
            · exact rfl
          refine ev_one 125 [19, 18, 18] (by kernel_rfl) rfl (fun y w' HW hd K hK => ?_) ?_
          · have e18 := evR_nth (hd 18 (by simp)) rfl rfl
            have e19 := evR_nth (hd 19 (by simp)) rfl rfl
            go_simp
            refine (HLP.out _ HW).mono ?_
            rintro e w3 ⟨⟨a5, c5, rfl, HR5⟩, hb3⟩
            have hP : Lst n2 (l2.map Ln.kept) (.slice a5 n2 c5) w3 := ⟨a5, c5, rfl, HR5.out⟩
            refine hK _ _ ?_ ?_ hb3
            · simp [upd, e18, e19]
            · exact hP
          refine ev_op 126 [18] (by kernel_rfl) rfl (fun y w' HW hd K hK => ?_) ?_
          · have e18 := evR_nth (hd 18 (by simp)) rfl rfl
            go_simp
            refine hK _ _ ?_ ?_ (Below.refl _ _)
            · simp [upd, e18]
            · exact rfl
          refine ev_one 127 [21, 20, 18] (by kernel_rfl) rfl (fun y w' HW hd K hK => ?_) ?_
          · have e18 := evR_nth (hd 18 (by simp)) rfl rfl
            have e21 := evR_nth (hd 21 (by simp)) rfl rfl
            have eP20 := evR_b (hd 20 (by simp)) rfl
            go_simp
            refine (HLD.out _ HW).mono ?_
            rintro e w3 ⟨⟨a5, c5, rfl, HR5⟩, hb3⟩
            have hP : Lst n2 (l2.map Ln.kept) (.slice a5 n2 c5) w3 := ⟨a5, c5, rfl, HR5.out⟩
            refine hK _ _ ?_ ?_ hb3
            · simp [upd, e18, e21]
            · exact hP
          refine ev_op 128 [20, 22, 22, 18] (by kernel_rfl) rfl (fun y w' HW hd K hK => ?_) ?_
          · have e18 := evR_nth (hd 18 (by simp)) rfl rfl
            have eP20 := evR_b (hd 20 (by simp)) rfl
            have eP22 := evR_b (hd 22 (by simp)) rfl
            obtain ⟨a5, c5, e20, hr5⟩ := eP20
            obtain ⟨a6, c6, e22, hr6⟩ := eP22
            go_simp
            refine (same19_true a5 a6 c5 c6 n2 _ _ HKL.out HLL.out HNN.out hr5 hr6).mono ?_
            rintro e w3 ⟨rfl, hb3⟩
            refine hK _ _ ?_ ?_ hb3
            · simp [upd, e18, e20, e22]
            · exact rfl
          refine ev_op 129 [23, 18] (by kernel_rfl) rfl (fun y w' HW hd K hK => ?_) ?_
          · have e18 := evR_nth (hd 18 (by simp)) rfl rfl
            have e23 := evR_nth (hd 23 (by simp)) rfl rfl
            go_simp
            refine hK _ _ ?_ ?_ (Below.refl _ _)
            · simp [upd, e18, e23]
            · exact rfl
          refine ev_op 130 [18, 24] (by kernel_rfl) rfl (fun y w' HW hd K hK => ?_) ?_
          · have e18 := evR_nth (hd 18 (by simp)) rfl rfl
            have e24 := evR_nth (hd 24 (by simp)) rfl rfl
            go_simp
            refine hK _ _ ?_ ?_ (Below.refl _ _)
            · simp [upd, e18, e24]
            · exact rfl
          refine ev_op 131 [25, 23] (by kernel_rfl) rfl (fun y w' HW hd K hK => ?_) ?_
          · have e23 := evR_nth (hd 23 (by simp)) rfl rfl
            have e25 := evR_nth (hd 25 (by simp)) rfl rfl
            go_simp
            refine hK _ _ ?_ ?_ (Below.refl _ _)
            · simp [upd, e23, e25]
            · exact rfl
          refine ev_op 132 [26] (by kernel_rfl) rfl (fun y w' HW hd K hK => ?_) ?_
          · have e26 := evR_nth (hd 26 (by simp)) rfl rfl
            go_simp
            refine hK _ _ ?_ ?_ (Below.refl _ _)
            · simp [upd, e26]
            · exact rfl
          refine ev_op 133 [26] (by kernel_rfl) rfl (fun y w' HW hd K hK => ?_) ?_
          · have e26 := evR_nth (hd 26 (by simp)) rfl rfl
            go_simp
            refine hK _ _ ?_ ?_ (Below.refl _ _)
            · simp [upd, e26]
            · exact rfl
          refine ev_op 134 [28, 26] (by kernel_rfl) rfl (fun y w' HW hd K hK => ?_) ?_
          · have e26 := evR_nth (hd 26 (by simp)) rfl rfl
            have e28 := evR_nth (hd 28 (by simp)) rfl rfl
            have hcl : ∀ p : Addr, p.block < V8.heap.size → w'.cell? p = V8.cell? p := fun p hp => HW.cell hp
            go_simp
            refine hK _ _ ?_ ?_ (Below.refl _ _)
            · simp [upd, e26, e28]
            · exact rfl
          refine ev_op 135 [27, 29, 26, 26] (by kernel_rfl) rfl (fun y w' HW hd K hK => ?_) ?_
          · have e26 := evR_nth (hd 26 (by simp)) rfl rfl
            have e27 := evR_nth (hd 27 (by simp)) rfl rfl
            have e29 := evR_nth (hd 29 (by simp)) rfl rfl
            go_simp
            refine (HTP1.out _ HW).mono ?_
            rintro e w3 ⟨rfl, hb3⟩
            refine hK _ _ ?_ ?_ hb3
            · simp [upd, e26, e27, e29]
            · exact rfl
          refine ev_op 136 [26] (by kernel_rfl) rfl (fun y w' HW hd K hK => ?_) ?_
          · have e26 := evR_nth (hd 26 (by simp)) rfl rfl
            go_simp
            refine hK _ _ ?_ ?_ (Below.refl _ _)
            · simp [upd, e26]
            · exact rfl
          refine ev_op 137 [26] (by kernel_rfl) rfl (fun y w' HW hd K hK => ?_) ?_
          · have e26 := evR_nth (hd 26 (by simp)) rfl rfl
            go_simp
            refine hK _ _ ?_ ?_ (Below.refl _ _)
            · simp [upd, e26]
            · exact rfl
          refine ev_op 138 [32, 26] (by kernel_rfl) rfl (fun y w' HW hd K hK => ?_) ?_
          · have e26 := evR_nth (hd 26 (by simp)) rfl rfl
            have e32 := evR_nth (hd 32 (by simp)) rfl rfl
            have hcl : ∀ p : Addr, p.block < V8.heap.size → w'.cell? p = V8.cell? p := fun p hp => HW.cell hp
            go_simp
            refine hK _ _ ?_ ?_ (Below.refl _ _)
            · simp [upd, e26, e32]
            · exact rfl
          refine ev_op 139 [31, 33, 30, 26] (by kernel_rfl) rfl (fun y w' HW hd K hK => ?_) ?_
          · have e26 := evR_nth (hd 26 (by simp)) rfl rfl
            have e30 := evR_nth (hd 30 (by simp)) rfl rfl
            have e31 := evR_nth (hd 31 (by simp)) rfl rfl
            have e33 := evR_nth (hd 33 (by simp)) rfl rfl
            go_simp
            refine (HTD1.out _ HW).mono ?_
            rintro e w3 ⟨rfl, hb3⟩
            refine hK _ _ ?_ ?_ hb3
            · simp [upd, e26, e30, e31, e33]
            · exact rfl
          refine ev_op 140 [30, 34, 26] (by kernel_rfl) rfl (fun y w' HW hd K hK => ?_) ?_
          · have e26 := evR_nth (hd 26 (by simp)) rfl rfl
            have e30 := evR_nth (hd 30 (by simp)) rfl rfl
            have e34 := evR_nth (hd 34 (by simp)) rfl rfl
            go_simp
            refine hK _ _ ?_ ?_ (Below.refl _ _)
            · simp [upd, e26, e30, e34]
            · exact rfl
          refine ev_op 141 [26, 35] (by kernel_rfl) rfl (fun y w' HW hd K hK => ?_) ?_
          · have e26 := evR_nth (hd 26 (by simp)) rfl rfl
            have e35 := evR_nth (hd 35 (by simp)) rfl rfl
            go_simp
            refine hK _ _ ?_ ?_ (Below.refl _ _)
            · simp [upd, e26, e35]
            · exact rfl
          refine ev_op 142 [36, 34] (by kernel_rfl) rfl (fun y w' HW hd K hK => ?_) ?_
          · have e34 := evR_nth (hd 34 (by simp)) rfl rfl
            have e36 := evR_nth (hd 36 (by simp)) rfl rfl
            go_simp
            refine hK _ _ ?_ ?_ (Below.refl _ _)
            · simp [upd, e34, e36]
            · exact rfl
          refine ev_op 143 [37] (by kernel_rfl) rfl (fun y w' HW hd K hK => ?_) ?_
          · have e37 := evR_nth (hd 37 (by simp)) rfl rfl
            go_simp
            refine hK _ _ ?_ ?_ (Below.refl _ _)
            · simp [upd, e37]
            · exact rfl
          refine ev_op 144 [37] (by kernel_rfl) rfl (fun y w' HW hd K hK => ?_) ?_
          · have e37 := evR_nth (hd 37 (by simp)) rfl rfl
            go_simp
            refine hK _ _ ?_ ?_ (Below.refl _ _)
            · simp [upd, e37]
            · exact rfl
          refine ev_op 145 [39, 37] (by kernel_rfl) rfl (fun y w' HW hd K hK => ?_) ?_
          · have e37 := evR_nth (hd 37 (by simp)) rfl rfl
            have e39 := evR_nth (hd 39 (by simp)) rfl rfl
            go_simp
            refine hK _ _ ?_ ?_ (Below.refl _ _)
            · simp [upd, e37, e39]
            · exact rfl
          refine ev_op 146 [40, 37] (by kernel_rfl) rfl (fun y w' HW hd K hK => ?_) ?_
          · have e37 := evR_nth (hd 37 (by simp)) rfl rfl
            have e40 := evR_nth (hd 40 (by simp)) rfl rfl
            have hcl : ∀ p : Addr, p.block < V8.heap.size → w'.cell? p = V8.cell? p := fun p hp => HW.cell hp
            go_simp
            refine hK _ _ ?_ ?_ (Below.refl _ _)
            · simp [upd, e37, e40]
            · exact rfl
          refine ev_op 147 [38, 41, 37, 37] (by kernel_rfl) rfl (fun y w' HW hd K hK => ?_) ?_
          · have e37 := evR_nth (hd 37 (by simp)) rfl rfl
            have e38 := evR_nth (hd 38 (by simp)) rfl rfl
            have e41 := evR_nth (hd 41 (by simp)) rfl rfl
            go_simp
            refine (HTP2.out _ HW).mono ?_
            rintro e w3 ⟨rfl, hb3⟩
            refine hK _ _ ?_ ?_ hb3
            · simp [upd, e37, e38, e41]
            · exact rfl
          refine ev_op 148 [37] (by kernel_rfl) rfl (fun y w' HW hd K hK => ?_) ?_
          · have e37 := evR_nth (hd 37 (by simp)) rfl rfl
            go_simp
            refine hK _ _ ?_ ?_ (Below.refl _ _)
            · simp [upd, e37]
            · exact rfl
          refine ev_op 149 [37] (by kernel_rfl) rfl (fun y w' HW hd K hK => ?_) ?_
          · have e37 := evR_nth (hd 37 (by simp)) rfl rfl
            go_simp
            refine hK _ _ ?_ ?_ (Below.refl _ _)
            · simp [upd, e37]
            · exact rfl
          refine ev_op 150 [44, 37] (by kernel_rfl) rfl (fun y w' HW hd K hK => ?_) ?_
          · have e37 := evR_nth (hd 37 (by simp)) rfl rfl
            have e44 := evR_nth (hd 44 (by simp)) rfl rfl
            go_simp
            refine hK _ _ ?_ ?_ (Below.refl _ _)
            · simp [upd, e37, e44]
            · exact rfl
          refine ev_op 151 [45, 37] (by kernel_rfl) rfl (fun y w' HW hd K hK => ?_) ?_
          · have e37 := evR_nth (hd 37 (by simp)) rfl rfl
            have e45 := evR_nth (hd 45 (by simp)) rfl rfl
            have hcl : ∀ p : Addr, p.block < V8.heap.size → w'.cell? p = V8.cell? p := fun p hp => HW.cell hp
            go_simp
            refine hK _ _ ?_ ?_ (Below.refl _ _)
            · simp [upd, e37, e45]
            · exact rfl
          refine ev_op 152 [43, 46, 42, 37] (by kernel_rfl) rfl (fun y w' HW hd K hK => ?_) ?_
          · have e37 := evR_nth (hd 37 (by simp)) rfl rfl
            have e42 := evR_nth (hd 42 (by simp)) rfl rfl
            have e43 := evR_nth (hd 43 (by simp)) rfl rfl
            have e46 := evR_nth (hd 46 (by simp)) rfl rfl
            go_simp
            refine (HTD2.out _ HW).mono ?_
            rintro e w3 ⟨rfl, hb3⟩
            refine hK _ _ ?_ ?_ hb3
            · simp [upd, e37, e42, e43, e46]
            · exact rfl
          refine ev_op 153 [42, 47, 37] (by kernel_rfl) rfl (fun y w' HW hd K hK => ?_) ?_
          · have e37 := evR_nth (hd 37 (by simp)) rfl rfl
            have e42 := evR_nth (hd 42 (by simp)) rfl rfl
            have e47 := evR_nth (hd 47 (by simp)) rfl rfl
            go_simp
            refine hK _ _ ?_ ?_ (Below.refl _ _)
            · simp [upd, e37, e42, e47]
            · exact rfl
          refine ev_last fun y w' HW hd K hK => ?_
          have e0 := evR_nth (hd 0 (by omega)) rfl rfl
          have e1 := evR_nth (hd 1 (by omega)) rfl rfl
          have e2 := evR_nth (hd 2 (by omega)) rfl rfl
          have e3 := evR_nth (hd 3 (by omega)) rfl rfl
          have e4 := evR_nth (hd 4 (by omega)) rfl rfl
          have e5 := evR_nth (hd 5 (by omega)) rfl rfl
          have e6 := evR_nth (hd 6 (by omega)) rfl rfl
          have e7 := evR_nth (hd 7 (by omega)) rfl rfl
          have e8 := evR_nth (hd 8 (by omega)) rfl rfl
          have e9 := evR_nth (hd 9 (by omega)) rfl rfl
          have e10 := evR_nth (hd 10 (by omega)) rfl rfl
          have e11 := evR_nth (hd 11 (by omega)) rfl rfl
          have e12 := evR_nth (hd 12 (by omega)) rfl rfl
          have e13 := evR_nth (hd 13 (by omega)) rfl rfl
          have e14 := evR_nth (hd 14 (by omega)) rfl rfl
          have e15 := evR_nth (hd 15 (by omega)) rfl rfl
          have e16 := evR_nth (hd 16 (by omega)) rfl rfl
          have e17 := evR_nth (hd 17 (by omega)) rfl rfl
          have e18 := evR_nth (hd 18 (by omega)) rfl rfl
          have e19 := evR_nth (hd 19 (by omega)) rfl rfl
          have e21 := evR_nth (hd 21 (by omega)) rfl rfl
          have e23 := evR_nth (hd 23 (by omega)) rfl rfl
          have e24 := evR_nth (hd 24 (by omega)) rfl rfl
          have e25 := evR_nth (hd 25 (by omega)) rfl rfl
          have e26 := evR_nth (hd 26 (by omega)) rfl rfl
          have e27 := evR_nth (hd 27 (by omega)) rfl rfl
          have e28 := evR_nth (hd 28 (by omega)) rfl rfl
          have e29 := evR_nth (hd 29 (by omega)) rfl rfl
          have e30 := evR_nth (hd 30 (by omega)) rfl rfl
          have e31 := evR_nth (hd 31 (by omega)) rfl rfl
          have e32 := evR_nth (hd 32 (by omega)) rfl rfl
          have e33 := evR_nth (hd 33 (by omega)) rfl rfl
          have e34 := evR_nth (hd 34 (by omega)) rfl rfl
          have e35 := evR_nth (hd 35 (by omega)) rfl rfl
          have e36 := evR_nth (hd 36 (by omega)) rfl rfl
          have e37 := evR_nth (hd 37 (by omega)) rfl rfl
          have e38 := evR_nth (hd 38 (by omega)) rfl rfl
          have e39 := evR_nth (hd 39 (by omega)) rfl rfl
          have e40 := evR_nth (hd 40 (by omega)) rfl rfl
          have e41 := evR_nth (hd 41 (by omega)) rfl rfl
          have e42 := evR_nth (hd 42 (by omega)) rfl rfl
          have e43 := evR_nth (hd 43 (by omega)) rfl rfl
          have e44 := evR_nth (hd 44 (by omega)) rfl rfl
          have e45 := evR_nth (hd 45 (by omega)) rfl rfl
          have e46 := evR_nth (hd 46 (by omega)) rfl rfl
          have e47 := evR_nth (hd 47 (by omega)) rfl rfl
          have e48 := evR_nth (hd 48 (by omega)) rfl rfl
          go_simp
          refine hK _ _ ?_
          clear hd hK K e0 e1 e2 e3 e4 e5 e6 e7 e8 e9 e10 e11 e12 e13 e14 e15 e16 e17 e18 e19 e21 e23 e24 e25 e26 e27 e28 e29 e30 e31 e32 e33 e34 e35 e36 e37 e38 e39 e40 e41 e42 e43 e44 e45 e46 e47 e48
          have HJ9 := Lib.hid (HJ8.out.more HC.out HW).disarm
          clear HW HLEN HLP HLD HTP1 HTD1 HTP2 HTD2 HKL HLL HNN HJ8 HLN2 r0 r1 r2 rl s0 s1 s2 sl q0 ql a0 a1 a2 a3 a4 a5 a6 a7 al
          go_wp2
          go_roundw
          case rel => exact ⟨k + 1, l2, H1.out, by go_num, HJ9⟩
          case measure => have := H1.out; simp [intOf]; omega
    · have hout : (¬ (k : Int) < (len : Int)) ∨ ((k : Int) < (len : Int) ∧ ¬ (k : Int) < 100) := by omega
      rcases hout with f1 | ⟨f1, f2⟩
      all_goals
        clear hin hk HZ
        go_wp2_with fail
        refine (awake19 HC.out _).mono ?_
        rintro e w6 ⟨rfl, hb6⟩
        have HB6 := Lib.hid (HJ.out.b.trans (hb6.mono HJ.out.b.size))
        clear hb6 HJ
        go_wp2
        go_ret
        exact ⟨rfl, HB6.out⟩
end
end Go.Proofs.Ytcdiigdbjncpeaa.Sw
