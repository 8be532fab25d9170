/- What follows of a configuration: RangeOf, Period, Owner. -/
import Derived.Test.YtmekoanobicddaaCl
namespace Go.Proofs.Ytmekoanobicddaa.Cf
open Go.RowKit Ut
set_option linter.unusedVariables false

theorem secs_length (c : Cfg) : ∀ k, (secs c k).length = 32
  | 0 => by simp [secs]
  | k + 1 => by
    show (Pt.giveL (secs c k) _ _ _).length = 32
    rw [(Pt.giveL_okay (secs_okay c k) _ _ _).2, secs_length c k]
theorem right_range {c : Cfg} (h : rightB c = true) (i : Nat) (hi : i < c.rn) : ∃ F N : Nat, c.R i 1 = F ∧ c.R i 2 = N ∧ 1 ≤ N ∧ F + N ≤ 32 := by
  have h1 : wrongR c i = false := right_passed h 4 (by omega) i (by simpa [cntR] using hi)
  rcases wrongR_cases c i with ⟨_, h2⟩ | ⟨_, e, he, ⟨_, h2⟩ | ⟨h3, _⟩⟩
  · rw [h2] at h1; cases h1
  · rw [h2] at h1; cases h1
  · subst h3
    rcases Pt.giveL_cases (secs c i) (c.R i 1) (c.R i 2) i with ⟨_, h4, _⟩ | ⟨F, N, h4, h5, h6, h7, _⟩
    · rw [he] at h4; cases h4
    · rw [secs_length] at h7
      exact ⟨F, N, h4, h5, h6, h7⟩

/-- the first of n ranges that a sector is in -/
def rangeI (R : Nat → Nat → Int) (n : Nat) (s : Int) : Option Nat := firstI n fun k => inB s (R k 1) (R k 1 + R k 2 - 1)
def rangeZ (c : Cfg) (s : Int) : Int := if rightB c then atI (rangeI c.R c.rn s) else -1

theorem rangeOf1_any (l f n s : Int) (bs : Nat) (w : World) (hbs : bs < w.heap.size) (hs : w.cell? ⟨bs, 0, none⟩ = some (.int .i64 s)) (h1 : 0 ≤ f) (h2 : 1 ≤ n) (h3 : f + n ≤ 32) :
    Calls Try.prog 61 #[.agg #[.int .i64 l, .int .i64 f, .int .i64 n], .pointer (some ⟨bs, 0, none⟩)] w fun e w' => e = .returned (.bool (inB s f (f + n - 1))) ∧ Below w.heap.size w w' := by
  have HB0 := one_new w
  have HW : Hid (∀ W : World, Calls Try.prog 58 #[.int .i64 s, .int .i64 f, .int .i64 (f + n - 1)] W fun e w' => e = .returned (.bool (inB s f (f + n - 1))) ∧ W = w') := Lib.hid fun W => within_any _ _ _ _
  obtain ⟨r, hr⟩ : ∃ r, r = inB s f (f + n - 1) := ⟨_, rfl⟩
  rw [← hr] at HW ⊢
  clear hr
  go_enter Try.func61, Try.ntmps61
  go_wp2_with fail
  refine (HW.out _).mono ?_
  rintro e w1 ⟨rfl, rfl⟩
  go_wp2
  go_ret
  exact ⟨rfl, HB0.out _⟩

set_option maxRecDepth 100000 in
theorem indexRange_any (a : Option Addr) (n c B : Nat) (R : Nat → Nat → Int) (s : Int) (bs : Nat) (w : World) (hB : B ≤ w.heap.size) (h : RowT 3 w B a n R) (hn : n ≤ 140737488355328) (hbs : bs < w.heap.size) (hs : w.cell? ⟨bs, 0, none⟩ = some (.int .i64 s))
    (hr : ∀ i, i < n → 0 ≤ R i 1 ∧ 1 ≤ R i 2 ∧ R i 1 + R i 2 ≤ 32) :
    Calls Try.prog 60 #[.slice a n c, .func (.func 61) #[] #[.pointer (some ⟨bs, 0, none⟩)]] w fun e w' => e = .returned (.int .i64 (atI (rangeI R n s))) ∧ Below w.heap.size w w' := by
  have H := Lib.hid h
  have HG := Lib.hid hs
  have HRr := Lib.hid hr
  clear h hs hr
  go_enter Try.func60, Try.ntmps60
  go_wp2
  go_loopw [8] (fun i wr => ∃ k : Nat, k ≤ n ∧ i = .int .i64 k ∧ Hid (∀ j, j < k → inB s (R j 1) (R j 1 + R j 2 - 1) = false) ∧ Below w.heap.size w wr) (fun i _ => n - (intOf i).toNat)
  case atStart => exact ⟨0, Nat.zero_le _, rfl, fun j hj => absurd hj (by omega), Below.refl _ _⟩
  case round =>
    obtain ⟨k, hk, rfl, hno, hb⟩ := hrel
    by_cases hlt : k < n
    · obtain ⟨x, rfl, hx, c0, c1, c2⟩ := (H.out.below (hb.mono hB)).at3 k hlt
      have b0 : (0 : Int) ≤ (k : Int) := by omega
      have b1 : (k : Int) < (n : Int) := by omega
      have hbs2 := hb.size
      obtain ⟨q1, q2, q3⟩ := HRr.out k hlt
      have HC := Lib.hid (rangeOf1_any (R k 0) (R k 1) (R k 2) s bs wr (by omega) ((hb.cell (p := ⟨bs, 0, none⟩) hbs).trans HG.out) q1 q2 q3)
      clear q1 q2 q3
      obtain ⟨t, ht⟩ : ∃ t, t = inB s (R k 1) (R k 1 + R k 2 - 1) := ⟨_, rfl⟩
      rw [← ht] at HC
      have HT := Lib.hid ht
      clear ht
      cases t
      · go_wp2_with fail
        refine HC.out.mono ?_
        rintro e w1 ⟨rfl, hb1⟩
        go_wp2
        go_roundw
        case rel => exact ⟨k + 1, by omega, by go_num, Lib.hid (more_false hno.out HT.out.symm), hb.trans (hb1.mono hbs2)⟩
        case measure => simp [intOf]; omega
      · have hres : rangeI R n s = some k := firstI_some hlt HT.out.symm hno.out
        have HRes := Lib.hid hres
        clear hres
        go_wp2_with fail
        refine HC.out.mono ?_
        rintro e w1 ⟨rfl, hb1⟩
        go_wp2
        go_ret
        exact ⟨by rw [HRes.out]; rfl, hb.trans (hb1.mono hbs2)⟩
    · have hkn : k = n := by omega
      subst hkn
      have b1 : ¬ (k : Int) < (k : Int) := by omega
      have hr : rangeI R k s = none := firstI_none hno.out
      have HR := Lib.hid hr
      clear hr
      go_wp2
      go_ret
      exact ⟨by rw [HR.out]; rfl, hb⟩

set_option maxRecDepth 100000 in
theorem RangeOf_any (c : Cfg) (s : Int) (B : Nat) (w : World) (hB : B ≤ w.heap.size) (hc : c.At w B) :
    Calls Try.prog 33 #[c.v, .int .i64 s] w fun e w' => e = .returned (.int .i64 (rangeZ c s)) ∧ Below w.heap.size w w' := by
  have HB0 : Hid (∀ o o' : Obj, Below w.heap.size w ((w.alloc o).alloc o')) := Lib.hid fun o o' => ((Below.refl _ _).alloc (Nat.le_refl _) _).alloc (by simp) _
  unfold rangeZ
  cases hr : rightB c
  · have HR := isRight_keep c B w hB hc _ hr
    clear hr hc
    simp only [Bool.false_eq_true, if_false]
    go_enter Try.func33, Try.ntmps33
    go_wp2_with fail
    refine (HR.out _ (HB0.out _ _)).mono ?_
    rintro e w1 ⟨rfl, hb⟩
    go_wp2
    go_ret
    exact ⟨rfl, (HB0.out _ _).trans (hb.mono (by simp; omega))⟩
  · have HR := isRight_keep c B w hB hc _ hr
    have hlr := hc.lr
    have HF : Hid (∀ W, Below w.heap.size w W → ∀ b, b < W.heap.size → W.cell? ⟨b, 0, none⟩ = some (.int .i64 s) → Calls Try.prog 60 #[.slice c.ra c.rn c.rc, .func (.func 61) #[] #[.pointer (some ⟨b, 0, none⟩)]] W fun e w' => e = .returned (.int .i64 (atI (rangeI c.R c.rn s))) ∧ Below W.heap.size W w') :=
      Lib.hid fun W hW b hb hcb => indexRange_any c.ra c.rn c.rc B c.R s b W (by have := hW.size; omega) (hc.r.below (hW.mono hB)) (by omega) hb hcb (fun i hi => by obtain ⟨F, N, e1, e2, e3, e4⟩ := right_range hr i hi; omega)
    simp only [if_true]
    obtain ⟨m, hm⟩ : ∃ m, m = atI (rangeI c.R c.rn s) := ⟨_, rfl⟩
    rw [← hm] at HF ⊢
    clear hm hr hc
    go_enter Try.func33, Try.ntmps33
    go_wp2_with fail
    refine (HR.out _ (HB0.out _ _)).mono ?_
    rintro e w1 ⟨rfl, hb⟩
    have hq := old_cells hb
    have hbw := (HB0.out _ _).trans (hb.mono (by simp; omega))
    have s1 : w.heap.size + 1 < w1.heap.size := by have := hb.size; simp at this; omega
    have hcl : w1.cell? ⟨w.heap.size + 1, 0, none⟩ = some (.int .i64 s) := by rw [hq _ _ (by simp)]; simp [go_sem]
    have HCl := Lib.hid hcl
    go_wp2_with fail
    refine (HF.out _ hbw _ s1 HCl.out).mono ?_
    rintro e w3 ⟨rfl, hb3⟩
    go_wp2
    go_ret
    exact ⟨rfl, hbw.trans (hb3.mono hbw.size)⟩

/-- the budgets of the first k slots -/
def sumS (S : Nat → Nat → Int) : Nat → Int
  | 0 => 0
  | k + 1 => sumS S k + S k 1
def periodZ (c : Cfg) : Int := if rightB c then sumS c.S c.sn else 0
theorem sumS_bd {S : Nat → Nat → Int} {n : Nat} (h : ∀ i, i < n → 1 ≤ S i 1 ∧ S i 1 ≤ 32) : ∀ k, k ≤ n → (k : Int) ≤ sumS S k ∧ sumS S k ≤ 32 * k
  | 0, _ => by simp [sumS]
  | k + 1, hk => by
    have := sumS_bd h k (by omega)
    have := h k (by omega)
    simp only [sumS]
    omega
set_option maxRecDepth 100000 in
theorem Period_any (c : Cfg) (B : Nat) (w : World) (hB : B ≤ w.heap.size) (hc : c.At w B) :
    Calls Try.prog 21 #[c.v] w fun e w' => e = .returned (.int .i64 (periodZ c)) ∧ Below w.heap.size w w' := by
  have HB0 := one_new w
  unfold periodZ
  cases hr : rightB c
  · have HR := isRight_keep c B w hB hc _ hr
    clear hr hc
    simp only [Bool.false_eq_true, if_false]
    go_enter Try.func21, Try.ntmps21
    go_wp2_with fail
    refine (HR.out _ (HB0.out _)).mono ?_
    rintro e w1 ⟨rfl, hb⟩
    go_wp2
    go_ret
    exact ⟨rfl, (HB0.out _).trans (hb.mono (by simp))⟩
  · have HR := isRight_keep c B w hB hc _ hr
    obtain ⟨_, hsn⟩ := right_slots hr
    have HS : Hid (RowT 2 w B c.sa c.sn c.S) := Lib.hid hc.s
    have HBd : Hid (∀ i, i < c.sn → 1 ≤ c.S i 1 ∧ c.S i 1 ≤ 32) := Lib.hid fun i hi => (right_slot hr i hi).2
    simp only [if_true]
    clear hr hc
    obtain ⟨cats, ga, gn, gc, ra, rn, rc, pa, pn, pc, na, nn, nc, sa, sn, sc, gate, quota, G, R, P, N, S⟩ := c
    dsimp only at HS HBd hsn HR ⊢
    go_enter Try.func21, Try.ntmps21
    go_wp2_with fail
    refine (HR.out _ (HB0.out _)).mono ?_
    rintro e w1 ⟨rfl, hb⟩
    have hq := old_cells hb
    have hbw := (HB0.out _).trans (hb.mono (by simp))
    clear hb
    go_wp2
    clear hq
    go_loopw [3, 12] (fun s i wr => ∃ k : Nat, k ≤ sn ∧ s = .int .i64 (sumS S k) ∧ i = .int .i64 k ∧ Below w.heap.size w wr) (fun _ i _ => sn - (intOf i).toNat)
    case atStart => exact ⟨0, Nat.zero_le _, rfl, rfl, hbw⟩
    case round =>
      obtain ⟨k, hk, rfl, rfl, hb⟩ := hrel
      by_cases hlt : k < sn
      · obtain ⟨x, rfl, hx, c0, c1⟩ := (HS.out.below (hb.mono hB)).at2 k hlt
        have hsb := sumS_bd HBd.out k hk
        have hst := HBd.out k hlt
        have hsn2 : Hid (sumS S (k + 1) = sumS S k + S k 1) := Lib.hid rfl
        have b0 : (0 : Int) ≤ (k : Int) := by omega
        have b1 : (k : Int) < (sn : Int) := by omega
        obtain ⟨s, hs⟩ : ∃ s, s = sumS S k := ⟨_, rfl⟩
        obtain ⟨p, hp⟩ : ∃ p, p = S k 1 := ⟨_, rfl⟩
        rw [← hs, ← hp] at hsn2
        rw [← hs] at hsb ⊢
        rw [← hp] at hst c1
        clear hs hp
        go_wp2
        go_roundw
        case rel => exact ⟨k + 1, by omega, by rw [hsn2.out], by go_num, hb.alloc hb.size _⟩
        case measure => simp [intOf]; omega
      · have hkn : k = sn := by omega
        subst hkn
        have b1 : ¬ (k : Int) < (k : Int) := by omega
        go_wp2
        go_ret
        exact ⟨rfl, hb⟩
end Go.Proofs.Ytmekoanobicddaa.Cf
