/- Several texts in one: Cn -/
import Derived.Test.YtikkfapgmbamlaaGreatDoorZ28
section
/- The document's own answers: isGuest, need, guests, slots. -/
namespace Go.Proofs.YtikkfapgmbamlaaGreatDoor.Cf
open Go.RowKit Ut
set_option linter.unusedVariables false

theorem refIsGuest_any (v0 v2 v3 v4 v5 v6 v7 : Value) (ga : Option Addr) (gn gc : Nat) (i : Int) (w : World) (hl : gn ≤ 140737488355328) :
    Calls Tryz.prog 26 #[.agg #[v0, .slice ga gn gc, v2, v3, v4, v5, v6, v7], .int .i64 i] w fun e w' => e = .returned (.bool (isGn gn i)) ∧ Below w.heap.size w w' := by
  have HB0 := one_new w
  by_cases h1 : 0 ≤ i
  · by_cases h2 : i < (gn : Int)
    · have h : isGn gn i = true := by unfold isGn; simp [h1, h2]
      rw [h]
      clear h
      go_enter Tryz.func26, Tryz.ntmps26
      go_wp2
      go_ret
      exact ⟨rfl, HB0.out _⟩
    · have h : isGn gn i = false := by unfold isGn; simp [h2]
      rw [h]
      clear h
      go_enter Tryz.func26, Tryz.ntmps26
      go_wp2
      go_ret
      exact ⟨rfl, HB0.out _⟩
  · have h : isGn gn i = false := by unfold isGn; simp [h1]
    rw [h]
    clear h
    go_enter Tryz.func26, Tryz.ntmps26
    go_wp2
    go_ret
    exact ⟨rfl, HB0.out _⟩

theorem wrongG_ints (c : Cfg) (i : Nat) : (La.validB (c.G i 0) c.cats = false ∧ wrongG c i = true) ∨ (La.validB (c.G i 0) c.cats = true ∧ ((c.G i 1 < 1 ∧ wrongG c i = true) ∨ (1 ≤ c.G i 1 ∧ 8 < c.G i 1 ∧ wrongG c i = true) ∨
    (1 ≤ c.G i 1 ∧ c.G i 1 ≤ 8 ∧ c.G i 2 < 0 ∧ wrongG c i = true) ∨ (1 ≤ c.G i 1 ∧ c.G i 1 ≤ 8 ∧ 0 ≤ c.G i 2 ∧ 8 - c.G i 1 < c.G i 2 ∧ wrongG c i = true) ∨ (1 ≤ c.G i 1 ∧ c.G i 1 ≤ 8 ∧ 0 ≤ c.G i 2 ∧ c.G i 2 ≤ 8 - c.G i 1 ∧ wrongG c i = false))) := by
  unfold wrongG inB
  cases h1 : La.validB (c.G i 0) c.cats
  · simp
  · refine .inr ⟨rfl, ?_⟩
    by_cases h2 : 1 ≤ c.G i 1
    · by_cases h3 : c.G i 1 ≤ 8
      · by_cases h4 : 0 ≤ c.G i 2
        · by_cases h5 : c.G i 2 ≤ 8 - c.G i 1
          · simp [h2, h3, h4, h5]
          · refine .inr (.inr (.inr (.inl ⟨h2, h3, h4, by omega, by simp [h5]⟩)))
        · refine .inr (.inr (.inl ⟨h2, h3, by omega, by simp [h4]⟩))
      · refine .inr (.inl ⟨h2, by omega, by simp [h3]⟩)
    · exact .inl ⟨by omega, by simp [h2]⟩

/-- what the document's search says: too many or too few, else the first of them -/
def foundZ (bad : Bool) (o : Option Nat) : Bool × Int := if bad then (true, 0) else match o with
  | some k => (true, (k : Int))
  | none => (false, 0)

set_option maxRecDepth 100000 in
set_option maxHeartbeats 1000000 in
theorem refGuests_any (c : Cfg) (B : Nat) (w : World) (hB : B ≤ w.heap.size) (hc : c.At w B) :
    Calls Tryz.prog 21 #[c.v] w fun e w' => e = .returned (.tuple #[.bool (foundZ (!inB c.gn 1 4) (firstI c.gn (wrongG c))).1, .int .i64 (foundZ (!inB c.gn 1 4) (firstI c.gn (wrongG c))).2]) ∧ Below w.heap.size w w' := by
  have HB0 := one_new w
  have hlg := hc.lg
  by_cases h1 : c.gn < 1
  · have e : foundZ (!inB c.gn 1 4) (firstI c.gn (wrongG c)) = (true, 0) := by unfold foundZ inB; rw [if_pos]; simp; omega
    rw [e]
    clear e hc
    have h1' : (c.gn : Int) < 1 := by omega
    go_enter Tryz.func21, Tryz.ntmps21
    go_wp2
    go_ret2
    exact ⟨rfl, HB0.out _⟩
  · by_cases h2 : 4 < c.gn
    · have e : foundZ (!inB c.gn 1 4) (firstI c.gn (wrongG c)) = (true, 0) := by unfold foundZ inB; rw [if_pos]; simp; omega
      rw [e]
      clear e hc
      have h1' : ¬ (c.gn : Int) < 1 := by omega
      have h2' : 4 < (c.gn : Int) := by omega
      go_enter Tryz.func21, Tryz.ntmps21
      go_wp2
      go_ret2
      exact ⟨rfl, HB0.out _⟩
    · have e : foundZ (!inB c.gn 1 4) (firstI c.gn (wrongG c)) = foundZ false (firstI c.gn (wrongG c)) := by
        have : inB c.gn 1 4 = true := by unfold inB; simp; omega
        rw [this]; rfl
      rw [e]
      clear e
      have HG : Hid (RowT 3 w B c.ga c.gn c.G) := Lib.hid hc.g
      have HWr : Hid (∀ i, _) := Lib.hid (wrongG_ints c)
      obtain ⟨WR, hWR⟩ : ∃ WR, WR = wrongG c := ⟨_, rfl⟩
      rw [← hWR] at HWr ⊢
      clear hc hWR
      obtain ⟨cats, ga, gn, gc, ra, rn, rc, pa, pn, pc, na, nn, nc, sa, sn, sc, gate, quota, G, R, P, N, S⟩ := c
      dsimp only at h1 h2 HG HWr hlg ⊢
      have h1' : ¬ (gn : Int) < 1 := by omega
      have h2' : ¬ 4 < (gn : Int) := by omega
      go_enter Tryz.func21, Tryz.ntmps21
      go_wp2
      have hbw := HB0.out (.cells #[.int .i64 cats, .slice ga gn gc, .slice ra rn rc, .slice pa pn pc, .slice na nn nc, .slice sa sn sc, .int .i64 gate, .int .i64 quota] 28)
      obtain ⟨w1, hw1⟩ : ∃ w1, w1 = w.alloc (.cells #[.int .i64 cats, .slice ga gn gc, .slice ra rn rc, .slice pa pn pc, .slice na nn nc, .slice sa sn sc, .int .i64 gate, .int .i64 quota] 28) := ⟨_, rfl⟩
      have HK0 : Hid (w1.cell? ⟨w.heap.size, 0, none⟩ = some (.int .i64 cats)) := Lib.hid (by rw [hw1]; simp)
      have HK1 : Hid (w1.cell? ⟨w.heap.size, 1, none⟩ = some (.slice ga gn gc)) := Lib.hid (by rw [hw1]; simp)
      have s1 : w.heap.size < w1.heap.size := by rw [hw1]; simp
      rw [← hw1] at hbw ⊢
      clear hw1
      go_loopw [4] (fun i wr => ∃ k : Nat, k ≤ gn ∧ i = .int .i64 k ∧ Hid (∀ j, j < k → WR j = false) ∧ Below w1.heap.size w1 wr) (fun i _ => gn - (intOf i).toNat)
      case atStart => exact ⟨0, Nat.zero_le _, rfl, fun j hj => absurd hj (by omega), Below.refl _ _⟩
      case round =>
        obtain ⟨k, hk, rfl, hno, hb⟩ := hrel
        have hbk : Below w.heap.size w wr := hbw.trans (hb.mono (by omega))
        have k0 := (old_cells hb _ 0 s1).trans HK0.out
        have k1 := (old_cells hb _ 1 s1).trans HK1.out
        have sr : w.heap.size < wr.heap.size := by have := hb.size; omega
        by_cases hlt : k < gn
        · obtain ⟨x, rfl, hx, c0, c1, c2⟩ := (HG.out.below (hbk.mono hB)).at3 k hlt
          have b0 : (0 : Int) ≤ (k : Int) := by omega
          have b1 : (k : Int) < (gn : Int) := by omega
          have hw := HWr.out k
          have hs := firstI_some (n := gn) (k := k) (p := WR) hlt
          have HS : Hid (WR k = true → foundZ false (firstI gn WR) = (true, (k : Int))) := Lib.hid fun h => by rw [hs h hno.out]; rfl
          clear hs
          obtain ⟨l, hl0⟩ : ∃ l, l = G k 0 := ⟨_, rfl⟩
          obtain ⟨p, hp0⟩ : ∃ p, p = G k 1 := ⟨_, rfl⟩
          obtain ⟨q, hq0⟩ : ∃ q, q = G k 2 := ⟨_, rfl⟩
          rw [← hl0, ← hp0, ← hq0] at hw
          rw [← hl0] at c0
          rw [← hp0] at c1
          rw [← hq0] at c2
          clear hl0 hp0 hq0
          rcases hw with ⟨v1, hw⟩ | ⟨v1, ⟨v2, hw⟩ | ⟨v2, v3, hw⟩ | ⟨v2, v3, v4, hw⟩ | ⟨v2, v3, v4, v5, hw⟩ | ⟨v2, v3, v4, v5, hw⟩⟩
          rotate_right 1
          · have HW := Lib.hid hw
            clear hw HS
            go_wp2_with (first | (go_at_call 58; refine (La.refValid_gen _ _ _).mono ?_; rintro e w' ⟨rfl, rfl⟩))
            go_roundw
            case rel => exact ⟨k + 1, by omega, by go_num, Lib.hid (more_false hno.out HW.out), hb.alloc hb.size _⟩
            case measure => simp [intOf]; omega
          all_goals
            have HF := Lib.hid (HS.out hw)
            clear HS hw
            go_wp2_with (first | (go_at_call 58; refine (La.refValid_gen _ _ _).mono ?_; rintro e w' ⟨rfl, rfl⟩))
            go_ret2
            exact ⟨by rw [HF.out]; rfl, hbk.alloc hbk.size _⟩
        · have hkn : k = gn := by omega
          subst hkn
          have b1 : ¬ (k : Int) < (k : Int) := by omega
          have hres : foundZ false (firstI k WR) = (false, 0) := by rw [firstI_none hno.out]; rfl
          have HF := Lib.hid hres
          clear hres
          go_wp2
          go_ret2
          exact ⟨by rw [HF.out]; rfl, hbk⟩
end Go.Proofs.YtikkfapgmbamlaaGreatDoor.Cf
end
