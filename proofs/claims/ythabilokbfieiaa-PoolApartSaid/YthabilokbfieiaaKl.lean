/- The walk of hermitagelaw07.PoolApart. -/
import Derived.Test.YthabilokbfieiaaKj
namespace Go.Proofs.Ythabilokbfieiaa.Lo
open Go.RowKit Ut Hp Fr Oc
set_option linter.unusedVariables false
set_option maxRecDepth 100000
set_option maxHeartbeats 4000000

section
variable {W W' : World} {b pb c qb n : Nat} {s u : PS} {L : List Int}
theorem PB.apart (h : PB W qb c n s) (t : Two W W' b pb) (h1 : qb ≠ b) (h2 : qb ≠ pb) : PB W' qb c n s := ⟨h.1.of_block (t.other qb h.1.lt h1 h2), h.2⟩
theorem st_apart (h : St W c n L) (t : Two W W' b pb) (h1 : c ≠ b) (h2 : c ≠ pb) : St W' c n L := h.of_block (t.other c h.lt h1 h2)
/-- a frame of 0's that is taken, or given back, is nothing to 1 -/
theorem hit_other {f : Nat} {v : Bool} (h : s.wh f = 0) : hit (tkS s f v) 1 = hit s 1 := by
  funext k
  by_cases e : k = f
  · subst e; simp [hit, tkS, h]
  · simp [hit, tkS, e]
theorem hit_take {f : Nat} (h : hit s 1 = hit u 1) : hit (tkS s f true) 1 = hit (tkS u f true) 1 := by
  funext k
  by_cases e : k = f
  · subst e; simp [hit, tkS]
  · have := congrFun h k
    simp only [hit, tkS, e, if_false] at this ⊢
    exact this
end
/-- four blocks, one behind the other -/
structure Four (b c pb qb : Nat) : Prop where
  bc : b < c
  cp : c < pb
  pq : pb < qb

theorem apart_any (n v : Int) (a : Option Addr) (len cap : Nat) (zs : List Int) (w : World) (hn0 : 0 ≤ n) (hn1 : n < 256) (hv0 : 0 ≤ v) (hv1 : v < 256) (hlen : len ≤ 9223372036854775807) (hrow : RowK .u8 w w.heap.size a len zs) (hz : AreBytes zs) :
    Calls Try.prog 5 #[.int .u8 n, .slice a len cap, .int .u8 v] w fun e w' => e = .returned (.bool true) ∧ Below w.heap.size w w' := by
  obtain ⟨N, hN, hN1, hN2⟩ : ∃ N : Nat, 1 + n % 32 = (N : Int) ∧ 1 ≤ N ∧ N ≤ 32 := ⟨(1 + n % 32).toNat, by omega, by omega, by omega⟩
  obtain ⟨M, hM, hM40⟩ : ∃ M : Nat, v % 40 = (M : Int) ∧ M < 40 := ⟨(v % 40).toNat, by omega, by omega⟩
  have HM := Lib.hid (And.intro hM hM40)
  have HR := Lib.hid hrow
  have HZ := Lib.hid hz
  clear hrow hz hM hM40
  go_enter Try.func5, Try.ntmps5
  go_wp2_with fail
  refine (new_ok N w hN2).mono ?_
  rintro e w1 ⟨rfl, hS, hB⟩
  have HS := Lib.hid hS
  have HNN := Lib.hid (And.intro hN1 hN2)
  have HB := Lib.hid hB
  clear hS hN1 hN2 hB
  go_wp2_with fail
  refine (new_ok N w1 HNN.out.2).mono ?_
  rintro e w2 ⟨rfl, hS2, hB2⟩
  have h12 := HS.out.lt
  have HSb := Lib.hid (HS.out.below hB2 HS.out.lt)
  have HSc := Lib.hid hS2
  have HB2 := Lib.hid (HB.out.trans (hB2.mono HB.out.size))
  clear hS2 hB2 HB HS hN
  go_wp2_with fail
  refine (new_any w.heap.size N w2 HSb.out.cell1 HNN.out.1 HNN.out.2).mono ?_
  rintro e w3 ⟨rfl, hP, hB3⟩
  have h23 := HSc.out.lt
  have HSb3 := Lib.hid (HSb.out.below hB3 HSb.out.lt)
  have HSc3 := Lib.hid (HSc.out.below hB3 HSc.out.lt)
  have HP3 := Lib.hid hP
  have HB3 := Lib.hid (HB2.out.trans (hB3.mono HB2.out.size))
  clear hP hB3 HB2 HSb HSc
  go_wp2_with fail
  refine (new_any w1.heap.size N w3 HSc3.out.cell1 HNN.out.1 HNN.out.2).mono ?_
  rintro e w4 ⟨rfl, hQ, hB4⟩
  have HFO := Lib.hid (Four.mk h12 h23 HP3.out.1.lt)
  have HSb4 := Lib.hid (HSb3.out.below hB4 HSb3.out.lt)
  have HSc4 := Lib.hid (HSc3.out.below hB4 HSc3.out.lt)
  have HP4 : Hid (PB w4 w2.heap.size w.heap.size N noS) := ⟨HP3.out.1.below hB4, HP3.out.2⟩
  have HQ4 := Lib.hid hQ
  have HB4 := Lib.hid (HB3.out.trans (hB4.mono HB3.out.size))
  clear hQ hB4 HB3 HSb3 HSc3 HP3 h12 h23
  generalize w3.heap.size = qb at HFO HQ4 ⊢
  generalize w2.heap.size = pb at HFO HP4 ⊢
  generalize w1.heap.size = c at HFO HQ4 HSc4 ⊢
  obtain ⟨b, hb⟩ : ∃ b, w.heap.size = b := ⟨_, rfl⟩
  have HBE := Lib.hid hb
  rw [hb] at HFO HP4 HSb4 ⊢
  clear hb
  go_wp2
  go_loopw [16] (fun j wr => ∃ (k : Nat) (L L' : List Int) (s : PS), k ≤ N ∧ j = .int .i64 k ∧ Hid (St wr b N L) ∧ Hid (St wr c N L') ∧ Hid (PB wr pb b N s) ∧ Hid (PB wr qb c N s) ∧ Hid (All s k) ∧ Hid (Below b w wr)) (fun j _ => N - (intOf j).toNat)
  case atStart => exact ⟨0, _, _, _, Nat.zero_le _, rfl, HSb4, HSc4, HP4, HQ4, all_no, by rw [← HBE.out]; exact HB4.out⟩
  case round =>
    clear HSb4 HSc4 HP4 HQ4 HB4
    obtain ⟨k, L, L', s, hk, rfl, HS, HC, HP, HQ, HA, HB⟩ := hrel
    by_cases hkN : k < N
    · have f1 : decide ((k : Int) < (N : Int)) = true := by simpa using hkN
      have HKN := Lib.hid hkN
      have h32 : (k : Int) < 32 := by have := HNN.out; omega
      by_cases hkl : k < len
      · obtain ⟨x, rfl, hx, hc⟩ := HR.out.2 k hkl
        have hc2 := (HB.out.cell (p := x.add k) (by rw [block_of_add, ← HBE.out]; exact hx)).trans hc
        obtain ⟨z, hze⟩ : ∃ z, z = zs.getD k 0 := ⟨_, rfl⟩
        have hzb := HZ.out.at_ k
        rw [← hze] at hc2 hzb
        clear hze hc hx
        have f2 : decide ((k : Int) < (len : Int)) = true := by simpa using hkl
        obtain ⟨q, hq, hq4⟩ : ∃ q : Nat, z % 2 = (q : Int) ∧ q < 2 := ⟨(z % 2).toNat, by omega, by omega⟩
        have HQQ := Lib.hid (show q < 4 by omega)
        have hz0 := hzb.1
        have hz1 := hzb.2
        clear hzb hq4
        go_wp2_with fail
        refine (own_ok pb b N k q L s wr HS.out HP.out (by have := HFO.out.bc; have := HFO.out.cp; omega) HKN.out (by have := HQQ.out; omega) (all_next HA.out)).mono ?_
        rintro e w5 ⟨rfl, hS5, hP5, hT5⟩
        have HS5 := Lib.hid hS5
        have HP5 := Lib.hid hP5
        have HC5 := Lib.hid (st_apart HC.out hT5 (by have := HFO.out.bc; omega) (by have := HFO.out.cp; omega))
        have HQ5 := Lib.hid (HQ.out.apart hT5 (by have := HFO.out.bc; have := HFO.out.cp; have := HFO.out.pq; omega) (by have := HFO.out.pq; omega))
        have HB5 := Lib.hid (hT5.below HB.out (by rw [← HBE.out]; exact HB.out.size) (Nat.le_refl _) (by have := HFO.out.bc; have := HFO.out.cp; omega))
        clear hS5 hP5 hT5 HS HC HP HQ HB hc2 hq
        go_wp2_with fail
        refine (own_ok qb c N k q L' s w5 HC5.out HQ5.out (by have := HFO.out.cp; have := HFO.out.pq; omega) HKN.out (by have := HQQ.out; omega) (all_next HA.out)).mono ?_
        rintro e w6 ⟨rfl, hC6, hQ6, hT6⟩
        have HC6 := Lib.hid hC6
        have HQ6 := Lib.hid hQ6
        have HS6 := Lib.hid (st_apart HS5.out hT6 (by have := HFO.out.bc; omega) (by have := HFO.out.bc; have := HFO.out.cp; have := HFO.out.pq; omega))
        have HP6 := Lib.hid (HP5.out.apart hT6 (by have := HFO.out.cp; omega) (by have := HFO.out.pq; omega))
        have HB6 := Lib.hid (hT6.below HB5.out (by rw [← HBE.out]; exact HB5.out.size) (by have := HFO.out.bc; omega) (by have := HFO.out.bc; have := HFO.out.cp; have := HFO.out.pq; omega))
        have HA6 := Lib.hid (all_own HA.out HQQ.out)
        clear hC6 hQ6 hT6 HS5 HC5 HP5 HQ5 HB5
        go_wp2
        go_roundw
        case rel => exact ⟨k + 1, _, _, _, HKN.out, by go_num, HS6, HC6, HP6, HQ6, HA6, HB6⟩
        case measure => have := HKN.out; simp [intOf]; omega
      · have f2 : decide ((k : Int) < (len : Int)) = false := by simpa using hkl
        go_wp2_with fail
        refine (own_ok pb b N k 0 L s wr HS.out HP.out (by have := HFO.out.bc; have := HFO.out.cp; omega) HKN.out (by have := (show 0 < 4 by omega); omega) (all_next HA.out)).mono ?_
        rintro e w5 ⟨rfl, hS5, hP5, hT5⟩
        have HS5 := Lib.hid hS5
        have HP5 := Lib.hid hP5
        have HC5 := Lib.hid (st_apart HC.out hT5 (by have := HFO.out.bc; omega) (by have := HFO.out.cp; omega))
        have HQ5 := Lib.hid (HQ.out.apart hT5 (by have := HFO.out.bc; have := HFO.out.cp; have := HFO.out.pq; omega) (by have := HFO.out.pq; omega))
        have HB5 := Lib.hid (hT5.below HB.out (by rw [← HBE.out]; exact HB.out.size) (Nat.le_refl _) (by have := HFO.out.bc; have := HFO.out.cp; omega))
        clear hS5 hP5 hT5 HS HC HP HQ HB 
        go_wp2_with fail
        refine (own_ok qb c N k 0 L' s w5 HC5.out HQ5.out (by have := HFO.out.cp; have := HFO.out.pq; omega) HKN.out (by have := (show 0 < 4 by omega); omega) (all_next HA.out)).mono ?_
        rintro e w6 ⟨rfl, hC6, hQ6, hT6⟩
        have HC6 := Lib.hid hC6
        have HQ6 := Lib.hid hQ6
        have HS6 := Lib.hid (st_apart HS5.out hT6 (by have := HFO.out.bc; omega) (by have := HFO.out.bc; have := HFO.out.cp; have := HFO.out.pq; omega))
        have HP6 := Lib.hid (HP5.out.apart hT6 (by have := HFO.out.cp; omega) (by have := HFO.out.pq; omega))
        have HB6 := Lib.hid (hT6.below HB5.out (by rw [← HBE.out]; exact HB5.out.size) (by have := HFO.out.bc; omega) (by have := HFO.out.bc; have := HFO.out.cp; have := HFO.out.pq; omega))
        have HA6 := Lib.hid (all_own HA.out (show 0 < 4 by omega))
        clear hC6 hQ6 hT6 HS5 HC5 HP5 HQ5 HB5
        go_wp2
        go_roundw
        case rel => exact ⟨k + 1, _, _, _, HKN.out, by go_num, HS6, HC6, HP6, HQ6, HA6, HB6⟩
        case measure => have := HKN.out; simp [intOf]; omega
    · obtain rfl : N = k := by omega
      have f1 : decide ((N : Int) < (N : Int)) = false := by simp
      have hM := HM.out.1
      have HM40 := Lib.hid HM.out.2
      clear HR HZ hkN hk HM
      have HEQ : Hid (hit s 1 = hit s 1) := rfl
      obtain ⟨u, hu⟩ : ∃ u, u = s := ⟨_, rfl⟩
      have HU : Hid (PB wr qb c N u) := by rw [hu]; exact HQ
      have HEQ2 : Hid (hit s 1 = hit u 1) := by rw [hu]; exact HEQ
      clear hu HQ HEQ HA
      go_wp2
      obtain ⟨wo, hwo⟩ : ∃ wo : World, wo = wr := ⟨_, rfl⟩
      rw [← hwo] at HS HC HP HU HB ⊢
      clear hwo wr f1
      go_loopw [18] (fun j wr => ∃ (i : Nat) (L L' : List Int) (s : PS), i ≤ M ∧ j = .int .i64 i ∧ Hid (St wr b N L) ∧ Hid (St wr c N L') ∧ Hid (PB wr pb b N s) ∧ Hid (PB wr qb c N u) ∧ Hid (hit s 1 = hit u 1) ∧ Hid (Below b w wr)) (fun j _ => M - (intOf j).toNat)
      case atStart => exact ⟨0, _, _, _, Nat.zero_le _, rfl, HS, HC, HP, HU, HEQ2, HB⟩
      case round =>
        clear HS HC HP HU HEQ2 HB
        obtain ⟨i, L, L', s, hi, rfl, HS, HC, HP, HU, HE, HB⟩ := hrel
        by_cases hiM : i < M
        · have f1 : decide ((i : Int) < (M : Int)) = true := by simpa using hiM
          have hi40 : (i : Int) < 40 := by have := HM40.out; omega
          have HIM := Lib.hid hiM
          clear hi
          by_cases hc0 : 0 < countN (hit s 0) N
          · obtain ⟨f, hf, hh, hle⟩ := count_some hc0
            have hhs : (s.ow f = true ∧ s.tk f = false) ∧ s.wh f = 0 := by simpa [hit] using hh
            have HF := Lib.hid hf
            have HH := Lib.hid hh
            have HLE := Lib.hid hle
            have HHS := Lib.hid hhs
            clear hc0 hf hh hle hhs hiM
            go_wp2_with fail
            refine (take_some pb b N f 0 L s wr HS.out HP.out (by have := HFO.out.bc; have := HFO.out.cp; have := HFO.out.pq; omega) HF.out (by omega) HH.out HLE.out).mono ?_
            rintro e w5 ⟨rfl, hS5, hP5, hT5⟩
            have HS5 := Lib.hid hS5
            have HP5 := Lib.hid hP5
            have HC5 := Lib.hid (st_apart HC.out hT5 (by have := HFO.out.bc; have := HFO.out.cp; have := HFO.out.pq; omega) (by have := HFO.out.bc; have := HFO.out.cp; have := HFO.out.pq; omega))
            have HU5 := Lib.hid (HU.out.apart hT5 (by have := HFO.out.bc; have := HFO.out.cp; have := HFO.out.pq; omega) (by have := HFO.out.bc; have := HFO.out.cp; have := HFO.out.pq; omega))
            have HB5 := Lib.hid (hT5.below HB.out (by rw [← HBE.out]; exact HB.out.size) (Nat.le_refl _) (by have := HFO.out.bc; have := HFO.out.cp; have := HFO.out.pq; omega))
            have HE5 := Lib.hid ((hit_other (v := true) HHS.out.2).trans HE.out)
            clear hS5 hP5 hT5 HS HC HP HU HB HE
            by_cases hi3 : (i : Int) % 3 = 2
            · have f3 : ((i : Int) % 3 == 2) = true := by simpa using hi3
              go_wp2_with fail
              refine (back_ok pb b N f _ (tkS s f true) w5 HS5.out HP5.out (by have := HFO.out.bc; have := HFO.out.cp; have := HFO.out.pq; omega) HF.out (by simp [tkS])).mono ?_
              rintro e w6 ⟨rfl, hS6, hP6, hT6⟩
              have HS6 := Lib.hid hS6
              have HP6 := Lib.hid hP6
              have HC6 := Lib.hid (st_apart HC5.out hT6 (by have := HFO.out.bc; have := HFO.out.cp; have := HFO.out.pq; omega) (by have := HFO.out.bc; have := HFO.out.cp; have := HFO.out.pq; omega))
              have HU6 := Lib.hid (HU5.out.apart hT6 (by have := HFO.out.bc; have := HFO.out.cp; have := HFO.out.pq; omega) (by have := HFO.out.bc; have := HFO.out.cp; have := HFO.out.pq; omega))
              have HB6 := Lib.hid (hT6.below HB5.out (by rw [← HBE.out]; exact HB5.out.size) (Nat.le_refl _) (by have := HFO.out.bc; have := HFO.out.cp; have := HFO.out.pq; omega))
              have HE6 := Lib.hid ((hit_other (s := tkS s f true) (v := false) HHS.out.2).trans HE5.out)
              clear hS6 hP6 hT6 HS5 HC5 HP5 HU5 HB5 HE5
              go_wp2
              go_roundw
              case rel => exact ⟨i + 1, _, _, _, HIM.out, by go_num, HS6, HC6, HP6, HU6, HE6, HB6⟩
              case measure => have := HIM.out; simp [intOf]; omega
            · have f3 : ((i : Int) % 3 == 2) = false := by simpa using hi3
              go_wp2
              go_roundw
              case rel => exact ⟨i + 1, _, _, _, HIM.out, by go_num, HS5, HC5, HP5, HU5, HE5, HB5⟩
              case measure => have := HIM.out; simp [intOf]; omega
          · have HZ := Lib.hid (count_none (show countN (hit s 0) N = 0 by omega))
            clear hc0 hiM
            go_wp2_with fail
            refine (take_none pb b N 0 s wr HP.out (by omega) HZ.out).mono ?_
            rintro e w5 ⟨rfl, rfl⟩
            go_wp2
            go_roundw
            case rel => exact ⟨i + 1, _, _, _, HIM.out, by go_num, HS, HC, HP, HU, HE, HB⟩
            case measure => have := HIM.out; simp [intOf]; omega
        · obtain rfl : i = M := by omega
          have f1 : decide ((i : Int) < (i : Int)) = false := by simp
          go_wp2
          obtain ⟨wo, hwo⟩ : ∃ wo : World, wo = wr := ⟨_, rfl⟩
          rw [← hwo] at HS HC HP HU HB ⊢
          clear hwo wr f1 hi hiM HM40 hM
          go_loopw [21] (fun j wr => ∃ (i : Nat) (L L' : List Int) (s u : PS), i ≤ N + 1 ∧ j = .int .i64 i ∧ Hid (St wr b N L) ∧ Hid (St wr c N L') ∧ Hid (PB wr pb b N s) ∧ Hid (PB wr qb c N u) ∧ Hid (hit s 1 = hit u 1) ∧ Hid (Below b w wr)) (fun j _ => N + 1 - (intOf j).toNat)
          case atStart => exact ⟨0, _, _, _, _, Nat.zero_le _, rfl, HS, HC, HP, HU, HE, HB⟩
          case round =>
            clear HS HC HP HU HE HB
            obtain ⟨i, L, L', s, u, hi, rfl, HS, HC, HP, HU, HE, HB⟩ := hrel
            by_cases hiN : i ≤ N
            · have f1 : (i : Int) ≤ (N : Int) := by omega
              have f1' : decide ((N : Int) < (i : Int)) = false := by simp; omega
              have hi40 : (i : Int) < 40 := by have := HNN.out; omega
              have HIN := Lib.hid (show i + 1 ≤ N + 1 by omega)
              clear hi hiN
              by_cases hc0 : 0 < countN (hit s 1) N
              · obtain ⟨f, hf, hh, hle⟩ := count_some hc0
                have HF := Lib.hid hf
                have HH := Lib.hid hh
                have HLE := Lib.hid hle
                have HH2 : Hid (hit u 1 f = true) := by rw [← HE.out]; exact HH
                have HLE2 : Hid (∀ k, k < f → hit u 1 k = false) := by rw [← HE.out]; exact HLE
                clear hc0 hf hh hle
                go_wp2_with fail
                refine (take_some pb b N f 1 L s wr HS.out HP.out (by have := HFO.out.bc; have := HFO.out.cp; have := HFO.out.pq; omega) HF.out (by omega) HH.out HLE.out).mono ?_
                rintro e w5 ⟨rfl, hS5, hP5, hT5⟩
                have HS5 := Lib.hid hS5
                have HP5 := Lib.hid hP5
                have HC5 := Lib.hid (st_apart HC.out hT5 (by have := HFO.out.bc; have := HFO.out.cp; have := HFO.out.pq; omega) (by have := HFO.out.bc; have := HFO.out.cp; have := HFO.out.pq; omega))
                have HU5 := Lib.hid (HU.out.apart hT5 (by have := HFO.out.bc; have := HFO.out.cp; have := HFO.out.pq; omega) (by have := HFO.out.bc; have := HFO.out.cp; have := HFO.out.pq; omega))
                have HB5 := Lib.hid (hT5.below HB.out (by rw [← HBE.out]; exact HB.out.size) (Nat.le_refl _) (by have := HFO.out.bc; have := HFO.out.cp; have := HFO.out.pq; omega))
                clear hS5 hP5 hT5 HS HC HP HU HB
                go_wp2_with fail
                refine (take_some qb c N f 1 L' u w5 HC5.out HU5.out (by have := HFO.out.bc; have := HFO.out.cp; have := HFO.out.pq; omega) HF.out (by omega) HH2.out HLE2.out).mono ?_
                rintro e w6 ⟨rfl, hC6, hU6, hT6⟩
                have HC6 := Lib.hid hC6
                have HU6 := Lib.hid hU6
                have HS6 := Lib.hid (st_apart HS5.out hT6 (by have := HFO.out.bc; have := HFO.out.cp; have := HFO.out.pq; omega) (by have := HFO.out.bc; have := HFO.out.cp; have := HFO.out.pq; omega))
                have HP6 := Lib.hid (HP5.out.apart hT6 (by have := HFO.out.bc; have := HFO.out.cp; have := HFO.out.pq; omega) (by have := HFO.out.bc; have := HFO.out.cp; have := HFO.out.pq; omega))
                have HB6 := Lib.hid (hT6.below HB5.out (by rw [← HBE.out]; exact HB5.out.size) (by have := HFO.out.bc; have := HFO.out.cp; have := HFO.out.pq; omega) (by have := HFO.out.bc; have := HFO.out.cp; have := HFO.out.pq; omega))
                have HE6 := Lib.hid (hit_take (f := f) HE.out)
                have HCE := Lib.hid (show countN (hit (tkS u f true) 1) N = countN (hit (tkS s f true) 1) N by rw [HE6.out])
                clear hC6 hU6 hT6 HS5 HC5 HP5 HU5 HB5 HE
                go_wp2_with fail
                refine (left_of pb b N 1 _ w6 HP6.out (by omega)).mono ?_
                rintro e w7 ⟨rfl, rfl⟩
                go_wp2_with fail
                refine (left_of qb c N 1 _ w6 HU6.out (by omega)).mono ?_
                rintro e w7 ⟨rfl, rfl⟩
                rw [HCE.out]
                generalize countN (hit (tkS s f true) 1) N = m
                go_wp2
                go_roundw
                case rel => exact ⟨i + 1, _, _, _, _, HIN.out, by go_num, HS6, HC6, HP6, HU6, HE6, HB6⟩
                case measure => have := HIN.out; simp [intOf]; omega
              · have HZ := Lib.hid (count_none (show countN (hit s 1) N = 0 by omega))
                have HZ2 : Hid (∀ k, k < N → hit u 1 k = false) := by rw [← HE.out]; exact HZ
                have HCE := Lib.hid (show countN (hit u 1) N = countN (hit s 1) N by rw [HE.out])
                clear hc0
                go_wp2_with fail
                refine (take_none pb b N 1 s wr HP.out (by omega) HZ.out).mono ?_
                rintro e w5 ⟨rfl, rfl⟩
                go_wp2_with fail
                refine (take_none qb c N 1 u wr HU.out (by omega) HZ2.out).mono ?_
                rintro e w5 ⟨rfl, rfl⟩
                go_wp2_with fail
                refine (left_of pb b N 1 _ wr HP.out (by omega)).mono ?_
                rintro e w7 ⟨rfl, rfl⟩
                go_wp2_with fail
                refine (left_of qb c N 1 _ wr HU.out (by omega)).mono ?_
                rintro e w7 ⟨rfl, rfl⟩
                rw [HCE.out]
                generalize countN (hit s 1) N = m
                go_wp2
                go_roundw
                case rel => exact ⟨i + 1, _, _, _, _, HIN.out, by go_num, HS, HC, HP, HU, HE, HB⟩
                case measure => have := HIN.out; simp [intOf]; omega
            · have f1 : (N : Int) < (i : Int) := by omega
              go_wp2_with fail
              refine (awake_any wr).mono ?_
              rintro e w5 ⟨rfl, hb5⟩
              have HB5 := Lib.hid (HB.out.trans (hb5.mono (by rw [← HBE.out]; exact HB.out.size)))
              clear hb5
              go_wp2
              go_ret
              exact ⟨rfl, by rw [HBE.out]; exact HB5.out⟩
end Go.Proofs.Ythabilokbfieiaa.Lo
