/- Several texts in one: Cq -/
import Derived.Test.YtikkfapgmbamlaaGreatDoorZ33
section
/- The document's own answer: ports. -/
namespace Go.Proofs.YtikkfapgmbamlaaGreatDoor.Cf
open Go.RowKit Ut
set_option linter.unusedVariables false

/-- what the document finds wrong with a port -/
def wrongP2 (c : Cfg) (i : Nat) : Bool := !La.validB (c.P i 0) c.cats || (!decide (c.P i 1 = -1) && !isGn c.gn (c.P i 1)) || (isGn c.gn (c.P i 1) && (!decide (c.P i 0 = c.G (c.P i 1).toNat 0) || portB c i (c.P i 1)))
theorem portB_iff (c : Cfg) (i : Nat) (g : Int) : portB c i g = true ↔ ∃ j, j < i ∧ c.P j 1 = g := by
  unfold portB
  rcases firstI_cases i fun k => decide (c.P k 1 = g) with ⟨h, hn⟩ | ⟨k, h, hk, hp, _⟩
  · rw [h]
    constructor
    · intro e; cases e
    · rintro ⟨j, hj, e⟩
      have := hn j hj
      simp at this
      exact absurd e this
  · rw [h]
    exact ⟨fun _ => ⟨k, hk, by simpa using hp⟩, fun _ => rfl⟩
theorem wrongP2_cases (c : Cfg) (i : Nat) : (La.validB (c.P i 0) c.cats = false ∧ wrongP2 c i = true) ∨ (La.validB (c.P i 0) c.cats = true ∧ ((c.P i 1 = -1 ∧ wrongP2 c i = false) ∨ (c.P i 1 ≠ -1 ∧ isGn c.gn (c.P i 1) = false ∧ wrongP2 c i = true) ∨
    (∃ g : Nat, c.P i 1 = g ∧ g < c.gn ∧ isGn c.gn (g : Int) = true ∧ ((c.P i 0 ≠ c.G g 0 ∧ wrongP2 c i = true) ∨ (c.P i 0 = c.G g 0 ∧ ((∃ j, j < i ∧ c.P j 1 = g) → wrongP2 c i = true) ∧ ((∀ j, j < i → ¬ c.P j 1 = g) → wrongP2 c i = false)))))) := by
  unfold wrongP2
  cases h1 : La.validB (c.P i 0) c.cats
  · simp
  · refine .inr ⟨rfl, ?_⟩
    by_cases h2 : c.P i 1 = -1
    · refine .inl ⟨h2, ?_⟩
      rw [h2]
      simp [isGn]
    · cases h3 : isGn c.gn (c.P i 1)
      · exact .inr (.inl ⟨h2, rfl, by simp [h2]⟩)
      · obtain ⟨g, hg, hg2⟩ := isGn_true h3
        refine .inr (.inr ⟨g, hg, hg2, by rw [← hg]; exact h3, ?_⟩)
        rw [hg, Int.toNat_natCast]
        by_cases h4 : c.P i 0 = c.G g 0
        · refine .inr ⟨h4, fun hj => ?_, fun hj => ?_⟩
          · rw [(portB_iff c i g).2 hj]; simp
          · have : portB c i g = false := by
              cases hb : portB c i g with
              | false => rfl
              | true =>
                obtain ⟨j, hj1, hj2⟩ := (portB_iff c i g).1 hb
                exact absurd hj2 (hj j hj1)
            rw [this, decide_eq_true h4]
            have : ¬ (g : Int) = -1 := by omega
            simp
        · exact .inl ⟨h4, by rw [decide_eq_false h4]; simp⟩

set_option maxRecDepth 100000 in
set_option maxHeartbeats 2000000 in
theorem refPorts_any (c : Cfg) (B : Nat) (w : World) (hB : B ≤ w.heap.size) (hc : c.At w B) :
    Calls Tryz.prog 23 #[c.v] w fun e w' => e = .returned (.tuple #[.bool (foundZ (decide (8 < (c.pn : Int))) (firstI c.pn (wrongP2 c))).1, .int .i64 (foundZ (decide (8 < (c.pn : Int))) (firstI c.pn (wrongP2 c))).2]) ∧ Below w.heap.size w w' := by
  have HB0 := one_new w
  have hlc := hc.lp
  have hlg := hc.lg
  by_cases h1 : 8 < c.pn
  · have e : foundZ (decide (8 < (c.pn : Int))) (firstI c.pn (wrongP2 c)) = (true, 0) := by
      have h : decide (8 < (c.pn : Int)) = true := by simp; omega
      rw [h]; rfl
    rw [e]
    clear e hc
    have h1' : 8 < (c.pn : Int) := by omega
    go_enter Tryz.func23, Tryz.ntmps23
    go_wp2
    go_ret2
    exact ⟨rfl, HB0.out _⟩
  · have e : foundZ (decide (8 < (c.pn : Int))) (firstI c.pn (wrongP2 c)) = foundZ false (firstI c.pn (wrongP2 c)) := by
      have h : decide (8 < (c.pn : Int)) = false := by simp; omega
      rw [h]
    rw [e]
    clear e
    have HP : Hid (RowT 2 w B c.pa c.pn c.P) := Lib.hid hc.p
    have HG : Hid (RowT 3 w B c.ga c.gn c.G) := Lib.hid hc.g
    have HWr : Hid (∀ i, _) := Lib.hid (wrongP2_cases c)
    obtain ⟨WR, hWR⟩ : ∃ WR, WR = wrongP2 c := ⟨_, rfl⟩
    rw [← hWR] at HWr ⊢
    clear hc hWR
    obtain ⟨cats, ga, gn, gc, ra, rn, rc, pa, pn, pc, na, nn, nc, sa, sn, sc, gate, quota, G, R, P, N, S⟩ := c
    dsimp only at h1 HP HG HWr hlc hlg ⊢
    have h1' : ¬ 8 < (pn : Int) := by omega
    have hgn : gn ≤ 140737488355328 := by omega
    go_enter Tryz.func23, Tryz.ntmps23
    go_wp2
    have hbw := HB0.out (.cells #[.int .i64 cats, .slice ga gn gc, .slice ra rn rc, .slice pa pn pc, .slice na nn nc, .slice sa sn sc, .int .i64 gate, .int .i64 quota] 28)
    obtain ⟨w1, hw1⟩ : ∃ w1, w1 = w.alloc (.cells #[.int .i64 cats, .slice ga gn gc, .slice ra rn rc, .slice pa pn pc, .slice na nn nc, .slice sa sn sc, .int .i64 gate, .int .i64 quota] 28) := ⟨_, rfl⟩
    have HK0 : Hid (w1.cell? ⟨w.heap.size, 0, none⟩ = some (.int .i64 cats)) := Lib.hid (by rw [hw1]; simp)
    have HK1 : Hid (w1.cell? ⟨w.heap.size, 1, none⟩ = some (.slice ga gn gc)) := Lib.hid (by rw [hw1]; simp)
    have HK2 : Hid (w1.cell? ⟨w.heap.size, 2, none⟩ = some (.slice ra rn rc)) := Lib.hid (by rw [hw1]; simp)
    have HK3 : Hid (w1.cell? ⟨w.heap.size, 3, none⟩ = some (.slice pa pn pc)) := Lib.hid (by rw [hw1]; simp)
    have HK4 : Hid (w1.cell? ⟨w.heap.size, 4, none⟩ = some (.slice na nn nc)) := Lib.hid (by rw [hw1]; simp)
    have HK5 : Hid (w1.cell? ⟨w.heap.size, 5, none⟩ = some (.slice sa sn sc)) := Lib.hid (by rw [hw1]; simp)
    have HK6 : Hid (w1.cell? ⟨w.heap.size, 6, none⟩ = some (.int .i64 gate)) := Lib.hid (by rw [hw1]; simp)
    have HK7 : Hid (w1.cell? ⟨w.heap.size, 7, none⟩ = some (.int .i64 quota)) := Lib.hid (by rw [hw1]; simp)
    have s1 : w.heap.size < w1.heap.size := by rw [hw1]; simp
    rw [← hw1] at hbw ⊢
    clear hw1
    go_loopw [4] (fun i wr => ∃ k : Nat, k ≤ pn ∧ i = .int .i64 k ∧ Hid (∀ j, j < k → WR j = false) ∧ Below w1.heap.size w1 wr) (fun i _ => pn - (intOf i).toNat)
    case atStart => exact ⟨0, Nat.zero_le _, rfl, fun j hj => absurd hj (by omega), Below.refl _ _⟩
    case round =>
      obtain ⟨k, hk, rfl, hno, hb⟩ := hrel
      have hbk : Below w.heap.size w wr := hbw.trans (hb.mono (by omega))
      have k0 := (old_cells hb _ 0 s1).trans HK0.out
      have k1 := (old_cells hb _ 1 s1).trans HK1.out
      have k2 := (old_cells hb _ 2 s1).trans HK2.out
      have k3 := (old_cells hb _ 3 s1).trans HK3.out
      have k4 := (old_cells hb _ 4 s1).trans HK4.out
      have k5 := (old_cells hb _ 5 s1).trans HK5.out
      have k6 := (old_cells hb _ 6 s1).trans HK6.out
      have k7 := (old_cells hb _ 7 s1).trans HK7.out
      by_cases hlt : k < pn
      · obtain ⟨x, rfl, hx, c0, c1⟩ := (HP.out.below (hbk.mono hB)).at2 k hlt
        have sr : w.heap.size < wr.heap.size := by have := hb.size; omega
        have b0 : (0 : Int) ≤ (k : Int) := by omega
        have b1 : (k : Int) < (pn : Int) := by omega
        have hw := HWr.out k
        have hs := firstI_some (n := pn) (k := k) (p := WR) hlt
        have HS : Hid (WR k = true → foundZ false (firstI pn WR) = (true, (k : Int))) := Lib.hid fun h => by rw [hs h hno.out]; rfl
        clear hs
        obtain ⟨lb, hlb⟩ : ∃ lb, lb = P k 0 := ⟨_, rfl⟩
        obtain ⟨gs, hgs⟩ : ∃ gs, gs = P k 1 := ⟨_, rfl⟩
        rw [← hlb, ← hgs] at hw
        rw [← hlb] at c0
        rw [← hgs] at c1
        clear hlb hgs
        obtain ⟨V, hV⟩ : ∃ V, V = wr.alloc (.cells #[.int .i64 lb, .int .i64 gs] 63) := ⟨_, rfl⟩
        have HV := Lib.hid hV
        have hbr : Below wr.heap.size wr V := by rw [hV]; exact (Below.refl _ _).alloc (Nat.le_refl _) _
        have d0 : V.cell? ⟨wr.heap.size, 0, none⟩ = some (.int .i64 lb) := by rw [hV]; simp
        have d1 : V.cell? ⟨wr.heap.size, 1, none⟩ = some (.int .i64 gs) := by rw [hV]; simp
        have sv : wr.heap.size < V.heap.size := by rw [hV]; simp
        have sv2 : w.heap.size < V.heap.size := by omega
        have m1 := (old_cells hbr _ 1 sr).trans k1
        have m3 := (old_cells hbr _ 3 sr).trans k3
        have HD0 := Lib.hid d0
        have HD1 := Lib.hid d1
        have HM1 := Lib.hid m1
        have HM3 := Lib.hid m3
        have hbV : Below w.heap.size w V := hbk.trans (hbr.mono hbk.size)
        have hbV1 : Below w1.heap.size w1 V := hb.trans (hbr.mono hb.size)
        clear hV d0 d1 m1 m3 hbr
        have HGst : Hid (∀ (i : Int) (W : World), Calls Tryz.prog 26 #[.agg #[.int .i64 cats, .slice ga gn gc, .slice ra rn rc, .slice (some x) pn pc, .slice na nn nc, .slice sa sn sc, .int .i64 gate, .int .i64 quota], .int .i64 i] W fun e w' => e = .returned (.bool (isGn gn i)) ∧ Below W.heap.size W w') := Lib.hid fun i W => refIsGuest_any _ _ _ _ _ _ _ _ _ _ _ _ hgn
        have HPx : Hid (∀ W, Below w.heap.size w W → RowT 2 W B (some x) pn P) := Lib.hid fun W hW => HP.out.below (hW.mono hB)
        clear HP
        rcases hw with ⟨v1, hw⟩ | ⟨v1, ⟨rfl, hw⟩ | ⟨v2, v3, hw⟩ | ⟨g, rfl, hg2, v3, hw⟩⟩
        · have HF := Lib.hid (HS.out hw)
          clear HS hw
          go_wp2_with fail
          refine (La.refValid_gen _ _ _).mono ?_
          rintro e w3 ⟨rfl, rfl⟩
          go_wp2
          go_ret2
          exact ⟨by rw [HF.out]; rfl, hbk.alloc hbk.size _⟩
        · have HNo : Hid (WR k = false) := Lib.hid hw
          clear HS hw
          go_wp2_with fail
          refine (La.refValid_gen _ _ _).mono ?_
          rintro e w3 ⟨rfl, rfl⟩
          go_wp2
          have hV2 := HV.out
          rw [← hV2]
          clear hV2 k0 k1 k2 k3 k4 k5 k6 k7 v1
          have d0 := HD0.out
          have d1 := HD1.out
          have m1 := HM1.out
          have m3 := HM3.out
          apply wp_region_auto [42, 43, 44, 45, 46, 47, 48, 49, 50, 51, 52, 53, 54, 55] [_, _, _, _, _, _, _, _, _, _, _, _, _, _] (fun W' => Below V.heap.size V W')
          case hm => kernel_rfl
          case hT => intro y; simp only [setAll, List.setIfInBounds_toArray, List.set_cons_succ, List.set_cons_zero]; exact rfl
          case hok => kernel_rfl
          case hn => decide
          case hw => exact (Below.refl _ _).drew
          case hs =>
            refine auto_op 42 [] (by kernel_rfl) (fun y w' HW hd K hK => ?_) ?_
            · go_simp
              refine hK _ _ ?_ ?_ HW
              · simp [upd]
              · exact rfl
            refine auto_op 43 [0] (by kernel_rfl) (fun y w' HW hd K hK => ?_) ?_
            · have e0 := hd_nth (hd 0 (by simp)) rfl
              have hcl : ∀ p : Addr, p.block < V.heap.size → w'.cell? p = V.cell? p := fun p hp => HW.cell hp
              go_simp
              refine hK _ _ ?_ ?_ HW
              · simp [upd, e0]
              · exact rfl
            refine auto_op 44 [1] (by kernel_rfl) (fun y w' HW hd K hK => ?_) ?_
            · have e1 := hd_nth (hd 1 (by simp)) rfl
              go_simp
              refine hK _ _ ?_ ?_ HW
              · simp [upd, e1]
              · exact rfl
            refine auto_op 45 [2] (by kernel_rfl) (fun y w' HW hd K hK => ?_) ?_
            · have e2 := hd_nth (hd 2 (by simp)) rfl
              go_simp
              refine hK _ _ ?_ ?_ HW
              · simp [upd, e2]
              · exact rfl
            refine auto_op 46 [3] (by kernel_rfl) (fun y w' HW hd K hK => ?_) ?_
            · have e3 := hd_nth (hd 3 (by simp)) rfl
              go_simp
              refine hK _ _ ?_ ?_ HW
              · simp [upd, e3]
              · exact rfl
            refine auto_op 47 [4, 3] (by kernel_rfl) (fun y w' HW hd K hK => ?_) ?_
            · have e3 := hd_nth (hd 3 (by simp)) rfl
              have e4 := hd_nth (hd 4 (by simp)) rfl
              have hcl : ∀ p : Addr, p.block < V.heap.size → w'.cell? p = V.cell? p := fun p hp => HW.cell hp
              go_simp
              refine hK _ _ ?_ ?_ HW
              · simp [upd, e3, e4]
              · exact rfl
            refine auto_op 48 [3] (by kernel_rfl) (fun y w' HW hd K hK => ?_) ?_
            · have e3 := hd_nth (hd 3 (by simp)) rfl
              go_simp
              refine hK _ _ ?_ ?_ HW
              · simp [upd, e3]
              · exact rfl
            refine auto_op 49 [6, 3] (by kernel_rfl) (fun y w' HW hd K hK => ?_) ?_
            · have e3 := hd_nth (hd 3 (by simp)) rfl
              have e6 := hd_nth (hd 6 (by simp)) rfl
              have hcl : ∀ p : Addr, p.block < V.heap.size → w'.cell? p = V.cell? p := fun p hp => HW.cell hp
              go_simp
              refine hK _ _ ?_ ?_ HW
              · simp [upd, e3, e6]
              · exact rfl
            refine auto_op 50 [3] (by kernel_rfl) (fun y w' HW hd K hK => ?_) ?_
            · have e3 := hd_nth (hd 3 (by simp)) rfl
              go_simp
              refine hK _ _ ?_ ?_ HW
              · simp [upd, e3]
              · exact rfl
            refine auto_op 51 [8, 3] (by kernel_rfl) (fun y w' HW hd K hK => ?_) ?_
            · have e3 := hd_nth (hd 3 (by simp)) rfl
              have e8 := hd_nth (hd 8 (by simp)) rfl
              have hcl : ∀ p : Addr, p.block < V.heap.size → w'.cell? p = V.cell? p := fun p hp => HW.cell hp
              go_simp
              refine hK _ _ ?_ ?_ HW
              · simp [upd, e3, e8]
              · exact rfl
            refine auto_op 52 [7, 9, 3] (by kernel_rfl) (fun y w' HW hd K hK => ?_) ?_
            · have e3 := hd_nth (hd 3 (by simp)) rfl
              have e7 := hd_nth (hd 7 (by simp)) rfl
              have e9 := hd_nth (hd 9 (by simp)) rfl
              go_simp
              refine hK _ _ ?_ ?_ HW
              · simp [upd, e3, e7, e9]
              · exact rfl
            refine auto_op 53 [10, 3] (by kernel_rfl) (fun y w' HW hd K hK => ?_) ?_
            · have e3 := hd_nth (hd 3 (by simp)) rfl
              have e10 := hd_nth (hd 10 (by simp)) rfl
              go_simp
              refine hK _ _ ?_ ?_ HW
              · simp [upd, e3, e10]
              · exact rfl
            refine auto_op 54 [11, 3] (by kernel_rfl) (fun y w' HW hd K hK => ?_) ?_
            · have e3 := hd_nth (hd 3 (by simp)) rfl
              have e11 := hd_nth (hd 11 (by simp)) rfl
              have hcl : ∀ p : Addr, p.block < V.heap.size → w'.cell? p = V.cell? p := fun p hp => HW.cell hp
              go_simp
              refine hK _ _ ?_ ?_ HW
              · simp [upd, e3, e11]
              · exact rfl
            refine auto_op 55 [5, 12, 3] (by kernel_rfl) (fun y w' HW hd K hK => ?_) ?_
            · have e3 := hd_nth (hd 3 (by simp)) rfl
              have e5 := hd_nth (hd 5 (by simp)) rfl
              have e12 := hd_nth (hd 12 (by simp)) rfl
              go_simp
              refine hK _ _ ?_ ?_ HW
              · simp [upd, e3, e5, e12]
              · exact rfl
            refine auto_last fun y w' HW hd K hK => ?_
            have e0 := hd_nth (hd 0 (by omega)) rfl
            have e1 := hd_nth (hd 1 (by omega)) rfl
            have e2 := hd_nth (hd 2 (by omega)) rfl
            have e3 := hd_nth (hd 3 (by omega)) rfl
            have e4 := hd_nth (hd 4 (by omega)) rfl
            have e5 := hd_nth (hd 5 (by omega)) rfl
            have e6 := hd_nth (hd 6 (by omega)) rfl
            have e7 := hd_nth (hd 7 (by omega)) rfl
            have e8 := hd_nth (hd 8 (by omega)) rfl
            have e9 := hd_nth (hd 9 (by omega)) rfl
            have e10 := hd_nth (hd 10 (by omega)) rfl
            have e11 := hd_nth (hd 11 (by omega)) rfl
            have e12 := hd_nth (hd 12 (by omega)) rfl
            have e13 := hd_nth (hd 13 (by omega)) rfl
            go_simp
            refine hK _ _ ?_
            clear hd hK K e0 e1 e2 e3 e4 e5 e6 e7 e8 e9 e10 e11 e12 e13
            obtain ⟨Z, hZ⟩ : ∃ Z, Z = w' := ⟨_, rfl⟩
            have HZ1 : Hid (Z.cell? ⟨wr.heap.size, 1, none⟩ = some (.int .i64 (-1))) := Lib.hid (by rw [hZ]; exact (old_cells HW _ 1 sv).trans HD1.out)
            have HZ3 : Hid (Z.cell? ⟨w.heap.size, 3, none⟩ = some (.slice (some x) pn pc)) := Lib.hid (by rw [hZ]; exact (old_cells HW _ 3 sv2).trans HM3.out)
            have hbZ : Below w.heap.size w Z := by rw [hZ]; exact hbV.trans (HW.mono (hbV).size)
            have hbZ1 : Below w1.heap.size w1 Z := by rw [hZ]; exact hbV1.trans (HW.mono (hbV1).size)
            have sz1 : wr.heap.size < Z.heap.size := by rw [hZ]; have := HW.size; omega
            have sz2 : w.heap.size < Z.heap.size := by omega
            rw [← hZ]
            clear hZ HW d0 d1 m1 m3
            obtain ⟨rb, hrb⟩ : ∃ rb, rb = wr.heap.size := ⟨_, rfl⟩
            rw [← hrb] at HZ1 sz1 ⊢
            clear hrb
            go_wp2
            go_loopw [6] (fun q wi => ∃ j : Nat, j ≤ k ∧ q = .int .i64 j ∧ Below Z.heap.size Z wi ) (fun q _ => k - (intOf q).toNat)
            case atStart => exact ⟨0, Nat.zero_le _, rfl, Below.refl _ _ ⟩
            case round =>
              obtain ⟨j, hj, rfl, hbi ⟩ := hrel
              have hbi0 : Below w.heap.size w wr := hbZ.trans (hbi.mono (by omega))
              have hbi1 : Below w1.heap.size w1 wr := hbZ1.trans (hbi.mono hbZ1.size)
              by_cases hjk : j < k
              · obtain ⟨x', hxx, hx2, e0, e1⟩ := (HPx.out _ hbi0).at2 j (by omega)
                obtain rfl : x = x' := by injection hxx
                clear hxx e0
                have z1 := (old_cells hbi _ 1 sz1).trans HZ1.out
                have z3 := (old_cells hbi _ 3 sz2).trans HZ3.out
                have sz3 : rb < wr.heap.size := by have := hbi.size; omega
                have sz4 : w.heap.size < wr.heap.size := by have := hbi.size; omega
                have hbz := hbi0.size
                have sz5 : (x.add (j * 2)).block < wr.heap.size := by rw [block_of_add]; omega
                have j0 : (0 : Int) ≤ (j : Int) := by omega
                have j1 : (j : Int) < (k : Int) := by omega
                have j2 : (j : Int) < (pn : Int) := by omega
                obtain ⟨pj, hpj⟩ : ∃ pj, pj = P j 1 := ⟨_, rfl⟩
                rw [← hpj] at e1
                have HPj := Lib.hid hpj
                clear hpj
                go_wp2
                apply wp_region_auto [63, 64, 65, 66, 67, 68, 69, 70, 71, 72, 73, 74, 75] [_, _, _, _, _, _, _, _, _, _, _, _, _] (fun W' => Below wr.heap.size wr W')
                case hm => kernel_rfl
                case hT => intro y; simp only [setAll, List.setIfInBounds_toArray, List.set_cons_succ, List.set_cons_zero]; exact rfl
                case hok => kernel_rfl
                case hn => decide
                case hw => exact (Below.refl _ _).drew
                case hs =>
                  refine auto_op 63 [] (by kernel_rfl) (fun y w' HW hd K hK => ?_) ?_
                  · go_simp
                    refine hK _ _ ?_ ?_ HW
                    · simp [upd]
                    · exact rfl
                  refine auto_op 64 [0] (by kernel_rfl) (fun y w' HW hd K hK => ?_) ?_
                  · have e0 := hd_nth (hd 0 (by simp)) rfl
                    have hcl : ∀ p : Addr, p.block < wr.heap.size → w'.cell? p = wr.cell? p := fun p hp => HW.cell hp
                    go_simp
                    refine hK _ _ ?_ ?_ HW
                    · simp [upd, e0]
                    · exact rfl
                  refine auto_op 65 [1] (by kernel_rfl) (fun y w' HW hd K hK => ?_) ?_
                  · have e1 := hd_nth (hd 1 (by simp)) rfl
                    go_simp
                    refine hK _ _ ?_ ?_ HW
                    · simp [upd, e1]
                    · exact rfl
                  refine auto_op 66 [2] (by kernel_rfl) (fun y w' HW hd K hK => ?_) ?_
                  · have e2 := hd_nth (hd 2 (by simp)) rfl
                    go_simp
                    refine hK _ _ ?_ ?_ HW
                    · simp [upd, e2]
                    · exact rfl
                  refine auto_op 67 [3] (by kernel_rfl) (fun y w' HW hd K hK => ?_) ?_
                  · have e3 := hd_nth (hd 3 (by simp)) rfl
                    go_simp
                    refine hK _ _ ?_ ?_ HW
                    · simp [upd, e3]
                    · exact rfl
                  refine auto_op 68 [4, 3] (by kernel_rfl) (fun y w' HW hd K hK => ?_) ?_
                  · have e3 := hd_nth (hd 3 (by simp)) rfl
                    have e4 := hd_nth (hd 4 (by simp)) rfl
                    have hcl : ∀ p : Addr, p.block < wr.heap.size → w'.cell? p = wr.cell? p := fun p hp => HW.cell hp
                    go_simp
                    refine hK _ _ ?_ ?_ HW
                    · simp [upd, e3, e4]
                    · exact rfl
                  refine auto_op 69 [3] (by kernel_rfl) (fun y w' HW hd K hK => ?_) ?_
                  · have e3 := hd_nth (hd 3 (by simp)) rfl
                    go_simp
                    refine hK _ _ ?_ ?_ HW
                    · simp [upd, e3]
                    · exact rfl
                  refine auto_op 70 [5, 6, 3] (by kernel_rfl) (fun y w' HW hd K hK => ?_) ?_
                  · have e3 := hd_nth (hd 3 (by simp)) rfl
                    have e5 := hd_nth (hd 5 (by simp)) rfl
                    have e6 := hd_nth (hd 6 (by simp)) rfl
                    go_simp
                    refine hK _ _ ?_ ?_ HW
                    · simp [upd, e3, e5, e6]
                    · exact rfl
                  refine auto_op 71 [7, 3] (by kernel_rfl) (fun y w' HW hd K hK => ?_) ?_
                  · have e3 := hd_nth (hd 3 (by simp)) rfl
                    have e7 := hd_nth (hd 7 (by simp)) rfl
                    go_simp
                    refine hK _ _ ?_ ?_ HW
                    · simp [upd, e3, e7]
                    · exact rfl
                  refine auto_op 72 [8, 3] (by kernel_rfl) (fun y w' HW hd K hK => ?_) ?_
                  · have e3 := hd_nth (hd 3 (by simp)) rfl
                    have e8 := hd_nth (hd 8 (by simp)) rfl
                    have hcl : ∀ p : Addr, p.block < wr.heap.size → w'.cell? p = wr.cell? p := fun p hp => HW.cell hp
                    go_simp
                    refine hK _ _ ?_ ?_ HW
                    · simp [upd, e3, e8]
                    · exact rfl
                  refine auto_op 73 [3] (by kernel_rfl) (fun y w' HW hd K hK => ?_) ?_
                  · have e3 := hd_nth (hd 3 (by simp)) rfl
                    go_simp
                    refine hK _ _ ?_ ?_ HW
                    · simp [upd, e3]
                    · exact rfl
                  refine auto_op 74 [10, 3] (by kernel_rfl) (fun y w' HW hd K hK => ?_) ?_
                  · have e3 := hd_nth (hd 3 (by simp)) rfl
                    have e10 := hd_nth (hd 10 (by simp)) rfl
                    have hcl : ∀ p : Addr, p.block < wr.heap.size → w'.cell? p = wr.cell? p := fun p hp => HW.cell hp
                    go_simp
                    refine hK _ _ ?_ ?_ HW
                    · simp [upd, e3, e10]
                    · exact rfl
                  refine auto_op 75 [9, 11, 3] (by kernel_rfl) (fun y w' HW hd K hK => ?_) ?_
                  · have e3 := hd_nth (hd 3 (by simp)) rfl
                    have e9 := hd_nth (hd 9 (by simp)) rfl
                    have e11 := hd_nth (hd 11 (by simp)) rfl
                    go_simp
                    refine hK _ _ ?_ ?_ HW
                    · simp [upd, e3, e9, e11]
                    · exact rfl
                  refine auto_last fun y w' HW hd K hK => ?_
                  have e0 := hd_nth (hd 0 (by omega)) rfl
                  have e1 := hd_nth (hd 1 (by omega)) rfl
                  have e2 := hd_nth (hd 2 (by omega)) rfl
                  have e3 := hd_nth (hd 3 (by omega)) rfl
                  have e4 := hd_nth (hd 4 (by omega)) rfl
                  have e5 := hd_nth (hd 5 (by omega)) rfl
                  have e6 := hd_nth (hd 6 (by omega)) rfl
                  have e7 := hd_nth (hd 7 (by omega)) rfl
                  have e8 := hd_nth (hd 8 (by omega)) rfl
                  have e9 := hd_nth (hd 9 (by omega)) rfl
                  have e10 := hd_nth (hd 10 (by omega)) rfl
                  have e11 := hd_nth (hd 11 (by omega)) rfl
                  have e12 := hd_nth (hd 12 (by omega)) rfl
                  go_simp
                  refine hK _ _ ?_
                  clear hd hK K e0 e1 e2 e3 e4 e5 e6 e7 e8 e9 e10 e11 e12
                  go_wp2
                  go_roundw
                  case rel => exact ⟨j + 1, by omega, by go_num, hbi.trans (HW.mono hbi.size)⟩
                  case measure => simp [intOf]; omega
              · have hjk2 : j = k := by omega
                subst hjk2
                have j1 : ¬ (j : Int) < (j : Int) := by omega
                go_wp2
                go_roundw
                case rel => exact ⟨j + 1, by omega, by go_num, Lib.hid (more_false hno.out HNo.out), hbi1⟩
                case measure => simp [intOf]; omega
        · have HF := Lib.hid (HS.out hw)
          have HGa : Hid (∀ W : World, Calls Tryz.prog 26 #[.agg #[.int .i64 cats, .slice ga gn gc, .slice ra rn rc, .slice (some x) pn pc, .slice na nn nc, .slice sa sn sc, .int .i64 gate, .int .i64 quota], .int .i64 gs] W fun e w' => e = .returned (.bool false) ∧ Below W.heap.size W w') := Lib.hid fun W => by have h := HGst.out gs W; rwa [v3] at h
          have v2b : (gs == -1) = false := by simpa using v2
          have v2c : (gs != -1) = true := by simpa using v2
          clear HS hw v3 HGst
          go_wp2_with fail
          refine (La.refValid_gen _ _ _).mono ?_
          rintro e w3 ⟨rfl, rfl⟩
          go_wp2_with fail
          refine (HGa.out _).mono ?_
          rintro e w3 ⟨rfl, hb3⟩
          have hV2 := HV.out
          go_wp2
          go_ret2
          exact ⟨by rw [HF.out]; rfl, hbV.trans (by rw [hV2]; exact hb3.mono (by rw [← hV2]; exact hbV.size))⟩
        · obtain ⟨y, rfl, hyb, e0, _, _⟩ := (HG.out.below (hbV.mono hB)).at3 g hg2
          have HGa : Hid (∀ W : World, Calls Tryz.prog 26 #[.agg #[.int .i64 cats, .slice (some y) gn gc, .slice ra rn rc, .slice (some x) pn pc, .slice na nn nc, .slice sa sn sc, .int .i64 gate, .int .i64 quota], .int .i64 (g : Int)] W fun e w' => e = .returned (.bool true) ∧ Below W.heap.size W w') := Lib.hid fun W => by have h := HGst.out (g : Int) W; rwa [v3] at h
          clear HG HGst v3
          have v2b : ((g : Int) == -1) = false := by simp
          have v2c : ((g : Int) != -1) = true := by simp
          have g0 : (0 : Int) ≤ (g : Int) := by omega
          have g1 : (g : Int) < (gn : Int) := by omega
          obtain ⟨u, hu⟩ : ∃ u, u = G g 0 := ⟨_, rfl⟩
          rw [← hu] at hw e0
          clear hu
          have sy1 : (y.add (g * 3)).block < V.heap.size := by have := hbV.size; rw [block_of_add]; omega
          have HE0 := Lib.hid e0
          clear e0
          rcases hw with ⟨v4, hw⟩ | ⟨rfl, hyes, hnot⟩
          · have HF := Lib.hid (HS.out hw)
            have v4b : (lb != u) = true := by simpa using v4
            have v4c : (lb == u) = false := by simpa using v4
            clear HS hw v4
            go_wp2_with fail
            refine (La.refValid_gen _ _ _).mono ?_
            rintro e w3 ⟨rfl, rfl⟩
            go_wp2_with fail
            have hV2 := HV.out
            rw [← hV2]
            clear hV2 k0 k1 k2 k3 k4 k5 k6 k7 v1
            refine (HGa.out _).mono ?_
            rintro e w3 ⟨rfl, hb3⟩
            have d0 := (old_cells hb3 _ 0 sv).trans HD0.out
            have d1 := (old_cells hb3 _ 1 sv).trans HD1.out
            have m1 := (old_cells hb3 _ 1 sv2).trans HM1.out
            have e0 := (hb3.cell (p := y.add (g * 3)) sy1).trans HE0.out
            have sw : V.heap.size ≤ w3.heap.size := hb3.size
            have sw1 : wr.heap.size < w3.heap.size := by omega
            have sw2 : w.heap.size < w3.heap.size := by omega
            have sw3 : (y.add (g * 3)).block < w3.heap.size := by omega
            go_wp2
            apply wp_region_auto [42, 43, 44, 45, 46, 47, 48, 49, 50, 51, 52, 53, 54, 55] [_, _, _, _, _, _, _, _, _, _, _, _, _, _] (fun W' => Below w3.heap.size w3 W')
            case hm => kernel_rfl
            case hT => intro y; simp only [setAll, List.setIfInBounds_toArray, List.set_cons_succ, List.set_cons_zero]; exact rfl
            case hok => kernel_rfl
            case hn => decide
            case hw => exact (Below.refl _ _).drew
            case hs =>
              refine auto_op 42 [] (by kernel_rfl) (fun y w' HW hd K hK => ?_) ?_
              · go_simp
                refine hK _ _ ?_ ?_ HW
                · simp [upd]
                · exact rfl
              refine auto_op 43 [0] (by kernel_rfl) (fun y w' HW hd K hK => ?_) ?_
              · have e0 := hd_nth (hd 0 (by simp)) rfl
                have hcl : ∀ p : Addr, p.block < w3.heap.size → w'.cell? p = w3.cell? p := fun p hp => HW.cell hp
                go_simp
                refine hK _ _ ?_ ?_ HW
                · simp [upd, e0]
                · exact rfl
              refine auto_op 44 [1] (by kernel_rfl) (fun y w' HW hd K hK => ?_) ?_
              · have e1 := hd_nth (hd 1 (by simp)) rfl
                go_simp
                refine hK _ _ ?_ ?_ HW
                · simp [upd, e1]
                · exact rfl
              refine auto_op 45 [2] (by kernel_rfl) (fun y w' HW hd K hK => ?_) ?_
              · have e2 := hd_nth (hd 2 (by simp)) rfl
                go_simp
                refine hK _ _ ?_ ?_ HW
                · simp [upd, e2]
                · exact rfl
              refine auto_op 46 [3] (by kernel_rfl) (fun y w' HW hd K hK => ?_) ?_
              · have e3 := hd_nth (hd 3 (by simp)) rfl
                go_simp
                refine hK _ _ ?_ ?_ HW
                · simp [upd, e3]
                · exact rfl
              refine auto_op 47 [4, 3] (by kernel_rfl) (fun y w' HW hd K hK => ?_) ?_
              · have e3 := hd_nth (hd 3 (by simp)) rfl
                have e4 := hd_nth (hd 4 (by simp)) rfl
                have hcl : ∀ p : Addr, p.block < w3.heap.size → w'.cell? p = w3.cell? p := fun p hp => HW.cell hp
                go_simp
                refine hK _ _ ?_ ?_ HW
                · simp [upd, e3, e4]
                · exact rfl
              refine auto_op 48 [3] (by kernel_rfl) (fun y w' HW hd K hK => ?_) ?_
              · have e3 := hd_nth (hd 3 (by simp)) rfl
                go_simp
                refine hK _ _ ?_ ?_ HW
                · simp [upd, e3]
                · exact rfl
              refine auto_op 49 [6, 3] (by kernel_rfl) (fun y w' HW hd K hK => ?_) ?_
              · have e3 := hd_nth (hd 3 (by simp)) rfl
                have e6 := hd_nth (hd 6 (by simp)) rfl
                have hcl : ∀ p : Addr, p.block < w3.heap.size → w'.cell? p = w3.cell? p := fun p hp => HW.cell hp
                go_simp
                refine hK _ _ ?_ ?_ HW
                · simp [upd, e3, e6]
                · exact rfl
              refine auto_op 50 [3] (by kernel_rfl) (fun y w' HW hd K hK => ?_) ?_
              · have e3 := hd_nth (hd 3 (by simp)) rfl
                go_simp
                refine hK _ _ ?_ ?_ HW
                · simp [upd, e3]
                · exact rfl
              refine auto_op 51 [8, 3] (by kernel_rfl) (fun y w' HW hd K hK => ?_) ?_
              · have e3 := hd_nth (hd 3 (by simp)) rfl
                have e8 := hd_nth (hd 8 (by simp)) rfl
                have hcl : ∀ p : Addr, p.block < w3.heap.size → w'.cell? p = w3.cell? p := fun p hp => HW.cell hp
                go_simp
                refine hK _ _ ?_ ?_ HW
                · simp [upd, e3, e8]
                · exact rfl
              refine auto_op 52 [7, 9, 3] (by kernel_rfl) (fun y w' HW hd K hK => ?_) ?_
              · have e3 := hd_nth (hd 3 (by simp)) rfl
                have e7 := hd_nth (hd 7 (by simp)) rfl
                have e9 := hd_nth (hd 9 (by simp)) rfl
                go_simp
                refine hK _ _ ?_ ?_ HW
                · simp [upd, e3, e7, e9]
                · exact rfl
              refine auto_op 53 [10, 3] (by kernel_rfl) (fun y w' HW hd K hK => ?_) ?_
              · have e3 := hd_nth (hd 3 (by simp)) rfl
                have e10 := hd_nth (hd 10 (by simp)) rfl
                go_simp
                refine hK _ _ ?_ ?_ HW
                · simp [upd, e3, e10]
                · exact rfl
              refine auto_op 54 [11, 3] (by kernel_rfl) (fun y w' HW hd K hK => ?_) ?_
              · have e3 := hd_nth (hd 3 (by simp)) rfl
                have e11 := hd_nth (hd 11 (by simp)) rfl
                have hcl : ∀ p : Addr, p.block < w3.heap.size → w'.cell? p = w3.cell? p := fun p hp => HW.cell hp
                go_simp
                refine hK _ _ ?_ ?_ HW
                · simp [upd, e3, e11]
                · exact rfl
              refine auto_op 55 [5, 12, 3] (by kernel_rfl) (fun y w' HW hd K hK => ?_) ?_
              · have e3 := hd_nth (hd 3 (by simp)) rfl
                have e5 := hd_nth (hd 5 (by simp)) rfl
                have e12 := hd_nth (hd 12 (by simp)) rfl
                go_simp
                refine hK _ _ ?_ ?_ HW
                · simp [upd, e3, e5, e12]
                · exact rfl
              refine auto_last fun y w' HW hd K hK => ?_
              have e0 := hd_nth (hd 0 (by omega)) rfl
              have e1 := hd_nth (hd 1 (by omega)) rfl
              have e2 := hd_nth (hd 2 (by omega)) rfl
              have e3 := hd_nth (hd 3 (by omega)) rfl
              have e4 := hd_nth (hd 4 (by omega)) rfl
              have e5 := hd_nth (hd 5 (by omega)) rfl
              have e6 := hd_nth (hd 6 (by omega)) rfl
              have e7 := hd_nth (hd 7 (by omega)) rfl
              have e8 := hd_nth (hd 8 (by omega)) rfl
              have e9 := hd_nth (hd 9 (by omega)) rfl
              have e10 := hd_nth (hd 10 (by omega)) rfl
              have e11 := hd_nth (hd 11 (by omega)) rfl
              have e12 := hd_nth (hd 12 (by omega)) rfl
              have e13 := hd_nth (hd 13 (by omega)) rfl
              go_simp
              refine hK _ _ ?_
              clear hd hK K e0 e1 e2 e3 e4 e5 e6 e7 e8 e9 e10 e11 e12 e13
              go_wp2
              go_ret2
              exact ⟨by rw [HF.out]; rfl, hbV.trans ((hb3.trans (HW.mono hb3.size)).mono hbV.size)⟩
          · have HYes := Lib.hid hyes
            have HNot := Lib.hid hnot
            clear hyes hnot
            go_wp2_with fail
            refine (La.refValid_gen _ _ _).mono ?_
            rintro e w3 ⟨rfl, rfl⟩
            go_wp2_with fail
            have hV2 := HV.out
            rw [← hV2]
            clear hV2 k0 k1 k2 k3 k4 k5 k6 k7 v1
            refine (HGa.out _).mono ?_
            rintro e w3 ⟨rfl, hb3⟩
            have d0 := (old_cells hb3 _ 0 sv).trans HD0.out
            have d1 := (old_cells hb3 _ 1 sv).trans HD1.out
            have m1 := (old_cells hb3 _ 1 sv2).trans HM1.out
            have m3 := (old_cells hb3 _ 3 sv2).trans HM3.out
            have e0 := (hb3.cell (p := y.add (g * 3)) sy1).trans HE0.out
            have HD1' := Lib.hid d1
            have HM3' := Lib.hid m3
            have sw : V.heap.size ≤ w3.heap.size := hb3.size
            have sw1 : wr.heap.size < w3.heap.size := by omega
            have sw2 : w.heap.size < w3.heap.size := by omega
            have sw3 : (y.add (g * 3)).block < w3.heap.size := by omega
            have hb30 : Below w.heap.size w w3 := hbV.trans (hb3.mono hbV.size)
            have hb31 : Below w1.heap.size w1 w3 := hbV1.trans (hb3.mono hbV1.size)
            go_wp2
            apply wp_region_auto [42, 43, 44, 45, 46, 47, 48, 49, 50, 51, 52, 53, 54, 55] [_, _, _, _, _, _, _, _, _, _, _, _, _, _] (fun W' => Below w3.heap.size w3 W')
            case hm => kernel_rfl
            case hT => intro y; simp only [setAll, List.setIfInBounds_toArray, List.set_cons_succ, List.set_cons_zero]; exact rfl
            case hok => kernel_rfl
            case hn => decide
            case hw => exact (Below.refl _ _).drew
            case hs =>
              refine auto_op 42 [] (by kernel_rfl) (fun y w' HW hd K hK => ?_) ?_
              · go_simp
                refine hK _ _ ?_ ?_ HW
                · simp [upd]
                · exact rfl
              refine auto_op 43 [0] (by kernel_rfl) (fun y w' HW hd K hK => ?_) ?_
              · have e0 := hd_nth (hd 0 (by simp)) rfl
                have hcl : ∀ p : Addr, p.block < w3.heap.size → w'.cell? p = w3.cell? p := fun p hp => HW.cell hp
                go_simp
                refine hK _ _ ?_ ?_ HW
                · simp [upd, e0]
                · exact rfl
              refine auto_op 44 [1] (by kernel_rfl) (fun y w' HW hd K hK => ?_) ?_
              · have e1 := hd_nth (hd 1 (by simp)) rfl
                go_simp
                refine hK _ _ ?_ ?_ HW
                · simp [upd, e1]
                · exact rfl
              refine auto_op 45 [2] (by kernel_rfl) (fun y w' HW hd K hK => ?_) ?_
              · have e2 := hd_nth (hd 2 (by simp)) rfl
                go_simp
                refine hK _ _ ?_ ?_ HW
                · simp [upd, e2]
                · exact rfl
              refine auto_op 46 [3] (by kernel_rfl) (fun y w' HW hd K hK => ?_) ?_
              · have e3 := hd_nth (hd 3 (by simp)) rfl
                go_simp
                refine hK _ _ ?_ ?_ HW
                · simp [upd, e3]
                · exact rfl
              refine auto_op 47 [4, 3] (by kernel_rfl) (fun y w' HW hd K hK => ?_) ?_
              · have e3 := hd_nth (hd 3 (by simp)) rfl
                have e4 := hd_nth (hd 4 (by simp)) rfl
                have hcl : ∀ p : Addr, p.block < w3.heap.size → w'.cell? p = w3.cell? p := fun p hp => HW.cell hp
                go_simp
                refine hK _ _ ?_ ?_ HW
                · simp [upd, e3, e4]
                · exact rfl
              refine auto_op 48 [3] (by kernel_rfl) (fun y w' HW hd K hK => ?_) ?_
              · have e3 := hd_nth (hd 3 (by simp)) rfl
                go_simp
                refine hK _ _ ?_ ?_ HW
                · simp [upd, e3]
                · exact rfl
              refine auto_op 49 [6, 3] (by kernel_rfl) (fun y w' HW hd K hK => ?_) ?_
              · have e3 := hd_nth (hd 3 (by simp)) rfl
                have e6 := hd_nth (hd 6 (by simp)) rfl
                have hcl : ∀ p : Addr, p.block < w3.heap.size → w'.cell? p = w3.cell? p := fun p hp => HW.cell hp
                go_simp
                refine hK _ _ ?_ ?_ HW
                · simp [upd, e3, e6]
                · exact rfl
              refine auto_op 50 [3] (by kernel_rfl) (fun y w' HW hd K hK => ?_) ?_
              · have e3 := hd_nth (hd 3 (by simp)) rfl
                go_simp
                refine hK _ _ ?_ ?_ HW
                · simp [upd, e3]
                · exact rfl
              refine auto_op 51 [8, 3] (by kernel_rfl) (fun y w' HW hd K hK => ?_) ?_
              · have e3 := hd_nth (hd 3 (by simp)) rfl
                have e8 := hd_nth (hd 8 (by simp)) rfl
                have hcl : ∀ p : Addr, p.block < w3.heap.size → w'.cell? p = w3.cell? p := fun p hp => HW.cell hp
                go_simp
                refine hK _ _ ?_ ?_ HW
                · simp [upd, e3, e8]
                · exact rfl
              refine auto_op 52 [7, 9, 3] (by kernel_rfl) (fun y w' HW hd K hK => ?_) ?_
              · have e3 := hd_nth (hd 3 (by simp)) rfl
                have e7 := hd_nth (hd 7 (by simp)) rfl
                have e9 := hd_nth (hd 9 (by simp)) rfl
                go_simp
                refine hK _ _ ?_ ?_ HW
                · simp [upd, e3, e7, e9]
                · exact rfl
              refine auto_op 53 [10, 3] (by kernel_rfl) (fun y w' HW hd K hK => ?_) ?_
              · have e3 := hd_nth (hd 3 (by simp)) rfl
                have e10 := hd_nth (hd 10 (by simp)) rfl
                go_simp
                refine hK _ _ ?_ ?_ HW
                · simp [upd, e3, e10]
                · exact rfl
              refine auto_op 54 [11, 3] (by kernel_rfl) (fun y w' HW hd K hK => ?_) ?_
              · have e3 := hd_nth (hd 3 (by simp)) rfl
                have e11 := hd_nth (hd 11 (by simp)) rfl
                have hcl : ∀ p : Addr, p.block < w3.heap.size → w'.cell? p = w3.cell? p := fun p hp => HW.cell hp
                go_simp
                refine hK _ _ ?_ ?_ HW
                · simp [upd, e3, e11]
                · exact rfl
              refine auto_op 55 [5, 12, 3] (by kernel_rfl) (fun y w' HW hd K hK => ?_) ?_
              · have e3 := hd_nth (hd 3 (by simp)) rfl
                have e5 := hd_nth (hd 5 (by simp)) rfl
                have e12 := hd_nth (hd 12 (by simp)) rfl
                go_simp
                refine hK _ _ ?_ ?_ HW
                · simp [upd, e3, e5, e12]
                · exact rfl
              refine auto_last fun y w' HW hd K hK => ?_
              have e0 := hd_nth (hd 0 (by omega)) rfl
              have e1 := hd_nth (hd 1 (by omega)) rfl
              have e2 := hd_nth (hd 2 (by omega)) rfl
              have e3 := hd_nth (hd 3 (by omega)) rfl
              have e4 := hd_nth (hd 4 (by omega)) rfl
              have e5 := hd_nth (hd 5 (by omega)) rfl
              have e6 := hd_nth (hd 6 (by omega)) rfl
              have e7 := hd_nth (hd 7 (by omega)) rfl
              have e8 := hd_nth (hd 8 (by omega)) rfl
              have e9 := hd_nth (hd 9 (by omega)) rfl
              have e10 := hd_nth (hd 10 (by omega)) rfl
              have e11 := hd_nth (hd 11 (by omega)) rfl
              have e12 := hd_nth (hd 12 (by omega)) rfl
              have e13 := hd_nth (hd 13 (by omega)) rfl
              go_simp
              refine hK _ _ ?_
              clear hd hK K e0 e1 e2 e3 e4 e5 e6 e7 e8 e9 e10 e11 e12 e13
              obtain ⟨Z, hZ⟩ : ∃ Z, Z = w' := ⟨_, rfl⟩
              have HZ1 : Hid (Z.cell? ⟨wr.heap.size, 1, none⟩ = some (.int .i64 (g : Int))) := Lib.hid (by rw [hZ]; exact (old_cells HW _ 1 sw1).trans HD1'.out)
              have HZ3 : Hid (Z.cell? ⟨w.heap.size, 3, none⟩ = some (.slice (some x) pn pc)) := Lib.hid (by rw [hZ]; exact (old_cells HW _ 3 sw2).trans HM3'.out)
              have hbZ : Below w.heap.size w Z := by rw [hZ]; exact hb30.trans (HW.mono (hb30).size)
              have hbZ1 : Below w1.heap.size w1 Z := by rw [hZ]; exact hb31.trans (HW.mono (hb31).size)
              have sz1 : wr.heap.size < Z.heap.size := by rw [hZ]; have := HW.size; omega
              have sz2 : w.heap.size < Z.heap.size := by omega
              rw [← hZ]
              clear hZ HW d0 d1 m1 m3 e0
              obtain ⟨rb, hrb⟩ : ∃ rb, rb = wr.heap.size := ⟨_, rfl⟩
              rw [← hrb] at HZ1 sz1 ⊢
              clear hrb
              go_wp2
              go_loopw [6] (fun q wi => ∃ j : Nat, j ≤ k ∧ q = .int .i64 j ∧ Below Z.heap.size Z wi ∧ Hid (∀ j', j' < j → ¬ P j' 1 = (g : Int))) (fun q _ => k - (intOf q).toNat)
              case atStart => exact ⟨0, Nat.zero_le _, rfl, Below.refl _ _ , fun j' h => absurd h (by omega)⟩
              case round =>
                obtain ⟨j, hj, rfl, hbi , hnj⟩ := hrel
                have hbi0 : Below w.heap.size w wr := hbZ.trans (hbi.mono (by omega))
                have hbi1 : Below w1.heap.size w1 wr := hbZ1.trans (hbi.mono hbZ1.size)
                by_cases hjk : j < k
                · obtain ⟨x', hxx, hx2, e0, e1⟩ := (HPx.out _ hbi0).at2 j (by omega)
                  obtain rfl : x = x' := by injection hxx
                  clear hxx e0
                  have z1 := (old_cells hbi _ 1 sz1).trans HZ1.out
                  have z3 := (old_cells hbi _ 3 sz2).trans HZ3.out
                  have sz3 : rb < wr.heap.size := by have := hbi.size; omega
                  have sz4 : w.heap.size < wr.heap.size := by have := hbi.size; omega
                  have hbz := hbi0.size
                  have sz5 : (x.add (j * 2)).block < wr.heap.size := by rw [block_of_add]; omega
                  have j0 : (0 : Int) ≤ (j : Int) := by omega
                  have j1 : (j : Int) < (k : Int) := by omega
                  have j2 : (j : Int) < (pn : Int) := by omega
                  obtain ⟨pj, hpj⟩ : ∃ pj, pj = P j 1 := ⟨_, rfl⟩
                  rw [← hpj] at e1
                  have HPj := Lib.hid hpj
                  clear hpj
                  by_cases hpg : pj = (g : Int)
                  · have HF := Lib.hid (HS.out (HYes.out ⟨j, hjk, by rw [← HPj.out]; exact hpg⟩))
                    subst hpg
                    go_wp2
                    apply wp_region_auto [63, 64, 65, 66, 67, 68, 69, 70, 71, 72, 73, 74, 75] [_, _, _, _, _, _, _, _, _, _, _, _, _] (fun W' => Below wr.heap.size wr W')
                    case hm => kernel_rfl
                    case hT => intro y; simp only [setAll, List.setIfInBounds_toArray, List.set_cons_succ, List.set_cons_zero]; exact rfl
                    case hok => kernel_rfl
                    case hn => decide
                    case hw => exact (Below.refl _ _).drew
                    case hs =>
                      refine auto_op 63 [] (by kernel_rfl) (fun y w' HW hd K hK => ?_) ?_
                      · go_simp
                        refine hK _ _ ?_ ?_ HW
                        · simp [upd]
                        · exact rfl
                      refine auto_op 64 [0] (by kernel_rfl) (fun y w' HW hd K hK => ?_) ?_
                      · have e0 := hd_nth (hd 0 (by simp)) rfl
                        have hcl : ∀ p : Addr, p.block < wr.heap.size → w'.cell? p = wr.cell? p := fun p hp => HW.cell hp
                        go_simp
                        refine hK _ _ ?_ ?_ HW
                        · simp [upd, e0]
                        · exact rfl
                      refine auto_op 65 [1] (by kernel_rfl) (fun y w' HW hd K hK => ?_) ?_
                      · have e1 := hd_nth (hd 1 (by simp)) rfl
                        go_simp
                        refine hK _ _ ?_ ?_ HW
                        · simp [upd, e1]
                        · exact rfl
                      refine auto_op 66 [2] (by kernel_rfl) (fun y w' HW hd K hK => ?_) ?_
                      · have e2 := hd_nth (hd 2 (by simp)) rfl
                        go_simp
                        refine hK _ _ ?_ ?_ HW
                        · simp [upd, e2]
                        · exact rfl
                      refine auto_op 67 [3] (by kernel_rfl) (fun y w' HW hd K hK => ?_) ?_
                      · have e3 := hd_nth (hd 3 (by simp)) rfl
                        go_simp
                        refine hK _ _ ?_ ?_ HW
                        · simp [upd, e3]
                        · exact rfl
                      refine auto_op 68 [4, 3] (by kernel_rfl) (fun y w' HW hd K hK => ?_) ?_
                      · have e3 := hd_nth (hd 3 (by simp)) rfl
                        have e4 := hd_nth (hd 4 (by simp)) rfl
                        have hcl : ∀ p : Addr, p.block < wr.heap.size → w'.cell? p = wr.cell? p := fun p hp => HW.cell hp
                        go_simp
                        refine hK _ _ ?_ ?_ HW
                        · simp [upd, e3, e4]
                        · exact rfl
                      refine auto_op 69 [3] (by kernel_rfl) (fun y w' HW hd K hK => ?_) ?_
                      · have e3 := hd_nth (hd 3 (by simp)) rfl
                        go_simp
                        refine hK _ _ ?_ ?_ HW
                        · simp [upd, e3]
                        · exact rfl
                      refine auto_op 70 [5, 6, 3] (by kernel_rfl) (fun y w' HW hd K hK => ?_) ?_
                      · have e3 := hd_nth (hd 3 (by simp)) rfl
                        have e5 := hd_nth (hd 5 (by simp)) rfl
                        have e6 := hd_nth (hd 6 (by simp)) rfl
                        go_simp
                        refine hK _ _ ?_ ?_ HW
                        · simp [upd, e3, e5, e6]
                        · exact rfl
                      refine auto_op 71 [7, 3] (by kernel_rfl) (fun y w' HW hd K hK => ?_) ?_
                      · have e3 := hd_nth (hd 3 (by simp)) rfl
                        have e7 := hd_nth (hd 7 (by simp)) rfl
                        go_simp
                        refine hK _ _ ?_ ?_ HW
                        · simp [upd, e3, e7]
                        · exact rfl
                      refine auto_op 72 [8, 3] (by kernel_rfl) (fun y w' HW hd K hK => ?_) ?_
                      · have e3 := hd_nth (hd 3 (by simp)) rfl
                        have e8 := hd_nth (hd 8 (by simp)) rfl
                        have hcl : ∀ p : Addr, p.block < wr.heap.size → w'.cell? p = wr.cell? p := fun p hp => HW.cell hp
                        go_simp
                        refine hK _ _ ?_ ?_ HW
                        · simp [upd, e3, e8]
                        · exact rfl
                      refine auto_op 73 [3] (by kernel_rfl) (fun y w' HW hd K hK => ?_) ?_
                      · have e3 := hd_nth (hd 3 (by simp)) rfl
                        go_simp
                        refine hK _ _ ?_ ?_ HW
                        · simp [upd, e3]
                        · exact rfl
                      refine auto_op 74 [10, 3] (by kernel_rfl) (fun y w' HW hd K hK => ?_) ?_
                      · have e3 := hd_nth (hd 3 (by simp)) rfl
                        have e10 := hd_nth (hd 10 (by simp)) rfl
                        have hcl : ∀ p : Addr, p.block < wr.heap.size → w'.cell? p = wr.cell? p := fun p hp => HW.cell hp
                        go_simp
                        refine hK _ _ ?_ ?_ HW
                        · simp [upd, e3, e10]
                        · exact rfl
                      refine auto_op 75 [9, 11, 3] (by kernel_rfl) (fun y w' HW hd K hK => ?_) ?_
                      · have e3 := hd_nth (hd 3 (by simp)) rfl
                        have e9 := hd_nth (hd 9 (by simp)) rfl
                        have e11 := hd_nth (hd 11 (by simp)) rfl
                        go_simp
                        refine hK _ _ ?_ ?_ HW
                        · simp [upd, e3, e9, e11]
                        · exact rfl
                      refine auto_last fun y w' HW hd K hK => ?_
                      have e0 := hd_nth (hd 0 (by omega)) rfl
                      have e1 := hd_nth (hd 1 (by omega)) rfl
                      have e2 := hd_nth (hd 2 (by omega)) rfl
                      have e3 := hd_nth (hd 3 (by omega)) rfl
                      have e4 := hd_nth (hd 4 (by omega)) rfl
                      have e5 := hd_nth (hd 5 (by omega)) rfl
                      have e6 := hd_nth (hd 6 (by omega)) rfl
                      have e7 := hd_nth (hd 7 (by omega)) rfl
                      have e8 := hd_nth (hd 8 (by omega)) rfl
                      have e9 := hd_nth (hd 9 (by omega)) rfl
                      have e10 := hd_nth (hd 10 (by omega)) rfl
                      have e11 := hd_nth (hd 11 (by omega)) rfl
                      have e12 := hd_nth (hd 12 (by omega)) rfl
                      go_simp
                      refine hK _ _ ?_
                      clear hd hK K e0 e1 e2 e3 e4 e5 e6 e7 e8 e9 e10 e11 e12
                      go_wp2
                      go_ret2
                      exact ⟨by rw [HF.out]; rfl, hbi0.trans (HW.mono hbi0.size)⟩
                  · have hpb : (pj == (g : Int)) = false := by simpa using hpg
                    have HNj : Hid (∀ j', j' < j + 1 → ¬ P j' 1 = (g : Int)) := Lib.hid (more_no hnj.out (by rw [← HPj.out]; exact hpg))
                    go_wp2
                    apply wp_region_auto [63, 64, 65, 66, 67, 68, 69, 70, 71, 72, 73, 74, 75] [_, _, _, _, _, _, _, _, _, _, _, _, _] (fun W' => Below wr.heap.size wr W')
                    case hm => kernel_rfl
                    case hT => intro y; simp only [setAll, List.setIfInBounds_toArray, List.set_cons_succ, List.set_cons_zero]; exact rfl
                    case hok => kernel_rfl
                    case hn => decide
                    case hw => exact (Below.refl _ _).drew
                    case hs =>
                      refine auto_op 63 [] (by kernel_rfl) (fun y w' HW hd K hK => ?_) ?_
                      · go_simp
                        refine hK _ _ ?_ ?_ HW
                        · simp [upd]
                        · exact rfl
                      refine auto_op 64 [0] (by kernel_rfl) (fun y w' HW hd K hK => ?_) ?_
                      · have e0 := hd_nth (hd 0 (by simp)) rfl
                        have hcl : ∀ p : Addr, p.block < wr.heap.size → w'.cell? p = wr.cell? p := fun p hp => HW.cell hp
                        go_simp
                        refine hK _ _ ?_ ?_ HW
                        · simp [upd, e0]
                        · exact rfl
                      refine auto_op 65 [1] (by kernel_rfl) (fun y w' HW hd K hK => ?_) ?_
                      · have e1 := hd_nth (hd 1 (by simp)) rfl
                        go_simp
                        refine hK _ _ ?_ ?_ HW
                        · simp [upd, e1]
                        · exact rfl
                      refine auto_op 66 [2] (by kernel_rfl) (fun y w' HW hd K hK => ?_) ?_
                      · have e2 := hd_nth (hd 2 (by simp)) rfl
                        go_simp
                        refine hK _ _ ?_ ?_ HW
                        · simp [upd, e2]
                        · exact rfl
                      refine auto_op 67 [3] (by kernel_rfl) (fun y w' HW hd K hK => ?_) ?_
                      · have e3 := hd_nth (hd 3 (by simp)) rfl
                        go_simp
                        refine hK _ _ ?_ ?_ HW
                        · simp [upd, e3]
                        · exact rfl
                      refine auto_op 68 [4, 3] (by kernel_rfl) (fun y w' HW hd K hK => ?_) ?_
                      · have e3 := hd_nth (hd 3 (by simp)) rfl
                        have e4 := hd_nth (hd 4 (by simp)) rfl
                        have hcl : ∀ p : Addr, p.block < wr.heap.size → w'.cell? p = wr.cell? p := fun p hp => HW.cell hp
                        go_simp
                        refine hK _ _ ?_ ?_ HW
                        · simp [upd, e3, e4]
                        · exact rfl
                      refine auto_op 69 [3] (by kernel_rfl) (fun y w' HW hd K hK => ?_) ?_
                      · have e3 := hd_nth (hd 3 (by simp)) rfl
                        go_simp
                        refine hK _ _ ?_ ?_ HW
                        · simp [upd, e3]
                        · exact rfl
                      refine auto_op 70 [5, 6, 3] (by kernel_rfl) (fun y w' HW hd K hK => ?_) ?_
                      · have e3 := hd_nth (hd 3 (by simp)) rfl
                        have e5 := hd_nth (hd 5 (by simp)) rfl
                        have e6 := hd_nth (hd 6 (by simp)) rfl
                        go_simp
                        refine hK _ _ ?_ ?_ HW
                        · simp [upd, e3, e5, e6]
                        · exact rfl
                      refine auto_op 71 [7, 3] (by kernel_rfl) (fun y w' HW hd K hK => ?_) ?_
                      · have e3 := hd_nth (hd 3 (by simp)) rfl
                        have e7 := hd_nth (hd 7 (by simp)) rfl
                        go_simp
                        refine hK _ _ ?_ ?_ HW
                        · simp [upd, e3, e7]
                        · exact rfl
                      refine auto_op 72 [8, 3] (by kernel_rfl) (fun y w' HW hd K hK => ?_) ?_
                      · have e3 := hd_nth (hd 3 (by simp)) rfl
                        have e8 := hd_nth (hd 8 (by simp)) rfl
                        have hcl : ∀ p : Addr, p.block < wr.heap.size → w'.cell? p = wr.cell? p := fun p hp => HW.cell hp
                        go_simp
                        refine hK _ _ ?_ ?_ HW
                        · simp [upd, e3, e8]
                        · exact rfl
                      refine auto_op 73 [3] (by kernel_rfl) (fun y w' HW hd K hK => ?_) ?_
                      · have e3 := hd_nth (hd 3 (by simp)) rfl
                        go_simp
                        refine hK _ _ ?_ ?_ HW
                        · simp [upd, e3]
                        · exact rfl
                      refine auto_op 74 [10, 3] (by kernel_rfl) (fun y w' HW hd K hK => ?_) ?_
                      · have e3 := hd_nth (hd 3 (by simp)) rfl
                        have e10 := hd_nth (hd 10 (by simp)) rfl
                        have hcl : ∀ p : Addr, p.block < wr.heap.size → w'.cell? p = wr.cell? p := fun p hp => HW.cell hp
                        go_simp
                        refine hK _ _ ?_ ?_ HW
                        · simp [upd, e3, e10]
                        · exact rfl
                      refine auto_op 75 [9, 11, 3] (by kernel_rfl) (fun y w' HW hd K hK => ?_) ?_
                      · have e3 := hd_nth (hd 3 (by simp)) rfl
                        have e9 := hd_nth (hd 9 (by simp)) rfl
                        have e11 := hd_nth (hd 11 (by simp)) rfl
                        go_simp
                        refine hK _ _ ?_ ?_ HW
                        · simp [upd, e3, e9, e11]
                        · exact rfl
                      refine auto_last fun y w' HW hd K hK => ?_
                      have e0 := hd_nth (hd 0 (by omega)) rfl
                      have e1 := hd_nth (hd 1 (by omega)) rfl
                      have e2 := hd_nth (hd 2 (by omega)) rfl
                      have e3 := hd_nth (hd 3 (by omega)) rfl
                      have e4 := hd_nth (hd 4 (by omega)) rfl
                      have e5 := hd_nth (hd 5 (by omega)) rfl
                      have e6 := hd_nth (hd 6 (by omega)) rfl
                      have e7 := hd_nth (hd 7 (by omega)) rfl
                      have e8 := hd_nth (hd 8 (by omega)) rfl
                      have e9 := hd_nth (hd 9 (by omega)) rfl
                      have e10 := hd_nth (hd 10 (by omega)) rfl
                      have e11 := hd_nth (hd 11 (by omega)) rfl
                      have e12 := hd_nth (hd 12 (by omega)) rfl
                      go_simp
                      refine hK _ _ ?_
                      clear hd hK K e0 e1 e2 e3 e4 e5 e6 e7 e8 e9 e10 e11 e12
                      go_wp2
                      go_roundw
                      case rel => exact ⟨j + 1, by omega, by go_num, hbi.trans (HW.mono hbi.size), HNj⟩
                      case measure => simp [intOf]; omega
                · have hjk2 : j = k := by omega
                  subst hjk2
                  have j1 : ¬ (j : Int) < (j : Int) := by omega
                  have HNo : Hid (WR j = false) := Lib.hid (HNot.out hnj.out)
                  go_wp2
                  go_roundw
                  case rel => exact ⟨j + 1, by omega, by go_num, Lib.hid (more_false hno.out HNo.out), hbi1⟩
                  case measure => simp [intOf]; omega
      · have hkn : k = pn := by omega
        subst hkn
        have b1 : ¬ (k : Int) < (k : Int) := by omega
        have hres : foundZ false (firstI k WR) = (false, 0) := by rw [firstI_none hno.out]; rfl
        have HF := Lib.hid hres
        clear hres
        go_wp2
        go_ret2
        exact ⟨by rw [HF.out]; rfl, hbk⟩
end Go.Proofs.YtikkfapgmbamlaaGreatDoor.Cf
end
