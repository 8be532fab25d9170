/- Several texts in one: Zq -/
import Derived.Test.YtoafonbplbblpaaZ38
section
/- hermitagelaw17: WalkTables, walked. -/
namespace Go.Proofs.Ytoafonbplbblpaa.Wa
open Go.RowKit Go.Shelf Ut Oc Vw
set_option maxRecDepth 100000
set_option linter.unusedVariables false
set_option maxHeartbeats 4000000

theorem tables_any (x : Nat) (hx : x < 65536) (al : Option Addr) (ll cl B0 : Nat) (Z : Nat → Int × Int) (rt z : Int) (h0 : 0 ≤ z) (h1 : z < 4294967296) (w : World) (hll : ll ≤ 9223372036854775807)
    (hl : PutRow w B0 al ll Z) (hB0 : B0 ≤ w.heap.size) :
    Calls Try.prog 4 #[.int .u16 x, .slice al ll cl, .int .i64 rt, .int .u32 z] w fun e w' => e = .returned (.bool true) ∧ Below w.heap.size w w' := by
  have HMK := Lib.hid (made17_any x hx al ll cl B0 Z w hll hl hB0)
  have HOD := Lib.hid (odd_map x)
  clear hl hB0
  generalize putS (mapG x) Z (cnt2 ll) = S at HMK
  generalize putD (mapG x) Z (cnt2 ll) = D at HMK
  generalize mapG x = LM at HMK HOD
  go_enter Try.func4, Try.ntmps4
  go_wp2_with fail
  refine HMK.out.mono ?_
  rintro e w1 ⟨b, s, m, g, bt, B, q, gv, cap, rfl, hmd⟩
  have HB1 := Lib.hid hmd.blw
  have HP1 := Lib.hid hmd.pv
  have HWB : Hid (w.heap.size ≤ b) := Lib.hid (by have := hmd.ws; have := hmd.pv.sm; have := hmd.pv.mb; omega)
  clear hmd HMK
  go_wp2_with fail
  refine (dirty_any w1 HP1.out).mono ?_
  rintro e w2 ⟨ra, rn, rc, rfl, _, hp2, hk2⟩
  have HP2 := Lib.hid hp2
  have HB2 := Lib.hid (HB1.out.trans (hk2.under (fun y hy => by have := HWB.out; simp at hy; omega) HB1.out.size))
  clear hp2 hk2 HP1 HB1
  have HSY := Lib.hid (walk_says 12 S LM rt z)
  have HLW : Hid (∀ (p : Int) (i : Nat), i < 16 → hasT 12 LM p = true → findF 12 LM (64 * p + 4 * (i : Int)) 4 1 = 0 ∧ loadF 12 S LM (64 * p + 4 * (i : Int)) 4 = (wordT 12 S LM p i : Int)) := Lib.hid fun p i hi ht => load_word HP2.out.mp.2 HOD.out HP2.out.st.2.1 HP2.out.st.2.2.1 hi ht
  have HWL : Hid (∀ p i, wordT 12 S LM p i < 4294967296) := Lib.hid fun p i => wordT_lt HP2.out.st.2.2.1 p i
  obtain ⟨R, hR⟩ : ∃ R, walkF 12 S LM rt z = R := ⟨_, rfl⟩
  have CW : Hid (Calls Try.prog 10 #[.pointer (some ⟨b, 0, none⟩), .int .i64 rt, .int .u32 z] w2 fun e w' => e = .returned R.v ∧ Below w2.heap.size w2 w') := Lib.hid (walk_any rt z R h0 h1 hR w2 HP2.out)
  rw [hR] at HSY
  clear hR
  go_wp2_with fail
  refine CW.out.mono ?_
  rintro e w3 ⟨rfl, hb3⟩
  have HR2 := step_run w3
  have HN3 : Hid (Blk (w3.alloc (.cells stz.cs.toArray 40)) w3.heap.size 40 stz.cs) := Lib.hid (Blk.new w3 _ _)
  go_simp
  rename_i hK
  refine hK _ _ ?_
  clear hK
  refine Great.wpList_allocTo rfl (some 11) rfl (.pointer (some ⟨w3.heap.size, 0, none⟩)) (.cells stz.cs.toArray 40) (HR2.out _ _ rfl _ rfl) ?_
  refine wpList_store_rowTo rfl 40 _ _ rfl rfl w3.heap.size R.cs.toArray (by kernel_rfl) (by kernel_rfl) 40 stz.cs.toArray HN3.out (size_stp _) rfl (one_stp _) ?_
  have hbw := hb3.trans ((below_setRow ((Below.refl w3.heap.size w3).alloc (Nat.le_refl _) (.cells stz.cs.toArray 40)) (Nat.le_refl w3.heap.size) R.cs.toArray).mono hb3.size)
  have HP4 := Lib.hid (HP2.out.more hbw)
  have HB4 := Lib.hid (HB2.out.trans (hbw.mono HB2.out.size))
  have HN4 := Lib.hid (HN3.out.row R.cs)
  have HNE : Hid (b < w3.heap.size) := Lib.hid (Nat.lt_of_lt_of_le HP2.out.lt hb3.size)
  clear hbw hb3 HN3 HR2 HP2 HB2 CW HOD
  generalize World.setRow _ w3.heap.size R.cs.toArray = w4 at HP4 HB4 HN4 ⊢
  generalize w3.heap.size = sb at HN4 HNE ⊢
  simp only [Act.put, List.setIfInBounds_toArray, List.set_cons_succ, List.set_cons_zero]
  go_wp2_with fail
  refine (dirty_any w4 HP4.out).mono ?_
  rintro e w5 ⟨ra', rn', rc', rfl, hra, hp5, hk5⟩
  obtain rfl : 0 = rn' := hra.out.1
  have HP5 := Lib.hid hp5
  have HB5 := Lib.hid (HB4.out.trans (hk5.under (fun y hy => by have := HWB.out; simp at hy; omega) HB4.out.size))
  have HN5 := Lib.hid (HN4.out.kq hk5 (by have := HNE.out; simp; omega))
  clear hra hp5 hk5 HP4 HB4 HN4
  have HPW : Hid (∀ W, Below w5.heap.size w5 W → PV W b s m 12 S LM noD) := Lib.hid fun W hW => HP5.out.more hW
  obtain ⟨o, r, gg, f, ro, lf⟩ := R
  have g0 := HN5.out.cell (j := 0) rfl
  have g1 := HN5.out.cell (j := 1) rfl
  have g2 := HN5.out.cell (j := 2) rfl
  have g3 := HN5.out.cell (j := 3) rfl
  have g4 := HN5.out.cell (j := 4) rfl
  have g5 := HN5.out.cell (j := 5) rfl
  have gl := HN5.out.lt
  dsimp only at g0 g1 g2 g3 g4 g5
  have hr8 : ro < 8 := HSY.out.r8
  have hl8 : lf < 8 := HSY.out.l8
  by_cases hro : 0 ≤ ro
  · obtain ⟨e1, hz, ht⟩ := HSY.out.root hro
    dsimp only at e1 ht
    subst e1
    have CO : Hid (∀ W, Below w5.heap.size w5 W → Calls Try.prog 14 #[.pointer (some ⟨b, 0, none⟩), .int .u32 (64 * ro), .int .i64 64] W fun e w' => e = .returned (.bool true) ∧ Below W.heap.size W w') := Lib.hid fun W hW => own_any (64 * ro) 64 true (by omega) (by omega) (own_page ht) W (HPW.out W hW)
    have HT := Lib.hid ht
    clear ht
    have n1 : ¬ ro < 0 := by omega
    by_cases hlf : lf < 0
    · obtain ⟨hf, e1, e2, e3⟩ := HSY.out.no hlf
      dsimp only at hf e1 e2 e3
      subst e1 e2 e3
      have hf2 : (f != 0) = true := by simp [hf]
      have n2 : ¬ 0 ≤ lf := by omega
      go_wp2_with fail
      refine (CO.out _ (Below.refl _ _)).mono ?_
      rintro e w6 ⟨rfl, hb⟩
      have HB6 := Lib.hid (HB5.out.trans (hb.mono HB5.out.size))
      have HN6 := Lib.hid (HN5.out.more hb)
      clear hb g0 g1 g2 g3 g4 g5 gl HN5
      have g0 := HN6.out.cell (j := 0) rfl
      have g1 := HN6.out.cell (j := 1) rfl
      have g2 := HN6.out.cell (j := 2) rfl
      have g3 := HN6.out.cell (j := 3) rfl
      have g5 := HN6.out.cell (j := 5) rfl
      have gl := HN6.out.lt
      dsimp only at g0 g1 g2 g3 g5
      go_wp2_with fail
      refine (awake17_any _).mono ?_
      rintro e w7 ⟨rfl, hb⟩
      have HB7 := Lib.hid (HB6.out.trans (hb.mono HB6.out.size))
      clear hb
      go_wp2
      go_ret
      exact ⟨rfl, HB7.out⟩
    · obtain ⟨htl, x1, y1, hx1, hy1, ht1, hg1, hl1, e1, e2, e3⟩ := HSY.out.leaf (by show 0 ≤ lf; omega)
      dsimp only at htl hx1 hy1 hg1 hl1 e1 e2 e3
      subst e1 e2 e3
      have n2 : 0 ≤ lf := by omega
      have hxl : x1 < 4294967296 := hx1 ▸ HWL.out _ _
      have hyl : y1 < 4294967296 := hy1 ▸ HWL.out _ _
      have hw1 := HLW.out ro (z / 1024).toNat (by omega) HT.out
      have hw2 := HLW.out lf (z / 64 % 16).toNat (by omega) htl
      rw [hx1, show (((z / 1024).toNat : Nat) : Int) = z / 1024 by omega] at hw1
      rw [hy1, show (((z / 64 % 16).toNat : Nat) : Int) = z / 64 % 16 by omega] at hw2
      have C1 : Hid (∀ W, Below w5.heap.size w5 W → Calls Try.prog 15 #[.pointer (some ⟨b, 0, none⟩), .int .u32 (64 * ro + 4 * (z / 1024)), .int .i64 4] W fun e w' => e = .returned (.tuple #[.int .u32 x1, .int .i64 0]) ∧ Below W.heap.size W w') := Lib.hid fun W hW => load_any _ 4 0 x1 (by omega) (by omega) hw1.1 hw1.2 W (HPW.out W hW)
      have C2 : Hid (∀ W, Below w5.heap.size w5 W → Calls Try.prog 15 #[.pointer (some ⟨b, 0, none⟩), .int .u32 (64 * lf + 4 * (z / 64 % 16)), .int .i64 4] W fun e w' => e = .returned (.tuple #[.int .u32 y1, .int .i64 0]) ∧ Below W.heap.size W w') := Lib.hid fun W hW => load_any _ 4 0 y1 (by omega) (by omega) hw2.1 hw2.2 W (HPW.out W hW)
      have C3 : Hid (∀ W, Calls Try.prog 16 #[.int .u32 x1] W fun e w' => e = .returned (.tuple #[.int .i64 lf, .int .i64 0]) ∧ Below W.heap.size W w') := Lib.hid fun W => Pe.table_any x1 hxl lf 0 hg1 ht1 W
      have C4 : Hid (∀ W, Calls Try.prog 17 #[.int .u32 y1] W fun e w' => e = .returned (.tuple #[Pe.pteV (Pe.oF f) (Pe.rF f y1) (Pe.gF f y1), .int .i64 f]) ∧ Below W.heap.size W w') := Lib.hid fun W => Pe.leaf_any y1 hyl f hl1 W
      clear hw1 hw2 hxl hyl hx1 hy1 ht1 hg1 hl1 htl HSY HLW HWL HT
      generalize Pe.oF f = o at C4 g0 HN5
      generalize Pe.rF f y1 = r at C4 g1 HN5
      generalize Pe.gF f y1 = gg at C4 g2 HN5
      go_wp2_with fail
      refine (CO.out _ (Below.refl _ _)).mono ?_
      rintro e w6 ⟨rfl, hb⟩
      have HK6 := Lib.hid hb
      have HN6 := Lib.hid (HN5.out.more hb)
      clear hb g0 g1 g2 g3 g4 g5 gl CO
      have g4 := HN6.out.cell (j := 4) rfl
      have g5 := HN6.out.cell (j := 5) rfl
      have gl := HN6.out.lt
      dsimp only at g4 g5
      go_wp2_with fail
      refine (C1.out _ HK6.out).mono ?_
      rintro e w7 ⟨rfl, hb⟩
      have HK7 := Lib.hid (HK6.out.trans (hb.mono HK6.out.size))
      have HN7 := Lib.hid (HN6.out.more hb)
      clear hb g4 g5 gl HN6 HK6 C1
      have g5 := HN7.out.cell (j := 5) rfl
      have gl := HN7.out.lt
      dsimp only at g5
      go_wp2_with fail
      refine (C2.out _ HK7.out).mono ?_
      rintro e w8 ⟨rfl, hb⟩
      have HK8 := Lib.hid (HK7.out.trans (hb.mono HK7.out.size))
      have HN8 := Lib.hid (HN7.out.more hb)
      clear hb g5 gl HN7 HK7 C2
      go_wp2_with fail
      refine (C3.out _).mono ?_
      rintro e w9 ⟨rfl, hb⟩
      have HK9 := Lib.hid (HK8.out.trans (hb.mono HK8.out.size))
      have HN9 := Lib.hid (HN8.out.more hb)
      clear hb HN8 HK8 C3
      go_wp2_with fail
      refine (C4.out _).mono ?_
      rintro e wa ⟨rfl, hb⟩
      have HKa : Hid (Below w5.heap.size w5 (wa.alloc (.cells #[.bool o, .int .i64 r, .int .i64 gg] 38))) := Lib.hid ((HK9.out.trans (hb.mono HK9.out.size)).alloc (HK9.out.trans (hb.mono HK9.out.size)).size _)
      have HNa := Lib.hid ((HN9.out.more hb).more ((Below.refl wa.heap.size wa).alloc (Nat.le_refl _) (.cells #[.bool o, .int .i64 r, .int .i64 gg] 38)))
      have HQa : Hid (Blk (wa.alloc (.cells #[.bool o, .int .i64 r, .int .i64 gg] 38)) wa.heap.size 38 [.bool o, .int .i64 r, .int .i64 gg]) := Lib.hid (Blk.new wa _ _)
      clear hb HN9 HK9 C4
      go_upto_region 16 with fail
      generalize wa.alloc (.cells #[.bool o, .int .i64 r, .int .i64 gg] 38) = wb at HKa HNa HQa ⊢
      generalize wa.heap.size = pb at HQa ⊢
      have g0 := HNa.out.cell (j := 0) rfl
      have g1 := HNa.out.cell (j := 1) rfl
      have g2 := HNa.out.cell (j := 2) rfl
      have g3 := HNa.out.cell (j := 3) rfl
      have g5 := HNa.out.cell (j := 5) rfl
      have gl := HNa.out.lt
      dsimp only at g0 g1 g2 g3 g5
      have k0 := HQa.out.cell (j := 0) rfl
      have k1 := HQa.out.cell (j := 1) rfl
      have k2 := HQa.out.cell (j := 2) rfl
      have kl := HQa.out.lt
      go_wp2_with fail
      refine (awake17_any _).mono ?_
      rintro e wd ⟨rfl, hb⟩
      have HBd := Lib.hid (HB5.out.trans ((HKa.out.trans (hb.mono HKa.out.size)).mono HB5.out.size))
      clear hb
      go_wp2
      go_ret
      exact ⟨rfl, HBd.out⟩
  · have hlf : lf < 0 := by
      by_cases h : lf < 0
      · exact h
      · exact absurd (HSY.out.lr (by show 0 ≤ lf; omega)) hro
    have n1 : ro < 0 := by omega
    have n2 : ¬ 0 ≤ lf := by omega
    obtain ⟨hf, e1, e2, e3⟩ := HSY.out.no hlf
    dsimp only at hf e1 e2 e3
    subst e1 e2 e3
    have hf2 : (f != 0) = true := by simp [hf]
    go_wp2_with fail
    refine (awake17_any _).mono ?_
    rintro e w7 ⟨rfl, hb⟩
    have HB7 := Lib.hid (HB5.out.trans (hb.mono HB5.out.size))
    clear hb
    go_wp2
    go_ret
    exact ⟨rfl, HB7.out⟩
end Go.Proofs.Ytoafonbplbblpaa.Wa
end
