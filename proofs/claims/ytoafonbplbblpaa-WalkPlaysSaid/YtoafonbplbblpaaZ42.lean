/- Several texts in one: Zl -/
import Derived.Test.YtoafonbplbblpaaZ35
import Derived.Test.YtoafonbplbblpaaZ41
import Derived.Test.YtoafonbplbblpaaZ08
import Derived.Deep.DeepCutAuto
import Derived.Deep.CutRange
section
/- hermitagelaw17: WalkPlays. -/
namespace Go.Proofs.Ytoafonbplbblpaa.Wa
open Go.RowKit Go.Shelf Ut Oc Vw
set_option maxRecDepth 100000
set_option linter.unusedVariables false
set_option maxHeartbeats 4000000

theorem plays17_any (x : Nat) (hx : x < 65536) (al va : Option Addr) (ll cl lv cv B0 : Nat) (Z : Nat → Int × Int) (ys : List Int) (on us : Bool) (rt k : Int) (w : World) (hll : ll ≤ 9223372036854775807) (hlv : lv ≤ 9223372036854775807)
    (hl : PutRow w B0 al ll Z) (hv : RowK .u32 w B0 va lv ys) (hyb : ∀ i, i < lv → 0 ≤ ys.getD i 0 ∧ ys.getD i 0 < 4294967296) (hB0 : B0 ≤ w.heap.size) :
    Calls Try.prog 3 #[.int .u16 x, .slice al ll cl, .agg #[.bool on, .int .i64 rt, .bool us], .slice va lv cv, .int .i64 k] w fun e w' => e = .returned (.bool true) ∧ Below w.heap.size w w' := by
  obtain ⟨w1, hw1⟩ : ∃ w1, w1 = w.alloc (.cells #[.bool on, .int .i64 rt, .bool us] 25) := ⟨_, rfl⟩
  have hb1 : Below w.heap.size w w1 := by rw [hw1]; exact (Below.refl _ _).alloc (Nat.le_refl _) _
  have hn1 : Blk w1 w.heap.size 25 [.bool on, .int .i64 rt, .bool us] := by rw [hw1]; exact Blk.new w _ _
  have hl1 : PutRow w1 B0 al ll Z := fun i hi => by
    obtain ⟨y, e, hyb, h0, h1, rest⟩ := hl i hi
    have g : ∀ p : Addr, p.block < B0 → w1.cell? p = w.cell? p := fun p hp => (hb1.mono hB0).cell hp
    exact ⟨y, e, hyb, (g _ (by rw [block_of_add]; exact hyb)).trans h0, (g _ (by rw [block_of_add]; exact hyb)).trans h1, rest⟩
  have HMK := Lib.hid (made17_any x hx al ll cl B0 Z w1 hll hl1 (Nat.le_trans hB0 hb1.size))
  have HB1 := Lib.hid hb1
  have HN1 := Lib.hid hn1
  have HV := Lib.hid hv
  have HYB := Lib.hid hyb
  have HB0 := Lib.hid hB0
  have HW1 := Lib.hid hw1
  clear hb1 hn1 hl1 hl hv hyb hB0 hw1
  generalize putS (mapG x) Z (cnt2 ll) = S at HMK
  generalize putD (mapG x) Z (cnt2 ll) = D at HMK
  generalize mapG x = LM at HMK
  go_enter Try.func3, Try.ntmps3
  go_upto_region 1 with fail
  rw [← HW1.out]
  clear HW1
  go_wp2_with fail
  refine HMK.out.mono ?_
  rintro e w2 ⟨b, s, m, g, bt, B, q, gv, cap, rfl, hmd⟩
  have HB2 := Lib.hid (HB1.out.trans (hmd.blw.mono HB1.out.size))
  have HN2 := Lib.hid (HN1.out.more hmd.blw)
  have HP2 := Lib.hid hmd.pv
  have HD2 := Lib.hid hmd.dv
  clear hmd HMK HB1 HN1
  go_wp2
  go_loopw [13] (fun j wr => ∃ i : Nat, i ≤ lv ∧ i ≤ 60 ∧ j = .int .i64 i ∧ Hid (Below w2.heap.size w2 wr)) (fun j _ => 60 - (intOf j).toNat)
  case atStart => exact ⟨0, Nat.zero_le _, Nat.zero_le _, rfl, Lib.hid (Below.refl _ _)⟩
  case round =>
    obtain ⟨i, hi1, hi2, rfl, HB⟩ := hrel
    by_cases hin : i < lv ∧ i < 60
    · obtain ⟨h1, h2⟩ := hin
      obtain ⟨xa, rfl, hxb, hxc⟩ := HV.out.2 i h1
      have hyi := HYB.out i h1
      have HBV : Hid (Below w.heap.size w wr) := Lib.hid (HB2.out.trans (HB.out.mono HB2.out.size))
      have HC : Hid ((xa.add i).block < B0 ∧ w.cell? (xa.add i) = some (.int .u32 (ys.getD i 0))) := Lib.hid ⟨by rw [block_of_add]; exact hxb, hxc⟩
      have f0 : (i : Int) < (lv : Int) := by omega
      have f1 : (i : Int) < 60 := by omega
      have f2 : (0 : Int) ≤ (i : Int) := by omega
      have H3 := Lib.hid (And.intro h1 h2)
      clear hxb hxc h1 h2 hi1 hi2
      generalize ys.getD i 0 = z at hyi HC
      obtain ⟨z0, z1⟩ := hyi
      obtain ⟨R, hR⟩ : ∃ R, walkF 12 S LM rt z = R := ⟨_, rfl⟩
      obtain ⟨c, hc⟩ : ∃ c, (locF 12 S LM on rt us z k).2 = c := ⟨_, rfl⟩
      obtain ⟨h, hh⟩ : ∃ h, (locF 12 S LM on rt us z k).1 = h := ⟨_, rfl⟩
      have CF : Hid (∀ W, Below w2.heap.size w2 W → Calls Try.prog 8 #[.pointer (some ⟨b, 0, none⟩), .agg #[.bool on, .int .i64 rt, .bool us], .int .u32 z, .int .i64 k] W fun e w' => e = .returned (.tuple #[hitV h, .int .i64 c]) ∧ Below W.heap.size W w') := Lib.hid fun W hW => find_any on us rt z k c h z0 z1 hc hh W (HP2.out.more hW)
      have CD : Hid (∀ W, Below w2.heap.size w2 W → Calls Try.prog 9 #[.pointer (some ⟨g, 0, none⟩), .agg #[.bool on, .int .i64 rt, .bool us], .int .u32 z, .int .i64 k] W fun e w' => e = .returned (.tuple #[hitV h, .int .i64 c]) ∧ Below W.heap.size W w') := Lib.hid fun W hW => refFind_any on us rt z k c h z0 z1 hc hh W (HD2.out.more hW)
      have CW : Hid (∀ W, Below w2.heap.size w2 W → Calls Try.prog 10 #[.pointer (some ⟨b, 0, none⟩), .int .i64 rt, .int .u32 z] W fun e w' => e = .returned R.v ∧ Below W.heap.size W w') := Lib.hid fun W hW => walk_any rt z R z0 z1 hR W (HP2.out.more hW)
      have CX : Hid (∀ W, Below w2.heap.size w2 W → Calls Try.prog 11 #[.pointer (some ⟨g, 0, none⟩), .int .i64 rt, .int .u32 z] W fun e w' => e = .returned R.v ∧ Below W.heap.size W w') := Lib.hid fun W hW => refWalk_any rt z R z0 z1 hR W (HD2.out.more hW)
      clear hR hc hh
      unfold hitV at CF CD
      obtain ⟨ha, hb, hc⟩ := h
      dsimp only at CF CD
      obtain ⟨ro, rr, rg, rf, rrt, rlf⟩ := R
      have q0 := HN2.out.more HB.out
      have c0 := q0.cell (j := 0) rfl
      have c1 := q0.cell (j := 1) rfl
      have c2 := q0.cell (j := 2) rfl
      have cl := q0.lt
      have x1 := ((HBV.out.mono HB0.out).cell (p := xa.add i) HC.out.1).trans HC.out.2
      have xl : (xa.add i).block < wr.heap.size := by have := HC.out.1; have := HB0.out; have := HBV.out.size; omega
      clear q0
      go_upto_region 7 with fail
      go_cut [14, 15] from 40 to 50 (fun vp vc wx => ∃ p : Nat, vp = .pointer (some ⟨p, 0, none⟩) ∧ vc = .int .i64 c ∧ Hid (Below wr.heap.size wr wx) ∧ Hid (Blk wx p 32 [.int .i64 ha, .int .i64 hb, .int .i64 hc, .bool false]))
      case first =>
        have hd : Below w2.heap.size w2 wr.drew := HB.out.drew
        have hdw : Below wr.heap.size wr wr.drew := (Below.refl _ _).drew
        have HNZ : Hid (∀ V, Below (wr.drew.alloc (.cells #[.int .i64 0, .int .i64 0, .int .i64 0, .bool false] 32)).heap.size (wr.drew.alloc (.cells #[.int .i64 0, .int .i64 0, .int .i64 0, .bool false] 32)) V → Blk V wr.heap.size 32 [.int .i64 0, .int .i64 0, .int .i64 0, .bool false]) := Lib.hid fun V h => (Blk.new wr.drew _ [.int .i64 0, .int .i64 0, .int .i64 0, .bool false]).more h
        go_region_with (refine (CF.out _ (by first | exact hd | exact hd.alloc hd.size _)).mono ?_; rintro e w3 ⟨rfl, hb3⟩; have HB3 : Hid (Below wr.heap.size wr w3) := Lib.hid (by first | exact hdw.trans (hb3.mono hdw.size) | exact (hdw.alloc hdw.size _).trans (hb3.mono (hdw.alloc hdw.size _).size)); first | (have q3 := HNZ.out _ hb3; have g0 : w3.frozen? ⟨wr.heap.size, 0, none⟩ = false := q3.frozen 0; have g1 : w3.frozen? ⟨wr.heap.size, 1, none⟩ = false := q3.frozen 1; have g2 : w3.frozen? ⟨wr.heap.size, 2, none⟩ = false := q3.frozen 2; have g3 : w3.frozen? ⟨wr.heap.size, 3, none⟩ = false := q3.frozen 3; obtain ⟨k0, k1, k2, k3⟩ := HAt.cells (h := (0, 0, 0)) q3; have gl := q3.lt; dsimp only at k0 k1 k2; have HQ3 := Lib.hid q3; clear q3 hb3) | clear hb3)
        all_goals
          go_wp2_with fail
          go_meet
          first
            | exact ⟨_, rfl, rfl, Lib.hid (HB3.out.alloc HB3.out.size _), Lib.hid (Blk.new w3 _ [.int .i64 ha, .int .i64 hb, .int .i64 hc, .bool false])⟩
            | exact ⟨_, rfl, rfl, Lib.hid ((((HB3.out.setCell (p := ⟨wr.heap.size, 0, none⟩) (Nat.le_refl _) _).setCell (p := ⟨wr.heap.size, 1, none⟩) (Nat.le_refl _) _).setCell (p := ⟨wr.heap.size, 2, none⟩) (Nat.le_refl _) _).setCell (p := ⟨wr.heap.size, 3, none⟩) (Nat.le_refl _) _), Lib.hid ((((HQ3.out.set 0 (.int .i64 ha)).set 1 (.int .i64 hb)).set 2 (.int .i64 hc)).set 3 (.bool false))⟩
      case rest =>
        obtain ⟨wa, rfl⟩ : ∃ X, X = wc := ⟨_, rfl⟩
        obtain ⟨p1, rfl, rfl, HBc, HH1⟩ := hcut
        have HB4 := Lib.hid (HB.out.trans (HBc.out.mono HB.out.size))
        clear c0 c1 c2 cl x1 xl HBc HB
        have q0 := HN2.out.more HB4.out
        have c0 := q0.cell (j := 0) rfl
        have c1 := q0.cell (j := 1) rfl
        have c2 := q0.cell (j := 2) rfl
        have cl := q0.lt
        have xb : Below w.heap.size w wa := HB2.out.trans (HB4.out.mono HB2.out.size)
        have x1 := ((xb.mono HB0.out).cell (p := xa.add i) HC.out.1).trans HC.out.2
        have xl : (xa.add i).block < wa.heap.size := by have := HC.out.1; have := HB0.out; have := xb.size; omega
        clear q0 xb
        go_upto_region 8 with fail
        go_cut [16, 17] from 51 to 61 (fun vp vc wx => ∃ p : Nat, vp = .pointer (some ⟨p, 0, none⟩) ∧ vc = .int .i64 c ∧ Hid (Below wa.heap.size wa wx) ∧ Hid (Blk wx p 32 [.int .i64 ha, .int .i64 hb, .int .i64 hc, .bool false]))
        case first =>
          have hd : Below w2.heap.size w2 wa.drew := HB4.out.drew
          have hdw : Below wa.heap.size wa wa.drew := (Below.refl _ _).drew
          have HNZ : Hid (∀ V, Below (wa.drew.alloc (.cells #[.int .i64 0, .int .i64 0, .int .i64 0, .bool false] 32)).heap.size (wa.drew.alloc (.cells #[.int .i64 0, .int .i64 0, .int .i64 0, .bool false] 32)) V → Blk V wa.heap.size 32 [.int .i64 0, .int .i64 0, .int .i64 0, .bool false]) := Lib.hid fun V h => (Blk.new wa.drew _ [.int .i64 0, .int .i64 0, .int .i64 0, .bool false]).more h
          go_region_with (refine (CD.out _ (by first | exact hd | exact hd.alloc hd.size _)).mono ?_; rintro e w3 ⟨rfl, hb3⟩; have HB3 : Hid (Below wa.heap.size wa w3) := Lib.hid (by first | exact hdw.trans (hb3.mono hdw.size) | exact (hdw.alloc hdw.size _).trans (hb3.mono (hdw.alloc hdw.size _).size)); first | (have q3 := HNZ.out _ hb3; have g0 : w3.frozen? ⟨wa.heap.size, 0, none⟩ = false := q3.frozen 0; have g1 : w3.frozen? ⟨wa.heap.size, 1, none⟩ = false := q3.frozen 1; have g2 : w3.frozen? ⟨wa.heap.size, 2, none⟩ = false := q3.frozen 2; have g3 : w3.frozen? ⟨wa.heap.size, 3, none⟩ = false := q3.frozen 3; obtain ⟨k0, k1, k2, k3⟩ := HAt.cells (h := (0, 0, 0)) q3; have gl := q3.lt; dsimp only at k0 k1 k2; have HQ3 := Lib.hid q3; clear q3 hb3) | clear hb3)
          all_goals
            go_wp2_with fail
            go_meet
            first
              | exact ⟨_, rfl, rfl, Lib.hid (HB3.out.alloc HB3.out.size _), Lib.hid (Blk.new w3 _ [.int .i64 ha, .int .i64 hb, .int .i64 hc, .bool false])⟩
              | exact ⟨_, rfl, rfl, Lib.hid ((((HB3.out.setCell (p := ⟨wa.heap.size, 0, none⟩) (Nat.le_refl _) _).setCell (p := ⟨wa.heap.size, 1, none⟩) (Nat.le_refl _) _).setCell (p := ⟨wa.heap.size, 2, none⟩) (Nat.le_refl _) _).setCell (p := ⟨wa.heap.size, 3, none⟩) (Nat.le_refl _) _), Lib.hid ((((HQ3.out.set 0 (.int .i64 ha)).set 1 (.int .i64 hb)).set 2 (.int .i64 hc)).set 3 (.bool false))⟩
        case rest =>
          obtain ⟨wd, rfl⟩ : ∃ X, X = wc := ⟨_, rfl⟩
          obtain ⟨p2, rfl, rfl, HBd, HH2⟩ := hcut
          have HB5 := Lib.hid (HB4.out.trans (HBd.out.mono HB4.out.size))
          have HH3 := Lib.hid (HH1.out.more HBd.out)
          clear c0 c1 c2 cl x1 xl HBd HB4 HH1 CF CD
          have q0 := HN2.out.more HB5.out
          have c0 := q0.cell (j := 0) rfl
          have c1 := q0.cell (j := 1) rfl
          have c2 := q0.cell (j := 2) rfl
          have cl := q0.lt
          have xb : Below w.heap.size w wd := HB2.out.trans (HB5.out.mono HB2.out.size)
          have x1 := ((xb.mono HB0.out).cell (p := xa.add i) HC.out.1).trans HC.out.2
          have xl : (xa.add i).block < wd.heap.size := by have := HC.out.1; have := HB0.out; have := xb.size; omega
          clear q0 xb
          obtain ⟨r0, r1, r2, r3⟩ := HAt.cells (h := (ha, hb, hc)) HH3.out
          obtain ⟨s0, s1, s2, s3⟩ := HAt.cells (h := (ha, hb, hc)) HH2.out
          dsimp only at r0 r1 r2 s0 s1 s2
          have rl := HH3.out.lt
          have sl := HH2.out.lt
          have CWD : Hid (∀ W, Below wd.heap.size wd W → Calls Try.prog 10 #[.pointer (some ⟨b, 0, none⟩), .int .i64 rt, .int .u32 z] W fun e w' => e = .returned (Stp.v ⟨ro, rr, rg, rf, rrt, rlf⟩) ∧ Below W.heap.size W w') := Lib.hid fun W hW => CW.out W (HB5.out.trans (hW.mono HB5.out.size))
          have CXD : Hid (∀ W, Below wd.heap.size wd W → Calls Try.prog 11 #[.pointer (some ⟨g, 0, none⟩), .int .i64 rt, .int .u32 z] W fun e w' => e = .returned (Stp.v ⟨ro, rr, rg, rf, rrt, rlf⟩) ∧ Below W.heap.size W w') := Lib.hid fun W hW => CX.out W (HB5.out.trans (hW.mono HB5.out.size))
          clear CW CX HH2 HH3 HC
          go_upto_region 9 with fail
          apply wp_region_auto [62, 63, 64, 65, 66, 67, 68, 69, 70, 71, 72, 73, 74, 75, 76, 77, 78, 79, 80, 81, 82, 83, 84, 85, 86, 87] [_, _, _, _, _, _, _, _, _, _, _, _, _, _, _, _, _, _, _, _, _, _, _, _, _, _] (fun W' => Below wd.heap.size wd W')
          case hm => kernel_rfl
          case hT => intro y; simp only [setAll, List.setIfInBounds_toArray, List.set_cons_succ, List.set_cons_zero]; exact rfl
          case hok => kernel_rfl
          case hn => decide
          case hw => exact (Below.refl _ _).drew
          case hs =>
            refine auto_op 62 [] (by kernel_rfl) (fun y w' HW hd K hK => ?_) ?_
            · go_simp
              refine hK _ _ ?_ ?_ HW
              · simp [upd]
              · exact rfl
            refine auto_op 63 [] (by kernel_rfl) (fun y w' HW hd K hK => ?_) ?_
            · go_simp
              refine hK _ _ ?_ ?_ HW
              · simp [upd]
              · exact rfl
            refine auto_op 64 [1] (by kernel_rfl) (fun y w' HW hd K hK => ?_) ?_
            · have e1 := hd_nth (hd 1 (by simp)) rfl
              have hcl : ∀ p : Addr, p.block < wd.heap.size → w'.cell? p = wd.cell? p := fun p hp => HW.cell hp
              go_simp
              refine hK _ _ ?_ ?_ HW
              · simp [upd, e1]
              · exact rfl
            refine auto_op 65 [] (by kernel_rfl) (fun y w' HW hd K hK => ?_) ?_
            · go_simp
              refine hK _ _ ?_ ?_ HW
              · simp [upd]
              · exact rfl
            refine auto_op 66 [] (by kernel_rfl) (fun y w' HW hd K hK => ?_) ?_
            · go_simp
              refine hK _ _ ?_ ?_ HW
              · simp [upd]
              · exact rfl
            refine auto_op 67 [3, 4] (by kernel_rfl) (fun y w' HW hd K hK => ?_) ?_
            · have e3 := hd_nth (hd 3 (by simp)) rfl
              have e4 := hd_nth (hd 4 (by simp)) rfl
              go_simp
              refine hK _ _ ?_ ?_ HW
              · simp [upd, e3, e4]
              · exact rfl
            refine auto_op 68 [5] (by kernel_rfl) (fun y w' HW hd K hK => ?_) ?_
            · have e5 := hd_nth (hd 5 (by simp)) rfl
              have hcl : ∀ p : Addr, p.block < wd.heap.size → w'.cell? p = wd.cell? p := fun p hp => HW.cell hp
              go_simp
              refine hK _ _ ?_ ?_ HW
              · simp [upd, e5]
              · exact rfl
            refine auto_op 69 [0, 2, 6] (by kernel_rfl) (fun y w' HW hd K hK => ?_) ?_
            · have e0 := hd_nth (hd 0 (by simp)) rfl
              have e2 := hd_nth (hd 2 (by simp)) rfl
              have e6 := hd_nth (hd 6 (by simp)) rfl
              go_simp
              refine (CWD.out _ HW).mono ?_
              rintro e w6 ⟨rfl, hb6⟩
              refine hK _ _ ?_ ?_ (HW.trans (hb6.mono HW.size))
              · simp [upd, e0, e2, e6]
              · exact rfl
            refine auto_op 70 [] (by kernel_rfl) (fun y w' HW hd K hK => ?_) ?_
            · go_simp
              refine hK _ _ ?_ ?_ HW
              · simp [upd]
              · exact rfl
            refine auto_op 71 [] (by kernel_rfl) (fun y w' HW hd K hK => ?_) ?_
            · go_simp
              refine hK _ _ ?_ ?_ HW
              · simp [upd]
              · exact rfl
            refine auto_op 72 [9] (by kernel_rfl) (fun y w' HW hd K hK => ?_) ?_
            · have e9 := hd_nth (hd 9 (by simp)) rfl
              have hcl : ∀ p : Addr, p.block < wd.heap.size → w'.cell? p = wd.cell? p := fun p hp => HW.cell hp
              go_simp
              refine hK _ _ ?_ ?_ HW
              · simp [upd, e9]
              · exact rfl
            refine auto_op 73 [] (by kernel_rfl) (fun y w' HW hd K hK => ?_) ?_
            · go_simp
              refine hK _ _ ?_ ?_ HW
              · simp [upd]
              · exact rfl
            refine auto_op 74 [] (by kernel_rfl) (fun y w' HW hd K hK => ?_) ?_
            · go_simp
              refine hK _ _ ?_ ?_ HW
              · simp [upd]
              · exact rfl
            refine auto_op 75 [11, 12] (by kernel_rfl) (fun y w' HW hd K hK => ?_) ?_
            · have e11 := hd_nth (hd 11 (by simp)) rfl
              have e12 := hd_nth (hd 12 (by simp)) rfl
              go_simp
              refine hK _ _ ?_ ?_ HW
              · simp [upd, e11, e12]
              · exact rfl
            refine auto_op 76 [13] (by kernel_rfl) (fun y w' HW hd K hK => ?_) ?_
            · have e13 := hd_nth (hd 13 (by simp)) rfl
              have hcl : ∀ p : Addr, p.block < wd.heap.size → w'.cell? p = wd.cell? p := fun p hp => HW.cell hp
              go_simp
              refine hK _ _ ?_ ?_ HW
              · simp [upd, e13]
              · exact rfl
            refine auto_op 77 [8, 10, 14, 7] (by kernel_rfl) (fun y w' HW hd K hK => ?_) ?_
            · have e7 := hd_nth (hd 7 (by simp)) rfl
              have e8 := hd_nth (hd 8 (by simp)) rfl
              have e10 := hd_nth (hd 10 (by simp)) rfl
              have e14 := hd_nth (hd 14 (by simp)) rfl
              go_simp
              refine (CXD.out _ HW).mono ?_
              rintro e w6 ⟨rfl, hb6⟩
              refine hK _ _ ?_ ?_ (HW.trans (hb6.mono HW.size))
              · simp [upd, e7, e8, e10, e14]
              · exact rfl
            refine auto_op 78 [7, 15] (by kernel_rfl) (fun y w' HW hd K hK => ?_) ?_
            · have e7 := hd_nth (hd 7 (by simp)) rfl
              have e15 := hd_nth (hd 15 (by simp)) rfl
              go_simp
              refine hK _ _ ?_ ?_ HW
              · simp [upd, e7, e15]
              · exact rfl
            refine auto_op 79 [16, 15] (by kernel_rfl) (fun y w' HW hd K hK => ?_) ?_
            · have e15 := hd_nth (hd 15 (by simp)) rfl
              have e16 := hd_nth (hd 16 (by simp)) rfl
              go_simp
              refine hK _ _ ?_ ?_ HW
              · simp [upd, e15, e16]
              · exact rfl
            refine auto_op 80 [17] (by kernel_rfl) (fun y w' HW hd K hK => ?_) ?_
            · have e17 := hd_nth (hd 17 (by simp)) rfl
              have hcl : ∀ p : Addr, p.block < wd.heap.size → w'.cell? p = wd.cell? p := fun p hp => HW.cell hp
              go_simp
              refine hK _ _ ?_ ?_ HW
              · simp [upd, e17]
              · exact rfl
            refine auto_op 81 [17] (by kernel_rfl) (fun y w' HW hd K hK => ?_) ?_
            · have e17 := hd_nth (hd 17 (by simp)) rfl
              have hcl : ∀ p : Addr, p.block < wd.heap.size → w'.cell? p = wd.cell? p := fun p hp => HW.cell hp
              go_simp
              refine hK _ _ ?_ ?_ HW
              · simp [upd, e17]
              · exact rfl
            refine auto_op 82 [18, 19, 17] (by kernel_rfl) (fun y w' HW hd K hK => ?_) ?_
            · have e17 := hd_nth (hd 17 (by simp)) rfl
              have e18 := hd_nth (hd 18 (by simp)) rfl
              have e19 := hd_nth (hd 19 (by simp)) rfl
              go_simp
              refine hK _ _ ?_ ?_ HW
              · simp [upd, e17, e18, e19]
              · exact rfl
            refine auto_op 83 [17, 20] (by kernel_rfl) (fun y w' HW hd K hK => ?_) ?_
            · have e17 := hd_nth (hd 17 (by simp)) rfl
              have e20 := hd_nth (hd 20 (by simp)) rfl
              go_simp
              refine hK _ _ ?_ ?_ HW
              · simp [upd, e17, e20]
              · exact rfl
            refine auto_op 84 [21, 17] (by kernel_rfl) (fun y w' HW hd K hK => ?_) ?_
            · have e17 := hd_nth (hd 17 (by simp)) rfl
              have e21 := hd_nth (hd 21 (by simp)) rfl
              go_simp
              refine hK _ _ ?_ ?_ HW
              · simp [upd, e17, e21]
              · exact rfl
            refine auto_op 85 [22] (by kernel_rfl) (fun y w' HW hd K hK => ?_) ?_
            · have e22 := hd_nth (hd 22 (by simp)) rfl
              go_simp
              refine hK _ _ ?_ ?_ HW
              · simp [upd, e22]
              · exact rfl
            refine auto_op 86 [22] (by kernel_rfl) (fun y w' HW hd K hK => ?_) ?_
            · have e22 := hd_nth (hd 22 (by simp)) rfl
              go_simp
              refine hK _ _ ?_ ?_ HW
              · simp [upd, e22]
              · exact rfl
            refine auto_op 87 [23, 24, 22] (by kernel_rfl) (fun y w' HW hd K hK => ?_) ?_
            · have e22 := hd_nth (hd 22 (by simp)) rfl
              have e23 := hd_nth (hd 23 (by simp)) rfl
              have e24 := hd_nth (hd 24 (by simp)) rfl
              go_simp
              refine hK _ _ ?_ ?_ HW
              · simp [upd, e22, e23, e24]
              · exact rfl
            refine auto_last fun y w' HW hd K hK => ?_
            have e0 := hd_nth (hd 0 (by omega)) rfl
            have e1 := hd_nth (hd 1 (by omega)) rfl
            have e2 := hd_nth (hd 2 (by omega)) rfl
            have e3 := hd_nth (hd 3 (by omega)) rfl
            have e4 := hd_nth (hd 4 (by omega)) rfl
            have e5 := hd_nth (hd 5 (by omega)) rfl
            have e6 := hd_nth (hd 6 (by omega)) rfl
            have e7 := hd_nth (hd 7 (by omega)) rfl
            have e8 := hd_nth (hd 8 (by omega)) rfl
            have e9 := hd_nth (hd 9 (by omega)) rfl
            have e10 := hd_nth (hd 10 (by omega)) rfl
            have e11 := hd_nth (hd 11 (by omega)) rfl
            have e12 := hd_nth (hd 12 (by omega)) rfl
            have e13 := hd_nth (hd 13 (by omega)) rfl
            have e14 := hd_nth (hd 14 (by omega)) rfl
            have e15 := hd_nth (hd 15 (by omega)) rfl
            have e16 := hd_nth (hd 16 (by omega)) rfl
            have e17 := hd_nth (hd 17 (by omega)) rfl
            have e18 := hd_nth (hd 18 (by omega)) rfl
            have e19 := hd_nth (hd 19 (by omega)) rfl
            have e20 := hd_nth (hd 20 (by omega)) rfl
            have e21 := hd_nth (hd 21 (by omega)) rfl
            have e22 := hd_nth (hd 22 (by omega)) rfl
            have e23 := hd_nth (hd 23 (by omega)) rfl
            have e24 := hd_nth (hd 24 (by omega)) rfl
            have e25 := hd_nth (hd 25 (by omega)) rfl
            go_simp
            refine hK _ _ ?_
            clear hd hK K e0 e1 e2 e3 e4 e5 e6 e7 e8 e9 e10 e11 e12 e13 e14 e15 e16 e17 e18 e19 e20 e21 e22 e23 e24 e25
            have HB6 := Lib.hid (HB5.out.trans (HW.mono HB5.out.size))
            clear HW
            go_wp2
            go_roundw
            case rel => exact ⟨i + 1, H3.out.1, H3.out.2, by go_num, HB6⟩
            case measure => have := H3.out; simp [intOf]; omega
    · have hout : (¬ (i : Int) < (lv : Int)) ∨ ((i : Int) < (lv : Int) ∧ ¬ (i : Int) < 60) := by omega
      have HBV : Hid (Below w.heap.size w wr) := Lib.hid (HB2.out.trans (HB.out.mono HB2.out.size))
      clear hin hi1 hi2 HB
      rcases hout with f1 | ⟨f1, f2⟩
      all_goals
        go_wp2_with fail
        refine (awake17_any _).mono ?_
        rintro e w3 ⟨rfl, hb⟩
        have HB3 := Lib.hid (HBV.out.trans (hb.mono HBV.out.size))
        clear hb
        go_wp2
        go_ret
        exact ⟨rfl, HB3.out⟩
end Go.Proofs.Ytoafonbplbblpaa.Wa
end
