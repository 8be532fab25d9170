/- Several texts in one: Iu -/
import Derived.Test.YteaincdeoajkeaaGreatDoorZ29
import Derived.Deep.CutRange
section
/- hermitagelaw20: the walk of MmuHolds, over what the program is to keep. -/
namespace Go.Proofs.YteaincdeoajkeaaGreatDoor.Mm
open Go.RowKit Go.Shelf Ut Oc Vw Wa
set_option maxRecDepth 100000
set_option linter.unusedVariables false
set_option maxHeartbeats 8000000

theorem holds20_any {PM : PMt} (C : MmuC PM) (room : Nat) (hroom : room < 256) (al aa : Option Addr) (ll cl la ca : Nat) (Zp : Nat → Int × Int) (Z : Nat → Am) (w : World) (hll : ll ≤ 9223372036854775807) (hla : la ≤ 9223372036854775807) (hl : PutRow w w.heap.size al ll Zp) (ha : AmRow w w.heap.size aa la Z) (hG : PM.G w) (hnb : PM.nb ≤ w.heap.size) :
  Calls Tryz.prog 4 #[.int .u8 room, .slice al ll cl, .slice aa la ca] w fun e w' => e = .returned (.bool true) ∧ Below w.heap.size w w' := by
 have HMK := Lib.hid (fun r h0 h1 => made20_any C r h0 h1 al ll cl w.heap.size Zp w hll hl (Nat.le_refl _) hG hnb)
 have HGW : Hid (∀ W, Below w.heap.size w W → PM.G W ∧ PM.nb ≤ W.heap.size) := Lib.hid fun W hb => ⟨C.gb hG (hb.mono hnb), Nat.le_trans hnb hb.size⟩
 have HC := Lib.hid C
 have HAR := Lib.hid ha
 have r0 : (0 : Int) ≤ (room : Int) := by omega
 have r1 : (room : Int) < 256 := by omega
 clear C hl ha hroom hG hnb
 go_enter Tryz.func4, Tryz.ntmps4
 go_wp2_with fail
 refine (HMK.out _ (by omega) (by omega)).mono ?_
 rintro e w1 ⟨u, b, g, rfl, hmd⟩
 have hmz : ∃ J : BK, J.u = u ∧ J.b = b ∧ J.g = g ∧ ∃ S L, MZ PM w1 [] w w1 J S L S L := by
  obtain ⟨J, T, tb, e1, e2, e3, h⟩ := hmd.out
  exact ⟨J, e1, e2, e3, _, _, T, [], tb, h⟩
 obtain ⟨J, rfl, rfl, rfl, S0, L0, hz⟩ := hmz
 have HZ0 := Lib.hid hz
 clear hmd hz HMK
 go_wp2
 go_loopw [10] (fun j wr => ∃ (k : Nat) (S : List Int) (L : List Gm.Pl), k ≤ cntB la 40 ∧ j = .int .i64 k ∧ Hid (MZ PM w1 [] w wr J S L S L)) (fun j _ => cntB la 40 - (intOf j).toNat)
 case atStart => exact ⟨0, S0, L0, Nat.zero_le _, rfl, HZ0⟩
 case round =>
  clear HZ0
  obtain ⟨k, S, L, hk, rfl, HZ⟩ := hrel
  by_cases hin : k < la ∧ k < 40
  ·have f1 : (k : Int) < (la : Int) := by omega
   have f2 : (k : Int) < 40 := by omega
   have f0 : (0 : Int) ≤ (k : Int) := by omega
   have H1 := Lib.hid (cntB_in hin.1 hin.2)
   obtain ⟨y, rfl, hyb, hx, c0, c1, c2, c3, c4, c5, c6, c7⟩ := HAR.out.at_ HZ.out.b (Nat.le_refl _) hin.1
   generalize Z k = a at hx c0 c1 c2 c3 c4 c5 c6 c7
   obtain ⟨U, hU⟩ : ∃ U, U = wr.alloc (.cells #[.int .i64 a.kd, .bool a.on, .int .i64 a.rt, .bool a.us, .int .u32 a.va, .int .i64 a.wd, .int .i64 a.kn, .int .u32 a.x] 33) := ⟨_, rfl⟩
   have hB : Below wr.heap.size wr U := by rw [hU]; exact (Below.refl _ _).alloc (Nat.le_refl _) _
   have hA : Blk U wr.heap.size 33 [.int .i64 a.kd, .bool a.on, .int .i64 a.rt, .bool a.us, .int .u32 a.va, .int .i64 a.wd, .int .i64 a.kn, .int .u32 a.x] := by rw [hU]; exact Blk.new wr _ _
   have hE := HZ.out.enter HC.out hB [wr.heap.size] (fun y hy => by simp at hy; subst hy; exact ⟨Nat.le_refl _, hA.lt⟩)
   have HV : Hid (∀ (w' : World) (S1 : List Int) (L1 : List Gm.Pl), MZ PM U ([wr.heap.size] ++ []) w w' J S1 L1 S1 L1 → MZ PM w1 [] w w' J S1 L1 S1 L1) := Lib.hid fun w' S1 L1 h' => HZ.out.leave hB h'
   have HDO := Lib.hid (do20_any HC.out a hx U hE)
   have HA := Lib.hid hA
   have HU := Lib.hid hU
   have HW := Lib.hid hx
   clear hU hB hA hE hx hin hk HZ
   obtain ⟨kd, on, rt, us, va, wd, kn, x⟩ := a
   dsimp only at HU HA HDO c0 c1 c2 c3 c4 c5 c6 c7
   have z0 : 0 ≤ va := HW.out.l4
   have z1 : va < 4294967296 := HW.out.u4
   generalize actS20 S L ⟨kd, on, rt, us, va, wd, kn, x⟩ = S2 at HDO
   generalize actL20 L ⟨kd, on, rt, us, va, wd, kn, x⟩ = L2 at HDO
   obtain ⟨lc, hlc⟩ : ∃ lc, locF 12 S2 L2 on rt us va kn = lc := ⟨_, rfl⟩
   have HFP : Hid (∀ W, MZ PM U ([wr.heap.size] ++ []) w W J S2 L2 S2 L2 → Calls Tryz.prog 9 #[.pointer (some ⟨J.u, 0, none⟩), .agg #[.bool on, .int .i64 rt, .bool us], .int .u32 va, .int .i64 kn] W fun e w' => (∃ fast, e = .returned (.tuple #[hitX lc.1 fast, .int .i64 lc.2]) ∧ (fast = true → on = true ∧ lc.2 = 0)) ∧ Hid (MZ PM U ([wr.heap.size] ++ []) w w' J S2 L2 S2 L2)) := Lib.hid fun W hW => by
    have := mzFind HC.out hW on us rt va kn z0 z1
    rw [hlc] at this
    exact this
   clear hlc
   obtain ⟨⟨ha, hb, hd⟩, c⟩ := lc
   dsimp only [hitX] at HFP
   go_upto_region 8 with fail
   rw [← HU.out]
   clear HU c0 c1 c2 c3 c4 c5 c6 c7 hyb
   generalize wr.heap.size = ab at HA HV HDO HFP ⊢
   have a0 := HA.out.cell (j := 0) rfl
   have a1 := HA.out.cell (j := 1) rfl
   have a2 := HA.out.cell (j := 2) rfl
   have a3 := HA.out.cell (j := 3) rfl
   have a4 := HA.out.cell (j := 4) rfl
   have a5 := HA.out.cell (j := 5) rfl
   have a6 := HA.out.cell (j := 6) rfl
   have a7 := HA.out.cell (j := 7) rfl
   have al := HA.out.lt
   go_wp2_with fail
   refine HDO.out.mono ?_
   rintro e w2 ⟨rfl, HZ2⟩
   clear a0 a1 a2 a3 a4 a5 a6 a7 al HDO
   have q0 := HZ2.out.blk (x := ab) (by simp) HA.out
   have a1 := q0.cell (j := 1) rfl
   have a2 := q0.cell (j := 2) rfl
   have a3 := q0.cell (j := 3) rfl
   have a4 := q0.cell (j := 4) rfl
   have a6 := q0.cell (j := 6) rfl
   have al := q0.lt
   clear q0
   go_wp2_with fail
   refine (HFP.out w2 HZ2.out).mono ?_
   rintro e w3 ⟨⟨fast, rfl, hfast⟩, HZ3⟩
   have HZ4 := Lib.hid (HV.out _ _ _ HZ3.out)
   clear hfast HFP HZ2 HZ3 HV HA a1 a2 a3 a4 a6 al
   go_wp2_with fail
   refine (mzKept HC.out HZ4.out).mono ?_
   rintro e w4 ⟨v, rfl, hkept⟩
   obtain ⟨κ, tb0, sa, sc, Y, rfl, hrow, hlen, hheld, hin4, hzb⟩ := hkept.out
   obtain ⟨n, hn⟩ : ∃ n, κ.length = n := ⟨_, rfl⟩
   rw [hn] at hlen hin4
   have HZB := Lib.hid hzb
   have HROW := Lib.hid hrow
   have HHELD := Lib.hid hheld
   have HIN4 := Lib.hid hin4
   have HLN := Lib.hid hn
   have n0 : (0 : Int) ≤ (n : Int) ∧ (n : Int) ≤ 1000 := by omega
   rw [hn]
   clear hkept hrow hlen hheld hin4 hzb hn HZ4 z0 z1
   go_wp2
   go_loopw [13] (fun jj wi => ∃ (i : Nat) (tb' : Int → Bool), i ≤ n ∧ jj = .int .i64 i ∧ Hid (∀ p, tb' p = true → tb0 p = true) ∧ Hid (MZB PM w4 Y w wi J tb' S2 L2 S2 L2)) (fun jj _ => n - (intOf jj).toNat)
   case atStart => exact ⟨0, tb0, Nat.zero_le _, rfl, Lib.hid (fun p h => h), HZB⟩
   case round =>
    clear HZB
    obtain ⟨i, tb', hi, rfl, HLE, HZI⟩ := hrel
    by_cases hin : i < n
    ·have f3 : (i : Int) < (n : Int) := by omega
     have f4 : (0 : Int) ≤ (i : Int) := by omega
     have H3 := Lib.hid hin
     have hrow := HZI.out.irow HROW.out (fun y e h0 => HIN4.out y e (by have := HLN.out; omega))
     have hx : κ[i]? = some (κ[i]'(by rw [HLN.out]; exact hin)) := List.getElem?_eq_getElem _
     obtain ⟨x, hxx⟩ : ∃ x, κ[i]'(by rw [HLN.out]; exact hin) = x := ⟨_, rfl⟩
     rw [hxx] at hx
     obtain ⟨kr, kp, ep, ef, er, rfl, hth, hef, hw, hr, hx4⟩ := HHELD.out x (List.mem_of_getElem? hx)
     obtain ⟨y, rfl, hyb, hyb2, d0, d1⟩ := hrow.at_ hx
     have c2 := d1 2 _ (by decide) rfl
     have c3 := d1 3 _ (by decide) rfl
     have c4 := d1 4 _ (by decide) rfl
     obtain ⟨pf, pr, hpl⟩ : ∃ pf pr, Gm.atP L2 ep = (pf, pr) := ⟨_, _, rfl⟩
     rw [hpl] at hth hef hw hr
     dsimp only at hef hw hr
     subst hef
     obtain ⟨V5, hV5⟩ : ∃ V5, V5 = wr.alloc (.cells #[.int .i64 ep, .int .i64 pf, .int .i64 er] 50) := ⟨_, rfl⟩
     have hb5 : Below wr.heap.size wr V5 := by rw [hV5]; exact (Below.refl _ _).alloc (Nat.le_refl _) _
     have HN5 : Hid (Blk V5 wr.heap.size 50 [.int .i64 ep, .int .i64 pf, .int .i64 er]) := Lib.hid (by rw [hV5]; exact Blk.new wr _ _)
     have HBV5 := Lib.hid hb5
     have HZ5 := Lib.hid (HZI.out.more HC.out hb5)
     have CM : Hid (∀ W, Below V5.heap.size V5 W → Calls Tryz.prog 15 #[.pointer (some ⟨J.b, 0, none⟩)] W fun e w' => e = .returned (.pointer (some ⟨J.m, 0, none⟩)) ∧ W = w') := Lib.hid fun W hW => mzMap HC.out (HZ5.out.more HC.out hW).mz
     have CG : Hid (∀ W, Below V5.heap.size V5 W → Calls Tryz.prog 16 #[.pointer (some ⟨J.m, 0, none⟩), .int .i64 ep] W fun e w' => e = .returned (.tuple #[.agg #[.int .i64 pf, .int .i64 pr], .bool true]) ∧ Below W.heap.size W w') := Lib.hid fun W hW => mzGet HC.out (HZ5.out.more HC.out hW).mz ep _ true hpl hth
     have HHP : Hid ((¬ bits .and .i64 er 2 = 0 → ¬ bits .and .i64 pr 2 = 0 ∧ tb0 ep = false) ∧ (¬ bits .and .i64 er 1 = 0 → ¬ bits .and .i64 pr 1 = 0) ∧ (¬ bits .and .i64 er 4 = 0 → ep < 8)) := Lib.hid ⟨fun h => by
       obtain ⟨h1, h2⟩ := hw (by simpa using h)
       exact ⟨by simpa using h1, h2⟩, fun h => by simpa using hr (by simpa using h), fun h => hx4 (by simpa using h)⟩
     have HZE : Hid (∀ wa, Below V5.heap.size V5 wa → ∀ pb, V5.heap.size ≤ pb → pb < wa.heap.size → MZB PM wa ([wr.heap.size, pb] ++ Y) w wa J tb' S2 L2 S2 L2) := Lib.hid fun wa h1 pb h2 h3 => by
      have h4 := hb5.size
      have h5 := h1.size
      have h6 := HN5.out.lt
      exact HZI.out.enter HC.out (hb5.trans (h1.mono hb5.size)) [wr.heap.size, pb] (fun y hy => by
       simp only [List.mem_cons, List.not_mem_nil, or_false] at hy
       omega)
     have HZL : Hid (∀ wa, Below V5.heap.size V5 wa → ∀ pb w' tb2, MZB PM wa ([wr.heap.size, pb] ++ Y) w w' J tb2 S2 L2 S2 L2 → MZB PM w4 Y w w' J tb2 S2 L2 S2 L2) := Lib.hid fun wa h1 pb w' tb2 h' => HZI.out.leave (hb5.trans (h1.mono hb5.size)) h'
     have HV5 := Lib.hid hV5
     clear hV5 hb5 hrow hx hxx hth hw hr hx4 d0 d1 hpl hin hi
     go_upto_region 15 with fail
     rw [← HV5.out]
     clear HV5 c2 c3 c4 hyb hyb2
     generalize wr.heap.size = eb at HN5 HBV5 HZE HZL ⊢
     have r0 := HN5.out.cell (j := 0) rfl
     have r1 := HN5.out.cell (j := 1) rfl
     have r2 := HN5.out.cell (j := 2) rfl
     have rl := HN5.out.lt
     go_cut [15, 16] from 72 to 79 (fun vp vt wx => ∃ p : Nat, vp = .pointer (some ⟨p, 0, none⟩) ∧ vt = .bool true ∧ Hid (Below V5.heap.size V5 wx) ∧ Hid (Blk wx p 54 [.int .i64 pf, .int .i64 pr]) ∧ Hid (V5.heap.size ≤ p))
     case first =>
      have hd : Below V5.heap.size V5 V5.drew := (Below.refl _ _).drew
      have HNZ : Hid (∀ V, Below (V5.drew.alloc (.cells #[.int .i64 0, .int .i64 0] 54)).heap.size (V5.drew.alloc (.cells #[.int .i64 0, .int .i64 0] 54)) V → Blk V V5.heap.size 54 [.int .i64 0, .int .i64 0]) := Lib.hid fun V h => (Blk.new V5.drew _ [.int .i64 0, .int .i64 0]).more h
      go_region_with (first | (go_at_call 15; refine (CM.out _ (by first | exact hd | exact hd.alloc hd.size _)).mono ?_; rintro e w3 ⟨rfl, rfl⟩) | (go_at_call 16; refine (CG.out _ (by first | exact hd | exact hd.alloc hd.size _)).mono ?_; rintro e w3 ⟨rfl, hb3⟩; have HB3 : Hid (Below V5.heap.size V5 w3) := Lib.hid (by first | exact hd.trans (hb3.mono hd.size) | exact (hd.alloc hd.size _).trans (hb3.mono (hd.alloc hd.size _).size)); first | (have q3 := HNZ.out _ hb3; have g0 : w3.frozen? ⟨V5.heap.size, 0, none⟩ = false := q3.frozen 0; have g1 : w3.frozen? ⟨V5.heap.size, 1, none⟩ = false := q3.frozen 1; have k0 : w3.cell? ⟨V5.heap.size, 0, none⟩ = some (.int .i64 0) := q3.cell rfl; have k1 : w3.cell? ⟨V5.heap.size, 1, none⟩ = some (.int .i64 0) := q3.cell rfl; have gl := q3.lt; have HQ3 := Lib.hid q3; clear q3 hb3) | clear hb3))
      all_goals
       go_wp2_with fail
       go_meet
       first
        | exact ⟨_, rfl, rfl, Lib.hid (HB3.out.alloc HB3.out.size _), Lib.hid (Blk.new w3 _ [.int .i64 pf, .int .i64 pr]), Lib.hid HB3.out.size⟩
        | exact ⟨_, rfl, rfl, Lib.hid ((HB3.out.setCell (p := ⟨V5.heap.size, 0, none⟩) (Nat.le_refl _) _).setCell (p := ⟨V5.heap.size, 1, none⟩) (Nat.le_refl _) _), Lib.hid ((HQ3.out.set 0 (.int .i64 pf)).set 1 (.int .i64 pr)), Lib.hid (Nat.le_refl _)⟩
     case rest =>
      obtain ⟨wa, rfl⟩ : ∃ X, X = wc := ⟨_, rfl⟩
      obtain ⟨pb, rfl, rfl, HBa, HNa, HPa⟩ := hcut
      have hne := HN5.out.more HBa.out
      have hel := HN5.out.lt
      have hpl := HNa.out.lt
      have hbb := HBa.out.size
      have hge := HPa.out
      have hvv := HBV5.out.size
      have HZX := Lib.hid (HZE.out wa HBa.out pb hge hpl)
      have HLV := Lib.hid (fun w' tb2 h' => HZL.out wa HBa.out pb w' tb2 h')
      have HNE := Lib.hid hne
      have HNA := Lib.hid HNa.out
      clear hne hel hpl hbb hge hvv HBa HNa HPa HN5 HBV5 HZ5 CM CG HZE HZL r0 r1 r2 rl
      have r0 := HNE.out.cell (j := 0) rfl
      have r1 := HNE.out.cell (j := 1) rfl
      have r2 := HNE.out.cell (j := 2) rfl
      have rl := HNE.out.lt
      have s0 := HNA.out.cell (j := 0) rfl
      have s1 := HNA.out.cell (j := 1) rfl
      have sl := HNA.out.lt
      by_cases ht2 : bits .and .i64 er 2 = 0 <;> by_cases ht1 : bits .and .i64 er 1 = 0 <;> by_cases ht4 : bits .and .i64 er 4 = 0
      ·have HZ9 := Lib.hid (HLV.out _ _ HZX.out)
       clear HHP
       go_wp2
       go_roundw
       case rel => exact ⟨i + 1, tb', H3.out, by go_num, HLE, HZ9⟩
       case measure => have := H3.out; simp [intOf]; omega
      ·have p4 : ¬ 8 ≤ ep := by have := HHP.out.2.2 ht4; omega
       have b4 : (bits .and .i64 er 4 != 0) = true := by simpa using ht4
       have q4 : ep < 8 := HHP.out.2.2 ht4
       have HZ9 := Lib.hid (HLV.out _ _ HZX.out)
       clear HHP
       go_wp2
       go_roundw
       case rel => exact ⟨i + 1, tb', H3.out, by go_num, HLE, HZ9⟩
       case measure => have := H3.out; simp [intOf]; omega
      ·have p1 := HHP.out.2.1 ht1
       have b1 : (bits .and .i64 er 1 != 0) = true := by simpa using ht1
       have q1 : (bits .and .i64 pr 1 == 0) = false := by simpa using p1
       have HZ9 := Lib.hid (HLV.out _ _ HZX.out)
       clear HHP
       go_wp2
       go_roundw
       case rel => exact ⟨i + 1, tb', H3.out, by go_num, HLE, HZ9⟩
       case measure => have := H3.out; simp [intOf]; omega
      ·have p1 := HHP.out.2.1 ht1
       have b1 : (bits .and .i64 er 1 != 0) = true := by simpa using ht1
       have q1 : (bits .and .i64 pr 1 == 0) = false := by simpa using p1
       have p4 : ¬ 8 ≤ ep := by have := HHP.out.2.2 ht4; omega
       have b4 : (bits .and .i64 er 4 != 0) = true := by simpa using ht4
       have q4 : ep < 8 := HHP.out.2.2 ht4
       have HZ9 := Lib.hid (HLV.out _ _ HZX.out)
       clear HHP
       go_wp2
       go_roundw
       case rel => exact ⟨i + 1, tb', H3.out, by go_num, HLE, HZ9⟩
       case measure => have := H3.out; simp [intOf]; omega
      ·obtain ⟨p2, htb⟩ := HHP.out.1 ht2
       have b2 : (bits .and .i64 er 2 != 0) = true := by simpa using ht2
       have q2 : (bits .and .i64 pr 2 == 0) = false := by simpa using p2
       have HTB2 := Lib.hid htb
       clear htb HHP
       go_wp2_with fail
       refine (mzTable HC.out HZX.out ep).mono ?_
       rintro e w8 ⟨t, rfl, ht, hz8⟩
       obtain rfl : t = false := by
        cases t
        ·rfl
        ·exact absurd (HLE.out _ (ht rfl)) (by rw [HTB2.out]; decide)
       obtain ⟨tb2, hle, hz9⟩ := hz8.out
       have HLE9 : Hid (∀ p, tb2 p = true → tb0 p = true) := Lib.hid fun p hp => HLE.out p (hle p hp)
       have HZ9 := Lib.hid (HLV.out _ _ hz9)
       have hne := hz9.blk (x := eb) (by simp) HNE.out
       have hna := hz9.blk (x := pb) (by simp) HNA.out
       clear hz8 hle ht HZX r0 r1 r2 rl s0 s1 sl
       have r0 := hne.cell (j := 0) rfl
       have r1 := hne.cell (j := 1) rfl
       have r2 := hne.cell (j := 2) rfl
       have rl := hne.lt
       have s0 := hna.cell (j := 0) rfl
       have s1 := hna.cell (j := 1) rfl
       have sl := hna.lt
       clear hne hna hz9 HNE HNA
       go_wp2
       go_roundw
       case rel => exact ⟨i + 1, tb2, H3.out, by go_num, HLE9, HZ9⟩
       case measure => have := H3.out; simp [intOf]; omega
      ·obtain ⟨p2, htb⟩ := HHP.out.1 ht2
       have b2 : (bits .and .i64 er 2 != 0) = true := by simpa using ht2
       have q2 : (bits .and .i64 pr 2 == 0) = false := by simpa using p2
       have p4 : ¬ 8 ≤ ep := by have := HHP.out.2.2 ht4; omega
       have b4 : (bits .and .i64 er 4 != 0) = true := by simpa using ht4
       have q4 : ep < 8 := HHP.out.2.2 ht4
       have HTB2 := Lib.hid htb
       clear htb HHP
       go_wp2_with fail
       refine (mzTable HC.out HZX.out ep).mono ?_
       rintro e w8 ⟨t, rfl, ht, hz8⟩
       obtain rfl : t = false := by
        cases t
        ·rfl
        ·exact absurd (HLE.out _ (ht rfl)) (by rw [HTB2.out]; decide)
       obtain ⟨tb2, hle, hz9⟩ := hz8.out
       have HLE9 : Hid (∀ p, tb2 p = true → tb0 p = true) := Lib.hid fun p hp => HLE.out p (hle p hp)
       have HZ9 := Lib.hid (HLV.out _ _ hz9)
       have hne := hz9.blk (x := eb) (by simp) HNE.out
       have hna := hz9.blk (x := pb) (by simp) HNA.out
       clear hz8 hle ht HZX r0 r1 r2 rl s0 s1 sl
       have r0 := hne.cell (j := 0) rfl
       have r1 := hne.cell (j := 1) rfl
       have r2 := hne.cell (j := 2) rfl
       have rl := hne.lt
       have s0 := hna.cell (j := 0) rfl
       have s1 := hna.cell (j := 1) rfl
       have sl := hna.lt
       clear hne hna hz9 HNE HNA
       go_wp2
       go_roundw
       case rel => exact ⟨i + 1, tb2, H3.out, by go_num, HLE9, HZ9⟩
       case measure => have := H3.out; simp [intOf]; omega
      ·obtain ⟨p2, htb⟩ := HHP.out.1 ht2
       have b2 : (bits .and .i64 er 2 != 0) = true := by simpa using ht2
       have q2 : (bits .and .i64 pr 2 == 0) = false := by simpa using p2
       have p1 := HHP.out.2.1 ht1
       have b1 : (bits .and .i64 er 1 != 0) = true := by simpa using ht1
       have q1 : (bits .and .i64 pr 1 == 0) = false := by simpa using p1
       have HTB2 := Lib.hid htb
       clear htb HHP
       go_wp2_with fail
       refine (mzTable HC.out HZX.out ep).mono ?_
       rintro e w8 ⟨t, rfl, ht, hz8⟩
       obtain rfl : t = false := by
        cases t
        ·rfl
        ·exact absurd (HLE.out _ (ht rfl)) (by rw [HTB2.out]; decide)
       obtain ⟨tb2, hle, hz9⟩ := hz8.out
       have HLE9 : Hid (∀ p, tb2 p = true → tb0 p = true) := Lib.hid fun p hp => HLE.out p (hle p hp)
       have HZ9 := Lib.hid (HLV.out _ _ hz9)
       have hne := hz9.blk (x := eb) (by simp) HNE.out
       have hna := hz9.blk (x := pb) (by simp) HNA.out
       clear hz8 hle ht HZX r0 r1 r2 rl s0 s1 sl
       have r0 := hne.cell (j := 0) rfl
       have r1 := hne.cell (j := 1) rfl
       have r2 := hne.cell (j := 2) rfl
       have rl := hne.lt
       have s0 := hna.cell (j := 0) rfl
       have s1 := hna.cell (j := 1) rfl
       have sl := hna.lt
       clear hne hna hz9 HNE HNA
       go_wp2
       go_roundw
       case rel => exact ⟨i + 1, tb2, H3.out, by go_num, HLE9, HZ9⟩
       case measure => have := H3.out; simp [intOf]; omega
      ·obtain ⟨p2, htb⟩ := HHP.out.1 ht2
       have b2 : (bits .and .i64 er 2 != 0) = true := by simpa using ht2
       have q2 : (bits .and .i64 pr 2 == 0) = false := by simpa using p2
       have p1 := HHP.out.2.1 ht1
       have b1 : (bits .and .i64 er 1 != 0) = true := by simpa using ht1
       have q1 : (bits .and .i64 pr 1 == 0) = false := by simpa using p1
       have p4 : ¬ 8 ≤ ep := by have := HHP.out.2.2 ht4; omega
       have b4 : (bits .and .i64 er 4 != 0) = true := by simpa using ht4
       have q4 : ep < 8 := HHP.out.2.2 ht4
       have HTB2 := Lib.hid htb
       clear htb HHP
       go_wp2_with fail
       refine (mzTable HC.out HZX.out ep).mono ?_
       rintro e w8 ⟨t, rfl, ht, hz8⟩
       obtain rfl : t = false := by
        cases t
        ·rfl
        ·exact absurd (HLE.out _ (ht rfl)) (by rw [HTB2.out]; decide)
       obtain ⟨tb2, hle, hz9⟩ := hz8.out
       have HLE9 : Hid (∀ p, tb2 p = true → tb0 p = true) := Lib.hid fun p hp => HLE.out p (hle p hp)
       have HZ9 := Lib.hid (HLV.out _ _ hz9)
       have hne := hz9.blk (x := eb) (by simp) HNE.out
       have hna := hz9.blk (x := pb) (by simp) HNA.out
       clear hz8 hle ht HZX r0 r1 r2 rl s0 s1 sl
       have r0 := hne.cell (j := 0) rfl
       have r1 := hne.cell (j := 1) rfl
       have r2 := hne.cell (j := 2) rfl
       have rl := hne.lt
       have s0 := hna.cell (j := 0) rfl
       have s1 := hna.cell (j := 1) rfl
       have sl := hna.lt
       clear hne hna hz9 HNE HNA
       go_wp2
       go_roundw
       case rel => exact ⟨i + 1, tb2, H3.out, by go_num, HLE9, HZ9⟩
       case measure => have := H3.out; simp [intOf]; omega
    ·obtain rfl : i = n := by omega
     have f3 : ¬ (i : Int) < (i : Int) := by omega
     have HZ9 : Hid (MZ PM w1 [] w wr J S2 L2 S2 L2) := Lib.hid HZI.out.none
     clear hin hi HZI HLE HROW HHELD HIN4 HLN
     go_wp2
     go_roundw
     case rel => exact ⟨k + 1, S2, L2, H1.out, by go_num, HZ9⟩
     case measure => have := H1.out; simp [intOf]; omega
  ·have hout : (¬ (k : Int) < (la : Int)) ∨ ((k : Int) < (la : Int) ∧ ¬ (k : Int) < 40) := by omega
   clear hin hk
   rcases hout with f1 | ⟨f1, f2⟩
   all_goals
    go_wp2_with fail
    refine (awake20_any HC.out _ (HGW.out _ HZ.out.b).1 (HGW.out _ HZ.out.b).2).mono ?_
    rintro e w6 ⟨rfl, hb6⟩
    have HB6 := Lib.hid (HZ.out.b.trans (hb6.mono HZ.out.b.size))
    clear hb6 HZ
    go_wp2
    go_ret
    exact ⟨rfl, HB6.out⟩
end Go.Proofs.YteaincdeoajkeaaGreatDoor.Mm
end
