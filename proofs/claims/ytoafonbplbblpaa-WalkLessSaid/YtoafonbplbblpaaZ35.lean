/- Several texts in one: Zk Zm -/
import Derived.Test.YtoafonbplbblpaaZ26
import Derived.Test.YtoafonbplbblpaaZ34
section
/- hermitagelaw17: awake. -/
namespace Go.Proofs.Ytoafonbplbblpaa.Wa
open Go.RowKit Go.Shelf Ut Oc Vw
set_option maxRecDepth 100000
set_option linter.unusedVariables false
set_option maxHeartbeats 4000000

def awZ (i : Nat) : Int × Int := if i = 0 then (64, 513) else (128, 771)
theorem aw_loc : locF 12 (putS (mapG 0) awZ (cnt2 2)) (mapG 0) true 1 false 5 1 = ((3, 8, 5), 0) := by decide +kernel
theorem awake17_any (w : World) : Calls Try.prog 12 #[] w fun e w' => e = .returned (.bool true) ∧ Below w.heap.size w w' := by
  have hN : Blk (w.alloc (.cells #[.int .u32 64, .int .u32 513, .int .u32 128, .int .u32 771] 84)) w.heap.size 84 [.int .u32 64, .int .u32 513, .int .u32 128, .int .u32 771] := Blk.new _ _ _
  have hB : Below w.heap.size w (w.alloc (.cells #[.int .u32 64, .int .u32 513, .int .u32 128, .int .u32 771] 84)) := (Below.refl _ _).alloc (Nat.le_refl _) _
  have HMK : Hid (Calls Try.prog 7 #[.int .u16 0, .slice (some ⟨w.heap.size, 0, none⟩) 2 2] (w.alloc (.cells #[.int .u32 64, .int .u32 513, .int .u32 128, .int .u32 771] 84)) fun e w' => ∃ b s m g, e = .returned (.tuple #[.pointer (some ⟨b, 0, none⟩), .pointer (some ⟨g, 0, none⟩)]) ∧ ∃ bt B q gv cap, Md (w.alloc (.cells #[.int .u32 64, .int .u32 513, .int .u32 128, .int .u32 771] 84)) w' b s m g bt B q gv cap (putS (mapG 0) awZ (cnt2 2)) (mapG 0) (putD (mapG 0) awZ (cnt2 2))) := Lib.hid ((made17_any 0 (by omega) (some ⟨w.heap.size, 0, none⟩) 2 2 (w.heap.size + 1) awZ _ (by omega) (fun i hi => by
    rcases (show i = 0 ∨ i = 1 by omega) with rfl | rfl
    · exact ⟨_, rfl, Nat.lt_succ_self _, hN.cell rfl, hN.cell rfl, by decide, by decide, by decide, by decide⟩
    · exact ⟨_, rfl, Nat.lt_succ_self _, hN.cell (j := 2) rfl, hN.cell (j := 3) rfl, by decide, by decide, by decide, by decide⟩) (by simp)).mono fun e w' ⟨b, s, m, g, bt, B, q, gv, cap, he, h⟩ => ⟨b, s, m, g, he, bt, B, q, gv, cap, h⟩)
  have HB := Lib.hid hB
  clear hN hB
  go_enter Try.func12, Try.ntmps12
  go_wp2_with fail
  refine HMK.out.mono ?_
  rintro e w1 ⟨b, s, m, g, rfl, bt, B, q, gv, cap, hmd⟩
  have HB1 := Lib.hid (HB.out.trans (hmd.blw.mono HB.out.size))
  have HF := Lib.hid (find_any (b := b) (s := s) (m := m) (n := 12) true false 1 5 1 0 (3, 8, 5) (by omega) (by omega) (by rw [aw_loc]) (by rw [aw_loc]) w1 hmd.pv)
  clear hmd HMK HB
  unfold hitV at HF
  go_wp2_with fail
  refine HF.out.mono ?_
  rintro e w2 ⟨rfl, hb2⟩
  have HB2 := Lib.hid (HB1.out.trans (hb2.mono HB1.out.size))
  have HB3 : Hid (Below w.heap.size w (w2.alloc (.cells #[.int .i64 3, .int .i64 8, .int .i64 5, .bool false] 32))) := Lib.hid (HB2.out.alloc HB2.out.size _)
  clear hb2 HB1 HF HB2
  go_wp2
  go_ret
  exact ⟨rfl, HB3.out⟩
end Go.Proofs.Ytoafonbplbblpaa.Wa
end
section
/- hermitagelaw17: WalkFlat. -/
namespace Go.Proofs.Ytoafonbplbblpaa.Wa
open Go.RowKit Go.Shelf Ut Oc Vw
set_option maxRecDepth 100000
set_option linter.unusedVariables false
set_option maxHeartbeats 4000000

theorem flat_any (x : Nat) (hx : x < 65536) (rt z k : Int) (us : Bool) (h0 : 0 ≤ z) (h1 : z < 4294967296) (w : World) :
    Calls Try.prog 5 #[.int .u16 x, .int .i64 rt, .bool us, .int .u32 z, .int .i64 k] w fun e w' => e = .returned (.bool true) ∧ Below w.heap.size w w' := by
  have HMK := Lib.hid (made17_any x hx none 0 0 w.heap.size (fun _ => (0, 0)) w (by omega) (fun i hi => by omega) (Nat.le_refl _))
  generalize putS (mapG x) (fun _ => (0, 0)) (cnt2 0) = S at HMK
  generalize putD (mapG x) (fun _ => (0, 0)) (cnt2 0) = D at HMK
  generalize mapG x = LM at HMK
  obtain ⟨c, hc⟩ : ∃ c, findF 12 LM z 1 k = c := ⟨_, rfl⟩
  obtain ⟨h, hh⟩ : ∃ h, hitF 12 LM z 1 k = h := ⟨_, rfl⟩
  have HH : Hid (c = 0 → h.1 = z / 64 ∧ h.2.2 = z % 64) := Lib.hid fun e => by
    rw [← hh]
    unfold hitF
    rw [hc, if_pos e]
    exact ⟨rfl, rfl⟩
  have HC := Lib.hid hc
  have HE := Lib.hid hh
  clear hc hh
  go_enter Try.func5, Try.ntmps5
  go_wp2_with fail
  refine HMK.out.mono ?_
  rintro e w2 ⟨b, s, m, g, bt, B, q, gv, cap, rfl, hmd⟩
  have HB2 := Lib.hid hmd.blw
  have HP2 := Lib.hid hmd.pv
  clear hmd HMK
  have CF : Hid (Calls Try.prog 8 #[.pointer (some ⟨b, 0, none⟩), .agg #[.bool false, .int .i64 rt, .bool us], .int .u32 z, .int .i64 k] w2 fun e w' => e = .returned (.tuple #[hitV h, .int .i64 c]) ∧ Below w2.heap.size w2 w') := Lib.hid (find_off rt z k c us h h0 h1 HC.out HE.out w2 HP2.out)
  have CV : Hid (∀ W, Below w2.heap.size w2 W → Calls Try.prog 18 #[.pointer (some ⟨b, 0, none⟩), .int .u32 z, .int .i64 1, .int .i64 k] W fun e w' => e = .returned (.tuple #[hitV h, .int .i64 c]) ∧ Below W.heap.size W w') := Lib.hid fun W hW => Vw.find_any z 1 k c h h0 h1 HC.out HE.out W (HP2.out.more hW)
  obtain ⟨ha, hb, hc⟩ := h
  unfold hitV at CF CV
  dsimp only at CF CV HH
  clear HC HE HP2
  go_wp2_with fail
  refine CF.out.mono ?_
  rintro e w3 ⟨rfl, hb3⟩
  have HB3 : Hid (Below w2.heap.size w2 (w3.alloc (.cells #[.int .i64 ha, .int .i64 hb, .int .i64 hc, .bool false] 32))) := Lib.hid (hb3.alloc hb3.size _)
  have HN3 : Hid (Blk (w3.alloc (.cells #[.int .i64 ha, .int .i64 hb, .int .i64 hc, .bool false] 32)) w3.heap.size 32 (hitC (ha, hb, hc))) := Lib.hid (Blk.new w3 _ _)
  clear hb3 CF
  go_upto_region 5 with fail
  generalize w3.alloc (.cells #[.int .i64 ha, .int .i64 hb, .int .i64 hc, .bool false] 32) = w4 at HB3 HN3 ⊢
  generalize w3.heap.size = p1 at HN3 ⊢
  go_wp2_with fail
  refine (CV.out w4 HB3.out).mono ?_
  rintro e w5 ⟨rfl, hb5⟩
  have HB5 : Hid (Below w2.heap.size w2 (w5.alloc (.cells #[.int .i64 ha, .int .i64 hb, .int .i64 hc, .bool false] 32))) := Lib.hid ((HB3.out.trans (hb5.mono HB3.out.size)).alloc (HB3.out.trans (hb5.mono HB3.out.size)).size _)
  have HN5 : Hid (Blk (w5.alloc (.cells #[.int .i64 ha, .int .i64 hb, .int .i64 hc, .bool false] 32)) w5.heap.size 32 (hitC (ha, hb, hc))) := Lib.hid (Blk.new w5 _ _)
  have HN6 : Hid (Blk (w5.alloc (.cells #[.int .i64 ha, .int .i64 hb, .int .i64 hc, .bool false] 32)) p1 32 (hitC (ha, hb, hc))) := Lib.hid ((HN3.out.more hb5).more ((Below.refl _ _).alloc (Nat.le_refl _) _))
  clear hb5 CV HB3 HN3
  go_upto_region 6 with fail
  generalize w5.alloc (.cells #[.int .i64 ha, .int .i64 hb, .int .i64 hc, .bool false] 32) = w6 at HB5 HN5 HN6 ⊢
  generalize w5.heap.size = p2 at HN5 ⊢
  obtain ⟨r0, r1, r2, r3⟩ := HAt.cells HN5.out
  obtain ⟨s0, s1, s2, s3⟩ := HAt.cells HN6.out
  dsimp only at r0 r1 r2 s0 s1 s2
  have rl := HN5.out.lt
  have sl := HN6.out.lt
  by_cases hz : c = 0
  · obtain ⟨e1, e2⟩ := HH.out hz
    subst hz e1 e2
    go_wp2_with fail
    refine (awake17_any _).mono ?_
    rintro e w7 ⟨rfl, hb⟩
    have HB7 := Lib.hid (HB5.out.trans (hb.mono HB5.out.size))
    clear hb
    go_wp2
    go_ret
    exact ⟨rfl, HB2.out.trans (HB7.out.mono HB2.out.size)⟩
  · have hz2 : (c != 0) = true := by simp [hz]
    go_wp2_with fail
    refine (awake17_any _).mono ?_
    rintro e w7 ⟨rfl, hb⟩
    have HB7 := Lib.hid (HB5.out.trans (hb.mono HB5.out.size))
    clear hb
    go_wp2
    go_ret
    exact ⟨rfl, HB2.out.trans (HB7.out.mono HB2.out.size)⟩
end Go.Proofs.Ytoafonbplbblpaa.Wa
end
