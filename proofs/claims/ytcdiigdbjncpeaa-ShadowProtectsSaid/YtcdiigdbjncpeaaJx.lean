/- Package shadow: List, fresh. -/
import Derived.Test.YtcdiigdbjncpeaaJu
import Derived.Test.YtcdiigdbjncpeaaBz
namespace Go.Proofs.Ytcdiigdbjncpeaa.Sw
open Go.RowKit Ut
set_option maxRecDepth 100000
set_option linter.unusedVariables false
set_option maxHeartbeats 4000000

section
variable {W : World} {l : List Ln}
theorem shList_any {v : Value} (h : ThP W v l) : Calls Try.prog 18 #[v] W fun e w' => (∃ v, e = .returned v ∧ Hid (Told 5 W w' v (l.map Ln.kept))) ∧ Below W.heap.size W w' := by
  obtain ⟨h32, a, c, hth, hr⟩ := h
  have HTH := Lib.hid (hth W (Below.refl _ _))
  obtain ⟨n, hn⟩ : ∃ n : Nat, l.length = n := ⟨_, rfl⟩
  rw [hn] at HTH h32
  have HN := Lib.hid hn
  have HR := Lib.hid hr
  have H32 := Lib.hid h32
  have n0 : (0 : Int) ≤ (n : Int) ∧ (n : Int) ≤ 32 := by omega
  clear hth hr h32 hn
  go_enter Try.func18, Try.ntmps18
  go_wp2_with fail
  refine HTH.out.mono ?_
  rintro e w1 ⟨rfl, hb1⟩
  have HB1 := Lib.hid hb1
  clear hb1 HTH
  go_wp2
  go_loopw [3, 9] (fun u j wr => ∃ (i : Nat) (b : Option Addr) (cc : Nat), i ≤ n ∧ u = .slice b i cc ∧ j = .int .i64 i ∧ Hid (OwnT 5 wr W.heap.size 54 (.slice b i cc) ((l.take i).map Ln.kept)) ∧ Hid (Below W.heap.size W wr)) (fun _ j _ => n - (intOf j).toNat)
  case atStart => exact ⟨0, none, 0, Nat.zero_le _, rfl, rfl, Lib.hid (OwnT.nil _ _ _ _), HB1⟩
  case round =>
    obtain ⟨i, b, cc, hin0, rfl, rfl, HO, HB⟩ := hrel
    by_cases hin : i < n
    · have f0 : (i : Int) < (n : Int) := by omega
      have f2 : (0 : Int) ≤ (i : Int) := by omega
      have hx : l[i]? = some (l[i]'(by rw [HN.out]; exact hin)) := List.getElem?_eq_getElem _
      obtain ⟨x, hxx⟩ : ∃ x, l[i]'(by rw [HN.out]; exact hin) = x := ⟨_, rfl⟩
      rw [hxx] at hx
      obtain ⟨y, rfl, hyb, hyb2, d0, d1, d2, d3, d4, d5, d6⟩ := LnRow.at_ (IRow.more HR.out HB.out) hx
      have H3 := Lib.hid hin
      obtain ⟨V, hV⟩ : ∃ V, V = wr.alloc (.cells #[.int .i64 x.kr, .int .i64 x.kp, .int .i64 x.ep, .int .i64 x.ef, .int .i64 x.er, .int .i64 x.rt, .int .i64 x.lf] 62) := ⟨_, rfl⟩
      have hbV : Below wr.heap.size wr V := by rw [hV]; exact (Below.refl _ _).alloc (Nat.le_refl _) _
      have hNV : Blk V wr.heap.size 62 (encI x.l) := by rw [hV]; exact Blk.new wr _ _
      have HV := Lib.hid hV
      have hoV := HO.out.below hbV
      have hbb := HB.out.trans (hbV.mono HB.out.size)
      have htk : (l.take (i + 1)).map Ln.kept = (l.take i).map Ln.kept ++ [x.kept] := by rw [List.take_add_one, hx, List.map_append]; rfl
      have hln : ((l.take i).map Ln.kept).length = i := by rw [List.length_map, List.length_take, HN.out]; omega
      obtain ⟨ba, cap5, w5, hrun, ho5, hg5, _⟩ := push_new (P := Try.prog) (t := 48) (ty := 48) Try.underlying48 info_kept19 rfl (by decide) (by decide) hoV x.kept rfl (by rw [hln]; have := H32.out; omega) hbb.size
      rw [hln] at hrun ho5
      have HRUN := Lib.hid hrun
      have HO9 : Hid (OwnT 5 w5 W.heap.size 54 (.slice ba (i + 1) cap5) ((l.take (i + 1)).map Ln.kept)) := Lib.hid (by rw [htk]; exact ho5)
      have HB9 : Hid (Below W.heap.size W w5) := Lib.hid (hbb.grown hg5 hbb.size (fun q hq => (World.ownsRow.lt hoV.1 q hq).1))
      have x0 := hNV.cell (j := 0) rfl
      have x1 := hNV.cell (j := 1) rfl
      have x2 := hNV.cell (j := 2) rfl
      have x3 := hNV.cell (j := 3) rfl
      have x4 := hNV.cell (j := 4) rfl
      have x5 := hNV.cell (j := 5) rfl
      have x6 := hNV.cell (j := 6) rfl
      have xl := hNV.lt
      clear hx hxx hin hin0 hV hbV hNV hoV hbb htk hln hrun ho5 hg5 HO HB
      obtain ⟨kr, kp, ep, ef, er, rt, lf⟩ := x
      dsimp only [Ln.l, Ln.kept] at HV HRUN d0 d1 d2 d3 d4 d5 d6 x0 x1 x2 x3 x4 x5 x6
      go_upto_region 5 with fail
      rw [← HV.out]
      clear HV d0 d1 d2 d3 d4 d5 d6 hyb hyb2
      go_wp2_with (refine wpList_append_run rfl _ _ 48 rfl _ _ rfl rfl _ _ HRUN.out ?_)
      clear x0 x1 x2 x3 x4 x5 x6 xl
      go_wp2
      go_roundw
      case rel => exact ⟨i + 1, ba, cap5, H3.out, rfl, by go_num, HO9, HB9⟩
      case measure => have := H3.out; simp [intOf]; omega
    · have f0 : ¬ (i : Int) < (n : Int) := by omega
      obtain rfl : i = n := by omega
      have HT : Hid (Told 5 W wr (.slice b i cc) (l.map Ln.kept)) := Lib.hid (by
        have ho := HO.out
        rw [show l.take i = l by rw [← HN.out, List.take_length]] at ho
        obtain ⟨a1, c1, q1, hr1, _, _, hb1, _⟩ := IRow.own ho
        injection q1 with q1 q2 q3
        subst q1 q3
        exact ⟨_, _, by rw [List.length_map, HN.out], hr1, hb1⟩)
      clear hin hin0 HO
      go_wp2
      go_ret
      exact ⟨⟨_, rfl, HT⟩, HB.out⟩
/-- which of both pages are no tables -/
theorem fresh_any {v : Value} (r f : Int) (h : ThP W v l) : Calls Try.prog 36 #[v, .int .i64 r, .int .i64 f] W fun e w' => (∃ v, e = .returned v ∧ Hid (Told 1 W w' v (toldS l r f 8))) ∧ Below W.heap.size W w' := by
  have HTB : Hid (∀ V (p : Int), Below W.heap.size W V → Calls Try.prog 20 #[v, .int .i64 p] V fun e w' => e = .returned (.bool (tabL l p)) ∧ Below V.heap.size V w') := Lib.hid fun V p hb => shTable_any p (h.more hb)
  clear h
  go_enter Try.func36, Try.ntmps36
  go_wp2
  go_loopw [7, 9] (fun u j wr => ∃ (i k : Nat) (b : Option Addr) (c : Nat), i ≤ 8 ∧ u = .slice b k c ∧ j = .int .i64 i ∧ Hid ((toldS l r f i).length = k) ∧ Hid (OwnT 1 wr W.heap.size 3 (.slice b k c) (toldS l r f i)) ∧ Hid (Below W.heap.size W wr)) (fun _ j _ => 8 - (intOf j).toNat)
  case atStart => exact ⟨0, 0, none, 0, Nat.zero_le _, rfl, rfl, rfl, Lib.hid (OwnT.nil _ _ _ _), Lib.hid (Below.refl _ _)⟩
  case round =>
    obtain ⟨i, k, b, c, hi, rfl, rfl, HLK, HO, HB⟩ := hrel
    by_cases hin : i < 8
    · have f0 : (i : Int) < 8 := by omega
      have f2 : (0 : Int) ≤ (i : Int) := by omega
      have H3 := Lib.hid hin
      obtain ⟨t, ht⟩ : ∃ t, tabL l (i : Int) = t := ⟨_, rfl⟩
      have HTI := Lib.hid (HTB.out wr (i : Int) HB.out)
      rw [ht] at HTI
      have hts := told_snoc l r f i
      have hcases := tell_cases l r f i
      rw [ht] at hcases
      have hk8 : k ≤ 8 := by have := told_len l r f i; rw [HLK.out] at this; omega
      have HK8 := Lib.hid hk8
      clear hin hi ht hk8
      cases t
      · rcases hcases with ⟨t1, t3⟩ | ⟨t1, t2, t3⟩ | ⟨t1, t2, t3⟩
        · rw [if_pos (show tellB l r f i = true from t3)] at hts
          have HTS := Lib.hid hts
          clear hts t3
          go_wp2_with fail
          refine HTI.out.mono ?_
          rintro e w2 ⟨rfl, hb2⟩
          have ho2 := HO.out.below hb2
          have hbb := HB.out.trans (hb2.mono HB.out.size)
          obtain ⟨ba, cap5, w5, hrun, ho5, hg5, _⟩ := push_new (P := Try.prog) (t := 35) (ty := 35) Try.underlying35 info_int19 rfl (by decide) (by decide) ho2 [(i : Int)] rfl (by rw [HLK.out]; have := HK8.out; omega) hbb.size
          rw [HLK.out] at hrun ho5
          have HRUN : Hid ((Builtin.append_ #[35, 35] 35 #[.slice b k c, .slice (some ⟨w2.heap.size, 0, none⟩) 1 1]).run Try.prog (w2.alloc (.cells #[.int .i64 (i : Int)] 3)) = .ok (.slice ba (k + 1) cap5) w5) := Lib.hid hrun
          have HO9 : Hid (OwnT 1 w5 W.heap.size 3 (.slice ba (k + 1) cap5) (toldS l r f (i + 1))) := Lib.hid (by rw [HTS.out]; exact ho5)
          have HL9 : Hid ((toldS l r f (i + 1)).length = k + 1) := Lib.hid (by rw [HTS.out, List.length_append, HLK.out]; rfl)
          have HB9 : Hid (Below W.heap.size W w5) := Lib.hid (hbb.grown hg5 hbb.size (fun q hq => (World.ownsRow.lt ho2.1 q hq).1))
          clear hb2 ho2 hbb hrun ho5 hg5 HTI HO HB HLK
          go_wp2_with (refine wpList_append_run rfl _ _ 35 rfl _ _ rfl rfl _ _ HRUN.out ?_)
          go_wp2
          go_roundw
          case rel => exact ⟨i + 1, k + 1, ba, cap5, H3.out, rfl, by go_num, HL9, HO9, HB9⟩
          case measure => have := H3.out; simp [intOf]; omega
        · rw [if_pos (show tellB l r f i = true from t3)] at hts
          have HTS := Lib.hid hts
          clear hts t3
          go_wp2_with fail
          refine HTI.out.mono ?_
          rintro e w2 ⟨rfl, hb2⟩
          have ho2 := HO.out.below hb2
          have hbb := HB.out.trans (hb2.mono HB.out.size)
          obtain ⟨ba, cap5, w5, hrun, ho5, hg5, _⟩ := push_new (P := Try.prog) (t := 35) (ty := 35) Try.underlying35 info_int19 rfl (by decide) (by decide) ho2 [(i : Int)] rfl (by rw [HLK.out]; have := HK8.out; omega) hbb.size
          rw [HLK.out] at hrun ho5
          have HRUN : Hid ((Builtin.append_ #[35, 35] 35 #[.slice b k c, .slice (some ⟨w2.heap.size, 0, none⟩) 1 1]).run Try.prog (w2.alloc (.cells #[.int .i64 (i : Int)] 3)) = .ok (.slice ba (k + 1) cap5) w5) := Lib.hid hrun
          have HO9 : Hid (OwnT 1 w5 W.heap.size 3 (.slice ba (k + 1) cap5) (toldS l r f (i + 1))) := Lib.hid (by rw [HTS.out]; exact ho5)
          have HL9 : Hid ((toldS l r f (i + 1)).length = k + 1) := Lib.hid (by rw [HTS.out, List.length_append, HLK.out]; rfl)
          have HB9 : Hid (Below W.heap.size W w5) := Lib.hid (hbb.grown hg5 hbb.size (fun q hq => (World.ownsRow.lt ho2.1 q hq).1))
          clear hb2 ho2 hbb hrun ho5 hg5 HTI HO HB HLK
          go_wp2_with (refine wpList_append_run rfl _ _ 35 rfl _ _ rfl rfl _ _ HRUN.out ?_)
          go_wp2
          go_roundw
          case rel => exact ⟨i + 1, k + 1, ba, cap5, H3.out, rfl, by go_num, HL9, HO9, HB9⟩
          case measure => have := H3.out; simp [intOf]; omega
        · rw [if_neg (by rw [t3]; decide), List.append_nil] at hts
          have HO9 : Hid (OwnT 1 wr W.heap.size 3 (.slice b k c) (toldS l r f (i + 1))) := Lib.hid (by rw [hts]; exact HO.out)
          have HL9 : Hid ((toldS l r f (i + 1)).length = k) := Lib.hid (by rw [hts, HLK.out])
          clear hts t3 HTI HO HLK
          go_wp2
          go_roundw
          case rel => exact ⟨i + 1, k, b, c, H3.out, rfl, by go_num, HL9, HO9, HB⟩
          case measure => have := H3.out; simp [intOf]; omega
      · have t3 : tellB l r f i = false := by rcases hcases with ⟨_, t3⟩ | ⟨_, _, t3⟩ | ⟨_, _, t3⟩ <;> exact t3
        rw [if_neg (by rw [t3]; decide), List.append_nil] at hts
        have HL9 : Hid ((toldS l r f (i + 1)).length = k) := Lib.hid (by rw [hts, HLK.out])
        have HTS := Lib.hid hts
        clear hts t3
        rcases hcases with ⟨t1, _⟩ | ⟨t1, t2, _⟩ | ⟨t1, t2, _⟩
        · go_wp2_with fail
          refine HTI.out.mono ?_
          rintro e w2 ⟨rfl, hb2⟩
          have HO9 : Hid (OwnT 1 w2 W.heap.size 3 (.slice b k c) (toldS l r f (i + 1))) := Lib.hid (by rw [HTS.out]; exact HO.out.below hb2)
          have HB9 := Lib.hid (HB.out.trans (hb2.mono HB.out.size))
          clear hb2 HTI HO HB HLK
          go_wp2
          go_roundw
          case rel => exact ⟨i + 1, k, b, c, H3.out, rfl, by go_num, HL9, HO9, HB9⟩
          case measure => have := H3.out; simp [intOf]; omega
        · go_wp2_with fail
          refine HTI.out.mono ?_
          rintro e w2 ⟨rfl, hb2⟩
          have HO9 : Hid (OwnT 1 w2 W.heap.size 3 (.slice b k c) (toldS l r f (i + 1))) := Lib.hid (by rw [HTS.out]; exact HO.out.below hb2)
          have HB9 := Lib.hid (HB.out.trans (hb2.mono HB.out.size))
          clear hb2 HTI HO HB HLK
          go_wp2
          go_roundw
          case rel => exact ⟨i + 1, k, b, c, H3.out, rfl, by go_num, HL9, HO9, HB9⟩
          case measure => have := H3.out; simp [intOf]; omega
        · have HO9 : Hid (OwnT 1 wr W.heap.size 3 (.slice b k c) (toldS l r f (i + 1))) := Lib.hid (by rw [HTS.out]; exact HO.out)
          clear HTI HO HLK
          go_wp2
          go_roundw
          case rel => exact ⟨i + 1, k, b, c, H3.out, rfl, by go_num, HL9, HO9, HB⟩
          case measure => have := H3.out; simp [intOf]; omega
    · have f0 : ¬ (i : Int) < 8 := by omega
      obtain rfl : i = 8 := by omega
      have HT : Hid (Told 1 W wr (.slice b k c) (toldS l r f 8)) := Lib.hid (by
        obtain ⟨a1, c1, q1, hr1, _, _, hb1, _⟩ := IRow.own HO.out
        injection q1 with q1 q2 q3
        subst q1 q3
        exact ⟨_, _, by rw [HLK.out], hr1, hb1⟩)
      clear hin hi HO HLK
      go_wp2
      go_ret
      exact ⟨⟨_, rfl, HT⟩, HB.out⟩
end
end Go.Proofs.Ytcdiigdbjncpeaa.Sw
