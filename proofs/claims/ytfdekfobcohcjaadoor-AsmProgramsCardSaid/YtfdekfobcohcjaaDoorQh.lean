/- Package asm: said together, Parse. -/
import Derived.Test.YtfdekfobcohcjaaDoorQg
namespace Go.Proofs.YtfdekfobcohcjaaDoor.As
open Go.RowKit Ut Is Pl
set_option linter.unusedVariables false
set_option maxRecDepth 100000
set_option maxHeartbeats 8000000

theorem said_any (s : ByteArray) (hs : s.size ≤ 140737488355328) (w : World) (hw : Held w) :
    Calls Tryd.prog 26 #[.string s] w fun e w' => e = .returned (.tuple #[sayV s.data.toList, .bool (sayT s.data.toList)]) ∧ Below w.heap.size w w' := by
  by_cases h : s.size ≤ 16384
  · cases hw2 : wordsL s.data.toList with
    | none =>
      have hT : sayT s.data.toList = false := by unfold sayT saidT; rw [hw2]; simp
      rw [say_no hT, hT]
      exact said_none s h hw2 w
    | some ws =>
      obtain ⟨x, xs, rfl⟩ := wordsL_ne2 hw2
      exact said_some s h x xs hw2 w hw
  · have hT : sayT s.data.toList = false := by unfold sayT; rw [size_list, decide_eq_false h]; rfl
    rw [say_no hT, hT]
    exact said_long s (by omega) hs w
/-- Parse's answer -/
def parV (l : List UInt8) : Value := if parT l = true then insV (saidO l) (saidF l 1) (saidF l 2) (saidF l 3) (saidF l 4) else insV 0 0 0 0 0
def parE (l : List UInt8) : Int := if parT l = true then 0 else 6
theorem par_say (l : List UInt8) : parT l = (sayT l && validB (saidO l) (saidF l 1) (saidF l 2) (saidF l 3) (saidF l 4)) := by
  by_cases h : l.length ≤ 16384
  · unfold parT sayT; rw [decide_eq_true h, Bool.true_and]
  · have h1 : parT l = false := by
      cases hp : parT l with
      | false => rfl
      | true => have := par_len hp; omega
    rw [h1]
    unfold sayT
    rw [decide_eq_false h]; rfl
theorem parse_ins (s : ByteArray) (o d a b m : Int) (v : Bool) (hv : validB o d a b m = v) (w : World) (hw : Held w)
    (hs : ∀ W, Held W → Calls Tryd.prog 26 #[.string s] W fun e w' => e = .returned (.tuple #[insV o d a b m, .bool true]) ∧ Below W.heap.size W w') :
    Calls Tryd.prog 10 #[.string s] w fun e w' => e = .returned (.tuple #[if v = true then insV o d a b m else insV 0 0 0 0 0, .int .i64 (if v = true then 0 else 6)]) ∧ Below w.heap.size w w' := by
  have HB0 := Lib.hid (ins_below 0 0 0 0 0 w)
  have HQ0 := Lib.hid (ins_at 0 0 0 0 0 w)
  have HD0 := Lib.hid (hw.more HB0.out)
  have HS := Lib.hid hs
  have HK : Hid (∀ w, HasT w → Calls Tryd.prog 17 #[insV o d a b m] w fun e w' => e = .returned (.bool v) ∧ Below w.heap.size w w') := Lib.hid fun w hw => valid_any o d a b m v hv w hw
  have HSet : Hid (∀ (W : World) (j : Nat) (v : Value), Below w.heap.size w W → Below w.heap.size w (W.setCell ⟨w.heap.size, j, none⟩ v)) := Lib.hid fun W j v h => h.setCell (p := ⟨w.heap.size, j, none⟩) (by simp) _
  clear hs hw hv
  go_enter Tryd.func10, Tryd.ntmps10
  go_wp2_with fail
  refine (HS.out _ HD0.out).mono ?_
  rintro e w1 ⟨rfl, hb1⟩
  have HQ1 := Lib.hid (HQ0.out.more hb1)
  have HD1 := Lib.hid (HD0.out.more hb1)
  have HB1 := Lib.hid (HB0.out.trans (hb1.mono HB0.out.size))
  obtain ⟨U, hU⟩ : ∃ U, U = insW o d a b m w1 := ⟨_, rfl⟩
  have HU := Lib.hid hU
  have HBU : Hid (Below w1.heap.size w1 U) := Lib.hid (hU ▸ ins_below o d a b m w1)
  have HIU : Hid (InsAt U w1.heap.size o d a b m) := Lib.hid (hU ▸ ins_at o d a b m w1)
  clear hb1 hU
  go_wp2_with fail
  rw [show w1.alloc (.cells #[.int .i64 o, .int .i64 d, .int .i64 a, .int .i64 b, .int .i64 m] 23) = U from HU.out.symm]
  refine (HK.out _ (HD1.out.more HBU.out).has).mono ?_
  rintro e w2 ⟨rfl, hb2⟩
  have hbU2 : Below w1.heap.size w1 w2 := HBU.out.trans (hb2.mono HBU.out.size)
  have hq2 := HQ1.out.more hbU2
  have hi2 := HIU.out.more hb2
  obtain ⟨r0, r1, r2, r3, r4⟩ := hq2.cells
  obtain ⟨i0, i1, i2, i3, i4⟩ := hi2.cells
  have f0 := hq2.frozen 0 (by omega)
  have f1 := hq2.frozen 1 (by omega)
  have f2 := hq2.frozen 2 (by omega)
  have f3 := hq2.frozen 3 (by omega)
  have f4 := hq2.frozen 4 (by omega)
  have hz := hq2.lt
  have hzi := hi2.lt
  have HB2 := Lib.hid (HB1.out.trans (hbU2.mono HB1.out.size))
  clear hb2 hbU2 hq2 hi2
  cases v
  · go_wp2
    exact bodyPost_ret (v := .tuple #[insV 0 0 0 0 0, .int .i64 6]) (by simp [results, Tryd.results10, go_sem, r0, r1, r2, r3, r4]) rfl ⟨rfl, HSet.out _ _ _ (HSet.out _ _ _ (HSet.out _ _ _ (HSet.out _ _ _ (HSet.out _ _ _ HB2.out))))⟩
  · go_wp2
    exact bodyPost_ret (v := .tuple #[insV o d a b m, .int .i64 0]) (by simp [results, Tryd.results10, go_sem, r0, r1, r2, r3, r4]) rfl ⟨rfl, HSet.out _ _ _ (HSet.out _ _ _ (HSet.out _ _ _ (HSet.out _ _ _ (HSet.out _ _ _ HB2.out))))⟩
theorem parse_no (s : ByteArray) (w : World) (hw : Held w)
    (hs : ∀ W, Held W → Calls Tryd.prog 26 #[.string s] W fun e w' => e = .returned (.tuple #[insV 0 0 0 0 0, .bool false]) ∧ Below W.heap.size W w') :
    Calls Tryd.prog 10 #[.string s] w fun e w' => e = .returned (.tuple #[insV 0 0 0 0 0, .int .i64 6]) ∧ Below w.heap.size w w' := by
  have HB0 := Lib.hid (ins_below 0 0 0 0 0 w)
  have HQ0 := Lib.hid (ins_at 0 0 0 0 0 w)
  have HD0 := Lib.hid (hw.more HB0.out)
  have HS := Lib.hid hs
  have HSet : Hid (∀ (W : World) (j : Nat) (v : Value), Below w.heap.size w W → Below w.heap.size w (W.setCell ⟨w.heap.size, j, none⟩ v)) := Lib.hid fun W j v h => h.setCell (p := ⟨w.heap.size, j, none⟩) (by simp) _
  clear hs hw
  go_enter Tryd.func10, Tryd.ntmps10
  go_wp2_with fail
  refine (HS.out _ HD0.out).mono ?_
  rintro e w1 ⟨rfl, hb1⟩
  have HQ1 := Lib.hid (HQ0.out.more hb1)
  have HB1 := Lib.hid (HB0.out.trans (hb1.mono HB0.out.size))
  obtain ⟨U, hU⟩ : ∃ U, U = insW 0 0 0 0 0 w1 := ⟨_, rfl⟩
  have HU := Lib.hid hU
  have hbU : Below w1.heap.size w1 U := hU ▸ ins_below 0 0 0 0 0 w1
  have hq1 := (HQ0.out.more hb1).more hbU
  obtain ⟨r0, r1, r2, r3, r4⟩ := hq1.cells
  have f0 := hq1.frozen 0 (by omega)
  have f1 := hq1.frozen 1 (by omega)
  have f2 := hq1.frozen 2 (by omega)
  have f3 := hq1.frozen 3 (by omega)
  have f4 := hq1.frozen 4 (by omega)
  have hz := hq1.lt
  have HB2 := Lib.hid (HB1.out.trans (hbU.mono HB1.out.size))
  clear hb1 hU hq1 hbU
  go_upto_region 3 with fail
  rw [show w1.alloc (.cells #[.int .i64 0, .int .i64 0, .int .i64 0, .int .i64 0, .int .i64 0] 23) = U from HU.out.symm]
  go_wp2
  exact bodyPost_ret (v := .tuple #[insV 0 0 0 0 0, .int .i64 6]) (by simp [results, Tryd.results10, go_sem, r0, r1, r2, r3, r4]) rfl ⟨rfl, HSet.out _ _ _ (HSet.out _ _ _ (HSet.out _ _ _ (HSet.out _ _ _ (HSet.out _ _ _ HB2.out))))⟩
theorem parse_any (s : ByteArray) (hs : s.size ≤ 140737488355328) (w : World) (hw : Held w) :
    Calls Tryd.prog 10 #[.string s] w fun e w' => e = .returned (.tuple #[parV s.data.toList, .int .i64 (parE s.data.toList)]) ∧ Below w.heap.size w w' := by
  have hps := par_say s.data.toList
  cases hT : sayT s.data.toList with
  | false =>
    have hp : parT s.data.toList = false := by rw [hps, hT]; rfl
    unfold parV parE
    rw [hp, if_neg (by decide), if_neg (by decide)]
    refine parse_no s w hw fun W hW => ?_
    have := said_any s hs W hW
    rwa [say_no hT, hT] at this
  | true =>
    have hv : sayV s.data.toList = insV (saidO s.data.toList) (saidF s.data.toList 1) (saidF s.data.toList 2) (saidF s.data.toList 3) (saidF s.data.toList 4) := by unfold sayV; rw [if_pos hT]
    rw [hT, Bool.true_and] at hps
    unfold parV parE
    rw [hps]
    refine parse_ins s _ _ _ _ _ _ rfl w hw fun W hW => ?_
    have := said_any s hs W hW
    rwa [hv, hT] at this
end Go.Proofs.YtfdekfobcohcjaaDoor.As
