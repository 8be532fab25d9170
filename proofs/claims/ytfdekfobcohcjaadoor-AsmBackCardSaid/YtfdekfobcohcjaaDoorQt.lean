/- The walk of hermitagelaw10.AsmBack. -/
import Derived.Test.YtfdekfobcohcjaaDoorQs
namespace Go.Proofs.YtfdekfobcohcjaaDoor.As
open Go.RowKit Ut Is Pl
set_option linter.unusedVariables false
set_option maxRecDepth 100000
set_option maxHeartbeats 8000000

theorem back_tt (o d a b m : Int) (s : ByteArray) (hs : s.size ≤ 140737488355328) (hv : validB o d a b m = true) (hp : parT s.data.toList = true) (w : World) (hw : Held w) :
    Calls Tryd.prog 5 #[insV o d a b m, .string s] w fun e w' => e = .returned (.bool true) ∧ Below w.heap.size w w' := by
    have HA := Lib.hid (fun W hW => awake_any W hW)
    have hb0 := ins_below o d a b m w
    have HB0 := Lib.hid hb0
    have HI0 := Lib.hid (ins_at o d a b m w)
    have HD0 : Hid (Held (insW o d a b m w)) := Lib.hid (hw.more hb0)
    have HW := Lib.hid hw
    have VA : Hid (∀ W, Held W → Calls Tryd.prog 17 #[insV o d a b m] W fun e w' => e = .returned (.bool true) ∧ Below W.heap.size W w') := Lib.hid fun W hW => valid_any o d a b m _ hv W hW.has
    obtain ⟨T, hT⟩ : ∃ T, T = tb (textL o.toNat d a b m) := ⟨_, rfl⟩
    have ho : ((o.toNat : Nat) : Int) = o := by have := (valid_bounds hv).1; omega
    have TX : Hid (∀ W, Held W → Calls Tryd.prog 7 #[insV o d a b m] W fun e w' => e = .returned (.tuple #[.string T, .int .i64 0]) ∧ Below W.heap.size W w') := Lib.hid fun W hW => by
      have := text_any o d a b m W hW
      unfold txS txE at this
      rwa [if_pos hv, if_pos hv, ← hT] at this
    have PT : Hid (∀ W, Held W → Calls Tryd.prog 10 #[.string T] W fun e w' => e = .returned (.tuple #[insV o d a b m, .int .i64 0]) ∧ Below W.heap.size W w') := Lib.hid fun W hW => by
      have hv2 : validB (o.toNat : Nat) d a b m = true := by rw [ho]; exact hv
      obtain ⟨k0, k1, k2, k3, k4, k5⟩ := par_text hv2
      have hTs : T.size ≤ 140737488355328 := by rw [hT, tb_size]; have := (text_short hv2).1; omega
      have := parse_any T hTs W hW
      have hTl : T.data.toList = textL o.toNat d a b m := by rw [hT]; rfl
      rw [hTl] at this
      unfold parV parE at this
      rwa [if_pos k0, if_pos k0, k1, k2, k3, k4, k5, ho] at this
    clear hT ho
    obtain ⟨n, n1, n2, hn, hvn, htx⟩ := par_back hp
    have hps := fun W hW => parse_any s hs W hW
    unfold parV parE at hps
    rw [if_pos hp, if_pos hp, hn] at hps
    have htk := fun W hW => text_good n _ _ _ _ hvn W hW
    rw [htx, tb_of] at htk
    generalize saidF s.data.toList 1 = f1 at hps htk
    generalize saidF s.data.toList 2 = f2 at hps htk
    generalize saidF s.data.toList 3 = f3 at hps htk
    generalize saidF s.data.toList 4 = f4 at hps htk
    have PS := Lib.hid hps
    have TK := Lib.hid htk
    have hss : (s.toList == s.toList) = true := beq_self_eq_true _
    clear hps htk htx hn hvn n1 n2
    clear hv hp hw hb0
    go_enter Tryd.func5, Tryd.ntmps5
    go_wp2_with fail
    refine (TX.out _ HD0.out).mono ?_
    rintro e w1 ⟨rfl, hb1⟩
    have HI1 := Lib.hid (HI0.out.more hb1)
    have HB1 := Lib.hid (HB0.out.trans (hb1.mono HB0.out.size))
    obtain ⟨c0, c1, c2, c3, c4⟩ := HI1.out.cells
    have hl1 := HI1.out.lt
    clear hb1
    go_wp2_with fail
    refine (VA.out _ (HW.out.more HB1.out)).mono ?_
    rintro e w2 ⟨rfl, hb2⟩
    have HI2 := Lib.hid (HI1.out.more hb2)
    have HB2 := Lib.hid (HB1.out.trans (hb2.mono HB1.out.size))
    clear hb2 c0 c1 c2 c3 c4 hl1
    go_wp2_with fail
    refine (PT.out _ (HW.out.more HB2.out)).mono ?_
    rintro e w3 ⟨rfl, hb3⟩
    have HB3 := Lib.hid (HB2.out.trans (hb3.mono HB2.out.size))
    obtain ⟨c0, c1, c2, c3, c4⟩ := (HI2.out.more hb3).cells
    have hl3 := (HI2.out.more hb3).lt
    obtain ⟨U, hU⟩ : ∃ U, U = insW o d a b m w3 := ⟨_, rfl⟩
    have HU := Lib.hid hU
    have HBU : Hid (Below w.heap.size w U) := Lib.hid (HB3.out.trans ((hU ▸ ins_below o d a b m w3 : Below w3.heap.size w3 U).mono HB3.out.size))
    clear hb3 hU
    go_wp2_with fail
    rw [show w3.alloc (.cells #[.int .i64 o, .int .i64 d, .int .i64 a, .int .i64 b, .int .i64 m] 23) = U from HU.out.symm]
    refine (PS.out _ (HW.out.more HBU.out)).mono ?_
    rintro e w4 ⟨rfl, hb4⟩
    have HB4 := Lib.hid (HBU.out.trans (hb4.mono HBU.out.size))
    obtain ⟨V, hV⟩ : ∃ V, V = insW n f1 f2 f3 f4 w4 := ⟨_, rfl⟩
    have HV := Lib.hid hV
    have HBV : Hid (Below w.heap.size w V) := Lib.hid (HB4.out.trans ((hV ▸ ins_below n f1 f2 f3 f4 w4 : Below w4.heap.size w4 V).mono HB4.out.size))
    clear hb4 hV
    go_wp2_with fail
    rw [show w4.alloc (.cells #[.int .i64 n, .int .i64 f1, .int .i64 f2, .int .i64 f3, .int .i64 f4] 23) = V from HV.out.symm]
    refine (TK.out _ (HW.out.more HBV.out)).mono ?_
    rintro e w5 ⟨rfl, hb5⟩
    have HB5 := Lib.hid (HBV.out.trans (hb5.mono HBV.out.size))
    clear hb5
    go_wp2_with fail
    refine (HA.out _ (HW.out.more HB5.out)).mono ?_
    rintro e w6 ⟨rfl, hb6⟩
    have HB6 := Lib.hid (HB5.out.trans (hb6.mono HB5.out.size))
    clear hb6
    go_wp2
    go_ret
    exact ⟨rfl, HB6.out⟩
theorem back_tf (o d a b m : Int) (s : ByteArray) (hs : s.size ≤ 140737488355328) (hv : validB o d a b m = true) (hp : parT s.data.toList = false) (w : World) (hw : Held w) :
    Calls Tryd.prog 5 #[insV o d a b m, .string s] w fun e w' => e = .returned (.bool true) ∧ Below w.heap.size w w' := by
    have HA := Lib.hid (fun W hW => awake_any W hW)
    have hb0 := ins_below o d a b m w
    have HB0 := Lib.hid hb0
    have HI0 := Lib.hid (ins_at o d a b m w)
    have HD0 : Hid (Held (insW o d a b m w)) := Lib.hid (hw.more hb0)
    have HW := Lib.hid hw
    have VA : Hid (∀ W, Held W → Calls Tryd.prog 17 #[insV o d a b m] W fun e w' => e = .returned (.bool true) ∧ Below W.heap.size W w') := Lib.hid fun W hW => valid_any o d a b m _ hv W hW.has
    obtain ⟨T, hT⟩ : ∃ T, T = tb (textL o.toNat d a b m) := ⟨_, rfl⟩
    have ho : ((o.toNat : Nat) : Int) = o := by have := (valid_bounds hv).1; omega
    have TX : Hid (∀ W, Held W → Calls Tryd.prog 7 #[insV o d a b m] W fun e w' => e = .returned (.tuple #[.string T, .int .i64 0]) ∧ Below W.heap.size W w') := Lib.hid fun W hW => by
      have := text_any o d a b m W hW
      unfold txS txE at this
      rwa [if_pos hv, if_pos hv, ← hT] at this
    have PT : Hid (∀ W, Held W → Calls Tryd.prog 10 #[.string T] W fun e w' => e = .returned (.tuple #[insV o d a b m, .int .i64 0]) ∧ Below W.heap.size W w') := Lib.hid fun W hW => by
      have hv2 : validB (o.toNat : Nat) d a b m = true := by rw [ho]; exact hv
      obtain ⟨k0, k1, k2, k3, k4, k5⟩ := par_text hv2
      have hTs : T.size ≤ 140737488355328 := by rw [hT, tb_size]; have := (text_short hv2).1; omega
      have := parse_any T hTs W hW
      have hTl : T.data.toList = textL o.toNat d a b m := by rw [hT]; rfl
      rw [hTl] at this
      unfold parV parE at this
      rwa [if_pos k0, if_pos k0, k1, k2, k3, k4, k5, ho] at this
    clear hT ho
    have hps := fun W hW => parse_any s hs W hW
    unfold parV parE at hps
    rw [if_neg (by rw [hp]; decide), if_neg (by rw [hp]; decide)] at hps
    have PS := Lib.hid hps
    clear hps
    clear hv hp hw hb0
    go_enter Tryd.func5, Tryd.ntmps5
    go_wp2_with fail
    refine (TX.out _ HD0.out).mono ?_
    rintro e w1 ⟨rfl, hb1⟩
    have HI1 := Lib.hid (HI0.out.more hb1)
    have HB1 := Lib.hid (HB0.out.trans (hb1.mono HB0.out.size))
    obtain ⟨c0, c1, c2, c3, c4⟩ := HI1.out.cells
    have hl1 := HI1.out.lt
    clear hb1
    go_wp2_with fail
    refine (VA.out _ (HW.out.more HB1.out)).mono ?_
    rintro e w2 ⟨rfl, hb2⟩
    have HI2 := Lib.hid (HI1.out.more hb2)
    have HB2 := Lib.hid (HB1.out.trans (hb2.mono HB1.out.size))
    clear hb2 c0 c1 c2 c3 c4 hl1
    go_wp2_with fail
    refine (PT.out _ (HW.out.more HB2.out)).mono ?_
    rintro e w3 ⟨rfl, hb3⟩
    have HB3 := Lib.hid (HB2.out.trans (hb3.mono HB2.out.size))
    obtain ⟨c0, c1, c2, c3, c4⟩ := (HI2.out.more hb3).cells
    have hl3 := (HI2.out.more hb3).lt
    obtain ⟨U, hU⟩ : ∃ U, U = insW o d a b m w3 := ⟨_, rfl⟩
    have HU := Lib.hid hU
    have HBU : Hid (Below w.heap.size w U) := Lib.hid (HB3.out.trans ((hU ▸ ins_below o d a b m w3 : Below w3.heap.size w3 U).mono HB3.out.size))
    clear hb3 hU
    go_wp2_with fail
    rw [show w3.alloc (.cells #[.int .i64 o, .int .i64 d, .int .i64 a, .int .i64 b, .int .i64 m] 23) = U from HU.out.symm]
    refine (PS.out _ (HW.out.more HBU.out)).mono ?_
    rintro e w4 ⟨rfl, hb4⟩
    have HB4 := Lib.hid (HBU.out.trans (hb4.mono HBU.out.size))
    obtain ⟨V, hV⟩ : ∃ V, V = insW 0 0 0 0 0 w4 := ⟨_, rfl⟩
    have HV := Lib.hid hV
    have HBV : Hid (Below w.heap.size w V) := Lib.hid (HB4.out.trans ((hV ▸ ins_below 0 0 0 0 0 w4 : Below w4.heap.size w4 V).mono HB4.out.size))
    clear hb4 hV
    go_wp2_with fail
    rw [show w4.alloc (.cells #[.int .i64 0, .int .i64 0, .int .i64 0, .int .i64 0, .int .i64 0] 23) = V from HV.out.symm]
    refine (HA.out _ (HW.out.more HBV.out)).mono ?_
    rintro e w5 ⟨rfl, hb5⟩
    have HB5 := Lib.hid (HBV.out.trans (hb5.mono HBV.out.size))
    clear hb5
    go_wp2
    go_ret
    exact ⟨rfl, HB5.out⟩
theorem back_ft (o d a b m : Int) (s : ByteArray) (hs : s.size ≤ 140737488355328) (hv : validB o d a b m = false) (hp : parT s.data.toList = true) (w : World) (hw : Held w) :
    Calls Tryd.prog 5 #[insV o d a b m, .string s] w fun e w' => e = .returned (.bool true) ∧ Below w.heap.size w w' := by
    have HA := Lib.hid (fun W hW => awake_any W hW)
    have hb0 := ins_below o d a b m w
    have HB0 := Lib.hid hb0
    have HI0 := Lib.hid (ins_at o d a b m w)
    have HD0 : Hid (Held (insW o d a b m w)) := Lib.hid (hw.more hb0)
    have HW := Lib.hid hw
    have VA : Hid (∀ W, Held W → Calls Tryd.prog 17 #[insV o d a b m] W fun e w' => e = .returned (.bool false) ∧ Below W.heap.size W w') := Lib.hid fun W hW => valid_any o d a b m _ hv W hW.has
    have TX : Hid (∀ W, Held W → Calls Tryd.prog 7 #[insV o d a b m] W fun e w' => e = .returned (.tuple #[.string ⟨#[]⟩, .int .i64 6]) ∧ Below W.heap.size W w') := Lib.hid fun W hW => text_bad o d a b m hv W hW
    obtain ⟨n, n1, n2, hn, hvn, htx⟩ := par_back hp
    have hps := fun W hW => parse_any s hs W hW
    unfold parV parE at hps
    rw [if_pos hp, if_pos hp, hn] at hps
    have htk := fun W hW => text_good n _ _ _ _ hvn W hW
    rw [htx, tb_of] at htk
    generalize saidF s.data.toList 1 = f1 at hps htk
    generalize saidF s.data.toList 2 = f2 at hps htk
    generalize saidF s.data.toList 3 = f3 at hps htk
    generalize saidF s.data.toList 4 = f4 at hps htk
    have PS := Lib.hid hps
    have TK := Lib.hid htk
    have hss : (s.toList == s.toList) = true := beq_self_eq_true _
    clear hps htk htx hn hvn n1 n2
    clear hv hp hw hb0
    go_enter Tryd.func5, Tryd.ntmps5
    go_wp2_with fail
    refine (TX.out _ HD0.out).mono ?_
    rintro e w1 ⟨rfl, hb1⟩
    have HI1 := Lib.hid (HI0.out.more hb1)
    have HB1 := Lib.hid (HB0.out.trans (hb1.mono HB0.out.size))
    obtain ⟨c0, c1, c2, c3, c4⟩ := HI1.out.cells
    have hl1 := HI1.out.lt
    clear hb1
    go_wp2_with fail
    refine (VA.out _ (HW.out.more HB1.out)).mono ?_
    rintro e U ⟨rfl, hb2⟩
    have HBU := Lib.hid (HB1.out.trans (hb2.mono HB1.out.size))
    clear hb2 c0 c1 c2 c3 c4 hl1
    go_wp2_with fail
    refine (PS.out _ (HW.out.more HBU.out)).mono ?_
    rintro e w4 ⟨rfl, hb4⟩
    have HB4 := Lib.hid (HBU.out.trans (hb4.mono HBU.out.size))
    obtain ⟨V, hV⟩ : ∃ V, V = insW n f1 f2 f3 f4 w4 := ⟨_, rfl⟩
    have HV := Lib.hid hV
    have HBV : Hid (Below w.heap.size w V) := Lib.hid (HB4.out.trans ((hV ▸ ins_below n f1 f2 f3 f4 w4 : Below w4.heap.size w4 V).mono HB4.out.size))
    clear hb4 hV
    go_wp2_with fail
    rw [show w4.alloc (.cells #[.int .i64 n, .int .i64 f1, .int .i64 f2, .int .i64 f3, .int .i64 f4] 23) = V from HV.out.symm]
    refine (TK.out _ (HW.out.more HBV.out)).mono ?_
    rintro e w5 ⟨rfl, hb5⟩
    have HB5 := Lib.hid (HBV.out.trans (hb5.mono HBV.out.size))
    clear hb5
    go_wp2_with fail
    refine (HA.out _ (HW.out.more HB5.out)).mono ?_
    rintro e w6 ⟨rfl, hb6⟩
    have HB6 := Lib.hid (HB5.out.trans (hb6.mono HB5.out.size))
    clear hb6
    go_wp2
    go_ret
    exact ⟨rfl, HB6.out⟩
theorem back_ff (o d a b m : Int) (s : ByteArray) (hs : s.size ≤ 140737488355328) (hv : validB o d a b m = false) (hp : parT s.data.toList = false) (w : World) (hw : Held w) :
    Calls Tryd.prog 5 #[insV o d a b m, .string s] w fun e w' => e = .returned (.bool true) ∧ Below w.heap.size w w' := by
    have HA := Lib.hid (fun W hW => awake_any W hW)
    have hb0 := ins_below o d a b m w
    have HB0 := Lib.hid hb0
    have HI0 := Lib.hid (ins_at o d a b m w)
    have HD0 : Hid (Held (insW o d a b m w)) := Lib.hid (hw.more hb0)
    have HW := Lib.hid hw
    have VA : Hid (∀ W, Held W → Calls Tryd.prog 17 #[insV o d a b m] W fun e w' => e = .returned (.bool false) ∧ Below W.heap.size W w') := Lib.hid fun W hW => valid_any o d a b m _ hv W hW.has
    have TX : Hid (∀ W, Held W → Calls Tryd.prog 7 #[insV o d a b m] W fun e w' => e = .returned (.tuple #[.string ⟨#[]⟩, .int .i64 6]) ∧ Below W.heap.size W w') := Lib.hid fun W hW => text_bad o d a b m hv W hW
    have hps := fun W hW => parse_any s hs W hW
    unfold parV parE at hps
    rw [if_neg (by rw [hp]; decide), if_neg (by rw [hp]; decide)] at hps
    have PS := Lib.hid hps
    clear hps
    clear hv hp hw hb0
    go_enter Tryd.func5, Tryd.ntmps5
    go_wp2_with fail
    refine (TX.out _ HD0.out).mono ?_
    rintro e w1 ⟨rfl, hb1⟩
    have HI1 := Lib.hid (HI0.out.more hb1)
    have HB1 := Lib.hid (HB0.out.trans (hb1.mono HB0.out.size))
    obtain ⟨c0, c1, c2, c3, c4⟩ := HI1.out.cells
    have hl1 := HI1.out.lt
    clear hb1
    go_wp2_with fail
    refine (VA.out _ (HW.out.more HB1.out)).mono ?_
    rintro e U ⟨rfl, hb2⟩
    have HBU := Lib.hid (HB1.out.trans (hb2.mono HB1.out.size))
    clear hb2 c0 c1 c2 c3 c4 hl1
    go_wp2_with fail
    refine (PS.out _ (HW.out.more HBU.out)).mono ?_
    rintro e w4 ⟨rfl, hb4⟩
    have HB4 := Lib.hid (HBU.out.trans (hb4.mono HBU.out.size))
    obtain ⟨V, hV⟩ : ∃ V, V = insW 0 0 0 0 0 w4 := ⟨_, rfl⟩
    have HV := Lib.hid hV
    have HBV : Hid (Below w.heap.size w V) := Lib.hid (HB4.out.trans ((hV ▸ ins_below 0 0 0 0 0 w4 : Below w4.heap.size w4 V).mono HB4.out.size))
    clear hb4 hV
    go_wp2_with fail
    rw [show w4.alloc (.cells #[.int .i64 0, .int .i64 0, .int .i64 0, .int .i64 0, .int .i64 0] 23) = V from HV.out.symm]
    refine (HA.out _ (HW.out.more HBV.out)).mono ?_
    rintro e w5 ⟨rfl, hb5⟩
    have HB5 := Lib.hid (HBV.out.trans (hb5.mono HBV.out.size))
    clear hb5
    go_wp2
    go_ret
    exact ⟨rfl, HB5.out⟩
theorem back_any (o d a b m : Int) (s : ByteArray) (hs : s.size ≤ 140737488355328) (w : World) (hw : Held w) :
    Calls Tryd.prog 5 #[insV o d a b m, .string s] w fun e w' => e = .returned (.bool true) ∧ Below w.heap.size w w' := by
  cases hv : validB o d a b m <;> cases hp : parT s.data.toList
  · exact back_ff o d a b m s hs hv hp w hw
  · exact back_ft o d a b m s hs hv hp w hw
  · exact back_tf o d a b m s hs hv hp w hw
  · exact back_tt o d a b m s hs hv hp w hw
end Go.Proofs.YtfdekfobcohcjaaDoor.As
