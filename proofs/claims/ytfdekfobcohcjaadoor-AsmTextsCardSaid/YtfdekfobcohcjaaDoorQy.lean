/- The walk of hermitagelaw10.AsmTexts. -/
import Derived.Test.YtfdekfobcohcjaaDoorQr
import Derived.Test.YtfdekfobcohcjaaDoorQo
import Derived.Test.YtfdekfobcohcjaaDoorQs
namespace Go.Proofs.YtfdekfobcohcjaaDoor.As
open Go.RowKit Ut Is Pl
set_option linter.unusedVariables false
set_option maxRecDepth 100000
set_option maxHeartbeats 8000000

theorem parV_ins (l : List UInt8) : ∃ p0 p1 p2 p3 p4 : Int, parV l = insV p0 p1 p2 p3 p4 := by
  unfold parV
  split
  · exact ⟨_, _, _, _, _, rfl⟩
  · exact ⟨_, _, _, _, _, rfl⟩
theorem texts_any (o d a b m : Int) (s : ByteArray) (hs : s.size ≤ 140737488355328) (w : World) (hw : Held w) :
    Calls Tryd.prog 3 #[insV o d a b m, .string s] w fun e w' => e = .returned (.bool true) ∧ Below w.heap.size w w' := by
  have HA := Lib.hid (fun W hW => awake_any W hW)
  have hb0 := ins_below o d a b m w
  have HB0 := Lib.hid hb0
  have HI0 := Lib.hid (ins_at o d a b m w)
  have HD0 : Hid (Held (insW o d a b m w)) := Lib.hid (hw.more hb0)
  have HW := Lib.hid hw
  have htx := fun W hW => text_any o d a b m W hW
  have hrx := fun W => refText_any o d a b m W
  generalize txS o d a b m = T at htx hrx
  generalize txE o d a b m = E at htx hrx
  have TX := Lib.hid htx
  have RX := Lib.hid hrx
  have hTT : (T.toList == T.toList) = true := beq_self_eq_true _
  have hEE : (E == E) = true := beq_self_eq_true _
  clear htx hrx hw hb0
  by_cases h5 : 500 < s.size
  · have h5i : (500 : Int) < (s.size : Int) := by omega
    go_enter Tryd.func3, Tryd.ntmps3
    go_wp2_with fail
    refine (TX.out _ HD0.out).mono ?_
    rintro e w1 ⟨rfl, hb1⟩
    have HI1 := Lib.hid (HI0.out.more hb1)
    have HB1 := Lib.hid (HB0.out.trans (hb1.mono HB0.out.size))
    obtain ⟨c0, c1, c2, c3, c4⟩ := HI1.out.cells
    have hl1 := HI1.out.lt
    clear hb1
    go_wp2_with fail
    refine (RX.out _).mono ?_
    rintro e w2 ⟨rfl, hb2⟩
    have HB2 := Lib.hid (HB1.out.trans (hb2.mono HB1.out.size))
    clear hb2 c0 c1 c2 c3 c4 hl1
    go_wp2_with fail
    refine (HA.out _ (HW.out.more HB2.out)).mono ?_
    rintro e w3 ⟨rfl, hb3⟩
    have HB3 := Lib.hid (HB2.out.trans (hb3.mono HB2.out.size))
    clear hb3
    go_wp2
    go_ret
    exact ⟨rfl, HB3.out⟩
  · have h5i : ¬ (500 : Int) < (s.size : Int) := by omega
    have hpx := fun W hW => parse_any s hs W hW
    have hqx := fun W => refParse_any s (by omega) W
    obtain ⟨p0, p1, p2, p3, p4, hpv⟩ := parV_ins s.data.toList
    rw [hpv] at hpx hqx
    generalize parE s.data.toList = F at hpx hqx
    have PX := Lib.hid hpx
    have QX := Lib.hid hqx
    have hFF : (F == F) = true := beq_self_eq_true _
    have e0 : (p0 == p0) = true := beq_self_eq_true _
    have e1 : (p1 == p1) = true := beq_self_eq_true _
    have e2 : (p2 == p2) = true := beq_self_eq_true _
    have e3 : (p3 == p3) = true := beq_self_eq_true _
    have e4 : (p4 == p4) = true := beq_self_eq_true _
    clear hpx hqx hpv hs
    go_enter Tryd.func3, Tryd.ntmps3
    go_wp2_with fail
    refine (TX.out _ HD0.out).mono ?_
    rintro e w1 ⟨rfl, hb1⟩
    have HI1 := Lib.hid (HI0.out.more hb1)
    have HB1 := Lib.hid (HB0.out.trans (hb1.mono HB0.out.size))
    obtain ⟨c0, c1, c2, c3, c4⟩ := HI1.out.cells
    have hl1 := HI1.out.lt
    clear hb1
    go_wp2_with fail
    refine (RX.out _).mono ?_
    rintro e w2 ⟨rfl, hb2⟩
    have HB2 := Lib.hid (HB1.out.trans (hb2.mono HB1.out.size))
    clear hb2 c0 c1 c2 c3 c4 hl1
    go_wp2_with fail
    refine (PX.out _ (HW.out.more HB2.out)).mono ?_
    rintro e w3 ⟨rfl, hb3⟩
    have HB3 := Lib.hid (HB2.out.trans (hb3.mono HB2.out.size))
    obtain ⟨U, hU⟩ : ∃ U, U = insW p0 p1 p2 p3 p4 w3 := ⟨_, rfl⟩
    have HU := Lib.hid hU
    have HBU : Hid (Below w.heap.size w U) := Lib.hid (HB3.out.trans ((hU ▸ ins_below p0 p1 p2 p3 p4 w3 : Below w3.heap.size w3 U).mono HB3.out.size))
    have HIU : Hid (InsAt U w3.heap.size p0 p1 p2 p3 p4) := Lib.hid (hU ▸ ins_at p0 p1 p2 p3 p4 w3)
    clear hb3 hU
    go_wp2_with fail
    rw [show w3.alloc (.cells #[.int .i64 p0, .int .i64 p1, .int .i64 p2, .int .i64 p3, .int .i64 p4] 23) = U from HU.out.symm]
    refine (QX.out _).mono ?_
    rintro e w4 ⟨rfl, hb4⟩
    have HB4 := Lib.hid (HBU.out.trans (hb4.mono HBU.out.size))
    have HI4 := Lib.hid (HIU.out.more hb4)
    obtain ⟨V, hV⟩ : ∃ V, V = insW p0 p1 p2 p3 p4 w4 := ⟨_, rfl⟩
    have HV := Lib.hid hV
    have hbV : Below w4.heap.size w4 V := hV ▸ ins_below p0 p1 p2 p3 p4 w4
    have HBV : Hid (Below w.heap.size w V) := Lib.hid (HB4.out.trans (hbV.mono HB4.out.size))
    have HJV : Hid (InsAt V w3.heap.size p0 p1 p2 p3 p4) := Lib.hid (HI4.out.more hbV)
    obtain ⟨c0, c1, c2, c3, c4⟩ := HI4.out.cells
    have hl4 := HI4.out.lt
    clear hb4 hV hbV
    go_wp2_with fail
    rw [show w4.alloc (.cells #[.int .i64 p0, .int .i64 p1, .int .i64 p2, .int .i64 p3, .int .i64 p4] 23) = V from HV.out.symm]
    refine (HA.out _ (HW.out.more HBV.out)).mono ?_
    rintro e w5 ⟨rfl, hb5⟩
    have HB5 := Lib.hid (HBV.out.trans (hb5.mono HBV.out.size))
    clear hb5
    go_wp2
    go_ret
    exact ⟨rfl, HB5.out⟩
end Go.Proofs.YtfdekfobcohcjaaDoor.As
