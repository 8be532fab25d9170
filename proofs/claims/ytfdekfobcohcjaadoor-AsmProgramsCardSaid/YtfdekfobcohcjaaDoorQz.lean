/- The walk of hermitagelaw10.AsmPrograms. -/
import Derived.Test.YtfdekfobcohcjaaDoorQx
import Derived.Test.YtfdekfobcohcjaaDoorQs
namespace Go.Proofs.YtfdekfobcohcjaaDoor.As
open Go.RowKit Ut Is Pl
set_option linter.unusedVariables false
set_option maxRecDepth 100000
set_option maxHeartbeats 8000000

theorem programs_awake (s : ByteArray) (a : Option Addr) (n cap : Nat) (h : 3000 < s.size ∨ 200 < n) (w : World) (hw : Held w) :
    Calls Tryd.prog 4 #[.string s, .slice a n cap] w fun e w' => e = .returned (.bool true) ∧ Below w.heap.size w w' := by
  have HA := Lib.hid (awake_any w hw)
  clear hw
  by_cases h1 : 3000 < s.size
  · have hi : (3000 : Int) < (s.size : Int) := by omega
    clear h
    go_enter Tryd.func4, Tryd.ntmps4
    go_wp2_with fail
    refine HA.out.mono ?_
    rintro e w1 ⟨rfl, hb1⟩
    go_wp2
    go_ret
    exact ⟨rfl, hb1⟩
  · have h2 : 200 < n := by omega
    have hi : ¬ (3000 : Int) < (s.size : Int) := by omega
    have hj : (200 : Int) < (n : Int) := by omega
    clear h
    go_enter Tryd.func4, Tryd.ntmps4
    go_wp2_with fail
    refine HA.out.mono ?_
    rintro e w1 ⟨rfl, hb1⟩
    go_wp2
    go_ret
    exact ⟨rfl, hb1⟩
theorem programs_both (s : ByteArray) (a : Option Addr) (n cap : Nat) (xs : List Nat) (h1 : s.size ≤ 3000) (h2 : n ≤ 200) (hx : ∀ x ∈ xs, x < 4294967296) (w : World) (hw : Held w) (hrow : RowK .u32 w w.heap.size a n (xs.map Int.ofNat)) :
    Calls Tryd.prog 4 #[.string s, .slice a n cap] w fun e w' => e = .returned (.bool true) ∧ Below w.heap.size w w' := by
  have HA := Lib.hid (fun W hW => awake_any W hW)
  have HR := Lib.hid hrow
  have HW := Lib.hid hw
  have HP := Lib.hid (program_any s (by omega) w hw)
  have HQ := Lib.hid (fun W => refProgram_any s (by omega) W)
  unfold ProgPost at HP HQ
  generalize hE : progE s.data.toList = E at HP HQ
  generalize hM : progN s.data.toList = M at HP HQ
  generalize hZ : progW s.data.toList = zs at HP HQ
  have HL := Lib.hid (fun W hW (hr : RowK .u32 W W.heap.size a n (xs.map Int.ofNat)) => list_short a n cap xs (by omega) hx W hW hr)
  have HM := Lib.hid (fun W (hr : RowK .u32 W W.heap.size a n (xs.map Int.ofNat)) => refList_short a n cap xs (by omega) hx W hr)
  generalize tb (listL xs) = T at HL HM
  have hi : (s.size : Int) ≤ 3000 := by omega
  have hj : (n : Int) ≤ 200 := by omega
  have hTT : (T.toList == T.toList) = true := beq_self_eq_true _
  have hEE : (E == E) = true := beq_self_eq_true _
  have hMM : (M == M) = true := beq_self_eq_true _
  clear hrow hw hx hE hM hZ
  go_enter Tryd.func4, Tryd.ntmps4
  go_wp2_with fail
  refine HP.out.mono ?_
  rintro e w1 ⟨a1, n1, c1, rfl, hr1, hn1, hb1⟩
  have HB1 := Lib.hid hb1
  have HR1 := Lib.hid hr1
  clear hb1 hr1
  go_wp2_with fail
  refine (HQ.out _).mono ?_
  rintro e w2 ⟨a2, n2, c2, rfl, hr2, hn2, hb2⟩
  have hnn : n2 = n1 := by have := hr2.1; have := HR1.out.1; omega
  subst hnn
  have HB2 := Lib.hid (HB1.out.trans (hb2.mono HB1.out.size))
  have HR12 := Lib.hid ((HR1.out.below hb2).more hb2.size)
  have HR2 := Lib.hid hr2
  clear hb2 hr2 HR1
  go_wp2_with fail
  refine (HL.out _ (HW.out.more HB2.out) ((HR.out.below HB2.out).more HB2.out.size)).mono ?_
  rintro e w3 ⟨rfl, hb3⟩
  have HB3 := Lib.hid (HB2.out.trans (hb3.mono HB2.out.size))
  have HR13 := Lib.hid ((HR12.out.below hb3).more hb3.size)
  have HR23 := Lib.hid ((HR2.out.below hb3).more hb3.size)
  clear hb3
  go_wp2_with fail
  refine (HM.out _ ((HR.out.below HB3.out).more HB3.out.size)).mono ?_
  rintro e w4 ⟨rfl, hb4⟩
  have HB4 := Lib.hid (HB3.out.trans (hb4.mono HB3.out.size))
  have HWD := Lib.hid (words_any a1 a2 n2 c1 c2 zs (by omega) w4 ((HR13.out.below hb4).more hb4.size) ((HR23.out.below hb4).more hb4.size))
  clear hb4
  go_wp2_with fail
  refine HWD.out.mono ?_
  rintro e w5 ⟨rfl, hb5⟩
  have HB5 := Lib.hid (HB4.out.trans (hb5.mono HB4.out.size))
  clear hb5
  go_wp2_with fail
  refine (HA.out _ (HW.out.more HB5.out)).mono ?_
  rintro e w6 ⟨rfl, hb6⟩
  have HB6 := Lib.hid (HB5.out.trans (hb6.mono HB5.out.size))
  clear hb6
  go_wp2
  go_ret
  exact ⟨rfl, HB6.out⟩
theorem programs_any (s : ByteArray) (a : Option Addr) (n cap : Nat) (xs : List Nat) (hx : ∀ x ∈ xs, x < 4294967296) (w : World) (hw : Held w) (hrow : RowK .u32 w w.heap.size a n (xs.map Int.ofNat)) :
    Calls Tryd.prog 4 #[.string s, .slice a n cap] w fun e w' => e = .returned (.bool true) ∧ Below w.heap.size w w' := by
  by_cases h : 3000 < s.size ∨ 200 < n
  · exact programs_awake s a n cap h w hw
  · exact programs_both s a n cap xs (by omega) (by omega) hx w hw hrow
end Go.Proofs.YtfdekfobcohcjaaDoor.As
