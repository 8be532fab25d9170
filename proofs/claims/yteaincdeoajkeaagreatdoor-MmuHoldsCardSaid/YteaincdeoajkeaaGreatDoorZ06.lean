/- Several texts in one: Oc Id Ie Ic If -/
import Derived.Test.YteaincdeoajkeaaGreatDoorZ04
import Derived.Deep.AppendLies
import Derived.Test.YteaincdeoajkeaaGreatDoorZ05
import Derived.Maps.AppendAt
section
/- The document's In, Get, Put and Sign of layer 2, and octet's Sign: what each returns, for every argument. -/
namespace Go.Proofs.YteaincdeoajkeaaGreatDoor.Oc
open Go.RowKit Ut
set_option maxRecDepth 100000
set_option linter.unusedVariables false

theorem refIn_any (a : Option Addr) (n cap : Nat) (i m : Int) (w : World) (hn : n ≤ 9223372036854775807) :
  Calls Tryz.prog 127 #[.slice a n cap, .int .i64 i, .int .i64 m] w fun e w' => e = .returned (.bool (hold n i m)) ∧ w = w' := by
 cases hw : isW m
 ·have HW := Lib.hid hw
  unfold isW at hw
  simp at hw
  have b1 : (m != 1) = true := by simp [hw]
  have b2 : (m != 2) = true := by simp [hw]
  have b3 : (m != 4) = true := by simp [hw]
  clear hw
  go_enter Tryz.func127, Tryz.ntmps127
  go_wp2
  go_ret
  exact ⟨congrArg (fun b => Ending.returned (.bool b)) (by unfold hold; rw [HW.out]; rfl), rfl⟩
 ·have HW := Lib.hid hw
  obtain ⟨hm1, hm4⟩ := isW_le hw
  obtain rfl | rfl | rfl : m = 1 ∨ m = 2 ∨ m = 4 := by unfold isW at hw; simp at hw; omega
  all_goals
   clear hw
   by_cases h0 : 0 ≤ i
   ·by_cases h1 : i ≤ n
    ·go_enter Tryz.func127, Tryz.ntmps127
     go_wp2
     go_ret
     refine ⟨congrArg (fun b => Ending.returned (.bool b)) ?_, rfl⟩
     unfold hold; rw [HW.out, Bool.eq_iff_iff]; simp; omega
    ·go_enter Tryz.func127, Tryz.ntmps127
     go_wp2
     go_ret
     refine ⟨congrArg (fun b => Ending.returned (.bool b)) ?_, rfl⟩
     unfold hold; rw [HW.out, Bool.eq_iff_iff]; simp; omega
   ·go_enter Tryz.func127, Tryz.ntmps127
    go_wp2
    go_ret
    refine ⟨congrArg (fun b => Ending.returned (.bool b)) ?_, rfl⟩
    unfold hold; rw [HW.out, Bool.eq_iff_iff]; simp; omega

theorem refGet_no (a : Option Addr) (n cap : Nat) (i m : Int) (w : World) (hn : n ≤ 9223372036854775807) (h : hold n i m = false) :
  Calls Tryz.prog 86 #[.slice a n cap, .int .i64 i, .int .i64 m] w fun e w' => e = .returned (.tuple #[.int .u32 0, .int .i64 1]) ∧ w = w' := by
 go_enter Tryz.func86, Tryz.ntmps86
 go_wp2_with (go_at_call 127; refine (refIn_any _ _ _ _ _ _ hn).mono ?_; rintro e w' ⟨rfl, rfl⟩)
 go_ret2
 exact ⟨rfl, rfl⟩

theorem refGet_yes (a : Option Addr) (n cap i m B : Nat) (zs : List Int) (w : World) (hn : n ≤ 140737488355328) (hrow : RowK .u8 w B a n zs) (hz : AreBytes zs) (hm : isW m = true) (hi : i + m ≤ n) :
  Calls Tryz.prog 86 #[.slice a n cap, .int .i64 i, .int .i64 m] w fun e w' => e = .returned (.tuple #[.int .u32 (num ((zs.drop i).take m)), .int .i64 0]) ∧ w = w' := by
 have hh := hold_nat hm hi
 obtain ⟨m1, m4⟩ := isW_le hm
 have HM := Lib.hid hm
 have HR := Lib.hid hrow
 have HZ := Lib.hid hz
 clear hrow hz hm
 have hn' : n ≤ 9223372036854775807 := by omega
 go_enter Tryz.func86, Tryz.ntmps86
 go_wp2_with (go_at_call 127; refine (refIn_any _ _ _ _ _ _ hn').mono ?_; rintro e w' ⟨rfl, rfl⟩)
 go_loop [8, 9] (fun v j => ∃ k : Nat, k ≤ m ∧ j = .int .i64 k ∧ v = .int .u32 (num (((zs.drop i).take m).take k))) (fun _ j => m - (intOf j).toNat)
 case atStart => exact ⟨0, Nat.zero_le _, rfl, rfl⟩
 case round =>
  obtain ⟨k, hk, rfl, rfl⟩ := hrel
  by_cases hlt : k < m
  ·obtain ⟨x, rfl, _, hx⟩ := HR.out.2 (i + k) (by omega)
   have HL : ((zs.drop i).take m).length = m := by simp [HR.out.1]; omega
   have HS := Lib.hid (add_step ((zs.drop i).take m) ((HZ.out.drop i).take m) k (by omega) (by omega))
   obtain ⟨s, hs⟩ : ∃ s, zs.getD (i + k) 0 = s := ⟨_, rfl⟩
   have e : ((zs.drop i).take m).getD k 0 = zs.getD (i + k) 0 := by simp [List.getD, hlt]
   rw [hs] at hx e
   rw [e] at HS
   have hi1 : (0 : Int) ≤ (i : Int) + (k : Int) := by omega
   have hi2 : (i : Int) + (k : Int) < (n : Int) := by omega
   clear hs e HL
   go_wp2
   go_round
   case rel => exact ⟨k + 1, by omega, by go_num, congrArg _ HS.out⟩
   case measure => simp [intOf]; omega
  ·go_wp2
   go_ret2
   exact ⟨by rw [show ((zs.drop i).take m).take k = (zs.drop i).take m from List.take_of_length_le (by simp; omega)]; rfl, rfl⟩

theorem refPut_own (a : Option Addr) (n cap i m : Nat) (v : Int) (zs : List Int) (w : World) (hn : n ≤ 140737488355328) (hrow : RowK .u8 w w.heap.size a n zs) (hm : isW m = true) (hi : i + m ≤ n) (hv0 : 0 ≤ v) (hv1 : v < 4294967296) :
  Calls Tryz.prog 93 #[.slice a n cap, .int .i64 i, .int .i64 m, .int .u32 v] w fun e w' =>
   ∃ g c, e = .returned (.tuple #[.slice (some ⟨g, 0, none⟩) n c, .int .i64 0]) ∧ w.heap.size ≤ g ∧ n ≤ c ∧ c ≤ 9223372036854775807 ∧ RowK .u8 w' w'.heap.size (some ⟨g, 0, none⟩) n (putZ zs i m v) ∧ Below w.heap.size w w' := by
 have hh := hold_nat hm hi
 obtain ⟨m1, m4⟩ := isW_le hm
 have HR := Lib.hid hrow
 clear hrow hm
 have HO := Lib.hid (OwnI.made .u8 w w.heap.size 5 (Nat.le_refl _))
 have hn' : n ≤ 9223372036854775807 := by omega
 have HA : Below w.heap.size w (w.alloc (.cells #[] 5)) := (Below.refl _ _).alloc (Nat.le_refl _) _
 go_enter Tryz.func93, Tryz.ntmps93
 go_wp2_with (first | (go_at_call 127; refine (refIn_any _ _ _ _ _ _ hn').mono ?_; rintro e w' ⟨rfl, rfl⟩) | (at_builtin; go_loud (refine wpList_append_ints rfl (.tmp 17) (.tmp 18) 70 rfl .u8 w.heap.size 5 1 Tryz.underlying70 info_byte _ 0 [] rfl HO.out w.heap.size a n cap zs rfl (HR.out.below HA) (by unfold maxLen; omega) (by omega) HA.size ?_); intro v1 w1 ho1 hb1 _))
 obtain ⟨g, c, hv1', hg0, hg1, hc0, hc1⟩ := ho1.out.form (by omega)
 subst hv1'
 have HO1 := Lib.hid ho1.out
 have hbw := HA.trans hb1
 unfold maxLen at hc1
 clear ho1 hb1 HO
 go_loopw [11] (fun j wr => ∃ k : Nat, k ≤ m ∧ j = .int .i64 k ∧ Below w.heap.size w wr ∧ OwnI .u8 wr w.heap.size 5 (.slice (some ⟨g, 0, none⟩) (0 + n) c) (0 + n) (putZ zs i k v)) (fun j _ => m - (intOf j).toNat)
 case atStart => exact ⟨0, Nat.zero_le _, rfl, hbw, by rw [putZ_none]; exact HO1.out⟩
 case round =>
  obtain ⟨k, hk, rfl, hb2, ho2⟩ := hrel
  have HO2 := Lib.hid ho2
  clear ho2 hbw HA
  by_cases hlt : k < m
  ·have hx := HO2.out.cellAt (i + k) (by omega)
   have hf := HO2.out.frozenAt (i + k)
   have hi1 : (0 : Int) ≤ (i : Int) + (k : Int) := by omega
   have hi2 : (i : Int) + (k : Int) < (n : Int) := by omega
   have HS := Lib.hid (HO2.out.store (i + k) (byteN v k))
   rw [putZ_step _ _ _ _ (by rw [HR.out.1]; omega)] at HS
   go_wp2
   go_roundw
   case rel => exact ⟨k + 1, by omega, by go_num, hb2.setCell hg0 _, HS.out⟩
   case measure => simp [intOf]; omega
  ·obtain rfl : k = m := by omega
   go_wp2
   go_ret2
   refine ⟨g, c, by simp, hg0, by omega, by omega, ?_, hb2⟩
   obtain ⟨a', c', e, _, _, hr⟩ := HO2.out.row
   injection e with e1 e2 e3
   subst e1
   rwa [Nat.zero_add] at hr
end Go.Proofs.YteaincdeoajkeaaGreatDoor.Oc
end
section
/- The document's store of frames: a slice of slices of bytes, told by a list of lists; its methods but New and Clean. -/
namespace Go.Proofs.YteaincdeoajkeaaGreatDoor.Fr
open Go.RowKit Ut Oc
set_option linter.unusedVariables false

/-- a slice of a frame's bytes, in memory of its own from block B on -/
def Row64 (w : World) (B : Nat) (v : Value) (xs : List Int) : Prop :=
 ∃ g c, v = .slice (some ⟨g, 0, none⟩) 64 c ∧ B ≤ g ∧ 64 ≤ c ∧ c ≤ 9223372036854775807 ∧ RowK .u8 w w.heap.size (some ⟨g, 0, none⟩) 64 xs

theorem Row64.kept {w w' : World} {B : Nat} {v : Value} {xs : List Int} {row : Option Nat} (h : Row64 w B v xs) (hg : w.grownBy w' row) (hr : ∀ g, v.ownBlock = some g → row ≠ some g) : Row64 w' B v xs := by
 obtain ⟨g, c, rfl, hB, h1, h2, h3⟩ := h
 refine ⟨g, c, rfl, hB, h1, h2, h3.1, fun i hi => ?_⟩
 obtain ⟨x, e, hx, hc⟩ := h3.2 i hi
 injection e with e
 subst e
 refine ⟨_, rfl, Nat.lt_of_lt_of_le hx hg.size, ?_⟩
 rw [World.cell?_of_block (w := w)]
 ·exact hc
 ·rw [block_of_add]
  exact hg.block g hx (fun e => hr g rfl e.symm)

/-- block bt is the document's store; its frames' bytes are R; all its memory lies from block B on -/
structure RT (w : World) (bt B n : Nat) (R : List (List Int)) (v : Value) (vs : List Value) : Prop where
 box : w.heap[bt]? = some (.cells #[v] 64 (0, 0))
 lo : B ≤ bt
 own : w.ownsRow B 70 1 v n vs
 len : R.length = n
 rows : ∀ i, i < n → Row64 w B (vs.getD i undef) (R.getD i [])
 bytes : ∀ i, i < n → AreBytes (R.getD i [])
 nil0 : n = 0 → v = .slice none 0 0

section
variable {w w' : World} {bt B n : Nat} {R : List (List Int)} {v : Value} {vs : List Value}
theorem RT.lt (h : RT w bt B n R v vs) : bt < w.heap.size := (Array.getElem?_eq_some_iff.1 h.box).1
theorem RT.vlen (h : RT w bt B n R v vs) : vs.length = n := by have := h.own.1; simpa using this
/-- what is done below block B, or in new blocks, leaves it as it was -/
theorem RT.kept {row : Option Nat} (h : RT w bt B n R v vs) (hg : w.grownBy w' row) (hr : ∀ k, row = some k → k < B) : RT w' bt B n R v vs where
 box := by rw [hg.block bt h.lt (fun e => by have := hr bt e.symm; have := h.lo; omega)]; exact h.box
 lo := h.lo
 own := h.own.kept hg (by
  cases hv : v.ownBlock with
  | none => exact .inl rfl
  | some g => exact .inr fun e => by have := hr g e.symm; have := (h.own.lt g hv).1; omega)
 len := h.len
 rows := fun i hi => (h.rows i hi).kept hg (fun g hgv e => by
  obtain ⟨g', c, hv, hB, _⟩ := h.rows i hi
  rw [hv] at hgv
  simp [Value.ownBlock] at hgv
  have := hr g e
  omega)
 bytes := h.bytes
 nil0 := h.nil0
theorem grown_of_below (hb : Below w.heap.size w w') : w.grownBy w' none := ⟨hb.os, hb.tape, hb.output, hb.size, fun k hk _ => hb.block k hk⟩
theorem RT.below (h : RT w bt B n R v vs) (hb : Below w.heap.size w w') : RT w' bt B n R v vs := h.kept (grown_of_below hb) (fun k hk => by cases hk)
theorem RT.cell0 (h : RT w bt B n R v vs) : w.cell? ⟨bt, 0, none⟩ = some v := by simp [World.cell?, h.box]
/-- the slice of its frames -/
theorem RT.form (h : RT w bt B n R v vs) (hn : 0 < n) : ∃ g cap, v = .slice (some ⟨g, 0, none⟩) n cap ∧ B ≤ g ∧ g < w.heap.size := h.own.form hn
theorem RT.form0 (h : RT w bt B n R v vs) : ∃ a cap, v = .slice a n cap := by
 rcases h.own.2 with ⟨rfl, rfl⟩ | ⟨g, cap, cur, rfl, _⟩
 ·exact ⟨none, 0, rfl⟩
 ·exact ⟨_, cap, rfl⟩
/-- frame f -/
theorem RT.at_ {gv cap : Nat} (h : RT w bt B n R (.slice (some ⟨gv, 0, none⟩) n cap) vs) (f : Nat) (hf : f < n) :
  ∃ g c, w.cell? ⟨gv, f, none⟩ = some (.slice (some ⟨g, 0, none⟩) 64 c) ∧ 64 ≤ c ∧ c ≤ 9223372036854775807 ∧ RowK .u8 w w.heap.size (some ⟨g, 0, none⟩) 64 (R.getD f []) := by
 obtain ⟨g, c, hv, hB, h1, h2, h3⟩ := h.rows f hf
 refine ⟨g, c, ?_, h1, h2, h3⟩
 rw [h.own.cellAt f (by omega)]
 have hl := h.vlen
 simp only [List.getD, List.getElem?_eq_getElem (show f < vs.length by omega), Option.getD_some] at hv
 rw [List.getElem?_eq_getElem (by omega), hv]
/-- a frame's slice turned to another one -/
theorem RT.set {gv cap : Nat} (h : RT w bt B n R (.slice (some ⟨gv, 0, none⟩) n cap) vs) (f : Nat) (hf : f < n) (u : Value) (xs : List Int) (hu : Row64 w B u xs) (hx : AreBytes xs) :
  RT (w.setCell ⟨gv, f, none⟩ u) bt B n (R.set f xs) (.slice (some ⟨gv, 0, none⟩) n cap) (vs.set f u) := by
 obtain ⟨ho, hg⟩ := h.own.stored f u
 have hl := h.vlen
 have hR := h.len
 have hne : ∀ (y : Value) (ys : List Int), Row64 w B y ys → ∀ g, y.ownBlock = some g → some gv ≠ some g := by
  intro y ys hy g hyg e
  injection e with e
  subst e
  obtain ⟨g', c, hv, _, h1, _, h3⟩ := hy
  subst hv
  simp [Value.ownBlock] at hyg
  subst hyg
  obtain ⟨x, e, _, hc⟩ := h3.2 0 (by omega)
  injection e with e
  subst e
  rw [add_plain] at hc
  obtain ⟨q1, q2, hq, _⟩ := h.at_ 0 (by omega)
  rw [hq] at hc
  cases hc
 refine ⟨?_, h.lo, ho, by rw [List.length_set]; exact hR, fun i hi => ?_, fun i hi => ?_, fun e => by omega⟩
 ·rw [hg.block bt h.lt (fun e => ?_)]
  ·exact h.box
  ·injection e with e
   subst e
   have hb := h.box
   rcases h.own.2 with ⟨hq, _⟩ | ⟨g2, cap2, cur, hq, _, hg2, _⟩
   ·cases hq
   ·injection hq with hq
    injection hq with hq
    injection hq with hq
    subst hq
    rw [hb] at hg2
    injection hg2 with hg2
    injection hg2 with _ hg2
    cases hg2
 ·by_cases e : i = f
  ·subst e
   have e1 : (vs.set i u).getD i undef = u := by simp [List.getD, show i < vs.length by omega]
   have e2 : (R.set i xs).getD i [] = xs := by simp [List.getD, show i < R.length by omega]
   rw [e1, e2]
   exact hu.kept hg (hne u xs hu)
  ·have e1 : (vs.set f u).getD i undef = vs.getD i undef := by simp only [List.getD]; rw [List.getElem?_set_ne (fun q => e q.symm)]
   have e2 : (R.set f xs).getD i [] = R.getD i [] := by simp only [List.getD]; rw [List.getElem?_set_ne (fun q => e q.symm)]
   rw [e1, e2]
   exact (h.rows i hi).kept hg (hne _ _ (h.rows i hi))
 ·by_cases e : i = f
  ·subst e
   have e2 : (R.set i xs).getD i [] = xs := by simp [List.getD, show i < R.length by omega]
   rw [e2]; exact hx
  ·have e2 : (R.set f xs).getD i [] = R.getD i [] := by simp only [List.getD]; rw [List.getElem?_set_ne (fun q => e q.symm)]
   rw [e2]; exact h.bytes i hi
end
end Go.Proofs.YteaincdeoajkeaaGreatDoor.Fr
end
section
/- The document's store of frames: what Is, Load, Save, Bytes return and leave, for every argument. -/
namespace Go.Proofs.YteaincdeoajkeaaGreatDoor.Fr
open Go.RowKit Ut Oc
set_option linter.unusedVariables false

theorem refIs_any (bt B n : Nat) (f : Int) (R : List (List Int)) (v : Value) (vs : List Value) (w : World) (hT : RT w bt B n R v vs) (b : Bool) (hb : b = (decide (0 ≤ f) && decide (f < n))) :
  Calls Tryz.prog 80 #[.pointer (some ⟨bt, 0, none⟩), .int .i64 f] w fun e w' => e = .returned (.bool b) ∧ w = w' := by
 have h0 := hT.cell0
 obtain ⟨a, cap, rfl⟩ := hT.form0
 clear hT
 subst hb
 rcases Int.lt_or_le f 0 with f0 | f0
 ·have f1 : decide (0 ≤ f) = false := by simp; omega
  go_enter Tryz.func80, Tryz.ntmps80
  go_wp2
  go_ret
  exact ⟨by rw [f1]; rfl, rfl⟩
 ·have f1 : decide (0 ≤ f) = true := by simpa using f0
  rcases Int.lt_or_le f n with f2 | f2
  ·have f3 : decide (f < (n : Int)) = true := by simpa using f2
   go_enter Tryz.func80, Tryz.ntmps80
   go_wp2
   go_ret
   exact ⟨by rw [f1, f3]; rfl, rfl⟩
  ·have f3 : decide (f < (n : Int)) = false := by simpa using f2
   go_enter Tryz.func80, Tryz.ntmps80
   go_wp2
   go_ret
   exact ⟨by rw [f1, f3]; rfl, rfl⟩
theorem refIs_in {bt B n f : Nat} {R : List (List Int)} {v : Value} {vs : List Value} {w : World} (hT : RT w bt B n R v vs) (hf : f < n) :
  Calls Tryz.prog 80 #[.pointer (some ⟨bt, 0, none⟩), .int .i64 f] w fun e w' => e = .returned (.bool true) ∧ w = w' :=
 refIs_any bt B n f R v vs w hT true (by
  have : (f : Int) < n := by omega
  simp [this])
theorem refLoad_in {bt B n f o m : Nat} {R : List (List Int)} {v : Value} {vs : List Value} {w : World} (hT : RT w bt B n R v vs) (hf : f < n) (hm : isW m = true) (hi : o + m ≤ 64) :
  Calls Tryz.prog 47 #[.pointer (some ⟨bt, 0, none⟩), .int .i64 f, .int .i64 o, .int .i64 m] w fun e w' => e = .returned (.tuple #[.int .u32 (num (((R.getD f []).drop o).take m)), .int .i64 0]) ∧ w = w' := by
 have HI := Lib.hid (refIs_in hT hf)
 have h0 := hT.cell0
 obtain ⟨gv, cap, rfl, _⟩ := hT.form (by omega)
 obtain ⟨g, c, h1, _, hc, hr⟩ := hT.at_ f hf
 have HR := Lib.hid hr
 have HZ := Lib.hid (hT.bytes f hf)
 have HM := Lib.hid hm
 have HO := Lib.hid hi
 have f1 : (0 : Int) ≤ (f : Int) ∧ (f : Int) < (n : Int) := by omega
 clear hT hr hm hi
 go_enter Tryz.func47, Tryz.ntmps47
 go_wp2_with (first | (go_at_call 80; refine HI.out.mono ?_; rintro e w' ⟨rfl, rfl⟩) | (go_at_call 86; refine (refGet_yes _ 64 _ o m _ _ _ (by omega) HR.out HZ.out HM.out HO.out).mono ?_; rintro e w' ⟨rfl, rfl⟩))
 go_ret2
 exact ⟨rfl, rfl⟩
theorem refSave_own {bt B n f o m : Nat} {x : Int} {R : List (List Int)} {v : Value} {vs : List Value} {w : World} (hT : RT w bt B n R v vs) (hf : f < n) (hm : isW m = true) (hi : o + m ≤ 64) (hv0 : 0 ≤ x) (hv1 : x < 4294967296) :
  Calls Tryz.prog 54 #[.pointer (some ⟨bt, 0, none⟩), .int .i64 f, .int .i64 o, .int .i64 m, .int .u32 x] w fun e w' =>
   e = .returned (.int .i64 0) ∧ (∃ vs', RT w' bt B n (R.set f (putZ (R.getD f []) o m x)) v vs') ∧ w.grownBy w' v.ownBlock := by
 have HI := Lib.hid (refIs_in hT hf)
 have h0 := hT.cell0
 obtain ⟨gv, cap, rfl, hgB, hgl⟩ := hT.form (by omega)
 obtain ⟨g, c, h1, _, hc, hr⟩ := hT.at_ f hf
 have HR := Lib.hid hr
 have HZ := Lib.hid (hT.bytes f hf)
 have HM := Lib.hid hm
 have HO := Lib.hid hi
 have HV := Lib.hid (And.intro hv0 hv1)
 have HT := Lib.hid hT
 have HLO := Lib.hid (show B ≤ w.heap.size by have := hT.lo; have := hT.lt; omega)
 have f1 : (0 : Int) ≤ (f : Int) ∧ (f : Int) < (n : Int) := by omega
 clear hT hr hm hi hv0 hv1
 go_enter Tryz.func54, Tryz.ntmps54
 go_upto_region 5 with (first | (go_at_call 80; refine HI.out.mono ?_; rintro e w' ⟨rfl, rfl⟩) | (go_at_call 93; refine (refPut_own _ 64 _ o m x _ _ (by omega) HR.out HM.out HO.out HV.out.1 HV.out.2).mono ?_; rintro e w2 ⟨g2, c2, rfl, hg2, hc2, hc3, hr2, hb2⟩))
 have HT2 := Lib.hid (HT.out.below hb2)
 have h02 := HT2.out.cell0
 have hfr := HT2.out.own.frozenAt f
 obtain ⟨_, _, h12, _⟩ := HT2.out.at_ f hf
 have HS : Hid (RT (w2.setCell ⟨gv, f, none⟩ (.slice (some ⟨g2, 0, none⟩) 64 c2)) bt B n (R.set f (putZ (R.getD f []) o m x)) (.slice (some ⟨gv, 0, none⟩) n cap) (vs.set f (.slice (some ⟨g2, 0, none⟩) 64 c2))) :=
  HT2.out.set f hf _ _ ⟨g2, c2, rfl, Nat.le_trans HLO.out hg2, hc2, hc3, hr2⟩ (putZ_bytes HZ.out o m x)
 have HB : Hid (w.grownBy (w2.setCell ⟨gv, f, none⟩ (.slice (some ⟨g2, 0, none⟩) 64 c2)) (some gv)) := ⟨hb2.os, hb2.tape, hb2.output, by have := hb2.size; simpa [World.setCell] using this, fun k hk hne => (Below.heap_setCell _ _ _ _ (fun e => hne (by rw [e]))).trans (hb2.block k hk)⟩
 clear h0 h1 hr2
 go_wp2
 go_ret
 exact ⟨rfl, ⟨_, HS.out⟩, HB.out⟩

end Go.Proofs.YteaincdeoajkeaaGreatDoor.Fr
end
section
/- Package frames: Clear, Bytes, Clean of a frame that is there. -/
namespace Go.Proofs.YteaincdeoajkeaaGreatDoor.Fr
open Go.RowKit Ut Oc
set_option maxRecDepth 100000
set_option linter.unusedVariables false

/-- a frame of zeros -/
def zer : List Int := List.replicate 64 0
theorem zer_len : zer.length = 64 := List.length_replicate
theorem zer_bytes : AreBytes zer := fun z hz => by rw [List.eq_of_mem_replicate hz]; omega
set_option maxRecDepth 100000 in
theorem bytes_in (b n f : Nat) (L : List Int) (w : World) (hS : St w b n L) (hf : f < n) :
  Calls Tryz.prog 21 #[.pointer (some ⟨b, 0, none⟩), .int .i64 f] w fun e w' =>
   e = .returned (.tuple #[.slice (some ⟨w.heap.size, 0, none⟩) 64 64, .int .i64 0]) ∧ RowK .u8 w' w'.heap.size (some ⟨w.heap.size, 0, none⟩) 64 (frameL L f) ∧ Below w.heap.size w w' := by
 have hn := hS.2.2.2
 have hlt := hS.lt
 have hl := hS.2.1
 have hfl := length_frameL hl (f := f) (by omega)
 have HR := Lib.hid ((hS.frame f (by omega)).more (B' := w.heap.size) (by omega))
 have hmk : ∀ W, (Instr.makeSlice 70 (.int .i64 64) (.int .i64 64)).run Tryz.prog W = .ok (.slice (some ⟨W.heap.size, 0, none⟩) 64 64) (W.alloc (.cells (madeCells #[.int .u8 0] 64) 5)) := fun W => run_make_row' (P := Tryz.prog) 70 5 (.int .u8 0) 1 Tryz.underlying70 info_byte rfl .i64 .i64 64 (by omega) (by omega) W
 have HG := Lib.hid (made_heap w (.int .u8 0) 64 5)
 have HA : Below w.heap.size w (w.alloc (.cells (madeCells #[.int .u8 0] 64) 5)) := (Below.refl _ _).alloc (Nat.le_refl _) _
 have HL : 64 ≤ (List.replicate 64 (Value.int .u8 0)).length := by rw [List.length_replicate]; omega
 have HS := Lib.hid hS
 have HF := Lib.hid hf
 have HFL := Lib.hid hfl
 clear hS hf hn hl hfl hlt
 go_enter Tryz.func21, Tryz.ntmps21
 go_wp2_with (first | (go_at_call 55; refine (find_in b n f L w HS.out HF.out).mono ?_; rintro e w' ⟨rfl, rfl⟩) | (refine wpList_copy_head rfl (.tmp 19) (.tmp 22) 70 70 rfl 5 Tryz.underlying70 size_byte w.heap.size 64 64 64 64 _ _ _ (frameL L f) rfl rfl _ 5 HG.out (HR.out.below HA) (Nat.le_refl _) HL w.heap.size w HA (Nat.le_refl _) ?_; intro w2 HG2 hb2))
 have hI : w2.rowIs w.heap.size 5 64 (fun i => .int .u8 ((frameL L f).getD i 0)) := by
  have h := HG2.out
  rw [List.drop_of_length_le (by rw [List.length_replicate]; omega), List.append_nil] at h
  have := is_of_list h
  rwa [HFL.out] at this
 have HI := Lib.hid (RowK.of_is hI (frameL L f) HFL.out (fun i _ => rfl))
 clear HG2 HG hI
 go_ret2
 exact ⟨rfl, HI.out, hb2⟩
end Go.Proofs.YteaincdeoajkeaaGreatDoor.Fr
end
section
/- The document's store of frames: Clear, Clean of a frame that is there; New. -/
namespace Go.Proofs.YteaincdeoajkeaaGreatDoor.Fr
open Go.RowKit Ut Oc
set_option linter.unusedVariables false

/-- a new row of zeros -/
def zc : List Value := zer.map (Value.int .u8)
theorem made_zc : madeCells #[.int .u8 0] 64 = zc.toArray := by kernel_rfl
theorem mk64 (W : World) : (Instr.makeSlice 70 (.int .i64 64) (.int .i64 64)).run Tryz.prog W = .ok (.slice (some ⟨W.heap.size, 0, none⟩) 64 64) (W.alloc (.cells zc.toArray 5)) := by
 rw [← made_zc]
 exact run_make_row' (P := Tryz.prog) 70 5 (.int .u8 0) 1 Tryz.underlying70 info_byte rfl .i64 .i64 64 (by omega) (by omega) W
theorem row64_new (w : World) (B : Nat) (hB : B ≤ w.heap.size) : Row64 (w.alloc (.cells zc.toArray 5)) B (.slice (some ⟨w.heap.size, 0, none⟩) 64 64) zer := by
 refine ⟨_, 64, rfl, hB, Nat.le_refl _, by omega, zer_len, fun i hi => ⟨_, rfl, by simp, ?_⟩⟩
 rw [add_plain]
 have h : (w.alloc (.cells zc.toArray 5)).heap[w.heap.size]? = some (.cells zc.toArray 5 (0, 0)) := heap_alloc_new w _
 have hl := zer_len
 unfold World.cell?
 simp only [h]
 simp [zc, List.getD, show i < zer.length by omega]

theorem info_row : (Tryz.prog.info? 70).map (fun i => (i.zero, i.size, i.bytes)) = some (some (.slice none 0 0), 1, 24) := by kernel_rfl

/-- one frame more -/
theorem RT.more {w : World} {bt B k : Nat} {R : List (List Int)} {v : Value} {vs : List Value} (h : RT w bt B k R v vs) (hB : B ≤ w.heap.size) (hk : k < 32) (W2 : World)
  (hW2 : W2 = (w.alloc (.cells zc.toArray 5)).alloc (.cells #[.slice (some ⟨w.heap.size, 0, none⟩) 64 64] 70)) (ty : TypeId) :
  ∃ v' w', (Builtin.append_ #[62, 62] ty #[v, .slice (some ⟨w.heap.size + 1, 0, none⟩) 1 1]).run Tryz.prog W2 = .ok v' w' ∧ w'.cell? ⟨bt, 0, none⟩ = some v ∧ w'.frozen? ⟨bt, 0, none⟩ = false ∧
   RT (w'.setCell ⟨bt, 0, none⟩ v') bt B (k + 1) (R ++ [zer]) v' (vs ++ [.slice (some ⟨w.heap.size, 0, none⟩) 64 64]) ∧ Below B w (w'.setCell ⟨bt, 0, none⟩ v') := by
 have hA : Below w.heap.size w W2 := by subst hW2; exact ((Below.refl _ _).alloc (Nat.le_refl _) _).alloc (by simp) _
 have hR1 := (row64_new w B hB)
 have hR2 : Row64 W2 B (.slice (some ⟨w.heap.size, 0, none⟩) 64 64) zer := by subst hW2; exact hR1.kept (World.grownBy_alloc _ _ none) (fun g hg e => by cases e)
 have h2 := h.below hA
 have hsz := hA.size
 cases hq : Tryz.prog.info? 70 with
 | none => have := info_row; simp [hq] at this
 | some i =>
  have hin := info_row
  simp only [hq, Option.map_some, Option.some.injEq, Prod.mk.injEq] at hin
  obtain ⟨hz, hs, hb⟩ := hin
  have hnc : ∀ j u, [Value.slice (some ⟨w.heap.size, 0, none⟩) 64 64][j]? = some u → W2.cell? ((⟨w.heap.size + 1, 0, none⟩ : Addr).add j) = some u := by
   intro j u hj
   cases j with
   | succ j => simp at hj
   | zero =>
    simp at hj
    subst hj hW2
    rw [add_plain]
    have e := heap_alloc_new (w.alloc (.cells zc.toArray 5)) (.cells #[.slice (some ⟨w.heap.size, 0, none⟩) 64 64] 70)
    have es : (w.alloc (.cells zc.toArray 5)).heap.size = w.heap.size + 1 := by simp
    rw [es] at e
    unfold World.cell?
    simp only [e]
    rfl
  obtain ⟨v', w', hrun, ho, hg, _, hob⟩ := run_append_own_at (P := Tryz.prog) W2 B 62 ty 70 i (.slice none 0 0) 1 24 Tryz.underlying62 hq hz hs hb rfl (by omega) v k vs h2.own ⟨w.heap.size + 1, 0, none⟩ 1 1 [.slice (some ⟨w.heap.size, 0, none⟩) 64 64] rfl hnc (fun u hu => by simp at hu; subst hu; rfl) (by unfold maxLen; omega) (by omega) (by omega)
  have hvb : v.ownBlock ≠ some bt := by
   rcases h2.own.2 with ⟨rfl, _⟩ | ⟨g2, cap2, cur, rfl, _, hg2, _⟩
   ·simp [Value.ownBlock]
   ·simp only [Value.ownBlock]
    intro e
    simp at e
    subst e
    have hb2 := h2.box
    rw [hb2] at hg2
    injection hg2 with hg2
    injection hg2 with _ hg2
    cases hg2
  have hbox : w'.heap[bt]? = some (.cells #[v] 64 (0, 0)) := (hg.block bt h2.lt (fun e => hvb e.symm)).trans h2.box
  have hbl : bt < w'.heap.size := (Array.getElem?_eq_some_iff.1 hbox).1
  have hvb2 : v'.ownBlock ≠ some bt := by
   rcases hob with e | e
   ·rw [e]; exact hvb
   ·rw [e]
    have := h2.lt
    intro q
    injection q with q
    omega
  have hgs : w'.grownBy (w'.setCell ⟨bt, 0, none⟩ v') (some bt) := ⟨rfl, rfl, rfl, by simp [World.setCell], fun q _ hne => Below.heap_setCell _ _ _ _ (fun e => hne (by rw [e]))⟩
  -- a byte row's block is neither the box nor the outer row's
  have hrow : ∀ (y : Value) (ys : List Int), Row64 W2 B y ys → Row64 (w'.setCell ⟨bt, 0, none⟩ v') B y ys := by
   intro y ys hy
   obtain ⟨g', c, rfl, hB', q1, q2, q3⟩ := id hy
   obtain ⟨x, e, hxl, hc⟩ := q3.2 0 (by omega)
   injection e with e
   subst e
   rw [add_plain] at hc
   refine (hy.kept hg fun g hyg e => ?_).kept hgs fun g hyg e => ?_
   ·simp [Value.ownBlock] at hyg
    subst hyg
    rcases h2.own.2 with ⟨hq2, _⟩ | ⟨g2, cap2, cur, hq2, _, hg2, hcap, _, hcs, htk⟩
    ·rw [hq2] at e; simp [Value.ownBlock] at e
    ·rw [hq2] at e
     simp [Value.ownBlock] at e
     subst e
     by_cases hk0 : k = 0
     ·have := h2.nil0 hk0
      rw [hq2] at this
      cases this
     ·have h20 := h2
      rw [hq2] at h20
      obtain ⟨q4, q5, hq6, _⟩ := h20.at_ 0 (by omega)
      rw [hq6] at hc
      cases hc
   ·simp [Value.ownBlock] at hyg
    injection e with e
    subst hyg e
    simp [World.cell?, h2.box] at hc
    have := h2.own
    rw [hc] at this
    rcases this.2 with ⟨hq2, _⟩ | ⟨_, _, _, hq2, _⟩ <;> cases hq2
  refine ⟨v', w', hrun, by simp [World.cell?, hbox], by simp [World.frozen?, hbox], ⟨?_, h.lo, ?_, by simp [h.len], ?_, ?_, fun e => by omega⟩, ?_⟩
  ·have := heap_setCell_same w' bt 0 #[v] 64 v' hbox
   simpa using this
  ·exact ho.kept hgs (.inr hvb2)
  ·intro i hi
   by_cases e : i = k
   ·subst e
    have e1 : (vs ++ [Value.slice (some ⟨w.heap.size, 0, none⟩) 64 64]).getD i undef = .slice (some ⟨w.heap.size, 0, none⟩) 64 64 := by simp [List.getD, h.vlen]
    have e2 : (R ++ [zer]).getD i [] = zer := by simp [List.getD, h.len]
    rw [e1, e2]
    exact hrow _ _ hR2
   ·have hik : i < k := by omega
    have e1 : (vs ++ [Value.slice (some ⟨w.heap.size, 0, none⟩) 64 64]).getD i undef = vs.getD i undef := by simp only [List.getD]; rw [List.getElem?_append_left (by rw [h.vlen]; exact hik)]
    have e2 : (R ++ [zer]).getD i [] = R.getD i [] := by simp only [List.getD]; rw [List.getElem?_append_left (by rw [h.len]; exact hik)]
    rw [e1, e2]
    exact hrow _ _ (h2.rows i hik)
  ·intro i hi
   by_cases e : i = k
   ·subst e
    have e2 : (R ++ [zer]).getD i [] = zer := by simp [List.getD, h.len]
    rw [e2]; exact zer_bytes
   ·have e2 : (R ++ [zer]).getD i [] = R.getD i [] := by simp only [List.getD]; rw [List.getElem?_append_left (by rw [h.len]; omega)]
    rw [e2]; exact h.bytes i (by omega)
  ·refine ((hA.mono hB).grown hg (by omega) fun q hq => ?_).setCell (p := ⟨bt, 0, none⟩) h.lo v'
   exact (h2.own.lt q hq).1

set_option maxRecDepth 100000 in
theorem refNew_ok (n : Nat) (w : World) (h : n ≤ 32) :
  Calls Tryz.prog 27 #[.int .i64 n] w fun e w' =>
   e = .returned (.tuple #[.pointer (some ⟨w.heap.size, 0, none⟩), .int .i64 0]) ∧ (∃ v vs, RT w' w.heap.size w.heap.size n (List.replicate n zer) v vs) ∧ Below w.heap.size w w' := by
 have f1 : decide ((n : Int) < 0) = false := by simp
 have f2 : decide ((32 : Int) < (n : Int)) = false := by simp; omega
 have hn1 : (n : Int) ≤ 32 := by omega
 have HH := Lib.hid h
 have hT0 : RT (w.alloc (.cells #[.slice none 0 0] 64)) w.heap.size w.heap.size 0 [] (.slice none 0 0) [] :=
  ⟨heap_alloc_new w _, Nat.le_refl _, World.ownsRow_nil _ _ _ _, rfl, fun i hi => absurd hi (Nat.not_lt_zero i), fun i hi => absurd hi (Nat.not_lt_zero i), fun _ => rfl⟩
 have HT0 := Lib.hid hT0
 have HB0 := (Below.refl w.heap.size w).alloc (Nat.le_refl _) (.cells #[.slice none 0 0] 64)
 have hmk := mk64
 clear h hT0
 go_enter Tryz.func27, Tryz.ntmps27
 go_wp2
 go_loopw [5] (fun j wr => ∃ (k : Nat) (v : Value) (vs : List Value), k ≤ n ∧ j = .int .i64 k ∧ Hid (RT wr w.heap.size w.heap.size k (List.replicate k zer) v vs) ∧ Below w.heap.size w wr) (fun j _ => n - (intOf j).toNat)
 case atStart => exact ⟨0, _, _, Nat.zero_le _, rfl, HT0, HB0⟩
 case round =>
  obtain ⟨k, v, vs, hk, rfl, HT, hbw⟩ := hrel
  by_cases hlt : k < n
  ·have hsz := hbw.size
   have hg32 := HH.out
   have hle : w.heap.size ≤ wr.heap.size := by have := HT.out.lt; omega
   obtain ⟨v', w', hrun, hc, hfz, hT', hb'⟩ := (HT.out.below (Below.refl _ _).drew).more hle (by omega) ((wr.alloc (.cells zc.toArray 5)).alloc (.cells #[.slice (some ⟨wr.heap.size, 0, none⟩) 64 64] 70)).drew rfl 62
   have h0 : (((wr.alloc (.cells zc.toArray 5)).alloc (.cells #[.slice (some ⟨wr.heap.size, 0, none⟩) 64 64] 70)).drew).cell? ⟨w.heap.size, 0, none⟩ = some v :=
    ((((Below.refl wr.heap.size wr).alloc (Nat.le_refl _) _).alloc (by simp) _).cell (p := ⟨w.heap.size, 0, none⟩) HT.out.lt).trans HT.out.cell0
   obtain ⟨g', cap', rfl, _⟩ := hT'.form (by omega)
   have h0a := HT.out.cell0
   have h0b : (wr.alloc (.cells zc.toArray 5)).cell? ⟨w.heap.size, 0, none⟩ = some v := (((Below.refl wr.heap.size wr).alloc (Nat.le_refl _) _).cell (p := ⟨w.heap.size, 0, none⟩) HT.out.lt).trans HT.out.cell0
   have HTn : Hid (RT (w'.setCell ⟨w.heap.size, 0, none⟩ (.slice (some ⟨g', 0, none⟩) (k + 1) cap')) w.heap.size w.heap.size (k + 1) (List.replicate (k + 1) zer) (.slice (some ⟨g', 0, none⟩) (k + 1) cap') (vs ++ [.slice (some ⟨wr.heap.size, 0, none⟩) 64 64])) := by rw [List.replicate_succ']; exact hT'
   have HBn := hbw.trans (((Below.refl _ _).drew).trans hb')
   change (Builtin.append_ #[62, 62] 62 #[v, .slice (some ⟨wr.heap.size + 1, 0, none⟩) 1 1]).run Tryz.prog _ = _ at hrun
   clear hT' hb' hg32 hle hsz HT
   generalize zc.toArray = Z at hrun hmk h0 h0b
   have HRUN := Lib.hid hrun
   clear hrun
   go_wp2
   go_region_law (refine step_append_run rfl (.tmp 23) (.tmp 25) 62 rfl _ _ rfl rfl _ w' HRUN.out ?_)
   all_goals (go_wp2; go_roundw)
   all_goals first | exact ⟨k + 1, _, _, by omega, by go_num, HTn, HBn⟩ | (simp [intOf]; omega)
  ·obtain rfl : k = n := by omega
   go_wp2
   go_ret2
   exact ⟨rfl, ⟨_, _, HT.out⟩, hbw⟩
end Go.Proofs.YteaincdeoajkeaaGreatDoor.Fr
end
