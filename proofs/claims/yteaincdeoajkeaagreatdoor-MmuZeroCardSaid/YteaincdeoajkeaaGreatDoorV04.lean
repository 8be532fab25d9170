/- Several texts in one: Om Oa Ob Ia Ib -/
import Derived.WalkKit
import Derived.Lib.EndianBits
import Derived.Laws.BitsAllLaws
import Derived.Test.YteaincdeoajkeaaGreatDoorV02
import Derived.Laws.CopyOwn
import Derived.Great.BuildSlice
import Derived.Deep.Cut
import Derived.Deep.DeepCutAuto
import Derived.Deep.CutBlock
import Derived.Great.Ranges
import Derived.Great.Walk
import Derived.Deep.OwnRows
import Derived.Test.YteaincdeoajkeaaGreatDoorV03
section
/- Plain facts on bytes and the numbers that they are; nothing of the program. -/
namespace Go.Proofs.YteaincdeoajkeaaGreatDoor.Oc
open Go.RowKit

/-- the number that bytes are, the lowest first -/
def num : List Int → Int
 | [] => 0
 | b :: r => b + 256 * num r

/-- byte k of a number -/
def byteN (v : Int) (k : Nat) : Int := v / 2 ^ (8 * k) % 256
/-- the m lowest bytes of a number -/
def bytesN (v : Int) (m : Nat) : List Int := (List.range m).map (byteN v)

/-- all are bytes -/
def AreBytes (zs : List Int) : Prop := ∀ z ∈ zs, 0 ≤ z ∧ z < 256

theorem AreBytes.take {zs : List Int} (h : AreBytes zs) (k : Nat) : AreBytes (zs.take k) := fun z hz => h z (List.mem_of_mem_take hz)
theorem AreBytes.drop {zs : List Int} (h : AreBytes zs) (k : Nat) : AreBytes (zs.drop k) := fun z hz => h z (List.mem_of_mem_drop hz)
theorem AreBytes.append {a b : List Int} (h : AreBytes a) (k : AreBytes b) : AreBytes (a ++ b) := fun z hz => (List.mem_append.1 hz).elim (h z) (k z)
theorem getD_at (zs : List Int) (k : Nat) (h : k < zs.length) : zs.getD k 0 = zs[k] := by simp [List.getD, h]
theorem AreBytes.at_ {zs : List Int} (h : AreBytes zs) (k : Nat) : 0 ≤ zs.getD k 0 ∧ zs.getD k 0 < 256 := by
 by_cases hk : k < zs.length
 ·rw [getD_at _ _ hk]; exact h _ (List.getElem_mem hk)
 ·simp [List.getD, List.getElem?_eq_none (Nat.le_of_not_lt hk)]

/-- zs with the m lowest bytes of v from i on -/
def putZ (zs : List Int) (i m : Nat) (v : Int) : List Int := zs.take i ++ (bytesN v m ++ zs.drop (i + m))
/-- the m lowest bytes of v, the highest bit of them in all bits above; v itself of another width -/
def signZ (v m : Int) : Int :=
 if m = 1 then (if 128 ≤ v % 256 then v % 256 + 4294967040 else v % 256)
 else if m = 2 then (if 32768 ≤ v % 65536 then v % 65536 + 4294901760 else v % 65536)
 else v
end Go.Proofs.YteaincdeoajkeaaGreatDoor.Oc
end
section
/- The walks of package octet's small functions (isWidth, holds, cut, number, lay): what each returns, for every argument. -/
namespace Go.Proofs.YteaincdeoajkeaaGreatDoor.Oc
open Go.RowKit Ut
set_option linter.unusedVariables false

/-- the widths that there are -/
def isW (m : Int) : Bool := decide (m = 1) || decide (m = 2) || decide (m = 4)

theorem isWidth_any (m : Int) (w : World) :
  Calls Tryz.prog 149 #[.int .i64 m] w fun e w' => e = .returned (.bool (isW m)) ∧ w = w' := by
 by_cases h1 : m = 1
 ·subst h1
  go_enter Tryz.func149, Tryz.ntmps149
  go_wp2
  go_ret
  exact ⟨rfl, rfl⟩
 ·by_cases h2 : m = 2
  ·subst h2
   go_enter Tryz.func149, Tryz.ntmps149
   go_wp2
   go_ret
   exact ⟨rfl, rfl⟩
  ·have b1 : (m == 1) = false := by simpa using h1
   have b2 : (m == 2) = false := by simpa using h2
   go_enter Tryz.func149, Tryz.ntmps149
   go_wp2
   go_ret
   refine ⟨congrArg (fun b => Ending.returned (.bool b)) ?_, rfl⟩
   unfold isW
   simp [h1, h2]
   first | rfl | (rw [Bool.eq_iff_iff]; simp)

/-- can a number of m bytes stand at i in n bytes -/
def hold (n : Nat) (i m : Int) : Bool := isW m && decide (0 ≤ i) && decide (i ≤ n - m)

theorem isW_le {m : Int} (h : isW m = true) : 1 ≤ m ∧ m ≤ 4 := by
 unfold isW at h
 simp at h
 omega

theorem holds_any (a : Option Addr) (n cap : Nat) (i m : Int) (w : World) (hn : n ≤ 9223372036854775807) :
  Calls Tryz.prog 124 #[.slice a n cap, .int .i64 i, .int .i64 m] w fun e w' => e = .returned (.bool (hold n i m)) ∧ w = w' := by
 cases hw : isW m
 ·have HW := Lib.hid hw
  go_enter Tryz.func124, Tryz.ntmps124
  go_wp2_with (go_at_call 149; refine (isWidth_any _ _).mono ?_; rintro e w' ⟨rfl, rfl⟩)
  go_ret
  exact ⟨congrArg (fun b => Ending.returned (.bool b)) (by unfold hold; rw [HW.out]; rfl), rfl⟩
 ·have HW := Lib.hid hw
  obtain ⟨hm1, hm4⟩ := isW_le hw
  by_cases h0 : 0 ≤ i
  ·go_enter Tryz.func124, Tryz.ntmps124
   go_wp2_with (go_at_call 149; refine (isWidth_any _ _).mono ?_; rintro e w' ⟨rfl, rfl⟩)
   go_ret
   refine ⟨congrArg (fun b => Ending.returned (.bool b)) ?_, rfl⟩
   unfold hold; rw [HW.out]; simp [h0]
  ·go_enter Tryz.func124, Tryz.ntmps124
   go_wp2_with (go_at_call 149; refine (isWidth_any _ _).mono ?_; rintro e w' ⟨rfl, rfl⟩)
   go_ret
   refine ⟨congrArg (fun b => Ending.returned (.bool b)) ?_, rfl⟩
   unfold hold; rw [HW.out]; simp; omega

/-- the world behind k bytes of v laid into block g from o on -/
def laid (w : World) (g o : Nat) (v : Int) : Nat → World
 | 0 => w
 | k + 1 => (laid w g o v k).setCell ⟨g, o + k, none⟩ (.int .u8 (byteN v k))

end Go.Proofs.YteaincdeoajkeaaGreatDoor.Oc
end
section
/- The walks of package octet's Get, Put and Sign: what each returns, for every argument. -/
namespace Go.Proofs.YteaincdeoajkeaaGreatDoor.Oc
open Go.RowKit Ut
set_option maxRecDepth 100000
set_option linter.unusedVariables false

theorem get_no (a : Option Addr) (n cap : Nat) (i m : Int) (w : World) (hn : n ≤ 9223372036854775807) (h : hold n i m = false) :
  Calls Tryz.prog 85 #[.slice a n cap, .int .i64 i, .int .i64 m] w fun e w' => e = .returned (.tuple #[.int .u32 0, .int .i64 1]) ∧ w = w' := by
 go_enter Tryz.func85, Tryz.ntmps85
 go_wp2_with (go_at_call 124; refine (holds_any _ _ _ _ _ _ hn).mono ?_; rintro e w' ⟨rfl, rfl⟩)
 go_ret2
 exact ⟨rfl, rfl⟩

end Go.Proofs.YteaincdeoajkeaaGreatDoor.Oc
end
section
/- Package frames: a store's block told by a flat list of its frames' bytes; plain facts; find, New. -/
namespace Go.Proofs.YteaincdeoajkeaaGreatDoor.Fr
open Go.RowKit Ut Oc
set_option maxRecDepth 100000
set_option linter.unusedVariables false

/-- a store's cells: made, how many, the frames' bytes one behind the other -/
def stCells (n : Nat) (L : List Int) : List Value := .bool true :: .int .i64 n :: L.map (Value.int .u8)
/-- frame f's bytes -/
def frameL (L : List Int) (f : Nat) : List Int := (L.drop (64 * f)).take 64
/-- the bytes with frame f's ones turned to xs -/
def layF (L : List Int) (f : Nat) (xs : List Int) : List Int := splice L (64 * f) xs

theorem length_frameL {L : List Int} (hL : L.length = 2048) {f : Nat} (hf : f < 32) : (frameL L f).length = 64 := by simp [frameL]; omega
theorem length_layF {L xs : List Int} (hL : L.length = 2048) {f : Nat} (hf : f < 32) (hx : xs.length = 64) : (layF L f xs).length = 2048 := by
 unfold layF; rw [length_splice _ _ _ (by omega), hL]
theorem frameL_other {L xs : List Int} (hL : L.length = 2048) {f g : Nat} (hf : f < 32) (hg : g < 32) (hx : xs.length = 64) (hne : g ≠ f) : frameL (layF L f xs) g = frameL L g := by
 unfold frameL layF splice
 refine List.ext_getElem? fun j => ?_
 simp only [List.getElem?_take, List.getElem?_drop, List.getElem?_append, List.length_take]
 by_cases hj : j < 64
 ·rw [if_pos hj, if_pos hj]
  rw [Nat.min_eq_left (by omega)]
  by_cases h1 : g < f
  ·rw [if_pos (by omega), if_pos (by omega)]
  ·rw [if_neg (by omega), if_neg (by omega)]
   congr 1
   omega
 ·rw [if_neg hj, if_neg hj]
/-- block b is a store of n frames, whose bytes are L -/
def St (w : World) (b n : Nat) (L : List Int) : Prop :=
 w.heap[b]? = some (.cells (stCells n L).toArray 139 (0, 0)) ∧ L.length = 2048 ∧ AreBytes L ∧ n ≤ 32

section
variable {w w' : World} {b n : Nat} {L : List Int}
theorem St.lt (h : St w b n L) : b < w.heap.size := (Array.getElem?_eq_some_iff.1 h.1).1
theorem St.of_block (h : St w b n L) (e : w'.heap[b]? = w.heap[b]?) : St w' b n L := ⟨e.trans h.1, h.2⟩
theorem St.below {B : Nat} (h : St w b n L) (hb : Below B w w') (hB : b < B) : St w' b n L := h.of_block (hb.block b hB)
theorem St.grown {row : Option Nat} (h : St w b n L) (hg : w.grownBy w' row) (hr : some b ≠ row) : St w' b n L := h.of_block (hg.block b h.lt hr)
theorem St.cell0 (h : St w b n L) : w.cell? ⟨b, 0, none⟩ = some (.bool true) := by simp [World.cell?, h.1, stCells]
theorem St.cell (h : St w b n L) (i : Nat) : w.cell? ⟨b, 2 + i, none⟩ = (L[i]?).map (Value.int .u8) := by
 have : 2 + i = i + 1 + 1 := by omega
 simp [World.cell?, h.1, stCells, this]
theorem St.frame (h : St w b n L) (f : Nat) (hf : f < 32) : RowK .u8 w (b + 1) (some ⟨b, 2 + 64 * f, none⟩) 64 (frameL L f) := by
 refine ⟨length_frameL h.2.1 hf, fun i hi => ⟨_, rfl, Nat.lt_succ_self b, ?_⟩⟩
 have e : (⟨b, 2 + 64 * f, none⟩ : Addr).add i = ⟨b, 2 + (64 * f + i), none⟩ := by unfold Addr.add; split <;> simp_all [Nat.add_assoc]
 rw [e, h.cell]
 have hl := h.2.1
 simp [frameL, List.getD, hi, show 64 * f + i < L.length by omega]
end

/-- a new store's bytes -/
def zeros : List Int := List.replicate 2048 0
end Go.Proofs.YteaincdeoajkeaaGreatDoor.Fr
end
section
/- Package frames: what the methods of a store return and leave, for every argument. -/
namespace Go.Proofs.YteaincdeoajkeaaGreatDoor.Fr
open Go.RowKit Ut Oc
set_option maxRecDepth 100000
set_option linter.unusedVariables false

end Go.Proofs.YteaincdeoajkeaaGreatDoor.Fr
end
