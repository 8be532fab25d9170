/- Several texts in one: Xd Xg Wb Ya -/
import Derived.Test.YteaincdeoajkeaaGreatDoorZ05
import Derived.Test.YteaincdeoajkeaaGreatDoorZ04
section
/- Package gmap: Set and Drop of the program. -/
namespace Go.Proofs.YteaincdeoajkeaaGreatDoor.Gm
open Go.RowKit Ut
set_option maxRecDepth 100000
set_option linter.unusedVariables false
set_option maxHeartbeats 4000000

/-- both cells of a place turned -/
theorem grown_two {w w1 : World} (hb : Below w.heap.size w w1) (b i j : Nat) (x y : Value) : w.grownBy ((w1.setCell ⟨b, i, none⟩ x).setCell ⟨b, j, none⟩ y) (some b) :=
  grown_trans (grown_trans (grown_below hb) (grown_setCell w1 b i x)) (grown_setCell _ b j y)

theorem set_no (a : Option Addr) (n z : Int) (p : Pl) (hz : z = 1 ∨ z = 7) (w : World) (hF : ∀ W, Below w.heap.size w W → Calls Tryz.prog 51 #[.pointer a, .int .i64 n] W fun e w' => e = .returned (.tuple #[.pointer none, .int .i64 z]) ∧ W = w') :
    Calls Tryz.prog 28 #[.pointer a, .int .i64 n, plV p] w fun e w' => e = .returned (.int .i64 z) ∧ Below w.heap.size w w' := by
  obtain ⟨f, r⟩ := p
  have hz0 : (z == 0) = false := by rcases hz with rfl | rfl <;> rfl
  have HB := Lib.hid (box_below w f r)
  have HF := Lib.hid (hF _ HB.out)
  clear hF hz
  show Calls _ _ #[_, _, .agg #[.int .i64 f, .int .i64 r]] _ _
  go_enter Tryz.func28, Tryz.ntmps28
  go_wp2_with fail
  refine HF.out.mono ?_
  rintro e w1 ⟨rfl, rfl⟩
  go_wp2
  go_ret
  exact ⟨rfl, HB.out⟩
theorem set_unfit (b k : Nat) (L : List Pl) (p : Pl) (hk : k < 12) (hp : okB p = false) (w : World) (h : MAt w b L) :
    Calls Tryz.prog 28 #[.pointer (some ⟨b, 0, none⟩), .int .i64 k, plV p] w fun e w' => e = .returned (.int .i64 1) ∧ Below w.heap.size w w' := by
  have HT := Lib.hid (fits_any p false hp)
  obtain ⟨f, r⟩ := p
  have HB := Lib.hid (box_below w f r)
  have HF := Lib.hid (find_in b k L _ (h.more HB.out) hk)
  clear h hk hp
  show Calls _ _ #[_, _, .agg #[.int .i64 f, .int .i64 r]] _ _
  go_enter Tryz.func28, Tryz.ntmps28
  go_wp2_with fail
  refine HF.out.mono ?_
  rintro e w1 ⟨rfl, rfl⟩
  generalize 1 + 2 * k = o
  go_wp2_with fail
  refine (HT.out _).mono ?_
  rintro e w1 ⟨rfl, hb1⟩
  have HB1 := Lib.hid (HB.out.trans (hb1.mono HB.out.size))
  clear hb1
  go_wp2
  go_ret
  exact ⟨rfl, HB1.out⟩
theorem set_used (b k : Nat) (L : List Pl) (p : Pl) (hk : k < 12) (hp : okB p = true) (g s : Nat) (hq : plN L k = ((g : Int), (s : Int))) (hs : 0 < s) (w : World) (h : MAt w b L) :
    Calls Tryz.prog 28 #[.pointer (some ⟨b, 0, none⟩), .int .i64 k, plV p] w fun e w' => e = .returned (.int .i64 5) ∧ Below w.heap.size w w' := by
  have HT := Lib.hid (fits_any p true hp)
  obtain ⟨f, r⟩ := p
  have HB := Lib.hid (box_below w f r)
  have HM := Lib.hid (h.more HB.out)
  have HF := Lib.hid (find_in b k L _ (h.more HB.out) hk)
  have HC := Lib.hid hk
  have HQ := Lib.hid hq
  have hs0 : ((s : Int) == 0) = false := by simp; omega
  clear h hk hp hq
  show Calls _ _ #[_, _, .agg #[.int .i64 f, .int .i64 r]] _ _
  go_enter Tryz.func28, Tryz.ntmps28
  go_wp2_with fail
  refine HF.out.mono ?_
  rintro e w1 ⟨rfl, rfl⟩
  obtain ⟨o, ho⟩ : ∃ o, o = 1 + 2 * k := ⟨_, rfl⟩
  rw [← ho]
  have HO := Lib.hid ho
  clear ho
  go_wp2_with fail
  refine (HT.out _).mono ?_
  rintro e w1 ⟨rfl, hb1⟩
  have HB1 := Lib.hid (HB.out.trans (hb1.mono HB.out.size))
  have hc := (HM.out.more hb1).cells k HC.out
  rw [HQ.out, ← HO.out] at hc
  obtain ⟨c0, c1⟩ := hc
  clear hb1 HF
  go_wp2
  go_ret
  exact ⟨rfl, HB1.out⟩
theorem set_ok (b k : Nat) (L : List Pl) (p : Pl) (hk : k < 12) (hp : okB p = true) (hq : plN L k = (0, 0)) (w : World) (h : MAt w b L) :
    Calls Tryz.prog 28 #[.pointer (some ⟨b, 0, none⟩), .int .i64 k, plV p] w fun e w' => e = .returned (.int .i64 0) ∧ MAt w' b (L.set k p) ∧ w.grownBy w' (some b) := by
  have HT := Lib.hid (fits_any p true hp)
  have HP := Lib.hid (show p = (0, 0) ∨ okB p = true from .inr hp)
  obtain ⟨f, r⟩ := p
  have HB := Lib.hid (box_below w f r)
  have HM := Lib.hid (h.more HB.out)
  have HF := Lib.hid (find_in b k L _ (h.more HB.out) hk)
  have HC := Lib.hid hk
  have HQ := Lib.hid hq
  clear h hk hp hq
  show Calls _ _ #[_, _, .agg #[.int .i64 f, .int .i64 r]] _ _
  have HN : Hid (Blk (w.alloc (.cells #[.int .i64 f, .int .i64 r] 54)) w.heap.size 54 [.int .i64 f, .int .i64 r]) := Blk.new w _ _
  go_enter Tryz.func28, Tryz.ntmps28
  go_wp2_with fail
  refine HF.out.mono ?_
  rintro e w1 ⟨rfl, rfl⟩
  obtain ⟨o, ho⟩ : ∃ o, o = 1 + 2 * k := ⟨_, rfl⟩
  rw [← ho]
  have HO := Lib.hid ho
  clear ho
  go_wp2_with fail
  refine (HT.out _).mono ?_
  rintro e w1 ⟨rfl, hb1⟩
  have HB1 := Lib.hid (HB.out.trans (hb1.mono HB.out.size))
  have hc := (HM.out.more hb1).cells k HC.out
  rw [HQ.out, ← HO.out] at hc
  obtain ⟨c0, c1⟩ := hc
  have hn := HN.out.below hb1 HN.out.lt
  have n0 : w1.cell? ⟨w.heap.size, 0, none⟩ = some (.int .i64 f) := hn.cell rfl
  have n1 : w1.cell? ⟨w.heap.size, 1, none⟩ = some (.int .i64 r) := hn.cell rfl
  have f0 := (HM.out.more hb1).1.frozen o
  have f1 := (HM.out.more hb1).1.frozen (o + 1)
  have HS := Lib.hid ((HM.out.more hb1).set k HC.out (f, r) HP.out)
  have HG := Lib.hid (grown_two HB1.out b o (o + 1) (.int .i64 f) (.int .i64 r))
  rw [← HO.out] at HS
  clear hb1 HF hn
  go_wp2
  go_ret
  exact ⟨rfl, HS.out, HG.out⟩
end Go.Proofs.YteaincdeoajkeaaGreatDoor.Gm
end
section
/- The document's map (hermitageref15): Is, Get, Set, Drop. -/
namespace Go.Proofs.YteaincdeoajkeaaGreatDoor.Gm
open Go.RowKit Ut
set_option maxRecDepth 100000
set_option linter.unusedVariables false
set_option maxHeartbeats 4000000

theorem is_no (n : Int) (h : n < 0 ∨ 12 ≤ n) (w : World) : Calls Tryz.prog 63 #[.int .i64 n] w fun e w' => e = .returned (.bool false) ∧ w = w' := by
  rcases Int.lt_or_le n 0 with h0 | h0
  · have h1 : decide ((0 : Int) ≤ n) = false := by simp; omega
    go_enter Tryz.func63, Tryz.ntmps63
    go_wp2
    go_ret
    exact ⟨rfl, rfl⟩
  · have h1 : decide ((0 : Int) ≤ n) = true := by simpa using h0
    have h2 : decide (n < 12) = false := by simp; omega
    go_enter Tryz.func63, Tryz.ntmps63
    go_wp2
    go_ret
    exact ⟨rfl, rfl⟩
theorem is_yes (k : Nat) (h : k < 12) (w : World) : Calls Tryz.prog 63 #[.int .i64 k] w fun e w' => e = .returned (.bool true) ∧ w = w' := by
  have h1 : decide ((0 : Int) ≤ (k : Int)) = true := by simp
  have h2 : decide ((k : Int) < 12) = true := by simp; omega
  go_enter Tryz.func63, Tryz.ntmps63
  go_wp2
  go_ret
  exact ⟨rfl, rfl⟩

theorem RAt.cells' {w : World} {b : Nat} {L : List Pl} (h : RAt w b L) (k : Nat) (hk : k < 12) : w.cell? ⟨b, 12 + k * 2, none⟩ = some (.int .i64 (plN L k).1) ∧ w.cell? ⟨b, 12 + k * 2 + 1, none⟩ = some (.int .i64 (plN L k).2) := by
  rw [Nat.mul_comm k 2]; exact h.cells k hk

theorem refGet_no (b : Nat) (n : Int) (L : List Pl) (hn : n < 0 ∨ 12 ≤ n) (w : World) (h : RAt w b L) :
    Calls Tryz.prog 79 #[.pointer (some ⟨b, 0, none⟩), .int .i64 n] w fun e w' => e = .returned (.tuple #[plV (0, 0), .bool false]) ∧ Below w.heap.size w w' := by
  have HB := Lib.hid (box_below w 0 0)
  have HI := Lib.hid (is_no n hn)
  clear h hn
  go_enter Tryz.func79, Tryz.ntmps79
  go_wp2_with fail
  refine (HI.out _).mono ?_
  rintro e w1 ⟨rfl, rfl⟩
  go_wp2
  exact bodyPost_ret (v := .tuple #[plV (0, 0), .bool false]) (by simp [results, Tryz.results79, go_sem, plV]) rfl ⟨rfl, by first | exact HB.out | exact (box_below w _ _).drew | exact set_keep _ _ (set_keep _ _ HB.out)⟩
theorem refGet_is (b k : Nat) (L : List Pl) (hk : k < 12) (w : World) (h : RAt w b L) :
    Calls Tryz.prog 79 #[.pointer (some ⟨b, 0, none⟩), .int .i64 k] w fun e w' => e = .returned (.tuple #[plV (plN L k), .bool (thB (plN L k))]) ∧ Below w.heap.size w w' := by
  have HI := Lib.hid (is_yes k hk)
  have HB := Lib.hid (box_below w 0 0)
  obtain ⟨c0, c1⟩ := h.cells' k hk
  have ct := h.there k hk
  have hlt := h.lt
  have f2 : (0 : Int) ≤ (k : Int) ∧ (k : Int) < 12 := by omega
  obtain ⟨t, ht⟩ : ∃ t, thB (plN L k) = t := ⟨_, rfl⟩
  rw [ht] at ct ⊢
  clear ht
  generalize plN L k = p at c0 c1 ⊢
  obtain ⟨f, r⟩ := p
  dsimp only at c0 c1
  clear h hk
  go_enter Tryz.func79, Tryz.ntmps79
  go_wp2_with fail
  refine (HI.out _).mono ?_
  rintro e w1 ⟨rfl, rfl⟩
  go_upto_region 3 with fail
  go_region
  go_wp2
  exact bodyPost_ret (v := .tuple #[plV (f, r), .bool t]) (by simp [results, Tryz.results79, go_sem, plV]) rfl ⟨rfl, by first | exact HB.out | exact (box_below w _ _).drew | exact set_keep _ _ (set_keep _ _ HB.out)⟩
theorem refGet_any (b : Nat) (L : List Pl) (n : Int) (p : Pl) (t : Bool) (hp : atP L n = p) (ht : thB p = t) (w : World) (h : RAt w b L) :
    Calls Tryz.prog 79 #[.pointer (some ⟨b, 0, none⟩), .int .i64 n] w fun e w' => e = .returned (.tuple #[plV p, .bool t]) ∧ Below w.heap.size w w' := by
  subst ht hp
  rcases page_cases n with hn | ⟨k, rfl, hk⟩
  · rw [atP_no hn]; exact refGet_no b n L hn w h
  · rw [atP_is hk]; exact refGet_is b k L hk w h

theorem refDrop_no (b : Nat) (n : Int) (hn : n < 0 ∨ 12 ≤ n) (w : World) :
    Calls Tryz.prog 35 #[.pointer (some ⟨b, 0, none⟩), .int .i64 n] w fun e w' => e = .returned (.int .i64 1) ∧ w = w' := by
  have HI := Lib.hid (is_no n hn)
  clear hn
  go_enter Tryz.func35, Tryz.ntmps35
  go_wp2_with fail
  refine (HI.out _).mono ?_
  rintro e w1 ⟨rfl, rfl⟩
  go_wp2
  go_ret
  exact ⟨rfl, rfl⟩
theorem refDrop_none (b k : Nat) (L : List Pl) (hk : k < 12) (ht : thB (plN L k) = false) (w : World) (h : RAt w b L) :
    Calls Tryz.prog 35 #[.pointer (some ⟨b, 0, none⟩), .int .i64 k] w fun e w' => e = .returned (.int .i64 3) ∧ w = w' := by
  have HI := Lib.hid (is_yes k hk)
  have ct := h.there k hk
  rw [ht] at ct
  have f2 : (0 : Int) ≤ (k : Int) ∧ (k : Int) < 12 := by omega
  clear h hk ht
  go_enter Tryz.func35, Tryz.ntmps35
  go_wp2_with fail
  refine (HI.out _).mono ?_
  rintro e w1 ⟨rfl, rfl⟩
  go_wp2
  go_ret
  exact ⟨rfl, rfl⟩
theorem grown_three {w w1 : World} (hb : Below w.heap.size w w1) (b i j l : Nat) (x y z : Value) : w.grownBy (((w1.setCell ⟨b, i, none⟩ x).setCell ⟨b, j, none⟩ y).setCell ⟨b, l, none⟩ z) (some b) :=
  grown_trans (grown_two hb b i j x y) (grown_setCell _ b l z)
theorem RAt.set' {w : World} {b : Nat} {L : List Pl} (h : RAt w b L) (k : Nat) (hk : k < 12) (p : Pl) (t : Bool) (ht : thB p = t) (hp : p = (0, 0) ∨ okB p = true) : RAt (((w.setCell ⟨b, k, none⟩ (.bool t)).setCell ⟨b, 12 + k * 2, none⟩ (.int .i64 p.1)).setCell ⟨b, 12 + k * 2 + 1, none⟩ (.int .i64 p.2)) b (L.set k p) := by
  rw [Nat.mul_comm k 2]; exact ht ▸ h.set k hk p hp
theorem refDrop_ok (b k : Nat) (L : List Pl) (hk : k < 12) (ht : thB (plN L k) = true) (w : World) (h : RAt w b L) :
    Calls Tryz.prog 35 #[.pointer (some ⟨b, 0, none⟩), .int .i64 k] w fun e w' => e = .returned (.int .i64 0) ∧ RAt w' b (L.set k (0, 0)) ∧ w.grownBy w' (some b) := by
  have HI := Lib.hid (is_yes k hk)
  have HS := Lib.hid (h.set' k hk (0, 0) false rfl (.inl rfl))
  have HG := Lib.hid (grown_three (Below.refl w.heap.size w) b k (12 + k * 2) (12 + k * 2 + 1) (.bool false) (.int .i64 0) (.int .i64 0))
  have ct := h.there k hk
  rw [ht] at ct
  obtain ⟨c0, c1⟩ := h.cells' k hk
  have f0 := h.1.frozen k
  have f1 := h.1.frozen (12 + k * 2)
  have f3 := h.1.frozen (12 + k * 2 + 1)
  have f2 : (0 : Int) ≤ (k : Int) ∧ (k : Int) < 12 := by omega
  clear h hk ht
  go_enter Tryz.func35, Tryz.ntmps35
  go_wp2_with fail
  refine (HI.out _).mono ?_
  rintro e w1 ⟨rfl, rfl⟩
  go_wp2
  go_ret
  exact ⟨rfl, HS.out, HG.out⟩
theorem refDrop_any (b : Nat) (L L' : List Pl) (n c : Int) (hc : drE L n = c) (hl : drL L n = L') (w : World) (h : RAt w b L) :
    Calls Tryz.prog 35 #[.pointer (some ⟨b, 0, none⟩), .int .i64 n] w fun e w' => e = .returned (.int .i64 c) ∧ RAt w' b L' ∧ w.grownBy w' (some b) := by
  have K : ∀ {z : Int}, drE L n = z → z ≠ 0 → Calls Tryz.prog 35 #[.pointer (some ⟨b, 0, none⟩), .int .i64 n] w (fun e w' => e = .returned (.int .i64 z) ∧ w = w') → Calls Tryz.prog 35 #[.pointer (some ⟨b, 0, none⟩), .int .i64 n] w fun e w' => e = .returned (.int .i64 c) ∧ RAt w' b L' ∧ w.grownBy w' (some b) := fun {z} hz h0 H => by
    rw [hz] at hc
    subst hc
    unfold drL at hl
    rw [hz, if_neg h0] at hl
    subst hl
    exact H.mono fun e w' ⟨he, hb⟩ => ⟨he, hb ▸ h, hb ▸ World.grownBy.refl _ _⟩
  rcases page_cases n with hn | ⟨k, rfl, hk⟩
  · exact K (drE_no hn) (by omega) (refDrop_no _ n hn w)
  · have e := drE_is (L := L) hk
    by_cases ht : thB (plN L k) = true
    · rw [if_pos ht] at e
      rw [e] at hc
      subst hc
      unfold drL at hl
      rw [e, if_pos rfl] at hl
      subst hl
      exact refDrop_ok b k L hk ht w h
    · rw [if_neg ht] at e
      exact K e (by omega) (refDrop_none b k L hk (by simpa using ht) w h)
end Go.Proofs.YteaincdeoajkeaaGreatDoor.Gm
end
section
/- Which old blocks stay as they were: Kq T: all but those of T. Serves all packages. -/
namespace Go.Proofs.YteaincdeoajkeaaGreatDoor.Ut
open Go.RowKit

/-- all old blocks but those of T are as they were -/
structure Kq (T : List Nat) (w w' : World) : Prop where
  os : w'.os = w.os
  tape : w'.tape = w.tape
  output : w'.output = w.output
  size : w.heap.size ≤ w'.heap.size
  block : ∀ q, q < w.heap.size → q ∉ T → w'.heap[q]? = w.heap[q]?
section
variable {T : List Nat} {w w' w'' : World} {b : Nat}
theorem Kq.refl (T : List Nat) (w : World) : Kq T w w := ⟨rfl, rfl, rfl, Nat.le_refl _, fun _ _ _ => rfl⟩
theorem Kq.trans (h : Kq T w w') (k : Kq T w' w'') : Kq T w w'' :=
  ⟨k.os.trans h.os, k.tape.trans h.tape, k.output.trans h.output, Nat.le_trans h.size k.size, fun q hq hn => (k.block q (Nat.lt_of_lt_of_le hq h.size) hn).trans (h.block q hq hn)⟩
theorem Kq.of_below (h : Below w.heap.size w w') : Kq T w w' := ⟨h.os, h.tape, h.output, h.size, fun q hq _ => h.block q hq⟩
theorem Kq.of_grown (h : w.grownBy w' (some b)) (hb : b ∈ T) : Kq T w w' := ⟨h.os, h.tape, h.output, h.size, fun q hq hn => h.block q hq (fun e => hn (by injection e with e; rw [e]; exact hb))⟩
theorem Kq.more {T' : List Nat} (h : Kq T w w') (hs : ∀ q ∈ T, q ∈ T') : Kq T' w w' := ⟨h.os, h.tape, h.output, h.size, fun q hq hn => h.block q hq (fun e => hn (hs q e))⟩
theorem Kq.below (h : Kq [] w w') : Below w.heap.size w w' := ⟨h.os, h.tape, h.output, h.size, fun q hq => h.block q hq (by simp)⟩
/-- of blocks made later than the first B nothing is said -/
theorem Kq.under {B : Nat} (h : Kq T w w') (hs : ∀ q ∈ T, B ≤ q) (hB : B ≤ w.heap.size) : Below B w w' := by
  refine ⟨h.os, h.tape, h.output, h.size, fun q hq => h.block q (Nat.lt_of_lt_of_le hq hB) (fun e => ?_)⟩
  have := hs q e
  omega
theorem Kq.setCell (h : Kq T w w') (b j : Nat) (v : Value) (hb : b ∈ T ∨ w.heap.size ≤ b) : Kq T w (w'.setCell ⟨b, j, none⟩ v) :=
  ⟨h.os, h.tape, h.output, by simpa [World.setCell] using h.size, fun q hq hn => (Below.heap_setCell _ _ _ _ (fun e => by
    have e : q = b := e
    subst e
    rcases hb with hb | hb
    · exact hn hb
    · omega)).trans (h.block q hq hn)⟩
theorem Blk.more {t : TypeId} {cs : List Value} (h : Blk w b t cs) (hb : Below w.heap.size w w') : Blk w' b t cs := h.below hb h.lt
theorem Blk.kq {t : TypeId} {cs : List Value} (h : Blk w b t cs) (k : Kq T w w') (hb : b ∉ T) : Blk w' b t cs := h.of_block (k.block b h.lt hb)
theorem Kq.cell (h : Kq T w w') {p : Addr} (hp : p.block < w.heap.size) (hT : p.block ∉ T) : w'.cell? p = w.cell? p := World.cell?_of_block (h.block _ hp hT)
end
end Go.Proofs.YteaincdeoajkeaaGreatDoor.Ut
end
section
/- Package view: a view's block told by what was written; both sides' memory whole; what is found, plainly. -/
namespace Go.Proofs.YteaincdeoajkeaaGreatDoor.Vw
open Go.RowKit Ut Oc
set_option maxRecDepth 100000
set_option linter.unusedVariables false

/-- a view's cells, of either side: its frames, its map, which pages were written -/
def vCells (s m : Nat) (D : List Bool) : List Value := .pointer (some ⟨s, 0, none⟩) :: .pointer (some ⟨m, 0, none⟩) :: D.map Value.bool
def noD : List Bool := List.replicate 12 false
def noDv : List Value := noD.map Value.bool

/-- block b is a view over the store at s (n frames, bytes S) and the map at m (places L); D says which pages were written -/
structure PV (w : World) (b s m n : Nat) (S : List Int) (L : List Gm.Pl) (D : List Bool) : Prop where
  blk : Blk w b 84 (vCells s m D)
  st : Fr.St w s n S
  mp : Gm.MAt w m L
  len : D.length = 12
  pos : 0 < n
  sm : s < m
  mb : m < b

section
variable {w w' : World} {b s m n : Nat} {S : List Int} {L : List Gm.Pl} {D : List Bool}
theorem PV.lt (h : PV w b s m n S L D) : b < w.heap.size := h.blk.lt
theorem PV.kq {T : List Nat} (h : PV w b s m n S L D) (k : Kq T w w') (hb : b ∉ T) (hs : s ∉ T) (hm : m ∉ T) : PV w' b s m n S L D :=
  ⟨h.blk.kq k hb, h.st.of_block (k.block s h.st.lt hs), ⟨h.mp.1.kq k hm, h.mp.2⟩, h.len, h.pos, h.sm, h.mb⟩
theorem PV.more (h : PV w b s m n S L D) (hb : Below w.heap.size w w') : PV w' b s m n S L D := h.kq (T := []) (Kq.of_below hb) (by simp) (by simp) (by simp)
theorem PV.cell0 (h : PV w b s m n S L D) : w.cell? ⟨b, 0, none⟩ = some (.pointer (some ⟨s, 0, none⟩)) := h.blk.cell rfl
theorem PV.cell1 (h : PV w b s m n S L D) : w.cell? ⟨b, 1, none⟩ = some (.pointer (some ⟨m, 0, none⟩)) := h.blk.cell rfl
theorem PV.mark (h : PV w b s m n S L D) (i : Nat) : PV (w.setCell ⟨b, 2 + i, none⟩ (.bool true)) b s m n S L (D.set i true) where
  blk := by
    have e : (vCells s m D).set (2 + i) (.bool true) = vCells s m (D.set i true) := by
      rw [show 2 + i = i + 1 + 1 by omega]
      simp [vCells, List.map_set]
    rw [← e]
    exact h.blk.set _ _
  st := h.st.of_block (Below.heap_setCell _ _ _ _ (fun e => by have := h.sm; have := h.mb; simp at e; omega))
  mp := ⟨h.mp.1.of_block (Below.heap_setCell _ _ _ _ (fun e => by have := h.mb; simp at e; omega)), h.mp.2⟩
  len := by rw [List.length_set]; exact h.len
  pos := h.pos
  sm := h.sm
  mb := h.mb
theorem PV.saved {S' : List Int} (h : PV w b s m n S L D) (hS : Fr.St w' s n S') (hg : w.grownBy w' (some s)) : PV w' b s m n S' L D :=
  ⟨h.blk.kept hg (fun e => by have := h.sm; have := h.mb; injection e; omega), hS, h.mp.kept hg (fun e => by have := h.sm; injection e; omega), h.len, h.pos, h.sm, h.mb⟩
end

/-- block g is the document's view over its store (box bt, its row at gv; all from block B on) and its map (q) -/
structure DV (w : World) (g bt B q n gv cap : Nat) (S : List Int) (L : List Gm.Pl) (D : List Bool) : Prop where
  blk : Blk w g 69 (vCells bt q D)
  st : ∃ vs, Fr.RT w bt B n (Fr.fr n S) (.slice (some ⟨gv, 0, none⟩) n cap) vs
  mp : Gm.RAt w q L
  len : D.length = 12
  pos : 0 < n
  s0 : S.length = 2048
  s1 : AreBytes S
  n32 : n ≤ 32
  bq : B ≤ q
  qg : q < g

/-- old blocks that are no slice's, no byte's: the document's store stays -/
theorem rt_kq {w w' : World} {bt B n gv cap : Nat} {R : List (List Int)} {vs : List Value} {T : List Nat} (h : Fr.RT w bt B n R (.slice (some ⟨gv, 0, none⟩) n cap) vs) (hn : 0 < n) (k : Kq T w w')
    (hT : ∀ x ∈ T, x < B ∨ (∃ u, w.cell? ⟨x, 0, none⟩ = some (.pointer u)) ∨ (∃ u, w.cell? ⟨x, 0, none⟩ = some (.bool u))) : Fr.RT w' bt B n R (.slice (some ⟨gv, 0, none⟩) n cap) vs := by
  have hno : ∀ x v, B ≤ x → w.cell? ⟨x, 0, none⟩ = some v → (∀ u, v ≠ .pointer u) → (∀ u, v ≠ .bool u) → x ∉ T := fun x v hx hc h1 h2 hm => by
    rcases hT x hm with h | ⟨u, h⟩ | ⟨u, h⟩
    · omega
    · rw [hc] at h; injection h with h; exact h1 u h
    · rw [hc] at h; injection h with h; exact h2 u h
  have hbt : bt ∉ T := hno bt _ h.lo h.cell0 (fun u e => by cases e) (fun u e => by cases e)
  have hgB := (h.own.lt gv rfl).1
  have hgl := (h.own.lt gv rfl).2
  obtain ⟨g0, c0, hg0, _⟩ := h.at_ 0 hn
  have hgv : gv ∉ T := hno gv _ hgB hg0 (fun u e => by cases e) (fun u e => by cases e)
  refine ⟨(k.block bt h.lt hbt).trans h.box, h.lo, ?_, h.len, fun i hi => ?_, h.bytes, fun e => by omega⟩
  · refine ⟨h.own.1, ?_⟩
    rcases h.own.2 with ⟨e, _⟩ | ⟨g, c, cur, e, hb, hg, rest⟩
    · cases e
    · refine .inr ⟨g, c, cur, e, hb, ?_, rest⟩
      injection e with e
      injection e with e
      injection e with e
      subst e
      exact (k.block gv hgl hgv).trans hg
  · obtain ⟨g, c, hv, hB, h1, h2, h3⟩ := h.rows i hi
    refine ⟨g, c, hv, hB, h1, h2, h3.1, fun j hj => ?_⟩
    have hgT : g ∉ T := by
      obtain ⟨x, e, _, hc⟩ := h3.2 0 (by omega)
      injection e with e
      subst e
      rw [add_plain] at hc
      exact hno g _ hB hc (fun u e => by cases e) (fun u e => by cases e)
    obtain ⟨x, e, hx, hc⟩ := h3.2 j hj
    injection e with e
    subst e
    refine ⟨_, rfl, Nat.lt_of_lt_of_le hx k.size, ?_⟩
    rw [World.cell?_of_block (w := w)]
    · exact hc
    · rw [block_of_add]
      exact k.block g hx hgT

section
variable {w w' : World} {g bt B q n gv cap : Nat} {S : List Int} {L : List Gm.Pl} {D : List Bool}
theorem DV.lt (h : DV w g bt B q n gv cap S L D) : g < w.heap.size := h.blk.lt
theorem DV.cell0 (h : DV w g bt B q n gv cap S L D) : w.cell? ⟨g, 0, none⟩ = some (.pointer (some ⟨bt, 0, none⟩)) := h.blk.cell rfl
theorem DV.cell1 (h : DV w g bt B q n gv cap S L D) : w.cell? ⟨g, 1, none⟩ = some (.pointer (some ⟨q, 0, none⟩)) := h.blk.cell rfl
theorem DV.kq {T : List Nat} (h : DV w g bt B q n gv cap S L D) (k : Kq T w w') (hg : g ∉ T) (hq : q ∉ T)
    (hT : ∀ x ∈ T, x < B ∨ (∃ u, w.cell? ⟨x, 0, none⟩ = some (.pointer u)) ∨ (∃ u, w.cell? ⟨x, 0, none⟩ = some (.bool u))) : DV w' g bt B q n gv cap S L D := by
  obtain ⟨vs, hs⟩ := h.st
  exact ⟨h.blk.kq k hg, ⟨vs, rt_kq hs h.pos k hT⟩, ⟨h.mp.1.kq k hq, h.mp.2⟩, h.len, h.pos, h.s0, h.s1, h.n32, h.bq, h.qg⟩
theorem DV.more (h : DV w g bt B q n gv cap S L D) (hb : Below w.heap.size w w') : DV w' g bt B q n gv cap S L D := h.kq (T := []) (Kq.of_below hb) (by simp) (by simp) (by simp)
theorem DV.gvB (h : DV w g bt B q n gv cap S L D) : B ≤ gv ∧ gv < w.heap.size := by
  obtain ⟨vs, hs⟩ := h.st
  exact hs.own.lt gv rfl
/-- the store's own row is neither the view nor the map, nor whatever else begins otherwise -/
theorem DV.gv_ne (h : DV w g bt B q n gv cap S L D) {x : Nat} (hx : (∃ u, w.cell? ⟨x, 0, none⟩ = some (.pointer u)) ∨ (∃ u, w.cell? ⟨x, 0, none⟩ = some (.bool u))) : x ≠ gv := by
  obtain ⟨vs, hs⟩ := h.st
  obtain ⟨g0, c0, hg0, _⟩ := hs.at_ 0 h.pos
  rintro rfl
  rcases hx with ⟨u, hx⟩ | ⟨u, hx⟩
  · rw [hg0] at hx; cases hx
  · rw [hg0] at hx; cases hx
theorem DV.mark (h : DV w g bt B q n gv cap S L D) (i : Nat) : DV (w.setCell ⟨g, 2 + i, none⟩ (.bool true)) g bt B q n gv cap S L (D.set i true) := by
  obtain ⟨vs, hs⟩ := h.st
  have k : Kq [g] w (w.setCell ⟨g, 2 + i, none⟩ (.bool true)) := (Kq.refl _ _).setCell g _ _ (.inl (by simp))
  refine ⟨?_, ⟨vs, rt_kq hs h.pos k (fun x hx => ?_)⟩, ⟨h.mp.1.kq k (by have := h.qg; simp; omega), h.mp.2⟩, by rw [List.length_set]; exact h.len, h.pos, h.s0, h.s1, h.n32, h.bq, h.qg⟩
  · have e : (vCells bt q D).set (2 + i) (.bool true) = vCells bt q (D.set i true) := by
      rw [show 2 + i = i + 1 + 1 by omega]
      simp [vCells, List.map_set]
    rw [← e]
    exact h.blk.set _ _
  · obtain rfl : x = g := by simpa using hx
    exact .inr (.inl ⟨_, h.cell0⟩)
theorem RAt_c0 (h : Gm.RAt w q L) : ∃ u, w.cell? ⟨q, 0, none⟩ = some (.bool u) := ⟨_, h.there 0 (by omega)⟩
theorem DV.saved {S' : List Int} (h : DV w g bt B q n gv cap S L D) (hS : ∃ vs, Fr.RT w' bt B n (Fr.fr n S') (.slice (some ⟨gv, 0, none⟩) n cap) vs) (h0 : S'.length = 2048) (h1 : AreBytes S') (hg : w.grownBy w' (some gv)) : DV w' g bt B q n gv cap S' L D :=
  ⟨h.blk.kept hg (fun e => h.gv_ne (.inl ⟨_, h.cell0⟩) (by injection e)), hS, h.mp.kept hg (fun e => h.gv_ne (.inr (RAt_c0 h.mp)) (by injection e)), h.len, h.pos, h0, h1, h.n32, h.bq, h.qg⟩
end

/-- why an access can't be, whatever frames there are; .. at all; where it lies -/
def fltF (L : List Gm.Pl) (z m k : Int) : Int := if (isW m && (z % m == 0)) = true then (if 768 ≤ z then 2 else Gm.alwF (Gm.atP L (z / 64)) (z / 64) k) else 1
def findF (n : Nat) (L : List Gm.Pl) (z m k : Int) : Int := if fltF L z m k = 0 then (if (Gm.atP L (z / 64)).1 < n then 0 else 7) else fltF L z m k
def hitF (n : Nat) (L : List Gm.Pl) (z m k : Int) : Int × Int × Int := if findF n L z m k = 0 then (z / 64, (Gm.atP L (z / 64)).1, z % 64) else (0, 0, 0)
def hitV (h : Int × Int × Int) : Value := .agg #[.int .i64 h.1, .int .i64 h.2.1, .int .i64 h.2.2, .bool false]

theorem alwF_zero {p : Gm.Pl} {n k : Int} (h : Gm.alwF p n k = 0) : Gm.thB p = true := by
  unfold Gm.alwF at h
  by_cases ht : Gm.thB p = true
  · exact ht
  · rw [if_neg ht] at h; omega
/-- one that can be: which page, which frame -/
theorem flt_zero {L : List Gm.Pl} (hL : Gm.Okay L) {z m k : Int} (hz : 0 ≤ z) (h : fltF L z m k = 0) :
    ∃ (M j f r : Nat), m = M ∧ isW m = true ∧ z % m = 0 ∧ z < 768 ∧ z / 64 = j ∧ j < 12 ∧ Gm.atP L (z / 64) = ((f : Int), (r : Int)) ∧ Gm.plN L j = ((f : Int), (r : Int)) ∧ f < 32 ∧ Gm.alwF ((f : Int), (r : Int)) (z / 64) k = 0 := by
  unfold fltF at h
  by_cases h1 : (isW m && (z % m == 0)) = true
  · rw [if_pos h1] at h
    by_cases h2 : 768 ≤ z
    · rw [if_pos h2] at h; omega
    · rw [if_neg h2] at h
      have hj : z / 64 = (((z / 64).toNat : Nat) : Int) := by omega
      have hj2 : (z / 64).toNat < 12 := by omega
      have hw : isW m = true := by simp at h1; exact h1.1
      have hm : 0 ≤ m := by unfold isW at hw; simp at hw; omega
      have ha : Gm.atP L (z / 64) = Gm.plN L (z / 64).toNat := by rw [hj]; exact Gm.atP_is hj2
      have ht := alwF_zero h
      rcases Gm.pl_cases hL (z / 64).toNat with h3 | ⟨f, r, h3, hf, _, _, _⟩
      · rw [ha, h3] at ht; cases ht
      · exact ⟨m.toNat, (z / 64).toNat, f, r, by omega, hw, by simp at h1; exact h1.2, by omega, hj, hj2, by rw [ha, h3], h3, hf, by rw [← h3, ← ha]; exact h⟩
  · rw [if_neg h1] at h; omega
end Go.Proofs.YteaincdeoajkeaaGreatDoor.Vw
end
