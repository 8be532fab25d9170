/- Package pool: a pool's block, told by whose each frame is and whether it is taken; made, find, leftOf, New. -/
import Derived.Test.YthabilokbfieiaaKd
import Derived.Test.YthabilokbfieiaaHt
import Derived.Test.YthabilokbfieiaaIc
namespace Go.Proofs.Ythabilokbfieiaa.Lo
open Go.RowKit Ut Hp Fr
set_option linter.unusedVariables false
set_option maxRecDepth 100000

/-- of each frame: is it someone's, is it taken, whose is it -/
structure PS where
  ow : Nat → Bool
  tk : Nat → Bool
  wh : Nat → Nat
/-- is frame f left, and who's? -/
def hit (s : PS) (who f : Nat) : Bool := s.ow f && !s.tk f && s.wh f == who

/-- block pb is a pool over the store at block b, of n frames, whose cells say s, and whose heaps say p -/
def PC (W : World) (pb b n : Nat) (s : PS) (p : Nat → Nat → Bool) : Prop :=
  n ≤ 32 ∧
  (∃ cs, W.heap[pb]? = some (.cells cs 67 (0, 0)) ∧ cs.size = 625 ∧ cs[0]? = some (.pointer (some ⟨b, 0, none⟩)) ∧
    ∀ f, f < 32 → cs[1 + f * 3]? = some (.bool (s.ow f)) ∧ cs[1 + f * 3 + 1]? = some (.bool (s.tk f)) ∧ cs[1 + f * 3 + 2]? = some (.int .i64 (s.wh f))) ∧
  ∀ who, who < 16 → ∃ l, HB W pb (97 + who * 33) l ∧ HeapL l l.length ∧ l.Perm (those (p who) n)
/-- .. that says s -/
def PB (W : World) (pb b n : Nat) (s : PS) : Prop := PC W pb b n s (hit s) ∧ (∀ f, s.wh f < 16) ∧ ∀ f, s.tk f = true → s.ow f = true

/-- blocks b and pb may have turned; all else that was there is as it was -/
structure Two (W W' : World) (b pb : Nat) : Prop where
  os : W'.os = W.os
  tape : W'.tape = W.tape
  output : W'.output = W.output
  size : W.heap.size ≤ W'.heap.size
  other : ∀ q, q < W.heap.size → q ≠ b → q ≠ pb → W'.heap[q]? = W.heap[q]?

section
variable {W W' W'' : World} {b pb n ab ao : Nat} {s : PS} {L l : List Int}
theorem Two.refl (W : World) (b pb : Nat) : Two W W b pb := ⟨rfl, rfl, rfl, Nat.le_refl _, fun _ _ _ _ => rfl⟩
theorem Two.trans (h : Two W W' b pb) (k : Two W' W'' b pb) : Two W W'' b pb :=
  ⟨k.os.trans h.os, k.tape.trans h.tape, k.output.trans h.output, Nat.le_trans h.size k.size, fun q hq h1 h2 => (k.other q (Nat.lt_of_lt_of_le hq h.size) h1 h2).trans (h.other q hq h1 h2)⟩
theorem Two.of_trn (h : Trn W W' pb ao) : Two W W' b pb := ⟨h.os, h.tape, h.output, h.size, fun q hq _ h2 => h.other q hq h2⟩
theorem Two.of_grown (h : W.grownBy W' (some b)) : Two W W' b pb := ⟨h.os, h.tape, h.output, h.size, fun q hq h1 _ => h.block q hq (fun e => by injection e with e; exact h1 e)⟩
theorem Two.of_below (h : Below W.heap.size W W') : Two W W' b pb := ⟨h.os, h.tape, h.output, h.size, fun q hq _ _ => h.block q hq⟩
theorem Two.below {B : Nat} {w0 : World} (h : Two W W' b pb) (hb : Below B w0 W) (hB : B ≤ W.heap.size) (h1 : B ≤ b) (h2 : B ≤ pb) : Below B w0 W' :=
  ⟨h.os.trans hb.os, h.tape.trans hb.tape, h.output.trans hb.output, Nat.le_trans hb.size h.size, fun q hq => (h.other q (by omega) (by omega) (by omega)).trans (hb.block q hq)⟩

theorem HB.away {ao' : Nat} (h : HB W ab ao' l) (t : Trn W W' ab ao) (hd : ao' + 33 ≤ ao ∨ ao + 33 ≤ ao') : HB W' ab ao' l := by
  obtain ⟨h0, cs, ty, h1, h2, h3, h4⟩ := h
  obtain ⟨cs', k1, k2, k3⟩ := t.at_ cs ty h1
  exact ⟨h0, cs', ty, k1, by omega, (k3 _ (by omega)).trans h3, fun i hi => (k3 _ (by omega)).trans (h4 i hi)⟩
theorem HB.set (h : HB W ab ao l) (i : Nat) (v : Value) (hd : i < ao ∨ ao + 33 ≤ i) : HB (W.setCell ⟨ab, i, none⟩ v) ab ao l := by
  obtain ⟨h0, cs, ty, h1, h2, h3, h4⟩ := h
  refine ⟨h0, _, ty, heap_setCell_same W ab i cs ty v h1, by simpa using h2, ?_, fun j hj => ?_⟩
  · rw [Array.getElem?_setIfInBounds_ne (by omega)]; exact h3
  · rw [Array.getElem?_setIfInBounds_ne (by omega)]; exact h4 j hj

theorem PC.lt {p : Nat → Nat → Bool} (h : PC W pb b n s p) : pb < W.heap.size := by
  obtain ⟨_, ⟨cs, h1, _⟩, _⟩ := h
  exact (Array.getElem?_eq_some_iff.1 h1).1
theorem PC.of_block {p : Nat → Nat → Bool} (h : PC W pb b n s p) (e : W'.heap[pb]? = W.heap[pb]?) : PC W' pb b n s p := by
  obtain ⟨h1, ⟨cs, h5, h6⟩, h7⟩ := h
  exact ⟨h1, ⟨cs, e.trans h5, h6⟩, fun who hw => by
    obtain ⟨l, a, c⟩ := h7 who hw
    exact ⟨l, a.of_block e, c⟩⟩
theorem PC.below {p : Nat → Nat → Bool} (h : PC W pb b n s p) (hb : Below W.heap.size W W') : PC W' pb b n s p := h.of_block (hb.block pb h.lt)
theorem PC.grown {p : Nat → Nat → Bool} (h : PC W pb b n s p) (hg : W.grownBy W' (some b)) (hne : b ≠ pb) : PC W' pb b n s p := h.of_block (hg.block pb h.lt (fun e => by injection e with e; exact hne e.symm))
theorem PC.cell0 {p : Nat → Nat → Bool} (h : PC W pb b n s p) : W.cell? ⟨pb, 0, none⟩ = some (.pointer (some ⟨b, 0, none⟩)) := by
  obtain ⟨_, ⟨cs, h1, _, h2, _⟩, _⟩ := h
  simp [World.cell?, h1, h2]
theorem PC.cellO {p : Nat → Nat → Bool} (h : PC W pb b n s p) (f : Nat) (hf : f < 32) : W.cell? ⟨pb, 1 + f * 3, none⟩ = some (.bool (s.ow f)) := by
  obtain ⟨_, ⟨cs, h1, _, _, h2⟩, _⟩ := h
  simp [World.cell?, h1, (h2 f hf).1]
theorem PC.cellT {p : Nat → Nat → Bool} (h : PC W pb b n s p) (f : Nat) (hf : f < 32) : W.cell? ⟨pb, 1 + f * 3 + 1, none⟩ = some (.bool (s.tk f)) := by
  obtain ⟨_, ⟨cs, h1, _, _, h2⟩, _⟩ := h
  simp [World.cell?, h1, (h2 f hf).2.1]
theorem PC.cellW {p : Nat → Nat → Bool} (h : PC W pb b n s p) (f : Nat) (hf : f < 32) : W.cell? ⟨pb, 1 + f * 3 + 2, none⟩ = some (.int .i64 (s.wh f)) := by
  obtain ⟨_, ⟨cs, h1, _, _, h2⟩, _⟩ := h
  simp [World.cell?, h1, (h2 f hf).2.2]
theorem PC.frz {p : Nat → Nat → Bool} (h : PC W pb b n s p) (i : Nat) : W.frozen? ⟨pb, i, none⟩ = false := by
  obtain ⟨_, ⟨cs, h1, _⟩, _⟩ := h
  simp [World.frozen?, h1]
theorem PC.heap {p : Nat → Nat → Bool} (h : PC W pb b n s p) (who : Nat) (hw : who < 16) : ∃ l, HB W pb (97 + who * 33) l ∧ HeapL l l.length ∧ l.Perm (those (p who) n) := h.2.2 who hw
/-- one heap turns -/
theorem PC.turn {p p' : Nat → Nat → Bool} {who : Nat} {r : List Int} (h : PC W pb b n s p) (hw : who < 16) (t : Trn W W' pb (97 + who * 33)) (hr : HB W' pb (97 + who * 33) r) (hh : HeapL r r.length) (hp : r.Perm (those (p' who) n))
    (ho : ∀ v, v ≠ who → ∀ k, k < n → p' v k = p v k) : PC W' pb b n s p' := by
  obtain ⟨h1, ⟨cs, h5, h6, h7, h8⟩, h9⟩ := h
  obtain ⟨cs', k1, k2, k3⟩ := t.at_ cs _ h5
  refine ⟨h1, ⟨cs', k1, by omega, (k3 0 (by omega)).trans h7, fun f hf => ⟨(k3 _ (by omega)).trans (h8 f hf).1, (k3 _ (by omega)).trans (h8 f hf).2.1, (k3 _ (by omega)).trans (h8 f hf).2.2⟩⟩, fun v hv => ?_⟩
  by_cases e : v = who
  · subst e
    exact ⟨r, hr, hh, hp⟩
  · obtain ⟨l, a1, a2, a3⟩ := h9 v hv
    exact ⟨l, a1.away t (by omega), a2, by rw [those_congr n (ho v e)]; exact a3⟩
/-- a frame's cells turn -/
theorem PC.hold {p : Nat → Nat → Bool} {s' : PS} {f : Nat} (h : PC W pb b n s p) (hb : W.heap.size ≤ W'.heap.size) (cs' : Array Value → Array Value)
    (hc : ∀ cs, W.heap[pb]? = some (.cells cs 67 (0, 0)) → W'.heap[pb]? = some (.cells (cs' cs) 67 (0, 0)) ∧ (cs' cs).size = cs.size ∧ ∀ j, j < 1 + f * 3 ∨ 1 + f * 3 + 3 ≤ j → (cs' cs)[j]? = cs[j]?)
    (hf : f < 32) (ho : ∀ k, k ≠ f → s'.ow k = s.ow k ∧ s'.tk k = s.tk k ∧ s'.wh k = s.wh k)
    (h3 : ∀ cs, W.heap[pb]? = some (.cells cs 67 (0, 0)) → cs.size = 625 → cs[1 + f * 3]? = some (.bool (s.ow f)) → cs[1 + f * 3 + 1]? = some (.bool (s.tk f)) → cs[1 + f * 3 + 2]? = some (.int .i64 (s.wh f)) →
      (cs' cs)[1 + f * 3]? = some (.bool (s'.ow f)) ∧ (cs' cs)[1 + f * 3 + 1]? = some (.bool (s'.tk f)) ∧ (cs' cs)[1 + f * 3 + 2]? = some (.int .i64 (s'.wh f))) : PC W' pb b n s' p := by
  obtain ⟨h1, ⟨cs, h5, h6, h7, h8⟩, h9⟩ := h
  obtain ⟨k1, k2, k3⟩ := hc cs h5
  refine ⟨h1, ⟨_, k1, by omega, (k3 0 (by omega)).trans h7, fun g hg => ?_⟩, fun v hv => ?_⟩
  · by_cases e : g = f
    · subst e
      exact h3 cs h5 h6 (h8 g hg).1 (h8 g hg).2.1 (h8 g hg).2.2
    · rw [(ho g e).1, (ho g e).2.1, (ho g e).2.2]
      exact ⟨(k3 _ (by omega)).trans (h8 g hg).1, (k3 _ (by omega)).trans (h8 g hg).2.1, (k3 _ (by omega)).trans (h8 g hg).2.2⟩
  · obtain ⟨l, ⟨a0, c2, ty, b1, b2, b3, b4⟩, a2⟩ := h9 v hv
    have hcs : c2 = cs := by
      rw [h5] at b1
      injection b1 with b1
      injection b1 with b1
      exact b1.symm
    subst hcs
    exact ⟨l, ⟨a0, _, _, k1, by omega, (k3 _ (by omega)).trans b3, fun i hi => (k3 _ (by omega)).trans (b4 i hi)⟩, a2⟩
/-- frame f: taken or not -/
def tkS (s : PS) (f : Nat) (v : Bool) : PS := { s with tk := fun k => if k = f then v else s.tk k }
/-- frame f: who's, and left -/
def owS (s : PS) (f who : Nat) : PS := { ow := fun k => if k = f then true else s.ow k, tk := fun k => if k = f then false else s.tk k, wh := fun k => if k = f then who else s.wh k }
theorem PC.setT {p : Nat → Nat → Bool} (h : PC W pb b n s p) (f : Nat) (hf : f < 32) (v : Bool) : PC (W.setCell ⟨pb, 1 + f * 3 + 1, none⟩ (.bool v)) pb b n (tkS s f v) p := by
  refine h.hold (f := f) (by simp [World.setCell]) (fun cs => cs.setIfInBounds (1 + f * 3 + 1) (.bool v)) (fun cs hcs => ⟨heap_setCell_same W pb _ cs _ _ hcs, by simp, fun j hj => by rw [Array.getElem?_setIfInBounds_ne (by omega)]⟩) hf (fun k hk => ?_) ?_
  · simp [tkS, hk]
  · intro cs hcs hsz a1 a2 a3
    refine ⟨?_, ?_, ?_⟩
    · rw [Array.getElem?_setIfInBounds_ne (by omega), a1]; simp [tkS]
    · rw [Array.getElem?_setIfInBounds_self_of_lt (by omega)]; simp [tkS]
    · rw [Array.getElem?_setIfInBounds_ne (by omega), a3]; simp [tkS]
theorem PC.setH {p : Nat → Nat → Bool} (h : PC W pb b n s p) (f who : Nat) (hf : f < 32) :
    PC (((W.setCell ⟨pb, 1 + f * 3, none⟩ (.bool true)).setCell ⟨pb, 1 + f * 3 + 1, none⟩ (.bool false)).setCell ⟨pb, 1 + f * 3 + 2, none⟩ (.int .i64 who)) pb b n (owS s f who) p := by
  refine h.hold (f := f) (by simp [World.setCell]) (fun cs => ((cs.setIfInBounds (1 + f * 3) (.bool true)).setIfInBounds (1 + f * 3 + 1) (.bool false)).setIfInBounds (1 + f * 3 + 2) (.int .i64 who))
    (fun cs hcs => ⟨heap_setCell_same _ pb _ _ _ _ (heap_setCell_same _ pb _ _ _ _ (heap_setCell_same W pb _ cs _ _ hcs)), by simp, fun j hj => by rw [Array.getElem?_setIfInBounds_ne (by omega), Array.getElem?_setIfInBounds_ne (by omega), Array.getElem?_setIfInBounds_ne (by omega)]⟩) hf (fun k hk => ?_) ?_
  · simp [owS, hk]
  · intro cs hcs hsz a1 a2 a3
    refine ⟨?_, ?_, ?_⟩
    · rw [Array.getElem?_setIfInBounds_ne (by omega), Array.getElem?_setIfInBounds_ne (by omega), Array.getElem?_setIfInBounds_self_of_lt (by omega)]; simp [owS]
    · rw [Array.getElem?_setIfInBounds_ne (by omega), Array.getElem?_setIfInBounds_self_of_lt (by simp; omega)]; simp [owS]
    · rw [Array.getElem?_setIfInBounds_self_of_lt (by simp; omega)]; simp [owS]
theorem Two.set (W : World) (b pb i : Nat) (v : Value) : Two W (W.setCell ⟨pb, i, none⟩ v) b pb := ⟨rfl, rfl, rfl, by simp [World.setCell], fun q _ _ h => Below.heap_setCell _ _ _ _ h⟩
theorem Two.st {L : List Int} {m : Nat} (hS : St W b m L) (t : Two W W' b pb) (he : W'.heap[b]? = W.heap[b]?) : St W' b m L := hS.of_block he
theorem PC.as {p p' : Nat → Nat → Bool} (h : PC W pb b n s p) (e : ∀ v k, p v k = p' v k) : PC W pb b n s p' := by
  have : p = p' := funext fun v => funext fun k => e v k
  rwa [← this]
end

/-- made, of a pool that is nil, that no call made, that New made -/
theorem made_nil (w : World) : Calls Try.prog 39 #[.pointer none] w fun e w' => e = .returned (.bool false) ∧ w = w' := by
  go_enter Try.func39, Try.ntmps39
  go_wp2
  go_ret
  exact ⟨rfl, rfl⟩
theorem made_un (pb : Nat) (w : World) (h0 : w.cell? ⟨pb, 0, none⟩ = some (.pointer none)) : Calls Try.prog 39 #[.pointer (some ⟨pb, 0, none⟩)] w fun e w' => e = .returned (.bool false) ∧ w = w' := by
  go_enter Try.func39, Try.ntmps39
  go_wp2
  go_ret
  exact ⟨rfl, rfl⟩
theorem made_ok (pb b : Nat) (w : World) (h0 : w.cell? ⟨pb, 0, none⟩ = some (.pointer (some ⟨b, 0, none⟩))) : Calls Try.prog 39 #[.pointer (some ⟨pb, 0, none⟩)] w fun e w' => e = .returned (.bool true) ∧ w = w' := by
  go_enter Try.func39, Try.ntmps39
  go_wp2
  go_ret
  exact ⟨rfl, rfl⟩

/-- where made says no -/
theorem find_zero (p : Option Addr) (f : Int) (w : World) (hM : Calls Try.prog 39 #[.pointer p] w fun e w' => e = .returned (.bool false) ∧ w = w') :
    Calls Try.prog 29 #[.pointer p, .int .i64 f] w fun e w' => e = .returned (.tuple #[.pointer none, .int .i64 7]) ∧ w = w' := by
  go_enter Try.func29, Try.ntmps29
  go_wp2_with fail
  refine hM.mono ?_
  rintro e w' ⟨rfl, rfl⟩
  go_wp2
  go_ret2
  exact ⟨rfl, rfl⟩
theorem leftOf_zero (p : Option Addr) (f : Int) (w : World) (hM : Calls Try.prog 39 #[.pointer p] w fun e w' => e = .returned (.bool false) ∧ w = w') :
    Calls Try.prog 30 #[.pointer p, .int .i64 f] w fun e w' => e = .returned (.tuple #[.pointer none, .int .i64 7]) ∧ w = w' := by
  go_enter Try.func30, Try.ntmps30
  go_wp2_with fail
  refine hM.mono ?_
  rintro e w' ⟨rfl, rfl⟩
  go_wp2
  go_ret2
  exact ⟨rfl, rfl⟩

theorem find_in (pb b n f : Nat) (w : World) (h0 : w.cell? ⟨pb, 0, none⟩ = some (.pointer (some ⟨b, 0, none⟩))) (h1 : w.cell? ⟨b, 1, none⟩ = some (.int .i64 n)) (hf : f < n) (hn : n ≤ 32) :
    Calls Try.prog 29 #[.pointer (some ⟨pb, 0, none⟩), .int .i64 f] w fun e w' => e = .returned (.tuple #[.pointer (some ⟨pb, 1 + f * 3, none⟩), .int .i64 0]) ∧ w = w' := by
  have f0 : decide ((f : Int) < 0) = false := by simp
  have f1 : decide ((n : Int) ≤ (f : Int)) = false := by simpa using hf
  have f2 : (0 : Int) ≤ (f : Int) ∧ (f : Int) < 32 := by omega
  clear hn
  go_enter Try.func29, Try.ntmps29
  go_wp2_with fail
  refine (made_ok pb b w h0).mono ?_
  rintro e w' ⟨rfl, rfl⟩
  go_wp2_with fail
  refine (len_of b n w h1).mono ?_
  rintro e w' ⟨rfl, rfl⟩
  go_wp2
  go_ret2
  exact ⟨rfl, rfl⟩
theorem leftOf_in (pb b who : Nat) (w : World) (h0 : w.cell? ⟨pb, 0, none⟩ = some (.pointer (some ⟨b, 0, none⟩))) (hw : who < 16) :
    Calls Try.prog 30 #[.pointer (some ⟨pb, 0, none⟩), .int .i64 who] w fun e w' => e = .returned (.tuple #[.pointer (some ⟨pb, 97 + who * 33, none⟩), .int .i64 0]) ∧ w = w' := by
  have f0 : decide ((who : Int) < 0) = false := by simp
  have f1 : decide ((16 : Int) ≤ (who : Int)) = false := by simp; omega
  have f2 : (0 : Int) ≤ (who : Int) ∧ (who : Int) < 16 := by omega
  clear hw
  go_enter Try.func30, Try.ntmps30
  go_wp2_with fail
  refine (made_ok pb b w h0).mono ?_
  rintro e w' ⟨rfl, rfl⟩
  go_wp2
  go_ret2
  exact ⟨rfl, rfl⟩
end Go.Proofs.Ythabilokbfieiaa.Lo
