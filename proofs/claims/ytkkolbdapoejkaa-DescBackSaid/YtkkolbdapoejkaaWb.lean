/- Which old blocks stay as they were: Kq T: all but those of T. Serves all packages. -/
import Derived.Test.YtkkolbdapoejkaaTa
namespace Go.Proofs.Ytkkolbdapoejkaa.Ut
open Go.RowKit

/-- all old blocks but those of T are as they were -/
structure Kq (T : List Nat) (w w' : World) : Prop where
  os : w'.os = w.os
  tape : w'.tape = w.tape
  output : w'.output = w.output
  size : w.heap.size ≤ w'.heap.size
  block : ∀ q, q < w.heap.size → q ∉ T → w'.heap[q]? = w.heap[q]?
section
variable {T : List Nat} {w w' w'' : World} {b : Nat}
theorem Kq.refl (T : List Nat) (w : World) : Kq T w w := ⟨rfl, rfl, rfl, Nat.le_refl _, fun _ _ _ => rfl⟩
theorem Kq.trans (h : Kq T w w') (k : Kq T w' w'') : Kq T w w'' :=
  ⟨k.os.trans h.os, k.tape.trans h.tape, k.output.trans h.output, Nat.le_trans h.size k.size, fun q hq hn => (k.block q (Nat.lt_of_lt_of_le hq h.size) hn).trans (h.block q hq hn)⟩
theorem Kq.of_below (h : Below w.heap.size w w') : Kq T w w' := ⟨h.os, h.tape, h.output, h.size, fun q hq _ => h.block q hq⟩
theorem Kq.of_grown (h : w.grownBy w' (some b)) (hb : b ∈ T) : Kq T w w' := ⟨h.os, h.tape, h.output, h.size, fun q hq hn => h.block q hq (fun e => hn (by injection e with e; rw [e]; exact hb))⟩
theorem Kq.more {T' : List Nat} (h : Kq T w w') (hs : ∀ q ∈ T, q ∈ T') : Kq T' w w' := ⟨h.os, h.tape, h.output, h.size, fun q hq hn => h.block q hq (fun e => hn (hs q e))⟩
theorem Kq.below (h : Kq [] w w') : Below w.heap.size w w' := ⟨h.os, h.tape, h.output, h.size, fun q hq => h.block q hq (by simp)⟩
/-- of blocks made later than the first B nothing is said -/
theorem Kq.under {B : Nat} (h : Kq T w w') (hs : ∀ q ∈ T, B ≤ q) (hB : B ≤ w.heap.size) : Below B w w' := by
  refine ⟨h.os, h.tape, h.output, h.size, fun q hq => h.block q (Nat.lt_of_lt_of_le hq hB) (fun e => ?_)⟩
  have := hs q e
  omega
theorem Kq.setCell (h : Kq T w w') (b j : Nat) (v : Value) (hb : b ∈ T ∨ w.heap.size ≤ b) : Kq T w (w'.setCell ⟨b, j, none⟩ v) :=
  ⟨h.os, h.tape, h.output, by simpa [World.setCell] using h.size, fun q hq hn => (Below.heap_setCell _ _ _ _ (fun e => by
    have e : q = b := e
    subst e
    rcases hb with hb | hb
    · exact hn hb
    · omega)).trans (h.block q hq hn)⟩
theorem Blk.more {t : TypeId} {cs : List Value} (h : Blk w b t cs) (hb : Below w.heap.size w w') : Blk w' b t cs := h.below hb h.lt
theorem Blk.kq {t : TypeId} {cs : List Value} (h : Blk w b t cs) (k : Kq T w w') (hb : b ∉ T) : Blk w' b t cs := h.of_block (k.block b h.lt hb)
theorem Kq.cell (h : Kq T w w') {p : Addr} (hp : p.block < w.heap.size) (hT : p.block ∉ T) : w'.cell? p = w.cell? p := World.cell?_of_block (h.block _ hp hT)
end
end Go.Proofs.Ytkkolbdapoejkaa.Ut
