/- Package shadow: all its methods keep what the laws lean on (ProgC). -/
import Derived.Test.YtcdiigdbjncpeaaJz
namespace Go.Proofs.Ytcdiigdbjncpeaa.Sw
open Go.RowKit Ut
set_option maxRecDepth 100000
set_option linter.unusedVariables false
set_option maxHeartbeats 4000000

/-- the program's memory at g says l -/
def PS19 (W : World) (g : Nat) (S : List Nat) (l : List Ln) : Prop := S = [g] ∧ LS19 W g true l ∧ Inv19 l ∧ ErW l
theorem erW_filter {l : List Ln} (h : ErW l) (F : Ln → Bool) : ErW (l.filter F) := fun x hx => h x (List.mem_filter.1 hx).1
theorem stepS19 {W W' : World} {g : Nat} {l' : List Ln} (hl : LS19 W' g true l') (hi : Inv19 l') (he : ErW l') (hk : Kq [g] W W') : StepS PS19 W W' g [g] l' := ⟨⟨[g], ⟨rfl, hl, hi, he⟩, fun s hs => .inl hs⟩, hk⟩
theorem prog19 : ProgC PS19 where
  lt h s hs := by
    obtain ⟨rfl, h1, _⟩ := h
    simp at hs
    subst hs
    exact h1.lt
  kq h k hT := by
    obtain ⟨rfl, h1, h2⟩ := h
    exact ⟨rfl, h1.kq k (hT _ (by simp)), h2⟩
  len h := h.2.1.len
  new w := (shNew_any w).mono fun e w' ⟨h1, h2, h3⟩ => ⟨w.heap.size, [w.heap.size], h1, Lib.hid ⟨⟨rfl, h2, Inv19.nil, (fun x hx => by cases hx)⟩, (fun s hs => by simp at hs; omega)⟩, h3⟩
  no p q ep ef er r f h ho := shFill_no p q ep ef er r f h.2.1 ho
  yes p q ep ef er r f h hr hf h1 h2 := by
    obtain ⟨rfl, hl, hi, he⟩ := h
    exact (shFill_yes p q ep ef er r f hl hi he hr hf).mono fun e w' ⟨h3, h4, h5⟩ => ⟨h3, Lib.hid (stepS19 h4.out (hi.fill _) (erW_fill hi he _ h1 h2) h5)⟩
  get p q h := shGet_any p q h.2.1.th (.inr ⟨_, _, rfl, h.2.1⟩)
  table p h := shTable_any p h.2.1.th
  wrote p h := by
    obtain ⟨rfl, hl, hi, he⟩ := h
    exact (shWrote_any p hl).mono fun e w' ⟨h3, h4, h5⟩ => ⟨h3, Lib.hid (stepS19 h4.out (hi.filter _) (erW_filter he _) h5)⟩
  gone p h := by
    obtain ⟨rfl, hl, hi, he⟩ := h
    exact (shGone_any p hl).mono fun e w' ⟨h3, h4, h5⟩ => ⟨h3, Lib.hid (stepS19 h4.out (hi.filter _) (erW_filter he _) h5)⟩
  flush h := by
    obtain ⟨rfl, hl, hi, he⟩ := h
    exact (shFlush_any hl).mono fun e w' ⟨h3, h4, h5⟩ => ⟨h3, Lib.hid (stepS19 h4.out Inv19.nil (fun x hx => by cases hx) h5)⟩
  size h := shLen_any h.2.1.th
  list h := shList_any h.2.1.th
end Go.Proofs.Ytcdiigdbjncpeaa.Sw
