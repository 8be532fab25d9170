/- hermitagelaw19: the program's shadow where a law made it (RQ: its blocks are the law's own, with rows that are kept beside it); awake. -/
import Derived.Test.YtcdiigdbjncpeaaJh
namespace Go.Proofs.Ytcdiigdbjncpeaa.Sw
open Go.RowKit Ut
set_option maxRecDepth 100000
set_option linter.unusedVariables false
set_option maxHeartbeats 4000000

theorem irow_lt {k : Nat} {w : World} {a : Option Addr} {xs : List (List Int)} (h : IRow k w a xs) (hx : xs ≠ []) : ∀ y, a = some y → y.block < w.heap.size := fun y e => by
  obtain ⟨x, xs, rfl⟩ : ∃ x t, xs = x :: t := by cases xs with | nil => exact absurd rfl hx | cons x t => exact ⟨x, t, rfl⟩
  obtain ⟨y', e', h1, _⟩ := h 0 x rfl
  rw [e] at e'
  injection e' with e'
  rw [e']
  exact h1
theorem irow_stays {k : Nat} {w w' : World} {a : Option Addr} {xs : List (List Int)} {T : List Nat} (h : IRow k w a xs) (q : Kq T w w') (hT : xs ≠ [] → ∀ y, a = some y → y.block ∉ T) : IRow k w' a xs := by
  by_cases hx : xs = []
  · subst hx
    exact IRow.nil _ _ _
  · exact h.kq q (hT hx)
/-- the shadow that the law made, and rows that stay beside it -/
structure RQ (PS : World → Nat → List Nat → List Ln → Prop) (w W : World) (g : Nat) (l : List Ln) (R : List (Option Addr × List (List Int))) : Prop where
  ex : ∃ S, PS W g S l ∧ (∀ s ∈ S, w.heap.size ≤ s) ∧ ∀ r ∈ R, IRow 5 W r.1 r.2 ∧ (r.2 ≠ [] → ∀ y, r.1 = some y → y.block ∉ S)
  b : Below w.heap.size w W
section
variable {PS : World → Nat → List Nat → List Ln → Prop} (C : ProgC PS) {w W W' : World} {g : Nat} {l l' : List Ln} {R : List (Option Addr × List (List Int))}
include C
theorem RQ.more (h : RQ PS w W g l R) (hb : Below W.heap.size W W') : RQ PS w W' g l R := by
  obtain ⟨S, h1, h2, h3⟩ := h.ex
  exact ⟨⟨S, C.more h1 hb, h2, fun r hr => ⟨(h3 r hr).1.more hb, (h3 r hr).2⟩⟩, h.b.trans (hb.mono h.b.size)⟩
omit C in
theorem RQ.step {S : List Nat} (h2 : ∀ s ∈ S, w.heap.size ≤ s) (h3 : ∀ r ∈ R, IRow 5 W r.1 r.2 ∧ (r.2 ≠ [] → ∀ y, r.1 = some y → y.block ∉ S)) (hB : Below w.heap.size w W) (hs : StepS PS W W' g S l') : RQ PS w W' g l' R := by
  obtain ⟨⟨S', k1, k2⟩, k3⟩ := hs
  refine ⟨⟨S', k1, fun s hs => ?_, fun r hr => ⟨irow_stays (h3 r hr).1 k3 (h3 r hr).2, fun hx y e hm => ?_⟩⟩, hB.trans (k3.under h2 hB.size)⟩
  · rcases k2 s hs with h | h
    · exact h2 s h
    · exact Nat.le_trans hB.size h
  · rcases k2 _ hm with h | h
    · exact (h3 r hr).2 hx y e h
    · have := irow_lt (h3 r hr).1 hx y e
      omega
theorem RQ.tell (h : RQ PS w W g l R) (hb : Below W.heap.size W W') {a : Option Addr} {xs : List (List Int)} (h4 : IRow 5 W' a xs) (h5 : ∀ y, a = some y → W.heap.size ≤ y.block) : RQ PS w W' g l ((a, xs) :: R) := by
  obtain ⟨S, h1, h2, h3⟩ := h.ex
  refine ⟨⟨S, C.more h1 hb, h2, fun r hr => ?_⟩, h.b.trans (hb.mono h.b.size)⟩
  rcases List.mem_cons.1 hr with rfl | hr
  · exact ⟨h4, fun _ y e hm => by have := h5 y e; have := C.lt h1 _ hm; omega⟩
  · exact ⟨(h3 r hr).1.more hb, (h3 r hr).2⟩
theorem RQ.len (h : RQ PS w W g l R) : l.length ≤ 32 := by
  obtain ⟨S, h1, _⟩ := h.ex
  exact C.len h1
omit C in
theorem RQ.row (h : RQ PS w W g l R) {a : Option Addr} {xs : List (List Int)} (hr : (a, xs) ∈ R) : IRow 5 W a xs := by
  obtain ⟨S, _, _, h3⟩ := h.ex
  exact (h3 _ hr).1
omit C in
theorem RQ.less (h : RQ PS w W g l R) {R' : List (Option Addr × List (List Int))} (hr : ∀ r ∈ R', r ∈ R) : RQ PS w W g l R' := by
  obtain ⟨S, h1, h2, h3⟩ := h.ex
  exact ⟨⟨S, h1, h2, fun r h => h3 r (hr r h)⟩, h.b⟩
theorem qNew (w : World) : Calls Try.prog 8 #[] w fun e w' => ∃ g, e = .returned (.pointer (some ⟨g, 0, none⟩)) ∧ Hid (RQ PS w w' g [] []) :=
  (C.new w).mono fun e w' ⟨g, S, h1, h2, h3⟩ => ⟨g, h1, Lib.hid ⟨⟨S, h2.out.1, h2.out.2, fun r hr => by cases hr⟩, h3⟩⟩
theorem qYes (p q ep ef er r f : Int) (t : List (List Int)) (n : Nat) (ht : toldS l r f 8 = t) (hn : t.length = n) (h : RQ PS w W g l R) (hr : ownP r = true) (hf : ownP f = true) (he : -9223372036854775808 ≤ er) (he2 : er < 9223372036854775808) :
    Calls Try.prog 25 #[.pointer (some ⟨g, 0, none⟩), .agg #[.int .i64 p, .int .i64 q], .agg #[.int .i64 ep, .int .i64 ef, .int .i64 er], .int .i64 r, .int .i64 f] W fun e w' => (∃ a c, e = .returned (.tuple #[.slice a n c, .int .i64 0]) ∧ Hid (IRow 1 w' a t)) ∧ Hid (RQ PS w w' g (fillS l ⟨p, q, ep, ef, er, r, f⟩) R) := by
  subst ht hn
  obtain ⟨S, h1, h2, h3⟩ := h.ex
  exact (C.yes p q ep ef er r f h1 hr hf he he2).mono fun e w' ⟨⟨v, k1, k2⟩, k3⟩ => ⟨by obtain ⟨a, c, rfl, k4, _⟩ := k2.out; exact ⟨a, c, k1, Lib.hid k4⟩, Lib.hid (RQ.step h2 h3 h.b k3.out)⟩
theorem qDoes (x : Ak) (hx : AkW x) (h : RQ PS w W g l R) : Calls Try.prog 9 #[.pointer (some ⟨g, 0, none⟩), x.v] W fun e w' => (∃ a b c, e = .returned (.tuple #[a, b, c])) ∧ Hid (RQ PS w w' g (actS l x) R) := by
  obtain ⟨S, h1, h2, h3⟩ := h.ex
  exact (does_any C x hx W h1).mono fun e w' ⟨k1, k2⟩ => ⟨k1, Lib.hid (RQ.step h2 h3 h.b k2.out)⟩
theorem qWrote (p : Int) (n : Nat) (hn : (goneS l p false).length = n) (h : RQ PS w W g l R) : Calls Try.prog 23 #[.pointer (some ⟨g, 0, none⟩), .int .i64 p] W fun e w' => (∃ a c, e = .returned (.slice a n c)) ∧ Hid (RQ PS w w' g (leftS l p false) R) := by
  subst hn
  obtain ⟨S, h1, h2, h3⟩ := h.ex
  exact (C.wrote p h1).mono fun e w' ⟨⟨v, k1, k2⟩, k3⟩ => ⟨by obtain ⟨a, c, rfl, _⟩ := k2.out; rw [List.length_map] at k1; exact ⟨a, c, k1⟩, Lib.hid (RQ.step h2 h3 h.b k3.out)⟩
theorem qGone (p : Int) (h : RQ PS w W g l R) : Calls Try.prog 24 #[.pointer (some ⟨g, 0, none⟩), .int .i64 p] W fun e w' => (∃ v, e = .returned v) ∧ Hid (RQ PS w w' g (leftS l p true) R) := by
  obtain ⟨S, h1, h2, h3⟩ := h.ex
  exact (C.gone p h1).mono fun e w' ⟨⟨v, k1, _⟩, k3⟩ => ⟨⟨v, k1⟩, Lib.hid (RQ.step h2 h3 h.b k3.out)⟩
theorem qGet (p q : Int) (o : Option Ln) (ho : findS l p q = o) (h : RQ PS w W g l R) : Calls Try.prog 14 #[.pointer (some ⟨g, 0, none⟩), .agg #[.int .i64 p, .int .i64 q]] W fun e w' => e = .returned (.tuple #[entW (entS o), .bool o.isSome]) ∧ Below W.heap.size W w' := by
  subst ho
  obtain ⟨S, h1, h2, h3⟩ := h.ex
  exact C.get p q h1
theorem qTable (p : Int) (t : Bool) (ht : tabL l p = t) (h : RQ PS w W g l R) : Calls Try.prog 20 #[.pointer (some ⟨g, 0, none⟩), .int .i64 p] W fun e w' => e = .returned (.bool t) ∧ Below W.heap.size W w' := by
  subst ht
  obtain ⟨S, h1, h2, h3⟩ := h.ex
  exact C.table p h1
theorem qLen (n : Nat) (hn : l.length = n) (h : RQ PS w W g l R) : Calls Try.prog 16 #[.pointer (some ⟨g, 0, none⟩)] W fun e w' => e = .returned (.int .i64 n) ∧ Below W.heap.size W w' := by
  subst hn
  obtain ⟨S, h1, h2, h3⟩ := h.ex
  exact C.size h1
theorem qList (n : Nat) (hn : l.length = n) (h : RQ PS w W g l R) : Calls Try.prog 18 #[.pointer (some ⟨g, 0, none⟩)] W fun e w' => (∃ a c, e = .returned (.slice a n c) ∧ Hid (RQ PS w w' g l ((a, l.map Ln.kept) :: R) ∧ IRow 5 w' a (l.map Ln.kept))) ∧ Below W.heap.size W w' := by
  subst hn
  obtain ⟨S, h1, h2, h3⟩ := h.ex
  refine (C.list h1).mono fun e w' ⟨⟨v, k1, k2⟩, k3⟩ => ⟨?_, k3⟩
  obtain ⟨a, c, rfl, k4, k5⟩ := k2.out
  rw [List.length_map] at k1
  exact ⟨a, c, k1, Lib.hid ⟨RQ.tell C h k3 k4 k5, k4⟩⟩

theorem awake19 (w : World) : Calls Try.prog 22 #[] w fun e w' => e = .returned (.bool true) ∧ Below w.heap.size w w' := by
  have HN := Lib.hid (qNew C w)
  have HC := Lib.hid C
  clear C
  go_enter Try.func22, Try.ntmps22
  go_wp2_with fail
  refine HN.out.mono ?_
  rintro e w1 ⟨g, rfl, HQ⟩
  clear HN
  go_wp2_with fail
  refine (qYes HC.out 0 0 3 0 3 1 2 [[1], [2]] 2 (by decide +kernel) rfl HQ.out (by decide) (by decide) (by decide) (by decide)).mono ?_
  rintro e w2 ⟨⟨a, c, rfl, HT⟩, HQ2⟩
  clear HQ
  obtain ⟨y, rfl, hy, _, c0, _⟩ := HT.out.at_ (i := 0) rfl
  obtain ⟨y', e', _, _, c1, _⟩ := HT.out.at_ (i := 1) rfl
  injection e' with e'
  subst e'
  have m0 := c0 1 rfl
  have m1 := c1 2 rfl
  rw [Nat.zero_mul, show y.add 0 = y by simp [Addr.add]] at m0
  rw [Nat.mul_one, show y.add 1 = ⟨y.block, y.off + 1, none⟩ by simp [Addr.add]] at m1
  clear c0 c1 HT
  go_wp2_with fail
  refine (qTable HC.out 2 true (by decide +kernel) HQ2.out).mono ?_
  rintro e w3 ⟨rfl, hb3⟩
  have HQ3 := Lib.hid (RQ.more HC.out HQ2.out hb3)
  clear HQ2 hb3
  go_wp2_with fail
  refine (qTable HC.out 3 false (by decide +kernel) HQ3.out).mono ?_
  rintro e w4 ⟨rfl, hb4⟩
  have HQ4 := Lib.hid (RQ.more HC.out HQ3.out hb4)
  clear HQ3 hb4
  go_wp2
  go_ret
  exact ⟨rfl, HQ4.out.b⟩
end
end Go.Proofs.Ytcdiigdbjncpeaa.Sw
