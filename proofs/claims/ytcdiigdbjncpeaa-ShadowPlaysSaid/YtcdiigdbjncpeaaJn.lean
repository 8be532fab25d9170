/- Both sides of ShadowPlays in one world: the program's shadow, the document's, an act's own block (JB); what each call tells and leaves. -/
import Derived.Test.YtcdiigdbjncpeaaJi
namespace Go.Proofs.Ytcdiigdbjncpeaa.Sw
open Go.RowKit Ut
set_option maxRecDepth 100000
set_option linter.unusedVariables false
set_option maxHeartbeats 4000000

theorem DS.stays {w w' : World} {d n cap : Nat} {a : Option Addr} {l : List Ln} {T : List Nat} (h : DS w d a n cap l) (k : Kq T w w') (hd : d ∉ T) (hT : l ≠ [] → ∀ y, a = some y → y.block ∉ T) : DS w' d a n cap l :=
  ⟨h.blk.kq k hd, h.len, irow_stays h.row k (fun hx => hT (fun e => hx (by rw [e]; rfl))), h.ng⟩
/-- both sides: the program's says l, the document's m; the act's block ab holds cs -/
structure JB (PS : World → Nat → List Nat → List Ln → Prop) (w W : World) (g d ab : Nat) (cs : List Value) (l m : List Ln) : Prop where
  ex : ∃ S b c, PS W g S l ∧ DS W d b m.length c m ∧ (∀ s ∈ S, w.heap.size ≤ s ∧ s ≠ d ∧ s ≠ ab) ∧ (m ≠ [] → ∀ y, b = some y → y.block ∉ S)
  dd : w.heap.size ≤ d
  dl : d < W.heap.size
  al : ab < W.heap.size
  da : cs ≠ [] → d < ab
  bk : cs ≠ [] → Blk W ab 34 cs
  b : Below w.heap.size w W
/-- what an act told -/
def DoneS (W W' : World) (l : List Ln) (x : Ak) (t k n : Value) : Prop :=
  (x.kd = 0 ∧ Told 2 W W' k ((goneS l x.rt false).map Ln.key)) ∨ (x.kd = 1 ∧ Told 2 W W' k ((goneS l x.rt true).map Ln.key)) ∨ (x.kd = 2 ∧ n = .int .i64 l.length) ∨
  ((x.kd ≠ 0 ∧ x.kd ≠ 1 ∧ x.kd ≠ 2) ∧ ((ownP x.rt = true ∧ ownP x.lf = true) ∧ Told 1 W W' t (toldS l x.rt x.lf 8) ∧ n = .int .i64 0)) ∨
  ((x.kd ≠ 0 ∧ x.kd ≠ 1 ∧ x.kd ≠ 2) ∧ ((ownP x.rt = false ∨ (ownP x.rt = true ∧ ownP x.lf = false)) ∧ Told 1 W W' t [] ∧ n = .int .i64 1))
section
variable {PS : World → Nat → List Nat → List Ln → Prop} (C : ProgC PS) {w W W' : World} {g d ab : Nat} {cs : List Value} {l l' m m' : List Ln}
theorem JB.step {S : List Nat} {b : Option Addr} {c : Nat} (h : JB PS w W g d ab cs l m) (h2 : DS W d b m.length c m) (h3 : ∀ s ∈ S, w.heap.size ≤ s ∧ s ≠ d ∧ s ≠ ab) (h4 : m ≠ [] → ∀ y, b = some y → y.block ∉ S) (hs : StepS PS W W' g S l') : JB PS w W' g d ab cs l' m := by
  obtain ⟨⟨S', k1, k2⟩, k3⟩ := hs
  have hdl := h.dl
  have hal := h.al
  refine ⟨⟨S', b, c, k1, h2.stays k3 (fun hd => (h3 d hd).2.1 rfl) h4, fun s hs => ?_, fun hm y e hmem => ?_⟩, h.dd, Nat.lt_of_lt_of_le hdl k3.size, Nat.lt_of_lt_of_le hal k3.size, h.da, fun hc => (h.bk hc).kq k3 (fun ha => (h3 ab ha).2.2 rfl), h.b.trans (k3.under (fun s hs => (h3 s hs).1) h.b.size)⟩
  · rcases k2 s hs with h5 | h5
    · exact h3 s h5
    · exact ⟨Nat.le_trans h.b.size h5, by omega, by omega⟩
  · rcases k2 _ hmem with h5 | h5
    · exact h4 hm y e h5
    · have := irow_lt h2.row (fun e2 => hm (List.map_eq_nil_iff.1 e2)) y e
      omega
include C
theorem JB.more (h : JB PS w W g d ab cs l m) (hb : Below W.heap.size W W') : JB PS w W' g d ab cs l m := by
  obtain ⟨S, b, c, h1, h2, h3, h4⟩ := h.ex
  exact ⟨⟨S, b, c, C.more h1 hb, h2.more hb, h3, h4⟩, h.dd, Nat.lt_of_lt_of_le h.dl hb.size, Nat.lt_of_lt_of_le h.al hb.size, h.da, fun hc => (h.bk hc).more hb, h.b.trans (hb.mono h.b.size)⟩
theorem JB.doc (h : JB PS w W g d ab cs l m) (hk : Kq [d] W W') (hd : DSE W' W.heap.size d m') : JB PS w W' g d ab cs l m' := by
  obtain ⟨S, b, c, h1, h2, h3, h4⟩ := h.ex
  obtain ⟨b', c', k1, k2⟩ := hd
  refine ⟨⟨S, b', c', C.kq h1 hk (fun s hs hm => (h3 s hs).2.1 (List.mem_singleton.1 hm)), k1, h3, fun _ y e hm => ?_⟩, h.dd, Nat.lt_of_lt_of_le h.dl hk.size, Nat.lt_of_lt_of_le h.al hk.size, h.da, fun hc => (h.bk hc).kq hk (by have := h.da hc; simp; omega), h.b.trans (hk.under (fun q hq => by simp at hq; rw [hq]; exact h.dd) h.b.size)⟩
  have := C.lt h1 _ hm
  have := k2 y e
  omega
theorem JB.len (h : JB PS w W g d ab cs l m) : l.length ≤ 32 := by
  obtain ⟨S, b, c, h1, _⟩ := h.ex
  exact C.len h1
theorem JB.arm {ab0 : Nat} {cs0 : List Value} (h : JB PS w W g d ab0 cs0 l m) (cs : List Value) : JB PS w (W.alloc (.cells cs.toArray 34)) g d W.heap.size cs l m := by
  have hb : Below W.heap.size W (W.alloc (.cells cs.toArray 34)) := (Below.refl _ _).alloc (Nat.le_refl _) _
  obtain ⟨S, b, c, h1, h2, h3, h4⟩ := h.ex
  exact ⟨⟨S, b, c, C.more h1 hb, h2.more hb, fun s hs => ⟨(h3 s hs).1, (h3 s hs).2.1, by have := C.lt h1 s hs; omega⟩, h4⟩, h.dd, Nat.lt_of_lt_of_le h.dl hb.size, by simp, fun _ => h.dl, fun _ => Blk.new W _ cs, h.b.trans (hb.mono h.b.size)⟩
omit C in
theorem JB.disarm (h : JB PS w W g d ab cs l m) : JB PS w W g d d [] l m := by
  obtain ⟨S, b, c, h1, h2, h3, h4⟩ := h.ex
  exact ⟨⟨S, b, c, h1, h2, fun s hs => ⟨(h3 s hs).1, (h3 s hs).2.1, (h3 s hs).2.1⟩, h4⟩, h.dd, h.dl, h.dl, fun e => absurd rfl e, fun e => absurd rfl e, h.b⟩
omit C in
theorem told_kept {k : Nat} {W0 : World} {v : Value} {xs : List (List Int)} (h : Told k W0 W v xs) (hd : d < W0.heap.size) (hk : Kq [d] W W') : ∃ a c, v = .slice a xs.length c ∧ IRow k W' a xs := by
  obtain ⟨a, c, h1, h2, h3⟩ := h
  exact ⟨a, c, h1, h2.kq hk (fun y e => by have := h3 y e; simp; omega)⟩
theorem jDoes (x : Ak) (hx : AkW x) (h : JB PS w W g d ab cs l m) : Calls Try.prog 9 #[.pointer (some ⟨g, 0, none⟩), x.v] W fun e w' => ∃ t k n, e = .returned (.tuple #[t, k, n]) ∧ Hid (JB PS w w' g d ab cs (actS l x) m) ∧ Hid (DoneS W w' l x t k n) := by
  obtain ⟨S, b, c, h1, h2, h3, h4⟩ := h.ex
  obtain ⟨kd, kr, kp, ep, ef, er, rt, lf⟩ := x
  have hx4 : -9223372036854775808 ≤ er := hx.l5
  have hx5 : er < 9223372036854775808 := hx.u5
  clear hx
  unfold actS DoneS
  dsimp only
  by_cases k0 : kd = 0
  · subst k0
    rw [if_pos rfl]
    exact (does_wrote C kr kp ep ef er rt lf W h1).mono fun e w' ⟨⟨v, e1, e2⟩, e3⟩ => ⟨_, _, _, e1, Lib.hid (h.step h2 h3 h4 e3.out), Lib.hid (.inl ⟨rfl, e2.out⟩)⟩
  by_cases k1 : kd = 1
  · subst k1
    rw [if_neg k0, if_pos rfl]
    exact (does_gone C kr kp ep ef er rt lf W h1).mono fun e w' ⟨⟨v, e1, e2⟩, e3⟩ => ⟨_, _, _, e1, Lib.hid (h.step h2 h3 h4 e3.out), Lib.hid (.inr (.inl ⟨rfl, e2.out⟩))⟩
  by_cases k2 : kd = 2
  · subst k2
    rw [if_neg k0, if_neg k1, if_pos rfl]
    exact (does_flush C kr kp ep ef er rt lf W h1).mono fun e w' ⟨e1, e3⟩ => ⟨_, _, _, e1, Lib.hid (h.step h2 h3 h4 e3.out), Lib.hid (.inr (.inr (.inl ⟨rfl, rfl⟩)))⟩
  rw [if_neg k0, if_neg k1, if_neg k2]
  by_cases k3 : ownP rt = true ∧ ownP lf = true
  · rw [if_pos k3]
    exact (does_yes C kd kr kp ep ef er rt lf ⟨k0, k1, k2⟩ k3.1 k3.2 hx4 hx5 W h1).mono fun e w' ⟨⟨v, e1, e2⟩, e3⟩ => ⟨_, _, _, e1, Lib.hid (h.step h2 h3 h4 e3.out), Lib.hid (.inr (.inr (.inr (.inl ⟨⟨k0, k1, k2⟩, k3, e2.out, rfl⟩))))⟩
  · rw [if_neg k3]
    have ho : ownP rt = false ∨ (ownP rt = true ∧ ownP lf = false) := by
      cases hh : ownP rt <;> cases hg : ownP lf <;> simp_all
    exact (does_no C kd kr kp ep ef er rt lf ⟨k0, k1, k2⟩ ho W h1).mono fun e w' ⟨⟨v, e1, e2⟩, e3⟩ => ⟨_, _, _, e1, Lib.hid (h.step h2 h3 h4 e3.out), Lib.hid (.inr (.inr (.inr (.inr ⟨⟨k0, k1, k2⟩, ho, e2.out, rfl⟩))))⟩
theorem jGet (p q : Int) (o : Option Ln) (ho : findS l p q = o) (h : JB PS w W g d ab cs l m) : Calls Try.prog 14 #[.pointer (some ⟨g, 0, none⟩), .agg #[.int .i64 p, .int .i64 q]] W fun e w' => e = .returned (.tuple #[entW (entS o), .bool o.isSome]) ∧ Below W.heap.size W w' := by
  subst ho
  obtain ⟨S, b, c, h1, _⟩ := h.ex
  exact C.get p q h1
theorem jTable (p : Int) (t : Bool) (ht : tabL l p = t) (h : JB PS w W g d ab cs l m) : Calls Try.prog 20 #[.pointer (some ⟨g, 0, none⟩), .int .i64 p] W fun e w' => e = .returned (.bool t) ∧ Below W.heap.size W w' := by
  subst ht
  obtain ⟨S, b, c, h1, _⟩ := h.ex
  exact C.table p h1
theorem jLen (n : Nat) (hn : l.length = n) (h : JB PS w W g d ab cs l m) : Calls Try.prog 16 #[.pointer (some ⟨g, 0, none⟩)] W fun e w' => e = .returned (.int .i64 n) ∧ Below W.heap.size W w' := by
  subst hn
  obtain ⟨S, b, c, h1, _⟩ := h.ex
  exact C.size h1
theorem jList (n : Nat) (hn : l.length = n) (h : JB PS w W g d ab cs l m) : Calls Try.prog 18 #[.pointer (some ⟨g, 0, none⟩)] W fun e w' => (∃ a c, e = .returned (.slice a n c) ∧ Hid (IRow 5 w' a (l.map Ln.kept))) ∧ Below W.heap.size W w' := by
  subst hn
  obtain ⟨S, b, c, h1, _⟩ := h.ex
  refine (C.list h1).mono fun e w' ⟨⟨v, k1, k2⟩, k3⟩ => ⟨?_, k3⟩
  obtain ⟨a, c, rfl, k4, _⟩ := k2.out
  rw [List.length_map] at k1
  exact ⟨a, c, k1, Lib.hid k4⟩
theorem dWroteJ (pg : Int) (too : Bool) (h : JB PS w W g d ab cs l m) (hm : m.length ≤ 32) :
    Calls Try.prog 11 #[.pointer (some ⟨d, 0, none⟩), .int .i64 pg, .bool too] W fun e w' => (∃ b c, e = .returned (.slice b (goneS m pg too).length c) ∧ Hid (IRow 2 w' b ((goneS m pg too).map Ln.key))) ∧ Hid (JB PS w w' g d ab cs l (leftS m pg too)) ∧ Kq [d] W w' := by
  obtain ⟨S, b, c, h1, h2, _⟩ := h.ex
  exact (refWrote_any pg too W h2 (by omega)).mono fun e w' ⟨⟨b, c, e1, e2⟩, e3, e4⟩ => ⟨⟨b, c, e1, Lib.hid e2.out.1⟩, Lib.hid (h.doc C e4 e3), e4⟩
theorem dYesJ (p q ep ef er r f : Int) (hr : ownP r = true) (hf : ownP f = true) (h : JB PS w W g d ab cs l m) (hm : m.length ≤ 32) :
    Calls Try.prog 12 #[.pointer (some ⟨d, 0, none⟩), .agg #[.int .i64 p, .int .i64 q], .agg #[.int .i64 ep, .int .i64 ef, .int .i64 er], .int .i64 r, .int .i64 f] W fun e w' => (∃ b c, e = .returned (.tuple #[.slice b (toldS m r f 8).length c, .int .i64 0]) ∧ Hid (IRow 1 w' b (toldS m r f 8))) ∧ Hid (JB PS w w' g d ab cs l (fillS m ⟨p, q, ep, ef, er, r, f⟩)) ∧ Kq [d] W w' := by
  obtain ⟨S, b, c, h1, h2, _⟩ := h.ex
  exact (refFill_yes ⟨p, q, ep, ef, er, r, f⟩ W h2 (by omega) hr hf).mono fun e w' ⟨⟨b, c, e1, e2⟩, e3, e4⟩ => ⟨⟨b, c, e1, Lib.hid e2.out.1⟩, Lib.hid (h.doc C e4 e3), e4⟩
theorem dNoJ (p q ep ef er r f : Int) (ho : ownP r = false ∨ (ownP r = true ∧ ownP f = false)) (h : JB PS w W g d ab cs l m) :
    Calls Try.prog 12 #[.pointer (some ⟨d, 0, none⟩), .agg #[.int .i64 p, .int .i64 q], .agg #[.int .i64 ep, .int .i64 ef, .int .i64 er], .int .i64 r, .int .i64 f] W fun e w' => e = .returned (.tuple #[.slice none 0 0, .int .i64 1]) ∧ Hid (JB PS w w' g d ab cs l m) ∧ Kq [d] W w' :=
  (refFill_no p q ep ef er r f _ W ho ⟨d, rfl⟩).mono fun e w' ⟨e1, e2⟩ => ⟨e1, Lib.hid (h.more C e2), Kq.of_below e2⟩
omit C in
theorem dGetJ (p q : Int) (o : Option Ln) (ho : findS m p q = o) (h : JB PS w W g d ab cs l m) (hm : m.length ≤ 32) : Calls Try.prog 15 #[.pointer (some ⟨d, 0, none⟩), .agg #[.int .i64 p, .int .i64 q]] W fun e w' => e = .returned (.tuple #[entW (entS o), .bool o.isSome]) ∧ Below W.heap.size W w' := by
  obtain ⟨S, b, c, h1, h2, _⟩ := h.ex
  exact refGetS_any p q o ho W h2 (by omega)
omit C in
theorem dTableJ (p : Int) (t : Bool) (ht : tabL m p = t) (h : JB PS w W g d ab cs l m) (hm : m.length ≤ 32) : Calls Try.prog 21 #[.pointer (some ⟨d, 0, none⟩), .int .i64 p] W fun e w' => e = .returned (.bool t) ∧ Below W.heap.size W w' := by
  obtain ⟨S, b, c, h1, h2, _⟩ := h.ex
  exact refTable_any p t ht W h2 (by omega)
omit C in
theorem dListJ (n : Nat) (hn : m.length = n) (h : JB PS w W g d ab cs l m) (hm : m.length ≤ 32) : Calls Try.prog 19 #[.pointer (some ⟨d, 0, none⟩)] W fun e w' => (∃ a c, e = .returned (.slice a n c) ∧ Hid (IRow 5 w' a (m.map Ln.kept))) ∧ Below W.heap.size W w' := by
  subst hn
  obtain ⟨S, b, c, h1, h2, _⟩ := h.ex
  exact (refListS_any W h2 (by omega)).mono fun e w' ⟨⟨b, c, e1, e2⟩, e3⟩ => ⟨⟨b, c, e1, Lib.hid e2.out.1⟩, e3⟩
omit C in
theorem JB.cell0 (h : JB PS w W g d ab cs l m) : ∃ b c, W.cell? ⟨d, 0, none⟩ = some (.slice b m.length c) := by
  obtain ⟨S, b, c, h1, h2, _⟩ := h.ex
  exact ⟨b, c, h2.cell0⟩
/-- the document's list emptied -/
theorem JB.empty (h : JB PS w W g d ab cs l m) : JB PS w (W.setCell ⟨d, 0, none⟩ (.slice none 0 0)) g d ab cs l [] := by
  obtain ⟨S, b, c, h1, h2, _⟩ := h.ex
  refine h.doc C ((Kq.refl [d] W).setCell d 0 _ (.inl (by simp))) ⟨none, 0, ⟨?_, rfl, IRow.nil _ _ _, (fun y e => by cases e)⟩, (fun y e => by cases e)⟩
  exact h2.blk.set 0 _
end
end Go.Proofs.Ytcdiigdbjncpeaa.Sw
