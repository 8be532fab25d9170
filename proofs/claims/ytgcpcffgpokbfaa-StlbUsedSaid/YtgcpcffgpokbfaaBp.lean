/- hermitagelaw18: what the laws share: awake, keys and entries that came in, plain facts on Put and Get. -/
import Derived.Test.YtgcpcffgpokbfaaAy
import Derived.Test.YtgcpcffgpokbfaaAj
namespace Go.Proofs.Ytgcpcffgpokbfaa.Sb
open Go.RowKit Ut Hg
set_option maxRecDepth 100000
set_option linter.unusedVariables false
set_option maxHeartbeats 4000000

section
variable {l xs : List Rc} {x : Rc} {p q room : Int}
theorem find_end (h : ∀ y ∈ xs, y.is p q = false) (hx : x.is p q = true) : findL (xs ++ [x]) p q = some x := by
  unfold findL
  rw [List.find?_append, List.find?_eq_none.2 (fun y hy => by rw [h y hy]; decide)]
  simp [hx]
theorem without_is : ∀ y ∈ withoutL l p q, y.is p q = false := fun y hy => by
  have := (List.mem_filter.1 hy).2
  simpa using this
theorem without_find : findL (withoutL l p q) p q = none := find_none without_is
theorem put_len (h0 : 0 ≤ room) (h : (l.length : Int) ≤ room) : ((putL room l x).length : Int) ≤ room := by
  have hw := without_len l x.kr x.kp
  unfold putL
  by_cases hr : room < ((withoutL l x.kr x.kp).length + 1 : Nat)
  · rw [if_pos hr, List.length_drop, List.length_append, List.length_singleton]
    omega
  · rw [if_neg hr, List.length_append, List.length_singleton]
    omega
theorem self_is : x.is x.kr x.kp = true := is_iff.2 ⟨rfl, rfl⟩
theorem put_find (h0 : 0 < room) : findL (putL room l x) x.kr x.kp = some x := by
  unfold putL
  by_cases hr : room < ((withoutL l x.kr x.kp).length + 1 : Nat)
  · rw [if_pos hr]
    have hw : ∀ y ∈ withoutL l x.kr x.kp, y.is x.kr x.kp = false := without_is
    generalize withoutL l x.kr x.kp = ws at hr hw
    match ws, hr with
    | [], hr => simp at hr; omega
    | w :: ws, _ => exact find_end (fun y hy => hw y (List.mem_cons_of_mem _ hy)) self_is
  · rw [if_neg hr]
    exact find_end without_is self_is
theorem put_zero (h : l.length = 0) : putL 0 l x = [] := by
  obtain rfl := List.eq_nil_of_length_eq_zero h
  rfl
theorem get_some {y : Rc} (h : findL l p q = some y) : getL l p q = withoutL l p q ++ [⟨p, q, y.ep, y.ef, y.er⟩] := by
  unfold getL
  rw [h]
  rfl
theorem get_none' (h : findL l p q = none) : getL l p q = l := by
  unfold getL
  rw [h]
  rfl
theorem without_lt {y : Rc} (h : findL l p q = some y) : (withoutL l p q).length + 1 ≤ l.length := by
  have h1 := List.length_eq_countP_add_countP (fun x : Rc => x.is p q) (l := l)
  have h2 : 0 < l.countP fun x => x.is p q := List.countP_pos_iff.2 ⟨y, List.mem_of_find?_eq_some h, by simpa using List.find?_some h⟩
  have h3 : (withoutL l p q).length = l.countP fun x => !x.is p q := by unfold withoutL; rw [List.countP_eq_length_filter]
  have h4 : (l.countP fun x : Rc => decide (¬ x.is p q = true)) = l.countP fun x => !x.is p q := by
    congr 1
    funext x
    cases x.is p q <;> rfl
  rw [h4] at h1
  omega
theorem get_len : (getL l p q).length ≤ l.length := by
  cases h : findL l p q with
  | none => rw [get_none' h]; exact Nat.le_refl _
  | some y => rw [get_some h, List.length_append, List.length_singleton]; exact without_lt h
theorem get_find : (findL (getL l p q) p q).isSome = (findL l p q).isSome := by
  cases h : findL l p q with
  | none => rw [get_none' h, h]
  | some y =>
    have e := find_end (xs := withoutL l p q) (x := ⟨p, q, y.ep, y.ef, y.er⟩) (p := p) (q := q) without_is (is_iff.2 ⟨rfl, rfl⟩)
    rw [get_some h, e]
    rfl
end

/-- as PT, with a bound on the number of the last use -/
def PU (W : World) (g : Nat) (room : Int) (k : Nat) (l : List Rc) : Prop := ∃ c, PT W g room c l ∧ c ≤ (k : Nat)
section
variable {W W' : World} {g k : Nat} {room : Int} {l : List Rc} {T : List Nat}
theorem PU.kq (h : PU W g room k l) (hk : Kq T W W') (hg : g ∉ T) : PU W' g room k l := h.elim fun c h => ⟨c, h.1.kq hk hg, h.2⟩
theorem PU.more (h : PU W g room k l) (hb : Below W.heap.size W W') : PU W' g room k l := h.elim fun c h => ⟨c, h.1.more hb, h.2⟩
theorem PU.lt (h : PU W g room k l) : g < W.heap.size := h.elim fun _ h => h.1.lt
theorem PU.le (h : PU W g room k l) {m : Nat} (hm : k ≤ m) : PU W g room m l := h.elim fun c h => ⟨c, h.1, by have := h.2; omega⟩
theorem puNew (n : Nat) (hn : n ≤ 4) (w : World) : Calls Try.prog 8 #[.int .i64 n] w fun e w' => e = .returned (.tuple #[.pointer (some ⟨w.heap.size, 0, none⟩), .int .i64 0]) ∧ Hid (PU w' w.heap.size n 0 []) ∧ Below w.heap.size w w' :=
  (tlbNew_yes n (by omega) (by omega) w).mono fun e w' ⟨h1, h2, h3⟩ => ⟨h1, Lib.hid ⟨0, PT.made (W' := w) h2, Int.le_refl _⟩, h3⟩
theorem puPut (x : Rc) (h : PU W g room k l) (hl : (l.length : Int) ≤ room) (hr : room ≤ 4) (hk : k ≤ 1000000) :
    Calls Try.prog 20 #[.pointer (some ⟨g, 0, none⟩), .agg #[.int .i64 x.kr, .int .i64 x.kp], .agg #[.int .i64 x.ep, .int .i64 x.ef, .int .i64 x.er]] W fun e w' => e = .returned (.int .i64 0) ∧ Hid (PU w' g room (k + 1) (putL room l x)) ∧ Kq [g] W w' := by
  obtain ⟨c, h1, h2⟩ := h
  exact (ptPut_any x h1 hl hr (by omega)).mono fun e w' ⟨a, b, d⟩ => ⟨a, Lib.hid ⟨c + 1, b, by omega⟩, d⟩
theorem puGet (p q : Int) (o : Option Rc) (hfo : findL l p q = o) (h : PU W g room k l) (hk : k ≤ 1000000) :
    Calls Try.prog 11 #[.pointer (some ⟨g, 0, none⟩), .agg #[.int .i64 p, .int .i64 q]] W fun e w' => e = .returned (.tuple #[entV (entF o), .bool o.isSome]) ∧ Hid (PU w' g room (k + 1) (getL l p q)) ∧ Kq [g] W w' := by
  obtain ⟨c, h1, h2⟩ := h
  exact (ptGet_any p q o hfo h1 (by omega)).mono fun e w' ⟨a, b, d⟩ => ⟨a, Lib.hid (by obtain ⟨c', hc, hp⟩ := b.out; exact ⟨c', hp, by omega⟩), d⟩
theorem puDrop (p q : Int) (t : Bool) (ht : (findL l p q).isSome = t) (h : PU W g room k l) :
    Calls Try.prog 13 #[.pointer (some ⟨g, 0, none⟩), .agg #[.int .i64 p, .int .i64 q]] W fun e w' => e = .returned (.bool t) ∧ Hid (PU w' g room k (withoutL l p q)) ∧ Kq [g] W w' := by
  subst ht
  obtain ⟨c, h1, h2⟩ := h
  exact (ptDrop_any p q h1).mono fun e w' ⟨a, b, d⟩ => ⟨a, Lib.hid ⟨c, b, h2⟩, d⟩
theorem puGone (pg : Int) (n : Int) (hn : (l.length : Int) - ((goneL l pg).length : Int) = n) (h : PU W g room k l) :
    Calls Try.prog 15 #[.pointer (some ⟨g, 0, none⟩), .int .i64 pg] W fun e w' => e = .returned (.int .i64 n) ∧ Hid (PU w' g room k (goneL l pg)) ∧ Kq [g] W w' := by
  subst hn
  obtain ⟨c, h1, h2⟩ := h
  exact (ptGone_any pg h1).mono fun e w' ⟨a, b, d⟩ => ⟨a, Lib.hid ⟨c, b, h2⟩, d⟩
theorem puNarrow (pg : Int) (n : Nat) (hn : narN l pg = n) (h : PU W g room k l) :
    Calls Try.prog 17 #[.pointer (some ⟨g, 0, none⟩), .int .i64 pg] W fun e w' => e = .returned (.int .i64 n) ∧ Hid (PU w' g room k (narL l pg)) ∧ Kq [g] W w' := by
  subst hn
  obtain ⟨c, h1, h2⟩ := h
  exact (ptNarrow_any pg h1).mono fun e w' ⟨a, b, d⟩ => ⟨a, Lib.hid ⟨c, b, h2⟩, d⟩
theorem puFlush (n : Nat) (hn : l.length = n) (h : PU W g room k l) :
    Calls Try.prog 19 #[.pointer (some ⟨g, 0, none⟩)] W fun e w' => e = .returned (.int .i64 n) ∧ Hid (PU w' g room k []) ∧ Kq [g] W w' := by
  subst hn
  obtain ⟨c, h1, h2⟩ := h
  exact (ptFlush_any h1).mono fun e w' ⟨a, b, d⟩ => ⟨a, Lib.hid ⟨c, b, h2⟩, d⟩
theorem puLen (n : Nat) (hn : l.length = n) (h : PU W g room k l) : Calls Try.prog 22 #[.pointer (some ⟨g, 0, none⟩)] W fun e w' => e = .returned (.int .i64 n) ∧ W = w' := by
  subst hn
  obtain ⟨c, h1, h2⟩ := h
  exact ptLen_any h1
theorem puList (n : Nat) (hn : l.length = n) (h : PU W g room k l) :
    Calls Try.prog 24 #[.pointer (some ⟨g, 0, none⟩)] W fun e w' => (∃ a cap, e = .returned (.slice a n cap) ∧ Hid (RcRow w' a l ∧ ∀ y, a = some y → W.heap.size ≤ y.block)) ∧ Below W.heap.size W w' := by
  subst hn
  obtain ⟨c, h1, h2⟩ := h
  exact ptList_any h1
end

theorem awake18 (w : World) : Calls Try.prog 10 #[] w fun e w' => e = .returned (.bool true) ∧ Below w.heap.size w w' := by
  have HN : Hid (Calls Try.prog 8 #[.int .i64 1] w fun e w' => e = .returned (.tuple #[.pointer (some ⟨w.heap.size, 0, none⟩), .int .i64 0]) ∧ Hid (PU w' w.heap.size (1 : Nat) 0 []) ∧ Below w.heap.size w w') := Lib.hid (puNew 1 (by decide) w)
  go_enter Try.func10, Try.ntmps10
  go_wp2_with fail
  refine HN.out.mono ?_
  rintro e w1 ⟨rfl, HP1, hb⟩
  have HB1 := Lib.hid hb
  have HPut := Lib.hid (puPut ⟨0, 0, 0, 0, 0⟩ HP1.out (by simp) (by decide) (by decide))
  clear hb HN
  dsimp only at HPut
  go_wp2_with fail
  refine HPut.out.mono ?_
  rintro e w2 ⟨rfl, HP2, hk⟩
  have HB2 := Lib.hid (HB1.out.trans (hk.under (fun q hq => by simp at hq; rw [hq]; exact Nat.le_refl _) HB1.out.size))
  have HL : Hid (Calls Try.prog 22 #[.pointer (some ⟨w.heap.size, 0, none⟩)] w2 fun e w' => e = .returned (.int .i64 1) ∧ w2 = w') := Lib.hid (puLen 1 rfl HP2.out)
  clear hk HPut HP1
  go_wp2_with fail
  refine HL.out.mono ?_
  rintro e w3 ⟨rfl, rfl⟩
  go_wp2
  go_ret
  exact ⟨rfl, HB2.out⟩

theorem add_off (x : Addr) (k j : Nat) (hj : 0 < j) : x.add (k + j) = ⟨(x.add k).block, (x.add k).off + j, none⟩ := by
  rw [← add_of_add]
  generalize x.add k = y
  unfold Addr.add
  rw [if_neg (by omega)]
/-- a key that came in, at its place; an entry -/
theorem key_on {w : World} {a : Option Addr} {n : Nat} {Z : Nat → Int × Int} (h : KeyRow w w.heap.size a n Z) {k : Nat} (hk : k < n) :
    ∃ y, a = some y ∧ ∀ W, Below w.heap.size w W → y.block < W.heap.size ∧ (y.add (k * 2)).block < W.heap.size ∧ W.cell? (y.add (k * 2)) = some (.int .i64 (Z k).1) ∧ W.cell? ⟨(y.add (k * 2)).block, (y.add (k * 2)).off + 1, none⟩ = some (.int .i64 (Z k).2) := by
  obtain ⟨y, e, hy, c0, c1⟩ := h k hk
  rw [add_off y (k * 2) 1 (by decide)] at c1
  exact ⟨y, e, fun W hb => ⟨Nat.lt_of_lt_of_le hy hb.size, by rw [block_of_add]; exact Nat.lt_of_lt_of_le hy hb.size, (hb.cell (by rw [block_of_add]; exact hy)).trans c0, (hb.cell (by show (y.add (k * 2)).block < _; rw [block_of_add]; exact hy)).trans c1⟩⟩
theorem ent_on {w : World} {a : Option Addr} {n : Nat} {Z : Nat → Int × Int × Int} (h : EntRow w w.heap.size a n Z) {k : Nat} (hk : k < n) :
    ∃ y, a = some y ∧ ∀ W, Below w.heap.size w W → y.block < W.heap.size ∧ (y.add (k * 3)).block < W.heap.size ∧ W.cell? (y.add (k * 3)) = some (.int .i64 (Z k).1) ∧ W.cell? ⟨(y.add (k * 3)).block, (y.add (k * 3)).off + 1, none⟩ = some (.int .i64 (Z k).2.1) ∧ W.cell? ⟨(y.add (k * 3)).block, (y.add (k * 3)).off + 2, none⟩ = some (.int .i64 (Z k).2.2) := by
  obtain ⟨y, e, hy, c0, c1, c2, _⟩ := h k hk
  rw [add_off y (k * 3) 1 (by decide)] at c1
  rw [add_off y (k * 3) 2 (by decide)] at c2
  exact ⟨y, e, fun W hb => ⟨Nat.lt_of_lt_of_le hy hb.size, by rw [block_of_add]; exact Nat.lt_of_lt_of_le hy hb.size, (hb.cell (by rw [block_of_add]; exact hy)).trans c0, (hb.cell (by show (y.add (k * 3)).block < _; rw [block_of_add]; exact hy)).trans c1, (hb.cell (by show (y.add (k * 3)).block < _; rw [block_of_add]; exact hy)).trans c2⟩⟩
theorem ent_rg {w : World} {a : Option Addr} {n : Nat} {Z : Nat → Int × Int × Int} (h : EntRow w w.heap.size a n Z) {k : Nat} (hk : k < n) : -9223372036854775808 ≤ (Z k).2.2 ∧ (Z k).2.2 < 9223372036854775808 := by
  obtain ⟨_, _, _, _, _, _, h⟩ := h k hk
  exact h
/-- where a law stands that has one Tlb, made by it: the Tlb, nothing else turned -/
structure RS (w W : World) (g : Nat) (room : Int) (k : Nat) (l : List Rc) : Prop where
  p : PU W g room k l
  b : Below w.heap.size w W
theorem RS.kq {w W W' : World} {g k k' : Nat} {room : Int} {l l' : List Rc} (h : RS w W g room k l) (hg : w.heap.size ≤ g) (hp : PU W' g room k' l') (hk : Kq [g] W W') : RS w W' g room k' l' :=
  ⟨hp, h.b.trans (hk.under (fun q hq => by simp at hq; rw [hq]; exact hg) h.b.size)⟩
theorem RS.more {w W W' : World} {g k : Nat} {room : Int} {l : List Rc} (h : RS w W g room k l) (hb : Below W.heap.size W W') : RS w W' g room k l := ⟨h.p.more hb, h.b.trans (hb.mono h.b.size)⟩
theorem RS.le {w W : World} {g k m : Nat} {room : Int} {l : List Rc} (h : RS w W g room k l) (hm : k ≤ m) : RS w W g room m l := ⟨h.p.le hm, h.b⟩
end Go.Proofs.Ytgcpcffgpokbfaa.Sb
