/- The program's shadow by what its methods tell and leave (ProgC: what is to be shown of the program that lands); both sides in one world (JB); hermitagelaw19's does. -/
import Derived.Test.YtcdiigdbjncpeaaJg
import Derived.Test.YtcdiigdbjncpeaaBz
import Derived.Test.YtcdiigdbjncpeaaBx
namespace Go.Proofs.Ytcdiigdbjncpeaa.Sw
open Go.RowKit Ut
set_option maxRecDepth 100000
set_option linter.unusedVariables false
set_option maxHeartbeats 4000000

/-- an act left l', in blocks of S or new ones, and turned nothing but S -/
structure StepS (PS : World → Nat → List Nat → List Ln → Prop) (W W' : World) (g : Nat) (S : List Nat) (l' : List Ln) : Prop where
  ex : ∃ S', PS W' g S' l' ∧ ∀ s ∈ S', s ∈ S ∨ W.heap.size ≤ s
  kq : Kq S W W'
section
variable {PS : World → Nat → List Nat → List Ln → Prop} {W W' V : World} {g : Nat} {S : List Nat} {l l' : List Ln}
theorem StepS.from_ (h : StepS PS W W' g S l') (hb : Below V.heap.size V W) : StepS PS V W' g S l' := by
  obtain ⟨⟨S', h1, h2⟩, h3⟩ := h
  refine ⟨⟨S', h1, fun s hs => ?_⟩, (Kq.of_below hb).trans h3⟩
  rcases h2 s hs with h | h
  · exact .inl h
  · exact .inr (Nat.le_trans hb.size h)
end
/-- a slice of records of k integers that the call made -/
def Told (k : Nat) (W W' : World) (v : Value) (xs : List (List Int)) : Prop := ∃ a c, v = .slice a xs.length c ∧ IRow k W' a xs ∧ ∀ y, a = some y → W.heap.size ≤ y.block
theorem Told.from_ {k : Nat} {W W' V : World} {v : Value} {xs : List (List Int)} (h : Told k W W' v xs) (hb : V.heap.size ≤ W.heap.size) : Told k V W' v xs := by
  obtain ⟨a, c, h1, h2, h3⟩ := h
  exact ⟨a, c, h1, h2, fun y e => Nat.le_trans hb (h3 y e)⟩
def Ln.keyV (x : Ln) : Value := .agg #[.int .i64 x.kr, .int .i64 x.kp]
def Ln.entV (x : Ln) : Value := .agg #[.int .i64 x.ep, .int .i64 x.ef, .int .i64 x.er]
/-- what the program is to keep: its methods' answers, and that nothing else turns -/
structure ProgC (PS : World → Nat → List Nat → List Ln → Prop) : Prop where
  lt : ∀ {W g S l}, PS W g S l → ∀ s ∈ S, s < W.heap.size
  kq : ∀ {W W' g S l T}, PS W g S l → Kq T W W' → (∀ s ∈ S, s ∉ T) → PS W' g S l
  len : ∀ {W g S l}, PS W g S l → l.length ≤ 32
  new : ∀ w, Calls Try.prog 8 #[] w fun e w' => ∃ g S, e = .returned (.pointer (some ⟨g, 0, none⟩)) ∧ Hid (PS w' g S [] ∧ ∀ s ∈ S, w.heap.size ≤ s) ∧ Below w.heap.size w w'
  no : ∀ {W g S l} (p q ep ef er r f : Int), PS W g S l → (ownP r = false ∨ (ownP r = true ∧ ownP f = false)) →
    Calls Try.prog 25 #[.pointer (some ⟨g, 0, none⟩), .agg #[.int .i64 p, .int .i64 q], .agg #[.int .i64 ep, .int .i64 ef, .int .i64 er], .int .i64 r, .int .i64 f] W fun e w' => (∃ v, e = .returned (.tuple #[v, .int .i64 1]) ∧ Hid (Told 1 W w' v [])) ∧ Below W.heap.size W w'
  yes : ∀ {W g S l} (p q ep ef er r f : Int), PS W g S l → ownP r = true → ownP f = true → -9223372036854775808 ≤ er → er < 9223372036854775808 →
    Calls Try.prog 25 #[.pointer (some ⟨g, 0, none⟩), .agg #[.int .i64 p, .int .i64 q], .agg #[.int .i64 ep, .int .i64 ef, .int .i64 er], .int .i64 r, .int .i64 f] W fun e w' => (∃ v, e = .returned (.tuple #[v, .int .i64 0]) ∧ Hid (Told 1 W w' v (toldS l r f 8))) ∧ Hid (StepS PS W w' g S (fillS l ⟨p, q, ep, ef, er, r, f⟩))
  get : ∀ {W g S l} (p q : Int), PS W g S l → Calls Try.prog 14 #[.pointer (some ⟨g, 0, none⟩), .agg #[.int .i64 p, .int .i64 q]] W fun e w' => e = .returned (.tuple #[entW (entS (findS l p q)), .bool (findS l p q).isSome]) ∧ Below W.heap.size W w'
  table : ∀ {W g S l} (p : Int), PS W g S l → Calls Try.prog 20 #[.pointer (some ⟨g, 0, none⟩), .int .i64 p] W fun e w' => e = .returned (.bool (tabL l p)) ∧ Below W.heap.size W w'
  wrote : ∀ {W g S l} (p : Int), PS W g S l → Calls Try.prog 23 #[.pointer (some ⟨g, 0, none⟩), .int .i64 p] W fun e w' => (∃ v, e = .returned v ∧ Hid (Told 2 W w' v ((goneS l p false).map Ln.key))) ∧ Hid (StepS PS W w' g S (leftS l p false))
  gone : ∀ {W g S l} (p : Int), PS W g S l → Calls Try.prog 24 #[.pointer (some ⟨g, 0, none⟩), .int .i64 p] W fun e w' => (∃ v, e = .returned v ∧ Hid (Told 2 W w' v ((goneS l p true).map Ln.key))) ∧ Hid (StepS PS W w' g S (leftS l p true))
  flush : ∀ {W g S l}, PS W g S l → Calls Try.prog 26 #[.pointer (some ⟨g, 0, none⟩)] W fun e w' => e = .returned (.int .i64 l.length) ∧ Hid (StepS PS W w' g S [])
  size : ∀ {W g S l}, PS W g S l → Calls Try.prog 16 #[.pointer (some ⟨g, 0, none⟩)] W fun e w' => e = .returned (.int .i64 l.length) ∧ Below W.heap.size W w'
  list : ∀ {W g S l}, PS W g S l → Calls Try.prog 18 #[.pointer (some ⟨g, 0, none⟩)] W fun e w' => (∃ v, e = .returned v ∧ Hid (Told 5 W w' v (l.map Ln.kept))) ∧ Below W.heap.size W w'
/-- what an act leaves -/
def actS (l : List Ln) (x : Ak) : List Ln := if x.kd = 0 then leftS l x.rt false else if x.kd = 1 then leftS l x.rt true else if x.kd = 2 then [] else if ownP x.rt = true ∧ ownP x.lf = true then fillS l ⟨x.kr, x.kp, x.ep, x.ef, x.er, x.rt, x.lf⟩ else l
section
variable {PS : World → Nat → List Nat → List Ln → Prop} (C : ProgC PS) {g : Nat} {S : List Nat} {l : List Ln}
include C
theorem ProgC.more {W W' : World} (h : PS W g S l) (hb : Below W.heap.size W W') : PS W' g S l := C.kq h (T := []) (Kq.of_below hb) (fun _ _ => by simp)
theorem does_wrote (kr kp ep ef er rt lf : Int) (w : World) (h : PS w g S l) :
    Calls Try.prog 9 #[.pointer (some ⟨g, 0, none⟩), .agg #[.int .i64 0, .int .i64 kr, .int .i64 kp, .int .i64 ep, .int .i64 ef, .int .i64 er, .int .i64 rt, .int .i64 lf]] w fun e w' => (∃ v, e = .returned (.tuple #[.slice none 0 0, v, .int .i64 0]) ∧ Hid (Told 2 w w' v ((goneS l rt false).map Ln.key))) ∧ Hid (StepS PS w w' g S (leftS l rt false)) := by
  have HBB : Hid (∀ o : Obj, Below w.heap.size w (w.alloc o)) := Lib.hid fun o => (Below.refl _ _).alloc (Nat.le_refl _) _
  have H : Hid (∀ W, Below w.heap.size w W → Calls Try.prog 23 #[.pointer (some ⟨g, 0, none⟩), .int .i64 rt] W fun e w' => (∃ v, e = .returned v ∧ Hid (Told 2 w w' v ((goneS l rt false).map Ln.key))) ∧ Hid (StepS PS w w' g S (leftS l rt false))) := Lib.hid fun W hb =>
    (C.wrote rt (C.more h hb)).mono fun e w' ⟨⟨v, h1, h2⟩, h3⟩ => ⟨⟨v, h1, Lib.hid (h2.out.from_ hb.size)⟩, Lib.hid (h3.out.from_ hb)⟩
  clear h C
  go_enter Try.func9, Try.ntmps9
  go_wp2_with fail
  refine (H.out _ (HBB.out _)).mono ?_
  rintro e w1 ⟨⟨v, rfl, HT⟩, HS⟩
  go_wp2
  go_ret3
  exact ⟨⟨v, rfl, HT⟩, HS⟩
theorem does_gone (kr kp ep ef er rt lf : Int) (w : World) (h : PS w g S l) :
    Calls Try.prog 9 #[.pointer (some ⟨g, 0, none⟩), .agg #[.int .i64 1, .int .i64 kr, .int .i64 kp, .int .i64 ep, .int .i64 ef, .int .i64 er, .int .i64 rt, .int .i64 lf]] w fun e w' => (∃ v, e = .returned (.tuple #[.slice none 0 0, v, .int .i64 0]) ∧ Hid (Told 2 w w' v ((goneS l rt true).map Ln.key))) ∧ Hid (StepS PS w w' g S (leftS l rt true)) := by
  have HBB : Hid (∀ o : Obj, Below w.heap.size w (w.alloc o)) := Lib.hid fun o => (Below.refl _ _).alloc (Nat.le_refl _) _
  have H : Hid (∀ W, Below w.heap.size w W → Calls Try.prog 24 #[.pointer (some ⟨g, 0, none⟩), .int .i64 rt] W fun e w' => (∃ v, e = .returned v ∧ Hid (Told 2 w w' v ((goneS l rt true).map Ln.key))) ∧ Hid (StepS PS w w' g S (leftS l rt true))) := Lib.hid fun W hb =>
    (C.gone rt (C.more h hb)).mono fun e w' ⟨⟨v, h1, h2⟩, h3⟩ => ⟨⟨v, h1, Lib.hid (h2.out.from_ hb.size)⟩, Lib.hid (h3.out.from_ hb)⟩
  clear h C
  go_enter Try.func9, Try.ntmps9
  go_wp2_with fail
  refine (H.out _ (HBB.out _)).mono ?_
  rintro e w1 ⟨⟨v, rfl, HT⟩, HS⟩
  go_wp2
  go_ret3
  exact ⟨⟨v, rfl, HT⟩, HS⟩
theorem does_flush (kr kp ep ef er rt lf : Int) (w : World) (h : PS w g S l) :
    Calls Try.prog 9 #[.pointer (some ⟨g, 0, none⟩), .agg #[.int .i64 2, .int .i64 kr, .int .i64 kp, .int .i64 ep, .int .i64 ef, .int .i64 er, .int .i64 rt, .int .i64 lf]] w fun e w' => e = .returned (.tuple #[.slice none 0 0, .slice none 0 0, .int .i64 l.length]) ∧ Hid (StepS PS w w' g S []) := by
  have HBB : Hid (∀ o : Obj, Below w.heap.size w (w.alloc o)) := Lib.hid fun o => (Below.refl _ _).alloc (Nat.le_refl _) _
  have H : Hid (∀ W, Below w.heap.size w W → Calls Try.prog 26 #[.pointer (some ⟨g, 0, none⟩)] W fun e w' => e = .returned (.int .i64 l.length) ∧ Hid (StepS PS w w' g S [])) := Lib.hid fun W hb =>
    (C.flush (C.more h hb)).mono fun e w' ⟨h1, h3⟩ => ⟨h1, Lib.hid (h3.out.from_ hb)⟩
  clear h C
  go_enter Try.func9, Try.ntmps9
  go_wp2_with fail
  refine (H.out _ (HBB.out _)).mono ?_
  rintro e w1 ⟨rfl, HS⟩
  go_wp2
  go_ret3
  exact ⟨rfl, HS⟩
theorem does_yes (kd kr kp ep ef er rt lf : Int) (hk : kd ≠ 0 ∧ kd ≠ 1 ∧ kd ≠ 2) (hr : ownP rt = true) (hf : ownP lf = true) (he : -9223372036854775808 ≤ er) (he2 : er < 9223372036854775808) (w : World) (h : PS w g S l) :
    Calls Try.prog 9 #[.pointer (some ⟨g, 0, none⟩), .agg #[.int .i64 kd, .int .i64 kr, .int .i64 kp, .int .i64 ep, .int .i64 ef, .int .i64 er, .int .i64 rt, .int .i64 lf]] w fun e w' => (∃ v, e = .returned (.tuple #[v, .slice none 0 0, .int .i64 0]) ∧ Hid (Told 1 w w' v (toldS l rt lf 8))) ∧ Hid (StepS PS w w' g S (fillS l ⟨kr, kp, ep, ef, er, rt, lf⟩)) := by
  have HBB : Hid (∀ o : Obj, Below w.heap.size w (w.alloc o)) := Lib.hid fun o => (Below.refl _ _).alloc (Nat.le_refl _) _
  have H : Hid (∀ W, Below w.heap.size w W → Calls Try.prog 25 #[.pointer (some ⟨g, 0, none⟩), .agg #[.int .i64 kr, .int .i64 kp], .agg #[.int .i64 ep, .int .i64 ef, .int .i64 er], .int .i64 rt, .int .i64 lf] W fun e w' => (∃ v, e = .returned (.tuple #[v, .int .i64 0]) ∧ Hid (Told 1 w w' v (toldS l rt lf 8))) ∧ Hid (StepS PS w w' g S (fillS l ⟨kr, kp, ep, ef, er, rt, lf⟩))) := Lib.hid fun W hb =>
    (C.yes kr kp ep ef er rt lf (C.more h hb) hr hf he he2).mono fun e w' ⟨⟨v, h1, h2⟩, h3⟩ => ⟨⟨v, h1, Lib.hid (h2.out.from_ hb.size)⟩, Lib.hid (h3.out.from_ hb)⟩
  clear h C
  have k0 : (kd == 0) = false := by simpa using hk.1
  have k1 : (kd == 1) = false := by simpa using hk.2.1
  have k2 : (kd == 2) = false := by simpa using hk.2.2
  clear hk
  go_enter Try.func9, Try.ntmps9
  go_wp2_with fail
  refine (H.out _ (HBB.out _)).mono ?_
  rintro e w1 ⟨⟨v, rfl, HT⟩, HS⟩
  go_wp2
  go_ret3
  exact ⟨⟨v, rfl, HT⟩, HS⟩
theorem does_no (kd kr kp ep ef er rt lf : Int) (hk : kd ≠ 0 ∧ kd ≠ 1 ∧ kd ≠ 2) (ho : ownP rt = false ∨ (ownP rt = true ∧ ownP lf = false)) (w : World) (h : PS w g S l) :
    Calls Try.prog 9 #[.pointer (some ⟨g, 0, none⟩), .agg #[.int .i64 kd, .int .i64 kr, .int .i64 kp, .int .i64 ep, .int .i64 ef, .int .i64 er, .int .i64 rt, .int .i64 lf]] w fun e w' => (∃ v, e = .returned (.tuple #[v, .slice none 0 0, .int .i64 1]) ∧ Hid (Told 1 w w' v [])) ∧ Hid (StepS PS w w' g S l) := by
  have HBB : Hid (∀ o : Obj, Below w.heap.size w (w.alloc o)) := Lib.hid fun o => (Below.refl _ _).alloc (Nat.le_refl _) _
  have H : Hid (∀ W, Below w.heap.size w W → Calls Try.prog 25 #[.pointer (some ⟨g, 0, none⟩), .agg #[.int .i64 kr, .int .i64 kp], .agg #[.int .i64 ep, .int .i64 ef, .int .i64 er], .int .i64 rt, .int .i64 lf] W fun e w' => (∃ v, e = .returned (.tuple #[v, .int .i64 1]) ∧ Hid (Told 1 w w' v [])) ∧ Hid (StepS PS w w' g S l)) := Lib.hid fun W hb =>
    (C.no kr kp ep ef er rt lf (C.more h hb) ho).mono fun e w' ⟨⟨v, h1, h2⟩, h3⟩ => ⟨⟨v, h1, Lib.hid (h2.out.from_ hb.size)⟩, Lib.hid ⟨⟨S, C.more (C.more h hb) h3, fun s hs => .inl hs⟩, (Kq.of_below hb).trans (Kq.of_below h3)⟩⟩
  clear ho
  clear h C
  have k0 : (kd == 0) = false := by simpa using hk.1
  have k1 : (kd == 1) = false := by simpa using hk.2.1
  have k2 : (kd == 2) = false := by simpa using hk.2.2
  clear hk
  go_enter Try.func9, Try.ntmps9
  go_wp2_with fail
  refine (H.out _ (HBB.out _)).mono ?_
  rintro e w1 ⟨⟨v, rfl, HT⟩, HS⟩
  go_wp2
  go_ret3
  exact ⟨⟨v, rfl, HT⟩, HS⟩
/-- an act, whatever it is -/
theorem does_any (x : Ak) (hx : AkW x) (w : World) (h : PS w g S l) : Calls Try.prog 9 #[.pointer (some ⟨g, 0, none⟩), x.v] w fun e w' => (∃ a b c, e = .returned (.tuple #[a, b, c])) ∧ Hid (StepS PS w w' g S (actS l x)) := by
  obtain ⟨kd, kr, kp, ep, ef, er, rt, lf⟩ := x
  have hx4 : -9223372036854775808 ≤ er := hx.l5
  have hx5 : er < 9223372036854775808 := hx.u5
  clear hx
  unfold actS
  dsimp only
  by_cases h0 : kd = 0
  · subst h0
    rw [if_pos rfl]
    exact (does_wrote C kr kp ep ef er rt lf w h).mono fun e w' ⟨⟨v, h1, _⟩, h2⟩ => ⟨⟨_, _, _, h1⟩, h2⟩
  by_cases h1 : kd = 1
  · subst h1
    rw [if_neg h0, if_pos rfl]
    exact (does_gone C kr kp ep ef er rt lf w h).mono fun e w' ⟨⟨v, h1, _⟩, h2⟩ => ⟨⟨_, _, _, h1⟩, h2⟩
  by_cases h2 : kd = 2
  · subst h2
    rw [if_neg h0, if_neg h1, if_pos rfl]
    exact (does_flush C kr kp ep ef er rt lf w h).mono fun e w' ⟨h1, h2⟩ => ⟨⟨_, _, _, h1⟩, h2⟩
  rw [if_neg h0, if_neg h1, if_neg h2]
  by_cases h3 : ownP rt = true ∧ ownP lf = true
  · rw [if_pos h3]
    exact (does_yes C kd kr kp ep ef er rt lf ⟨h0, h1, h2⟩ h3.1 h3.2 hx4 hx5 w h).mono fun e w' ⟨⟨v, h1, _⟩, h2⟩ => ⟨⟨_, _, _, h1⟩, h2⟩
  · rw [if_neg h3]
    have ho : ownP rt = false ∨ (ownP rt = true ∧ ownP lf = false) := by
      cases hh : ownP rt <;> cases hg : ownP lf <;> simp_all
    exact (does_no C kd kr kp ep ef er rt lf ⟨h0, h1, h2⟩ ho w h).mono fun e w' ⟨⟨v, h1, _⟩, h2⟩ => ⟨⟨_, _, _, h1⟩, h2⟩
end
end Go.Proofs.Ytcdiigdbjncpeaa.Sw
