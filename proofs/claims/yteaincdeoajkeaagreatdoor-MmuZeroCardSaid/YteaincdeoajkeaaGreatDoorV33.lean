/- Several texts in one: Jf Jg Bz Jh -/
import Derived.Test.YteaincdeoajkeaaGreatDoorV18
import Derived.Test.YteaincdeoajkeaaGreatDoorV26
import Derived.Test.YteaincdeoajkeaaGreatDoorV32
import Derived.Deep.QuietTactic
import Derived.BigQuiet
import Derived.OpenShut
section
/- A struct, or a slice of structs, whose fields are structs again, that came in as an argument: what each of its cells reads as. Serves all packages. -/
namespace Go.Proofs.YteaincdeoajkeaaGreatDoor.Ut
open Go.ChangeShapes Go.WideShapes Go.Deep Go.RowKit
set_option linter.unusedVariables false
/-- the type of cell j of a value of type t: structs are opened, whatever lies in them; what is no struct has one cell -/
def leafAt (P : Program) : Nat → TypeId → Nat → Option TypeId
 | 0, _, _ => none
 | n + 1, t, j => match P.underlying t with
  | some (.struct fs) => match fs.toList.find? fun f => decide (f.offset ≤ j) && decide (j < f.offset + P.cellsOf f.type) && decide (f.offset + P.cellsOf f.type ≤ P.cellsOf t) with
   | some f => leafAt P n f.type (j - f.offset)
   | none => none
  | _ => if j = 0 ∧ P.cellsOf t = 1 then some t else none
section
variable {H : Type} {enc : TypeId × Value → H} {P : Program} {w : World} {base : Nat} {held : Bool} {spare : Nat → Bool}
end
end Go.Proofs.YteaincdeoajkeaaGreatDoor.Ut
end
section
/- hermitagelaw19: ints, keys, same: two rows that read alike; an act, a slice of acts as arguments. -/
namespace Go.Proofs.YteaincdeoajkeaaGreatDoor.Sw
open Go.ChangeShapes Go.WideShapes Go.Deep Go.RowKit Ut
set_option maxRecDepth 100000
set_option linter.unusedVariables false
set_option maxHeartbeats 4000000

/-- an act: its kind, a key's root and page, an entry's page, frame, rights, the root's page, the leaf's -/
structure Ak where
 kd : Int
 kr : Int
 kp : Int
 ep : Int
 ef : Int
 er : Int
 rt : Int
 lf : Int
instance : Inhabited Ak := ⟨⟨0, 0, 0, 0, 0, 0, 0, 0⟩⟩
abbrev Ak.v (x : Ak) : Value := .agg #[.int .i64 x.kd, .int .i64 x.kr, .int .i64 x.kp, .int .i64 x.ep, .int .i64 x.ef, .int .i64 x.er, .int .i64 x.rt, .int .i64 x.lf]
structure AkW (x : Ak) : Prop where
 l0 : -9223372036854775808 ≤ x.kd
 u0 : x.kd < 9223372036854775808
 l1 : -9223372036854775808 ≤ x.kr
 u1 : x.kr < 9223372036854775808
 l2 : -9223372036854775808 ≤ x.kp
 u2 : x.kp < 9223372036854775808
 l3 : -9223372036854775808 ≤ x.ep
 u3 : x.ep < 9223372036854775808
 l4 : -9223372036854775808 ≤ x.ef
 u4 : x.ef < 9223372036854775808
 l5 : -9223372036854775808 ≤ x.er
 u5 : x.er < 9223372036854775808
 l6 : -9223372036854775808 ≤ x.rt
 u6 : x.rt < 9223372036854775808
 l7 : -9223372036854775808 ≤ x.lf
 u7 : x.lf < 9223372036854775808
def AkRow (w : World) (a : Option Addr) (n : Nat) (Z : Nat → Ak) : Prop := ∀ i, i < n → ∃ y, a = some y ∧ y.block < w.heap.size ∧ AkW (Z i) ∧ w.cell? (y.add (i * 8)) = some (.int .i64 (Z i).kd) ∧ w.cell? (y.add (i * 8 + 1)) = some (.int .i64 (Z i).kr) ∧ w.cell? (y.add (i * 8 + 2)) = some (.int .i64 (Z i).kp) ∧ w.cell? (y.add (i * 8 + 3)) = some (.int .i64 (Z i).ep) ∧ w.cell? (y.add (i * 8 + 4)) = some (.int .i64 (Z i).ef) ∧ w.cell? (y.add (i * 8 + 5)) = some (.int .i64 (Z i).er) ∧ w.cell? (y.add (i * 8 + 6)) = some (.int .i64 (Z i).rt) ∧ w.cell? (y.add (i * 8 + 7)) = some (.int .i64 (Z i).lf)
section
variable {H : Type} {enc : TypeId × Value → H} {W : World}
end
end Go.Proofs.YteaincdeoajkeaaGreatDoor.Sw
end
section
/- The document's tables in the shadow: Fill. -/
namespace Go.Proofs.YteaincdeoajkeaaGreatDoor.Sw
open Go.RowKit Ut
set_option maxRecDepth 100000
set_option linter.unusedVariables false
set_option maxHeartbeats 8000000

/-- which pages are told; those that are there then; which lose the right to write; what is left -/
def tellB (l : List Ln) (r f : Int) (p : Nat) : Bool := ((p : Int) == r || (p : Int) == f) && !tabL l p
def toldS (l : List Ln) (r f : Int) (i : Nat) : List (List Int) := ((List.range i).filter fun p => tellB l r f p).map fun p : Nat => [(p : Int)]
def withS (l : List Ln) (p q : Int) : List Ln := l.filter fun x => !x.is p q
def addS (l : List Ln) (x : Ln) : List Ln := if 32 < (withS l x.kr x.kp).length + 1 then (withS l x.kr x.kp ++ [x]).drop 1 else withS l x.kr x.kp ++ [x]
def loseB (m : List Ln) (r f : Int) (i : Nat) (z : Ln) : Bool := z.ep == r || (z.ep == f || (decide (i + 1 = m.length) && tabL m z.ep))
def clrS (z : Ln) : Ln := { z with er := bits .andNot .i64 z.er 2 }
def outS (m : List Ln) (r f : Int) (i : Nat) : List Ln := (m.take i).mapIdx fun j z => if loseB m r f j z = true then clrS z else z
def fillS (l : List Ln) (x : Ln) : List Ln := outS (addS l x) x.rt x.lf (addS l x).length
theorem withS_len (l : List Ln) (p q : Int) : (withS l p q).length ≤ l.length := List.length_filter_le _ _
theorem outS_len (m : List Ln) (r f : Int) (i : Nat) : (outS m r f i).length = min i m.length := by unfold outS; rw [List.length_mapIdx, List.length_take]
theorem lose_cases (m : List Ln) (r f : Int) (i : Nat) (z : Ln) : ((z.ep == r) = true ∧ loseB m r f i z = true) ∨ ((z.ep == r) = false ∧ (z.ep == f) = true ∧ loseB m r f i z = true) ∨ ((z.ep == r) = false ∧ (z.ep == f) = false ∧ i + 1 = m.length ∧ loseB m r f i z = tabL m z.ep) ∨ ((z.ep == r) = false ∧ (z.ep == f) = false ∧ ¬ i + 1 = m.length ∧ loseB m r f i z = false) := by
 unfold loseB
 by_cases h : i + 1 = m.length
 ·cases z.ep == r <;> cases z.ep == f <;> simp [h]
 ·cases z.ep == r <;> cases z.ep == f <;> simp [h]
section
variable {w W W' : World} {B : Nat} {u v u' v' : Value} {ts ts' : List (List Int)} {s s' : List Ln}
end
section
variable {d n cap : Nat} {a : Option Addr} {l : List Ln}
end
end Go.Proofs.YteaincdeoajkeaaGreatDoor.Sw
end
section
/- The program's shadow by what its methods tell and leave (ProgC: what is to be shown of the program that lands); both sides in one world (JB); hermitagelaw19's does. -/
namespace Go.Proofs.YteaincdeoajkeaaGreatDoor.Sw
open Go.RowKit Ut
set_option maxRecDepth 100000
set_option linter.unusedVariables false
set_option maxHeartbeats 4000000

/-- an act left l', in blocks of S or new ones, and turned nothing but S -/
structure StepS (PS : World → Nat → List Nat → List Ln → Prop) (W W' : World) (g : Nat) (S : List Nat) (l' : List Ln) : Prop where
 ex : ∃ S', PS W' g S' l' ∧ ∀ s ∈ S', s ∈ S ∨ W.heap.size ≤ s
 kq : Kq S W W'
section
variable {PS : World → Nat → List Nat → List Ln → Prop} {W W' V : World} {g : Nat} {S : List Nat} {l l' : List Ln}
theorem StepS.from_ (h : StepS PS W W' g S l') (hb : Below V.heap.size V W) : StepS PS V W' g S l' := by
 obtain ⟨⟨S', h1, h2⟩, h3⟩ := h
 refine ⟨⟨S', h1, fun s hs => ?_⟩, (Kq.of_below hb).trans h3⟩
 rcases h2 s hs with h | h
 ·exact .inl h
 ·exact .inr (Nat.le_trans hb.size h)
end
/-- a slice of records of k integers that the call made -/
def Told (k : Nat) (W W' : World) (v : Value) (xs : List (List Int)) : Prop := ∃ a c, v = .slice a xs.length c ∧ IRow k W' a xs ∧ ∀ y, a = some y → W.heap.size ≤ y.block
theorem Told.from_ {k : Nat} {W W' V : World} {v : Value} {xs : List (List Int)} (h : Told k W W' v xs) (hb : V.heap.size ≤ W.heap.size) : Told k V W' v xs := by
 obtain ⟨a, c, h1, h2, h3⟩ := h
 exact ⟨a, c, h1, h2, fun y e => Nat.le_trans hb (h3 y e)⟩
def Ln.keyV (x : Ln) : Value := .agg #[.int .i64 x.kr, .int .i64 x.kp]
def Ln.entV (x : Ln) : Value := .agg #[.int .i64 x.ep, .int .i64 x.ef, .int .i64 x.er]
/-- what the program is to keep: its methods' answers, and that nothing else turns -/
structure ProgC (PS : World → Nat → List Nat → List Ln → Prop) : Prop where
 lt : ∀ {W g S l}, PS W g S l → ∀ s ∈ S, s < W.heap.size
 kq : ∀ {W W' g S l T}, PS W g S l → Kq T W W' → (∀ s ∈ S, s ∉ T) → PS W' g S l
 len : ∀ {W g S l}, PS W g S l → l.length ≤ 32
 new : ∀ w, Calls Tryz.prog 57 #[] w fun e w' => ∃ g S, e = .returned (.pointer (some ⟨g, 0, none⟩)) ∧ Hid (PS w' g S [] ∧ ∀ s ∈ S, w.heap.size ≤ s) ∧ Below w.heap.size w w'
 no : ∀ {W g S l} (p q ep ef er r f : Int), PS W g S l → (ownP r = false ∨ (ownP r = true ∧ ownP f = false)) →
  Calls Tryz.prog 119 #[.pointer (some ⟨g, 0, none⟩), .agg #[.int .i64 p, .int .i64 q], .agg #[.int .i64 ep, .int .i64 ef, .int .i64 er], .int .i64 r, .int .i64 f] W fun e w' => (∃ v, e = .returned (.tuple #[v, .int .i64 1]) ∧ Hid (Told 1 W w' v [])) ∧ Below W.heap.size W w'
 yes : ∀ {W g S l} (p q ep ef er r f : Int), PS W g S l → ownP r = true → ownP f = true → -9223372036854775808 ≤ er → er < 9223372036854775808 →
  Calls Tryz.prog 119 #[.pointer (some ⟨g, 0, none⟩), .agg #[.int .i64 p, .int .i64 q], .agg #[.int .i64 ep, .int .i64 ef, .int .i64 er], .int .i64 r, .int .i64 f] W fun e w' => (∃ v, e = .returned (.tuple #[v, .int .i64 0]) ∧ Hid (Told 1 W w' v (toldS l r f 8))) ∧ Hid (StepS PS W w' g S (fillS l ⟨p, q, ep, ef, er, r, f⟩))
 get : ∀ {W g S l} (p q : Int), PS W g S l → Calls Tryz.prog 74 #[.pointer (some ⟨g, 0, none⟩), .agg #[.int .i64 p, .int .i64 q]] W fun e w' => e = .returned (.tuple #[entW (entS (findS l p q)), .bool (findS l p q).isSome]) ∧ Below W.heap.size W w'
 table : ∀ {W g S l} (p : Int), PS W g S l → Calls Tryz.prog 52 #[.pointer (some ⟨g, 0, none⟩), .int .i64 p] W fun e w' => e = .returned (.bool (tabL l p)) ∧ Below W.heap.size W w'
 wrote : ∀ {W g S l} (p : Int), PS W g S l → Calls Tryz.prog 92 #[.pointer (some ⟨g, 0, none⟩), .int .i64 p] W fun e w' => (∃ v, e = .returned v ∧ Hid (Told 2 W w' v ((goneS l p false).map Ln.key))) ∧ Hid (StepS PS W w' g S (leftS l p false))
 gone : ∀ {W g S l} (p : Int), PS W g S l → Calls Tryz.prog 59 #[.pointer (some ⟨g, 0, none⟩), .int .i64 p] W fun e w' => (∃ v, e = .returned v ∧ Hid (Told 2 W w' v ((goneS l p true).map Ln.key))) ∧ Hid (StepS PS W w' g S (leftS l p true))
 flush : ∀ {W g S l}, PS W g S l → Calls Tryz.prog 61 #[.pointer (some ⟨g, 0, none⟩)] W fun e w' => e = .returned (.int .i64 l.length) ∧ Hid (StepS PS W w' g S [])
 size : ∀ {W g S l}, PS W g S l → Calls Tryz.prog 174 #[.pointer (some ⟨g, 0, none⟩)] W fun e w' => e = .returned (.int .i64 l.length) ∧ Below W.heap.size W w'
 list : ∀ {W g S l}, PS W g S l → Calls Tryz.prog 48 #[.pointer (some ⟨g, 0, none⟩)] W fun e w' => (∃ v, e = .returned v ∧ Hid (Told 5 W w' v (l.map Ln.kept))) ∧ Below W.heap.size W w'
/-- what an act leaves -/
def actS (l : List Ln) (x : Ak) : List Ln := if x.kd = 0 then leftS l x.rt false else if x.kd = 1 then leftS l x.rt true else if x.kd = 2 then [] else if ownP x.rt = true ∧ ownP x.lf = true then fillS l ⟨x.kr, x.kp, x.ep, x.ef, x.er, x.rt, x.lf⟩ else l
section
variable {PS : World → Nat → List Nat → List Ln → Prop} (C : ProgC PS) {g : Nat} {S : List Nat} {l : List Ln}
include C
theorem ProgC.more {W W' : World} (h : PS W g S l) (hb : Below W.heap.size W W') : PS W' g S l := C.kq h (T := []) (Kq.of_below hb) (fun _ _ => by simp)
end
end Go.Proofs.YteaincdeoajkeaaGreatDoor.Sw
end
