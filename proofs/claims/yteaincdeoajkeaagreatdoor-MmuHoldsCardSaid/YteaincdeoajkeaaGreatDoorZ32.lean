/- Several texts in one: Jg Jh Ss Jj -/
import Derived.Test.YteaincdeoajkeaaGreatDoorZ23
import Derived.Test.YteaincdeoajkeaaGreatDoorZ26
import Derived.Test.YteaincdeoajkeaaGreatDoorZ31
import Derived.Deep.QuietTactic
import Derived.BigQuiet
import Derived.OpenShut
import Derived.Test.YteaincdeoajkeaaGreatDoorZ02
section
/- hermitagelaw19: ints, keys, same: two rows that read alike; an act, a slice of acts as arguments. -/
namespace Go.Proofs.YteaincdeoajkeaaGreatDoor.Sw
open Go.ChangeShapes Go.WideShapes Go.Deep Go.RowKit Ut
set_option maxRecDepth 100000
set_option linter.unusedVariables false
set_option maxHeartbeats 4000000

/-- an act: its kind, a key's root and page, an entry's page, frame, rights, the root's page, the leaf's -/
structure Ak where
 kd : Int
 kr : Int
 kp : Int
 ep : Int
 ef : Int
 er : Int
 rt : Int
 lf : Int
instance : Inhabited Ak := ⟨⟨0, 0, 0, 0, 0, 0, 0, 0⟩⟩
abbrev Ak.v (x : Ak) : Value := .agg #[.int .i64 x.kd, .int .i64 x.kr, .int .i64 x.kp, .int .i64 x.ep, .int .i64 x.ef, .int .i64 x.er, .int .i64 x.rt, .int .i64 x.lf]
structure AkW (x : Ak) : Prop where
 l0 : -9223372036854775808 ≤ x.kd
 u0 : x.kd < 9223372036854775808
 l1 : -9223372036854775808 ≤ x.kr
 u1 : x.kr < 9223372036854775808
 l2 : -9223372036854775808 ≤ x.kp
 u2 : x.kp < 9223372036854775808
 l3 : -9223372036854775808 ≤ x.ep
 u3 : x.ep < 9223372036854775808
 l4 : -9223372036854775808 ≤ x.ef
 u4 : x.ef < 9223372036854775808
 l5 : -9223372036854775808 ≤ x.er
 u5 : x.er < 9223372036854775808
 l6 : -9223372036854775808 ≤ x.rt
 u6 : x.rt < 9223372036854775808
 l7 : -9223372036854775808 ≤ x.lf
 u7 : x.lf < 9223372036854775808
def AkRow (w : World) (a : Option Addr) (n : Nat) (Z : Nat → Ak) : Prop := ∀ i, i < n → ∃ y, a = some y ∧ y.block < w.heap.size ∧ AkW (Z i) ∧ w.cell? (y.add (i * 8)) = some (.int .i64 (Z i).kd) ∧ w.cell? (y.add (i * 8 + 1)) = some (.int .i64 (Z i).kr) ∧ w.cell? (y.add (i * 8 + 2)) = some (.int .i64 (Z i).kp) ∧ w.cell? (y.add (i * 8 + 3)) = some (.int .i64 (Z i).ep) ∧ w.cell? (y.add (i * 8 + 4)) = some (.int .i64 (Z i).ef) ∧ w.cell? (y.add (i * 8 + 5)) = some (.int .i64 (Z i).er) ∧ w.cell? (y.add (i * 8 + 6)) = some (.int .i64 (Z i).rt) ∧ w.cell? (y.add (i * 8 + 7)) = some (.int .i64 (Z i).lf)
section
variable {H : Type} {enc : TypeId × Value → H} {W : World}
end
end Go.Proofs.YteaincdeoajkeaaGreatDoor.Sw
end
section
/- The program's shadow by what its methods tell and leave (ProgC: what is to be shown of the program that lands); both sides in one world (JB); hermitagelaw19's does. -/
namespace Go.Proofs.YteaincdeoajkeaaGreatDoor.Sw
open Go.RowKit Ut
set_option maxRecDepth 100000
set_option linter.unusedVariables false
set_option maxHeartbeats 4000000

/-- an act left l', in blocks of S or new ones, and turned nothing but S -/
structure StepS (PS : World → Nat → List Nat → List Ln → Prop) (W W' : World) (g : Nat) (S : List Nat) (l' : List Ln) : Prop where
 ex : ∃ S', PS W' g S' l' ∧ ∀ s ∈ S', s ∈ S ∨ W.heap.size ≤ s
 kq : Kq S W W'
section
variable {PS : World → Nat → List Nat → List Ln → Prop} {W W' V : World} {g : Nat} {S : List Nat} {l l' : List Ln}
theorem StepS.from_ (h : StepS PS W W' g S l') (hb : Below V.heap.size V W) : StepS PS V W' g S l' := by
 obtain ⟨⟨S', h1, h2⟩, h3⟩ := h
 refine ⟨⟨S', h1, fun s hs => ?_⟩, (Kq.of_below hb).trans h3⟩
 rcases h2 s hs with h | h
 ·exact .inl h
 ·exact .inr (Nat.le_trans hb.size h)
end
/-- a slice of records of k integers that the call made -/
def Told (k : Nat) (W W' : World) (v : Value) (xs : List (List Int)) : Prop := ∃ a c, v = .slice a xs.length c ∧ IRow k W' a xs ∧ ∀ y, a = some y → W.heap.size ≤ y.block
theorem Told.from_ {k : Nat} {W W' V : World} {v : Value} {xs : List (List Int)} (h : Told k W W' v xs) (hb : V.heap.size ≤ W.heap.size) : Told k V W' v xs := by
 obtain ⟨a, c, h1, h2, h3⟩ := h
 exact ⟨a, c, h1, h2, fun y e => Nat.le_trans hb (h3 y e)⟩
def Ln.keyV (x : Ln) : Value := .agg #[.int .i64 x.kr, .int .i64 x.kp]
def Ln.entV (x : Ln) : Value := .agg #[.int .i64 x.ep, .int .i64 x.ef, .int .i64 x.er]
/-- what the program is to keep: its methods' answers, and that nothing else turns -/
structure ProgC (PS : World → Nat → List Nat → List Ln → Prop) : Prop where
 lt : ∀ {W g S l}, PS W g S l → ∀ s ∈ S, s < W.heap.size
 kq : ∀ {W W' g S l T}, PS W g S l → Kq T W W' → (∀ s ∈ S, s ∉ T) → PS W' g S l
 len : ∀ {W g S l}, PS W g S l → l.length ≤ 32
 new : ∀ w, Calls Tryz.prog 57 #[] w fun e w' => ∃ g S, e = .returned (.pointer (some ⟨g, 0, none⟩)) ∧ Hid (PS w' g S [] ∧ ∀ s ∈ S, w.heap.size ≤ s) ∧ Below w.heap.size w w'
 no : ∀ {W g S l} (p q ep ef er r f : Int), PS W g S l → (ownP r = false ∨ (ownP r = true ∧ ownP f = false)) →
  Calls Tryz.prog 119 #[.pointer (some ⟨g, 0, none⟩), .agg #[.int .i64 p, .int .i64 q], .agg #[.int .i64 ep, .int .i64 ef, .int .i64 er], .int .i64 r, .int .i64 f] W fun e w' => (∃ v, e = .returned (.tuple #[v, .int .i64 1]) ∧ Hid (Told 1 W w' v [])) ∧ Below W.heap.size W w'
 yes : ∀ {W g S l} (p q ep ef er r f : Int), PS W g S l → ownP r = true → ownP f = true → -9223372036854775808 ≤ er → er < 9223372036854775808 →
  Calls Tryz.prog 119 #[.pointer (some ⟨g, 0, none⟩), .agg #[.int .i64 p, .int .i64 q], .agg #[.int .i64 ep, .int .i64 ef, .int .i64 er], .int .i64 r, .int .i64 f] W fun e w' => (∃ v, e = .returned (.tuple #[v, .int .i64 0]) ∧ Hid (Told 1 W w' v (toldS l r f 8))) ∧ Hid (StepS PS W w' g S (fillS l ⟨p, q, ep, ef, er, r, f⟩))
 get : ∀ {W g S l} (p q : Int), PS W g S l → Calls Tryz.prog 74 #[.pointer (some ⟨g, 0, none⟩), .agg #[.int .i64 p, .int .i64 q]] W fun e w' => e = .returned (.tuple #[entW (entS (findS l p q)), .bool (findS l p q).isSome]) ∧ Below W.heap.size W w'
 table : ∀ {W g S l} (p : Int), PS W g S l → Calls Tryz.prog 52 #[.pointer (some ⟨g, 0, none⟩), .int .i64 p] W fun e w' => e = .returned (.bool (tabL l p)) ∧ Below W.heap.size W w'
 wrote : ∀ {W g S l} (p : Int), PS W g S l → Calls Tryz.prog 92 #[.pointer (some ⟨g, 0, none⟩), .int .i64 p] W fun e w' => (∃ v, e = .returned v ∧ Hid (Told 2 W w' v ((goneS l p false).map Ln.key))) ∧ Hid (StepS PS W w' g S (leftS l p false))
 gone : ∀ {W g S l} (p : Int), PS W g S l → Calls Tryz.prog 59 #[.pointer (some ⟨g, 0, none⟩), .int .i64 p] W fun e w' => (∃ v, e = .returned v ∧ Hid (Told 2 W w' v ((goneS l p true).map Ln.key))) ∧ Hid (StepS PS W w' g S (leftS l p true))
 flush : ∀ {W g S l}, PS W g S l → Calls Tryz.prog 61 #[.pointer (some ⟨g, 0, none⟩)] W fun e w' => e = .returned (.int .i64 l.length) ∧ Hid (StepS PS W w' g S [])
 size : ∀ {W g S l}, PS W g S l → Calls Tryz.prog 174 #[.pointer (some ⟨g, 0, none⟩)] W fun e w' => e = .returned (.int .i64 l.length) ∧ Below W.heap.size W w'
 list : ∀ {W g S l}, PS W g S l → Calls Tryz.prog 48 #[.pointer (some ⟨g, 0, none⟩)] W fun e w' => (∃ v, e = .returned v ∧ Hid (Told 5 W w' v (l.map Ln.kept))) ∧ Below W.heap.size W w'
/-- what an act leaves -/
def actS (l : List Ln) (x : Ak) : List Ln := if x.kd = 0 then leftS l x.rt false else if x.kd = 1 then leftS l x.rt true else if x.kd = 2 then [] else if ownP x.rt = true ∧ ownP x.lf = true then fillS l ⟨x.kr, x.kp, x.ep, x.ef, x.er, x.rt, x.lf⟩ else l
section
variable {PS : World → Nat → List Nat → List Ln → Prop} (C : ProgC PS) {g : Nat} {S : List Nat} {l : List Ln}
include C
theorem ProgC.more {W W' : World} (h : PS W g S l) (hb : Below W.heap.size W W') : PS W' g S l := C.kq h (T := []) (Kq.of_below hb) (fun _ _ => by simp)
end
end Go.Proofs.YteaincdeoajkeaaGreatDoor.Sw
end
section
/- The bit of worth 2 (RWrite) of a 64-bit integer: taken off, and what is left. Serves all packages. -/
namespace Go.Proofs.YteaincdeoajkeaaGreatDoor.Ut
open Go.RowKit
set_option linter.unusedVariables false

theorem clear_two2 (x : Nat) (hx : x < 18446744073709551616) : x &&& 18446744073709551613 = 4 * (x / 4) + x % 2 := by
 have h1 : (x &&& 18446744073709551613) % 4 = x % 2 := by
  have := Nat.and_mod_two_pow (a := x) (b := 18446744073709551613) (n := 2)
  rw [show (18446744073709551613 : Nat) % 2 ^ 2 = 2 ^ 1 - 1 from rfl, Nat.and_two_pow_sub_one_eq_mod] at this
  omega
 have h2 : (x &&& 18446744073709551613) / 4 = x / 4 := by
  have := Nat.and_div_two_pow (a := x) (b := 18446744073709551613) (n := 2)
  rw [show (18446744073709551613 : Nat) / 2 ^ 2 = 2 ^ 62 - 1 from rfl, Nat.and_two_pow_sub_one_eq_mod] at this
  omega
 omega
theorem and_two162 : ((List.range 16).all fun r => (r &&& 2) == (if r % 4 < 2 then 0 else 2)) = true := by decide +kernel
theorem low_two2 (x : Nat) : x &&& 2 = (if x % 4 < 2 then 0 else 2) := by
 have h1 : x &&& 2 < 2 ^ 4 := Nat.and_lt_two_pow _ (by decide)
 have h2 := Nat.and_mod_two_pow (a := x) (b := 2) (n := 4)
 rw [Nat.mod_eq_of_lt h1] at h2
 have h3 := List.all_eq_true.1 and_two162 (x % 16) (by rw [List.mem_range]; omega)
 rw [beq_iff_eq] at h3
 rw [show x % 16 % 4 = x % 4 by omega] at h3
 rw [h2]
 exact h3
theorem two_toNat2 : (BitVec.ofInt 64 2).toNat = 2 := by decide
theorem and_two2 (n : Int) : bits .and .i64 n 2 = if (n % 18446744073709551616).toNat % 4 < 2 then 0 else 2 := by
 have e1 : bits .and .i64 n 2 = IntKind.i64.wrap (((n % 18446744073709551616).toNat &&& 2 : Nat) : Int) := by
  show IntKind.i64.wrap ((BitVec.ofInt 64 n &&& BitVec.ofInt 64 2).toNat : Nat) = _
  rw [BitVec.toNat_and, BitVec.toNat_ofInt, two_toNat2]
  rfl
 rw [e1, low_two2]
 split <;> simp [IntKind.wrap_i64]
theorem andNot_two2 (n : Int) : bits .andNot .i64 n 2 = IntKind.i64.wrap (((4 * ((n % 18446744073709551616).toNat / 4) + (n % 18446744073709551616).toNat % 2 : Nat)) : Int) := by
 have e2 : bits .andNot .i64 n 2 = IntKind.i64.wrap (((n % 18446744073709551616).toNat &&& 18446744073709551613 : Nat) : Int) := by
  show IntKind.i64.wrap ((BitVec.ofInt 64 n &&& ~~~ BitVec.ofInt 64 2).toNat : Nat) = _
  rw [BitVec.toNat_and, BitVec.toNat_ofInt, BitVec.toNat_not, two_toNat2]
  rfl
 rw [e2, clear_two2 _ (by omega)]
theorem off_two2 (n : Int) : bits .and .i64 (bits .andNot .i64 n 2) 2 = 0 := by
 rw [andNot_two2, and_two2, IntKind.wrap_i64, if_pos]
 generalize (n % 18446744073709551616).toNat = m
 omega
theorem same_two2 (n : Int) (h1 : -9223372036854775808 ≤ n) (h2 : n < 9223372036854775808) (h : bits .and .i64 n 2 = 0) : bits .andNot .i64 n 2 = n := by
 rw [and_two2] at h
 split at h
 ·rename_i hlt
  rw [andNot_two2, IntKind.wrap_i64]
  omega
 ·cases h
end Go.Proofs.YteaincdeoajkeaaGreatDoor.Ut
end
section
/- Stage 19, plainly: what an act leaves: no table is written by; a key has one translation. -/
namespace Go.Proofs.YteaincdeoajkeaaGreatDoor.Sw
open Go.RowKit Ut
set_option linter.unusedVariables false

/-- no translation to a table has the right to write; each key has one -/
def Prot (l : List Ln) : Prop := ∀ x ∈ l, tabL l x.ep = true → bits .and .i64 x.er 2 = 0
def kyS (x : Ln) : Int × Int := (x.kr, x.kp)
def KeyU (l : List Ln) : Prop := (l.map kyS).Nodup
theorem is_iffS {x : Ln} {p q : Int} : x.is p q = true ↔ kyS x = (p, q) := by
 unfold Ln.is kyS
 simp
theorem not_isS {x : Ln} {p q : Int} : x.is p q = false ↔ kyS x ≠ (p, q) := by
 rw [← Bool.not_eq_true, is_iffS]
theorem tab_iff {l : List Ln} {p : Int} : tabL l p = true ↔ ∃ x ∈ l, x.rt = p ∨ x.lf = p := by
 unfold tabL Ln.by_
 rw [List.any_eq_true]
 simp
theorem tab_mono {l m : List Ln} {p : Int} (h : ∀ x ∈ l, x ∈ m) (ht : tabL l p = true) : tabL m p = true := by
 rw [tab_iff] at ht ⊢
 obtain ⟨x, hx, e⟩ := ht
 exact ⟨x, h x hx, e⟩
theorem prot_left {l : List Ln} (h : Prot l) (F : Ln → Bool) : Prot (l.filter F) := fun x hx ht => h x (List.mem_filter.1 hx).1 (tab_mono (fun y hy => (List.mem_filter.1 hy).1) ht)
theorem keyU_filter {l : List Ln} (h : KeyU l) (F : Ln → Bool) : KeyU (l.filter F) := List.Nodup.sublist (List.filter_sublist.map _) h
theorem add_split (l : List Ln) (x : Ln) (h : l.length ≤ 32) : ∃ ws, addS l x = ws ++ [x] ∧ ws.Sublist (withS l x.kr x.kp) ∧ ws.length = min (withS l x.kr x.kp).length 31 := by
 have hl := withS_len l x.kr x.kp
 unfold addS
 by_cases h2 : 32 < (withS l x.kr x.kp).length + 1
 ·rw [if_pos h2]
  generalize withS l x.kr x.kp = ws at h2 hl
  match ws, h2, hl with
  | w :: ws, h2, hl => exact ⟨ws, rfl, List.sublist_cons_self .., by simp only [List.length_cons] at h2 hl ⊢; omega⟩
 ·rw [if_neg h2]
  exact ⟨_, rfl, List.Sublist.refl _, by omega⟩
theorem out_map {α : Type} (m : List Ln) (r f : Int) (F : Ln → α) (hF : ∀ z, F (clrS z) = F z) : (outS m r f m.length).map F = m.map F := by
 unfold outS
 rw [List.take_length]
 apply List.ext_getElem?
 intro i
 rw [List.getElem?_map, List.getElem?_mapIdx, List.getElem?_map]
 cases m[i]? with
 | none => rfl
 | some z =>
  simp only [Option.map_some]
  congr 1
  split
  ·exact hF z
  ·rfl
theorem out_mem {m : List Ln} {r f : Int} {z : Ln} (h : z ∈ outS m r f m.length) : ∃ (i : Nat) (y : Ln), m[i]? = some y ∧ z = if loseB m r f i y = true then clrS y else y := by
 obtain ⟨i, hi⟩ := List.mem_iff_getElem?.1 h
 unfold outS at hi
 rw [List.take_length, List.getElem?_mapIdx] at hi
 cases hm : m[i]? with
 | none => rw [hm] at hi; simp at hi
 | some y =>
  rw [hm] at hi
  simp only [Option.map_some, Option.some.injEq] at hi
  exact ⟨i, y, hm, hi.symm⟩
theorem tab_out (m : List Ln) (r f p : Int) : tabL (outS m r f m.length) p = tabL m p := by
 have h1 : ∀ l : List Ln, tabL l p = (l.map fun x => x.by_ p).any id := fun l => by unfold tabL; rw [List.any_map]; rfl
 rw [h1, h1, out_map m r f _ (fun z => rfl)]
theorem fill_len (l : List Ln) (x : Ln) (h : l.length ≤ 32) : (fillS l x).length = min (withS l x.kr x.kp).length 31 + 1 := by
 obtain ⟨ws, e, _, hl⟩ := add_split l x h
 unfold fillS
 rw [outS_len, e, List.length_append, List.length_singleton, hl]
 omega
theorem keyU_fill {l : List Ln} (h : KeyU l) (hl : l.length ≤ 32) (x : Ln) : KeyU (fillS l x) := by
 obtain ⟨ws, e, hs, _⟩ := add_split l x hl
 unfold KeyU fillS
 rw [out_map _ _ _ _ (fun z => rfl), e, List.map_append, List.nodup_append]
 refine ⟨List.Nodup.sublist (hs.map _) (keyU_filter h _), by simp, fun a ha b hb hab => ?_⟩
 simp only [List.map_cons, List.map_nil, List.mem_singleton] at hb
 obtain ⟨y, hy, rfl⟩ := List.mem_map.1 ha
 have := (List.mem_filter.1 (hs.subset hy)).2
 rw [Bool.not_eq_true', not_isS] at this
 exact this (hab.trans hb)
theorem prot_fill {l : List Ln} (h : Prot l) (hl : l.length ≤ 32) (x : Ln) : Prot (fillS l x) := by
 obtain ⟨ws, e, hs, _⟩ := add_split l x hl
 intro z hz ht
 unfold fillS at hz ht
 rw [tab_out] at ht
 obtain ⟨i, y, hy, rfl⟩ := out_mem hz
 rcases lose_cases (addS l x) x.rt x.lf i y with ⟨_, c⟩ | ⟨_, _, c⟩ | ⟨c1, c2, c3, c⟩ | ⟨c1, c2, c3, c⟩
 ·rw [if_pos c]; exact off_two2 _
 ·rw [if_pos c]; exact off_two2 _
 ·by_cases c4 : loseB (addS l x) x.rt x.lf i y = true
  ·rw [if_pos c4]; exact off_two2 _
  ·rw [if_neg c4] at ht
   rw [c] at c4
   exact absurd ht c4
 ·have c4 : ¬ loseB (addS l x) x.rt x.lf i y = true := by rw [c]; decide
  rw [if_neg c4] at ht ⊢
  rw [e, List.length_append, List.length_singleton] at c3
  rw [e] at hy ht
  have hi : i < ws.length := by
   have := (List.getElem?_eq_some_iff.1 hy).1
   rw [List.length_append, List.length_singleton] at this
   omega
  rw [List.getElem?_append_left hi] at hy
  have hm : ∀ z ∈ ws, z ∈ l := fun z hz => (List.mem_filter.1 (hs.subset hz)).1
  refine h y (hm y (List.mem_of_getElem? hy)) ?_
  rw [tab_iff] at ht ⊢
  obtain ⟨u, hu, hp⟩ := ht
  rcases List.mem_append.1 hu with hu | hu
  ·exact ⟨u, hm u hu, hp⟩
  ·rw [List.mem_singleton] at hu
   subst hu
   simp only [beq_eq_false_iff_ne, ne_eq] at c1 c2
   rcases hp with hp | hp
   ·exact absurd hp.symm c1
   ·exact absurd hp.symm c2
theorem fill_le (l : List Ln) (x : Ln) (h : l.length ≤ 32) : (fillS l x).length ≤ 32 := by rw [fill_len l x h]; omega
/-- what holds behind any acts -/
structure Inv19 (l : List Ln) : Prop where
 p : Prot l
 u : KeyU l
 n : l.length ≤ 32
theorem Inv19.nil : Inv19 [] := ⟨(fun x hx => by cases hx), (by unfold KeyU; simp), (by simp)⟩
theorem Inv19.filter {l : List Ln} (h : Inv19 l) (F : Ln → Bool) : Inv19 (l.filter F) := ⟨prot_left h.p F, keyU_filter h.u F, Nat.le_trans (List.length_filter_le _ _) h.n⟩
theorem Inv19.fill {l : List Ln} (h : Inv19 l) (x : Ln) : Inv19 (fillS l x) := ⟨prot_fill h.p h.n x, keyU_fill h.u h.n x, fill_le l x h.n⟩
theorem Inv19.act {l : List Ln} (h : Inv19 l) (x : Ak) : Inv19 (actS l x) := by
 unfold actS
 split
 ·exact h.filter _
 split
 ·exact h.filter _
 split
 ·exact Inv19.nil
 split
 ·exact h.fill _
 ·exact h
end Go.Proofs.YteaincdeoajkeaaGreatDoor.Sw
end
