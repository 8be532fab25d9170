/- Several texts in one: Jh Ss Jj St -/
import Derived.Test.YteaincdeoajkeaaGreatDoorZ24
import Derived.Test.YteaincdeoajkeaaGreatDoorZ01
import Derived.Test.YteaincdeoajkeaaGreatDoorZ18
import Derived.Test.YteaincdeoajkeaaGreatDoorZ05
section
/- The program's shadow by what its methods tell and leave (ProgC: what is to be shown of the program that lands); both sides in one world (JB); hermitagelaw19's does. -/
namespace Go.Proofs.YteaincdeoajkeaaGreatDoor.Sw
open Go.RowKit Ut
set_option maxRecDepth 100000
set_option linter.unusedVariables false
set_option maxHeartbeats 4000000

/-- an act left l', in blocks of S or new ones, and turned nothing but S -/
structure StepS (PS : World → Nat → List Nat → List Ln → Prop) (W W' : World) (g : Nat) (S : List Nat) (l' : List Ln) : Prop where
  ex : ∃ S', PS W' g S' l' ∧ ∀ s ∈ S', s ∈ S ∨ W.heap.size ≤ s
  kq : Kq S W W'
section
variable {PS : World → Nat → List Nat → List Ln → Prop} {W W' V : World} {g : Nat} {S : List Nat} {l l' : List Ln}
theorem StepS.from_ (h : StepS PS W W' g S l') (hb : Below V.heap.size V W) : StepS PS V W' g S l' := by
  obtain ⟨⟨S', h1, h2⟩, h3⟩ := h
  refine ⟨⟨S', h1, fun s hs => ?_⟩, (Kq.of_below hb).trans h3⟩
  rcases h2 s hs with h | h
  · exact .inl h
  · exact .inr (Nat.le_trans hb.size h)
end
/-- a slice of records of k integers that the call made -/
def Told (k : Nat) (W W' : World) (v : Value) (xs : List (List Int)) : Prop := ∃ a c, v = .slice a xs.length c ∧ IRow k W' a xs ∧ ∀ y, a = some y → W.heap.size ≤ y.block
theorem Told.from_ {k : Nat} {W W' V : World} {v : Value} {xs : List (List Int)} (h : Told k W W' v xs) (hb : V.heap.size ≤ W.heap.size) : Told k V W' v xs := by
  obtain ⟨a, c, h1, h2, h3⟩ := h
  exact ⟨a, c, h1, h2, fun y e => Nat.le_trans hb (h3 y e)⟩
def Ln.keyV (x : Ln) : Value := .agg #[.int .i64 x.kr, .int .i64 x.kp]
def Ln.entV (x : Ln) : Value := .agg #[.int .i64 x.ep, .int .i64 x.ef, .int .i64 x.er]
/-- what the program is to keep: its methods' answers, and that nothing else turns -/
structure ProgC (PS : World → Nat → List Nat → List Ln → Prop) : Prop where
  lt : ∀ {W g S l}, PS W g S l → ∀ s ∈ S, s < W.heap.size
  kq : ∀ {W W' g S l T}, PS W g S l → Kq T W W' → (∀ s ∈ S, s ∉ T) → PS W' g S l
  len : ∀ {W g S l}, PS W g S l → l.length ≤ 32
  new : ∀ w, Calls Tryz.prog 57 #[] w fun e w' => ∃ g S, e = .returned (.pointer (some ⟨g, 0, none⟩)) ∧ Hid (PS w' g S [] ∧ ∀ s ∈ S, w.heap.size ≤ s) ∧ Below w.heap.size w w'
  no : ∀ {W g S l} (p q ep ef er r f : Int), PS W g S l → (ownP r = false ∨ (ownP r = true ∧ ownP f = false)) →
    Calls Tryz.prog 119 #[.pointer (some ⟨g, 0, none⟩), .agg #[.int .i64 p, .int .i64 q], .agg #[.int .i64 ep, .int .i64 ef, .int .i64 er], .int .i64 r, .int .i64 f] W fun e w' => (∃ v, e = .returned (.tuple #[v, .int .i64 1]) ∧ Hid (Told 1 W w' v [])) ∧ Below W.heap.size W w'
  yes : ∀ {W g S l} (p q ep ef er r f : Int), PS W g S l → ownP r = true → ownP f = true → -9223372036854775808 ≤ er → er < 9223372036854775808 →
    Calls Tryz.prog 119 #[.pointer (some ⟨g, 0, none⟩), .agg #[.int .i64 p, .int .i64 q], .agg #[.int .i64 ep, .int .i64 ef, .int .i64 er], .int .i64 r, .int .i64 f] W fun e w' => (∃ v, e = .returned (.tuple #[v, .int .i64 0]) ∧ Hid (Told 1 W w' v (toldS l r f 8))) ∧ Hid (StepS PS W w' g S (fillS l ⟨p, q, ep, ef, er, r, f⟩))
  get : ∀ {W g S l} (p q : Int), PS W g S l → Calls Tryz.prog 74 #[.pointer (some ⟨g, 0, none⟩), .agg #[.int .i64 p, .int .i64 q]] W fun e w' => e = .returned (.tuple #[entW (entS (findS l p q)), .bool (findS l p q).isSome]) ∧ Below W.heap.size W w'
  table : ∀ {W g S l} (p : Int), PS W g S l → Calls Tryz.prog 52 #[.pointer (some ⟨g, 0, none⟩), .int .i64 p] W fun e w' => e = .returned (.bool (tabL l p)) ∧ Below W.heap.size W w'
  wrote : ∀ {W g S l} (p : Int), PS W g S l → Calls Tryz.prog 92 #[.pointer (some ⟨g, 0, none⟩), .int .i64 p] W fun e w' => (∃ v, e = .returned v ∧ Hid (Told 2 W w' v ((goneS l p false).map Ln.key))) ∧ Hid (StepS PS W w' g S (leftS l p false))
  gone : ∀ {W g S l} (p : Int), PS W g S l → Calls Tryz.prog 59 #[.pointer (some ⟨g, 0, none⟩), .int .i64 p] W fun e w' => (∃ v, e = .returned v ∧ Hid (Told 2 W w' v ((goneS l p true).map Ln.key))) ∧ Hid (StepS PS W w' g S (leftS l p true))
  flush : ∀ {W g S l}, PS W g S l → Calls Tryz.prog 61 #[.pointer (some ⟨g, 0, none⟩)] W fun e w' => e = .returned (.int .i64 l.length) ∧ Hid (StepS PS W w' g S [])
  size : ∀ {W g S l}, PS W g S l → Calls Tryz.prog 174 #[.pointer (some ⟨g, 0, none⟩)] W fun e w' => e = .returned (.int .i64 l.length) ∧ Below W.heap.size W w'
  list : ∀ {W g S l}, PS W g S l → Calls Tryz.prog 48 #[.pointer (some ⟨g, 0, none⟩)] W fun e w' => (∃ v, e = .returned v ∧ Hid (Told 5 W w' v (l.map Ln.kept))) ∧ Below W.heap.size W w'
/-- what an act leaves -/
def actS (l : List Ln) (x : Ak) : List Ln := if x.kd = 0 then leftS l x.rt false else if x.kd = 1 then leftS l x.rt true else if x.kd = 2 then [] else if ownP x.rt = true ∧ ownP x.lf = true then fillS l ⟨x.kr, x.kp, x.ep, x.ef, x.er, x.rt, x.lf⟩ else l
section
variable {PS : World → Nat → List Nat → List Ln → Prop} (C : ProgC PS) {g : Nat} {S : List Nat} {l : List Ln}
include C
theorem ProgC.more {W W' : World} (h : PS W g S l) (hb : Below W.heap.size W W') : PS W' g S l := C.kq h (T := []) (Kq.of_below hb) (fun _ _ => by simp)
end
end Go.Proofs.YteaincdeoajkeaaGreatDoor.Sw
end
section
/- The bit of worth 2 (RWrite) of a 64-bit integer: taken off, and what is left. Serves all packages. -/
namespace Go.Proofs.YteaincdeoajkeaaGreatDoor.Ut
open Go.RowKit
set_option linter.unusedVariables false

theorem clear_two2 (x : Nat) (hx : x < 18446744073709551616) : x &&& 18446744073709551613 = 4 * (x / 4) + x % 2 := by
  have h1 : (x &&& 18446744073709551613) % 4 = x % 2 := by
    have := Nat.and_mod_two_pow (a := x) (b := 18446744073709551613) (n := 2)
    rw [show (18446744073709551613 : Nat) % 2 ^ 2 = 2 ^ 1 - 1 from rfl, Nat.and_two_pow_sub_one_eq_mod] at this
    omega
  have h2 : (x &&& 18446744073709551613) / 4 = x / 4 := by
    have := Nat.and_div_two_pow (a := x) (b := 18446744073709551613) (n := 2)
    rw [show (18446744073709551613 : Nat) / 2 ^ 2 = 2 ^ 62 - 1 from rfl, Nat.and_two_pow_sub_one_eq_mod] at this
    omega
  omega
theorem and_two162 : ((List.range 16).all fun r => (r &&& 2) == (if r % 4 < 2 then 0 else 2)) = true := by decide +kernel
theorem low_two2 (x : Nat) : x &&& 2 = (if x % 4 < 2 then 0 else 2) := by
  have h1 : x &&& 2 < 2 ^ 4 := Nat.and_lt_two_pow _ (by decide)
  have h2 := Nat.and_mod_two_pow (a := x) (b := 2) (n := 4)
  rw [Nat.mod_eq_of_lt h1] at h2
  have h3 := List.all_eq_true.1 and_two162 (x % 16) (by rw [List.mem_range]; omega)
  rw [beq_iff_eq] at h3
  rw [show x % 16 % 4 = x % 4 by omega] at h3
  rw [h2]
  exact h3
theorem two_toNat2 : (BitVec.ofInt 64 2).toNat = 2 := by decide
theorem and_two2 (n : Int) : bits .and .i64 n 2 = if (n % 18446744073709551616).toNat % 4 < 2 then 0 else 2 := by
  have e1 : bits .and .i64 n 2 = IntKind.i64.wrap (((n % 18446744073709551616).toNat &&& 2 : Nat) : Int) := by
    show IntKind.i64.wrap ((BitVec.ofInt 64 n &&& BitVec.ofInt 64 2).toNat : Nat) = _
    rw [BitVec.toNat_and, BitVec.toNat_ofInt, two_toNat2]
    rfl
  rw [e1, low_two2]
  split <;> simp [IntKind.wrap_i64]
theorem andNot_two2 (n : Int) : bits .andNot .i64 n 2 = IntKind.i64.wrap (((4 * ((n % 18446744073709551616).toNat / 4) + (n % 18446744073709551616).toNat % 2 : Nat)) : Int) := by
  have e2 : bits .andNot .i64 n 2 = IntKind.i64.wrap (((n % 18446744073709551616).toNat &&& 18446744073709551613 : Nat) : Int) := by
    show IntKind.i64.wrap ((BitVec.ofInt 64 n &&& ~~~ BitVec.ofInt 64 2).toNat : Nat) = _
    rw [BitVec.toNat_and, BitVec.toNat_ofInt, BitVec.toNat_not, two_toNat2]
    rfl
  rw [e2, clear_two2 _ (by omega)]
theorem off_two2 (n : Int) : bits .and .i64 (bits .andNot .i64 n 2) 2 = 0 := by
  rw [andNot_two2, and_two2, IntKind.wrap_i64, if_pos]
  generalize (n % 18446744073709551616).toNat = m
  omega
theorem same_two2 (n : Int) (h1 : -9223372036854775808 ≤ n) (h2 : n < 9223372036854775808) (h : bits .and .i64 n 2 = 0) : bits .andNot .i64 n 2 = n := by
  rw [and_two2] at h
  split at h
  · rename_i hlt
    rw [andNot_two2, IntKind.wrap_i64]
    omega
  · cases h
theorem range_two2 (n : Int) : -9223372036854775808 ≤ bits .andNot .i64 n 2 ∧ bits .andNot .i64 n 2 < 9223372036854775808 := by
  rw [andNot_two2, IntKind.wrap_i64]
  omega
theorem twice_two2 (n : Int) : bits .andNot .i64 (bits .andNot .i64 n 2) 2 = bits .andNot .i64 n 2 := same_two2 _ (range_two2 n).1 (range_two2 n).2 (off_two2 n)
theorem had_two2 (n : Int) (h : bits .and .i64 n 2 ≠ 0) : bits .andNot .i64 n 2 ≠ n := fun e => h (by rw [← e]; exact off_two2 n)
end Go.Proofs.YteaincdeoajkeaaGreatDoor.Ut
end
section
/- Stage 19, plainly: what an act leaves: no table is written by; a key has one translation. -/
namespace Go.Proofs.YteaincdeoajkeaaGreatDoor.Sw
open Go.RowKit Ut
set_option linter.unusedVariables false

/-- no translation to a table has the right to write; each key has one -/
def Prot (l : List Ln) : Prop := ∀ x ∈ l, tabL l x.ep = true → bits .and .i64 x.er 2 = 0
def kyS (x : Ln) : Int × Int := (x.kr, x.kp)
def KeyU (l : List Ln) : Prop := (l.map kyS).Nodup
theorem is_iffS {x : Ln} {p q : Int} : x.is p q = true ↔ kyS x = (p, q) := by
  unfold Ln.is kyS
  simp
theorem not_isS {x : Ln} {p q : Int} : x.is p q = false ↔ kyS x ≠ (p, q) := by
  rw [← Bool.not_eq_true, is_iffS]
theorem tab_iff {l : List Ln} {p : Int} : tabL l p = true ↔ ∃ x ∈ l, x.rt = p ∨ x.lf = p := by
  unfold tabL Ln.by_
  rw [List.any_eq_true]
  simp
theorem tab_mono {l m : List Ln} {p : Int} (h : ∀ x ∈ l, x ∈ m) (ht : tabL l p = true) : tabL m p = true := by
  rw [tab_iff] at ht ⊢
  obtain ⟨x, hx, e⟩ := ht
  exact ⟨x, h x hx, e⟩
theorem prot_left {l : List Ln} (h : Prot l) (F : Ln → Bool) : Prot (l.filter F) := fun x hx ht => h x (List.mem_filter.1 hx).1 (tab_mono (fun y hy => (List.mem_filter.1 hy).1) ht)
theorem keyU_filter {l : List Ln} (h : KeyU l) (F : Ln → Bool) : KeyU (l.filter F) := List.Nodup.sublist (List.filter_sublist.map _) h
theorem add_split (l : List Ln) (x : Ln) (h : l.length ≤ 32) : ∃ ws, addS l x = ws ++ [x] ∧ ws.Sublist (withS l x.kr x.kp) ∧ ws.length = min (withS l x.kr x.kp).length 31 := by
  have hl := withS_len l x.kr x.kp
  unfold addS
  by_cases h2 : 32 < (withS l x.kr x.kp).length + 1
  · rw [if_pos h2]
    generalize withS l x.kr x.kp = ws at h2 hl
    match ws, h2, hl with
    | w :: ws, h2, hl => exact ⟨ws, rfl, List.sublist_cons_self .., by simp only [List.length_cons] at h2 hl ⊢; omega⟩
  · rw [if_neg h2]
    exact ⟨_, rfl, List.Sublist.refl _, by omega⟩
theorem out_map {α : Type} (m : List Ln) (r f : Int) (F : Ln → α) (hF : ∀ z, F (clrS z) = F z) : (outS m r f m.length).map F = m.map F := by
  unfold outS
  rw [List.take_length]
  apply List.ext_getElem?
  intro i
  rw [List.getElem?_map, List.getElem?_mapIdx, List.getElem?_map]
  cases m[i]? with
  | none => rfl
  | some z =>
    simp only [Option.map_some]
    congr 1
    split
    · exact hF z
    · rfl
theorem out_mem {m : List Ln} {r f : Int} {z : Ln} (h : z ∈ outS m r f m.length) : ∃ (i : Nat) (y : Ln), m[i]? = some y ∧ z = if loseB m r f i y = true then clrS y else y := by
  obtain ⟨i, hi⟩ := List.mem_iff_getElem?.1 h
  unfold outS at hi
  rw [List.take_length, List.getElem?_mapIdx] at hi
  cases hm : m[i]? with
  | none => rw [hm] at hi; simp at hi
  | some y =>
    rw [hm] at hi
    simp only [Option.map_some, Option.some.injEq] at hi
    exact ⟨i, y, hm, hi.symm⟩
theorem tab_out (m : List Ln) (r f p : Int) : tabL (outS m r f m.length) p = tabL m p := by
  have h1 : ∀ l : List Ln, tabL l p = (l.map fun x => x.by_ p).any id := fun l => by unfold tabL; rw [List.any_map]; rfl
  rw [h1, h1, out_map m r f _ (fun z => rfl)]
theorem fill_len (l : List Ln) (x : Ln) (h : l.length ≤ 32) : (fillS l x).length = min (withS l x.kr x.kp).length 31 + 1 := by
  obtain ⟨ws, e, _, hl⟩ := add_split l x h
  unfold fillS
  rw [outS_len, e, List.length_append, List.length_singleton, hl]
  omega
theorem keyU_fill {l : List Ln} (h : KeyU l) (hl : l.length ≤ 32) (x : Ln) : KeyU (fillS l x) := by
  obtain ⟨ws, e, hs, _⟩ := add_split l x hl
  unfold KeyU fillS
  rw [out_map _ _ _ _ (fun z => rfl), e, List.map_append, List.nodup_append]
  refine ⟨List.Nodup.sublist (hs.map _) (keyU_filter h _), by simp, fun a ha b hb hab => ?_⟩
  simp only [List.map_cons, List.map_nil, List.mem_singleton] at hb
  obtain ⟨y, hy, rfl⟩ := List.mem_map.1 ha
  have := (List.mem_filter.1 (hs.subset hy)).2
  rw [Bool.not_eq_true', not_isS] at this
  exact this (hab.trans hb)
theorem prot_fill {l : List Ln} (h : Prot l) (hl : l.length ≤ 32) (x : Ln) : Prot (fillS l x) := by
  obtain ⟨ws, e, hs, _⟩ := add_split l x hl
  intro z hz ht
  unfold fillS at hz ht
  rw [tab_out] at ht
  obtain ⟨i, y, hy, rfl⟩ := out_mem hz
  rcases lose_cases (addS l x) x.rt x.lf i y with ⟨_, c⟩ | ⟨_, _, c⟩ | ⟨c1, c2, c3, c⟩ | ⟨c1, c2, c3, c⟩
  · rw [if_pos c]; exact off_two2 _
  · rw [if_pos c]; exact off_two2 _
  · by_cases c4 : loseB (addS l x) x.rt x.lf i y = true
    · rw [if_pos c4]; exact off_two2 _
    · rw [if_neg c4] at ht
      rw [c] at c4
      exact absurd ht c4
  · have c4 : ¬ loseB (addS l x) x.rt x.lf i y = true := by rw [c]; decide
    rw [if_neg c4] at ht ⊢
    rw [e, List.length_append, List.length_singleton] at c3
    rw [e] at hy ht
    have hi : i < ws.length := by
      have := (List.getElem?_eq_some_iff.1 hy).1
      rw [List.length_append, List.length_singleton] at this
      omega
    rw [List.getElem?_append_left hi] at hy
    have hm : ∀ z ∈ ws, z ∈ l := fun z hz => (List.mem_filter.1 (hs.subset hz)).1
    refine h y (hm y (List.mem_of_getElem? hy)) ?_
    rw [tab_iff] at ht ⊢
    obtain ⟨u, hu, hp⟩ := ht
    rcases List.mem_append.1 hu with hu | hu
    · exact ⟨u, hm u hu, hp⟩
    · rw [List.mem_singleton] at hu
      subst hu
      simp only [beq_eq_false_iff_ne, ne_eq] at c1 c2
      rcases hp with hp | hp
      · exact absurd hp.symm c1
      · exact absurd hp.symm c2
theorem fill_le (l : List Ln) (x : Ln) (h : l.length ≤ 32) : (fillS l x).length ≤ 32 := by rw [fill_len l x h]; omega
/-- what holds behind any acts -/
structure Inv19 (l : List Ln) : Prop where
  p : Prot l
  u : KeyU l
  n : l.length ≤ 32
theorem Inv19.nil : Inv19 [] := ⟨(fun x hx => by cases hx), (by unfold KeyU; simp), (by simp)⟩
theorem Inv19.filter {l : List Ln} (h : Inv19 l) (F : Ln → Bool) : Inv19 (l.filter F) := ⟨prot_left h.p F, keyU_filter h.u F, Nat.le_trans (List.length_filter_le _ _) h.n⟩
theorem Inv19.fill {l : List Ln} (h : Inv19 l) (x : Ln) : Inv19 (fillS l x) := ⟨prot_fill h.p h.n x, keyU_fill h.u h.n x, fill_le l x h.n⟩
theorem Inv19.act {l : List Ln} (h : Inv19 l) (x : Ak) : Inv19 (actS l x) := by
  unfold actS
  split
  · exact h.filter _
  split
  · exact h.filter _
  split
  · exact Inv19.nil
  split
  · exact h.fill _
  · exact h
end Go.Proofs.YteaincdeoajkeaaGreatDoor.Sw
end
section
/- Records of k integers each inside a block, behind other cells: read, written whole, many at once, cleared. Serves all packages. -/
namespace Go.Proofs.YteaincdeoajkeaaGreatDoor.Ut
open Go.RowKit
set_option linter.unusedVariables false

theorem encI_len (x : List Int) : (encI x).length = x.length := by unfold encI; rw [List.length_map]
theorem encR_cons (x : List Int) (xs : List (List Int)) : encR (x :: xs) = encI x ++ encR xs := rfl
theorem encR_app (xs ys : List (List Int)) : encR (xs ++ ys) = encR xs ++ encR ys := by
  unfold encR
  rw [List.map_append, List.flatten_append]
theorem encR_len (k : Nat) : ∀ (xs : List (List Int)), (∀ x ∈ xs, x.length = k) → (encR xs).length = xs.length * k
  | [], _ => by simp [encR]
  | x :: xs, h => by
    rw [encR_cons, List.length_append, encI_len, h x (List.mem_cons_self ..), encR_len k xs (fun y hy => h y (List.mem_cons_of_mem _ hy)), List.length_cons, Nat.add_mul]
    omega
theorem encI_one (x : List Int) : ∀ v ∈ encI x, v.oneCell' = true := fun v hv => by
  obtain ⟨z, _, rfl⟩ := List.mem_map.1 hv
  rfl
theorem encR_take (k : Nat) (xs : List (List Int)) (h : ∀ x ∈ xs, x.length = k) (i : Nat) : (encR xs).take (i * k) = encR (xs.take i) := by
  by_cases hi : i ≤ xs.length
  · have e : encR xs = encR (xs.take i) ++ encR (xs.drop i) := by rw [← encR_app, List.take_append_drop]
    have hl : (encR (xs.take i)).length = i * k := by rw [encR_len k _ (fun x hx => h x (List.mem_of_mem_take hx)), List.length_take, Nat.min_eq_left hi]
    rw [e, List.take_append, hl, Nat.sub_self, List.take_zero, List.append_nil, List.take_of_length_le (by omega)]
  · rw [List.take_of_length_le (show xs.length ≤ i by omega), List.take_of_length_le]
    rw [encR_len k xs h]
    exact Nat.mul_le_mul_right k (by omega)
theorem encR_drop (k : Nat) (xs : List (List Int)) (h : ∀ x ∈ xs, x.length = k) (i : Nat) : (encR xs).drop (i * k) = encR (xs.drop i) := by
  by_cases hi : i ≤ xs.length
  · have e : encR xs = encR (xs.take i) ++ encR (xs.drop i) := by rw [← encR_app, List.take_append_drop]
    have hl : (encR (xs.take i)).length = i * k := by rw [encR_len k _ (fun x hx => h x (List.mem_of_mem_take hx)), List.length_take, Nat.min_eq_left hi]
    rw [e, List.drop_append, hl, Nat.sub_self, List.drop_zero, List.drop_of_length_le (by omega), List.nil_append]
  · rw [List.drop_of_length_le (show xs.length ≤ i by omega), List.drop_of_length_le]
    · rfl
    · rw [encR_len k xs h]
      exact Nat.mul_le_mul_right k (by omega)
/-- records written over others -/
theorem encR_splice (k : Nat) (xs ys : List (List Int)) (hx : ∀ x ∈ xs, x.length = k) (hy : ∀ y ∈ ys, y.length = k) (i : Nat) : splice (encR xs) (i * k) (encR ys) = encR (splice xs i ys) := by
  unfold splice
  rw [encR_len k ys hy, ← Nat.add_mul, encR_take k xs hx, encR_drop k xs hx, encR_app, encR_app]
theorem splice_behind {α : Type} (pre f cs : List α) (o k : Nat) (ho : pre.length = o) : splice (pre ++ f) (o + k) cs = pre ++ splice f k cs := by
  subst ho
  unfold splice
  rw [List.take_append, List.take_of_length_le (by omega), show pre.length + k - pre.length = k by omega, Nat.add_assoc, List.drop_append, List.drop_of_length_le (by omega), show pre.length + (k + cs.length) - pre.length = k + cs.length by omega, List.append_assoc]
  rfl
theorem splice_one {α : Type} (l : List α) : ∀ (i : Nat) (x : α), i < l.length → splice l i [x] = l.set i x := by
  induction l with
  | nil => intro i x h; simp at h
  | cons y l ih =>
    intro i x h
    cases i with
    | zero => rfl
    | succ i =>
      have := ih i x (by simpa using h)
      unfold splice at this ⊢
      rw [List.set_cons_succ, ← this, List.take_succ_cons, List.cons_append, show i + 1 + [x].length = i + [x].length + 1 by simp, List.drop_succ_cons]
theorem splice_len {α : Type} (l ys : List α) (i : Nat) (h : i + ys.length ≤ l.length) : (splice l i ys).length = l.length := by
  unfold splice
  rw [List.length_append, List.length_append, List.length_take, List.length_drop]
  omega
theorem splice_take {α : Type} (l ys : List α) (i : Nat) (h : i ≤ l.length) : (splice l i ys).take i = l.take i := by
  unfold splice
  have e : (l.take i).length = i := by rw [List.length_take]; omega
  rw [List.take_append, e, Nat.sub_self, List.take_zero, List.append_nil, List.take_of_length_le (by omega)]

theorem encR_set (k : Nat) : ∀ (xs : List (List Int)), (∀ x ∈ xs, x.length = k) → ∀ (i j : Nat) (x : List Int) (z : Int), xs[i]? = some x → j < k → (encR xs).set (i * k + j) (.int .i64 z) = encR (xs.set i (x.set j z)) := by
  intro xs
  induction xs with
  | nil => intro _ i j x z h; simp at h
  | cons c xs ih =>
    intro h i j x z hx hj
    have hc : (encI c).length = k := by rw [encI_len]; exact h c (List.mem_cons_self ..)
    cases i with
    | zero =>
      simp only [List.getElem?_cons_zero, Option.some.injEq] at hx
      subst hx
      rw [List.set_cons_zero, encR_cons, encR_cons, Nat.zero_mul, Nat.zero_add, List.set_append_left _ _ (by omega)]
      unfold encI
      rw [List.map_set]
    | succ i =>
      rw [List.set_cons_succ, encR_cons, encR_cons, List.set_append_right _ _ (by rw [hc, Nat.add_mul]; omega), hc, show (i + 1) * k + j - k = i * k + j by rw [Nat.add_mul]; omega,
        ih (fun y hy => h y (List.mem_cons_of_mem _ hy)) i j x z (by simpa using hx) hj]
/-- a block's cells behind pre are records of k integers -/
def RecB (w : World) (b : Nat) (t : TypeId) (pre : List Value) (k : Nat) (xs : List (List Int)) : Prop := (∀ x ∈ xs, x.length = k) ∧ Blk w b t (pre ++ encR xs)
section
variable {w w' : World} {b o k : Nat} {t : TypeId} {pre : List Value} {xs : List (List Int)}
theorem RecB.lt (h : RecB w b t pre k xs) : b < w.heap.size := h.2.lt
theorem RecB.of_block (h : RecB w b t pre k xs) (e : w'.heap[b]? = w.heap[b]?) : RecB w' b t pre k xs := ⟨h.1, h.2.of_block e⟩
theorem RecB.kq {T : List Nat} (h : RecB w b t pre k xs) (q : Kq T w w') (hb : b ∉ T) : RecB w' b t pre k xs := h.of_block (q.block b h.lt hb)
theorem RecB.more (h : RecB w b t pre k xs) (hb : Below w.heap.size w w') : RecB w' b t pre k xs := h.of_block (hb.block b h.lt)
theorem RecB.get (h : RecB w b t pre k xs) (ho : pre.length = o) {i j : Nat} {x : List Int} {z : Int} (hx : xs[i]? = some x) (hz : x[j]? = some z) : w.cell? ⟨b, o + i * k + j, none⟩ = some (.int .i64 z) := h.2.cell (by
  subst ho
  rw [List.getElem?_append_right (by omega), show pre.length + i * k + j - pre.length = i * k + j by omega]
  exact encR_get k xs h.1 i x j z hx hz)
/-- .. as a slice of them reads -/
theorem RecB.row (h : RecB w b t pre k xs) (ho : pre.length = o) : IRow k w (some ⟨b, o, none⟩) xs := fun i x hx => ⟨_, rfl, h.lt, fun j z hz => by
  have e : (⟨b, o, none⟩ : Addr).add (i * k + j) = ⟨b, o + i * k + j, none⟩ := by unfold Addr.add; split <;> simp_all [Nat.add_assoc]
  rw [e]
  exact h.get ho hx hz⟩
/-- one of them is written whole -/
theorem RecB.putRow (h : RecB w b t pre k xs) (ho : pre.length = o) (i : Nat) (x : List Int) (hi : i < xs.length) (hx : x.length = k) : splice (pre ++ encR xs) (o + i * k) (encI x) = pre ++ encR (xs.set i x) ∧ RecB (w.setRow b (pre ++ encR (xs.set i x)).toArray) b t pre k (xs.set i x) := by
  have e : encI x = encR [x] := by simp [encR]
  refine ⟨?_, fun y hy => ?_, h.2.row _⟩
  · rw [splice_behind pre _ _ o _ ho, e, encR_splice k xs [x] h.1 (by simp [hx]), splice_one _ _ _ hi]
  · rcases List.mem_or_eq_of_mem_set hy with hy | rfl
    · exact h.1 y hy
    · exact hx
theorem RecB.fits (h : RecB w b t pre k xs) (ho : pre.length = o) (i : Nat) (hi : i < xs.length) : o + i * k + k ≤ (pre ++ encR xs).length := by
  rw [List.length_append, encR_len k xs h.1, ho]
  have := Nat.mul_le_mul_right k (show i + 1 ≤ xs.length by omega)
  rw [Nat.add_mul] at this
  omega
/-- one of its numbers is written -/
theorem RecB.setAt (h : RecB w b t pre k xs) (ho : pre.length = o) {i j : Nat} {x : List Int} (z : Int) (hx : xs[i]? = some x) (hj : j < k) : RecB (w.setCell ⟨b, o + i * k + j, none⟩ (.int .i64 z)) b t pre k (xs.set i (x.set j z)) := by
  subst ho
  refine ⟨fun y hy => ?_, ?_⟩
  · rcases List.mem_or_eq_of_mem_set hy with hy | rfl
    · exact h.1 y hy
    · rw [List.length_set]
      exact h.1 x (List.mem_of_getElem? hx)
  · have h1 := h.2.set (pre.length + i * k + j) (.int .i64 z)
    rw [List.set_append_right _ _ (by omega), show pre.length + i * k + j - pre.length = i * k + j by omega, encR_set k xs h.1 i j x z hx hj] at h1
    exact h1
theorem setRow_kq (T : List Nat) (w : World) (b : Nat) (ds : Array Value) (hb : b ∈ T) : Kq T w (w.setRow b ds) := ⟨rfl, rfl, rfl, by rw [size_setRow]; exact Nat.le_refl _, fun q hq hn => setRow_other _ _ _ _ (fun e => hn (by rw [e]; exact hb))⟩
theorem zeroCells_recs (k n : Nat) : (Builtin.zeroCells (encI (List.replicate k 0)).toArray n).toList = encR (List.replicate n (List.replicate k 0)) := by
  have hl : (encI (List.replicate k (0 : Int))) = List.replicate k (.int .i64 0) := by unfold encI; rw [List.map_replicate]
  have hr : encR (List.replicate n (List.replicate k (0 : Int))) = List.replicate (n * k) (.int .i64 0) := by
    unfold encR
    rw [List.map_replicate, hl, List.flatten_replicate_replicate]
  rw [hr, hl]
  unfold Builtin.zeroCells
  apply List.ext_getElem
  · simp
  · intro i h1 h2
    have hk : 0 < k := by
      rcases Nat.eq_zero_or_pos k with h | h
      · subst h; simp at h2
      · exact h
    simp [Nat.mod_lt i hk]
variable {P : Program}
/-- the builtin clear over some of them -/
theorem run_clear_recs (h : RecB w b t pre k xs) (ho : pre.length = o) (st e ty : TypeId) (z : Value) (ht : P.underlying st = some (.slice e)) (hv : ∀ w, (zeroValue e).run P w = .ok z w) (hz : z.cells = (encI (List.replicate k 0)).toArray) (i n c : Nat) (hn : i + n ≤ xs.length) (a : Option Addr) (ha : 0 < n → a = some ⟨b, o + i * k, none⟩) :
    ∃ w', (Builtin.clear_ #[st] ty #[.slice a n c]).run P w = .ok (.tuple #[]) w' ∧ RecB w' b t pre k (splice xs i (List.replicate n (List.replicate k 0))) ∧ Kq [b] w w' := by
  cases n with
  | zero =>
    refine ⟨w, ?_, ?_, Kq.refl _ _⟩
    · cases a <;> simp [Builtin.clear_, run_underlying ht]
    · have e0 : splice xs i (List.replicate 0 (List.replicate k (0 : Int))) = xs := by
        unfold splice
        simp
      rw [e0]
      exact h
  | succ m =>
    obtain rfl := ha (Nat.succ_pos m)
    have hfit : (o + i * k) + (encR (List.replicate (m + 1) (List.replicate k (0 : Int)))).length ≤ (pre ++ encR xs).length := by
      rw [encR_len k _ (fun x hx => by rw [List.eq_of_mem_replicate hx, List.length_replicate]), List.length_append, encR_len k xs h.1, ho, List.length_replicate]
      have := Nat.mul_le_mul_right k hn
      rw [Nat.add_mul] at this
      omega
    have hst := run_storeCells_at (P := P) b (o + i * k) t (encR (List.replicate (m + 1) (List.replicate k (0 : Int)))) 0 (pre ++ encR xs).toArray w h.2 (by simpa using hfit) (fun v hv => by
      unfold encR at hv
      obtain ⟨c, hc, hv⟩ := List.mem_flatten.1 hv
      obtain ⟨y, _, rfl⟩ := List.mem_map.1 hc
      exact encI_one y v hv)
    refine ⟨w.setRow b (splice (pre ++ encR xs) (o + i * k) (encR (List.replicate (m + 1) (List.replicate k (0 : Int))))).toArray, ?_, ⟨fun y hy => ?_, ?_⟩, setRow_kq _ _ _ _ (by simp)⟩
    · simp [Builtin.clear_, run_underlying ht, hv, hz, zeroCells_recs, hst, splice]
    · unfold splice at hy
      rcases List.mem_append.1 hy with hy | hy
      · exact h.1 y (List.mem_of_mem_take hy)
      · rcases List.mem_append.1 hy with hy | hy
        · rw [List.eq_of_mem_replicate hy, List.length_replicate]
        · exact h.1 y (List.mem_of_mem_drop hy)
    · rw [splice_behind pre _ _ o _ ho, encR_splice k xs _ h.1 (fun x hx => by rw [List.eq_of_mem_replicate hx, List.length_replicate])]
      exact h.2.row _
theorem run_clear_none (w : World) (st e ty : TypeId) (ht : P.underlying st = some (.slice e)) (a : Option Addr) (c : Nat) : (Builtin.clear_ #[st] ty #[.slice a 0 c]).run P w = .ok (.tuple #[]) w := by
  cases a <;> simp [Builtin.clear_, run_underlying ht]
/-- clear, as a step of a drawn region whose run is known -/
theorem step_clear_run {ops : Array Oper} {oo : Oper} {a : Act} {K : Act → World → Prop} {Q : Exit → Act → World → Prop} {E : Prop} (hgd : oo.guard = none) (x : Operand) (st : TypeId)
    (ho : oo.op = .call { callee := .builtin .clear, args := #[x], argTypes := #[st] }) (v : Value) (hv : a.eval x = v) (v' : Value) (w' : World)
    (hrun : (Builtin.clear_ #[st] oo.type #[v]).run P w = .ok v' w') (h : K (a.put oo.dst v') w') :
    if Region.wanted oo (yielded ops a.tmps) = true then Oper.wp P oo a w K Q else E := by
  have hw : Region.wanted oo (yielded ops a.tmps) = true := by simp [Region.wanted, hgd]
  rw [if_pos hw]
  unfold Oper.wp execOp
  simp only [ho, resolve, invoke, builtin, Sem.run_bind, Sem.run_pure, Result.andThen_ok, List.map_toArray, List.map_cons, List.map_nil, hv, hrun]
  exact h
end
theorem splice_map {α β : Type} (f : α → β) (l ys : List α) (i : Nat) : (splice l i ys).map f = splice (l.map f) i (ys.map f) := by
  unfold splice
  rw [List.map_append, List.map_append, List.map_take, List.map_drop, List.length_map]
theorem kq_grown {T : List Nat} {W w w' : World} {row : Option Nat} (h : Kq T W w) (hg : w.grownBy w' row) (hr : ∀ q, row = some q → W.heap.size ≤ q ∨ q ∈ T) : Kq T W w' :=
  ⟨hg.os.trans h.os, hg.tape.trans h.tape, hg.output.trans h.output, Nat.le_trans h.size hg.size, fun q hq hn => (hg.block q (Nat.lt_of_lt_of_le hq h.size) (fun e => by
    rcases hr q e.symm with h1 | h1
    · omega
    · exact hn h1)).trans (h.block q hq hn)⟩
end Go.Proofs.YteaincdeoajkeaaGreatDoor.Ut
end
