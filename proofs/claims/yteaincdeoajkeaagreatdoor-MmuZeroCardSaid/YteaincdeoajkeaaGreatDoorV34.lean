/- Several texts in one: Ss Jj St Js -/
import Derived.Test.YteaincdeoajkeaaGreatDoorV02
import Derived.Test.YteaincdeoajkeaaGreatDoorV33
import Derived.Test.YteaincdeoajkeaaGreatDoorV26
import Derived.Test.YteaincdeoajkeaaGreatDoorV09
import Derived.Laws.EntriesVeiled
import Derived.Great.Walk
section
/- The bit of worth 2 (RWrite) of a 64-bit integer: taken off, and what is left. Serves all packages. -/
namespace Go.Proofs.YteaincdeoajkeaaGreatDoor.Ut
open Go.RowKit
set_option linter.unusedVariables false

theorem clear_two2 (x : Nat) (hx : x < 18446744073709551616) : x &&& 18446744073709551613 = 4 * (x / 4) + x % 2 := by
 have h1 : (x &&& 18446744073709551613) % 4 = x % 2 := by
  have := Nat.and_mod_two_pow (a := x) (b := 18446744073709551613) (n := 2)
  rw [show (18446744073709551613 : Nat) % 2 ^ 2 = 2 ^ 1 - 1 from rfl, Nat.and_two_pow_sub_one_eq_mod] at this
  omega
 have h2 : (x &&& 18446744073709551613) / 4 = x / 4 := by
  have := Nat.and_div_two_pow (a := x) (b := 18446744073709551613) (n := 2)
  rw [show (18446744073709551613 : Nat) / 2 ^ 2 = 2 ^ 62 - 1 from rfl, Nat.and_two_pow_sub_one_eq_mod] at this
  omega
 omega
theorem and_two162 : ((List.range 16).all fun r => (r &&& 2) == (if r % 4 < 2 then 0 else 2)) = true := by decide +kernel
theorem low_two2 (x : Nat) : x &&& 2 = (if x % 4 < 2 then 0 else 2) := by
 have h1 : x &&& 2 < 2 ^ 4 := Nat.and_lt_two_pow _ (by decide)
 have h2 := Nat.and_mod_two_pow (a := x) (b := 2) (n := 4)
 rw [Nat.mod_eq_of_lt h1] at h2
 have h3 := List.all_eq_true.1 and_two162 (x % 16) (by rw [List.mem_range]; omega)
 rw [beq_iff_eq] at h3
 rw [show x % 16 % 4 = x % 4 by omega] at h3
 rw [h2]
 exact h3
theorem two_toNat2 : (BitVec.ofInt 64 2).toNat = 2 := by decide
theorem and_two2 (n : Int) : bits .and .i64 n 2 = if (n % 18446744073709551616).toNat % 4 < 2 then 0 else 2 := by
 have e1 : bits .and .i64 n 2 = IntKind.i64.wrap (((n % 18446744073709551616).toNat &&& 2 : Nat) : Int) := by
  show IntKind.i64.wrap ((BitVec.ofInt 64 n &&& BitVec.ofInt 64 2).toNat : Nat) = _
  rw [BitVec.toNat_and, BitVec.toNat_ofInt, two_toNat2]
  rfl
 rw [e1, low_two2]
 split <;> simp [IntKind.wrap_i64]
theorem andNot_two2 (n : Int) : bits .andNot .i64 n 2 = IntKind.i64.wrap (((4 * ((n % 18446744073709551616).toNat / 4) + (n % 18446744073709551616).toNat % 2 : Nat)) : Int) := by
 have e2 : bits .andNot .i64 n 2 = IntKind.i64.wrap (((n % 18446744073709551616).toNat &&& 18446744073709551613 : Nat) : Int) := by
  show IntKind.i64.wrap ((BitVec.ofInt 64 n &&& ~~~ BitVec.ofInt 64 2).toNat : Nat) = _
  rw [BitVec.toNat_and, BitVec.toNat_ofInt, BitVec.toNat_not, two_toNat2]
  rfl
 rw [e2, clear_two2 _ (by omega)]
theorem off_two2 (n : Int) : bits .and .i64 (bits .andNot .i64 n 2) 2 = 0 := by
 rw [andNot_two2, and_two2, IntKind.wrap_i64, if_pos]
 generalize (n % 18446744073709551616).toNat = m
 omega
end Go.Proofs.YteaincdeoajkeaaGreatDoor.Ut
end
section
/- Stage 19, plainly: what an act leaves: no table is written by; a key has one translation. -/
namespace Go.Proofs.YteaincdeoajkeaaGreatDoor.Sw
open Go.RowKit Ut
set_option linter.unusedVariables false

/-- no translation to a table has the right to write; each key has one -/
def Prot (l : List Ln) : Prop := ∀ x ∈ l, tabL l x.ep = true → bits .and .i64 x.er 2 = 0
def kyS (x : Ln) : Int × Int := (x.kr, x.kp)
def KeyU (l : List Ln) : Prop := (l.map kyS).Nodup
theorem is_iffS {x : Ln} {p q : Int} : x.is p q = true ↔ kyS x = (p, q) := by
 unfold Ln.is kyS
 simp
theorem not_isS {x : Ln} {p q : Int} : x.is p q = false ↔ kyS x ≠ (p, q) := by
 rw [← Bool.not_eq_true, is_iffS]
theorem tab_iff {l : List Ln} {p : Int} : tabL l p = true ↔ ∃ x ∈ l, x.rt = p ∨ x.lf = p := by
 unfold tabL Ln.by_
 rw [List.any_eq_true]
 simp
theorem tab_mono {l m : List Ln} {p : Int} (h : ∀ x ∈ l, x ∈ m) (ht : tabL l p = true) : tabL m p = true := by
 rw [tab_iff] at ht ⊢
 obtain ⟨x, hx, e⟩ := ht
 exact ⟨x, h x hx, e⟩
theorem prot_left {l : List Ln} (h : Prot l) (F : Ln → Bool) : Prot (l.filter F) := fun x hx ht => h x (List.mem_filter.1 hx).1 (tab_mono (fun y hy => (List.mem_filter.1 hy).1) ht)
theorem keyU_filter {l : List Ln} (h : KeyU l) (F : Ln → Bool) : KeyU (l.filter F) := List.Nodup.sublist (List.filter_sublist.map _) h
theorem add_split (l : List Ln) (x : Ln) (h : l.length ≤ 32) : ∃ ws, addS l x = ws ++ [x] ∧ ws.Sublist (withS l x.kr x.kp) ∧ ws.length = min (withS l x.kr x.kp).length 31 := by
 have hl := withS_len l x.kr x.kp
 unfold addS
 by_cases h2 : 32 < (withS l x.kr x.kp).length + 1
 ·rw [if_pos h2]
  generalize withS l x.kr x.kp = ws at h2 hl
  match ws, h2, hl with
  | w :: ws, h2, hl => exact ⟨ws, rfl, List.sublist_cons_self .., by simp only [List.length_cons] at h2 hl ⊢; omega⟩
 ·rw [if_neg h2]
  exact ⟨_, rfl, List.Sublist.refl _, by omega⟩
theorem out_map {α : Type} (m : List Ln) (r f : Int) (F : Ln → α) (hF : ∀ z, F (clrS z) = F z) : (outS m r f m.length).map F = m.map F := by
 unfold outS
 rw [List.take_length]
 apply List.ext_getElem?
 intro i
 rw [List.getElem?_map, List.getElem?_mapIdx, List.getElem?_map]
 cases m[i]? with
 | none => rfl
 | some z =>
  simp only [Option.map_some]
  congr 1
  split
  ·exact hF z
  ·rfl
theorem out_mem {m : List Ln} {r f : Int} {z : Ln} (h : z ∈ outS m r f m.length) : ∃ (i : Nat) (y : Ln), m[i]? = some y ∧ z = if loseB m r f i y = true then clrS y else y := by
 obtain ⟨i, hi⟩ := List.mem_iff_getElem?.1 h
 unfold outS at hi
 rw [List.take_length, List.getElem?_mapIdx] at hi
 cases hm : m[i]? with
 | none => rw [hm] at hi; simp at hi
 | some y =>
  rw [hm] at hi
  simp only [Option.map_some, Option.some.injEq] at hi
  exact ⟨i, y, hm, hi.symm⟩
theorem tab_out (m : List Ln) (r f p : Int) : tabL (outS m r f m.length) p = tabL m p := by
 have h1 : ∀ l : List Ln, tabL l p = (l.map fun x => x.by_ p).any id := fun l => by unfold tabL; rw [List.any_map]; rfl
 rw [h1, h1, out_map m r f _ (fun z => rfl)]
theorem fill_len (l : List Ln) (x : Ln) (h : l.length ≤ 32) : (fillS l x).length = min (withS l x.kr x.kp).length 31 + 1 := by
 obtain ⟨ws, e, _, hl⟩ := add_split l x h
 unfold fillS
 rw [outS_len, e, List.length_append, List.length_singleton, hl]
 omega
theorem keyU_fill {l : List Ln} (h : KeyU l) (hl : l.length ≤ 32) (x : Ln) : KeyU (fillS l x) := by
 obtain ⟨ws, e, hs, _⟩ := add_split l x hl
 unfold KeyU fillS
 rw [out_map _ _ _ _ (fun z => rfl), e, List.map_append, List.nodup_append]
 refine ⟨List.Nodup.sublist (hs.map _) (keyU_filter h _), by simp, fun a ha b hb hab => ?_⟩
 simp only [List.map_cons, List.map_nil, List.mem_singleton] at hb
 obtain ⟨y, hy, rfl⟩ := List.mem_map.1 ha
 have := (List.mem_filter.1 (hs.subset hy)).2
 rw [Bool.not_eq_true', not_isS] at this
 exact this (hab.trans hb)
theorem prot_fill {l : List Ln} (h : Prot l) (hl : l.length ≤ 32) (x : Ln) : Prot (fillS l x) := by
 obtain ⟨ws, e, hs, _⟩ := add_split l x hl
 intro z hz ht
 unfold fillS at hz ht
 rw [tab_out] at ht
 obtain ⟨i, y, hy, rfl⟩ := out_mem hz
 rcases lose_cases (addS l x) x.rt x.lf i y with ⟨_, c⟩ | ⟨_, _, c⟩ | ⟨c1, c2, c3, c⟩ | ⟨c1, c2, c3, c⟩
 ·rw [if_pos c]; exact off_two2 _
 ·rw [if_pos c]; exact off_two2 _
 ·by_cases c4 : loseB (addS l x) x.rt x.lf i y = true
  ·rw [if_pos c4]; exact off_two2 _
  ·rw [if_neg c4] at ht
   rw [c] at c4
   exact absurd ht c4
 ·have c4 : ¬ loseB (addS l x) x.rt x.lf i y = true := by rw [c]; decide
  rw [if_neg c4] at ht ⊢
  rw [e, List.length_append, List.length_singleton] at c3
  rw [e] at hy ht
  have hi : i < ws.length := by
   have := (List.getElem?_eq_some_iff.1 hy).1
   rw [List.length_append, List.length_singleton] at this
   omega
  rw [List.getElem?_append_left hi] at hy
  have hm : ∀ z ∈ ws, z ∈ l := fun z hz => (List.mem_filter.1 (hs.subset hz)).1
  refine h y (hm y (List.mem_of_getElem? hy)) ?_
  rw [tab_iff] at ht ⊢
  obtain ⟨u, hu, hp⟩ := ht
  rcases List.mem_append.1 hu with hu | hu
  ·exact ⟨u, hm u hu, hp⟩
  ·rw [List.mem_singleton] at hu
   subst hu
   simp only [beq_eq_false_iff_ne, ne_eq] at c1 c2
   rcases hp with hp | hp
   ·exact absurd hp.symm c1
   ·exact absurd hp.symm c2
theorem fill_le (l : List Ln) (x : Ln) (h : l.length ≤ 32) : (fillS l x).length ≤ 32 := by rw [fill_len l x h]; omega
/-- what holds behind any acts -/
structure Inv19 (l : List Ln) : Prop where
 p : Prot l
 u : KeyU l
 n : l.length ≤ 32
theorem Inv19.nil : Inv19 [] := ⟨(fun x hx => by cases hx), (by unfold KeyU; simp), (by simp)⟩
theorem Inv19.filter {l : List Ln} (h : Inv19 l) (F : Ln → Bool) : Inv19 (l.filter F) := ⟨prot_left h.p F, keyU_filter h.u F, Nat.le_trans (List.length_filter_le _ _) h.n⟩
theorem Inv19.fill {l : List Ln} (h : Inv19 l) (x : Ln) : Inv19 (fillS l x) := ⟨prot_fill h.p h.n x, keyU_fill h.u h.n x, fill_le l x h.n⟩
theorem Inv19.act {l : List Ln} (h : Inv19 l) (x : Ak) : Inv19 (actS l x) := by
 unfold actS
 split
 ·exact h.filter _
 split
 ·exact h.filter _
 split
 ·exact Inv19.nil
 split
 ·exact h.fill _
 ·exact h
end Go.Proofs.YteaincdeoajkeaaGreatDoor.Sw
end
section
/- Records of k integers each inside a block, behind other cells: read, written whole, many at once, cleared. Serves all packages. -/
namespace Go.Proofs.YteaincdeoajkeaaGreatDoor.Ut
open Go.RowKit
set_option linter.unusedVariables false

theorem encI_len (x : List Int) : (encI x).length = x.length := by unfold encI; rw [List.length_map]
theorem encR_cons (x : List Int) (xs : List (List Int)) : encR (x :: xs) = encI x ++ encR xs := rfl
theorem encR_len (k : Nat) : ∀ (xs : List (List Int)), (∀ x ∈ xs, x.length = k) → (encR xs).length = xs.length * k
 | [], _ => by simp [encR]
 | x :: xs, h => by
  rw [encR_cons, List.length_append, encI_len, h x (List.mem_cons_self ..), encR_len k xs (fun y hy => h y (List.mem_cons_of_mem _ hy)), List.length_cons, Nat.add_mul]
  omega
/-- a block's cells behind pre are records of k integers -/
def RecB (w : World) (b : Nat) (t : TypeId) (pre : List Value) (k : Nat) (xs : List (List Int)) : Prop := (∀ x ∈ xs, x.length = k) ∧ Blk w b t (pre ++ encR xs)
section
variable {w w' : World} {b o k : Nat} {t : TypeId} {pre : List Value} {xs : List (List Int)}
theorem RecB.lt (h : RecB w b t pre k xs) : b < w.heap.size := h.2.lt
theorem RecB.of_block (h : RecB w b t pre k xs) (e : w'.heap[b]? = w.heap[b]?) : RecB w' b t pre k xs := ⟨h.1, h.2.of_block e⟩
theorem RecB.kq {T : List Nat} (h : RecB w b t pre k xs) (q : Kq T w w') (hb : b ∉ T) : RecB w' b t pre k xs := h.of_block (q.block b h.lt hb)
theorem RecB.more (h : RecB w b t pre k xs) (hb : Below w.heap.size w w') : RecB w' b t pre k xs := h.of_block (hb.block b h.lt)
theorem RecB.get (h : RecB w b t pre k xs) (ho : pre.length = o) {i j : Nat} {x : List Int} {z : Int} (hx : xs[i]? = some x) (hz : x[j]? = some z) : w.cell? ⟨b, o + i * k + j, none⟩ = some (.int .i64 z) := h.2.cell (by
 subst ho
 rw [List.getElem?_append_right (by omega), show pre.length + i * k + j - pre.length = i * k + j by omega]
 exact encR_get k xs h.1 i x j z hx hz)
/-- .. as a slice of them reads -/
theorem RecB.row (h : RecB w b t pre k xs) (ho : pre.length = o) : IRow k w (some ⟨b, o, none⟩) xs := fun i x hx => ⟨_, rfl, h.lt, fun j z hz => by
 have e : (⟨b, o, none⟩ : Addr).add (i * k + j) = ⟨b, o + i * k + j, none⟩ := by unfold Addr.add; split <;> simp_all [Nat.add_assoc]
 rw [e]
 exact h.get ho hx hz⟩
theorem RecB.fits (h : RecB w b t pre k xs) (ho : pre.length = o) (i : Nat) (hi : i < xs.length) : o + i * k + k ≤ (pre ++ encR xs).length := by
 rw [List.length_append, encR_len k xs h.1, ho]
 have := Nat.mul_le_mul_right k (show i + 1 ≤ xs.length by omega)
 rw [Nat.add_mul] at this
 omega
theorem setRow_kq (T : List Nat) (w : World) (b : Nat) (ds : Array Value) (hb : b ∈ T) : Kq T w (w.setRow b ds) := ⟨rfl, rfl, rfl, by rw [size_setRow]; exact Nat.le_refl _, fun q hq hn => setRow_other _ _ _ _ (fun e => hn (by rw [e]; exact hb))⟩
variable {P : Program}
end
theorem kq_grown {T : List Nat} {W w w' : World} {row : Option Nat} (h : Kq T W w) (hg : w.grownBy w' row) (hr : ∀ q, row = some q → W.heap.size ≤ q ∨ q ∈ T) : Kq T W w' :=
 ⟨hg.os.trans h.os, hg.tape.trans h.tape, hg.output.trans h.output, Nat.le_trans h.size hg.size, fun q hq hn => (hg.block q (Nat.lt_of_lt_of_le hq h.size) (fun e => by
  rcases hr q e.symm with h1 | h1
  ·omega
  ·exact hn h1)).trans (h.block q hq hn)⟩
end Go.Proofs.YteaincdeoajkeaaGreatDoor.Ut
end
section
/- Package shadow: translations as they lie in the shadow itself; New, there, own; the closures that say which ones go. -/
namespace Go.Proofs.YteaincdeoajkeaaGreatDoor.Sw
open Go.RowKit Ut
set_option maxRecDepth 100000
set_option linter.unusedVariables false
set_option maxHeartbeats 4000000

def noL : Ln := ⟨0, 0, 0, 0, 0, 0, 0⟩
/-- what lies ahead of the places: made, the number -/
abbrev hd2 (m : Bool) (n : Int) : List Value := [.bool m, .int .i64 n]
/-- the shadow at g: thirty-two places -/
def RS19 (W : World) (g : Nat) (m : Bool) (n : Int) (L : List Ln) : Prop := L.length = 32 ∧ RecB W g 185 (hd2 m n) 7 (L.map Ln.l)
/-- .. of which the first are l -/
def LS19 (W : World) (g : Nat) (m : Bool) (l : List Ln) : Prop := ∃ z : List Ln, RS19 W g m (l.length : Nat) (l ++ z)
section
variable {W W' : World} {g : Nat} {m : Bool} {n : Int} {l L : List Ln}
theorem RS19.lt (h : RS19 W g m n L) : g < W.heap.size := h.2.lt
theorem RS19.kq {T : List Nat} (h : RS19 W g m n L) (k : Kq T W W') (hb : g ∉ T) : RS19 W' g m n L := ⟨h.1, h.2.kq k hb⟩
theorem RS19.more (h : RS19 W g m n L) (hb : Below W.heap.size W W') : RS19 W' g m n L := ⟨h.1, h.2.more hb⟩
theorem RS19.pre (h : RS19 W g m n L) : W.cell? ⟨g, 0, none⟩ = some (.bool m) ∧ W.cell? ⟨g, 1, none⟩ = some (.int .i64 n) := ⟨h.2.2.cell rfl, h.2.2.cell rfl⟩
/-- a place's cells as the walk spells them, the shadow asked -/
theorem RS19.cells (h : RS19 W g m n L) {i : Nat} {x : Ln} (hx : L[i]? = some x) : W.cell? ⟨g, 2 + i * 7, none⟩ = some (.int .i64 x.kr) ∧ W.cell? ⟨g, 2 + i * 7 + 1, none⟩ = some (.int .i64 x.kp) ∧ W.cell? ⟨g, 2 + i * 7 + 2, none⟩ = some (.int .i64 x.ep) ∧ W.cell? ⟨g, 2 + i * 7 + 3, none⟩ = some (.int .i64 x.ef) ∧ W.cell? ⟨g, 2 + i * 7 + 4, none⟩ = some (.int .i64 x.er) ∧ W.cell? ⟨g, 2 + i * 7 + 5, none⟩ = some (.int .i64 x.rt) ∧ W.cell? ⟨g, 2 + i * 7 + 6, none⟩ = some (.int .i64 x.lf) := by
 have hl : (L.map Ln.l)[i]? = some x.l := by rw [List.getElem?_map, hx]; rfl
 exact ⟨h.2.get rfl (j := 0) hl rfl, h.2.get rfl (j := 1) hl rfl, h.2.get rfl (j := 2) hl rfl, h.2.get rfl (j := 3) hl rfl, h.2.get rfl (j := 4) hl rfl, h.2.get rfl (j := 5) hl rfl, h.2.get rfl (j := 6) hl rfl⟩
theorem LS19.lt (h : LS19 W g m l) : g < W.heap.size := h.elim fun _ h => h.lt
theorem LS19.kq {T : List Nat} (h : LS19 W g m l) (k : Kq T W W') (hb : g ∉ T) : LS19 W' g m l := h.elim fun z h => ⟨z, h.kq k hb⟩
theorem LS19.more (h : LS19 W g m l) (hb : Below W.heap.size W W') : LS19 W' g m l := h.elim fun z h => ⟨z, h.more hb⟩
theorem LS19.len (h : LS19 W g m l) : l.length ≤ 32 := h.elim fun z h => by have := h.1; rw [List.length_append] at this; omega
theorem LS19.pre (h : LS19 W g m l) : W.cell? ⟨g, 0, none⟩ = some (.bool m) ∧ W.cell? ⟨g, 1, none⟩ = some (.int .i64 (l.length : Nat)) := h.elim fun _ h => h.pre
theorem LS19.row (h : LS19 W g m l) : LnRow W (some ⟨g, 2, none⟩) l := h.elim fun z h => fun i x hx => by
 have hr := h.2.row (o := 2) rfl
 refine hr i x ?_
 rw [List.map_append, List.getElem?_append_left (List.getElem?_eq_some_iff.1 hx).1]
 exact hx
end

/-- what a new one's cells are -/
def newS (m : Bool) : List Value := hd2 m 0 ++ encR ((List.replicate 32 noL).map Ln.l)
section
variable {W W' : World} {g : Nat} {m : Bool} {l : List Ln}
theorem there_any (h : LS19 W g m l) : Calls Tryz.prog 87 #[.pointer (some ⟨g, 0, none⟩)] W fun e w' => e = .returned (.slice (some ⟨g, 2, none⟩) l.length 32) ∧ Below W.heap.size W w' := by
 obtain ⟨n, hn⟩ : ∃ n : Nat, l.length = n := ⟨_, rfl⟩
 have c1 := h.pre.2
 have hlt := h.lt
 have h32 := h.len
 rw [hn] at c1 h32 ⊢
 have b0 : (0 : Int) ≤ (n : Int) := by omega
 have b1 : (n : Int) ≤ 32 := by omega
 have HB := Lib.hid (Below.refl W.heap.size W)
 clear h hn
 go_enter Tryz.func87, Tryz.ntmps87
 go_upto_region 3 with fail
 go_quiet (fail)
 go_wp2
 go_ret
 exact ⟨rfl, drewN_below HB.out _⟩
end

end Go.Proofs.YteaincdeoajkeaaGreatDoor.Sw
end
