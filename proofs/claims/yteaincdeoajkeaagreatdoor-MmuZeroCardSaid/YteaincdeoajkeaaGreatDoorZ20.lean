/- Several texts in one: Ir Jf Yv In -/
import Derived.Test.YteaincdeoajkeaaGreatDoorZ19
import Derived.Test.YteaincdeoajkeaaGreatDoorZ13
import Derived.Test.YteaincdeoajkeaaGreatDoorZ01
import Derived.OpenShut
section
/- hermitagelaw20: awake. -/
namespace Go.Proofs.YteaincdeoajkeaaGreatDoor.Mm
open Go.RowKit Go.Shelf Ut Oc Vw Wa
set_option maxRecDepth 100000
set_option linter.unusedVariables false
set_option maxHeartbeats 4000000

def awZ20 (i : Nat) : Int × Int := if i = 0 then (64, 513) else (128, 771)
theorem aw_loc20 : locF 12 (putS map20 awZ20 (cnt20 2)) map20 true 1 false 5 1 = ((3, 8, 5), 0) := by decide +kernel
theorem awake20_any {PM : PMt} (C : MmuC PM) (w : World) (hG : PM.G w) (hnb : PM.nb ≤ w.heap.size) : Calls Tryz.prog 13 #[] w fun e w' => e = .returned (.bool true) ∧ Below w.heap.size w w' := by
  have hN : Blk (w.alloc (.cells #[.int .u32 64, .int .u32 513, .int .u32 128, .int .u32 771] 101)) w.heap.size 101 [.int .u32 64, .int .u32 513, .int .u32 128, .int .u32 771] := Blk.new _ _ _
  have hB : Below w.heap.size w (w.alloc (.cells #[.int .u32 64, .int .u32 513, .int .u32 128, .int .u32 771] 101)) := (Below.refl _ _).alloc (Nat.le_refl _) _
  have HMK := Lib.hid (made20_any C 2 (by decide) (by decide) (some ⟨w.heap.size, 0, none⟩) 2 2 (w.heap.size + 1) awZ20 (w.alloc (.cells #[.int .u32 64, .int .u32 513, .int .u32 128, .int .u32 771] 101)) (by decide) (fun i hi => by
    rcases (show i = 0 ∨ i = 1 by omega) with rfl | rfl
    · exact ⟨_, rfl, Nat.lt_succ_self _, hN.cell rfl, hN.cell rfl, by decide, by decide, by decide, by decide⟩
    · exact ⟨_, rfl, Nat.lt_succ_self _, hN.cell (j := 2) rfl, hN.cell (j := 3) rfl, by decide, by decide, by decide, by decide⟩) (by simp) (C.gb hG (hB.mono hnb)) (Nat.le_trans hnb hB.size))
  have HB := Lib.hid hB
  have HC := Lib.hid C
  clear hN hB C hG hnb
  go_enter Tryz.func13, Tryz.ntmps13
  go_wp2_with fail
  refine HMK.out.mono ?_
  rintro e w1 ⟨u, b, g, rfl, hmd⟩
  obtain ⟨K, T, tb, rfl, rfl, rfl, hz⟩ := hmd.out
  have HB1 := Lib.hid (HB.out.trans (hz.b.mono HB.out.size))
  have HLO : Hid (∀ y ∈ K.b :: K.s :: T, w.heap.size ≤ y) := Lib.hid fun y hy => by
    have o := hz.o
    have h1 := o.ws
    have h2 := o.sm
    have h3 := o.mB
    have h4 := o.Bq
    have h5 := o.qb
    have h6 := o.bg
    have h7 := HB.out.size
    rcases List.mem_cons.1 hy with rfl | hy
    · omega
    rcases List.mem_cons.1 hy with rfl | hy
    · omega
    · have := (hz.tT y hy).1
      omega
  have HLT : Hid (∀ y ∈ K.b :: K.s :: T, y < w1.heap.size) := Lib.hid fun y hy => by
    have o := hz.o
    have h2 := o.sm
    have h3 := o.mB
    have h4 := o.Bq
    have h5 := o.qb
    have h6 := o.bg
    have hg := hz.glt
    rcases List.mem_cons.1 hy with rfl | hy
    · omega
    rcases List.mem_cons.1 hy with rfl | hy
    · omega
    · exact HC.out.lt hz.pm y hy
  obtain ⟨V1, hV1⟩ : ∃ V1, V1 = w1.alloc (.cells #[.bool true, .int .i64 1, .bool false] 30) := ⟨_, rfl⟩
  have hb1 : Below w1.heap.size w1 V1 := by rw [hV1]; exact (Below.refl _ _).alloc (Nat.le_refl _) _
  have hn1 : Blk V1 w1.heap.size 30 [.bool true, .int .i64 1, .bool false] := by rw [hV1]; exact Blk.new w1 _ _
  have hpm := HC.out.kq hz.pm (X := []) (Kq.of_below hb1) (fun _ _ => by simp) (fun _ hx => absurd hx (by simp))
  have htw := HC.out.twice 1 5 false hpm (by decide) (by decide) (by rw [aw_loc20])
  rw [aw_loc20] at htw
  have HTW := Lib.hid htw
  have HV1 := Lib.hid hV1
  have HN1 := Lib.hid hn1
  have HBV := Lib.hid (HB1.out.trans (hb1.mono HB1.out.size))
  have HS1 := Lib.hid hb1.size
  have HML := Lib.hid (show w1.heap.size < V1.heap.size from hn1.lt)
  clear hz hmd HMK HB hV1 hb1 hn1 hpm htw HC HB1
  dsimp only [hitX, modeV] at HTW
  go_upto_region 5 with fail
  rw [← HV1.out]
  clear HV1
  generalize w1.heap.size = mb at HN1 HML HLT HS1 ⊢
  have m0 := HN1.out.cell (j := 0) rfl
  have m1 := HN1.out.cell (j := 1) rfl
  have m2 := HN1.out.cell (j := 2) rfl
  have ml := HN1.out.lt
  go_wp2_with fail
  refine HTW.out.mono ?_
  rintro e w2 ⟨rfl, hnext, hk2⟩
  have HNX := Lib.hid hnext.out
  have HMN : Hid (mb ∉ K.b :: K.s :: T) := Lib.hid fun hm => by have := HLT.out _ hm; omega
  have HN2 := Lib.hid (HN1.out.kq hk2 HMN.out)
  have HB2 := Lib.hid (HBV.out.trans (hk2.under HLO.out HBV.out.size))
  have HSZ2 := Lib.hid hk2.size
  obtain ⟨V2, hV2⟩ : ∃ V2, V2 = w2.alloc (.cells #[.int .i64 3, .int .i64 8, .int .i64 5, .bool false] 36) := ⟨_, rfl⟩
  have hb2 : Below w2.heap.size w2 V2 := by rw [hV2]; exact (Below.refl _ _).alloc (Nat.le_refl _) _
  have HH2 : Hid (Blk V2 w2.heap.size 36 [.int .i64 3, .int .i64 8, .int .i64 5, .bool false]) := Lib.hid (by rw [hV2]; exact Blk.new w2 _ _)
  have HF2 := Lib.hid (HNX.out V2 hb2)
  have HN3 := Lib.hid (HN2.out.more hb2)
  have HB3 := Lib.hid (HB2.out.trans (hb2.mono HB2.out.size))
  have HV2 := Lib.hid hV2
  clear hnext hk2 HTW HNX hb2 hV2 HN1 HN2 HB2 m0 m1 m2 ml HBV
  go_upto_region 6 with fail
  rw [← HV2.out]
  clear HV2
  have m0 := HN3.out.cell (j := 0) rfl
  have m1 := HN3.out.cell (j := 1) rfl
  have m2 := HN3.out.cell (j := 2) rfl
  have ml := HN3.out.lt
  go_wp2_with fail
  refine HF2.out.mono ?_
  rintro e w3 ⟨rfl, Y, hk3, hY⟩
  have hhn : w2.heap.size ∉ Y := fun hm => by
    rcases hY _ hm with h | ⟨_, h⟩
    · have := HLT.out _ h
      have := HSZ2.out
      have := HS1.out
      omega
    · omega
  have hh3 := HH2.out.kq hk3 hhn
  have HH3 := Lib.hid hh3
  have HB4 := Lib.hid (HB3.out.trans (hk3.under (fun y hy => by
    rcases hY y hy with h | ⟨h, _⟩
    · exact HLO.out y h
    · have := HB3.out.size
      have := HLO.out K.b (by simp)
      have := HLT.out K.b (by simp)
      have := HS1.out
      omega) HB3.out.size))
  clear hk3 hY hhn hh3 HF2 HH2 HB3 m0 m1 m2 ml
  have r0 := HH3.out.cell (j := 0) rfl
  have r3 := HH3.out.cell (j := 3) rfl
  have rl := HH3.out.lt
  have HB5 : Hid (Below w.heap.size w (w3.alloc (.cells #[.int .i64 3, .int .i64 8, .int .i64 5, .bool true] 36))) := Lib.hid (HB4.out.alloc HB4.out.size _)
  generalize w2.heap.size = hb at r0 r3 rl ⊢
  go_wp2
  go_ret
  exact ⟨rfl, HB5.out⟩
end Go.Proofs.YteaincdeoajkeaaGreatDoor.Mm
end
section
/- A struct, or a slice of structs, whose fields are structs again, that came in as an argument: what each of its cells reads as. Serves all packages. -/
namespace Go.Proofs.YteaincdeoajkeaaGreatDoor.Ut
open Go.ChangeShapes Go.WideShapes Go.Deep Go.RowKit
set_option linter.unusedVariables false
/-- the type of cell j of a value of type t: structs are opened, whatever lies in them; what is no struct has one cell -/
def leafAt (P : Program) : Nat → TypeId → Nat → Option TypeId
  | 0, _, _ => none
  | n + 1, t, j => match P.underlying t with
    | some (.struct fs) => match fs.toList.find? fun f => decide (f.offset ≤ j) && decide (j < f.offset + P.cellsOf f.type) && decide (f.offset + P.cellsOf f.type ≤ P.cellsOf t) with
      | some f => leafAt P n f.type (j - f.offset)
      | none => none
    | _ => if j = 0 ∧ P.cellsOf t = 1 then some t else none
section
variable {H : Type} {enc : TypeId × Value → H} {P : Program} {w : World} {base : Nat} {held : Bool} {spare : Nat → Bool}
theorem open_leaf {T : TypeId} : ∀ (n : Nat) {t : TypeId} {j fuel : Nat} {cs : List Value} {x : DataW H × List MemPlace}, DataW.trod enc P w base spare held fuel t cs = some x → cs.length = P.cellsOf t → leafAt P n t j = some T →
    ∃ (v : Value) (m : Nat) (q : DataW H × List MemPlace), cs[j]? = some v ∧ DataW.trod enc P w base spare held m T [v] = some q := by
  intro n
  induction n with
  | zero => intro t j fuel cs x _ _ h; simp [leafAt] at h
  | succ n ih =>
    intro t j fuel cs x h hl hj
    unfold leafAt at hj
    split at hj
    · rename_i fs hs
      split at hj
      · rename_i f hf
        have hp := List.find?_some hf
        simp only [Bool.and_eq_true, decide_eq_true_eq] at hp
        obtain ⟨⟨p1, p2⟩, p3⟩ := hp
        obtain ⟨i, hi, he⟩ := List.getElem_of_mem (List.mem_of_find?_eq_some hf)
        have hfi : fs[i]? = some f := by
          rw [← Array.getElem?_toList, List.getElem?_eq_getElem hi, he]
        obtain ⟨ys, k, _, _, _, hyl, hg⟩ := DataW.trod_struct hs h
        have h1 := hg i f hfi
        have hil : i < ys.length := by rw [hyl]; simpa using hi
        rw [List.getElem?_eq_getElem hil] at h1
        have hlen : ((cs.drop f.offset).take (P.cellsOf f.type)).length = P.cellsOf f.type := by
          rw [List.length_take, List.length_drop]
          omega
        obtain ⟨v, m, q, e1, e2⟩ := ih h1 hlen hj
        refine ⟨v, m, q, ?_, e2⟩
        rw [List.getElem?_take, if_pos (by omega), List.getElem?_drop] at e1
        rw [← e1]
        congr 1
        omega
      · exact absurd hj (by simp)
    · split at hj
      · rename_i h2
        obtain ⟨rfl, h3⟩ := h2
        injection hj with hj
        subst hj
        rw [h3] at hl
        match cs, hl, h with
        | [v], _, h => exact ⟨v, fuel, x, rfl, h⟩
      · exact absurd hj (by simp)
/-- the cells of a struct that came in by value -/
theorem open_flat {r : Reach} {b0 : Nat} {t : TypeId} {fs : Array Field} {v : Value} {d : DataW H} {p : List MemPlace} (n : Nat) (hs : P.underlying t = some (.struct fs)) (hv : Value.okWide P w r b0 t v) (h : DataW.Trod enc P w base spare held t v d p) :
    ∃ cs : List Value, v = .agg cs.toArray ∧ cs.length = P.cellsOf t ∧ ∀ (j : Nat) (T : TypeId), leafAt P n t j = some T → ∃ c m q, cs[j]? = some c ∧ DataW.trod enc P w base spare held m T [c] = some q := by
  obtain ⟨cs, rfl, hsz⟩ := okWide_struct hs hv
  obtain ⟨l⟩ := cs
  have hl : l.length = P.cellsOf t := by simpa using hsz
  obtain ⟨fuel, hf⟩ := h
  exact ⟨l, rfl, hl, fun j T hj => open_leaf n hf hl hj⟩
/-- the cells of the structs of a slice that came in -/
theorem open_flats {t e : TypeId} {fuel : Nat} {c : Value} {x : DataW H × List MemPlace} (n : Nat) (ht : P.underlying t = some (.slice e)) (h : DataW.trod enc P w base (fun _ => true) held fuel t [c] = some x) :
    ∃ (a : Option Addr) (len cap : Nat), c = .slice a len cap ∧ len ≤ cap ∧ ((cap = 0) ∨ ∃ el sp, x.1 = .slice el sp ∧ el.length + sp.length = cap) ∧
      ∀ i, i < len → ∃ y, a = some y ∧ ∀ (j : Nat) (T : TypeId), j < P.cellsOf e → leafAt P n e j = some T → ∃ (v : Value) (m : Nat) (q : DataW H × List MemPlace), w.cell? (y.add (i * P.cellsOf e + j)) = some v ∧ DataW.trod enc P w base (fun _ => true) held m T [v] = some q := by
  rcases Go.Deep.open_slice ht h with ⟨hc, _⟩ | ⟨a, k, cap, m, q, D, Pl, hc, hb, hl, hm, hmm, hx, hi⟩
  · simp only [List.cons.injEq, and_true] at hc
    exact ⟨none, 0, 0, hc, Nat.le_refl _, .inl rfl, fun i hi => absurd hi (by omega)⟩
  · simp only [List.cons.injEq, and_true] at hc
    simp only [if_true] at hmm
    subst hmm
    refine ⟨some a, k, m, hc, hl, .inr ⟨_, _, by rw [hx], by simp; omega⟩, fun i hin => ⟨a, rfl, fun j T hj hT => ?_⟩⟩
    obtain ⟨cs', hcs, ht'⟩ := hi i (by omega)
    obtain ⟨_, hcl, hat⟩ := World.cells?_some hcs
    obtain ⟨v, m', q', e1, e2⟩ := open_leaf n ht' hcl hT
    exact ⟨v, m', q', by rw [← add_of_add, hat j hj, e1], e2⟩
end
end Go.Proofs.YteaincdeoajkeaaGreatDoor.Ut
end
section
/- A slice of structs, a slice of bytes, that came in as an argument: what it reads as. Serves all packages. -/
namespace Go.Proofs.YteaincdeoajkeaaGreatDoor.Ut
open Go.ChangeShapes Go.WideShapes Go.Deep Go.RowKit
section
variable {H : Type} {enc : TypeId × Value → H} {P : Program} {w : World} {base : Nat} {held : Bool}
/-- a slice of structs, each field of one cell, whatever its type -/
theorem open_structs {t e : TypeId} {fs : Array Field} {fuel : Nat} {c : Value} {x : DataW H × List MemPlace} (ht : P.underlying t = some (.slice e)) (he : P.underlying e = some (.struct fs)) (hone : oneCellFields P fs = true) (hC : P.cellsOf e = fs.size)
    (h : DataW.trod enc P w base (fun _ => true) held fuel t [c] = some x) :
    ∃ (a : Option Addr) (n cap : Nat), c = .slice a n cap ∧ n ≤ cap ∧ ((cap = 0) ∨ ∃ el sp, x.1 = .slice el sp ∧ el.length + sp.length = cap) ∧
      ∀ i, i < n → ∃ y, a = some y ∧ ∀ (j : Nat) (f : Field), fs[j]? = some f → ∃ (v : Value) (q : DataW H × List MemPlace) (m : Nat), w.cell? (y.add (i * fs.size + j)) = some v ∧ DataW.trod enc P w base (fun _ => true) held m f.type [v] = some q := by
  rcases Go.Deep.open_slice ht h with ⟨hc, _⟩ | ⟨a, n, cap, m, q, D, Pl, hc, hb, hl, hm, hmm, hx, hi⟩
  · simp only [List.cons.injEq, and_true] at hc
    exact ⟨none, 0, 0, hc, Nat.le_refl _, .inl rfl, fun i hi => absurd hi (by omega)⟩
  · simp only [List.cons.injEq, and_true] at hc
    simp only [if_true] at hmm
    subst hmm
    refine ⟨some a, n, m, hc, hl, .inr ⟨_, _, by rw [hx], by simp; omega⟩, fun i hin => ⟨a, rfl, fun j f hj => ?_⟩⟩
    obtain ⟨cs', hcs, ht'⟩ := hi i (by omega)
    rw [hC] at hcs
    obtain ⟨ys, n', _, _, _, hyl, hf⟩ := DataW.trod_struct he ht'
    obtain ⟨_, hcl, hat⟩ := World.cells?_some hcs
    have hjl : j < fs.size := (Array.getElem?_eq_some_iff.1 hj).1
    obtain ⟨o1, k1⟩ := hone_of hone j _ hj
    have h2 := hf j _ hj
    rw [o1, k1] at h2
    have hd1 : (cs'.drop j).take 1 = [cs'[j]'(by omega)] := by
      rw [List.drop_eq_getElem_cons (by omega)]
      rfl
    rw [hd1] at h2
    have hy : ys[j]? = some (ys[j]'(by omega)) := List.getElem?_eq_getElem (by omega)
    rw [hy] at h2
    exact ⟨_, _, _, by rw [← add_of_add, hat j hjl, List.getElem?_eq_getElem (by omega)], h2⟩
/-- a slice of bytes -/
theorem open_bytes {t e : TypeId} {fuel : Nat} {v : Value} {x : DataW H × List MemPlace} (ht : P.underlying t = some (.slice e)) (he : P.underlying e = some (.int .u8)) (hC : P.cellsOf e = 1) (h : DataW.trod enc P w base (fun _ => true) held fuel t [v] = some x) :
    ∃ (a : Option Addr) (n cap : Nat) (zs : List Int), v = .slice a n cap ∧ n ≤ cap ∧ RowK .u8 w w.heap.size a n zs ∧ ∀ z ∈ zs, 0 ≤ z ∧ z < 256 := by
  rcases Go.Deep.open_slice1 ht hC h with ⟨hc, _⟩ | ⟨a, n, cap, m, q, V, D, Pl, hc, hb, hl, hm, hmm, hx, hi⟩
  · simp only [List.cons.injEq, and_true] at hc
    exact ⟨none, 0, 0, [], hc, Nat.le_refl _, RowK.nil _ _ _ _, by simp⟩
  · simp only [List.cons.injEq, and_true] at hc
    simp only [if_true] at hmm
    have key : ∀ i, i < n → ∃ z : Int, w.cell? (a.add i) = some (.int .u8 z) ∧ 0 ≤ z ∧ z < 256 := fun i h1 => by
      obtain ⟨h2, h3⟩ := hi i (by omega)
      obtain ⟨z, hz, _, hw⟩ := DataW.trod_int he h3
      simp only [List.cons.injEq, and_true] at hz
      rw [hz] at h2
      exact ⟨z, h2, wf_u8 hw⟩
    obtain ⟨Z, hZ⟩ := choose_lt (α := Int) key
    refine ⟨some a, n, cap, (List.range n).map Z, hc, hl, ⟨by simp, fun i h1 => ⟨a, rfl, ?_, ?_⟩⟩, fun z hz => ?_⟩
    · have h2 := cell_lt (hZ i h1).1
      rwa [block_of_add] at h2
    · rw [(hZ i h1).1]
      simp [List.getD, h1]
    · obtain ⟨i, h1, rfl⟩ := List.mem_map.1 hz
      exact (hZ i (List.mem_range.1 h1)).2
end
end Go.Proofs.YteaincdeoajkeaaGreatDoor.Ut
end
section
/- hermitagelaw20: an act, a slice of acts, a slice of words with their places, as arguments. -/
namespace Go.Proofs.YteaincdeoajkeaaGreatDoor.Mm
open Go.ChangeShapes Go.WideShapes Go.Deep Go.RowKit Ut Wa
set_option linter.unusedVariables false
set_option maxRecDepth 100000

/-- an act: its kind, a mode, an address, a width, an access' kind, a number -/
structure Am where
  kd : Int
  on : Bool
  rt : Int
  us : Bool
  va : Int
  wd : Int
  kn : Int
  x : Int
instance : Inhabited Am := ⟨⟨0, false, 0, false, 0, 0, 0, 0⟩⟩
abbrev Am.v (x : Am) : Value := .agg #[.int .i64 x.kd, .bool x.on, .int .i64 x.rt, .bool x.us, .int .u32 x.va, .int .i64 x.wd, .int .i64 x.kn, .int .u32 x.x]
structure AmW (x : Am) : Prop where
  l0 : -9223372036854775808 ≤ x.kd
  u0 : x.kd < 9223372036854775808
  l2 : -9223372036854775808 ≤ x.rt
  u2 : x.rt < 9223372036854775808
  l4 : 0 ≤ x.va
  u4 : x.va < 4294967296
  l5 : -9223372036854775808 ≤ x.wd
  u5 : x.wd < 9223372036854775808
  l6 : -9223372036854775808 ≤ x.kn
  u6 : x.kn < 9223372036854775808
  l7 : 0 ≤ x.x
  u7 : x.x < 4294967296
/-- acts lie at a, below block B -/
def AmRow (w : World) (B : Nat) (a : Option Addr) (n : Nat) (Z : Nat → Am) : Prop := ∀ i, i < n → ∃ y, a = some y ∧ y.block < B ∧ AmW (Z i) ∧ w.cell? (y.add (i * 8)) = some (.int .i64 (Z i).kd) ∧ w.cell? (y.add (i * 8 + 1)) = some (.bool (Z i).on) ∧ w.cell? (y.add (i * 8 + 2)) = some (.int .i64 (Z i).rt) ∧ w.cell? (y.add (i * 8 + 3)) = some (.bool (Z i).us) ∧ w.cell? (y.add (i * 8 + 4)) = some (.int .u32 (Z i).va) ∧ w.cell? (y.add (i * 8 + 5)) = some (.int .i64 (Z i).wd) ∧ w.cell? (y.add (i * 8 + 6)) = some (.int .i64 (Z i).kn) ∧ w.cell? (y.add (i * 8 + 7)) = some (.int .u32 (Z i).x)
theorem AmRow.more {w w' : World} {B : Nat} {a : Option Addr} {n : Nat} {Z : Nat → Am} (h : AmRow w B a n Z) (hb : Below B w w') : AmRow w' B a n Z := fun i hi => by
  obtain ⟨y, e, hy, hw, c0, c1, c2, c3, c4, c5, c6, c7⟩ := h i hi
  have g : ∀ j, w'.cell? (y.add j) = w.cell? (y.add j) := fun j => hb.cell (p := y.add j) (by rw [block_of_add]; exact hy)
  exact ⟨y, e, hy, hw, (g _).trans c0, (g _).trans c1, (g _).trans c2, (g _).trans c3, (g _).trans c4, (g _).trans c5, (g _).trans c6, (g _).trans c7⟩
theorem cells_am : Tryz.prog.cellsOf 33 = 8 := by kernel_rfl
section
variable {H : Type} {enc : TypeId × Value → H} {W : World}
theorem am_acts_arg {a : Option Addr} {len cap : Nat} {d : DataW H} {p : List MemPlace} {ts : List TypeId} {ds : List (DataW H)} {j : Nat} (h : DataW.Trod enc Tryz.prog W 0 (fun _ => true) true 23 (.slice a len cap) d p)
    (hsz : (DataW.weightsEach Tryz.prog ts ds).all (· ≤ reachBytes) = true) (ht : ts[j]? = some 23) (hd : ds[j]? = some d) : ∃ Z : Nat → Am, AmRow W W.heap.size a len Z ∧ len ≤ 9223372036854775807 := by
  obtain ⟨fuel, hf⟩ := h
  have hf2 : DataW.trod enc Tryz.prog W 0 (fun _ => true) true fuel 23 [.slice a len cap] = some (d, p) := hf
  obtain ⟨aa, n, c, hc, hle, hcap, hcell⟩ := open_flats 4 Tryz.underlying23 hf2
  injection hc with e1 e2 e3
  subst e1 e2 e3
  rw [cells_am] at hcell
  have key : ∀ i, i < len → ∃ Z : Am, ∃ y, a = some y ∧ y.block < W.heap.size ∧ AmW Z ∧ W.cell? (y.add (i * 8)) = some (.int .i64 Z.kd) ∧ W.cell? (y.add (i * 8 + 1)) = some (.bool Z.on) ∧ W.cell? (y.add (i * 8 + 2)) = some (.int .i64 Z.rt) ∧ W.cell? (y.add (i * 8 + 3)) = some (.bool Z.us) ∧ W.cell? (y.add (i * 8 + 4)) = some (.int .u32 Z.va) ∧ W.cell? (y.add (i * 8 + 5)) = some (.int .i64 Z.wd) ∧ W.cell? (y.add (i * 8 + 6)) = some (.int .i64 Z.kn) ∧ W.cell? (y.add (i * 8 + 7)) = some (.int .u32 Z.x) := fun i hi => by
    obtain ⟨y, e, hy⟩ := hcell i hi
    obtain ⟨v0, m0, q0, c0, t0⟩ := hy 0 3 (by decide) (by kernel_rfl)
    obtain ⟨v1, m1, q1, c1, t1⟩ := hy 1 4 (by decide) (by kernel_rfl)
    obtain ⟨v2, m2, q2, c2, t2⟩ := hy 2 3 (by decide) (by kernel_rfl)
    obtain ⟨v3, m3, q3, c3, t3⟩ := hy 3 4 (by decide) (by kernel_rfl)
    obtain ⟨v4, m4, q4, c4, t4⟩ := hy 4 31 (by decide) (by kernel_rfl)
    obtain ⟨v5, m5, q5, c5, t5⟩ := hy 5 3 (by decide) (by kernel_rfl)
    obtain ⟨v6, m6, q6, c6, t6⟩ := hy 6 3 (by decide) (by kernel_rfl)
    obtain ⟨v7, m7, q7, c7, t7⟩ := hy 7 31 (by decide) (by kernel_rfl)
    obtain ⟨z0, g0, _, k0⟩ := DataW.trod_int Tryz.underlying3 t0
    obtain ⟨z1, g1, _⟩ := DataW.trod_bool Tryz.underlying4 t1
    obtain ⟨z2, g2, _, k2⟩ := DataW.trod_int Tryz.underlying3 t2
    obtain ⟨z3, g3, _⟩ := DataW.trod_bool Tryz.underlying4 t3
    obtain ⟨z4, g4, _, k4⟩ := DataW.trod_int Tryz.underlying31 t4
    obtain ⟨z5, g5, _, k5⟩ := DataW.trod_int Tryz.underlying3 t5
    obtain ⟨z6, g6, _, k6⟩ := DataW.trod_int Tryz.underlying3 t6
    obtain ⟨z7, g7, _, k7⟩ := DataW.trod_int Tryz.underlying31 t7
    simp only [List.cons.injEq, and_true] at g0 g1 g2 g3 g4 g5 g6 g7
    subst g0 g1 g2 g3 g4 g5 g6 g7
    refine ⟨⟨z0, z1, z2, z3, z4, z5, z6, z7⟩, y, e, ?_, ⟨(Ut.wf_i64 k0).1, (Ut.wf_i64 k0).2, (Ut.wf_i64 k2).1, (Ut.wf_i64 k2).2, (wf_u32 k4).1, (wf_u32 k4).2, (Ut.wf_i64 k5).1, (Ut.wf_i64 k5).2, (Ut.wf_i64 k6).1, (Ut.wf_i64 k6).2, (wf_u32 k7).1, (wf_u32 k7).2⟩, c0, c1, c2, c3, c4, c5, c6, c7⟩
    have := cell_lt c0
    rwa [block_of_add] at this
  obtain ⟨Z, hZ⟩ := choose_lt (α := Am) key
  refine ⟨Z, fun i hi => hZ i hi, ?_⟩
  rcases hcap with h0 | ⟨el, sp, he, hl⟩
  · omega
  · have he2 : d = .slice el sp := he
    rw [he2] at hd
    have h1 := sized_slice hsz ht hd Tryz.underlying23
    rw [show Tryz.prog.bytesOf 33 = 64 by kernel_rfl] at h1
    unfold reachBytes at h1
    omega
theorem am_puts_arg {a : Option Addr} {len cap : Nat} {d : DataW H} {p : List MemPlace} {ts : List TypeId} {ds : List (DataW H)} {j : Nat} (h : DataW.Trod enc Tryz.prog W 0 (fun _ => true) true 22 (.slice a len cap) d p)
    (hsz : (DataW.weightsEach Tryz.prog ts ds).all (· ≤ reachBytes) = true) (ht : ts[j]? = some 22) (hd : ds[j]? = some d) : ∃ Z : Nat → Int × Int, PutRow W W.heap.size a len Z ∧ len ≤ 9223372036854775807 := by
  obtain ⟨fuel, hf⟩ := h
  have hf2 : DataW.trod enc Tryz.prog W 0 (fun _ => true) true fuel 22 [.slice a len cap] = some (d, p) := hf
  obtain ⟨aa, n, c, hc, hle, hcap, hcell⟩ := open_structs Tryz.underlying22 Tryz.underlying101 (by kernel_rfl) (by kernel_rfl) hf2
  injection hc with e1 e2 e3
  subst e1 e2 e3
  have key : ∀ i, i < len → ∃ Z : Int × Int, ∃ y, a = some y ∧ y.block < W.heap.size ∧ W.cell? (y.add (i * 2)) = some (.int .u32 Z.1) ∧ W.cell? (y.add (i * 2 + 1)) = some (.int .u32 Z.2) ∧ 0 ≤ Z.1 ∧ Z.1 < 4294967296 ∧ 0 ≤ Z.2 ∧ Z.2 < 4294967296 := fun i hi => by
    obtain ⟨y, e, hy⟩ := hcell i hi
    obtain ⟨v0, q0, m0, c0, t0⟩ := hy 0 _ rfl
    obtain ⟨v1, q1, m1, c1, t1⟩ := hy 1 _ rfl
    obtain ⟨z0, g0, _, k0⟩ := DataW.trod_int Tryz.underlying31 t0
    obtain ⟨z1, g1, _, k1⟩ := DataW.trod_int Tryz.underlying31 t1
    simp only [List.cons.injEq, and_true] at g0 g1
    subst g0 g1
    refine ⟨(z0, z1), y, e, ?_, c0, c1, (wf_u32 k0).1, (wf_u32 k0).2, (wf_u32 k1).1, (wf_u32 k1).2⟩
    have := cell_lt c0
    rwa [block_of_add] at this
  obtain ⟨Z, hZ⟩ := choose_lt (α := Int × Int) key
  refine ⟨Z, fun i hi => hZ i hi, ?_⟩
  rcases hcap with h0 | ⟨el, sp, he, hl⟩
  · omega
  · have he2 : d = .slice el sp := he
    rw [he2] at hd
    have h1 := sized_slice hsz ht hd Tryz.underlying22
    rw [show Tryz.prog.bytesOf 101 = 8 by kernel_rfl] at h1
    unfold reachBytes at h1
    omega
end
end Go.Proofs.YteaincdeoajkeaaGreatDoor.Mm
end
