/- The document's Text of an instruction. -/
import Derived.Test.YtfdekfobcohcjaaDoorQl
namespace Go.Proofs.YtfdekfobcohcjaaDoor.As
open Go.RowKit Ut Is Pl
set_option linter.unusedVariables false
set_option maxRecDepth 100000
set_option maxHeartbeats 8000000

section
variable {P : Program} {ops : Array Oper} {Q : Exit → Act → World → Prop} {T : (Nat → Value) → Array Value} {d : List Deferred} {W : World} {n : Nat} {cells vals : List Value} {b : Nat} {fs : List Bool}
/-- a drawn region, one of whose operations (number b) is a call that lays a row at the memory's end, all others read; those of fs are done when the row lies there -/
def RowAt (W w : World) (cells : List Value) : Prop := W.heap.size < w.heap.size ∧ ∀ i u, cells[i]? = some u → w.cell? ⟨W.heap.size, i, none⟩ = some u
theorem RowAt.more {W w w' : World} {cells : List Value} (h : RowAt W w cells) (hb : Below w.heap.size w w') : RowAt W w' cells :=
  ⟨Nat.lt_of_lt_of_le h.1 hb.size, fun i u hu => (hb.cell (p := ⟨W.heap.size, i, none⟩) h.1).trans (h.2 i u hu)⟩
def FxR (W : World) (cells vals : List Value) (fs : List Bool) (j : Nat) (v : Value) (w : World) : Prop := v = nth vals j ∧ (fs.getD j false = true → RowAt W w cells)
def FxW (W : World) (b : Nat) (L : Nat → Bool) (w : World) : Prop := Below W.heap.size W w ∧ (L b = false → w.heap.size = W.heap.size)
def FxFrom (P : Program) (ops : Array Oper) (Q : Exit → Act → World → Prop) (T : (Nat → Value) → Array Value) (d : List Deferred) (W : World) (cells vals : List Value) (fs : List Bool) (b : Nat) (k : Nat) (l : List Oper) : Prop :=
  StepsFrom P ops Q T d (FxR W cells vals fs) (FxW W b) (fun _ w w' => Below w.heap.size w w') k l
theorem fxR_nth {j : Nat} {v u : Value} {w : World} (h : FxR W cells vals fs j v w) (hu : vals[j]? = some u) : v = u := hd_nth' h.1 hu
theorem fxR_row {j : Nat} {v : Value} {w : World} (h : FxR W cells vals fs j v w) (hf : fs.getD j false = true) : RowAt W w cells := h.2 hf
theorem fx_op {k : Nat} {o o' : Oper} {l : List Oper} (s : Nat) (ds : List Nat) (hd : depsOf o = ds) (kb : k ≠ b) (hf : fs.getD k false = true → ∃ j ∈ ds, fs.getD j false = true)
    (h : ∀ (x : Nat → Value) (w : World), Below W.heap.size W w → (∀ j ∈ ds, FxR W cells vals fs j (x j) w) → ∀ K : Act → World → Prop, (∀ tm, tm = T (upd x k (tm.getD s undef)) → tm.getD s undef = nth vals k → K { tmps := tm, defers := d } w) →
      if Region.wanted o (yielded ops (T x)) = true then Oper.wp P o { tmps := T x, defers := d } w K Q else K (Act.put { tmps := T x, defers := d } o.dst undef) w)
    (hs : FxFrom P ops Q T d W cells vals fs b (k + 1) (o' :: l)) : FxFrom P ops Q T d W cells vals fs b k (o :: o' :: l) := by
  refine steps_op ds hd (fun L x w _ _ hw hR K hK => h x w hw.1 hR K fun tm ht hv => ?_) hs
  refine hK _ w tm ht ⟨hv, fun e => ?_⟩ ⟨hw.1, fun e => hw.2 ?_⟩ (Below.refl _ _)
  · obtain ⟨j, hj, e2⟩ := hf e
    exact (hR j hj).2 e2
  · simpa [Ne.symm kb] using e
theorem fx_call {k : Nat} {o o' : Oper} {l : List Oper} (s : Nat) (ds : List Nat) (hd : depsOf o = ds) (kb : k = b)
    (h : ∀ (x : Nat → Value) (w : World), Below W.heap.size W w → w.heap.size = W.heap.size → (∀ j ∈ ds, FxR W cells vals fs j (x j) w) → ∀ K : Act → World → Prop, (∀ tm w', tm = T (upd x k (tm.getD s undef)) → tm.getD s undef = nth vals k → RowAt W w' cells → Below w.heap.size w w' → K { tmps := tm, defers := d } w') →
      if Region.wanted o (yielded ops (T x)) = true then Oper.wp P o { tmps := T x, defers := d } w K Q else K (Act.put { tmps := T x, defers := d } o.dst undef) w)
    (hs : FxFrom P ops Q T d W cells vals fs b (k + 1) (o' :: l)) : FxFrom P ops Q T d W cells vals fs b k (o :: o' :: l) := by
  refine steps_op ds hd (fun L x w hL _ hw hR K hK => h x w hw.1 (hw.2 (kb ▸ hL)) hR K fun tm w' ht hv hr hb => ?_) hs
  exact hK _ w' tm ht ⟨hv, fun _ => hr⟩ ⟨hw.1.trans (hb.mono hw.1.size), fun e => absurd e (by simp [kb])⟩ hb
theorem fx_last {k : Nat} {o : Oper}
    (h : ∀ (x : Nat → Value) (w : World), Below W.heap.size W w → (∀ j, j < k → FxR W cells vals fs j (x j) w) → ∀ K : Act → World → Prop, (∀ a' w', Q .normal a' w' → K a' w') →
      if Region.wanted o (yielded ops (T x)) = true then Oper.wp P o { tmps := T x, defers := d } w K Q else K (Act.put { tmps := T x, defers := d } o.dst undef) w) : FxFrom P ops Q T d W cells vals fs b k [o] :=
  steps_last fun L x w _ _ hw hR K hK => h x w hw.1 hR K hK
theorem wp_region_fx {id : Nat} {act : Act} {w : World} (slots : List Nat) (vals : List Value) (cells : List Value) (fs : List Bool) (b : Nat) (hm : P.follows .mixedOrders = true) (hT : ∀ y, setAll act.tmps slots 0 y = T y) (hok : goodOrder ops = true) (hn : 0 < ops.size)
    (hs : FxFrom P ops Q T act.defers w cells vals fs b 0 ops.toList) : (Code.region id ops true).wp P Q act w := by
  refine wp_region_by hm T (FxR w cells vals fs) (FxW w b) (fun _ v v' => Below v.heap.size v v') hok hn ?_ (fun j => act.tmps.getD (slots.getD j 0) undef) ?_ (fun L _ => ⟨(Below.refl _ _).drew, fun _ => rfl⟩) hs
  · intro i j L v u u' _ _ _ _ hle hR
    exact ⟨hR.1, fun e => (hR.2 e).more hle⟩
  · rw [← hT, setAll_self]
    intro j s hj
    simp [List.getD, hj]
end

def addR (p : Bool) (t S : ByteArray) : ByteArray := if p = true then (S ++ ⟨#[32, 114]⟩) ++ t else S
def addI (p : Bool) (t S : ByteArray) : ByteArray := if p = true then (S ++ ⟨#[32]⟩) ++ t else S
theorem text_adds (n : Nat) (d a b m : Int) : tb (textL n d a b m) = addI (hI n) (tb (Lib.itoa m)) (addR (hB n) (tb (Lib.itoa b)) (addR (hA n) (tb (Lib.itoa a)) (addR (hD n) (tb (Lib.itoa d)) (tb (nameAt n))))) := by
  unfold textL
  rw [parts_eq]
  have l1 : (⟨#[32, 114]⟩ : ByteArray) = tb [32, 114] := rfl
  have l2 : (⟨#[32]⟩ : ByteArray) = tb [32] := rfl
  unfold addI addR
  rw [l1, l2]
  cases hD n <;> cases hA n <;> cases hB n <;> cases hI n
  all_goals
    simp only [if_true, if_false, tb_app2, Bool.false_eq_true]
    congr 1
    simp [partsB, joinB, wordP, fld]
theorem refText_good (n d a b : Nat) (m : Int) (hv : validB n d a b m = true) (w : World) :
    Calls Tryd.prog 8 #[insV n d a b m] w fun e w' => e = .returned (.tuple #[.string (tb (textL n d a b m)), .int .i64 0]) ∧ Below w.heap.size w w' := by
  obtain ⟨⟨hn1, hn2⟩, hd, ha, hbb, hm1, hm2⟩ := valid_bounds hv
  have hn42 : n < 42 := by omega
  have hn43 : (n : Int) < 42 := by omega
  have HB0 := Lib.hid (ins_below n d a b m w)
  have HI0 := Lib.hid (ins_at n d a b m w)
  have HK : Hid (∀ w, Calls Tryd.prog 21 #[insV n d a b m] w fun e w' => e = .returned (.bool true) ∧ Below w.heap.size w w') := Lib.hid fun w => refValid_any n d a b m true hv w
  have hh : ∀ w, Calls Tryd.prog 22 #[.int .i64 n] w fun e w' => e = .returned (.tuple #[.bool (hD n), .bool (hA n), .bool (hB n), .bool (hI n)]) ∧ w = w' := fun w => refHas_any n (by omega) (by omega) w
  have HN := Lib.hid refNames_any
  have HDd := Lib.hid (fun W => digits2_any d (by omega) W)
  have HDa := Lib.hid (fun W => digits2_any a (by omega) W)
  have HDb := Lib.hid (fun W => digits2_any b (by omega) W)
  have HSm := Lib.hid (fun W => refSigned_any m (by omega) (by omega) W)
  have ht := text_adds n d a b m
  rw [itoa_nn, itoa_nn, itoa_nn] at ht
  have hs := shapes n hn42
  have sn : (tb (nameAt n)).size ≤ 5 := by rw [tb_size]; exact (name_good n hn42).2.2.2.1
  have sd : (tb (Lib.decDigits d)).size ≤ 10 := by rw [tb_size]; exact dec_len 9 d (by omega)
  have sa : (tb (Lib.decDigits a)).size ≤ 10 := by rw [tb_size]; exact dec_len 9 a (by omega)
  have sb : (tb (Lib.decDigits b)).size ≤ 10 := by rw [tb_size]; exact dec_len 9 b (by omega)
  have sm : (tb (Lib.itoa m)).size ≤ 10 := by rw [tb_size]; exact Nat.le_trans (itoa_len m (by omega) (by omega)) (by omega)
  have hnc : ∀ (W : World) (g : Nat), (∀ i u, (nameL.map encS)[i]? = some u → W.cell? ⟨g, i, none⟩ = some u) → W.cell? ⟨g, n, none⟩ = some (.string (tb (nameAt n))) := fun W g h => by
    refine h n _ ?_
    have hl : n < nameL.length := by rw [name_len]; exact hn42
    simp [nameAt, List.getD, hl, encS]
  generalize tb (nameAt n) = S0 at ht sn hnc
  generalize tb (Lib.decDigits d) = td at ht sd HDd
  generalize tb (Lib.decDigits a) = ta at ht sa HDa
  generalize tb (Lib.decDigits b) = tB at ht sb HDb
  generalize tb (Lib.itoa m) = tm at ht sm HSm
  generalize hD n = pd at ht hs hh
  generalize hA n = pa at ht hs hh
  generalize hB n = pb at ht hs hh
  generalize hI n = pi at ht hs hh
  generalize tb (textL n d a b m) = TX at ht ⊢
  have HT := Lib.hid ht
  have HS := Lib.hid hs
  have HH := Lib.hid hh
  have HNC := Lib.hid hnc
  have SZ := Lib.hid (show S0.size ≤ 5 ∧ td.size ≤ 10 ∧ ta.size ≤ 10 ∧ tB.size ≤ 10 ∧ tm.size ≤ 10 from ⟨sn, sd, sa, sb, sm⟩)
  clear ht hs hh hnc sn sd sa sb sm hv hd ha hbb hm1 hm2
  go_enter Tryd.func8, Tryd.ntmps8
  go_wp2_with fail
  refine (HK.out _).mono ?_
  rintro e w1 ⟨rfl, hb1⟩
  have hi1 := HI0.out.more hb1
  obtain ⟨c0, c1, c2, c3, c4⟩ := hi1.cells
  have HI1 := Lib.hid hi1
  have hlt1 := hi1.lt
  have HB1 := Lib.hid (HB0.out.trans (hb1.mono HB0.out.size))
  clear hi1 hb1
  go_wp2_with fail
  refine (HH.out _).mono ?_
  rintro e w2 ⟨rfl, rfl⟩
  go_upto_region 4 with fail
  apply wp_region_fx [20, 21, 22, 23, 24] [_, _, _, _, _] (nameL.map encS) [true, false, false, true, false] 0
  case hm => kernel_rfl
  case hT => intro y; simp only [setAll, List.setIfInBounds_toArray, List.set_cons_succ, List.set_cons_zero]; exact rfl
  case hok => kernel_rfl
  case hn => decide
  case hs =>
    refine fx_call 20 [] (by kernel_rfl) rfl (fun y w' HW hz hd K hK => ?_) ?_
    · go_simp
      refine (HN.out _).mono ?_
      rintro e w3 ⟨rfl, hg2, hgc, hb3⟩
      rw [hz] at hg2 hgc ⊢
      refine hK _ _ ?_ ?_ ⟨hg2, hgc⟩ hb3
      · simp [upd]
      · exact rfl
    refine fx_op 21 [] (by kernel_rfl) (by decide) (by decide) (fun y w' HW hd K hK => ?_) ?_
    · go_simp
      refine hK _ ?_ ?_
      · simp [upd]
      · exact rfl
    refine fx_op 22 [1] (by kernel_rfl) (by decide) (by decide) (fun y w' HW hd K hK => ?_) ?_
    · have e1 := fxR_nth (hd 1 (by simp)) rfl
      have hcl : ∀ p : Addr, p.block < w1.heap.size → w'.cell? p = w1.cell? p := fun p hp => HW.cell hp
      go_simp
      refine hK _ ?_ ?_
      · simp [upd, e1]
      · exact rfl
    refine fx_op 23 [0, 2] (by kernel_rfl) (by decide) (fun _ => ⟨0, by simp, rfl⟩) (fun y w' HW hd K hK => ?_) ?_
    · have e2 := fxR_nth (hd 2 (by simp)) rfl
      have e0 := fxR_nth (hd 0 (by simp)) rfl
      go_simp
      refine hK _ ?_ ?_
      · simp [upd, e2, e0]
      · exact rfl
    refine fx_op 24 [3] (by kernel_rfl) (by decide) (by decide) (fun y w' HW hd K hK => ?_) ?_
    · have e3 := fxR_nth (hd 3 (by simp)) rfl
      have hrr := fxR_row (hd 3 (by simp)) rfl
      have hnn := HNC.out w' w1.heap.size hrr.2
      have hrl := hrr.1
      clear hrr
      go_simp
      refine hK _ ?_ ?_
      · simp [upd, e3]
      · exact rfl
    refine fx_last fun y w' HW hd K hK => ?_
    have e0 := fxR_nth (hd 0 (by omega)) rfl
    have e1 := fxR_nth (hd 1 (by omega)) rfl
    have e2 := fxR_nth (hd 2 (by omega)) rfl
    have e3 := fxR_nth (hd 3 (by omega)) rfl
    have e4 := fxR_nth (hd 4 (by omega)) rfl
    go_simp
    refine hK _ _ ?_
    clear hd hK K e0 e1 e2 e3 e4
    have HI2 := Lib.hid (HI1.out.more HW)
    have HB2 := Lib.hid (HB1.out.trans (HW.mono HB1.out.size))
    clear HW
    rcases HS.out with ⟨rfl, rfl, rfl, rfl⟩ | ⟨rfl, rfl, rfl, rfl⟩ | ⟨rfl, rfl, rfl, rfl⟩ | ⟨rfl, rfl, rfl, rfl⟩ | ⟨rfl, rfl, rfl, rfl⟩ | ⟨rfl, rfl, rfl, rfl⟩
    · clear c0 c1 c2 c3 c4
      obtain ⟨sn, sd, sa, sb, sm⟩ := SZ.out
      clear sn sd sa sb sm
      go_wp2
      go_ret2
      exact ⟨by rw [HT.out]; rfl, HB2.out⟩
    · clear c0 c1 c2 c3 c4
      obtain ⟨sn, sd, sa, sb, sm⟩ := SZ.out
      have k0a : ¬ 9223372036854775807 < S0.size + 2 := by omega
      have k0b : ¬ 9223372036854775807 < S0.size + 2 + td.size := by omega
      have k3a : ¬ 9223372036854775807 < S0.size + 2 + td.size + 1 := by omega
      have k3b : ¬ 9223372036854775807 < S0.size + 2 + td.size + 1 + tm.size := by omega
      clear sn sd sa sb sm
      obtain ⟨_, c1_0, c2_0, c3_0, c4_0⟩ := HI2.out.cells
      have hlt2 := HI2.out.lt
      go_wp2_with fail
      refine (HDd.out _).mono ?_
      rintro e v0 ⟨rfl, hb⟩
      have HI3 := Lib.hid (HI2.out.more hb)
      have HB3 := Lib.hid (HB2.out.trans (hb.mono HB2.out.size))
      clear hb c1_0 c2_0 c3_0 c4_0 hlt2
      obtain ⟨_, c1_1, c2_1, c3_1, c4_1⟩ := HI3.out.cells
      have hlt3 := HI3.out.lt
      go_wp2_with fail
      refine (HSm.out _).mono ?_
      rintro e v1 ⟨rfl, hb⟩
      have HI4 := Lib.hid (HI3.out.more hb)
      have HB4 := Lib.hid (HB3.out.trans (hb.mono HB3.out.size))
      clear hb c1_1 c2_1 c3_1 c4_1 hlt3
      go_wp2
      go_ret2
      exact ⟨by rw [HT.out]; rfl, HB4.out⟩
    · clear c0 c1 c2 c3 c4
      obtain ⟨sn, sd, sa, sb, sm⟩ := SZ.out
      have k1a : ¬ 9223372036854775807 < S0.size + 2 := by omega
      have k1b : ¬ 9223372036854775807 < S0.size + 2 + ta.size := by omega
      have k3a : ¬ 9223372036854775807 < S0.size + 2 + ta.size + 1 := by omega
      have k3b : ¬ 9223372036854775807 < S0.size + 2 + ta.size + 1 + tm.size := by omega
      clear sn sd sa sb sm
      obtain ⟨_, c1_0, c2_0, c3_0, c4_0⟩ := HI2.out.cells
      have hlt2 := HI2.out.lt
      go_wp2_with fail
      refine (HDa.out _).mono ?_
      rintro e v0 ⟨rfl, hb⟩
      have HI3 := Lib.hid (HI2.out.more hb)
      have HB3 := Lib.hid (HB2.out.trans (hb.mono HB2.out.size))
      clear hb c1_0 c2_0 c3_0 c4_0 hlt2
      obtain ⟨_, c1_1, c2_1, c3_1, c4_1⟩ := HI3.out.cells
      have hlt3 := HI3.out.lt
      go_wp2_with fail
      refine (HSm.out _).mono ?_
      rintro e v1 ⟨rfl, hb⟩
      have HI4 := Lib.hid (HI3.out.more hb)
      have HB4 := Lib.hid (HB3.out.trans (hb.mono HB3.out.size))
      clear hb c1_1 c2_1 c3_1 c4_1 hlt3
      go_wp2
      go_ret2
      exact ⟨by rw [HT.out]; rfl, HB4.out⟩
    · clear c0 c1 c2 c3 c4
      obtain ⟨sn, sd, sa, sb, sm⟩ := SZ.out
      have k0a : ¬ 9223372036854775807 < S0.size + 2 := by omega
      have k0b : ¬ 9223372036854775807 < S0.size + 2 + td.size := by omega
      have k1a : ¬ 9223372036854775807 < S0.size + 2 + td.size + 2 := by omega
      have k1b : ¬ 9223372036854775807 < S0.size + 2 + td.size + 2 + ta.size := by omega
      have k2a : ¬ 9223372036854775807 < S0.size + 2 + td.size + 2 + ta.size + 2 := by omega
      have k2b : ¬ 9223372036854775807 < S0.size + 2 + td.size + 2 + ta.size + 2 + tB.size := by omega
      clear sn sd sa sb sm
      obtain ⟨_, c1_0, c2_0, c3_0, c4_0⟩ := HI2.out.cells
      have hlt2 := HI2.out.lt
      go_wp2_with fail
      refine (HDd.out _).mono ?_
      rintro e v0 ⟨rfl, hb⟩
      have HI3 := Lib.hid (HI2.out.more hb)
      have HB3 := Lib.hid (HB2.out.trans (hb.mono HB2.out.size))
      clear hb c1_0 c2_0 c3_0 c4_0 hlt2
      obtain ⟨_, c1_1, c2_1, c3_1, c4_1⟩ := HI3.out.cells
      have hlt3 := HI3.out.lt
      go_wp2_with fail
      refine (HDa.out _).mono ?_
      rintro e v1 ⟨rfl, hb⟩
      have HI4 := Lib.hid (HI3.out.more hb)
      have HB4 := Lib.hid (HB3.out.trans (hb.mono HB3.out.size))
      clear hb c1_1 c2_1 c3_1 c4_1 hlt3
      obtain ⟨_, c1_2, c2_2, c3_2, c4_2⟩ := HI4.out.cells
      have hlt4 := HI4.out.lt
      go_wp2_with fail
      refine (HDb.out _).mono ?_
      rintro e v2 ⟨rfl, hb⟩
      have HI5 := Lib.hid (HI4.out.more hb)
      have HB5 := Lib.hid (HB4.out.trans (hb.mono HB4.out.size))
      clear hb c1_2 c2_2 c3_2 c4_2 hlt4
      go_wp2
      go_ret2
      exact ⟨by rw [HT.out]; rfl, HB5.out⟩
    · clear c0 c1 c2 c3 c4
      obtain ⟨sn, sd, sa, sb, sm⟩ := SZ.out
      have k0a : ¬ 9223372036854775807 < S0.size + 2 := by omega
      have k0b : ¬ 9223372036854775807 < S0.size + 2 + td.size := by omega
      have k1a : ¬ 9223372036854775807 < S0.size + 2 + td.size + 2 := by omega
      have k1b : ¬ 9223372036854775807 < S0.size + 2 + td.size + 2 + ta.size := by omega
      have k3a : ¬ 9223372036854775807 < S0.size + 2 + td.size + 2 + ta.size + 1 := by omega
      have k3b : ¬ 9223372036854775807 < S0.size + 2 + td.size + 2 + ta.size + 1 + tm.size := by omega
      clear sn sd sa sb sm
      obtain ⟨_, c1_0, c2_0, c3_0, c4_0⟩ := HI2.out.cells
      have hlt2 := HI2.out.lt
      go_wp2_with fail
      refine (HDd.out _).mono ?_
      rintro e v0 ⟨rfl, hb⟩
      have HI3 := Lib.hid (HI2.out.more hb)
      have HB3 := Lib.hid (HB2.out.trans (hb.mono HB2.out.size))
      clear hb c1_0 c2_0 c3_0 c4_0 hlt2
      obtain ⟨_, c1_1, c2_1, c3_1, c4_1⟩ := HI3.out.cells
      have hlt3 := HI3.out.lt
      go_wp2_with fail
      refine (HDa.out _).mono ?_
      rintro e v1 ⟨rfl, hb⟩
      have HI4 := Lib.hid (HI3.out.more hb)
      have HB4 := Lib.hid (HB3.out.trans (hb.mono HB3.out.size))
      clear hb c1_1 c2_1 c3_1 c4_1 hlt3
      obtain ⟨_, c1_2, c2_2, c3_2, c4_2⟩ := HI4.out.cells
      have hlt4 := HI4.out.lt
      go_wp2_with fail
      refine (HSm.out _).mono ?_
      rintro e v2 ⟨rfl, hb⟩
      have HI5 := Lib.hid (HI4.out.more hb)
      have HB5 := Lib.hid (HB4.out.trans (hb.mono HB4.out.size))
      clear hb c1_2 c2_2 c3_2 c4_2 hlt4
      go_wp2
      go_ret2
      exact ⟨by rw [HT.out]; rfl, HB5.out⟩
    · clear c0 c1 c2 c3 c4
      obtain ⟨sn, sd, sa, sb, sm⟩ := SZ.out
      have k1a : ¬ 9223372036854775807 < S0.size + 2 := by omega
      have k1b : ¬ 9223372036854775807 < S0.size + 2 + ta.size := by omega
      have k2a : ¬ 9223372036854775807 < S0.size + 2 + ta.size + 2 := by omega
      have k2b : ¬ 9223372036854775807 < S0.size + 2 + ta.size + 2 + tB.size := by omega
      have k3a : ¬ 9223372036854775807 < S0.size + 2 + ta.size + 2 + tB.size + 1 := by omega
      have k3b : ¬ 9223372036854775807 < S0.size + 2 + ta.size + 2 + tB.size + 1 + tm.size := by omega
      clear sn sd sa sb sm
      obtain ⟨_, c1_0, c2_0, c3_0, c4_0⟩ := HI2.out.cells
      have hlt2 := HI2.out.lt
      go_wp2_with fail
      refine (HDa.out _).mono ?_
      rintro e v0 ⟨rfl, hb⟩
      have HI3 := Lib.hid (HI2.out.more hb)
      have HB3 := Lib.hid (HB2.out.trans (hb.mono HB2.out.size))
      clear hb c1_0 c2_0 c3_0 c4_0 hlt2
      obtain ⟨_, c1_1, c2_1, c3_1, c4_1⟩ := HI3.out.cells
      have hlt3 := HI3.out.lt
      go_wp2_with fail
      refine (HDb.out _).mono ?_
      rintro e v1 ⟨rfl, hb⟩
      have HI4 := Lib.hid (HI3.out.more hb)
      have HB4 := Lib.hid (HB3.out.trans (hb.mono HB3.out.size))
      clear hb c1_1 c2_1 c3_1 c4_1 hlt3
      obtain ⟨_, c1_2, c2_2, c3_2, c4_2⟩ := HI4.out.cells
      have hlt4 := HI4.out.lt
      go_wp2_with fail
      refine (HSm.out _).mono ?_
      rintro e v2 ⟨rfl, hb⟩
      have HI5 := Lib.hid (HI4.out.more hb)
      have HB5 := Lib.hid (HB4.out.trans (hb.mono HB4.out.size))
      clear hb c1_2 c2_2 c3_2 c4_2 hlt4
      go_wp2
      go_ret2
      exact ⟨by rw [HT.out]; rfl, HB5.out⟩
theorem refText_bad (o d a b m : Int) (hv : validB o d a b m = false) (w : World) :
    Calls Tryd.prog 8 #[insV o d a b m] w fun e w' => e = .returned (.tuple #[.string ⟨#[]⟩, .int .i64 6]) ∧ Below w.heap.size w w' := by
  have hb := Lib.hid (ins_below o d a b m w)
  have HK : Hid (∀ w, Calls Tryd.prog 21 #[insV o d a b m] w fun e w' => e = .returned (.bool false) ∧ Below w.heap.size w w') := Lib.hid fun w => refValid_any o d a b m false hv w
  clear hv
  go_enter Tryd.func8, Tryd.ntmps8
  go_wp2_with fail
  refine (HK.out _).mono ?_
  rintro e w1 ⟨rfl, hb1⟩
  go_wp2
  go_ret2
  exact ⟨rfl, hb.out.trans (hb1.mono hb.out.size)⟩
theorem refText_any (o d a b m : Int) (w : World) :
    Calls Tryd.prog 8 #[insV o d a b m] w fun e w' => e = .returned (.tuple #[.string (txS o d a b m), .int .i64 (txE o d a b m)]) ∧ Below w.heap.size w w' := by
  unfold txS txE
  by_cases hv : validB o d a b m = true
  · obtain ⟨h1, h2, h3, h4, _⟩ := valid_bounds hv
    obtain ⟨n, rfl⟩ : ∃ n : Nat, o = n := ⟨o.toNat, by omega⟩
    obtain ⟨d, rfl⟩ : ∃ n : Nat, d = n := ⟨d.toNat, by omega⟩
    obtain ⟨a, rfl⟩ : ∃ n : Nat, a = n := ⟨a.toNat, by omega⟩
    obtain ⟨b, rfl⟩ : ∃ n : Nat, b = n := ⟨b.toNat, by omega⟩
    rw [if_pos hv, if_pos hv, Int.toNat_natCast]
    exact refText_good n d a b m hv w
  · rw [if_neg hv, if_neg hv]
    exact refText_bad o d a b m (by simpa using hv) w
end Go.Proofs.YtfdekfobcohcjaaDoor.As
