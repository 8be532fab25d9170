/- Several texts in one: Yi Yj -/
import Derived.Test.YtoafonbplbblpaaZ16
import Derived.RangeFuncNested
import Derived.RangeFuncBound
import Derived.RangeFuncCalls
import Derived.RangeFuncLeaves
import Derived.Shelf.Abstract
import Derived.Shelf.RegionOpen
import Derived.WalkKit
import Derived.OwnWalkIn
import Derived.TacticsInMore
import Derived.LoopNIn
import Derived.LoopIn
section
/- Package view: parts and the function that it makes; Own of the program. -/
namespace Go.Proofs.Ytoafonbplbblpaa.Vw
open Go.RowKit Go.Shelf Ut Oc
set_option maxRecDepth 100000
set_option linter.unusedVariables false
set_option maxHeartbeats 4000000
attribute [local go_sem] Oper.semAt_some

theorem parts_any (a K : Int) (w : World) :
    Calls Try.prog 41 #[.int .i64 a, .int .i64 K] w fun e w' => e = .returned (.func (.func 62) #[] #[.pointer (some ⟨w.heap.size + 1, 0, none⟩), .pointer (some ⟨w.heap.size, 0, none⟩)]) ∧ w' = (w.alloc (.cells #[.int .i64 a] 3)).alloc (.cells #[.int .i64 K] 3) := by
  go_enter Try.func41, Try.ntmps41
  go_wp2
  go_ret
  exact ⟨rfl, rfl⟩

/-- what is no row of bytes -/
def NoB (o : Obj) : Prop := ∀ cs fr, o ≠ .cells cs 5 fr
theorem noB_cells {cs : Array Value} {t : TypeId} {fr : Nat × Nat} (h : t ≠ 5) : NoB (.cells cs t fr) := fun cs' fr' e => by injection e with _ e2 _; exact h e2
theorem noB_other {o : Obj} (h : o.isCells = false) : NoB o := fun cs fr e => by rw [e] at h; cases h
/-- all blocks but those of T, and rows of bytes, stay as they are -/
def Kz (T : List Nat) (X Y : World) : Prop := X.heap.size ≤ Y.heap.size ∧ ∀ q o, X.heap[q]? = some o → q ∉ T → NoB o → Y.heap[q]? = some o
theorem Kz.of_kq {T : List Nat} {X Y : World} (h : Kq T X Y) : Kz T X Y := ⟨h.size, fun q o h1 h3 _ => (h.block q (Array.getElem?_eq_some_iff.1 h1).1 h3).trans h1⟩
theorem Kz.trans {T : List Nat} {X Y Z : World} (h : Kz T X Y) (k : Kz T Y Z) : Kz T X Z := ⟨Nat.le_trans h.1 k.1, fun q o h1 h2 h3 => k.2 q o (h.2 q o h1 h2 h3) h2 h3⟩
/-- .. of blocks of cells alone -/
def Kc (T : List Nat) (X Y : World) : Prop := X.heap.size ≤ Y.heap.size ∧ ∀ q o, X.heap[q]? = some o → o.isCells = true → q ∉ T → NoB o → Y.heap[q]? = some o
theorem Kc.refl (T : List Nat) (X : World) : Kc T X X := ⟨Nat.le_refl _, fun q o h _ _ _ => h⟩
theorem Kc.trans {T : List Nat} {X Y Z : World} (h : Kc T X Y) (k : Kc T Y Z) : Kc T X Z := ⟨Nat.le_trans h.1 k.1, fun q o h1 h2 h3 h4 => k.2 q o (h.2 q o h1 h2 h3 h4) h2 h3 h4⟩
theorem Kc.of_kz {T : List Nat} {X Y : World} (h : Kz T X Y) : Kc T X Y := ⟨h.1, fun q o h1 _ h3 h4 => h.2 q o h1 h3 h4⟩
theorem Kc.of_below {T : List Nat} {X Y : World} (h : Below X.heap.size X Y) : Kc T X Y := Kc.of_kz (Kz.of_kq (Kq.of_below h))
theorem kc_put {T : List Nat} {w : World} (W : World) (l : Nat) (o o' : Obj) (hl : w.heap.size ≤ l) (h : W.heap[l]? = some o) (hc : o.isCells = false) (_ : o.isWalk = false) : Kc T W (W.putObj l o') := by
  have hg := grownBy_putObj' W l o'
  refine ⟨hg.size, fun q u h1 h2 _ _ => (hg.block q (Array.getElem?_eq_some_iff.1 h1).1 (fun e => ?_)).trans h1⟩
  obtain rfl : q = l := by injection e
  rw [h] at h1
  injection h1 with h1
  rw [h1] at hc
  rw [hc] at h2
  exact absurd h2 (by decide)
theorem boxed_kc {T : List Nat} {X Y : World} {B : Nat} {t : TypeId} {v : Value} (h : Boxed X B t v) (k : Kc T X Y) (hT : B ∉ T) (ht : t ≠ 5) : Boxed Y B t v := k.2 B _ h rfl hT (noB_cells ht)
theorem blk_kc {T : List Nat} {X Y : World} {B : Nat} {t : TypeId} {cs : List Value} (h : Blk X B t cs) (k : Kc T X Y) (hT : B ∉ T) (ht : t ≠ 5) : Blk Y B t cs := k.2 B _ h rfl hT (noB_cells ht)

/-- what a round is handed -/
def encP {a K : Nat} (x : BP a K) : Array Value := #[x.1.v]

theorem parts1_any (l Bn Ba a K : Nat) (T : List Nat) (haK : a + K ≤ 512) (J Jx : List (BP a K) → World → Prop) (W : World) (hJ : AbidesFrom W.heap.size J)
    (hY : ∀ pre x W1, J pre W1 → pre.length < (partsG a K K 0).length → YieldAt Fence.wide 100 Try.prog l (encP x) W1 fun e W' =>
      (e = .returned (.bool true) ∧ J (pre ++ [x]) W' ∧ Kc T W1 W') ∨ (e = .returned (.bool false) ∧ Jx (pre ++ [x]) W'))
    (hT : ∀ q ∈ T, q < W.heap.size ∧ q ≠ Bn ∧ q ≠ Ba) (hBn : Boxed W Bn 3 (.int .i64 K)) (hBa : Boxed W Ba 3 (.int .i64 a)) (h0 : J [] W) :
    CallsIn Fence.wide 101 Try.prog 62 #[.func (.yield l) #[] #[], .pointer (some ⟨Bn, 0, none⟩), .pointer (some ⟨Ba, 0, none⟩)] W fun e W' => (∃ v, e = .returned v) ∧
      ((∃ ys, ys = partsG a K K 0 ∧ J ys W') ∨ (∃ pre, pre <+: partsG a K K 0 ∧ Jx pre W')) := by
  have HY := Lib.hid hY
  have HJ := Lib.hid hJ
  have HAK := Lib.hid haK
  have HBN := Lib.hid hBn
  have HBA := Lib.hid hBa
  have HT := Lib.hid hT
  clear hY hJ hBn hBa haK hT
  refine callsIn_of_wp Try.func62 rfl trivial ?_ rfl
  simp only [Try.ntmps62, List.size_toArray, List.length_cons, List.length_nil, Nat.reduceAdd, Nat.reduceSub, Array.replicate_succ, Array.replicate_zero, List.push_toArray, List.append_toArray, List.nil_append, List.cons_append]
  gi_wp2
  gi_loopw [4] (fun j wr => ∃ (i m : Nat) (pre : List (BP a K)), i ≤ K ∧ j = .int .i64 i ∧ Hid (K ≤ i + m) ∧ Hid (partsG a K K 0 = pre ++ partsG a K m i) ∧ J pre wr ∧ Hid (Kc T W wr)) (fun j _ => K - (intOf j).toNat)
  case atStart => exact ⟨0, K, [], Nat.zero_le _, rfl, by show Hid _; exact Lib.hid (by omega), Lib.hid rfl, h0, Lib.hid (Kc.refl _ _)⟩
  case round =>
    obtain ⟨i, m, pre, hi, rfl, HM, HX, hJs, HK⟩ := hrel
    have bn : Boxed wr Bn 3 (.int .i64 K) := boxed_kc HBN.out HK.out (fun e => (HT.out _ e).2.1 rfl) (by decide)
    have ba : Boxed wr Ba 3 (.int .i64 a) := boxed_kc HBA.out HK.out (fun e => (HT.out _ e).2.2 rfl) (by decide)
    have cn := bn.cell
    by_cases hlt : i < K
    · have ca := ba.cell
      have ln := bn.lt
      have la := ba.lt
      obtain ⟨m', rfl⟩ : ∃ m', m = m' + 1 := ⟨m - 1, by have := HM.out; omega⟩
      have hx := HX.out
      rw [partsG_cons hlt] at hx
      have hnb := nxt_bd (a := a) hlt
      have hfine := partAt_fine (a := a) hlt
      have HI := Lib.hid hi
      have f1 : (i : Int) < (K : Int) := by omega
      obtain ⟨P, hP⟩ : ∃ P, (a + i) / 64 = P := ⟨_, rfl⟩
      obtain ⟨O, hO⟩ : ∃ O, (a + i) % 64 = O := ⟨_, rfl⟩
      obtain ⟨Q, hQ⟩ : ∃ Q, nxt a K i = Q := ⟨_, rfl⟩
      have e1 : ((a : Int) + (i : Int)) / 64 = (P : Int) := by omega
      have e2 : ((a : Int) + (i : Int)) % 64 = (O : Int) := by omega
      have eq : Q = min (64 - O) (K - i) := by rw [← hQ, ← hO]; rfl
      have ho : O < 64 := by omega
      have hs0 : (0 : Int) ≤ (a : Int) + (i : Int) := by omega
      have hs1 : (a : Int) + (i : Int) ≤ 512 := by have := HAK.out; omega
      have hk5 : (K : Int) ≤ 512 := by have := HAK.out; omega
      have hpa : partAt a K i = ⟨P, O, Q, i⟩ := by unfold partAt; rw [hP, hO, hQ]
      obtain ⟨x, hxd⟩ : ∃ x : BP a K, x = ⟨partAt a K i, hfine⟩ := ⟨_, rfl⟩
      have hxv : x.1 = ⟨P, O, Q, i⟩ := by rw [hxd]; exact hpa
      rw [← hxd, hQ] at hx
      have HX2 : Hid (partsG a K K 0 = (pre ++ [x]) ++ partsG a K m' (i + Q)) := Lib.hid (by rw [hx]; simp)
      have HLEN : Hid (pre.length < (partsG a K K 0).length) := Lib.hid (by rw [hx]; simp)
      have HM2 : Hid (K ≤ (i + Q) + m') := Lib.hid (by have := HM.out; rw [← hQ]; omega)
      have hiq : i + Q ≤ K := by omega
      have hiq2 : 0 < Q := by omega
      have hB1 : Below wr.heap.size wr (wr.alloc (.cells #[.int .i64 P, .int .i64 O, .int .i64 Q, .int .i64 i] 102)) := (Below.refl wr.heap.size wr).alloc (Nat.le_refl _) _
      have HB1 := Lib.hid hB1
      have HNB : Hid (Blk (wr.alloc (.cells #[.int .i64 P, .int .i64 O, .int .i64 Q, .int .i64 i] 102)) wr.heap.size 102 [.int .i64 P, .int .i64 O, .int .i64 Q, .int .i64 i]) := Lib.hid (Blk.new wr _ _)
      have HNT : Hid (wr.heap.size ∉ T) := Lib.hid fun e => by have := (HT.out _ e).1; have := HK.out.1; omega
      have hJ1 : J pre (wr.alloc (.cells #[.int .i64 P, .int .i64 O, .int .i64 Q, .int .i64 i] 102)) := HJ.out _ _ _ none hJs ⟨hB1.os, hB1.tape, hB1.output, hB1.size, fun k hk _ => hB1.block k hk⟩ (fun r e => by cases e)
      obtain ⟨fn, tmps, assign, body, hy, hR⟩ := HY.out pre x _ hJ1 HLEN.out
      rw [show encP x = #[.agg #[.int .i64 P, .int .i64 O, .int .i64 Q, .int .i64 i]] by unfold encP Part.v; rw [hxv]] at hy
      clear hJ1 hJs hxv hxd hpa hP hO hQ hx hnb hfine hB1 HM HX HLEN HY hi hlt
      rcases Nat.lt_or_ge (K - i) (64 - O) with hc | hc
      · have e3 : (K : Int) - (i : Int) = (Q : Int) := by omega
        have e4 : min ((64 : Int) - (O : Int)) (Q : Int) = (Q : Int) := by omega
        clear hc eq
        gi_wp2
        refine hR.mono ?_
        rintro e W3 (⟨rfl, hJ3, hk3⟩ | ⟨rfl, hJx3⟩)
        · have hp2 : W3.cell? ⟨wr.heap.size, 2, none⟩ = some (.int .i64 Q) := (blk_kc HNB.out hk3 HNT.out (by decide)).cell rfl
          have HK3 := Lib.hid (HK.out.trans ((Kc.of_below HB1.out).trans hk3))
          clear hk3
          gi_wp2
          go_roundw
          case rel => exact ⟨i + Q, m', pre ++ [x], hiq, by go_num, HM2, HX2, hJ3, HK3⟩
          case measure => simp [intOf]; omega
        · gi_wp2
          refine bodyPost_ret (results_none rfl _ _ _) rfl ?_
          exact ⟨⟨_, rfl⟩, .inr ⟨pre ++ [x], ⟨_, HX2.out.symm⟩, hJx3⟩⟩
      · have e3 : (64 : Int) - (O : Int) = (Q : Int) := by omega
        have e4 : min (Q : Int) ((K : Int) - (i : Int)) = (Q : Int) := by omega
        clear hc eq
        gi_wp2
        refine hR.mono ?_
        rintro e W3 (⟨rfl, hJ3, hk3⟩ | ⟨rfl, hJx3⟩)
        · have hp2 : W3.cell? ⟨wr.heap.size, 2, none⟩ = some (.int .i64 Q) := (blk_kc HNB.out hk3 HNT.out (by decide)).cell rfl
          have HK3 := Lib.hid (HK.out.trans ((Kc.of_below HB1.out).trans hk3))
          clear hk3
          gi_wp2
          go_roundw
          case rel => exact ⟨i + Q, m', pre ++ [x], hiq, by go_num, HM2, HX2, hJ3, HK3⟩
          case measure => simp [intOf]; omega
        · gi_wp2
          refine bodyPost_ret (results_none rfl _ _ _) rfl ?_
          exact ⟨⟨_, rfl⟩, .inr ⟨pre ++ [x], ⟨_, HX2.out.symm⟩, hJx3⟩⟩
    · obtain rfl : i = K := by omega
      have hx := HX.out
      rw [partsG_nil (Nat.le_refl _), List.append_nil] at hx
      have HX2 := Lib.hid hx
      clear hx HX
      gi_wp2
      go_end0
      exact ⟨⟨_, rfl⟩, .inl ⟨_, rfl, by rw [HX2.out]; exact hJs⟩⟩
end Go.Proofs.Ytoafonbplbblpaa.Vw
end
section
/- Package view: Own of the program: a loop over the parts of a range. -/
namespace Go.Proofs.Ytoafonbplbblpaa.Vw
open Go.RowKit Go.Shelf Ut Oc
set_option maxRecDepth 100000
set_option linter.unusedVariables false
set_option maxHeartbeats 4000000
attribute [local go_sem] Oper.semAt_some

theorem parts_stops (Bn Ba a K : Nat) (T : List Nat) (w : World) (haK : a + K ≤ 512) (hT : ∀ q ∈ T, q < w.heap.size ∧ q ≠ Bn ∧ q ≠ Ba) (hBn : Boxed w Bn 3 (.int .i64 K)) (hBa : Boxed w Ba 3 (.int .i64 a)) :
    SeqStopsK Fence.wide 101 Try.prog 62 #[.pointer (some ⟨Bn, 0, none⟩), .pointer (some ⟨Ba, 0, none⟩)] encP (Kc T) (fun ys => ys = partsG a K K 0) (fun pre => pre <+: partsG a K K 0) (partsG a K K 0).length w := fun l J Jx W hW hJ _ hY h0 =>
  parts1_any l Bn Ba a K T haK J Jx W hJ hY (fun q hq => ⟨Nat.lt_of_lt_of_le (hT q hq).1 hW.size, (hT q hq).2⟩) ((hW.block Bn hBn.lt).trans hBn) ((hW.block Ba hBa.lt).trans hBa) h0

theorem keepsFrom_kq {T : List Nat} {B : Nat} {X Y : World} (h : Kq T X Y) (hT : ∀ q ∈ T, q < B) : KeepsFrom B X Y :=
  ⟨h.size, fun k o hk ho _ => (h.block k (Array.getElem?_eq_some_iff.1 ho).1 (fun e => by have := hT k e; omega)).trans ho⟩
theorem keepsFrom_kz {T : List Nat} {B : Nat} {X Y : World} (h : Kz T X Y) (hT : ∀ q ∈ T, q < B) : KeepsFrom B X Y :=
  ⟨h.1, fun k o hk ho hc => h.2 k o ho (fun e => by have := hT k e; omega) (noB_other hc)⟩
theorem keepsFrom_below {B : Nat} {X Y : World} (h : Below X.heap.size X Y) : KeepsFrom B X Y := keepsFrom_kq (T := []) (Kq.of_below h) (by simp)
theorem blk_own {β : Type} (B : Nat) (t : TypeId) (f : β → List Value) : Own (fun s W => Blk W B t (f s)) := fun s X Y row hs hg hrow =>
  hs.kept hg (fun e' => by obtain ⟨o, ho, hc⟩ := hrow B e'.symm; rw [show X.heap[B]? = _ from hs] at ho; cases ho; cases hc)

section
variable {b s m n : Nat} {S : List Int} {L : List Gm.Pl} {D : List Bool}
theorem own_un (a : Option Addr) (z k : Int) (w : World) (hM : ∀ W, Below w.heap.size w W → Calls Try.prog 40 #[.pointer a] W fun e w' => e = .returned (.bool false) ∧ W = w') :
    Calls Try.prog 14 #[.pointer a, .int .u32 z, .int .i64 k] w fun e w' => e = .returned (.bool false) ∧ Below w.heap.size w w' := by
  have HM := Lib.hid hM
  have HBB : Hid (∀ o o' : Obj, Below w.heap.size w ((w.alloc o).alloc o')) := Lib.hid fun o o' => ((Below.refl _ _).alloc (Nat.le_refl _) _).alloc (by simp) _
  have HSet : Hid (∀ (W : World) (o : Nat) (v : Value), Below w.heap.size w W → Below w.heap.size w (W.setCell ⟨w.heap.size + 1, o, none⟩ v)) := Lib.hid fun W o v h => h.setCell (p := ⟨w.heap.size + 1, o, none⟩) (by simp) _
  clear hM
  go_enter Try.func14, Try.ntmps14
  go_wp2_with fail
  refine (HM.out _ (HBB.out _ _)).mono ?_
  rintro e w1 ⟨rfl, rfl⟩
  go_wp2
  exact bodyPost_ret (v := .bool false) (by simp [results, Try.results14, go_sem]) rfl ⟨rfl, by first | exact HBB.out _ _ | exact HSet.out _ _ _ (HBB.out _ _)⟩
theorem own_out (z k : Int) (h0 : 0 ≤ z) (h1 : z < 4294967296) (hb : k < 0 ∨ 512 < z ∨ 512 - z < k) (w : World) (hP : PV w b s m n S L D) :
    Calls Try.prog 14 #[.pointer (some ⟨b, 0, none⟩), .int .u32 z, .int .i64 k] w fun e w' => e = .returned (.bool false) ∧ Below w.heap.size w w' := by
  have HM : Hid (∀ W, Below w.heap.size w W → Calls Try.prog 40 #[.pointer (some ⟨b, 0, none⟩)] W fun e w' => e = .returned (.bool true) ∧ W = w') := Lib.hid fun W hW => made_yes b s W (hP.more hW).cell0
  have HBB : Hid (∀ o o' : Obj, Below w.heap.size w ((w.alloc o).alloc o')) := Lib.hid fun o o' => ((Below.refl _ _).alloc (Nat.le_refl _) _).alloc (by simp) _
  have HSet : Hid (∀ (W : World) (o : Nat) (v : Value), Below w.heap.size w W → Below w.heap.size w (W.setCell ⟨w.heap.size + 1, o, none⟩ v)) := Lib.hid fun W o v h => h.setCell (p := ⟨w.heap.size + 1, o, none⟩) (by simp) _
  clear hP
  by_cases c1 : k < 0
  · have d1 : decide (k < 0) = true := by simpa using c1
    clear hb c1
    go_enter Try.func14, Try.ntmps14
    go_wp2_with fail
    refine (HM.out _ (HBB.out _ _)).mono ?_
    rintro e w1 ⟨rfl, rfl⟩
    go_wp2
    exact bodyPost_ret (v := .bool false) (by simp [results, Try.results14, go_sem]) rfl ⟨rfl, by first | exact HBB.out _ _ | exact HSet.out _ _ _ (HBB.out _ _)⟩
  have d1 : decide (k < 0) = false := by simpa using c1
  by_cases c2 : 512 < z
  · have d2 : decide (512 < z) = true := by simpa using c2
    clear hb c1 c2
    go_enter Try.func14, Try.ntmps14
    go_wp2_with fail
    refine (HM.out _ (HBB.out _ _)).mono ?_
    rintro e w1 ⟨rfl, rfl⟩
    go_wp2
    exact bodyPost_ret (v := .bool false) (by simp [results, Try.results14, go_sem]) rfl ⟨rfl, by first | exact HBB.out _ _ | exact HSet.out _ _ _ (HBB.out _ _)⟩
  have d2 : decide (512 < z) = false := by simpa using c2
  have d3 : decide (512 - z < k) = true := by simp; omega
  have hz : z ≤ 512 := by omega
  clear hb c1 c2 h1
  go_enter Try.func14, Try.ntmps14
  go_wp2_with fail
  refine (HM.out _ (HBB.out _ _)).mono ?_
  rintro e w1 ⟨rfl, rfl⟩
  go_wp2
  exact bodyPost_ret (v := .bool false) (by simp [results, Try.results14, go_sem]) rfl ⟨rfl, by first | exact HBB.out _ _ | exact HSet.out _ _ _ (HBB.out _ _)⟩

/-- all pages of the parts are own ones just if all bytes are -/
theorem parts_own (a K : Nat) : (∀ x ∈ partsG a K K 0, okP n (Gm.plN L x.1.page) = true) ↔ ∀ i, i < K → okA n L (a + i) = true := by
  rw [parts_all (fun j => okP n (Gm.plN L j) = true) K 0 (by omega)]
  exact ⟨fun h i hi => h i (Nat.zero_le _) hi, fun h j _ hj => h j hj⟩
theorem plN_page {a K : Nat} (haK : a + K ≤ 512) (x : BP a K) : Gm.atP L (x.1.page : Int) = Gm.plN L x.1.page := Gm.atP_is (by obtain ⟨p, h1, h2, h3, h4⟩ := x; show p.page < 12; omega)

theorem own_in (a K : Nat) (haK : a + K ≤ 512) (t : Bool) (ht : t = true ↔ ∀ i, i < K → okA n L (a + i) = true) (w : World) (hP : PV w b s m n S L D) :
    Calls Try.prog 14 #[.pointer (some ⟨b, 0, none⟩), .int .u32 a, .int .i64 K] w fun e w' => e = .returned (.bool t) ∧ Below w.heap.size w w' := by
  have HM : Hid (∀ W, Below w.heap.size w W → Calls Try.prog 40 #[.pointer (some ⟨b, 0, none⟩)] W fun e w' => e = .returned (.bool true) ∧ W = w') := Lib.hid fun W hW => made_yes b s W (hP.more hW).cell0
  have HPP := Lib.hid hP
  have HT := Lib.hid ht
  rw [← parts_own (n := n) (L := L) a K] at ht
  have HTP := Lib.hid ht
  have HAK := Lib.hid haK
  have d1 : decide ((K : Int) < 0) = false := by simp
  have d2 : decide ((512 : Int) < (a : Int)) = false := by simp; omega
  have d3 : decide ((512 : Int) - (a : Int) < (K : Int)) = false := by simp; omega
  have ha : (a : Int) ≤ 512 := by omega
  have hK : (K : Int) ≤ 512 := by omega
  have HBB : Hid (∀ o o' : Obj, Below w.heap.size w ((w.alloc o).alloc o')) := Lib.hid fun o o' => ((Below.refl _ _).alloc (Nat.le_refl _) _).alloc (by simp) _
  clear hP haK ht
  refine (callsIn_wide (n := 102)).1 ?_
  refine callsIn_of_wp_marks Try.func14 rfl trivial ?_ rfl
  simp only [Try.ntmps14, List.size_toArray, List.length_cons, List.length_nil, Nat.reduceAdd, Nat.reduceSub, Array.replicate_succ, Array.replicate_zero, List.push_toArray, List.append_toArray, List.nil_append, List.cons_append]
  gi_wp2_with (first | (refine ⟨trivial, ?_⟩; gi_at_call 40; refine (callsIn_wide.2 (HM.out _ (HBB.out _ _))).mono ?_; rintro e w' ⟨rfl, rfl⟩) | (refine ⟨trivial, ?_⟩; gi_at_call 41; refine (callsIn_wide.2 (parts_any _ _ _)).mono ?_; rintro e w' ⟨rfl, rfl⟩))
  have bV := (((Boxed.new w 27 (.pointer (some ⟨b, 0, none⟩))).alloc (.cells #[.bool false] 4)).alloc (.cells #[.int .i64 a] 3)).alloc (.cells #[.int .i64 K] 3)
  have bR := ((Boxed.new (w.alloc (.cells #[.pointer (some ⟨b, 0, none⟩)] 27)) 4 (.bool false)).alloc (.cells #[.int .i64 a] 3)).alloc (.cells #[.int .i64 K] 3)
  have bA := (Boxed.new ((w.alloc (.cells #[.pointer (some ⟨b, 0, none⟩)] 27)).alloc (.cells #[.bool false] 4)) 3 (.int .i64 a)).alloc (.cells #[.int .i64 K] 3)
  have bK := Boxed.new (((w.alloc (.cells #[.pointer (some ⟨b, 0, none⟩)] 27)).alloc (.cells #[.bool false] 4)).alloc (.cells #[.int .i64 a] 3)) 3 (.int .i64 K)
  simp only [World.size_alloc] at bR bA bK
  have hB0 : Below w.heap.size w ((((w.alloc (.cells #[.pointer (some ⟨b, 0, none⟩)] 27)).alloc (.cells #[.bool false] 4)).alloc (.cells #[.int .i64 a] 3)).alloc (.cells #[.int .i64 K] 3)) := ((((Below.refl _ w).alloc (Nat.le_refl _) _).alloc (by simp) _).alloc (by simp; omega) _).alloc (by simp; omega) _
  have hsz : ((((w.alloc (.cells #[.pointer (some ⟨b, 0, none⟩)] 27)).alloc (.cells #[.bool false] 4)).alloc (.cells #[.int .i64 a] 3)).alloc (.cells #[.int .i64 K] 3)).heap.size = w.heap.size + 4 := by simp
  obtain ⟨W0, hW0⟩ : ∃ W0, (((w.alloc (.cells #[.pointer (some ⟨b, 0, none⟩)] 27)).alloc (.cells #[.bool false] 4)).alloc (.cells #[.int .i64 a] 3)).alloc (.cells #[.int .i64 K] 3) = W0 := ⟨_, rfl⟩
  rw [hW0] at bV bR bA bK hB0 hsz ⊢
  clear hW0 d1 d2 d3
  refine wpIn_rangeFunc_ownH rfl (by omega) (gf := 62) (lb := #[.pointer (some ⟨w.heap.size + 1 + 1 + 1, 0, none⟩), .pointer (some ⟨w.heap.size + 1 + 1, 0, none⟩)]) rfl trivial (enters_of Try.func62 (by kernel_rfl) rfl)
    (parts_stops (w.heap.size + 1 + 1 + 1) (w.heap.size + 1 + 1) a K [] W0 HAK.out (by simp) bK bA) Kc.trans kc_put (Below.refl _ _) (fun _ => rfl)
    (fun pre W => ((∀ x ∈ pre, okP n (Gm.plN L x.1.page) = true) ∧ Boxed W w.heap.size 27 (.pointer (some ⟨b, 0, none⟩)) ∧ Boxed W (w.heap.size + 1) 4 (.bool false)) ∧ Below w.heap.size w W)
    (fun c pre W => (c = .ret ∧ (∃ x ∈ pre, okP n (Gm.plN L x.1.page) = false) ∧ Boxed W (w.heap.size + 1) 4 (.bool false)) ∧ Below w.heap.size w W)
    (OwnFrom.and (Own.from (fun s X Y row hs hg hr => ⟨hs.1, boxed_own _ _ (fun _ : Unit => _) () X Y row hs.2.1 hg hr, boxed_own _ _ (fun _ : Unit => _) () X Y row hs.2.2 hg hr⟩) _) (ownFrom_below (Nat.le_refl _) (by omega)))
    (fun c => OwnFrom.and (Own.from (fun s X Y row hs hg hr => ⟨hs.1, hs.2.1, boxed_own _ _ (fun _ : Unit => _) () X Y row hs.2.2 hg hr⟩) _) (ownFrom_below (Nat.le_refl _) (by omega)))
    ⟨⟨by simp, bV, bR⟩, hB0⟩
    (fun x a' W => ∃ Bx, w.heap.size + 1 < Bx ∧ Blk W Bx 102 x.1.cs ∧ a' = { tmps := #[.pointer (some ⟨b, 0, none⟩), .int .u32 a, .int .i64 K, .pointer (some ⟨w.heap.size, 0, none⟩), undef, undef, .pointer (some ⟨w.heap.size + 1, 0, none⟩), .pointer (some ⟨Bx, 0, none⟩), undef, undef, .pointer (some ⟨b, 0, none⟩), .bool true, .bool false, .bool false, .int .i64 K, .bool false, .bool false, .bool false, .int .u32 a, .bool false, .bool false, .bool false, .int .i64 K, .int .u32 a, .int .i64 a, .int .i64 (512 - a), .bool false, .bool false, .int .u32 a, .int .i64 a, .int .i64 K, .func (.func 62) #[] #[.pointer (some ⟨w.heap.size + 1 + 1 + 1, 0, none⟩), .pointer (some ⟨w.heap.size + 1 + 1, 0, none⟩)], x.1.v, undef, undef, undef, undef, undef, undef, undef, undef, undef], defers := [] })
    (fun x a' _ X Y row hs hg hr => by obtain ⟨Bx, h1, h2, h3⟩ := hs; exact ⟨Bx, h1, blk_own Bx _ (fun _ : Unit => _) () X Y row h2 hg (fun r e => (hr r e).2), h3⟩)
    ?assign ?body ?done ?stop
  case assign =>
    rintro l pre x W K' ⟨⟨hp, bV1, bR1⟩, hB1⟩ hK
    have hlt := bR1.lt
    dsimp only [encP, Part.v]
    gi_wp2
    exact hK _ _ ((KeepsOthers.alloc _ _).from _) (Kc.of_below ((Below.refl _ W).alloc (Nat.le_refl _) _)) ⟨⟨hp, bV1.alloc _, bR1.alloc _⟩, hB1.alloc hB1.size _⟩ ⟨W.heap.size, by omega, Blk.new W _ _, rfl⟩
  case body =>
    rintro l pre x a' W hl ⟨r, hr⟩ ⟨⟨hp, bV1, bR1⟩, hB1⟩ ⟨Bx, hBx, bX, rfl⟩ hlt
    have cV := bV1.cell
    have x0 : W.cell? ⟨Bx, 0, none⟩ = some (.int .i64 x.1.page) := bX.cell rfl
    have hpg := plN_page (L := L) HAK.out x
    obtain ⟨o, ho⟩ : ∃ o, okP n (Gm.plN L x.1.page) = o := ⟨_, rfl⟩
    have HFR := Lib.hid (fun W hW => frame_any (b := b) (s := s) (m := m) (n := n) (S := S) (L := L) (D := D) (x.1.page : Int) _ o (by rw [hpg]; exact ho) rfl W hW)
    have HP1 := Lib.hid (HPP.out.more hB1)
    have HO := Lib.hid ho
    have HPR := Lib.hid hp
    have bR2 := Lib.hid bR1
    have bV2 := Lib.hid bV1
    have HBW := Lib.hid hB1
    have HHL := Lib.hid hl
    clear hpg ho hp bR1 bV1 hB1 bX hr hlt hl
    generalize frP n (Gm.atP L (x.1.page : Int)) = F at HFR
    cases o
    · gi_wp2_with (refine ⟨trivial, ?_⟩; gi_at_call 42; refine (CallsIn.inRound l (callsIn_wide.2 (HFR.out _ HP1.out))).mono ?_; rintro e w1 ⟨rfl, hb1⟩; have cR : Boxed w1 (w.heap.size + 1) 4 (.bool false) := (hb1.block _ bR2.out.lt).trans bR2.out; have cR1 := cR.cell; have cR2 := cR.frozen)
      exact ⟨(keepsFrom_below hb1).trans ((KeepsOthers.setCell _ _ _).from _), ⟨rfl, ⟨x, by simp, HO.out⟩, cR.set _⟩, (HBW.out.trans (hb1.mono HBW.out.size)).setCell (p := ⟨w.heap.size + 1, 0, none⟩) (by simp) _⟩
    · gi_wp2_with (refine ⟨trivial, ?_⟩; gi_at_call 42; refine (CallsIn.inRound l (callsIn_wide.2 (HFR.out _ HP1.out))).mono ?_; rintro e w1 ⟨rfl, hb1⟩; have cR : Boxed w1 (w.heap.size + 1) 4 (.bool false) := (hb1.block _ bR2.out.lt).trans bR2.out; have cR1 := cR.cell; have cR2 := cR.frozen)
      exact ⟨keepsFrom_below hb1, Kc.of_below hb1, ⟨fun y hy => (List.mem_append.1 hy).elim (HPR.out y) (fun e => by simp at e; subst e; exact HO.out), (hb1.block _ bV2.out.lt).trans bV2.out, cR⟩, HBW.out.trans (hb1.mono HBW.out.size)⟩
  case done =>
    rintro D' zs W hD rfl ⟨⟨hp, bV1, bR1⟩, hB1⟩ hK'
    have cR1 := bR1.cell
    have cR2 := bR1.frozen
    have HTT := Lib.hid (HTP.out.2 hp)
    clear hp
    gi_wp2
    have hK2 := (KeepsOthers.setCell W ⟨w.heap.size + 1, 0, none⟩ (.bool true)).same D' _ hK' rfl
    refine ⟨by simp, .inl ⟨_, _, rfl, run_takeDeferred hK2, ?_⟩⟩
    have hc5 := cell_kept (World.cell?_setCell_same' W ⟨w.heap.size + 1, 0, none⟩ (.bool true) (by rw [cR1]; rfl)) (grownBy_putObj' _ D' (.deferred none)) (fun r e => by cases e; exact ⟨_, hK2, rfl⟩)
    refine ⟨.bool true, ?_, by rw [HTT.out], (hB1.setCell (p := ⟨w.heap.size + 1, 0, none⟩) (by simp) _).trans (belowK_b (w := w) (Nat.le_refl _) _ D' _ _ (by omega) hK2 rfl rfl)⟩
    simp [results, Try.results14, go_sem, hc5]
  case stop =>
    rintro D' c pre W hD hpre ⟨⟨rfl, hex, bR1⟩, hB1⟩ hK'
    have cR1 := bR1.cell
    have HTF : Hid (t = false) := Lib.hid (by
      obtain ⟨x, hx, ho⟩ := hex
      cases t
      · rfl
      · have := HTP.out.1 rfl x (hpre.subset hx)
        rw [ho] at this
        exact absurd this (by decide))
    clear hex
    gi_wp2
    refine ⟨by simp, .inl ⟨_, _, rfl, run_takeDeferred hK', ?_⟩⟩
    have hc5 := cell_kept cR1 (grownBy_putObj' _ D' (.deferred none)) (fun r e => by cases e; exact ⟨_, hK', rfl⟩)
    refine ⟨.bool false, ?_, by rw [HTF.out], hB1.trans (belowK_b (w := w) (Nat.le_refl _) W D' _ _ (by omega) hK' rfl rfl)⟩
    simp [results, Try.results14, go_sem, hc5]
theorem own_any (z k : Int) (t : Bool) (h0 : 0 ≤ z) (h1 : z < 4294967296) (ht : ownB n L z k = t) (w : World) (hP : PV w b s m n S L D) :
    Calls Try.prog 14 #[.pointer (some ⟨b, 0, none⟩), .int .u32 z, .int .i64 k] w fun e w' => e = .returned (.bool t) ∧ Below w.heap.size w w' := by
  rcases own_cases n L z k h0 with ⟨h2, h3⟩ | ⟨a, K, rfl, rfl, h2, h3⟩
  · rw [h2] at ht
    subst ht
    exact own_out z k h0 h1 h3 w hP
  · rw [ht] at h3
    exact own_in a K h2 t h3 w hP
end
end Go.Proofs.Ytoafonbplbblpaa.Vw
end
