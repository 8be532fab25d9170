/- Package view: parts and the function that it makes; Own of the program. -/
import Derived.Test.YtlgohgjnocoadaaYf
import Derived.RangeFuncNested
import Derived.RangeFuncBound
import Derived.RangeFuncCalls
import Derived.RangeFuncLeaves
import Derived.Shelf.Abstract
import Derived.Shelf.RegionOpen
import Derived.WalkKit
import Derived.OwnWalkIn
import Derived.TacticsInMore
import Derived.LoopNIn
import Derived.LoopIn
namespace Go.Proofs.Ytlgohgjnocoadaa.Vw
open Go.RowKit Go.Shelf Ut Oc
set_option maxRecDepth 100000
set_option linter.unusedVariables false
set_option maxHeartbeats 4000000
attribute [local go_sem] Oper.semAt_some

theorem parts_any (a K : Int) (w : World) :
    Calls Try.prog 48 #[.int .i64 a, .int .i64 K] w fun e w' => e = .returned (.func (.func 61) #[] #[.pointer (some ⟨w.heap.size + 1, 0, none⟩), .pointer (some ⟨w.heap.size, 0, none⟩)]) ∧ w' = (w.alloc (.cells #[.int .i64 a] 3)).alloc (.cells #[.int .i64 K] 3) := by
  go_enter Try.func48, Try.ntmps48
  go_wp2
  go_ret
  exact ⟨rfl, rfl⟩

/-- what is no row of bytes -/
def NoB (o : Obj) : Prop := ∀ cs fr, o ≠ .cells cs 5 fr
theorem noB_cells {cs : Array Value} {t : TypeId} {fr : Nat × Nat} (h : t ≠ 5) : NoB (.cells cs t fr) := fun cs' fr' e => by injection e with _ e2 _; exact h e2
theorem noB_other {o : Obj} (h : o.isCells = false) : NoB o := fun cs fr e => by rw [e] at h; cases h
/-- all blocks but those of T, and rows of bytes, stay as they are -/
def Kz (T : List Nat) (X Y : World) : Prop := X.heap.size ≤ Y.heap.size ∧ ∀ q o, X.heap[q]? = some o → q ∉ T → NoB o → Y.heap[q]? = some o
theorem Kz.of_kq {T : List Nat} {X Y : World} (h : Kq T X Y) : Kz T X Y := ⟨h.size, fun q o h1 h3 _ => (h.block q (Array.getElem?_eq_some_iff.1 h1).1 h3).trans h1⟩
theorem Kz.trans {T : List Nat} {X Y Z : World} (h : Kz T X Y) (k : Kz T Y Z) : Kz T X Z := ⟨Nat.le_trans h.1 k.1, fun q o h1 h2 h3 => k.2 q o (h.2 q o h1 h2 h3) h2 h3⟩
/-- .. of blocks of cells alone -/
def Kc (T : List Nat) (X Y : World) : Prop := X.heap.size ≤ Y.heap.size ∧ ∀ q o, X.heap[q]? = some o → o.isCells = true → q ∉ T → NoB o → Y.heap[q]? = some o
theorem Kc.refl (T : List Nat) (X : World) : Kc T X X := ⟨Nat.le_refl _, fun q o h _ _ _ => h⟩
theorem Kc.trans {T : List Nat} {X Y Z : World} (h : Kc T X Y) (k : Kc T Y Z) : Kc T X Z := ⟨Nat.le_trans h.1 k.1, fun q o h1 h2 h3 h4 => k.2 q o (h.2 q o h1 h2 h3 h4) h2 h3 h4⟩
theorem Kc.of_kz {T : List Nat} {X Y : World} (h : Kz T X Y) : Kc T X Y := ⟨h.1, fun q o h1 _ h3 h4 => h.2 q o h1 h3 h4⟩
theorem Kc.of_below {T : List Nat} {X Y : World} (h : Below X.heap.size X Y) : Kc T X Y := Kc.of_kz (Kz.of_kq (Kq.of_below h))
theorem kc_put {T : List Nat} {w : World} (W : World) (l : Nat) (o o' : Obj) (hl : w.heap.size ≤ l) (h : W.heap[l]? = some o) (hc : o.isCells = false) (_ : o.isWalk = false) : Kc T W (W.putObj l o') := by
  have hg := grownBy_putObj' W l o'
  refine ⟨hg.size, fun q u h1 h2 _ _ => (hg.block q (Array.getElem?_eq_some_iff.1 h1).1 (fun e => ?_)).trans h1⟩
  obtain rfl : q = l := by injection e
  rw [h] at h1
  injection h1 with h1
  rw [h1] at hc
  rw [hc] at h2
  exact absurd h2 (by decide)
theorem boxed_kc {T : List Nat} {X Y : World} {B : Nat} {t : TypeId} {v : Value} (h : Boxed X B t v) (k : Kc T X Y) (hT : B ∉ T) (ht : t ≠ 5) : Boxed Y B t v := k.2 B _ h rfl hT (noB_cells ht)
theorem blk_kc {T : List Nat} {X Y : World} {B : Nat} {t : TypeId} {cs : List Value} (h : Blk X B t cs) (k : Kc T X Y) (hT : B ∉ T) (ht : t ≠ 5) : Blk Y B t cs := k.2 B _ h rfl hT (noB_cells ht)

/-- what a round is handed -/
def encP {a K : Nat} (x : BP a K) : Array Value := #[x.1.v]

theorem parts1_any (l Bn Ba a K : Nat) (T : List Nat) (haK : a + K ≤ 512) (J Jx : List (BP a K) → World → Prop) (W : World) (hJ : AbidesFrom W.heap.size J)
    (hY : ∀ pre x W1, J pre W1 → pre.length < (partsG a K K 0).length → YieldAt Fence.wide 100 Try.prog l (encP x) W1 fun e W' =>
      (e = .returned (.bool true) ∧ J (pre ++ [x]) W' ∧ Kc T W1 W') ∨ (e = .returned (.bool false) ∧ Jx (pre ++ [x]) W'))
    (hT : ∀ q ∈ T, q < W.heap.size ∧ q ≠ Bn ∧ q ≠ Ba) (hBn : Boxed W Bn 3 (.int .i64 K)) (hBa : Boxed W Ba 3 (.int .i64 a)) (h0 : J [] W) :
    CallsIn Fence.wide 101 Try.prog 61 #[.func (.yield l) #[] #[], .pointer (some ⟨Bn, 0, none⟩), .pointer (some ⟨Ba, 0, none⟩)] W fun e W' => (∃ v, e = .returned v) ∧
      ((∃ ys, ys = partsG a K K 0 ∧ J ys W') ∨ (∃ pre, pre <+: partsG a K K 0 ∧ Jx pre W')) := by
  have HY := Lib.hid hY
  have HJ := Lib.hid hJ
  have HAK := Lib.hid haK
  have HBN := Lib.hid hBn
  have HBA := Lib.hid hBa
  have HT := Lib.hid hT
  clear hY hJ hBn hBa haK hT
  refine callsIn_of_wp Try.func61 rfl trivial ?_ rfl
  simp only [Try.ntmps61, List.size_toArray, List.length_cons, List.length_nil, Nat.reduceAdd, Nat.reduceSub, Array.replicate_succ, Array.replicate_zero, List.push_toArray, List.append_toArray, List.nil_append, List.cons_append]
  gi_wp2
  gi_loopw [4] (fun j wr => ∃ (i m : Nat) (pre : List (BP a K)), i ≤ K ∧ j = .int .i64 i ∧ Hid (K ≤ i + m) ∧ Hid (partsG a K K 0 = pre ++ partsG a K m i) ∧ J pre wr ∧ Hid (Kc T W wr)) (fun j _ => K - (intOf j).toNat)
  case atStart => exact ⟨0, K, [], Nat.zero_le _, rfl, by show Hid _; exact Lib.hid (by omega), Lib.hid rfl, h0, Lib.hid (Kc.refl _ _)⟩
  case round =>
    obtain ⟨i, m, pre, hi, rfl, HM, HX, hJs, HK⟩ := hrel
    have bn : Boxed wr Bn 3 (.int .i64 K) := boxed_kc HBN.out HK.out (fun e => (HT.out _ e).2.1 rfl) (by decide)
    have ba : Boxed wr Ba 3 (.int .i64 a) := boxed_kc HBA.out HK.out (fun e => (HT.out _ e).2.2 rfl) (by decide)
    have cn := bn.cell
    by_cases hlt : i < K
    · have ca := ba.cell
      have ln := bn.lt
      have la := ba.lt
      obtain ⟨m', rfl⟩ : ∃ m', m = m' + 1 := ⟨m - 1, by have := HM.out; omega⟩
      have hx := HX.out
      rw [partsG_cons hlt] at hx
      have hnb := nxt_bd (a := a) hlt
      have hfine := partAt_fine (a := a) hlt
      have HI := Lib.hid hi
      have f1 : (i : Int) < (K : Int) := by omega
      obtain ⟨P, hP⟩ : ∃ P, (a + i) / 64 = P := ⟨_, rfl⟩
      obtain ⟨O, hO⟩ : ∃ O, (a + i) % 64 = O := ⟨_, rfl⟩
      obtain ⟨Q, hQ⟩ : ∃ Q, nxt a K i = Q := ⟨_, rfl⟩
      have e1 : ((a : Int) + (i : Int)) / 64 = (P : Int) := by omega
      have e2 : ((a : Int) + (i : Int)) % 64 = (O : Int) := by omega
      have eq : Q = min (64 - O) (K - i) := by rw [← hQ, ← hO]; rfl
      have ho : O < 64 := by omega
      have hs0 : (0 : Int) ≤ (a : Int) + (i : Int) := by omega
      have hs1 : (a : Int) + (i : Int) ≤ 512 := by have := HAK.out; omega
      have hk5 : (K : Int) ≤ 512 := by have := HAK.out; omega
      have hpa : partAt a K i = ⟨P, O, Q, i⟩ := by unfold partAt; rw [hP, hO, hQ]
      obtain ⟨x, hxd⟩ : ∃ x : BP a K, x = ⟨partAt a K i, hfine⟩ := ⟨_, rfl⟩
      have hxv : x.1 = ⟨P, O, Q, i⟩ := by rw [hxd]; exact hpa
      rw [← hxd, hQ] at hx
      have HX2 : Hid (partsG a K K 0 = (pre ++ [x]) ++ partsG a K m' (i + Q)) := Lib.hid (by rw [hx]; simp)
      have HLEN : Hid (pre.length < (partsG a K K 0).length) := Lib.hid (by rw [hx]; simp)
      have HM2 : Hid (K ≤ (i + Q) + m') := Lib.hid (by have := HM.out; rw [← hQ]; omega)
      have hiq : i + Q ≤ K := by omega
      have hiq2 : 0 < Q := by omega
      have hB1 : Below wr.heap.size wr (wr.alloc (.cells #[.int .i64 P, .int .i64 O, .int .i64 Q, .int .i64 i] 83)) := (Below.refl wr.heap.size wr).alloc (Nat.le_refl _) _
      have HB1 := Lib.hid hB1
      have HNB : Hid (Blk (wr.alloc (.cells #[.int .i64 P, .int .i64 O, .int .i64 Q, .int .i64 i] 83)) wr.heap.size 83 [.int .i64 P, .int .i64 O, .int .i64 Q, .int .i64 i]) := Lib.hid (Blk.new wr _ _)
      have HNT : Hid (wr.heap.size ∉ T) := Lib.hid fun e => by have := (HT.out _ e).1; have := HK.out.1; omega
      have hJ1 : J pre (wr.alloc (.cells #[.int .i64 P, .int .i64 O, .int .i64 Q, .int .i64 i] 83)) := HJ.out _ _ _ none hJs ⟨hB1.os, hB1.tape, hB1.output, hB1.size, fun k hk _ => hB1.block k hk⟩ (fun r e => by cases e)
      obtain ⟨fn, tmps, assign, body, hy, hR⟩ := HY.out pre x _ hJ1 HLEN.out
      rw [show encP x = #[.agg #[.int .i64 P, .int .i64 O, .int .i64 Q, .int .i64 i]] by unfold encP Part.v; rw [hxv]] at hy
      clear hJ1 hJs hxv hxd hpa hP hO hQ hx hnb hfine hB1 HM HX HLEN HY hi hlt
      rcases Nat.lt_or_ge (K - i) (64 - O) with hc | hc
      · have e3 : (K : Int) - (i : Int) = (Q : Int) := by omega
        have e4 : min ((64 : Int) - (O : Int)) (Q : Int) = (Q : Int) := by omega
        clear hc eq
        gi_wp2
        refine hR.mono ?_
        rintro e W3 (⟨rfl, hJ3, hk3⟩ | ⟨rfl, hJx3⟩)
        · have hp2 : W3.cell? ⟨wr.heap.size, 2, none⟩ = some (.int .i64 Q) := (blk_kc HNB.out hk3 HNT.out (by decide)).cell rfl
          have HK3 := Lib.hid (HK.out.trans ((Kc.of_below HB1.out).trans hk3))
          clear hk3
          gi_wp2
          go_roundw
          case rel => exact ⟨i + Q, m', pre ++ [x], hiq, by go_num, HM2, HX2, hJ3, HK3⟩
          case measure => simp [intOf]; omega
        · gi_wp2
          refine bodyPost_ret (results_none rfl _ _ _) rfl ?_
          exact ⟨⟨_, rfl⟩, .inr ⟨pre ++ [x], ⟨_, HX2.out.symm⟩, hJx3⟩⟩
      · have e3 : (64 : Int) - (O : Int) = (Q : Int) := by omega
        have e4 : min (Q : Int) ((K : Int) - (i : Int)) = (Q : Int) := by omega
        clear hc eq
        gi_wp2
        refine hR.mono ?_
        rintro e W3 (⟨rfl, hJ3, hk3⟩ | ⟨rfl, hJx3⟩)
        · have hp2 : W3.cell? ⟨wr.heap.size, 2, none⟩ = some (.int .i64 Q) := (blk_kc HNB.out hk3 HNT.out (by decide)).cell rfl
          have HK3 := Lib.hid (HK.out.trans ((Kc.of_below HB1.out).trans hk3))
          clear hk3
          gi_wp2
          go_roundw
          case rel => exact ⟨i + Q, m', pre ++ [x], hiq, by go_num, HM2, HX2, hJ3, HK3⟩
          case measure => simp [intOf]; omega
        · gi_wp2
          refine bodyPost_ret (results_none rfl _ _ _) rfl ?_
          exact ⟨⟨_, rfl⟩, .inr ⟨pre ++ [x], ⟨_, HX2.out.symm⟩, hJx3⟩⟩
    · obtain rfl : i = K := by omega
      have hx := HX.out
      rw [partsG_nil (Nat.le_refl _), List.append_nil] at hx
      have HX2 := Lib.hid hx
      clear hx HX
      gi_wp2
      go_end0
      exact ⟨⟨_, rfl⟩, .inl ⟨_, rfl, by rw [HX2.out]; exact hJs⟩⟩
end Go.Proofs.Ytlgohgjnocoadaa.Vw
