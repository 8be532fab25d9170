/- Several texts in one: Yf Yi Yj Yk Yl -/
import Derived.Test.YteaincdeoajkeaaGreatDoorZ12
import Derived.RangeFuncNested
import Derived.RangeFuncBound
import Derived.RangeFuncCalls
import Derived.RangeFuncLeaves
import Derived.Shelf.Abstract
import Derived.Shelf.RegionOpen
import Derived.WalkKit
import Derived.OwnWalkIn
import Derived.TacticsInMore
import Derived.LoopNIn
import Derived.LoopIn
import Derived.Laws.EntriesVeiled
section
/- Package view: own bytes, plainly: where a byte lies, bytes read and written one by one, parts of a range. -/
namespace Go.Proofs.YteaincdeoajkeaaGreatDoor.Vw
open Go.RowKit Ut Oc
set_option maxRecDepth 100000
set_option linter.unusedVariables false

/-- is the byte at p (below 512) an own one; where it lies in the frames' bytes -/
def okA (n : Nat) (L : List Gm.Pl) (p : Nat) : Bool := okP n (Gm.plN L (p / 64))
def frN (L : List Gm.Pl) (j : Nat) : Nat := (Gm.plN L j).1.toNat
def posn (L : List Gm.Pl) (p : Nat) : Nat := 64 * frN L (p / 64) + p % 64
def ownB (n : Nat) (L : List Gm.Pl) (z k : Int) : Bool := decide (0 ≤ k) && decide (z ≤ 512) && decide (k ≤ 512 - z) && (List.range k.toNat).all fun i => okA n L (z.toNat + i)

theorem ok_frame {n : Nat} {L : List Gm.Pl} (hL : Gm.Okay L) {j : Nat} (h : okP n (Gm.plN L j) = true) :
  ∃ f : Nat, (Gm.plN L j).1 = f ∧ frN L j = f ∧ f < n ∧ f < 32 := by
 unfold okP at h
 simp at h
 rcases Gm.pl_cases hL j with h2 | ⟨f, r, h2, hf, _, _, h4⟩
 ·rw [h2] at h; exact absurd h.1 (by decide)
 ·rw [h2] at h
  exact ⟨f, by rw [h2], by unfold frN; rw [h2]; simp, by have := h.2; simp at this; exact this, hf⟩
theorem own_cases (n : Nat) (L : List Gm.Pl) (z k : Int) (hz : 0 ≤ z) :
  (ownB n L z k = false ∧ (k < 0 ∨ 512 < z ∨ 512 - z < k)) ∨ ∃ a K : Nat, z = a ∧ k = K ∧ a + K ≤ 512 ∧ (ownB n L z k = true ↔ ∀ i, i < K → okA n L (a + i) = true) := by
 by_cases h : k < 0 ∨ 512 < z ∨ 512 - z < k
 ·refine .inl ⟨?_, h⟩
  unfold ownB
  rcases h with h | h | h
  ·simp [show ¬ 0 ≤ k by omega]
  ·simp [show ¬ z ≤ 512 by omega]
  ·simp [show ¬ k ≤ 512 - z by omega]
 ·refine .inr ⟨z.toNat, k.toNat, by omega, by omega, by omega, ?_⟩
  unfold ownB
  simp [show 0 ≤ k by omega, show z ≤ 512 by omega, show k ≤ 512 - z by omega]

/-- the first k bytes of zs laid from a on; .. of a marked -/
def wS (L : List Gm.Pl) (S : List Int) (a : Nat) (zs : List Int) : Nat → List Int
 | 0 => S
 | k + 1 => (wS L S a zs k).set (posn L (a + k)) (zs.getD k 0)
def wD (D : List Bool) (a : Nat) : Nat → List Bool
 | 0 => D
 | k + 1 => (wD D a k).set ((a + k) / 64) true
/-- the first k bytes from a on -/
def rB (L : List Gm.Pl) (S : List Int) (a k : Nat) : List Int := (List.range k).map fun i => S.getD (posn L (a + i)) 0
theorem rB_succ (L : List Gm.Pl) (S : List Int) (a k : Nat) : rB L S a (k + 1) = rB L S a k ++ [S.getD (posn L (a + k)) 0] := by unfold rB; rw [List.range_succ, List.map_append]; rfl
theorem rB_len (L : List Gm.Pl) (S : List Int) (a k : Nat) : (rB L S a k).length = k := by simp [rB]
theorem num_one {S : List Int} (hS : S.length = 2048) {f o : Nat} (hf : f < 32) (ho : o < 64) : num (((Fr.frameL S f).drop o).take 1) = S.getD (64 * f + o) 0 := by
 have e : ((Fr.frameL S f).drop o).take 1 = [S.getD (64 * f + o) 0] := by
  unfold Fr.frameL
  refine List.ext_getElem? fun j => ?_
  rw [List.getElem?_take]
  by_cases hj : j = 0
  ·subst hj
   rw [if_pos (by omega), List.getElem?_drop, List.getElem?_take, if_pos (by omega), List.getElem?_drop]
   simp [List.getD, List.getElem?_eq_getElem (show 64 * f + o < S.length by omega)]
  ·rw [if_neg (by omega)]
   rw [List.getElem?_eq_none (by simp; omega)]
 rw [e]
 simp [num]

/-- a part of a range of bytes: its page, where it begins in it, how many, how many are ahead of it -/
structure Part where
 page : Nat
 off : Nat
 k : Nat
 from_ : Nat
def Part.v (p : Part) : Value := .agg #[.int .i64 p.page, .int .i64 p.off, .int .i64 p.k, .int .i64 p.from_]
def Part.cs (p : Part) : List Value := [.int .i64 p.page, .int .i64 p.off, .int .i64 p.k, .int .i64 p.from_]
/-- a part of the K bytes from a on -/
def Part.fine (a K : Nat) (p : Part) : Prop := p.off + p.k ≤ 64 ∧ p.from_ + p.k ≤ K ∧ a + p.from_ = 64 * p.page + p.off ∧ 0 < p.k
abbrev BP (a K : Nat) := { p : Part // p.fine a K }
def nxt (a K i : Nat) : Nat := min (64 - (a + i) % 64) (K - i)
theorem nxt_bd {a K i : Nat} (h : i < K) : 0 < nxt a K i ∧ (a + i) % 64 + nxt a K i ≤ 64 ∧ i + nxt a K i ≤ K := by unfold nxt; omega
def partAt (a K i : Nat) : Part := ⟨(a + i) / 64, (a + i) % 64, nxt a K i, i⟩
theorem partAt_fine {a K i : Nat} (h : i < K) : (partAt a K i).fine a K := by
 have := nxt_bd (a := a) h
 refine ⟨this.2.1, this.2.2, ?_, this.1⟩
 show a + i = 64 * ((a + i) / 64) + (a + i) % 64
 omega
def partsG (a K : Nat) : Nat → Nat → List (BP a K)
 | 0, _ => []
 | m + 1, i => if h : i < K then ⟨partAt a K i, partAt_fine h⟩ :: partsG a K m (i + nxt a K i) else []
theorem partsG_nil {a K m i : Nat} (h : K ≤ i) : partsG a K m i = [] := by
 cases m with
 | zero => rfl
 | succ m => unfold partsG; rw [dif_neg (by omega)]
theorem partsG_cons {a K m i : Nat} (h : i < K) : partsG a K (m + 1) i = ⟨partAt a K i, partAt_fine h⟩ :: partsG a K m (i + nxt a K i) := by
 show (if h : i < K then _ else _) = _
 rw [dif_pos h]
theorem partsG_len (a K m i : Nat) : (partsG a K m i).length ≤ m := by
 induction m generalizing i with
 | zero => simp [partsG]
 | succ m ih =>
  unfold partsG
  by_cases h : i < K
  ·rw [dif_pos h]; simp; exact ih _
  ·rw [dif_neg h]; simp
/-- what holds of each part's page holds of each byte's -/
theorem parts_all {a K : Nat} (P : Nat → Prop) : ∀ (m i : Nat), K ≤ i + m → ((∀ x ∈ partsG a K m i, P x.1.page) ↔ ∀ j, i ≤ j → j < K → P ((a + j) / 64)) := by
 intro m
 induction m with
 | zero => intro i hi; simp [partsG]; intro j h1 h2; omega
 | succ m ih =>
  intro i hi
  by_cases h : i < K
  ·have hb := nxt_bd (a := a) h
   rw [partsG_cons h]
   rw [List.forall_mem_cons, ih (i + nxt a K i) (by omega)]
   constructor
   ·rintro ⟨h1, h2⟩ j hj1 hj2
    by_cases hj : i + nxt a K i ≤ j
    ·exact h2 j hj hj2
    ·have : (a + j) / 64 = (a + i) / 64 := by omega
     rw [this]; exact h1
   ·intro h1
    exact ⟨h1 i (Nat.le_refl _) h, fun j hj1 hj2 => h1 j (by omega) hj2⟩
  ·rw [partsG_nil (by omega)]
   simp
   intro j h1 h2
   omega

/-- the bytes of a part -/
def prtB (L : List Gm.Pl) (S : List Int) (p : Part) : List Int := ((Fr.frameL S (frN L p.page)).drop p.off).take p.k
theorem prtB_eq {a K : Nat} {L : List Gm.Pl} {S : List Int} (hS : S.length = 2048) {p : Part} (hp : p.fine a K) (hf : frN L p.page < 32) : prtB L S p = (List.range p.k).map fun i => S.getD (posn L (a + p.from_ + i)) 0 := by
 obtain ⟨h1, h2, h3, h4⟩ := hp
 unfold prtB Fr.frameL
 refine List.ext_getElem? fun j => ?_
 rw [List.getElem?_take]
 by_cases hj : j < p.k
 ·rw [if_pos hj, List.getElem?_drop, List.getElem?_take, if_pos (by omega), List.getElem?_drop, List.getElem?_map, List.getElem?_range hj]
  have e1 : (a + p.from_ + j) / 64 = p.page := by omega
  have e2 : (a + p.from_ + j) % 64 = p.off + j := by omega
  have e3 : posn L (a + p.from_ + j) = 64 * frN L p.page + (p.off + j) := by unfold posn; rw [e1, e2]
  rw [Option.map_some, e3]
  simp [List.getD, List.getElem?_eq_getElem (show 64 * frN L p.page + (p.off + j) < S.length by omega)]
 ·rw [if_neg hj, List.getElem?_eq_none (by simp; omega)]
/-- .. written -/
def prtS (L : List Gm.Pl) (S : List Int) (zs : List Int) (p : Part) : Nat → List Int
 | 0 => S
 | i + 1 => (prtS L S zs p i).set (64 * frN L p.page + (p.off + i)) (zs.getD (p.from_ + i) 0)
/-- over all parts -/
def foldS (L : List Gm.Pl) (zs : List Int) {a K : Nat} : List Int → List (BP a K) → List Int
 | S, [] => S
 | S, p :: l => foldS L zs (prtS L S zs p.1 p.1.k) l
def foldD {a K : Nat} : List Bool → List (BP a K) → List Bool
 | D, [] => D
 | D, p :: l => foldD (D.set p.1.page true) l
/-- all parts' bytes -/
def foldB (L : List Gm.Pl) (S : List Int) {a K : Nat} (l : List (BP a K)) : List Int := l.flatMap fun p => prtB L S p.1
theorem rB_add (L : List Gm.Pl) (S : List Int) (a i m : Nat) : rB L S a (i + m) = rB L S a i ++ (List.range m).map fun j => S.getD (posn L (a + i + j)) 0 := by
 induction m with
 | zero => simp
 | succ m ih => rw [← Nat.add_assoc, rB_succ, ih, List.range_succ, List.map_append, List.append_assoc]; simp [Nat.add_assoc]
theorem foldB_parts {L : List Gm.Pl} {a K : Nat} {S : List Int} (hS : S.length = 2048) (hf : ∀ i, i < K → frN L ((a + i) / 64) < 32) : ∀ m i, K ≤ i + m → i ≤ K → rB L S a i ++ foldB L S (partsG a K m i) = rB L S a K := by
 intro m
 induction m with
 | zero =>
  intro i h1 h2
  obtain rfl : i = K := by omega
  simp [foldB, partsG]
 | succ m ih =>
  intro i h1 h2
  by_cases h : i < K
  ·rw [partsG_cons h]
   have hb := nxt_bd (a := a) h
   show rB L S a i ++ (prtB L S (partAt a K i) ++ foldB L S (partsG a K m (i + nxt a K i))) = _
   rw [prtB_eq hS (partAt_fine h) (hf i h), ← List.append_assoc]
   rw [show rB L S a i ++ (List.range (partAt a K i).k).map (fun j => S.getD (posn L (a + (partAt a K i).from_ + j)) 0) = rB L S a (i + nxt a K i) from (rB_add L S a i (nxt a K i)).symm]
   exact ih _ (by omega) (by omega)
  ·obtain rfl : i = K := by omega
   rw [partsG_nil (Nat.le_refl _)]
   simp [foldB]
end Go.Proofs.YteaincdeoajkeaaGreatDoor.Vw
end
section
/- Package view: parts and the function that it makes; Own of the program. -/
namespace Go.Proofs.YteaincdeoajkeaaGreatDoor.Vw
open Go.RowKit Go.Shelf Ut Oc
set_option maxRecDepth 100000
set_option linter.unusedVariables false
set_option maxHeartbeats 4000000
attribute [local go_sem] Oper.semAt_some

theorem parts_any (a K : Int) (w : World) :
  Calls Tryz.prog 155 #[.int .i64 a, .int .i64 K] w fun e w' => e = .returned (.func (.func 156) #[] #[.pointer (some ⟨w.heap.size + 1, 0, none⟩), .pointer (some ⟨w.heap.size, 0, none⟩)]) ∧ w' = (w.alloc (.cells #[.int .i64 a] 3)).alloc (.cells #[.int .i64 K] 3) := by
 go_enter Tryz.func155, Tryz.ntmps155
 go_wp2
 go_ret
 exact ⟨rfl, rfl⟩

/-- what is no row of bytes -/
def NoB (o : Obj) : Prop := ∀ cs fr, o ≠ .cells cs 5 fr
theorem noB_cells {cs : Array Value} {t : TypeId} {fr : Nat × Nat} (h : t ≠ 5) : NoB (.cells cs t fr) := fun cs' fr' e => by injection e with _ e2 _; exact h e2
theorem noB_other {o : Obj} (h : o.isCells = false) : NoB o := fun cs fr e => by rw [e] at h; cases h
/-- all blocks but those of T, and rows of bytes, stay as they are -/
def Kz (T : List Nat) (X Y : World) : Prop := X.heap.size ≤ Y.heap.size ∧ ∀ q o, X.heap[q]? = some o → q ∉ T → NoB o → Y.heap[q]? = some o
theorem Kz.of_kq {T : List Nat} {X Y : World} (h : Kq T X Y) : Kz T X Y := ⟨h.size, fun q o h1 h3 _ => (h.block q (Array.getElem?_eq_some_iff.1 h1).1 h3).trans h1⟩
theorem Kz.trans {T : List Nat} {X Y Z : World} (h : Kz T X Y) (k : Kz T Y Z) : Kz T X Z := ⟨Nat.le_trans h.1 k.1, fun q o h1 h2 h3 => k.2 q o (h.2 q o h1 h2 h3) h2 h3⟩
/-- .. of blocks of cells alone -/
def Kc (T : List Nat) (X Y : World) : Prop := X.heap.size ≤ Y.heap.size ∧ ∀ q o, X.heap[q]? = some o → o.isCells = true → q ∉ T → NoB o → Y.heap[q]? = some o
theorem Kc.refl (T : List Nat) (X : World) : Kc T X X := ⟨Nat.le_refl _, fun q o h _ _ _ => h⟩
theorem Kc.trans {T : List Nat} {X Y Z : World} (h : Kc T X Y) (k : Kc T Y Z) : Kc T X Z := ⟨Nat.le_trans h.1 k.1, fun q o h1 h2 h3 h4 => k.2 q o (h.2 q o h1 h2 h3 h4) h2 h3 h4⟩
theorem Kc.of_kz {T : List Nat} {X Y : World} (h : Kz T X Y) : Kc T X Y := ⟨h.1, fun q o h1 _ h3 h4 => h.2 q o h1 h3 h4⟩
theorem Kc.of_below {T : List Nat} {X Y : World} (h : Below X.heap.size X Y) : Kc T X Y := Kc.of_kz (Kz.of_kq (Kq.of_below h))
theorem kc_put {T : List Nat} {w : World} (W : World) (l : Nat) (o o' : Obj) (hl : w.heap.size ≤ l) (h : W.heap[l]? = some o) (hc : o.isCells = false) (_ : o.isWalk = false) : Kc T W (W.putObj l o') := by
 have hg := grownBy_putObj' W l o'
 refine ⟨hg.size, fun q u h1 h2 _ _ => (hg.block q (Array.getElem?_eq_some_iff.1 h1).1 (fun e => ?_)).trans h1⟩
 obtain rfl : q = l := by injection e
 rw [h] at h1
 injection h1 with h1
 rw [h1] at hc
 rw [hc] at h2
 exact absurd h2 (by decide)
theorem boxed_kc {T : List Nat} {X Y : World} {B : Nat} {t : TypeId} {v : Value} (h : Boxed X B t v) (k : Kc T X Y) (hT : B ∉ T) (ht : t ≠ 5) : Boxed Y B t v := k.2 B _ h rfl hT (noB_cells ht)
theorem blk_kc {T : List Nat} {X Y : World} {B : Nat} {t : TypeId} {cs : List Value} (h : Blk X B t cs) (k : Kc T X Y) (hT : B ∉ T) (ht : t ≠ 5) : Blk Y B t cs := k.2 B _ h rfl hT (noB_cells ht)

/-- what a round is handed -/
def encP {a K : Nat} (x : BP a K) : Array Value := #[x.1.v]

theorem parts1_any (l Bn Ba a K : Nat) (T : List Nat) (haK : a + K ≤ 512) (J Jx : List (BP a K) → World → Prop) (W : World) (hJ : AbidesFrom W.heap.size J)
  (hY : ∀ pre x W1, J pre W1 → pre.length < (partsG a K K 0).length → YieldAt Fence.wide 100 Tryz.prog l (encP x) W1 fun e W' =>
   (e = .returned (.bool true) ∧ J (pre ++ [x]) W' ∧ Kc T W1 W') ∨ (e = .returned (.bool false) ∧ Jx (pre ++ [x]) W'))
  (hT : ∀ q ∈ T, q < W.heap.size ∧ q ≠ Bn ∧ q ≠ Ba) (hBn : Boxed W Bn 3 (.int .i64 K)) (hBa : Boxed W Ba 3 (.int .i64 a)) (h0 : J [] W) :
  CallsIn Fence.wide 101 Tryz.prog 156 #[.func (.yield l) #[] #[], .pointer (some ⟨Bn, 0, none⟩), .pointer (some ⟨Ba, 0, none⟩)] W fun e W' => (∃ v, e = .returned v) ∧
   ((∃ ys, ys = partsG a K K 0 ∧ J ys W') ∨ (∃ pre, pre <+: partsG a K K 0 ∧ Jx pre W')) := by
 have HY := Lib.hid hY
 have HJ := Lib.hid hJ
 have HAK := Lib.hid haK
 have HBN := Lib.hid hBn
 have HBA := Lib.hid hBa
 have HT := Lib.hid hT
 clear hY hJ hBn hBa haK hT
 refine callsIn_of_wp Tryz.func156 rfl trivial ?_ rfl
 simp only [Tryz.ntmps156, List.size_toArray, List.length_cons, List.length_nil, Nat.reduceAdd, Nat.reduceSub, Array.replicate_succ, Array.replicate_zero, List.push_toArray, List.append_toArray, List.nil_append, List.cons_append]
 gi_wp2
 gi_loopw [4] (fun j wr => ∃ (i m : Nat) (pre : List (BP a K)), i ≤ K ∧ j = .int .i64 i ∧ Hid (K ≤ i + m) ∧ Hid (partsG a K K 0 = pre ++ partsG a K m i) ∧ J pre wr ∧ Hid (Kc T W wr)) (fun j _ => K - (intOf j).toNat)
 case atStart => exact ⟨0, K, [], Nat.zero_le _, rfl, by show Hid _; exact Lib.hid (by omega), Lib.hid rfl, h0, Lib.hid (Kc.refl _ _)⟩
 case round =>
  obtain ⟨i, m, pre, hi, rfl, HM, HX, hJs, HK⟩ := hrel
  have bn : Boxed wr Bn 3 (.int .i64 K) := boxed_kc HBN.out HK.out (fun e => (HT.out _ e).2.1 rfl) (by decide)
  have ba : Boxed wr Ba 3 (.int .i64 a) := boxed_kc HBA.out HK.out (fun e => (HT.out _ e).2.2 rfl) (by decide)
  have cn := bn.cell
  by_cases hlt : i < K
  ·have ca := ba.cell
   have ln := bn.lt
   have la := ba.lt
   obtain ⟨m', rfl⟩ : ∃ m', m = m' + 1 := ⟨m - 1, by have := HM.out; omega⟩
   have hx := HX.out
   rw [partsG_cons hlt] at hx
   have hnb := nxt_bd (a := a) hlt
   have hfine := partAt_fine (a := a) hlt
   have HI := Lib.hid hi
   have f1 : (i : Int) < (K : Int) := by omega
   obtain ⟨P, hP⟩ : ∃ P, (a + i) / 64 = P := ⟨_, rfl⟩
   obtain ⟨O, hO⟩ : ∃ O, (a + i) % 64 = O := ⟨_, rfl⟩
   obtain ⟨Q, hQ⟩ : ∃ Q, nxt a K i = Q := ⟨_, rfl⟩
   have e1 : ((a : Int) + (i : Int)) / 64 = (P : Int) := by omega
   have e2 : ((a : Int) + (i : Int)) % 64 = (O : Int) := by omega
   have eq : Q = min (64 - O) (K - i) := by rw [← hQ, ← hO]; rfl
   have ho : O < 64 := by omega
   have hs0 : (0 : Int) ≤ (a : Int) + (i : Int) := by omega
   have hs1 : (a : Int) + (i : Int) ≤ 512 := by have := HAK.out; omega
   have hk5 : (K : Int) ≤ 512 := by have := HAK.out; omega
   have hpa : partAt a K i = ⟨P, O, Q, i⟩ := by unfold partAt; rw [hP, hO, hQ]
   obtain ⟨x, hxd⟩ : ∃ x : BP a K, x = ⟨partAt a K i, hfine⟩ := ⟨_, rfl⟩
   have hxv : x.1 = ⟨P, O, Q, i⟩ := by rw [hxd]; exact hpa
   rw [← hxd, hQ] at hx
   have HX2 : Hid (partsG a K K 0 = (pre ++ [x]) ++ partsG a K m' (i + Q)) := Lib.hid (by rw [hx]; simp)
   have HLEN : Hid (pre.length < (partsG a K K 0).length) := Lib.hid (by rw [hx]; simp)
   have HM2 : Hid (K ≤ (i + Q) + m') := Lib.hid (by have := HM.out; rw [← hQ]; omega)
   have hiq : i + Q ≤ K := by omega
   have hiq2 : 0 < Q := by omega
   have hB1 : Below wr.heap.size wr (wr.alloc (.cells #[.int .i64 P, .int .i64 O, .int .i64 Q, .int .i64 i] 237)) := (Below.refl wr.heap.size wr).alloc (Nat.le_refl _) _
   have HB1 := Lib.hid hB1
   have HNB : Hid (Blk (wr.alloc (.cells #[.int .i64 P, .int .i64 O, .int .i64 Q, .int .i64 i] 237)) wr.heap.size 237 [.int .i64 P, .int .i64 O, .int .i64 Q, .int .i64 i]) := Lib.hid (Blk.new wr _ _)
   have HNT : Hid (wr.heap.size ∉ T) := Lib.hid fun e => by have := (HT.out _ e).1; have := HK.out.1; omega
   have hJ1 : J pre (wr.alloc (.cells #[.int .i64 P, .int .i64 O, .int .i64 Q, .int .i64 i] 237)) := HJ.out _ _ _ none hJs ⟨hB1.os, hB1.tape, hB1.output, hB1.size, fun k hk _ => hB1.block k hk⟩ (fun r e => by cases e)
   obtain ⟨fn, tmps, assign, body, hy, hR⟩ := HY.out pre x _ hJ1 HLEN.out
   rw [show encP x = #[.agg #[.int .i64 P, .int .i64 O, .int .i64 Q, .int .i64 i]] by unfold encP Part.v; rw [hxv]] at hy
   clear hJ1 hJs hxv hxd hpa hP hO hQ hx hnb hfine hB1 HM HX HLEN HY hi hlt
   rcases Nat.lt_or_ge (K - i) (64 - O) with hc | hc
   ·have e3 : (K : Int) - (i : Int) = (Q : Int) := by omega
    have e4 : min ((64 : Int) - (O : Int)) (Q : Int) = (Q : Int) := by omega
    clear hc eq
    gi_wp2
    refine hR.mono ?_
    rintro e W3 (⟨rfl, hJ3, hk3⟩ | ⟨rfl, hJx3⟩)
    ·have hp2 : W3.cell? ⟨wr.heap.size, 2, none⟩ = some (.int .i64 Q) := (blk_kc HNB.out hk3 HNT.out (by decide)).cell rfl
     have HK3 := Lib.hid (HK.out.trans ((Kc.of_below HB1.out).trans hk3))
     clear hk3
     gi_wp2
     go_roundw
     case rel => exact ⟨i + Q, m', pre ++ [x], hiq, by go_num, HM2, HX2, hJ3, HK3⟩
     case measure => simp [intOf]; omega
    ·gi_wp2
     refine bodyPost_ret (results_none rfl _ _ _) rfl ?_
     exact ⟨⟨_, rfl⟩, .inr ⟨pre ++ [x], ⟨_, HX2.out.symm⟩, hJx3⟩⟩
   ·have e3 : (64 : Int) - (O : Int) = (Q : Int) := by omega
    have e4 : min (Q : Int) ((K : Int) - (i : Int)) = (Q : Int) := by omega
    clear hc eq
    gi_wp2
    refine hR.mono ?_
    rintro e W3 (⟨rfl, hJ3, hk3⟩ | ⟨rfl, hJx3⟩)
    ·have hp2 : W3.cell? ⟨wr.heap.size, 2, none⟩ = some (.int .i64 Q) := (blk_kc HNB.out hk3 HNT.out (by decide)).cell rfl
     have HK3 := Lib.hid (HK.out.trans ((Kc.of_below HB1.out).trans hk3))
     clear hk3
     gi_wp2
     go_roundw
     case rel => exact ⟨i + Q, m', pre ++ [x], hiq, by go_num, HM2, HX2, hJ3, HK3⟩
     case measure => simp [intOf]; omega
    ·gi_wp2
     refine bodyPost_ret (results_none rfl _ _ _) rfl ?_
     exact ⟨⟨_, rfl⟩, .inr ⟨pre ++ [x], ⟨_, HX2.out.symm⟩, hJx3⟩⟩
  ·obtain rfl : i = K := by omega
   have hx := HX.out
   rw [partsG_nil (Nat.le_refl _), List.append_nil] at hx
   have HX2 := Lib.hid hx
   clear hx HX
   gi_wp2
   go_end0
   exact ⟨⟨_, rfl⟩, .inl ⟨_, rfl, by rw [HX2.out]; exact hJs⟩⟩
end Go.Proofs.YteaincdeoajkeaaGreatDoor.Vw
end
section
/- Package view: Own of the program: a loop over the parts of a range. -/
namespace Go.Proofs.YteaincdeoajkeaaGreatDoor.Vw
open Go.RowKit Go.Shelf Ut Oc
set_option maxRecDepth 100000
set_option linter.unusedVariables false
set_option maxHeartbeats 4000000
attribute [local go_sem] Oper.semAt_some

theorem parts_stops (Bn Ba a K : Nat) (T : List Nat) (w : World) (haK : a + K ≤ 512) (hT : ∀ q ∈ T, q < w.heap.size ∧ q ≠ Bn ∧ q ≠ Ba) (hBn : Boxed w Bn 3 (.int .i64 K)) (hBa : Boxed w Ba 3 (.int .i64 a)) :
  SeqStopsK Fence.wide 101 Tryz.prog 156 #[.pointer (some ⟨Bn, 0, none⟩), .pointer (some ⟨Ba, 0, none⟩)] encP (Kc T) (fun ys => ys = partsG a K K 0) (fun pre => pre <+: partsG a K K 0) (partsG a K K 0).length w := fun l J Jx W hW hJ _ hY h0 =>
 parts1_any l Bn Ba a K T haK J Jx W hJ hY (fun q hq => ⟨Nat.lt_of_lt_of_le (hT q hq).1 hW.size, (hT q hq).2⟩) ((hW.block Bn hBn.lt).trans hBn) ((hW.block Ba hBa.lt).trans hBa) h0

theorem keepsFrom_kq {T : List Nat} {B : Nat} {X Y : World} (h : Kq T X Y) (hT : ∀ q ∈ T, q < B) : KeepsFrom B X Y :=
 ⟨h.size, fun k o hk ho _ => (h.block k (Array.getElem?_eq_some_iff.1 ho).1 (fun e => by have := hT k e; omega)).trans ho⟩
theorem keepsFrom_kz {T : List Nat} {B : Nat} {X Y : World} (h : Kz T X Y) (hT : ∀ q ∈ T, q < B) : KeepsFrom B X Y :=
 ⟨h.1, fun k o hk ho hc => h.2 k o ho (fun e => by have := hT k e; omega) (noB_other hc)⟩
theorem keepsFrom_below {B : Nat} {X Y : World} (h : Below X.heap.size X Y) : KeepsFrom B X Y := keepsFrom_kq (T := []) (Kq.of_below h) (by simp)
theorem blk_own {β : Type} (B : Nat) (t : TypeId) (f : β → List Value) : Own (fun s W => Blk W B t (f s)) := fun s X Y row hs hg hrow =>
 hs.kept hg (fun e' => by obtain ⟨o, ho, hc⟩ := hrow B e'.symm; rw [show X.heap[B]? = _ from hs] at ho; cases ho; cases hc)

section
variable {b s m n : Nat} {S : List Int} {L : List Gm.Pl} {D : List Bool}
theorem own_out (z k : Int) (h0 : 0 ≤ z) (h1 : z < 4294967296) (hb : k < 0 ∨ 512 < z ∨ 512 - z < k) (w : World) (hP : PV w b s m n S L D) :
  Calls Tryz.prog 154 #[.pointer (some ⟨b, 0, none⟩), .int .u32 z, .int .i64 k] w fun e w' => e = .returned (.bool false) ∧ Below w.heap.size w w' := by
 have HM : Hid (∀ W, Below w.heap.size w W → Calls Tryz.prog 50 #[.pointer (some ⟨b, 0, none⟩)] W fun e w' => e = .returned (.bool true) ∧ W = w') := Lib.hid fun W hW => made_yes b s W (hP.more hW).cell0
 have HBB : Hid (∀ o o' : Obj, Below w.heap.size w ((w.alloc o).alloc o')) := Lib.hid fun o o' => ((Below.refl _ _).alloc (Nat.le_refl _) _).alloc (by simp) _
 have HSet : Hid (∀ (W : World) (o : Nat) (v : Value), Below w.heap.size w W → Below w.heap.size w (W.setCell ⟨w.heap.size + 1, o, none⟩ v)) := Lib.hid fun W o v h => h.setCell (p := ⟨w.heap.size + 1, o, none⟩) (by simp) _
 clear hP
 by_cases c1 : k < 0
 ·have d1 : decide (k < 0) = true := by simpa using c1
  clear hb c1
  go_enter Tryz.func154, Tryz.ntmps154
  go_wp2_with fail
  refine (HM.out _ (HBB.out _ _)).mono ?_
  rintro e w1 ⟨rfl, rfl⟩
  go_wp2
  exact bodyPost_ret (v := .bool false) (by simp [results, Tryz.results154, go_sem]) rfl ⟨rfl, by first | exact HBB.out _ _ | exact HSet.out _ _ _ (HBB.out _ _)⟩
 have d1 : decide (k < 0) = false := by simpa using c1
 by_cases c2 : 512 < z
 ·have d2 : decide (512 < z) = true := by simpa using c2
  clear hb c1 c2
  go_enter Tryz.func154, Tryz.ntmps154
  go_wp2_with fail
  refine (HM.out _ (HBB.out _ _)).mono ?_
  rintro e w1 ⟨rfl, rfl⟩
  go_wp2
  exact bodyPost_ret (v := .bool false) (by simp [results, Tryz.results154, go_sem]) rfl ⟨rfl, by first | exact HBB.out _ _ | exact HSet.out _ _ _ (HBB.out _ _)⟩
 have d2 : decide (512 < z) = false := by simpa using c2
 have d3 : decide (512 - z < k) = true := by simp; omega
 have hz : z ≤ 512 := by omega
 clear hb c1 c2 h1
 go_enter Tryz.func154, Tryz.ntmps154
 go_wp2_with fail
 refine (HM.out _ (HBB.out _ _)).mono ?_
 rintro e w1 ⟨rfl, rfl⟩
 go_wp2
 exact bodyPost_ret (v := .bool false) (by simp [results, Tryz.results154, go_sem]) rfl ⟨rfl, by first | exact HBB.out _ _ | exact HSet.out _ _ _ (HBB.out _ _)⟩

/-- all pages of the parts are own ones just if all bytes are -/
theorem parts_own (a K : Nat) : (∀ x ∈ partsG a K K 0, okP n (Gm.plN L x.1.page) = true) ↔ ∀ i, i < K → okA n L (a + i) = true := by
 rw [parts_all (fun j => okP n (Gm.plN L j) = true) K 0 (by omega)]
 exact ⟨fun h i hi => h i (Nat.zero_le _) hi, fun h j _ hj => h j hj⟩
theorem plN_page {a K : Nat} (haK : a + K ≤ 512) (x : BP a K) : Gm.atP L (x.1.page : Int) = Gm.plN L x.1.page := Gm.atP_is (by obtain ⟨p, h1, h2, h3, h4⟩ := x; show p.page < 12; omega)

theorem own_in (a K : Nat) (haK : a + K ≤ 512) (t : Bool) (ht : t = true ↔ ∀ i, i < K → okA n L (a + i) = true) (w : World) (hP : PV w b s m n S L D) :
  Calls Tryz.prog 154 #[.pointer (some ⟨b, 0, none⟩), .int .u32 a, .int .i64 K] w fun e w' => e = .returned (.bool t) ∧ Below w.heap.size w w' := by
 have HM : Hid (∀ W, Below w.heap.size w W → Calls Tryz.prog 50 #[.pointer (some ⟨b, 0, none⟩)] W fun e w' => e = .returned (.bool true) ∧ W = w') := Lib.hid fun W hW => made_yes b s W (hP.more hW).cell0
 have HPP := Lib.hid hP
 have HT := Lib.hid ht
 rw [← parts_own (n := n) (L := L) a K] at ht
 have HTP := Lib.hid ht
 have HAK := Lib.hid haK
 have d1 : decide ((K : Int) < 0) = false := by simp
 have d2 : decide ((512 : Int) < (a : Int)) = false := by simp; omega
 have d3 : decide ((512 : Int) - (a : Int) < (K : Int)) = false := by simp; omega
 have ha : (a : Int) ≤ 512 := by omega
 have hK : (K : Int) ≤ 512 := by omega
 have HBB : Hid (∀ o o' : Obj, Below w.heap.size w ((w.alloc o).alloc o')) := Lib.hid fun o o' => ((Below.refl _ _).alloc (Nat.le_refl _) _).alloc (by simp) _
 clear hP haK ht
 refine (callsIn_wide (n := 102)).1 ?_
 refine callsIn_of_wp_marks Tryz.func154 rfl trivial ?_ rfl
 simp only [Tryz.ntmps154, List.size_toArray, List.length_cons, List.length_nil, Nat.reduceAdd, Nat.reduceSub, Array.replicate_succ, Array.replicate_zero, List.push_toArray, List.append_toArray, List.nil_append, List.cons_append]
 gi_wp2_with (first | (refine ⟨trivial, ?_⟩; gi_at_call 50; refine (callsIn_wide.2 (HM.out _ (HBB.out _ _))).mono ?_; rintro e w' ⟨rfl, rfl⟩) | (refine ⟨trivial, ?_⟩; gi_at_call 155; refine (callsIn_wide.2 (parts_any _ _ _)).mono ?_; rintro e w' ⟨rfl, rfl⟩))
 have bV := (((Boxed.new w 25 (.pointer (some ⟨b, 0, none⟩))).alloc (.cells #[.bool false] 4)).alloc (.cells #[.int .i64 a] 3)).alloc (.cells #[.int .i64 K] 3)
 have bR := ((Boxed.new (w.alloc (.cells #[.pointer (some ⟨b, 0, none⟩)] 25)) 4 (.bool false)).alloc (.cells #[.int .i64 a] 3)).alloc (.cells #[.int .i64 K] 3)
 have bA := (Boxed.new ((w.alloc (.cells #[.pointer (some ⟨b, 0, none⟩)] 25)).alloc (.cells #[.bool false] 4)) 3 (.int .i64 a)).alloc (.cells #[.int .i64 K] 3)
 have bK := Boxed.new (((w.alloc (.cells #[.pointer (some ⟨b, 0, none⟩)] 25)).alloc (.cells #[.bool false] 4)).alloc (.cells #[.int .i64 a] 3)) 3 (.int .i64 K)
 simp only [World.size_alloc] at bR bA bK
 have hB0 : Below w.heap.size w ((((w.alloc (.cells #[.pointer (some ⟨b, 0, none⟩)] 25)).alloc (.cells #[.bool false] 4)).alloc (.cells #[.int .i64 a] 3)).alloc (.cells #[.int .i64 K] 3)) := ((((Below.refl _ w).alloc (Nat.le_refl _) _).alloc (by simp) _).alloc (by simp; omega) _).alloc (by simp; omega) _
 have hsz : ((((w.alloc (.cells #[.pointer (some ⟨b, 0, none⟩)] 25)).alloc (.cells #[.bool false] 4)).alloc (.cells #[.int .i64 a] 3)).alloc (.cells #[.int .i64 K] 3)).heap.size = w.heap.size + 4 := by simp
 obtain ⟨W0, hW0⟩ : ∃ W0, (((w.alloc (.cells #[.pointer (some ⟨b, 0, none⟩)] 25)).alloc (.cells #[.bool false] 4)).alloc (.cells #[.int .i64 a] 3)).alloc (.cells #[.int .i64 K] 3) = W0 := ⟨_, rfl⟩
 rw [hW0] at bV bR bA bK hB0 hsz ⊢
 clear hW0 d1 d2 d3
 refine wpIn_rangeFunc_ownH rfl (by omega) (gf := 156) (lb := #[.pointer (some ⟨w.heap.size + 1 + 1 + 1, 0, none⟩), .pointer (some ⟨w.heap.size + 1 + 1, 0, none⟩)]) rfl trivial (enters_of Tryz.func156 (by kernel_rfl) rfl)
  (parts_stops (w.heap.size + 1 + 1 + 1) (w.heap.size + 1 + 1) a K [] W0 HAK.out (by simp) bK bA) Kc.trans kc_put (Below.refl _ _) (fun _ => rfl)
  (fun pre W => ((∀ x ∈ pre, okP n (Gm.plN L x.1.page) = true) ∧ Boxed W w.heap.size 25 (.pointer (some ⟨b, 0, none⟩)) ∧ Boxed W (w.heap.size + 1) 4 (.bool false)) ∧ Below w.heap.size w W)
  (fun c pre W => (c = .ret ∧ (∃ x ∈ pre, okP n (Gm.plN L x.1.page) = false) ∧ Boxed W (w.heap.size + 1) 4 (.bool false)) ∧ Below w.heap.size w W)
  (OwnFrom.and (Own.from (fun s X Y row hs hg hr => ⟨hs.1, boxed_own _ _ (fun _ : Unit => _) () X Y row hs.2.1 hg hr, boxed_own _ _ (fun _ : Unit => _) () X Y row hs.2.2 hg hr⟩) _) (ownFrom_below (Nat.le_refl _) (by omega)))
  (fun c => OwnFrom.and (Own.from (fun s X Y row hs hg hr => ⟨hs.1, hs.2.1, boxed_own _ _ (fun _ : Unit => _) () X Y row hs.2.2 hg hr⟩) _) (ownFrom_below (Nat.le_refl _) (by omega)))
  ⟨⟨by simp, bV, bR⟩, hB0⟩
  (fun x a' W => ∃ Bx, w.heap.size + 1 < Bx ∧ Blk W Bx 237 x.1.cs ∧ a' = { tmps := #[.pointer (some ⟨b, 0, none⟩), .int .u32 a, .int .i64 K, .pointer (some ⟨w.heap.size, 0, none⟩), undef, undef, .pointer (some ⟨w.heap.size + 1, 0, none⟩), .pointer (some ⟨Bx, 0, none⟩), undef, undef, .pointer (some ⟨b, 0, none⟩), .bool true, .bool false, .bool false, .int .i64 K, .bool false, .bool false, .bool false, .int .u32 a, .bool false, .bool false, .bool false, .int .i64 K, .int .u32 a, .int .i64 a, .int .i64 (512 - a), .bool false, .bool false, .int .u32 a, .int .i64 a, .int .i64 K, .func (.func 156) #[] #[.pointer (some ⟨w.heap.size + 1 + 1 + 1, 0, none⟩), .pointer (some ⟨w.heap.size + 1 + 1, 0, none⟩)], x.1.v, undef, undef, undef, undef, undef, undef, undef, undef, undef], defers := [] })
  (fun x a' _ X Y row hs hg hr => by obtain ⟨Bx, h1, h2, h3⟩ := hs; exact ⟨Bx, h1, blk_own Bx _ (fun _ : Unit => _) () X Y row h2 hg (fun r e => (hr r e).2), h3⟩)
  ?assign ?body ?done ?stop
 case assign =>
  rintro l pre x W K' ⟨⟨hp, bV1, bR1⟩, hB1⟩ hK
  have hlt := bR1.lt
  dsimp only [encP, Part.v]
  gi_wp2
  exact hK _ _ ((KeepsOthers.alloc _ _).from _) (Kc.of_below ((Below.refl _ W).alloc (Nat.le_refl _) _)) ⟨⟨hp, bV1.alloc _, bR1.alloc _⟩, hB1.alloc hB1.size _⟩ ⟨W.heap.size, by omega, Blk.new W _ _, rfl⟩
 case body =>
  rintro l pre x a' W hl ⟨r, hr⟩ ⟨⟨hp, bV1, bR1⟩, hB1⟩ ⟨Bx, hBx, bX, rfl⟩ hlt
  have cV := bV1.cell
  have x0 : W.cell? ⟨Bx, 0, none⟩ = some (.int .i64 x.1.page) := bX.cell rfl
  have hpg := plN_page (L := L) HAK.out x
  obtain ⟨o, ho⟩ : ∃ o, okP n (Gm.plN L x.1.page) = o := ⟨_, rfl⟩
  have HFR := Lib.hid (fun W hW => frame_any (b := b) (s := s) (m := m) (n := n) (S := S) (L := L) (D := D) (x.1.page : Int) _ o (by rw [hpg]; exact ho) rfl W hW)
  have HP1 := Lib.hid (HPP.out.more hB1)
  have HO := Lib.hid ho
  have HPR := Lib.hid hp
  have bR2 := Lib.hid bR1
  have bV2 := Lib.hid bV1
  have HBW := Lib.hid hB1
  have HHL := Lib.hid hl
  clear hpg ho hp bR1 bV1 hB1 bX hr hlt hl
  generalize frP n (Gm.atP L (x.1.page : Int)) = F at HFR
  cases o
  ·gi_wp2_with (refine ⟨trivial, ?_⟩; gi_at_call 101; refine (CallsIn.inRound l (callsIn_wide.2 (HFR.out _ HP1.out))).mono ?_; rintro e w1 ⟨rfl, hb1⟩; have cR : Boxed w1 (w.heap.size + 1) 4 (.bool false) := (hb1.block _ bR2.out.lt).trans bR2.out; have cR1 := cR.cell; have cR2 := cR.frozen)
   exact ⟨(keepsFrom_below hb1).trans ((KeepsOthers.setCell _ _ _).from _), ⟨rfl, ⟨x, by simp, HO.out⟩, cR.set _⟩, (HBW.out.trans (hb1.mono HBW.out.size)).setCell (p := ⟨w.heap.size + 1, 0, none⟩) (by simp) _⟩
  ·gi_wp2_with (refine ⟨trivial, ?_⟩; gi_at_call 101; refine (CallsIn.inRound l (callsIn_wide.2 (HFR.out _ HP1.out))).mono ?_; rintro e w1 ⟨rfl, hb1⟩; have cR : Boxed w1 (w.heap.size + 1) 4 (.bool false) := (hb1.block _ bR2.out.lt).trans bR2.out; have cR1 := cR.cell; have cR2 := cR.frozen)
   exact ⟨keepsFrom_below hb1, Kc.of_below hb1, ⟨fun y hy => (List.mem_append.1 hy).elim (HPR.out y) (fun e => by simp at e; subst e; exact HO.out), (hb1.block _ bV2.out.lt).trans bV2.out, cR⟩, HBW.out.trans (hb1.mono HBW.out.size)⟩
 case done =>
  rintro D' zs W hD rfl ⟨⟨hp, bV1, bR1⟩, hB1⟩ hK'
  have cR1 := bR1.cell
  have cR2 := bR1.frozen
  have HTT := Lib.hid (HTP.out.2 hp)
  clear hp
  gi_wp2
  have hK2 := (KeepsOthers.setCell W ⟨w.heap.size + 1, 0, none⟩ (.bool true)).same D' _ hK' rfl
  refine ⟨by simp, .inl ⟨_, _, rfl, run_takeDeferred hK2, ?_⟩⟩
  have hc5 := cell_kept (World.cell?_setCell_same' W ⟨w.heap.size + 1, 0, none⟩ (.bool true) (by rw [cR1]; rfl)) (grownBy_putObj' _ D' (.deferred none)) (fun r e => by cases e; exact ⟨_, hK2, rfl⟩)
  refine ⟨.bool true, ?_, by rw [HTT.out], (hB1.setCell (p := ⟨w.heap.size + 1, 0, none⟩) (by simp) _).trans (belowK_b (w := w) (Nat.le_refl _) _ D' _ _ (by omega) hK2 rfl rfl)⟩
  simp [results, Tryz.results154, go_sem, hc5]
 case stop =>
  rintro D' c pre W hD hpre ⟨⟨rfl, hex, bR1⟩, hB1⟩ hK'
  have cR1 := bR1.cell
  have HTF : Hid (t = false) := Lib.hid (by
   obtain ⟨x, hx, ho⟩ := hex
   cases t
   ·rfl
   ·have := HTP.out.1 rfl x (hpre.subset hx)
    rw [ho] at this
    exact absurd this (by decide))
  clear hex
  gi_wp2
  refine ⟨by simp, .inl ⟨_, _, rfl, run_takeDeferred hK', ?_⟩⟩
  have hc5 := cell_kept cR1 (grownBy_putObj' _ D' (.deferred none)) (fun r e => by cases e; exact ⟨_, hK', rfl⟩)
  refine ⟨.bool false, ?_, by rw [HTF.out], hB1.trans (belowK_b (w := w) (Nat.le_refl _) W D' _ _ (by omega) hK' rfl rfl)⟩
  simp [results, Tryz.results154, go_sem, hc5]
theorem own_any (z k : Int) (t : Bool) (h0 : 0 ≤ z) (h1 : z < 4294967296) (ht : ownB n L z k = t) (w : World) (hP : PV w b s m n S L D) :
  Calls Tryz.prog 154 #[.pointer (some ⟨b, 0, none⟩), .int .u32 z, .int .i64 k] w fun e w' => e = .returned (.bool t) ∧ Below w.heap.size w w' := by
 rcases own_cases n L z k h0 with ⟨h2, h3⟩ | ⟨a, K, rfl, rfl, h2, h3⟩
 ·rw [h2] at ht
  subst ht
  exact own_out z k h0 h1 h3 w hP
 ·rw [ht] at h3
  exact own_in a K h2 t h3 w hP
end
end Go.Proofs.YteaincdeoajkeaaGreatDoor.Vw
end
section
/- Package view: each, over any function that is called with a part and its frame. -/
namespace Go.Proofs.YteaincdeoajkeaaGreatDoor.Vw
open Go.RowKit Go.Shelf Ut Oc
set_option maxRecDepth 100000
set_option linter.unusedVariables false
set_option maxHeartbeats 4000000
attribute [local go_sem] Oper.semAt_some

section
variable {b s m n : Nat} {S : List Int} {L : List Gm.Pl} {D : List Bool}
theorem each_no (p : Option Addr) (z k : Int) (fv : Value) (w : World) (hO : ∀ W, Below w.heap.size w W → Calls Tryz.prog 154 #[.pointer p, .int .u32 z, .int .i64 k] W fun e w' => e = .returned (.bool false) ∧ Below W.heap.size W w') (hone : fv.oneCell' = true) (hfv : ∃ f c, fv = .func f #[] c) :
  Calls Tryz.prog 150 #[.pointer p, .int .u32 z, .int .i64 k, fv] w fun e w' => e = .returned (.bool false) ∧ Below w.heap.size w w' := by
 have HO := Lib.hid hO
 have HBB : Hid (∀ o o' : Obj, Below w.heap.size w ((w.alloc o).alloc o')) := Lib.hid fun o o' => ((Below.refl _ _).alloc (Nat.le_refl _) _).alloc (by simp) _
 obtain ⟨f, c, rfl⟩ := hfv
 clear hO hone
 go_enter Tryz.func150, Tryz.ntmps150
 go_wp2_with fail
 refine (HO.out _ (HBB.out _ _)).mono ?_
 rintro e w1 ⟨rfl, hb1⟩
 have HB1 := Lib.hid ((HBB.out _ _).trans (hb1.mono (HBB.out _ _).size))
 clear hb1
 go_wp2
 go_ret
 exact ⟨rfl, HB1.out⟩

theorem fine_ok {a K : Nat} (hall : ∀ i, i < K → okA n L (a + i) = true) (x : BP a K) : okP n (Gm.plN L x.1.page) = true := by
 obtain ⟨p, h1, h2, h3, h4⟩ := x
 have := hall p.from_ (by omega)
 unfold okA at this
 rw [show (a + p.from_) / 64 = p.page by omega] at this
 exact this

theorem ownFrom_kq {β : Type} {T : List Nat} {w0 : World} {B : Nat} (hB : w0.heap.size ≤ B) : OwnFrom B (fun (_ : β) W => Kq T w0 W) := fun _ X Y row hs hg hr =>
 ⟨hg.os.trans hs.os, hg.tape.trans hs.tape, hg.output.trans hs.output, Nat.le_trans hs.size hg.size, fun q hq hn => (hg.block q (Nat.lt_of_lt_of_le hq hs.size) (fun e => by have := (hr q e.symm).1; omega)).trans (hs.block q hq hn)⟩
theorem ownFrom_more {β : Type} {I : β → World → Prop} {B B' : Nat} (h : OwnFrom B I) (hB : B ≤ B') : OwnFrom B' I := fun s X Y row hs hg hr => h s X Y row hs hg (fun r e => ⟨Nat.le_trans hB (hr r e).1, (hr r e).2⟩)
theorem frP_ok (hL : Gm.Okay L) {j : Nat} (h : okP n (Gm.plN L j) = true) : frP n (Gm.plN L j) = ((frN L j : Nat) : Int) := by
 obtain ⟨f, h1, h2, _, _⟩ := ok_frame hL h
 unfold frP
 rw [h, if_pos rfl, h1, h2]
/-- what is done part by part -/
theorem each_yes (a K : Nat) (haK : a + K ≤ 512) (ht : ownB n L a K = true) (hall : ∀ i, i < K → okA n L (a + i) = true) (fn : Nat) (caps : Array Value)
  (hen : ∀ args w, (callFunc fn args).run Tryz.prog w = .ok (.enter fn args) w) (I : List (BP a K) → World → Prop) (T : List Nat) (w : World) (hP : PV w b s m n S L D)
  (hI : OwnFrom w.heap.size I) (hIP : ∀ pre W, I pre W → ∃ S' D', PV W b s m n S' L D') (hT : ∀ q ∈ T, q < w.heap.size)
  (hdo : ∀ (pre : List (BP a K)) (x : BP a K) W, Kq T w W → I pre W → pre.length < 512 → Calls Tryz.prog fn (#[x.1.v, .int .i64 (frN L x.1.page : Nat)] ++ caps) W fun e W' => e = .returned (.tuple #[]) ∧ I (pre ++ [x]) W' ∧ Kz T W W' ∧ Kq T w W')
  (h0 : I [] w) :
  Calls Tryz.prog 150 #[.pointer (some ⟨b, 0, none⟩), .int .u32 a, .int .i64 K, .func (.func fn) #[] caps] w fun e w' => e = .returned (.bool true) ∧ I (partsG a K K 0) w' ∧ Kq T w w' := by
 have HO : Hid (∀ W, Below w.heap.size w W → Calls Tryz.prog 154 #[.pointer (some ⟨b, 0, none⟩), .int .u32 a, .int .i64 K] W fun e w' => e = .returned (.bool true) ∧ Below W.heap.size W w') := Lib.hid fun W hW => own_any (a : Int) (K : Int) true (by omega) (by omega) ht W (hP.more hW)
 have HI := Lib.hid hI
 have HIP := Lib.hid hIP
 have HT := Lib.hid hT
 have HDO := Lib.hid hdo
 have H0 := Lib.hid h0
 have HALL := Lib.hid hall
 have HAK := Lib.hid haK
 have HBB : Hid (∀ o o' : Obj, Below w.heap.size w ((w.alloc o).alloc o')) := Lib.hid fun o o' => ((Below.refl _ _).alloc (Nat.le_refl _) _).alloc (by simp) _
 have ha : (a : Int) ≤ 512 := by omega
 clear hP hI hIP hT hdo h0 hall haK ht
 refine (callsIn_wide (n := 102)).1 ?_
 refine callsIn_of_wp_marks Tryz.func150 rfl trivial ?_ rfl
 simp only [Tryz.ntmps150, List.size_toArray, List.length_cons, List.length_nil, Nat.reduceAdd, Nat.reduceSub, Array.replicate_succ, Array.replicate_zero, List.push_toArray, List.append_toArray, List.nil_append, List.cons_append]
 gi_wp2_with (first | (refine ⟨trivial, ?_⟩; gi_at_call 154; refine (callsIn_wide.2 (HO.out _ (HBB.out _ _))).mono ?_; rintro e w1 ⟨rfl, hb1⟩) | (refine ⟨trivial, ?_⟩; gi_at_call 155; refine (callsIn_wide.2 (parts_any _ _ _)).mono ?_; rintro e w' ⟨rfl, rfl⟩))
 have bV : Boxed ((w1.alloc (.cells #[.int .i64 a] 3)).alloc (.cells #[.int .i64 K] 3)) w.heap.size 25 (.pointer (some ⟨b, 0, none⟩)) := by
  have hx : Boxed w1 w.heap.size 25 (.pointer (some ⟨b, 0, none⟩)) := (hb1.block w.heap.size (by simp; omega)).trans ((Boxed.new w 25 (.pointer (some ⟨b, 0, none⟩))).alloc (.cells #[.func (.func fn) #[] caps] 238))
  exact (hx.alloc _).alloc _
 have bF : Boxed ((w1.alloc (.cells #[.int .i64 a] 3)).alloc (.cells #[.int .i64 K] 3)) (w.heap.size + 1) 238 (.func (.func fn) #[] caps) := by
  have h := Boxed.new (w.alloc (.cells #[.pointer (some ⟨b, 0, none⟩)] 25)) 238 (.func (.func fn) #[] caps)
  rw [World.size_alloc] at h
  have hx : Boxed w1 (w.heap.size + 1) 238 (.func (.func fn) #[] caps) := (hb1.block (w.heap.size + 1) (by simp)).trans h
  exact (hx.alloc _).alloc _
 have bA := (Boxed.new w1 3 (.int .i64 a)).alloc (.cells #[.int .i64 K] 3)
 have bK := Boxed.new (w1.alloc (.cells #[.int .i64 a] 3)) 3 (.int .i64 K)
 rw [World.size_alloc] at bK
 have hW1 : Below w.heap.size w w1 := (HBB.out _ _).trans (hb1.mono (HBB.out _ _).size)
 have hs1 : w.heap.size + 2 ≤ w1.heap.size := by have := hb1.size; simp at this; omega
 have hB0 : Below w.heap.size w ((w1.alloc (.cells #[.int .i64 a] 3)).alloc (.cells #[.int .i64 K] 3)) := (hW1.alloc hW1.size _).alloc (by have := hW1.size; simp; omega) _
 have hsz : ((w1.alloc (.cells #[.int .i64 a] 3)).alloc (.cells #[.int .i64 K] 3)).heap.size = w1.heap.size + 2 := by simp
 obtain ⟨W0, hW0⟩ : ∃ W0, (w1.alloc (.cells #[.int .i64 a] 3)).alloc (.cells #[.int .i64 K] 3) = W0 := ⟨_, rfl⟩
 rw [hW0] at bV bF bA bK hB0 hsz ⊢
 have HI0 : Hid (I [] W0) := Lib.hid (HI.out [] w W0 none H0.out ⟨hB0.os, hB0.tape, hB0.output, hB0.size, fun k hk _ => hB0.block k hk⟩ (fun r e => by cases e))
 clear hW0 hb1 hW1
 refine wpIn_rangeFunc_ownH rfl (by omega) (gf := 156) (lb := #[.pointer (some ⟨w1.heap.size + 1, 0, none⟩), .pointer (some ⟨w1.heap.size, 0, none⟩)]) rfl trivial (enters_of Tryz.func156 (by kernel_rfl) rfl)
  (parts_stops (w1.heap.size + 1) w1.heap.size a K T W0 HAK.out (fun q hq => by have := HT.out q hq; exact ⟨by omega, by omega, by omega⟩) bK bA) Kc.trans kc_put (Below.refl _ _) (fun _ => rfl)
  (fun pre W => (I pre W ∧ Boxed W w.heap.size 25 (.pointer (some ⟨b, 0, none⟩)) ∧ Boxed W (w.heap.size + 1) 238 (.func (.func fn) #[] caps)) ∧ Kq T w W)
  (fun _ _ _ => False)
  (OwnFrom.and (fun s X Y row hs hg hr => ⟨ownFrom_more HI.out (by omega) s X Y row hs.1 hg hr, boxed_own _ _ (fun _ : Unit => _) () X Y row hs.2.1 hg (fun r e => (hr r e).2), boxed_own _ _ (fun _ : Unit => _) () X Y row hs.2.2 hg (fun r e => (hr r e).2)⟩) (ownFrom_kq (by omega)))
  (fun _ _ _ _ _ hs _ _ => hs)
  ⟨⟨HI0.out, bV, bF⟩, Kq.of_below hB0⟩
  (fun x a' W => ∃ Bx, w.heap.size + 1 < Bx ∧ Blk W Bx 237 x.1.cs ∧ a' = { tmps := #[.pointer (some ⟨b, 0, none⟩), .int .u32 a, .int .i64 K, .func (.func fn) #[] caps, .pointer (some ⟨w.heap.size, 0, none⟩), undef, undef, .pointer (some ⟨w.heap.size + 1, 0, none⟩), .bool false, .pointer (some ⟨Bx, 0, none⟩), undef, undef, .pointer (some ⟨b, 0, none⟩), .int .u32 a, .int .i64 K, .bool true, .bool false, .int .u32 a, .int .i64 a, .int .i64 K, .func (.func 156) #[] #[.pointer (some ⟨w1.heap.size + 1, 0, none⟩), .pointer (some ⟨w1.heap.size, 0, none⟩)], x.1.v, undef, undef, undef, undef, undef, undef, undef, undef, undef, undef, undef], defers := [] })
  (fun x a' _ X Y row hs hg hr => by obtain ⟨Bx, h1, h2, h3⟩ := hs; exact ⟨Bx, h1, blk_own Bx _ (fun _ : Unit => _) () X Y row h2 hg (fun r e => (hr r e).2), h3⟩)
  ?assign ?body ?done ?stop
 case assign =>
  rintro l pre x W K' ⟨⟨hp, bV1, bF1⟩, hB1⟩ hK
  have hlt := bF1.lt
  dsimp only [encP, Part.v]
  gi_wp2
  have hbw : Below W.heap.size W (W.alloc (.cells #[.int .i64 x.1.page, .int .i64 x.1.off, .int .i64 x.1.k, .int .i64 x.1.from_] 237)) := (Below.refl _ W).alloc (Nat.le_refl _) _
  exact hK _ _ ((KeepsOthers.alloc _ _).from _) (Kc.of_below hbw) ⟨⟨HI.out pre W _ none hp ⟨hbw.os, hbw.tape, hbw.output, hbw.size, fun k hk _ => hbw.block k hk⟩ (fun r e => by cases e), bV1.alloc _, bF1.alloc _⟩, hB1.trans (Kq.of_below hbw)⟩ ⟨W.heap.size, by omega, Blk.new W _ _, rfl⟩
 case body =>
  rintro l pre x a' W hl ⟨r, hr⟩ ⟨⟨hp, bV1, bF1⟩, hB1⟩ ⟨Bx, hBx, bX, rfl⟩ hlt
  have cV := bV1.cell
  have cF := bF1.cell
  have x0 : W.cell? ⟨Bx, 0, none⟩ = some (.int .i64 x.1.page) := bX.cell rfl
  have hpg := plN_page (L := L) HAK.out x
  have hok := fine_ok (n := n) (L := L) HALL.out x
  obtain ⟨S', D', hPW⟩ := HIP.out pre W hp
  have hfr := frP_ok hPW.mp.2 hok
  have HFR := Lib.hid (frame_any (b := b) (s := s) (m := m) (n := n) (x.1.page : Int) ((frN L x.1.page : Nat) : Int) true (by rw [hpg]; exact hok) (by rw [hpg]; exact hfr) W hPW)
  have HPR := Lib.hid hp
  have bF2 := Lib.hid bF1
  have bV2 := Lib.hid bV1
  have bX2 := Lib.hid bX
  have HKW := Lib.hid hB1
  have HHL := Lib.hid hl
  have HLEN : Hid (pre.length < 512) := Lib.hid (by have := partsG_len a K K 0; have := HAK.out; omega)
  clear hpg hok hfr hp bF1 bV1 hB1 bX hr hlt hl hPW
  generalize hFN : ((frN L x.1.page : Nat) : Int) = F at HFR
  gi_wp2_with (first | (refine ⟨trivial, ?_⟩; gi_at_call 101; refine (CallsIn.inRound l (callsIn_wide.2 HFR.out)).mono ?_; rintro e w2 ⟨rfl, hb2⟩; have bF3 : Boxed w2 (w.heap.size + 1) 238 (.func (.func fn) #[] caps) := (hb2.block _ bF2.out.lt).trans bF2.out; have cF2 := bF3.cell; have bX3 : Blk w2 Bx 237 x.1.cs := (hb2.block _ bX2.out.lt).trans bX2.out; have y0 : w2.cell? ⟨Bx, 0, none⟩ = some (.int .i64 x.1.page) := bX3.cell rfl; have y1 : w2.cell? ⟨Bx, 1, none⟩ = some (.int .i64 x.1.off) := bX3.cell rfl; have y2 : w2.cell? ⟨Bx, 2, none⟩ = some (.int .i64 x.1.k) := bX3.cell rfl; have y3 : w2.cell? ⟨Bx, 3, none⟩ = some (.int .i64 x.1.from_) := bX3.cell rfl))
  have hk2 : Kq T w w2 := HKW.out.trans (Kq.of_below hb2)
  have hI2 : I pre w2 := HI.out pre W w2 none HPR.out ⟨hb2.os, hb2.tape, hb2.output, hb2.size, fun k hk _ => hb2.block k hk⟩ (fun r e => by cases e)
  have HD := HDO.out pre x w2 hk2 hI2 HLEN.out
  rw [hFN] at HD
  have bV3 : Boxed w2 w.heap.size 25 (.pointer (some ⟨b, 0, none⟩)) := (hb2.block _ bV2.out.lt).trans bV2.out
  refine ⟨trivial, ?_⟩
  refine (CallsIn.inRound l (callsIn_wide.2 HD)).mono ?_
  rintro e w3 ⟨rfl, hI3, hk3, hq3⟩
  have hw : w.heap.size ∉ T := fun e => by have := HT.out _ e; omega
  have hw1 : w.heap.size + 1 ∉ T := fun e => by have := HT.out _ e; omega
  have HF3 := Lib.hid (show KeepsFrom W0.heap.size W w3 from (keepsFrom_below hb2).trans (keepsFrom_kz hk3 (fun q hq => by have := HT.out q hq; omega)))
  have HC3 := Lib.hid ((Kc.of_below (T := T) hb2).trans (Kc.of_kz hk3))
  have HI3 := Lib.hid hI3
  have HV3 := Lib.hid (boxed_kc bV3 (Kc.of_kz hk3) hw (by decide))
  have HB3 := Lib.hid (boxed_kc bF3 (Kc.of_kz hk3) hw1 (by decide))
  have HK3 := Lib.hid hq3
  clear hk2 hI2 HD bV3 hI3 hk3 hq3 hw hw1 bF3 cF2 bX3 y0 y1 y2 y3 hb2
  gi_wp2
  exact ⟨HF3.out, HC3.out, ⟨HI3.out, HV3.out, HB3.out⟩, HK3.out⟩
 case done =>
  rintro D' zs W hD rfl ⟨⟨hp, bV1, bF1⟩, hB1⟩ hK'
  gi_wp2
  refine ⟨by simp, .inl ⟨_, _, rfl, run_takeDeferred hK', ?_⟩⟩
  have hg := grownBy_putObj' W D' (.deferred none)
  refine ⟨_, results_tmp rfl _ _ _, rfl, ownFrom_more (B' := W0.heap.size) HI.out (by omega) _ W _ (some D') hp hg (fun r e => by cases e; exact ⟨by omega, _, hK', rfl⟩), ?_⟩
  exact ownFrom_kq (β := Unit) (T := T) (w0 := w) (B := W0.heap.size) (by omega) () W _ (some D') hB1 hg (fun r e => by cases e; exact ⟨by omega, _, hK', rfl⟩)
 case stop =>
  rintro D' c pre W _ _ h _
  exact h.elim
end
end Go.Proofs.YteaincdeoajkeaaGreatDoor.Vw
end
section
/- Package view: Read of the program. -/
namespace Go.Proofs.YteaincdeoajkeaaGreatDoor.Vw
open Go.RowKit Go.Shelf Ut Oc
set_option maxRecDepth 100000
set_option linter.unusedVariables false
set_option maxHeartbeats 4000000

theorem prtB_len {L : List Gm.Pl} {S : List Int} (hS : S.length = 2048) {p : Part} (h1 : p.off + p.k ≤ 64) (hf : frN L p.page < 32) : (prtB L S p).length = p.k := by
 unfold prtB Fr.frameL
 simp [hS]
 omega
theorem foldB_snoc {L : List Gm.Pl} {S : List Int} {a K : Nat} (l : List (BP a K)) (x : BP a K) : foldB L S (l ++ [x]) = foldB L S l ++ prtB L S x.1 := by
 simp [foldB, List.flatMap_append]
theorem foldB_len {L : List Gm.Pl} {S : List Int} {a K : Nat} (hS : S.length = 2048) (l : List (BP a K)) : (foldB L S l).length ≤ 64 * l.length := by
 induction l with
 | nil => simp [foldB]
 | cons x l ih =>
  have : (prtB L S x.1).length ≤ 64 := by
   unfold prtB Fr.frameL
   simp
   omega
  simp only [foldB, List.flatMap_cons, List.length_append, List.length_cons] at ih ⊢
  omega

/-- blocks below B but those of T stay as they are -/
structure Kr (B : Nat) (T : List Nat) (w w' : World) : Prop where
 os : w'.os = w.os
 tape : w'.tape = w.tape
 output : w'.output = w.output
 size : w.heap.size ≤ w'.heap.size
 block : ∀ q, q < B → q ∉ T → w'.heap[q]? = w.heap[q]?
theorem Kr.of_below {B : Nat} {T : List Nat} {w w' : World} (h : Below B w w') : Kr B T w w' := ⟨h.os, h.tape, h.output, h.size, fun q hq _ => h.block q hq⟩
theorem Kq.and_kr {T : List Nat} {w w1 w2 : World} (h : Kq T w w1) (k : Kr w.heap.size T w1 w2) : Kq T w w2 :=
 ⟨k.os.trans h.os, k.tape.trans h.tape, k.output.trans h.output, Nat.le_trans h.size k.size, fun q hq hn => (k.block q hq hn).trans (h.block q hq hn)⟩
theorem row_slice {w : World} {B n : Nat} {g : Nat} {zs : List Int} (h : RowK .u8 w B (some ⟨g, 0, none⟩) n zs) (i k : Nat) (hik : i + k ≤ n) : RowK .u8 w B (some ⟨g, i, none⟩) k ((zs.drop i).take k) := by
 have := h.part i k hik
 rwa [add_plain] at this

section
variable {b s m n : Nat} {S : List Int} {L : List Gm.Pl} {D : List Bool}
theorem read1_any (Bv Bb B0 : Nat) (x : Part) (hk : x.off + x.k ≤ 64) (hk0 : 0 < x.k) (hf : frN L x.page < n) (v : Value) (i : Nat) (xs : List Int) (hi : i ≤ 50000) (w : World) (hP : PV w b s m n S L D) (hV : Boxed w Bv 25 (.pointer (some ⟨b, 0, none⟩)))
  (hB : Boxed w Bb 70 v) (hO : OwnI .u8 w B0 5 v i xs) (h1 : Bb < B0) (h2 : B0 ≤ w.heap.size) (h3 : b < B0) (h4 : Bv < B0) :
  Calls Tryz.prog 151 #[x.v, .int .i64 (frN L x.page : Nat), .pointer (some ⟨Bv, 0, none⟩), .pointer (some ⟨Bb, 0, none⟩)] w fun e w' =>
   e = .returned (.tuple #[]) ∧ (∃ v', Boxed w' Bb 70 v' ∧ OwnI .u8 w' B0 5 v' (i + x.k) (xs ++ prtB L S x)) ∧ Kr B0 [Bb] w w' ∧ Kz [Bb] w w' := by
 obtain ⟨P, O, Q, G⟩ := x
 dsimp only at hk hk0 hf ⊢
 have cV := hV.cell
 have c0 := hP.cell0
 have lV := hV.lt
 have lb := hP.lt
 have HBA : Hid (Below w.heap.size w (w.alloc (.cells #[.int .i64 P, .int .i64 O, .int .i64 Q, .int .i64 G] 237))) := Lib.hid ((Below.refl _ _).alloc (Nat.le_refl _) _)
 have HNA : Hid (Blk (w.alloc (.cells #[.int .i64 P, .int .i64 O, .int .i64 Q, .int .i64 G] 237)) w.heap.size 237 [.int .i64 P, .int .i64 O, .int .i64 Q, .int .i64 G]) := Lib.hid (Blk.new w _ _)
 have HBY := Lib.hid (Fr.bytes_in s n (frN L P) S _ (hP.more HBA.out).st hf)
 have hSL := hP.st.2.1
 have hn32 := hP.st.2.2.2
 have hpl := prtB_len (L := L) hSL (p := ⟨P, O, Q, G⟩) hk (by show frN L P < 32; omega)
 have HPL := Lib.hid hpl
 have HPE : Hid (prtB L S ⟨P, O, Q, G⟩ = ((Fr.frameL S (frN L P)).drop O).take Q) := Lib.hid rfl
 obtain ⟨Z, hZ⟩ : ∃ Z, prtB L S ⟨P, O, Q, G⟩ = Z := ⟨_, rfl⟩
 rw [hZ] at HPL HPE ⊢
 have HB := Lib.hid hB
 have HO := Lib.hid hO
 have H1 := Lib.hid h1
 have H2 := Lib.hid h2
 have HI := Lib.hid hi
 have HK := Lib.hid hk
 clear hP hV hB hO hpl hSL hn32 hf hZ h1 h2 h3 h4 hi
 show Calls _ _ #[.agg #[.int .i64 P, .int .i64 O, .int .i64 Q, .int .i64 G], _, _, _] _ _
 go_enter Tryz.func151, Tryz.ntmps151
 go_wp2_with fail
 refine HBY.out.mono ?_
 rintro e w1 ⟨rfl, hrw, hb1⟩
 have HB1 := Lib.hid (HBA.out.trans (hb1.mono HBA.out.size))
 rw [World.size_alloc] at hrw
 have HRW := Lib.hid hrw
 have HN1 := Lib.hid (HNA.out.more hb1)
 clear hrw hb1 cV c0 HBY HBA HNA
 go_upto_region 2 with fail
 have hbox : Boxed w1 Bb 70 v := (HB1.out.block _ HB.out.lt).trans HB.out
 have hown := HO.out.below HB1.out
 obtain ⟨va, vc, rfl, _⟩ := hown.row
 have cB := hbox.cell
 have p1 : w1.cell? ⟨w.heap.size, 1, none⟩ = some (.int .i64 O) := HN1.out.cell rfl
 have p2 : w1.cell? ⟨w.heap.size, 2, none⟩ = some (.int .i64 Q) := HN1.out.cell rfl
 have hrow := row_slice (w := w1.drew) HRW.out O Q HK.out
 rw [← HPE.out] at hrow
 obtain ⟨v', w', hrun, ho', hg', _⟩ := run_append_ints (P := Tryz.prog) w1.drew .u8 B0 70 70 5 1 Tryz.underlying70 (by kernel_rfl) (.slice va i vc) i xs (show OwnI .u8 w1.drew B0 5 (.slice va i vc) i xs from hown) _ (some ⟨w.heap.size + 1, O, none⟩) Q (64 - O) Z hrow (by have := HI.out; have := HK.out; unfold maxLen; omega) (by have := HI.out; have := HK.out; omega) (Nat.le_trans H2.out HB1.out.size)
 have hbb : Boxed w' Bb 70 (.slice va i vc) := (hg'.block Bb hbox.lt (fun e => by have := (hown.lt Bb e.symm).1; have := H1.out; omega)).trans hbox
 obtain ⟨va', vc', rfl, _⟩ := ho'.row
 have cB' := hbb.cell
 have fB' := hbb.frozen
 have HRUN := Lib.hid hrun
 have HO2 := Lib.hid ho'
 have HG2 := Lib.hid hg'
 have HBX := Lib.hid hbb
 have HOB : Hid (∀ k, (Value.slice va i vc).ownBlock = some k → B0 ≤ k) := Lib.hid fun k hk => (hown.lt k hk).1
 have HOC : Hid (∀ k, (Value.slice va i vc).ownBlock = some k → ∃ cur, w.heap[k]? = some (.cells cur 5 (0, 0))) := Lib.hid fun k hk => by
  rcases HO.out.2 with ⟨e, _⟩ | ⟨g, cp, cur, e, _, hg, _⟩
  ·rw [e] at hk; cases hk
  ·rw [e] at hk
   simp only [Value.ownBlock] at hk
   injection hk with hk
   subst hk
   exact ⟨cur, hg⟩
 obtain ⟨E, hE⟩ : ∃ E, O + Q = E := ⟨_, rfl⟩
 have hk64 := HK.out
 have e4 : ¬ 64 = O := by omega
 have e7 : IntKind.i64.wrap ((O : Int) + (Q : Int)) = (E : Int) := by
  rw [IntWalk.i64_in _ (by omega)]; omega
 have e8 : (0 : Int) ≤ (E : Int) ∧ (E : Int) ≤ 64 := by omega
 have e9 : E ≤ 64 := by omega
 have e10 : O ≤ E := by omega
 have e11 : E - O = Q := by omega
 clear hE hk64 hk0
 clear hrun ho' hg' hown hbox hbb hrow
 go_region_law (refine step_append_run rfl (.tmp 17) (.tmp 26) 70 rfl _ _ rfl rfl _ w' HRUN.out ?_)
 all_goals go_end0
 all_goals
  have hbw : Below B0 w w' := ((HB1.out.mono H2.out).drew).grown HG2.out (Nat.le_trans H2.out HB1.out.size) HOB.out
  have hne : (Value.slice va' (i + Q) vc').ownBlock ≠ some Bb := fun e => by have := (HO2.out.lt Bb e).1; have := H1.out; omega
  refine ⟨rfl, ⟨_, HBX.out.set _, World.ownsRow.kept HO2.out (grown_setCell w' Bb 0 _) (.inr hne)⟩, ⟨hbw.os, hbw.tape, hbw.output, by simpa [World.setCell] using hbw.size, fun q hq hn => (Below.heap_setCell _ _ _ _ (fun e => hn (by simp [e]))).trans (hbw.block q hq)⟩, by simpa [World.setCell] using hbw.size, fun q o hq hn hno => ?_⟩
  refine (Below.heap_setCell _ _ _ _ (fun e => hn (by simp [e]))).trans ?_
  have hq1 : w1.heap[q]? = some o := (HB1.out.block q (Array.getElem?_eq_some_iff.1 hq).1).trans hq
  refine (HG2.out.block q (Array.getElem?_eq_some_iff.1 hq1).1 (fun e => ?_)).trans hq1
  obtain ⟨cur, hc⟩ := HOC.out q e.symm
  rw [hq] at hc
  injection hc with hc
  exact hno _ _ hc

/-- between two parts: what has come lies in the variable -/
def RdI (b s m n : Nat) (S : List Int) (L : List Gm.Pl) (D : List Bool) (Bv Bb B0 : Nat) {a K : Nat} (pre : List (BP a K)) (W : World) : Prop :=
 PV W b s m n S L D ∧ Boxed W Bv 25 (.pointer (some ⟨b, 0, none⟩)) ∧ B0 ≤ W.heap.size ∧ ∃ v, Boxed W Bb 70 v ∧ OwnI .u8 W B0 5 v (foldB L S pre).length (foldB L S pre)
theorem pv_own {W W' : World} {row : Option Nat} (h : PV W b s m n S L D) (hg : W.grownBy W' row) (hr : ∀ r, row = some r → ∃ o : Obj, W.heap[r]? = some o ∧ o.isCells = false) : PV W' b s m n S L D := by
 have hne : ∀ q cs t fr, W.heap[q]? = some (.cells cs t fr) → some q ≠ row := fun q cs t fr hq e => by
  obtain ⟨o, ho, hc⟩ := hr q e.symm
  rw [hq] at ho
  injection ho with ho
  subst ho
  cases hc
 exact ⟨h.blk.kept hg (hne b _ _ _ h.blk), h.st.of_block (hg.block s h.st.lt (hne s _ _ _ h.st.1)), h.mp.kept hg (hne m _ _ _ h.mp.1), h.len, h.pos, h.sm, h.mb⟩
theorem own_own {W W' : World} {row : Option Nat} {B0 : Nat} {v : Value} {i : Nat} {xs : List Int} (h : OwnI .u8 W B0 5 v i xs) (hg : W.grownBy W' row) (hr : ∀ r, row = some r → ∃ o : Obj, W.heap[r]? = some o ∧ o.isCells = false) : OwnI .u8 W' B0 5 v i xs := by
 refine World.ownsRow.kept h hg ?_
 cases hv : v.ownBlock with
 | none => exact .inl rfl
 | some g =>
  refine .inr fun e => ?_
  obtain ⟨o, ho, hc⟩ := hr g e.symm
  rcases h.2 with ⟨e2, _⟩ | ⟨g2, cp, cur, e2, _, hg2, _⟩
  ·rw [e2] at hv; cases hv
  ·rw [e2] at hv
   simp only [Value.ownBlock] at hv
   injection hv with hv
   subst hv
   rw [hg2] at ho
   injection ho with ho
   subst ho
   cases hc
theorem rdI_own (Bv Bb B0 : Nat) {a K : Nat} (B : Nat) : OwnFrom B (fun (pre : List (BP a K)) W => RdI b s m n S L D Bv Bb B0 pre W) := fun pre X Y row hs hg hr => by
 obtain ⟨h1, h2, h3, v, h4, h5⟩ := hs
 have hr2 := fun r e => (hr r e).2
 exact ⟨pv_own h1 hg hr2, boxed_own _ _ (fun _ : Unit => _) () X Y row h2 hg hr2, Nat.le_trans h3 hg.size, v, boxed_own _ _ (fun _ : Unit => _) () X Y row h4 hg hr2, own_own h5 hg hr2⟩

theorem read_no (p : Option Addr) (z k : Int) (w : World) (hE : ∀ W c, Below w.heap.size w W → Calls Tryz.prog 150 #[.pointer p, .int .u32 z, .int .i64 k, .func (.func 151) #[] c] W fun e w' => e = .returned (.bool false) ∧ Below W.heap.size W w') :
  Calls Tryz.prog 136 #[.pointer p, .int .u32 z, .int .i64 k] w fun e w' => e = .returned (.tuple #[.slice none 0 0, .bool false]) ∧ Below w.heap.size w w' := by
 have HE := Lib.hid hE
 have HBB : Hid (∀ o o' : Obj, Below w.heap.size w ((w.alloc o).alloc o')) := Lib.hid fun o o' => ((Below.refl _ _).alloc (Nat.le_refl _) _).alloc (by simp) _
 have HBX : Hid (∀ o o' : Obj, ((w.alloc o).alloc o').heap.size = w.heap.size + 2) := Lib.hid fun o o' => by simp
 have HBN : Hid (∀ o, Boxed ((w.alloc o).alloc (.cells #[.slice none 0 0] 70)) (w.heap.size + 1) 70 (.slice none 0 0)) := Lib.hid fun o => by
  have h := Boxed.new (w.alloc o) 70 (.slice none 0 0)
  rwa [World.size_alloc] at h
 clear hE
 go_enter Tryz.func136, Tryz.ntmps136
 go_wp2_with fail
 refine (HE.out _ _ (HBB.out _ _)).mono ?_
 rintro e w1 ⟨rfl, hb1⟩
 have HB1 := Lib.hid ((HBB.out _ _).trans (hb1.mono (HBB.out _ _).size))
 have hbx : Boxed w1 (w.heap.size + 1) 70 (.slice none 0 0) := (hb1.block _ (by rw [HBX.out]; omega)).trans (HBN.out _)
 have cB := hbx.cell
 clear hb1 hbx
 go_wp2
 go_ret2
 exact ⟨rfl, HB1.out⟩

theorem read_yes2 (a K : Nat) (haK : a + K ≤ 512) (ht : ownB n L a K = true) (hall : ∀ i, i < K → okA n L (a + i) = true) (w : World) (hP : PV w b s m n S L D) :
  Calls Tryz.prog 136 #[.pointer (some ⟨b, 0, none⟩), .int .u32 a, .int .i64 K] w fun e w' => ∃ p q c, e = .returned (.tuple #[.slice p q c, .bool true]) ∧ Hid (RowK .u8 w' w'.heap.size p q (rB L S a K)) ∧ Below w.heap.size w w' ∧ q ≤ c ∧ c ≤ 9223372036854775807 := by
 have HBB : Hid (∀ o o' : Obj, Below w.heap.size w ((w.alloc o).alloc o')) := Lib.hid fun o o' => ((Below.refl _ _).alloc (Nat.le_refl _) _).alloc (by simp) _
 have bV : Boxed ((w.alloc (.cells #[.pointer (some ⟨b, 0, none⟩)] 25)).alloc (.cells #[.slice none 0 0] 70)) w.heap.size 25 (.pointer (some ⟨b, 0, none⟩)) := (Boxed.new w _ _).alloc _
 have bB : Boxed ((w.alloc (.cells #[.pointer (some ⟨b, 0, none⟩)] 25)).alloc (.cells #[.slice none 0 0] 70)) (w.heap.size + 1) 70 (.slice none 0 0) := by
  have h := Boxed.new (w.alloc (.cells #[.pointer (some ⟨b, 0, none⟩)] 25)) 70 (.slice none 0 0)
  rwa [World.size_alloc] at h
 have hsz : ((w.alloc (.cells #[.pointer (some ⟨b, 0, none⟩)] 25)).alloc (.cells #[.slice none 0 0] 70)).heap.size = w.heap.size + 2 := by simp
 have hPW := hP.more (HBB.out (.cells #[.pointer (some ⟨b, 0, none⟩)] 25) (.cells #[.slice none 0 0] 70))
 have hB := HBB.out (.cells #[.pointer (some ⟨b, 0, none⟩)] 25) (.cells #[.slice none 0 0] 70)
 have HLB := Lib.hid hP.lt
 have hSL := hP.st.2.1
 have hOK := hP.mp.2
 have HF32 : Hid (∀ i, i < K → frN L ((a + i) / 64) < 32) := Lib.hid fun i hi => by
  obtain ⟨f, _, h2, _, h4⟩ := ok_frame hOK (show okP n (Gm.plN L ((a + i) / 64)) = true from hall i hi)
  omega
 have HEY : Hid (Calls Tryz.prog 150 #[.pointer (some ⟨b, 0, none⟩), .int .u32 a, .int .i64 K, .func (.func 151) #[] #[.pointer (some ⟨w.heap.size, 0, none⟩), .pointer (some ⟨w.heap.size + 1, 0, none⟩)]] ((w.alloc (.cells #[.pointer (some ⟨b, 0, none⟩)] 25)).alloc (.cells #[.slice none 0 0] 70)) fun e w' =>
   e = .returned (.bool true) ∧ RdI b s m n S L D w.heap.size (w.heap.size + 1) (w.heap.size + 2) (partsG a K K 0) w' ∧ Kq [w.heap.size + 1] ((w.alloc (.cells #[.pointer (some ⟨b, 0, none⟩)] 25)).alloc (.cells #[.slice none 0 0] 70)) w') := Lib.hid <| by
  refine each_yes a K haK ht hall 151 _ (fun _ _ => rfl) (RdI b s m n S L D w.heap.size (w.heap.size + 1) (w.heap.size + 2)) [w.heap.size + 1] _ hPW (rdI_own _ _ _ _) (fun pre W h => ⟨S, D, h.1⟩) (by simp) ?_ ⟨hPW, bV, by rw [hsz]; exact Nat.le_refl _, _, bB, OwnI.nil _ _ _ _⟩
  intro pre x W hk hI hlen
  obtain ⟨h1, h2, h3, v, h4, h5⟩ := hI
  have hok := fine_ok (n := n) (L := L) hall x
  obtain ⟨f, _, hf2, hfn, hf32⟩ := ok_frame hOK hok
  have hpl := prtB_len (L := L) hSL x.2.1 (by omega)
  have hfl := foldB_len (L := L) hSL pre
  refine (read1_any w.heap.size (w.heap.size + 1) (w.heap.size + 2) x.1 x.2.1 x.2.2.2.2 (by omega) v _ _ (by omega) W h1 h2 h4 h5 (by omega) h3 (by have := HLB.out; omega) (by omega)).mono ?_
  rintro e W' ⟨he, ⟨v', h6, h7⟩, hr, hz⟩
  refine ⟨he, ⟨?_, ?_, Nat.le_trans h3 hr.size, v', h6, ?_⟩, hz, Kq.and_kr hk (by rw [hsz]; exact hr)⟩
  ·have hlb := HLB.out
   have hq : Kq [w.heap.size + 1] W W' ∨ True := .inr trivial
   exact ⟨h1.blk.of_block (hr.block b (by omega) (by simp; omega)), h1.st.of_block (hr.block s (by have := h1.sm; have := h1.mb; omega) (by have := h1.sm; have := h1.mb; simp; omega)), ⟨h1.mp.1.of_block (hr.block m (by have := h1.mb; omega) (by have := h1.mb; simp; omega)), h1.mp.2⟩, h1.len, h1.pos, h1.sm, h1.mb⟩
  ·exact (hr.block _ (by omega) (by simp)).trans h2
  ·rw [foldB_snoc, List.length_append, hpl]
   exact h7
 have HFB : Hid (foldB L S (partsG a K K 0) = rB L S a K) := Lib.hid (by
  have := foldB_parts (L := L) (a := a) (K := K) hSL HF32.out K 0 (by omega) (Nat.zero_le _)
  simpa [rB] using this)
 have HBW := Lib.hid hB
 have HSZ := Lib.hid hsz
 clear hPW bV bB hB hP hall ht hsz hSL hOK
 go_enter Tryz.func136, Tryz.ntmps136
 go_wp2_with fail
 refine HEY.out.mono ?_
 rintro e w1 ⟨rfl, ⟨_, _, _, v, h4, h5⟩, hk⟩
 rw [HFB.out, rB_len] at h5
 obtain ⟨va, vc, rfl, hKv, hvm, hrow⟩ := h5.row
 have HCP : Hid (K ≤ vc ∧ vc ≤ 9223372036854775807) := Lib.hid ⟨hKv, by unfold maxLen at hvm; omega⟩
 have cB := h4.cell
 have HB1 : Hid (Below w.heap.size w w1) := Lib.hid ((HBW.out).trans (hk.under (by simp) (HBW.out.size)))
 have HR := Lib.hid hrow
 clear h4 h5 hk hrow hKv hvm
 go_wp2
 go_ret2
 exact ⟨va, K, vc, rfl, HR, HB1.out, HCP.out⟩
theorem read_yes (a K : Nat) (haK : a + K ≤ 512) (ht : ownB n L a K = true) (hall : ∀ i, i < K → okA n L (a + i) = true) (w : World) (hP : PV w b s m n S L D) :
  Calls Tryz.prog 136 #[.pointer (some ⟨b, 0, none⟩), .int .u32 a, .int .i64 K] w fun e w' => ∃ p q c, e = .returned (.tuple #[.slice p q c, .bool true]) ∧ Hid (RowK .u8 w' w'.heap.size p q (rB L S a K)) ∧ Below w.heap.size w w' :=
 (read_yes2 a K haK ht hall w hP).mono fun e w' ⟨p, q, c, he, hr, hb, _⟩ => ⟨p, q, c, he, hr, hb⟩
end
end Go.Proofs.YteaincdeoajkeaaGreatDoor.Vw
end
