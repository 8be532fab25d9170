/- Several texts in one: Ah Aw Km Kn -/
import Derived.Test.YteaincdeoajkeaaGreatDoorZ35
import Derived.Test.YteaincdeoajkeaaGreatDoorZ40
import Derived.Deep.OwnRows
import Derived.Test.YteaincdeoajkeaaGreatDoorZ39
section
/- The document's translations: Narrow. -/
namespace Go.Proofs.YteaincdeoajkeaaGreatDoor.Sb
open Go.RowKit Ut
set_option maxRecDepth 100000
set_option linter.unusedVariables false
set_option maxHeartbeats 4000000

theorem ownT_kq {k B : Nat} {w w' : World} {e : TypeId} {v : Value} {xs : List (List Int)} {T : List Nat} (h : OwnT k w B e v xs) (K : Kq T w w') (hT : ∀ q, v.ownBlock = some q → q ∉ T) : OwnT k w' B e v xs := by
 refine ⟨⟨h.1.1, ?_⟩, h.2⟩
 rcases h.1.2 with h0 | ⟨g, cap, cur, rfl, hB, hg, r⟩
 ·exact .inl h0
 ·exact .inr ⟨g, cap, cur, rfl, hB, (K.block g (Array.getElem?_eq_some_iff.1 hg).1 (hT g rfl)).trans hg, r⟩
section
variable {g n cap : Nat} {room : Int} {a : Option Addr} {l : List Rc}
end
end Go.Proofs.YteaincdeoajkeaaGreatDoor.Sb
end
section
/- Package stlb: List. -/
namespace Go.Proofs.YteaincdeoajkeaaGreatDoor.Sb
open Go.RowKit Ut Hg
set_option maxRecDepth 100000
set_option linter.unusedVariables false
set_option maxHeartbeats 4000000

/-- one record more, out of a block of its own; what else was there stays -/
theorem push_own {w : World} {B : Nat} {v : Value} {xs : List Rc} (hown : OwnT 5 w B 52 v (xs.map Rc.l)) (x : Rc) (hl : xs.length + 1 ≤ 1000000) (hB : B ≤ w.heap.size) :
  ∃ a cap w', (Builtin.append_ #[45, 45] 45 #[v, .slice (some ⟨w.heap.size, 0, none⟩) 1 1]).run Tryz.prog (w.alloc (.cells #[.int .i64 x.kr, .int .i64 x.kp, .int .i64 x.ep, .int .i64 x.ef, .int .i64 x.er] 52)) = .ok (.slice a (xs.length + 1) cap) w' ∧
   OwnT 5 w' B 52 (.slice a (xs.length + 1) cap) ((xs ++ [x]).map Rc.l) ∧ w.grownBy w' v.ownBlock ∧ (∀ q, (Value.slice a (xs.length + 1) cap).ownBlock = some q → v.ownBlock = some q ∨ w.heap.size < q) := by
 obtain ⟨i, hi, hz, hs, hby⟩ := info_parts kept_info
 have hA : Below w.heap.size w (w.alloc (.cells #[.int .i64 x.kr, .int .i64 x.kp, .int .i64 x.ep, .int .i64 x.ef, .int .i64 x.er] 52)) := (Below.refl _ _).alloc (Nat.le_refl _) _
 have hO := hown.alloc (.cells #[.int .i64 x.kr, .int .i64 x.kp, .int .i64 x.ep, .int .i64 x.ef, .int .i64 x.er] 52)
 have hn : ∀ (j : Nat) (u : Value), (encI x.l)[j]? = some u → (w.alloc (.cells #[.int .i64 x.kr, .int .i64 x.kp, .int .i64 x.ep, .int .i64 x.ef, .int .i64 x.er] 52)).cell? ((⟨w.heap.size, 0, none⟩ : Addr).add j) = some u := fun j u hj => cells_new w (encI x.l) 52 j u hj
 obtain ⟨v', w', hrun, h2, h3, _, h5⟩ := run_append_own_at (P := Tryz.prog) _ B 45 45 52 i _ 5 40 Tryz.underlying45 hi hz hs hby rfl (by decide) v (xs.map Rc.l).length _ hO.1 ⟨w.heap.size, 0, none⟩ 1 1 (encI x.l) rfl hn
  (fun u hu => by obtain ⟨z, _, rfl⟩ := List.mem_map.1 hu; rfl) (by rw [List.length_map]; unfold maxLen; omega) (by rw [List.length_map]; omega) (Nat.le_trans hB hA.size)
 have hown2 : OwnT 5 w' B 52 v' ((xs ++ [x]).map Rc.l) := by
  refine ⟨?_, fun q hq => ?_⟩
  ·rw [List.map_append, show List.map Rc.l [x] = [x.l] from rfl, encR_snoc, List.length_append]
   exact h2
  ·obtain ⟨c, _, rfl⟩ := List.mem_map.1 hq
   rfl
 obtain ⟨a, cap, hv, _, _, _, _, _⟩ := RcRow.own hown2
 rw [List.length_append] at hv
 subst hv
 refine ⟨a, cap, w', hrun, hown2, ⟨h3.os.trans hA.os, h3.tape.trans hA.tape, h3.output.trans hA.output, Nat.le_trans hA.size h3.size, fun q hq hne => (h3.block q (Nat.lt_of_lt_of_le hq hA.size) hne).trans (hA.block q hq)⟩, fun q hq => ?_⟩
 rcases h5 with h5 | h5
 ·exact .inl (h5.symm.trans hq)
 ·right
  have := h5.symm.trans hq
  injection this with this
  rw [World.size_alloc] at this
  omega

/-- what first answers, and what is left, told by the list -/
def FirstP (l : List Rc) (e : Ending) (w' : World) (b : Nat) (t : TypeId) (pre : List Value) : Prop := ∃ (c : Us) (q : Bool) (us : List Us) (L : List Rc), e = .returned (.tuple #[usV c, .bool q]) ∧ HP w' b t pre us ∧ Rel us L ∧ l = (if q = true then c.1 :: L else [])
section
variable {W : World} {b o g : Nat} {t : TypeId} {pre : List Value} {us : List Us} {l : List Rc} {room c : Int}
def lenOf : Value → Nat
 | .slice _ n _ => n
 | _ => 0
def zeroL : List Value := .int .i64 0 :: flatU [noU, noU, noU, noU, noU]
theorem size_lately : (Tryz.prog.info? 173).map (·.size) = some 31 := by kernel_rfl
theorem alloc_lately (w : World) : Hid (∀ (ρ : Operand → Value) (o : Oper), o.op = .alloc 173 → (execOp ρ o).run Tryz.prog w = .ok (.value (.pointer (some ⟨w.heap.size, 0, none⟩))) (w.alloc (.cells zeroL.toArray 173))) := Lib.hid fun ρ o ho => by
 unfold execOp
 rw [ho]
 kernel_rfl
/-- where List's loop is: d is told already, L (behind c, if q) is still to come -/
structure LS (W wr : World) (lb xb : Nat) (d : List Rc) (l : List Rc) (c : Us) (q : Bool) (us : List Us) (L : List Rc) (v : Value) : Prop where
 own : OwnT 5 wr (lb + 1) 52 v (d.map Rc.l)
 x : Blk wr xb 170 (usC c)
 h : HP wr lb 173 [] us
 r : Rel us L
 e : d ++ (if q = true then c.1 :: L else []) = l
 ne : ∀ p, v.ownBlock = some p → p ≠ xb
 xg : lb < xb
 lw : W.heap.size ≤ lb
 b : Below W.heap.size W wr
end
end Go.Proofs.YteaincdeoajkeaaGreatDoor.Sb
end
section
/- Package stlb, whatever its counter of uses says: which translations it remembers, in any order; New, Drop, Narrow, Flush. -/
namespace Go.Proofs.YteaincdeoajkeaaGreatDoor.Sb
open Go.RowKit Ut Hg
set_option maxRecDepth 100000
set_option linter.unusedVariables false
set_option maxHeartbeats 4000000

/-- us are those of l, in any order -/
def RelQ (us : List Us) (l : List Rc) : Prop := Once l ∧ (us.map Prod.fst).Perm l
section
variable {us vs us2 : List Us} {l : List Rc} {i : Nat} {u : Us} {x : Rc} {s p q : Int}
theorem RelQ.nil : RelQ [] [] := ⟨List.Pairwise.nil, List.Perm.refl _⟩
theorem RelQ.perm (h : RelQ us l) (hp : us.Perm vs) : RelQ vs l := ⟨h.1, (hp.symm.map _).trans h.2⟩
theorem RelQ.len (h : RelQ us l) : us.length = l.length := by rw [← h.2.length_eq, List.length_map]
theorem RelQ.mem (h : RelQ us l) {x : Rc} : x ∈ l ↔ ∃ s, (x, s) ∈ us := by
 rw [← h.2.mem_iff, List.mem_map]
 constructor
 ·rintro ⟨⟨y, s⟩, hy, rfl⟩; exact ⟨s, hy⟩
 ·rintro ⟨s, hs⟩; exact ⟨(x, s), hs, rfl⟩
theorem once_find {l : List Rc} (ho : Once l) {x : Rc} (hm : x ∈ l) (hi : x.is p q = true) : findL l p q = some x := by
 unfold findL
 induction l with
 | nil => cases hm
 | cons y l ih =>
  rw [List.find?_cons]
  rcases List.mem_cons.1 hm with rfl | hm2
  ·rw [hi]
  ·have hx : y.is p q = false := by
    cases hxx : y.is p q with
    | false => rfl
    | true =>
     have h1 := (List.pairwise_cons.1 ho).1 _ hm2
     have h2 := is_iff.1 hxx
     have h3 := is_iff.1 hi
     exact absurd ⟨h2.1.trans h3.1.symm, h2.2.trans h3.2.symm⟩ h1
   rw [hx]
   exact ih (List.pairwise_cons.1 ho).2 hm2
theorem RelQ.find_some (h : RelQ us l) (hu : u ∈ us) (hi : u.1.is p q = true) : findL l p q = some u.1 := once_find h.1 (h.mem.2 ⟨u.2, hu⟩) hi
theorem RelQ.find_none (h : RelQ us l) (hi : ∀ u ∈ us, u.1.is p q = false) : findL l p q = none := by
 refine Sb.find_none fun y hy => ?_
 obtain ⟨s, hs⟩ := h.mem.1 hy
 exact hi _ hs
theorem once_perm {l m : List Rc} (h : Once l) (hp : l.Perm m) : Once m := (hp.pairwise_iff (fun {a b} hab hba => hab ⟨hba.1.symm, hba.2.symm⟩)).1 h
theorem RelQ.filter (h : RelQ us l) (f : Rc → Bool) : RelQ (us.filter fun u => f u.1) (l.filter f) := by
 refine ⟨h.1.filter _, ?_⟩
 have h1 := h.2.filter f
 rw [List.filter_map] at h1
 exact h1
theorem RelQ.map (h : RelQ us l) (f : Rc → Rc) (hf : ∀ x, (f x).kr = x.kr ∧ (f x).kp = x.kp) : RelQ (us.map fun u => (f u.1, u.2)) (l.map f) := by
 refine ⟨?_, ?_⟩
 ·unfold Once
  rw [List.pairwise_map]
  refine h.1.imp fun {a b} hab => ?_
  rw [(hf a).1, (hf a).2, (hf b).1, (hf b).2]
  exact hab
 ·have h1 := h.2.map f
  rw [List.map_map] at h1 ⊢
  exact h1
theorem RelQ.put (h : RelQ us (withoutL l x.kr x.kp)) (hp : us2.Perm ((x, s) :: us)) : RelQ us2 (withoutL l x.kr x.kp ++ [x]) := by
 refine ⟨?_, ?_⟩
 ·unfold Once
  rw [List.pairwise_append]
  refine ⟨h.1, List.pairwise_singleton _ _, fun a ha b hb => ?_⟩
  simp at hb
  subst hb
  intro e
  have := (List.mem_filter.1 ha).2
  rw [is_iff.2 e] at this
  cases this
 ·refine (hp.map Prod.fst).trans ?_
  rw [List.map_cons]
  exact ((h.2.cons x)).trans (List.perm_append_comm (l₁ := [x]))
/-- one is taken out -/
theorem RelQ.out (h : RelQ us2 l) {r : List Us} (hp : (u :: r).Perm us2) : RelQ r (r.map Prod.fst) ∧ (∀ y ∈ r.map Prod.fst, y ∈ l) ∧ (r.map Prod.fst).length + 1 = l.length ∧ l.Perm (u.1 :: r.map Prod.fst) := by
 have h1 : l.Perm (u.1 :: r.map Prod.fst) := h.2.symm.trans ((hp.map Prod.fst).symm)
 have h2 := once_perm h.1 h1
 refine ⟨⟨(List.pairwise_cons.1 h2).2, List.Perm.refl _⟩, fun y hy => h1.mem_iff.2 (List.mem_cons_of_mem _ hy), ?_, h1⟩
 rw [h1.length_eq]
 rfl
/-- one is used anew -/
theorem RelQ.used (h : RelQ us l) (hu : us[i]? = some u) (hp : us2.Perm (us.set i (u.1, s))) : RelQ us2 l := by
 refine ⟨h.1, ((hp.map Prod.fst).trans (List.Perm.of_eq ?_)).trans h.2⟩
 rw [List.map_set]
 refine List.ext_getElem? fun j => ?_
 rw [List.getElem?_set]
 by_cases hj : i = j
 ·subst hj
  rw [if_pos rfl, List.getElem?_map, hu]
  have := (List.getElem?_eq_some_iff.1 hu).1
  rw [List.length_map, if_pos this]
  rfl
 ·rw [if_neg hj]
end

/-- the program's translations at g: those of l, in any order -/
def QS (W : World) (g : Nat) (room c : Int) (l : List Rc) : Prop := ∃ us, HP W g 175 (hd3 room c) us ∧ RelQ us l
/-- .. at most room -/
def QT (W : World) (g : Nat) (l : List Rc) : Prop := ∃ room c, QS W g room c l ∧ 0 ≤ room ∧ room ≤ 4 ∧ (l.length : Int) ≤ room
section
variable {W W0 W' : World} {g : Nat} {room c : Int} {l l' : List Rc} {us : List Us}
theorem QS.lt (h : QS W g room c l) : g < W.heap.size := h.elim fun _ h => h.1.1.lt
theorem QS.kq {T : List Nat} (h : QS W g room c l) (k : Kq T W W') (hg : g ∉ T) : QS W' g room c l := by
 obtain ⟨us, h1, h2⟩ := h
 exact ⟨us, ⟨h1.1.kq k hg, h1.2⟩, h2⟩
theorem QS.more (h : QS W g room c l) (hb : Below W.heap.size W W') : QS W' g room c l := h.kq (T := []) (Kq.of_below hb) (by simp)
theorem QS.of_perm (h : QS W g room c l) (hp : l.Perm l') : QS W g room c l' := by
 obtain ⟨us, h1, h2⟩ := h
 exact ⟨us, h1, once_perm h2.1 hp, h2.2.trans hp⟩
theorem QT.lt (h : QT W g l) : g < W.heap.size := h.elim fun _ h => h.elim fun _ h => h.1.lt
theorem QT.kq {T : List Nat} (h : QT W g l) (k : Kq T W W') (hg : g ∉ T) : QT W' g l := h.elim fun r h => h.elim fun c h => ⟨r, c, h.1.kq k hg, h.2⟩
theorem QT.more (h : QT W g l) (hb : Below W.heap.size W W') : QT W' g l := h.kq (T := []) (Kq.of_below hb) (by simp)
theorem QT.of_perm (h : QT W g l) (hp : l.Perm l') : QT W g l' := h.elim fun r h => h.elim fun c h => ⟨r, c, h.1.of_perm hp, h.2.1, h.2.2.1, by rw [← hp.length_eq]; exact h.2.2.2⟩
theorem QT.once (h : QT W g l) : Once l := h.elim fun _ h => h.elim fun _ h => h.1.elim fun _ h => h.2.1
theorem QT.len (h : QT W g l) : l.length ≤ 4 := h.elim fun _ h => h.elim fun _ h => by have := h.2; omega
theorem QT.cell0 (h : QT W g l) : W.cell? ⟨g, 0, none⟩ = some (.bool true) := h.elim fun _ h => h.elim fun _ h => h.1.elim fun _ h => h.1.1.pre.1
theorem next_q {c1 : Int} (h : LB W g 175 (hd3 room c) us) (d0 : IntKind.u64.wrap (c + 1) = c1) : Calls Tryz.prog 114 #[.pointer (some ⟨g, 0, none⟩)] W fun e w' => e = .returned (.int .u64 c1) ∧ LB w' g 175 (hd3 room c1) us ∧ Kq [g] W w' := by
 have HL := Lib.hid (h.use c1)
 have HK := Lib.hid ((Kq.refl [g] W).setCell g 2 (.int .u64 c1) (.inl (by simp)))
 have c2 := h.pre.2.2
 have f2 := h.frz 2
 have hl := h.lt
 have c3 : (W.setCell ⟨g, 2, none⟩ (.int .u64 c1)).cell? ⟨g, 2, none⟩ = some (.int .u64 c1) := (h.use c1).pre.2.2
 clear h
 go_enter Tryz.func114, Tryz.ntmps114
 go_wp2
 go_ret
 exact ⟨rfl, HL.out, HK.out⟩
theorem qtNew (room : Int) (h0 : 0 ≤ room) (h4 : room ≤ 4) (w : World) : Calls Tryz.prog 56 #[.int .i64 room] w fun e w' => e = .returned (.tuple #[.pointer (some ⟨w.heap.size, 0, none⟩), .int .i64 0]) ∧ QT w' w.heap.size [] ∧ Below w.heap.size w w' :=
 (tlbNew_yes room (by omega) (by omega) w).mono fun e w' ⟨h1, h2, h3⟩ => ⟨h1, ⟨room, 0, ⟨[], h2, RelQ.nil⟩, h0, h4, by simpa using h0⟩, h3⟩
theorem qsForget {fi : Nat} {caps : Array Value} {P : Rc → Bool} (h : QS W g room c l) (hi : ∀ w, Below W.heap.size W w → IsC w g fi caps P) :
  Calls Tryz.prog 97 #[.pointer (some ⟨g, 0, none⟩), .func (.func fi) #[] caps] W fun e w' => (∃ n : Nat, e = .returned (.int .i64 n)) ∧ QS w' g room c (l.filter fun x => !P x) ∧ Kq [g] W w' := by
 obtain ⟨us, h1, h2⟩ := h
 refine (forget_any h1 hi).mono ?_
 rintro e w' ⟨rfl, ⟨us', hh⟩, hk⟩
 exact ⟨⟨_, rfl⟩, ⟨us', hh.out.1, (h2.filter fun x => !P x).perm hh.out.2.symm⟩, hk⟩
theorem qsDrop (p q : Int) (h : QS W g room c l) :
  Calls Tryz.prog 94 #[.pointer (some ⟨g, 0, none⟩), .agg #[.int .i64 p, .int .i64 q]] W fun e w' => (∃ t, e = .returned (.bool t)) ∧ QS w' g room c (withoutL l p q) ∧ Kq [g] W w' := by
 obtain ⟨U, hU⟩ : ∃ U, U = W.alloc (.cells #[.int .i64 p, .int .i64 q] 48) := ⟨_, rfl⟩
 have hB : Below W.heap.size W U := by rw [hU]; exact (Below.refl _ _).alloc (Nat.le_refl _) _
 have hN : Blk U W.heap.size 48 [.int .i64 p, .int .i64 q] := by rw [hU]; exact Blk.new W _ [.int .i64 p, .int .i64 q]
 have k0 := hN.cell (j := 0) rfl
 have k1 := hN.cell (j := 1) rfl
 have kl := hN.lt
 have HU := Lib.hid hU
 have HB := Lib.hid hB
 have HP := Lib.hid (h.more hB)
 clear h hB hN hU
 go_enter Tryz.func94, Tryz.ntmps94
 go_upto_region 1 with fail
 rw [← HU.out]
 clear HU
 go_wp2_with fail
 refine (hasKey_any p q U).mono ?_
 rintro e w1 ⟨rfl, hk, hb1⟩
 have HF := Lib.hid (qsForget (HP.out.more hb1) (fun w hw => isC_key p q U.heap.size w (hk.more hw) (fun e => by have := HP.out.lt; omega)))
 have HB1 := Lib.hid (HB.out.trans (hb1.mono HB.out.size))
 clear k0 k1 kl hk hb1
 go_wp2_with fail
 refine HF.out.mono ?_
 rintro e w2 ⟨⟨n, rfl⟩, hp, hk⟩
 have HP2 : Hid (QS w2 g room c (withoutL l p q)) := Lib.hid hp
 have HK2 := Lib.hid ((Kq.of_below HB1.out).trans hk)
 clear hp hk HF
 go_wp2
 go_ret
 exact ⟨⟨_, rfl⟩, HP2.out, HK2.out⟩
theorem without_le (l : List Rc) (p q : Int) : (withoutL l p q).length ≤ l.length := List.length_filter_le _ _
theorem qtDrop (p q : Int) (h : QT W g l) : Calls Tryz.prog 94 #[.pointer (some ⟨g, 0, none⟩), .agg #[.int .i64 p, .int .i64 q]] W fun e w' => (∃ t, e = .returned (.bool t)) ∧ QT w' g (withoutL l p q) ∧ Kq [g] W w' := by
 obtain ⟨r, c, h1, h2, h3, h4⟩ := h
 exact (qsDrop p q h1).mono fun e w' ⟨a, b, k⟩ => ⟨a, ⟨r, c, b, h2, h3, by have := without_le l p q; omega⟩, k⟩
theorem qtFlush (h : QT W g l) :
  Calls Tryz.prog 60 #[.pointer (some ⟨g, 0, none⟩)] W fun e w' => (∃ n : Nat, e = .returned (.int .i64 n)) ∧ QT w' g [] ∧ Kq [g] W w' := by
 obtain ⟨r, c, h1, h2, h3, h4⟩ := h
 have hF := qsForget (P := fun _ => true) (fi := 98) (caps := #[]) h1 (fun w hw => ⟨fun _ _ => rfl, fun x w' hk => by rw [Array.append_empty]; exact flush1_any x w'⟩)
 have e2 : (l.filter fun _ => !true) = [] := by simp
 rw [e2] at hF
 have HF := Lib.hid hF
 clear hF h1 e2 h4
 go_enter Tryz.func60, Tryz.ntmps60
 go_wp2_with fail
 refine HF.out.mono ?_
 rintro e w2 ⟨⟨n, rfl⟩, hp, hk⟩
 have HP2 := Lib.hid hp
 have HK2 := Lib.hid hk
 clear hp hk HF
 go_wp2
 go_ret
 exact ⟨⟨_, rfl⟩, ⟨r, c, HP2.out, h2, h3, by simpa using h2⟩, HK2.out⟩
theorem RelQ.count {us : List Us} {l : List Rc} (h : RelQ us l) (P : Rc → Bool) : (us.countP fun u => P u.1) = l.countP P := by
 rw [← h.2.countP_eq, List.countP_map]
 rfl
theorem qsNarrow (pg : Int) (h : QS W g room c l) :
  Calls Tryz.prog 120 #[.pointer (some ⟨g, 0, none⟩), .int .i64 pg] W fun e w' => (∃ n : Nat, e = .returned (.int .i64 n)) ∧ QS w' g room c (narL l pg) ∧ Kq [g] W w' := by
 obtain ⟨us, h1, h2⟩ := h
 obtain ⟨U, hU⟩ : ∃ U, U = (W.alloc (.cells #[.pointer (some ⟨g, 0, none⟩)] 76)).alloc (.cells #[.int .i64 pg] 3) := ⟨_, rfl⟩
 have hB : Below W.heap.size W U := by rw [hU]; exact ((Below.refl _ _).alloc (Nat.le_refl _) _).alloc (by simp) _
 have hN : Blk U W.heap.size 76 [.pointer (some ⟨g, 0, none⟩)] := by rw [hU]; exact (Blk.new W _ [.pointer (some ⟨g, 0, none⟩)]).more ((Below.refl _ _).alloc (Nat.le_refl _) _)
 have hM : Blk U (W.heap.size + 1) 3 [.int .i64 pg] := by
  have := Blk.new (W.alloc (.cells #[.pointer (some ⟨g, 0, none⟩)] 76)) 3 [.int .i64 pg]
  rw [World.size_alloc] at this
  rw [hU]
  exact this
 have hgl := h1.1.lt
 have hcn : (us.countP fun u => hadB u.1 pg) = narN l pg := h2.count (fun x => hadB x pg)
 have h5 := h1.1.len
 have HE := Lib.hid (each_any (P := fun x => hadB x pg) (narN l pg) (NarJ pg us (narN l pg)) (fun _ _ h => h.2) (by have := List.countP_le_length (p := fun u : Us => hadB u.1 pg) (l := us); omega) (h1.1.more hB) ⟨rfl, by omega⟩
  (fi := 145) (caps := #[.pointer (some ⟨W.heap.size + 1, 0, none⟩)]) ⟨fun _ _ => rfl, fun x w' hk => wide_any pg (W.heap.size + 1) x w' (hM.kq hk (by simp; omega))⟩
  (fd := 146) (capd := #[.pointer (some ⟨W.heap.size, 0, none⟩)]) ⟨fun _ _ => rfl, fun us' n i u w hJ hl hk hu hp => narrow2_any pg W.heap.size i us _ n u hJ hl (hN.kq hk (by simp; omega)) (by omega) hu hp⟩)
 have k0 := hN.cell (j := 0) rfl
 have kl := hN.lt
 have HU := Lib.hid hU
 have HB := Lib.hid hB
 have HR := Lib.hid h2
 have HH := Lib.hid h1.2
 clear h1 h2 hB hN hM hU hgl h5 hcn
 generalize narN l pg = N at HE ⊢
 go_enter Tryz.func120, Tryz.ntmps120
 go_upto_region 1 with fail
 rw [← HU.out]
 clear HU
 go_wp2_with fail
 refine HE.out.mono ?_
 rintro e w2 ⟨rfl, ⟨us', HJ, HL, HA⟩, hk⟩
 have HK := Lib.hid ((Kq.of_below HB.out).trans hk)
 have HP : Hid (QS w2 g room c (narL l pg)) := Lib.hid (by
  have e1 : us' = us.map fun u => (narX pg u.1, u.2) := by
   rw [← HJ.out.1]
   conv => lhs; rw [← List.map_id us']
   exact List.map_congr_left fun u hu => by rw [nar_not (HA.out u hu)]; rfl
  refine ⟨us', ⟨HL.out, nar_heap HJ.out HH.out⟩, ?_⟩
  rw [e1]
  exact HR.out.map (narX pg) fun x => by unfold narX; split <;> exact ⟨rfl, rfl⟩)
 clear hk HE k0 kl
 go_wp2
 go_ret
 exact ⟨⟨_, rfl⟩, HP.out, HK.out⟩
theorem qtNarrow (pg : Int) (h : QT W g l) : Calls Tryz.prog 120 #[.pointer (some ⟨g, 0, none⟩), .int .i64 pg] W fun e w' => (∃ n : Nat, e = .returned (.int .i64 n)) ∧ QT w' g (narL l pg) ∧ Kq [g] W w' := by
 obtain ⟨r, c, h1, h2, h3, h4⟩ := h
 exact (qsNarrow pg h1).mono fun e w' ⟨a, b, k⟩ => ⟨a, ⟨r, c, b, h2, h3, by unfold narL; rw [List.length_map]; exact h4⟩, k⟩
end
end Go.Proofs.YteaincdeoajkeaaGreatDoor.Sb
end
section
/- Package stlb, whatever its counter of uses says: Put, Get. -/
namespace Go.Proofs.YteaincdeoajkeaaGreatDoor.Sb
open Go.RowKit Ut Hg
set_option maxRecDepth 100000
set_option linter.unusedVariables false
set_option maxHeartbeats 4000000

section
variable {W : World} {g : Nat} {room c : Int} {l : List Rc} {us : List Us}
theorem qsPut (x : Rc) (h : QS W g room c l) (hl : (l.length : Int) ≤ room) (hr : room ≤ 4) (hroom0 : 0 ≤ room) :
  Calls Tryz.prog 75 #[.pointer (some ⟨g, 0, none⟩), .agg #[.int .i64 x.kr, .int .i64 x.kp], .agg #[.int .i64 x.ep, .int .i64 x.ef, .int .i64 x.er]] W fun e w' => e = .returned (.int .i64 0) ∧ Hid (∃ c' l', QS w' g room c' l' ∧ (l'.length : Int) ≤ room ∧ ∀ y ∈ l', y = x ∨ y ∈ withoutL l x.kr x.kp) ∧ Kq [g] W w' := by
 obtain ⟨cN, hcN⟩ : ∃ cN, IntKind.u64.wrap (c + 1) = cN := ⟨_, rfl⟩
 have HCN := Lib.hid hcN
 have HR0 := Lib.hid hroom0
 have HLR : Hid ((withoutL l x.kr x.kp).length ≤ room) := Lib.hid (by have := without_le l x.kr x.kp; omega)
 clear hcN hroom0
 obtain ⟨U, hU⟩ : ∃ U, U = (W.alloc (.cells #[.int .i64 x.kr, .int .i64 x.kp] 48)).alloc (.cells #[.int .i64 x.ep, .int .i64 x.ef, .int .i64 x.er] 50) := ⟨_, rfl⟩
 have hB : Below W.heap.size W U := by rw [hU]; exact ((Below.refl _ _).alloc (Nat.le_refl _) _).alloc (by simp) _
 have hk : Blk U W.heap.size 48 [.int .i64 x.kr, .int .i64 x.kp] := by rw [hU]; exact (Blk.new W _ [.int .i64 x.kr, .int .i64 x.kp]).more ((Below.refl _ _).alloc (Nat.le_refl _) _)
 have he : Blk U (W.heap.size + 1) 50 [.int .i64 x.ep, .int .i64 x.ef, .int .i64 x.er] := by
  have := Blk.new (W.alloc (.cells #[.int .i64 x.kr, .int .i64 x.kp] 48)) 50 [.int .i64 x.ep, .int .i64 x.ef, .int .i64 x.er]
  rw [World.size_alloc] at this
  rw [hU]
  exact this
 have hg := h.lt
 have hu := h.more hB
 obtain ⟨us0, h01, _⟩ := id hu
 have c0 := h01.1.pre.1
 have hgl := h01.1.lt
 clear h01
 have HD := Lib.hid (qsDrop x.kr x.kp hu)
 have HU := Lib.hid hU
 have HB := Lib.hid hB
 have HK := Lib.hid hk
 have HE := Lib.hid he
 have HGW := Lib.hid hg
 have HLE : Hid ((withoutL l x.kr x.kp).length < 5) := Lib.hid (by have := without_le l x.kr x.kp; omega)
 have k0 := hk.cell (j := 0) rfl
 have k1 := hk.cell (j := 1) rfl
 have kl := hk.lt
 clear hU hB hk he h hu hl hr
 go_enter Tryz.func75, Tryz.ntmps75
 go_upto_region 1 with fail
 rw [← HU.out]
 clear HU
 go_wp2_with fail
 refine HD.out.mono ?_
 rintro e w1 ⟨⟨_, rfl⟩, hp1, hk1⟩
 obtain ⟨us, hh, hrel⟩ := hp1
 have HH := Lib.hid hh
 have HREL := Lib.hid hrel
 have HU5 : Hid (us.length < 5) := Lib.hid (by rw [hrel.len]; exact HLE.out)
 have HK1 := Lib.hid ((Kq.of_below HB.out).trans hk1)
 have hk9 := HK.out.kq hk1 (by have := HGW.out; simp; omega)
 have he9 := HE.out.kq hk1 (by have := HGW.out; simp; omega)
 have HBK : Hid (W.heap.size ∉ [g] ∧ W.heap.size + 1 ∉ [g]) := Lib.hid (by have := HGW.out; simp; omega)
 have k0 := hk9.cell (j := 0) rfl
 have k1 := hk9.cell (j := 1) rfl
 have kl := hk9.lt
 have e0 := he9.cell (j := 0) rfl
 have e1 := he9.cell (j := 1) rfl
 have e2 := he9.cell (j := 2) rfl
 have el := he9.lt
 clear hh hrel hk1 hk9 he9 c0 hgl HD hg
 obtain ⟨kr, kp, ep, ef, er⟩ := x
 dsimp only at k0 k1 e0 e1 e2 HLR HREL HLE ⊢
 go_upto_region 4 with fail
 apply wp_region_autoL [19, 20, 21, 22, 23, 24, 25, 26, 27, 28, 29] [_, _, _, _, _, _, _, _, _, _, _] (fun L' W' => Kq [g] w1 W' ∧ HP W' g 175 (hd3 room (cond (L' 8) cN c)) us)
 case hm => kernel_rfl
 case hT => intro y; simp only [setAll, List.setIfInBounds_toArray, List.set_cons_succ, List.set_cons_zero]; exact rfl
 case hok => kernel_rfl
 case hn => decide
 case hw => exact (fun L' h0 => ⟨kq_drew (Kq.refl _ _), by rw [h0 8 (by decide)]; exact ⟨HH.out.1.of_block rfl, HH.out.2⟩⟩)
 case hs =>
  refine autoC_op 19 [] (by kernel_rfl) (fun L y w' hL hC HW hd K hK => ?_) ?_
  ·go_simp
   refine hK _ _ ?_ ?_ HW
   ·simp [upd]
   ·exact rfl
  refine autoC_op 20 [0] (by kernel_rfl) (fun L y w' hL hC HW hd K hK => ?_) ?_
  ·have e0 := hd_nth (hd 0 (by simp)) rfl
   go_simp
   refine hK _ _ ?_ ?_ HW
   ·simp [upd, e0]
   ·exact rfl
  refine autoC_op 21 [1] (by kernel_rfl) (fun L y w' hL hC HW hd K hK => ?_) ?_
  ·have e1 := hd_nth (hd 1 (by simp)) rfl
   go_simp
   refine hK _ _ ?_ ?_ HW
   ·simp [upd, e1]
   ·exact rfl
  refine autoC_op 22 [2] (by kernel_rfl) (fun L y w' hL hC HW hd K hK => ?_) ?_
  ·have e2 := hd_nth (hd 2 (by simp)) rfl
   go_simp
   refine hK _ _ ?_ ?_ HW
   ·simp [upd, e2]
   ·exact rfl
  refine autoC_op 23 [] (by kernel_rfl) (fun L y w' hL hC HW hd K hK => ?_) ?_
  ·have m0 := (HW.1.cell (p := ⟨W.heap.size, 0, none⟩) kl HBK.out.1).trans k0
   have m1 := (HW.1.cell (p := ⟨W.heap.size, 1, none⟩) kl HBK.out.1).trans k1
   go_simp
   refine hK _ _ ?_ ?_ HW
   ·simp [upd]
   ·exact rfl
  refine autoC_op 24 [] (by kernel_rfl) (fun L y w' hL hC HW hd K hK => ?_) ?_
  ·have m0 := (HW.1.cell (p := ⟨W.heap.size + 1, 0, none⟩) el HBK.out.2).trans e0
   have m1 := (HW.1.cell (p := ⟨W.heap.size + 1, 1, none⟩) el HBK.out.2).trans e1
   have m2 := (HW.1.cell (p := ⟨W.heap.size + 1, 2, none⟩) el HBK.out.2).trans e2
   go_simp
   refine hK _ _ ?_ ?_ HW
   ·simp [upd]
   ·exact rfl
  refine autoC_op 25 [4, 5] (by kernel_rfl) (fun L y w' hL hC HW hd K hK => ?_) ?_
  ·have e4 := hd_nth (hd 4 (by simp)) rfl
   have e5 := hd_nth (hd 5 (by simp)) rfl
   go_simp
   refine hK _ _ ?_ ?_ HW
   ·simp [upd, e4, e5]
   ·exact rfl
  refine autoC_op 26 [] (by kernel_rfl) (fun L y w' hL hC HW hd K hK => ?_) ?_
  ·go_simp
   refine hK _ _ ?_ ?_ HW
   ·simp [upd]
   ·exact rfl
  refine autoC_op 27 [7] (by kernel_rfl) (fun L y w' hL hC HW hd K hK => ?_) ?_
  ·have e7 := hd_nth (hd 7 (by simp)) rfl
   have hq : HP w' g 175 (hd3 room c) us := by have q := HW.2; rw [hL] at q; exact q
   go_simp
   refine (next_q hq.1 HCN.out).mono ?_
   rintro e w5 ⟨rfl, hl5, hk5⟩
   refine hK _ _ ?_ ?_ ⟨HW.1.trans hk5, hl5, HW.2.2⟩
   ·simp [upd, e7]
   ·exact rfl
  refine autoC_op 28 [6, 8] (by kernel_rfl) (fun L y w' hL hC HW hd K hK => ?_) ?_
  ·have e6 := hd_nth (hd 6 (by simp)) rfl
   have e8 := hd_nth (hd 8 (by simp)) rfl
   go_simp
   refine hK _ _ ?_ ?_ HW
   ·simp [upd, e6, e8]
   ·exact rfl
  refine autoC_op 29 [9] (by kernel_rfl) (fun L y w' hL hC HW hd K hK => ?_) ?_
  ·have e9 := hd_nth (hd 9 (by simp)) rfl
   go_simp
   refine hK _ _ ?_ ?_ HW
   ·simp [upd, e9]
   ·exact rfl
  refine autoL_last fun L y w' hLs HW hd K hK => ?_
  have e0 := hd_nth (hd 0 (by omega)) rfl
  have e1 := hd_nth (hd 1 (by omega)) rfl
  have e2 := hd_nth (hd 2 (by omega)) rfl
  have e3 := hd_nth (hd 3 (by omega)) rfl
  have e4 := hd_nth (hd 4 (by omega)) rfl
  have e5 := hd_nth (hd 5 (by omega)) rfl
  have e6 := hd_nth (hd 6 (by omega)) rfl
  have e7 := hd_nth (hd 7 (by omega)) rfl
  have e8 := hd_nth (hd 8 (by omega)) rfl
  have e9 := hd_nth (hd 9 (by omega)) rfl
  have e10 := hd_nth (hd 10 (by omega)) rfl
  have hq : HP w' g 175 (hd3 room cN) us := by
   have q := HW.2
   rw [hLs 8 (by decide)] at q
   exact q
  have HK2 := Lib.hid (HK1.out.trans HW.1)
  go_simp
  refine (hpush18 (o := 3) hq rfl (⟨kr, kp, ep, ef, er⟩, cN) HU5.out).mono ?_
  rintro e w3 ⟨rfl, ⟨us2, hh2, hp2⟩, hk3⟩
  refine hK _ _ ?_
  clear hd hK K
  have hr2 := HREL.out.put (x := ⟨kr, kp, ep, ef, er⟩) hp2
  have HH2 := Lib.hid hh2
  have HR2 := Lib.hid hr2
  have HK3 := Lib.hid (HK2.out.trans hk3)
  have hn2 : us2.length = (withoutL l kr kp).length + 1 := by rw [hr2.len, List.length_append]; rfl
  have c3 := hh2.1.cell0 (o := 3) rfl
  have c1 := hh2.1.pre.2.1
  have gl := hh2.1.lt
  rw [hn2] at c3
  have HN2 := Lib.hid hn2
  generalize hnn : (withoutL l kr kp).length = n at c3 HN2
  have HNN := Lib.hid hnn
  clear hnn
  clear hh2 hr2 hk3 hn2 hp2 hq HW
  by_cases hroom : room < ((n + 1 : Nat) : Int)
  ·go_upto_region 5 with fail
   go_quiet (fail)
   have HF := Lib.hid (first_yes (o := 3) (HH2.out.drewN nq) rfl (by have := HN2.out; omega))
   have HK4 := Lib.hid (kq_drewN HK3.out nq)
   generalize w3.drewN nq = w4 at HF HK4 ⊢
   clear c3 c1 gl
   go_wp2_with fail
   refine HF.out.mono ?_
   rintro e w5 ⟨⟨c', r, rfl, HH5, HL5⟩, hk5⟩
   have HK5 := Lib.hid (HK4.out.trans hk5)
   have HP9 : Hid (∃ c' l', QS w5 g room c' l' ∧ (l'.length : Int) ≤ room ∧ ∀ y ∈ l', y = (⟨kr, kp, ep, ef, er⟩ : Rc) ∨ y ∈ withoutL l kr kp) := Lib.hid (by
    obtain ⟨hp, hle⟩ := HL5.out
    obtain ⟨o1, o2, o3, _⟩ := HR2.out.out hp
    refine ⟨cN, _, ⟨r, HH5.out, o1⟩, ?_, fun y hy => ?_⟩
    ·rw [List.length_append, List.length_singleton] at o3
     have := HLR.out
     omega
    ·rcases List.mem_append.1 (o2 y hy) with h | h
     ·exact .inr h
     ·exact .inl (by simpa using h))
   clear hk5 HF
   go_wp2
   go_ret
   exact ⟨rfl, HP9, HK5.out⟩
  ·go_upto_region 5 with fail
   go_quiet (fail)
   go_wp2
   go_ret
   exact ⟨rfl, Lib.hid ⟨cN, _, ⟨us2, HH2.out.drewN _, HR2.out⟩, by rw [List.length_append, HNN.out]; simp only [List.length_singleton]; omega, fun y hy => by
    rcases List.mem_append.1 hy with h | h
    ·exact .inr h
    ·exact .inl (by simpa using h)⟩, kq_drewN HK3.out _⟩
theorem qsGet (p q : Int) (o : Option Rc) (hfo : findL l p q = o) (h : QS W g room c l) :
  Calls Tryz.prog 71 #[.pointer (some ⟨g, 0, none⟩), .agg #[.int .i64 p, .int .i64 q]] W fun e w' => e = .returned (.tuple #[entV (entF o), .bool o.isSome]) ∧ Hid (∃ c', QS w' g room c' l) ∧ Kq [g] W w' := by
 obtain ⟨cN, hcN⟩ : ∃ cN, IntKind.u64.wrap (c + 1) = cN := ⟨_, rfl⟩
 have HCN := Lib.hid hcN
 clear hcN
 obtain ⟨U, hU⟩ : ∃ U, U = (W.alloc (.cells #[.int .i64 p, .int .i64 q] 48)).alloc (.cells #[.int .i64 0, .int .i64 0, .int .i64 0] 50) := ⟨_, rfl⟩
 have hB : Below W.heap.size W U := by rw [hU]; exact ((Below.refl _ _).alloc (Nat.le_refl _) _).alloc (by simp) _
 have hk : Blk U W.heap.size 48 [.int .i64 p, .int .i64 q] := by rw [hU]; exact (Blk.new W _ [.int .i64 p, .int .i64 q]).more ((Below.refl _ _).alloc (Nat.le_refl _) _)
 have he : Blk U (W.heap.size + 1) 50 (entC (0, 0, 0)) := by
  have := Blk.new (W.alloc (.cells #[.int .i64 p, .int .i64 q] 48)) 50 (entC (0, 0, 0))
  rw [World.size_alloc] at this
  rw [hU]
  exact this
 have hgl := h.lt
 obtain ⟨us, hh, hrel⟩ := h.more hB
 have HH := Lib.hid hh
 have HREL := Lib.hid hrel
 have HPT := Lib.hid (h.more hB)
 have HU := Lib.hid hU
 have HB := Lib.hid hB
 have HK := Lib.hid hk
 have HE := Lib.hid he
 have HGW := Lib.hid hgl
 have HFO := Lib.hid hfo
 have k0 := hk.cell (j := 0) rfl
 have k1 := hk.cell (j := 1) rfl
 have kl := hk.lt
 clear h hh hrel hU hB hk he hgl hfo
 go_enter Tryz.func71, Tryz.ntmps71
 go_upto_region 1 with fail
 rw [← HU.out]
 clear HU
 go_wp2_with fail
 refine (hasKey_any p q U).mono ?_
 rintro e w1 ⟨rfl, hk1, hb1⟩
 have HF := Lib.hid (find_any (HH.out.1.more hb1) (Kq.refl _ _) (isC_key p q U.heap.size w1 hk1 (fun e => by have := HH.out.1.lt; omega)))
 have HB1 := Lib.hid hb1
 clear k0 k1 kl hk1 hb1
 go_wp2_with fail
 refine HF.out.mono ?_
 rintro e w2 ⟨⟨i, t, rfl, hfd⟩, hb2⟩
 have HB2 := Lib.hid (HB1.out.trans (hb2.mono HB1.out.size))
 have HE2 := Lib.hid (HE.out.more HB2.out)
 clear hb2 HF
 cases t
 ·have ho : o = none := by
   rw [← HFO.out]
   rcases hfd with ⟨h, _⟩ | ⟨_, _, h⟩
   ·cases h
   ·exact HREL.out.find_none h
  subst ho
  clear hfd
  go_upto_region 3 with fail
  refine wp_region_lit ?_
  refine wpList_buildTo rfl 50 _ rfl _ rfl (entC (0, 0, 0)).toArray (by kernel_rfl) ?_
  refine wpList_store_rowTo rfl 50 _ _ rfl rfl (W.heap.size + 1) (entC (0, 0, 0)).toArray (by kernel_rfl) (by kernel_rfl) 50 (entC (0, 0, 0)).toArray HE2.out (by rw [size_entry]; rfl) rfl (by kernel_rfl) ?_
  have HN9 : Hid (Blk (w2.setRow (W.heap.size + 1) (entC (0, 0, 0)).toArray) (W.heap.size + 1) 50 (entC (0, 0, 0))) := Lib.hid (HE2.out.row _)
  have HB9 := Lib.hid (below_setRow (HB.out.trans (HB2.out.mono HB.out.size)) (Nat.le_succ W.heap.size) (entC (0, 0, 0)).toArray)
  have HP9 : Hid (QS (w2.setRow (W.heap.size + 1) (entC (0, 0, 0)).toArray) g room c l) := Lib.hid (by
   obtain ⟨us', q1, q2⟩ := HPT.out.more HB2.out
   exact ⟨us', ⟨q1.1.of_block (setRow_other _ _ _ _ (by have := HGW.out; omega)), q1.2⟩, q2⟩)
  generalize w2.setRow (W.heap.size + 1) (entC (0, 0, 0)).toArray = V at HN9 HB9 HP9 ⊢
  go_wp2
  exact bodyPost_ret (v := .tuple #[.agg (entC (0, 0, 0)).toArray, .bool false]) (results_cell_slot Tryz.results71 _ _ _ _ _ _ _ rfl _ rfl HN9.out Tryz.underlying50 rfl (by rw [size_entry]; rfl)) rfl ⟨rfl, Lib.hid ⟨c, HP9.out⟩, Kq.of_below HB9.out⟩
 ·have hfu : ∃ u, us[i]? = some u ∧ u.1.is p q = true := by
   rcases hfd with ⟨_, h⟩ | ⟨h, _⟩
   ·exact h
   ·cases h
  obtain ⟨u, hu, hi⟩ := hfu
  have ho : o = some u.1 := by rw [← HFO.out]; exact HREL.out.find_some (List.mem_of_getElem? hu) hi
  subst ho
  have hh2 : HP w2 g 175 (hd3 room c) us := ⟨HH.out.1.more HB2.out, HH.out.2⟩
  have hil := (List.getElem?_eq_some_iff.1 hu).1
  have h5 := hh2.1.len
  have d1 : (0 : Int) ≤ (i : Int) ∧ (i : Int) < 5 := by omega
  obtain ⟨c0, c1, c2, c3, c4, c5⟩ := hh2.1.cells (o := 3) rfl i u hu
  have gl := hh2.1.lt
  have HUI := Lib.hid hu
  have HIS := Lib.hid hi
  have HIL := Lib.hid hil
  have HU1 : Hid (∀ c' : Int, (us.set i (u.1, c'))[i]? = some (u.1, c')) := Lib.hid fun c' => by rw [List.getElem?_set_self hil]
  have HH2 := Lib.hid hh2
  obtain ⟨V, hV⟩ : ∃ V, V = w2.alloc (.cells #[.int .i64 u.1.ep, .int .i64 u.1.ef, .int .i64 u.1.er] 50) := ⟨_, rfl⟩
  have hBV : Below w2.heap.size w2 V := by rw [hV]; exact (Below.refl _ _).alloc (Nat.le_refl _) _
  have hNV : Blk V w2.heap.size 50 (entC (u.1.ep, u.1.ef, u.1.er)) := by rw [hV]; exact Blk.new w2 _ (entC (u.1.ep, u.1.ef, u.1.er))
  have HV := Lib.hid hV
  have HBV := Lib.hid hBV
  have HNV := Lib.hid hNV
  have HEV := Lib.hid (HE2.out.more hBV)
  have HHV : Hid (HP V g 175 (hd3 room c) us) := Lib.hid ⟨hh2.1.more hBV, hh2.2⟩
  have hsz : W.heap.size + 2 ≤ w2.heap.size := by have := HE2.out.lt; omega
  have HSZ := Lib.hid hsz
  clear hfd hu hi hh2 hil h5 c0 c1 c5 hV hBV hNV hsz HPT
  obtain ⟨⟨kr, kp, ep, ef, er⟩, s⟩ := u
  dsimp only at c2 c3 c4 HV HNV ⊢
  rw [show 3 + 1 + i * 6 + 2 = 4 + i * 6 + 2 by omega] at c2
  rw [show 3 + 1 + i * 6 + 3 = 4 + i * 6 + 2 + 1 by omega] at c3
  rw [show 3 + 1 + i * 6 + 4 = 4 + i * 6 + 2 + 2 by omega] at c4
  go_upto_region 5 with fail
  rw [← HV.out]
  clear HV c2 c3 c4
  apply wp_region_autoL [28, 29, 30, 31, 32, 33, 34, 35, 36] [_, _, _, _, _, _, _, _, _] (fun L' W' => Kq [g] V W' ∧ HP W' g 175 (hd3 room (cond (L' 3) cN c)) us)
  case hm => kernel_rfl
  case hT => intro y; simp only [setAll, List.setIfInBounds_toArray, List.set_cons_succ, List.set_cons_zero]; exact rfl
  case hok => kernel_rfl
  case hn => decide
  case hw => exact (fun L' h0 => ⟨kq_drew (Kq.refl _ _), by rw [h0 3 (by decide)]; exact ⟨HHV.out.1.of_block rfl, HHV.out.2⟩⟩)
  case hs =>
   refine autoC_op 28 [] (by kernel_rfl) (fun L y w' hL hC HW hd K hK => ?_) ?_
   ·go_simp
    refine hK _ _ ?_ ?_ HW
    ·simp [upd]
    ·exact rfl
   refine autoC_op 29 [] (by kernel_rfl) (fun L y w' hL hC HW hd K hK => ?_) ?_
   ·go_simp
    refine hK _ _ ?_ ?_ HW
    ·simp [upd]
    ·exact rfl
   refine autoC_op 30 [] (by kernel_rfl) (fun L y w' hL hC HW hd K hK => ?_) ?_
   ·go_simp
    refine hK _ _ ?_ ?_ HW
    ·simp [upd]
    ·exact rfl
   refine autoC_op 31 [2] (by kernel_rfl) (fun L y w' hL hC HW hd K hK => ?_) ?_
   ·have e2 := hd_nth (hd 2 (by simp)) rfl
    have hq : HP w' g 175 (hd3 room c) us := by have q := HW.2; rw [hL] at q; exact q
    go_simp
    refine (next_q hq.1 HCN.out).mono ?_
    rintro e w5 ⟨rfl, hl5, hk5⟩
    refine hK _ _ ?_ ?_ ⟨HW.1.trans hk5, hl5, HW.2.2⟩
    ·simp [upd, e2]
    ·exact rfl
   refine autoC_op 32 [0] (by kernel_rfl) (fun L y w' hL hC HW hd K hK => ?_) ?_
   ·have e0 := hd_nth (hd 0 (by simp)) rfl
    go_simp
    refine hK _ _ ?_ ?_ HW
    ·simp [upd, e0]
    ·exact rfl
   refine autoC_op 33 [4] (by kernel_rfl) (fun L y w' hL hC HW hd K hK => ?_) ?_
   ·have e4 := hd_nth (hd 4 (by simp)) rfl
    go_simp
    refine hK _ _ ?_ ?_ HW
    ·simp [upd, e4]
    ·exact rfl
   refine autoC_op 34 [5] (by kernel_rfl) (fun L y w' hL hC HW hd K hK => ?_) ?_
   ·have e5 := hd_nth (hd 5 (by simp)) rfl
    go_simp
    refine hK _ _ ?_ ?_ HW
    ·simp [upd, e5]
    ·exact rfl
   refine autoC_op 35 [6, 1, 0, 1, 2, 3] (by kernel_rfl) (fun L y w' hL hC HW hd K hK => ?_) ?_
   ·have e0 := hd_nth (hd 0 (by simp)) rfl
    have e1 := hd_nth (hd 1 (by simp)) rfl
    have e2 := hd_nth (hd 2 (by simp)) rfl
    have e3 := hd_nth (hd 3 (by simp)) rfl
    have e6 := hd_nth (hd 6 (by simp)) rfl
    go_simp
    refine hK _ _ ?_ ?_ HW
    ·simp [upd, e0, e1, e2, e3, e6]
    ·exact rfl
   refine autoC_op 36 [7, 0, 1, 2, 3] (by kernel_rfl) (fun L y w' hL hC HW hd K hK => ?_) ?_
   ·have e0 := hd_nth (hd 0 (by simp)) rfl
    have e1 := hd_nth (hd 1 (by simp)) rfl
    have e2 := hd_nth (hd 2 (by simp)) rfl
    have e3 := hd_nth (hd 3 (by simp)) rfl
    have e7 := hd_nth (hd 7 (by simp)) rfl
    go_simp
    refine hK _ _ ?_ ?_ HW
    ·simp [upd, e0, e1, e2, e3, e7]
    ·exact rfl
   refine autoL_last fun L y w' hLs HW hd K hK => ?_
   have e0 := hd_nth (hd 0 (by omega)) rfl
   have e1 := hd_nth (hd 1 (by omega)) rfl
   have e2 := hd_nth (hd 2 (by omega)) rfl
   have e3 := hd_nth (hd 3 (by omega)) rfl
   have e4 := hd_nth (hd 4 (by omega)) rfl
   have e5 := hd_nth (hd 5 (by omega)) rfl
   have e6 := hd_nth (hd 6 (by omega)) rfl
   have e7 := hd_nth (hd 7 (by omega)) rfl
   have e8 := hd_nth (hd 8 (by omega)) rfl
   have hq : HP w' g 175 (hd3 room cN) us := by
    have q := HW.2
    rw [hLs 3 (by decide)] at q
    exact q
   have qc : w'.cell? ⟨g, 4 + i * 6 + 5, none⟩ = some (.int .u64 s) := by
    have := (hq.1.cells (o := 3) rfl i _ HUI.out).2.2.2.2.2
    rwa [show 3 + 1 + i * 6 + 5 = 4 + i * 6 + 5 by omega] at this
   have qf := hq.1.frz (4 + i * 6 + 5)
   have ql := hq.1.lt
   have HS9 := Lib.hid (hq.1.used i _ HUI.out cN)
   have HK9 := Lib.hid (((((Kq.of_below (T := [g]) (HB.out.trans (HB2.out.mono HB.out.size))).trans (Kq.of_below HBV.out))).trans HW.1).setCell g (4 + i * 6 + 5) (.int .u64 cN) (.inl (by simp)))
   have HN9 : Hid (Blk (w'.setCell ⟨g, 4 + i * 6 + 5, none⟩ (.int .u64 cN)) w2.heap.size 50 (entC (ep, ef, er))) := Lib.hid ((HNV.out.kq (HW.1.setCell g (4 + i * 6 + 5) (.int .u64 cN) (.inl (by simp))) (by have := HGW.out; have := HSZ.out; simp; omega)))
   have HE9 : Hid (Blk (w'.setCell ⟨g, 4 + i * 6 + 5, none⟩ (.int .u64 cN)) (W.heap.size + 1) 50 (entC (0, 0, 0))) := Lib.hid ((HEV.out.kq (HW.1.setCell g (4 + i * 6 + 5) (.int .u64 cN) (.inl (by simp))) (by have := HGW.out; simp; omega)))
   go_simp
   refine hK _ _ ?_
   generalize w'.setCell ⟨g, 4 + i * 6 + 5, none⟩ (.int .u64 cN) = W9 at HS9 HK9 HN9 HE9 ⊢
   clear hd hK K qc qf ql hq HW
   have HFX := Lib.hid (hfix18 (o := 3) (_, cN) i HS9.out HH.out.2 rfl HIL.out)
   go_wp2_with fail
   refine HFX.out.mono ?_
   rintro e w7 ⟨rfl, ⟨us2, hh7, hp7⟩, hk7⟩
   have HN7 := Lib.hid (HN9.out.kq hk7 (by have := HGW.out; have := HSZ.out; simp; omega))
   have HE7 := Lib.hid (HE9.out.kq hk7 (by have := HGW.out; simp; omega))
   have HP7 : Hid (QS w7 g room cN l) := Lib.hid ⟨us2, hh7, HREL.out.used HUI.out hp7⟩
   have HK7 := Lib.hid (HK9.out.trans hk7)
   clear hh7 hp7 hk7 HFX
   go_upto_region 7 with fail
   refine wp_region_lit ?_
   refine wpList_load_row rfl 50 _ rfl w2.heap.size (by kernel_rfl) 50 (entC (ep, ef, er)).toArray (0, 0) _ HN7.out Tryz.underlying50 rfl (by rw [size_entry]; rfl) ?_
   refine wpList_store_rowTo rfl 50 _ _ rfl rfl (W.heap.size + 1) (entC (ep, ef, er)).toArray (by kernel_rfl) (by kernel_rfl) 50 (entC (0, 0, 0)).toArray HE7.out (by rw [size_entry]; rfl) rfl (by kernel_rfl) ?_
   have HNX : Hid (Blk (w7.setRow (W.heap.size + 1) (entC (ep, ef, er)).toArray) (W.heap.size + 1) 50 (entC (ep, ef, er))) := Lib.hid (HE7.out.row _)
   have HKX : Hid (Kq [g] W (w7.setRow (W.heap.size + 1) (entC (ep, ef, er)).toArray)) := Lib.hid (by
    have h1 := HK7.out
    exact ⟨h1.os, h1.tape, h1.output, by rw [size_setRow]; exact h1.size, fun q hq hn => (setRow_other _ _ _ _ (by omega)).trans (h1.block q hq hn)⟩)
   have HPX : Hid (QS (w7.setRow (W.heap.size + 1) (entC (ep, ef, er)).toArray) g room cN l) := Lib.hid (by
    obtain ⟨us', q1, q2⟩ := HP7.out
    exact ⟨us', ⟨q1.1.of_block (setRow_other _ _ _ _ (by have := HGW.out; omega)), q1.2⟩, q2⟩)
   generalize w7.setRow (W.heap.size + 1) (entC (ep, ef, er)).toArray = VX at HNX HKX HPX ⊢
   go_wp2
   exact bodyPost_ret (v := .tuple #[.agg (entC (ep, ef, er)).toArray, .bool true]) (results_cell_slot Tryz.results71 _ _ _ _ _ _ _ rfl _ rfl HNX.out Tryz.underlying50 rfl (by rw [size_entry]; rfl)) rfl ⟨rfl, Lib.hid ⟨cN, HPX.out⟩, HKX.out⟩
theorem qtPut (x : Rc) (h : QT W g l) : Calls Tryz.prog 75 #[.pointer (some ⟨g, 0, none⟩), .agg #[.int .i64 x.kr, .int .i64 x.kp], .agg #[.int .i64 x.ep, .int .i64 x.ef, .int .i64 x.er]] W fun e w' => e = .returned (.int .i64 0) ∧ Hid (∃ l', QT w' g l' ∧ ∀ y ∈ l', y = x ∨ y ∈ withoutL l x.kr x.kp) ∧ Kq [g] W w' := by
 obtain ⟨r, c, h1, h2, h3, h4⟩ := h
 exact (qsPut x h1 h4 h3 h2).mono fun e w' ⟨a, b, k⟩ => ⟨a, Lib.hid (by
  obtain ⟨c', l', q1, q2, q3⟩ := b.out
  exact ⟨l', ⟨r, c', q1, h2, h3, q2⟩, q3⟩), k⟩
theorem qtGet (p q : Int) (o : Option Rc) (hfo : findL l p q = o) (h : QT W g l) : Calls Tryz.prog 71 #[.pointer (some ⟨g, 0, none⟩), .agg #[.int .i64 p, .int .i64 q]] W fun e w' => e = .returned (.tuple #[entV (entF o), .bool o.isSome]) ∧ Hid (QT w' g l) ∧ Kq [g] W w' := by
 obtain ⟨r, c, h1, h2, h3, h4⟩ := h
 exact (qsGet p q o hfo h1).mono fun e w' ⟨a, b, k⟩ => ⟨a, Lib.hid (by
  obtain ⟨c', q1⟩ := b.out
  exact ⟨r, c', q1, h2, h3, h4⟩), k⟩
end
end Go.Proofs.YteaincdeoajkeaaGreatDoor.Sb
end
