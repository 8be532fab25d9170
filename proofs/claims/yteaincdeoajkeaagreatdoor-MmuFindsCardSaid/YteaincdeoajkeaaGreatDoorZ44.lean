/- Several texts in one: Sr Ks Kv -/
import Derived.Test.YteaincdeoajkeaaGreatDoorZ22
import Derived.Test.YteaincdeoajkeaaGreatDoorZ42
section
/- As XRf, with any number of operations whose values depend on the order drawn. Serves all packages. -/
namespace Go.Proofs.YteaincdeoajkeaaGreatDoor.Ut
open Go.RowKit
set_option linter.unusedVariables false

section
variable {P : Program} {ops : Array Oper} {Q : Exit → Act → World → Prop} {T : (Nat → Value) → Array Value} {d : List Deferred}
/-- what each operation yields: where PB says a property, no more than that -/
def EvR (PB : Nat → Option (Value → World → Prop)) (vals : List Value) (j : Nat) (v : Value) (w : World) : Prop := match PB j with | some p => p v w | none => v = nth vals j
variable {W : World} {PB : Nat → Option (Value → World → Prop)} {vals : List Value} {b : Nat}
def EvFrom (P : Program) (ops : Array Oper) (Q : Exit → Act → World → Prop) (T : (Nat → Value) → Array Value) (d : List Deferred) (W : World) (PB : Nat → Option (Value → World → Prop)) (vals : List Value) (k : Nat) (l : List Oper) : Prop :=
 StepsFrom P ops Q T d (EvR PB vals) (fun _ w => Below W.heap.size W w) (fun _ w w' => Below w.heap.size w w') k l
end
end Go.Proofs.YteaincdeoajkeaaGreatDoor.Ut
end
section
/- Package mmu: forget, wrote. -/
namespace Go.Proofs.YteaincdeoajkeaaGreatDoor.Mm
open Go.RowKit Go.Shelf Ut Oc Vw Wa
open Sw (Ln tabL ownP fillS goneS leftS goF Told)
open Sb (Rc findL withoutL)
set_option linter.unusedVariables false
set_option maxRecDepth 100000
set_option maxHeartbeats 4000000

/-- all but those of these keys -/
def dropQ (q : List Rc) (ks : List (List Int)) : List Rc := q.filter fun y => !ks.contains [y.kr, y.kp]
theorem dropQ_next {q : List Rc} {ks : List (List Int)} {i : Nat} {p r : Int} (h : ks[i]? = some [p, r]) : withoutL (dropQ q (ks.take i)) p r = dropQ q (ks.take (i + 1)) := by
 unfold withoutL dropQ
 rw [List.filter_filter, List.take_add_one, h]
 congr 1
 funext y
 have e : ((ks.take i) ++ (some [p, r]).toList).contains [y.kr, y.kp] = ((ks.take i).contains [y.kr, y.kp] || y.is p r) := by
  rw [Bool.eq_iff_iff]
  simp only [List.contains_iff_mem, List.mem_append, Option.toList_some, List.mem_singleton, Bool.or_eq_true, Sb.is_iff, List.cons.injEq, and_true]
 rw [e, Bool.not_or]
 exact Bool.and_comm _ _
theorem dropQ_none (q : List Rc) : dropQ q [] = q := List.filter_eq_self.2 (fun _ _ => rfl)
theorem forg_drop (l : List Ln) (q : List Rc) (f : Ln → Bool) : Forg l q (l.filter fun x => !f x) (dropQ q ((l.filter f).map Ln.key)) := by
 refine ⟨⟨_, rfl⟩, fun y hy => (List.mem_filter.1 hy).1, fun y hy x hx e1 e2 => ?_⟩
 refine List.mem_filter.2 ⟨hx, ?_⟩
 cases hf : f x with
 | false => rfl
 | true =>
  have h1 := (List.mem_filter.1 hy).2
  have h2 : [y.kr, y.kp] ∈ (l.filter f).map Ln.key := List.mem_map.2 ⟨x, List.mem_filter.2 ⟨hx, hf⟩, by unfold Ln.key; rw [e1, e2]⟩
  rw [Bool.not_eq_true', ← Bool.not_eq_true, List.contains_iff_mem] at h1
  exact absurd h2 h1
section
variable {W : World} {u t g b s m : Nat} {S : List Int} {L : List Gm.Pl} {D : List Bool} {l : List Ln} {q : List Rc} {Y : List Gm.Pl}
theorem forget20_any (ks : List (List Int)) (a : Option Addr) (c : Nat) (hr : IRow 2 W a ks) (hk : ∀ x ∈ ks, ∃ p r, x = [p, r]) (ha : ∀ y, a = some y → y.block ≠ t) (hl : ks.length ≤ 1000) (h : ST W u t g b s m S L D l q Y) :
  Calls Tryz.prog 58 #[.pointer (some ⟨u, 0, none⟩), .slice a ks.length c] W fun e w' => e = .returned (.tuple #[]) ∧ Hid (ST w' u t g b s m S L D l (dropQ q ks) Y) ∧ Kq [t] W w' := by
 obtain ⟨n, hn⟩ : ∃ n : Nat, ks.length = n := ⟨_, rfl⟩
 rw [hn] at hl ⊢
 have HN := Lib.hid hn
 have HR := Lib.hid hr
 have HK := Lib.hid hk
 have HA := Lib.hid ha
 have HTL := Lib.hid h.tl.lt
 have n0 : (0 : Int) ≤ (n : Int) := by omega
 have HST : Hid (ST W u t g b s m S L D l (dropQ q (ks.take 0)) Y) := Lib.hid (by rw [List.take_zero, dropQ_none]; exact h)
 clear hn hr hk ha h
 go_enter Tryz.func58, Tryz.ntmps58
 go_wp2
 go_loopw [8] (fun j wr => ∃ i : Nat, i ≤ n ∧ j = .int .i64 i ∧ Hid (ST wr u t g b s m S L D l (dropQ q (ks.take i)) Y) ∧ Hid (Kq [t] W wr)) (fun j _ => n - (intOf j).toNat)
 case atStart => exact ⟨0, Nat.zero_le _, rfl, HST, Lib.hid (Kq.refl _ _)⟩
 case round =>
  clear HST
  obtain ⟨i, hi, rfl, HS, HQ⟩ := hrel
  by_cases hin : i < n
  ·have f0 : (i : Int) < (n : Int) := by omega
   have f1 : (0 : Int) ≤ (i : Int) := by omega
   have hx : ks[i]? = some (ks[i]'(by rw [HN.out]; exact hin)) := List.getElem?_eq_getElem _
   obtain ⟨x, hxx⟩ : ∃ x, ks[i]'(by rw [HN.out]; exact hin) = x := ⟨_, rfl⟩
   rw [hxx] at hx
   obtain ⟨p, r, rfl⟩ := HK.out x (List.mem_of_getElem? hx)
   have hnx := dropQ_next (q := q) hx
   obtain ⟨y, rfl, hyb, hyb2, d0, d1⟩ := (HR.out.kq HQ.out (fun y e => by have := HA.out y e; simpa using this)).at_ hx
   have d0 := d0 p rfl
   have d1 := d1 1 r (by decide) rfl
   have H3 := Lib.hid hin
   obtain ⟨V, hV⟩ : ∃ V, V = wr.alloc (.cells #[.int .i64 p, .int .i64 r] 48) := ⟨_, rfl⟩
   have hbV : Below wr.heap.size wr V := by rw [hV]; exact (Below.refl _ _).alloc (Nat.le_refl _) _
   have hNV : Blk V wr.heap.size 48 [.int .i64 p, .int .i64 r] := by rw [hV]; exact Blk.new wr _ _
   have HV := Lib.hid hV
   have hbd : Below wr.heap.size wr V.drew := hbV.drew
   have hs := HS.out.more hbV
   have u1 := hs.cell1
   have ul := hs.lt
   have k0 := hNV.cell (j := 0) rfl
   have k1 := hNV.cell (j := 1) rfl
   have kl := hNV.lt
   have HD := Lib.hid (Sb.qtDrop p r (HS.out.more hbd).tl)
   have HS2 := Lib.hid (HS.out.more hbd)
   have HQ2 := Lib.hid (HQ.out.trans (Kq.of_below hbd))
   have HNX := Lib.hid hnx
   clear hV hbV hNV hbd hs hx hxx hin hi hnx HS HQ
   go_upto_region 3 with fail
   rw [← HV.out]
   clear HV d0 d1 hyb hyb2
   go_still_tail 5, (by kernel_rfl)
   change wpList _ _ _ _ _ V.drew
   generalize V.drew = V2 at HD HS2 HQ2 ⊢
   clear u1 ul k0 k1 kl
   go_wp2_with fail
   refine HD.out.mono ?_
   rintro e w3 ⟨⟨_, rfl⟩, hq3, hk3⟩
   have HS3 := Lib.hid (HS2.out.tlb hk3 hq3)
   rw [HNX.out] at HS3
   have HQ3 := Lib.hid (HQ2.out.trans hk3)
   clear hq3 hk3 HD HS2 HQ2 HNX
   go_wp2
   go_roundw
   case rel => exact ⟨i + 1, by have := H3.out; omega, by first | rfl | (simp; done), HS3, HQ3⟩
   case measure => have := H3.out; simp [intOf]; omega
  ·have hne : ¬ (i : Int) < (n : Int) := by omega
   have HE : Hid (ST wr u t g b s m S L D l (dropQ q ks) Y) := Lib.hid (by
    have e : ks.take i = ks := by rw [List.take_of_length_le]; rw [HN.out]; omega
    have h := HS.out
    rw [e] at h
    exact h)
   have HQ9 := Lib.hid HQ.out
   clear HS HQ hi hin
   go_wp2
   go_end0
   exact ⟨rfl, HE, HQ9.out⟩

/-- what wrote leaves -/
def WrR (W : World) (u t g b s m : Nat) (S : List Int) (L : List Gm.Pl) (D : List Bool) (Y : List Gm.Pl) (l : List Ln) (q : List Rc) (P : Int → Prop) : Prop :=
 ∃ l' q', ST W u t g b s m S L D l' q' Y ∧ Forg l q l' q' ∧ ∀ p : Int, P p → ∀ x ∈ l', x.by_ p = false
theorem WrR.start (h : ST W u t g b s m S L D l q Y) {P : Int → Prop} (hP : ∀ p, ¬ P p) : WrR W u t g b s m S L D Y l q P := ⟨l, q, h, Forg.refl _ _, fun p hp => absurd hp (hP p)⟩
theorem WrR.more {W' : World} {P : Int → Prop} (h : WrR W u t g b s m S L D Y l q P) (hb : Below W.heap.size W W') : WrR W' u t g b s m S L D Y l q P := by
 obtain ⟨l', q', h1, h2, h3⟩ := h
 exact ⟨l', q', h1.more hb, h2, h3⟩
theorem WrR.weak {P Q : Int → Prop} (h : WrR W u t g b s m S L D Y l q P) (hQ : ∀ p, Q p → P p) : WrR W u t g b s m S L D Y l q Q := by
 obtain ⟨l', q', h1, h2, h3⟩ := h
 exact ⟨l', q', h1, h2, fun p hp => h3 p (hQ p hp)⟩
theorem left_by (l : List Ln) (p : Int) : ∀ x ∈ leftS l p false, x.by_ p = false := fun x hx => by
 have := (List.mem_filter.1 hx).2
 unfold goF at this
 simpa using this
theorem wrote20_any (p : Nat) (hp : p < 12) (h : ST W u t g b s m S L D l q Y) :
  Calls Tryz.prog 53 #[.pointer (some ⟨u, 0, none⟩), .int .i64 p] W fun e w' => e = .returned (.tuple #[]) ∧ Hid (WrR w' u t g b s m S L D Y l q (fun z => z = p ∧ p < 8)) ∧ Kq [t, g] W w' := by
 obtain ⟨pl, hpl⟩ : ∃ x, plF L Y p = x := ⟨_, rfl⟩
 have HP := Lib.hid (place20_at p hp pl hpl h)
 have HPL := Lib.hid hpl
 have HST := Lib.hid h
 have htg : Hid (t ≠ g ∧ t < W.heap.size ∧ g < W.heap.size) := Lib.hid ⟨h.tg, h.tl.lt, h.sh.lt⟩
 clear hpl h
 obtain ⟨x0, x1⟩ := pl
 unfold Gm.plV at HP
 dsimp only at HP
 go_enter Tryz.func53, Tryz.ntmps53
 go_wp2_with fail
 refine HP.out.mono ?_
 rintro e w1 ⟨rfl, hb1⟩
 obtain ⟨V, hV⟩ : ∃ V, V = w1.alloc (.cells #[.int .i64 x0, .int .i64 x1] 54) := ⟨_, rfl⟩
 have hbV : Below w1.heap.size w1 V := by rw [hV]; exact (Below.refl _ _).alloc (Nat.le_refl _) _
 have hNV : Blk V w1.heap.size 54 [.int .i64 x0, .int .i64 x1] := by rw [hV]; exact Blk.new w1 _ _
 have hbb := hb1.trans (hbV.mono hb1.size)
 have HS1 := Lib.hid (WrR.start (HST.out.more hbb) (P := fun z => z = p ∧ p < 8 ∧ p < 0) (fun z hz => by omega))
 have HK1 := Lib.hid (Kq.of_below (T := [t, g]) hbb)
 have HN1 := Lib.hid hNV
 have HAB : Hid (w1.heap.size ∉ [t, g]) := Lib.hid (by have h1 := htg.out; have h2 := hb1.size; simp; omega)
 have HV := Lib.hid hV
 clear hb1 hbb hV hbV hNV HP HST
 go_upto_region 1 with fail
 rw [← HV.out]
 clear HV
 generalize w1.heap.size = ab at HN1 HAB ⊢
 go_upto_region 2 with fail
 go_loopw [9] (fun j wr => ∃ i : Nat, i ≤ 8 ∧ j = .int .i64 i ∧ Hid (WrR wr u t g b s m S L D Y l q (fun z => z = p ∧ p < 8 ∧ p < i)) ∧ Hid (Kq [t, g] W wr) ∧ Hid (Blk wr ab 54 [.int .i64 x0, .int .i64 x1])) (fun j _ => 8 - (intOf j).toNat)
 case atStart => exact ⟨0, Nat.zero_le _, rfl, HS1, HK1, HN1⟩
 case round =>
  clear HS1 HK1 HN1
  obtain ⟨i, hi, rfl, HS, HQ, HN⟩ := hrel
  by_cases hin : i < 8
  ·have f0 : (i : Int) < 8 := by omega
   have f1 : (0 : Int) ≤ (i : Int) := by omega
   have H3 := Lib.hid hin
   obtain ⟨l1, q1, hs1, hf1, hc1⟩ := HS.out
   obtain ⟨pz, hpz⟩ : ∃ x, plF L Y i = x := ⟨_, rfl⟩
   have HPZ : Hid (∀ w', Below wr.heap.size wr w' → Calls Tryz.prog 91 #[.pointer (some ⟨u, 0, none⟩), .int .i64 i] w' fun e w'' => e = .returned (Gm.plV pz) ∧ Below w'.heap.size w' w'') := Lib.hid fun w' hw' => place20_at i (by omega) pz hpz (hs1.more hw')
   have HSAME : Hid (i = p → pz = (x0, x1)) := Lib.hid fun e => by rw [← hpz, e]; exact HPL.out
   have HS1 := Lib.hid hs1
   have HF1 := Lib.hid hf1
   have HC1 := Lib.hid hc1
   clear hs1 hf1 hc1 hpz HS
   obtain ⟨y0, y1⟩ := pz
   unfold Gm.plV at HPZ
   dsimp only at HPZ
   have a0 := HN.out.cell (j := 0) rfl
   have a1 := HN.out.cell (j := 1) rfl
   have al := HN.out.lt
   clear hin hi
   -- is it forgotten?
   have hcs : ∃ tt : Bool, ((x0 == 0) = true ∧ (x1 == 0) = true ∧ tt = true) ∨ ((x0 == 0) = false ∧ (y0 == x0) = tt) ∨ ((x0 == 0) = true ∧ (x1 == 0) = false ∧ (y0 == x0) = tt) := by
    cases hx0 : x0 == 0
    ·exact ⟨_, .inr (.inl ⟨rfl, rfl⟩)⟩
    ·cases hx1 : x1 == 0
     ·exact ⟨_, .inr (.inr ⟨rfl, rfl, rfl⟩)⟩
     ·exact ⟨true, .inl ⟨rfl, rfl, rfl⟩⟩
   obtain ⟨tt, hcs⟩ := hcs
   have HTT : Hid (i = p → tt = true) := Lib.hid fun e => by
    have h1 := HSAME.out e
    injection h1 with h1 h2
    rcases hcs with ⟨_, _, h⟩ | ⟨_, h⟩ | ⟨_, _, h⟩
    ·exact h
    ·rw [← h, h1]; simp
    ·rw [← h, h1]; simp
   clear HSAME
   go_upto_region 4 with fail
   go_cut [9, 23] from 9 to 32 (fun vi v wx => vi = .int .i64 i ∧ v = .bool tt ∧ Below wr.heap.size wr wx)
   case first =>
    rcases hcs with ⟨hx0, hx1, rfl⟩ | ⟨hx0, hy0⟩ | ⟨hx0, hx1, hy0⟩
    ·skip
     apply wp_region_auto [12, 13, 14, 15, 16, 17, 18, 19, 20, 21, 22] [_, _, _, _, _, _, _, _, _, _, _] (fun W' => Below wr.heap.size wr W')
     case hm => kernel_rfl
     case hT => intro y; simp only [setAll, List.setIfInBounds_toArray, List.set_cons_succ, List.set_cons_zero]; exact rfl
     case hok => kernel_rfl
     case hn => decide
     case hw => exact (Below.refl _ _).drew
     case hs =>
      refine auto_op 12 [] (by kernel_rfl) (fun y w' HW hd K hK => ?_) ?_
      ·have hcl : ∀ p : Addr, p.block < wr.heap.size → w'.cell? p = wr.cell? p := fun p hp => HW.cell hp
       go_simp
       refine hK _ _ ?_ ?_ HW
       ·simp [upd]
       ·exact rfl
      refine auto_op 13 [] (by kernel_rfl) (fun y w' HW hd K hK => ?_) ?_
      ·go_simp
       refine hK _ _ ?_ ?_ HW
       ·simp [upd]
       ·exact rfl
      refine auto_op 14 [0, 1] (by kernel_rfl) (fun y w' HW hd K hK => ?_) ?_
      ·have e0 := hd_nth (hd 0 (by simp)) rfl
       have e1 := hd_nth (hd 1 (by simp)) rfl
       go_simp
       refine hK _ _ ?_ ?_ HW
       ·simp [upd, e0, e1]
       ·exact rfl
      refine auto_op 15 [2] (by kernel_rfl) (fun y w' HW hd K hK => ?_) ?_
      ·have e2 := hd_nth (hd 2 (by simp)) rfl
       go_simp
       refine hK _ _ ?_ ?_ HW
       ·simp [upd, e2]
       ·exact rfl
      refine auto_op 16 [3] (by kernel_rfl) (fun y w' HW hd K hK => ?_) ?_
      ·have e3 := hd_nth (hd 3 (by simp)) rfl
       go_simp
       refine hK _ _ ?_ ?_ HW
       ·simp [upd, e3]
       ·exact rfl
      refine auto_op 17 [3] (by kernel_rfl) (fun y w' HW hd K hK => ?_) ?_
      ·have e3 := hd_nth (hd 3 (by simp)) rfl
       go_simp
       refine hK _ _ ?_ ?_ HW
       ·simp [upd, e3]
       ·exact rfl
      refine auto_op 18 [4, 5, 3, 3] (by kernel_rfl) (fun y w' HW hd K hK => ?_) ?_
      ·have e3 := hd_nth (hd 3 (by simp)) rfl
       have e4 := hd_nth (hd 4 (by simp)) rfl
       have e5 := hd_nth (hd 5 (by simp)) rfl
       go_simp
       refine hK _ _ ?_ ?_ HW
       ·simp [upd, e3, e4, e5]
       ·exact rfl
      refine auto_op 19 [6, 3] (by kernel_rfl) (fun y w' HW hd K hK => ?_) ?_
      ·have e3 := hd_nth (hd 3 (by simp)) rfl
       have e6 := hd_nth (hd 6 (by simp)) rfl
       go_simp
       refine hK _ _ ?_ ?_ HW
       ·simp [upd, e3, e6]
       ·exact rfl
      refine auto_op 20 [3] (by kernel_rfl) (fun y w' HW hd K hK => ?_) ?_
      ·have e3 := hd_nth (hd 3 (by simp)) rfl
       go_simp
       refine hK _ _ ?_ ?_ HW
       ·simp [upd, e3]
       ·exact rfl
      refine auto_op 21 [8, 3] (by kernel_rfl) (fun y w' HW hd K hK => ?_) ?_
      ·have e3 := hd_nth (hd 3 (by simp)) rfl
       have e8 := hd_nth (hd 8 (by simp)) rfl
       have hcl : ∀ p : Addr, p.block < wr.heap.size → w'.cell? p = wr.cell? p := fun p hp => HW.cell hp
       go_simp
       refine hK _ _ ?_ ?_ HW
       ·simp [upd, e3, e8]
       ·exact rfl
      refine auto_op 22 [7, 9, 3] (by kernel_rfl) (fun y w' HW hd K hK => ?_) ?_
      ·have e3 := hd_nth (hd 3 (by simp)) rfl
       have e7 := hd_nth (hd 7 (by simp)) rfl
       have e9 := hd_nth (hd 9 (by simp)) rfl
       go_simp
       refine hK _ _ ?_ ?_ HW
       ·simp [upd, e3, e7, e9]
       ·exact rfl
      refine auto_last fun y w' HW hd K hK => ?_
      have e0 := hd_nth (hd 0 (by omega)) rfl
      have e1 := hd_nth (hd 1 (by omega)) rfl
      have e2 := hd_nth (hd 2 (by omega)) rfl
      have e3 := hd_nth (hd 3 (by omega)) rfl
      have e4 := hd_nth (hd 4 (by omega)) rfl
      have e5 := hd_nth (hd 5 (by omega)) rfl
      have e6 := hd_nth (hd 6 (by omega)) rfl
      have e7 := hd_nth (hd 7 (by omega)) rfl
      have e8 := hd_nth (hd 8 (by omega)) rfl
      have e9 := hd_nth (hd 9 (by omega)) rfl
      have e10 := hd_nth (hd 10 (by omega)) rfl
      go_simp
      refine hK _ _ ?_
      clear hd hK K e0 e1 e2 e3 e4 e5 e6 e7 e8 e9 e10
      go_wp2
      go_meet
      exact ⟨rfl, rfl, HW⟩
    ·skip
     apply wp_region_auto [12, 13, 14, 15, 16, 17, 18, 19, 20, 21, 22] [_, _, _, _, _, _, _, _, _, _, _] (fun W' => Below wr.heap.size wr W')
     case hm => kernel_rfl
     case hT => intro y; simp only [setAll, List.setIfInBounds_toArray, List.set_cons_succ, List.set_cons_zero]; exact rfl
     case hok => kernel_rfl
     case hn => decide
     case hw => exact (Below.refl _ _).drew
     case hs =>
      refine auto_op 12 [] (by kernel_rfl) (fun y w' HW hd K hK => ?_) ?_
      ·have hcl : ∀ p : Addr, p.block < wr.heap.size → w'.cell? p = wr.cell? p := fun p hp => HW.cell hp
       go_simp
       refine hK _ _ ?_ ?_ HW
       ·simp [upd]
       ·exact rfl
      refine auto_op 13 [] (by kernel_rfl) (fun y w' HW hd K hK => ?_) ?_
      ·go_simp
       refine hK _ _ ?_ ?_ HW
       ·simp [upd]
       ·exact rfl
      refine auto_op 14 [0, 1] (by kernel_rfl) (fun y w' HW hd K hK => ?_) ?_
      ·have e0 := hd_nth (hd 0 (by simp)) rfl
       have e1 := hd_nth (hd 1 (by simp)) rfl
       go_simp
       refine hK _ _ ?_ ?_ HW
       ·simp [upd, e0, e1]
       ·exact rfl
      refine auto_op 15 [2] (by kernel_rfl) (fun y w' HW hd K hK => ?_) ?_
      ·have e2 := hd_nth (hd 2 (by simp)) rfl
       go_simp
       refine hK _ _ ?_ ?_ HW
       ·simp [upd, e2]
       ·exact rfl
      refine auto_op 16 [3] (by kernel_rfl) (fun y w' HW hd K hK => ?_) ?_
      ·have e3 := hd_nth (hd 3 (by simp)) rfl
       go_simp
       refine hK _ _ ?_ ?_ HW
       ·simp [upd, e3]
       ·exact rfl
      refine auto_op 17 [3] (by kernel_rfl) (fun y w' HW hd K hK => ?_) ?_
      ·have e3 := hd_nth (hd 3 (by simp)) rfl
       go_simp
       refine hK _ _ ?_ ?_ HW
       ·simp [upd, e3]
       ·exact rfl
      refine auto_op 18 [4, 5, 3, 3] (by kernel_rfl) (fun y w' HW hd K hK => ?_) ?_
      ·have e3 := hd_nth (hd 3 (by simp)) rfl
       have e4 := hd_nth (hd 4 (by simp)) rfl
       have e5 := hd_nth (hd 5 (by simp)) rfl
       go_simp
       refine (HPZ.out _ HW).mono ?_
       rintro e w3 ⟨rfl, hb3⟩
       refine hK _ _ ?_ ?_ (HW.trans (hb3.mono HW.size))
       ·simp [upd, e3, e4, e5]
       ·exact rfl
      refine auto_op 19 [6, 3] (by kernel_rfl) (fun y w' HW hd K hK => ?_) ?_
      ·have e3 := hd_nth (hd 3 (by simp)) rfl
       have e6 := hd_nth (hd 6 (by simp)) rfl
       go_simp
       refine hK _ _ ?_ ?_ HW
       ·simp [upd, e3, e6]
       ·exact rfl
      refine auto_op 20 [3] (by kernel_rfl) (fun y w' HW hd K hK => ?_) ?_
      ·have e3 := hd_nth (hd 3 (by simp)) rfl
       go_simp
       refine hK _ _ ?_ ?_ HW
       ·simp [upd, e3]
       ·exact rfl
      refine auto_op 21 [8, 3] (by kernel_rfl) (fun y w' HW hd K hK => ?_) ?_
      ·have e3 := hd_nth (hd 3 (by simp)) rfl
       have e8 := hd_nth (hd 8 (by simp)) rfl
       have hcl : ∀ p : Addr, p.block < wr.heap.size → w'.cell? p = wr.cell? p := fun p hp => HW.cell hp
       go_simp
       refine hK _ _ ?_ ?_ HW
       ·simp [upd, e3, e8]
       ·exact rfl
      refine auto_op 22 [7, 9, 3] (by kernel_rfl) (fun y w' HW hd K hK => ?_) ?_
      ·have e3 := hd_nth (hd 3 (by simp)) rfl
       have e7 := hd_nth (hd 7 (by simp)) rfl
       have e9 := hd_nth (hd 9 (by simp)) rfl
       go_simp
       refine hK _ _ ?_ ?_ HW
       ·simp [upd, e3, e7, e9]
       ·exact rfl
      refine auto_last fun y w' HW hd K hK => ?_
      have e0 := hd_nth (hd 0 (by omega)) rfl
      have e1 := hd_nth (hd 1 (by omega)) rfl
      have e2 := hd_nth (hd 2 (by omega)) rfl
      have e3 := hd_nth (hd 3 (by omega)) rfl
      have e4 := hd_nth (hd 4 (by omega)) rfl
      have e5 := hd_nth (hd 5 (by omega)) rfl
      have e6 := hd_nth (hd 6 (by omega)) rfl
      have e7 := hd_nth (hd 7 (by omega)) rfl
      have e8 := hd_nth (hd 8 (by omega)) rfl
      have e9 := hd_nth (hd 9 (by omega)) rfl
      have e10 := hd_nth (hd 10 (by omega)) rfl
      go_simp
      refine hK _ _ ?_
      clear hd hK K e0 e1 e2 e3 e4 e5 e6 e7 e8 e9 e10
      go_wp2
      go_meet
      exact ⟨rfl, rfl, HW⟩
    ·skip
     apply wp_region_auto [12, 13, 14, 15, 16, 17, 18, 19, 20, 21, 22] [_, _, _, _, _, _, _, _, _, _, _] (fun W' => Below wr.heap.size wr W')
     case hm => kernel_rfl
     case hT => intro y; simp only [setAll, List.setIfInBounds_toArray, List.set_cons_succ, List.set_cons_zero]; exact rfl
     case hok => kernel_rfl
     case hn => decide
     case hw => exact (Below.refl _ _).drew
     case hs =>
      refine auto_op 12 [] (by kernel_rfl) (fun y w' HW hd K hK => ?_) ?_
      ·have hcl : ∀ p : Addr, p.block < wr.heap.size → w'.cell? p = wr.cell? p := fun p hp => HW.cell hp
       go_simp
       refine hK _ _ ?_ ?_ HW
       ·simp [upd]
       ·exact rfl
      refine auto_op 13 [] (by kernel_rfl) (fun y w' HW hd K hK => ?_) ?_
      ·go_simp
       refine hK _ _ ?_ ?_ HW
       ·simp [upd]
       ·exact rfl
      refine auto_op 14 [0, 1] (by kernel_rfl) (fun y w' HW hd K hK => ?_) ?_
      ·have e0 := hd_nth (hd 0 (by simp)) rfl
       have e1 := hd_nth (hd 1 (by simp)) rfl
       go_simp
       refine hK _ _ ?_ ?_ HW
       ·simp [upd, e0, e1]
       ·exact rfl
      refine auto_op 15 [2] (by kernel_rfl) (fun y w' HW hd K hK => ?_) ?_
      ·have e2 := hd_nth (hd 2 (by simp)) rfl
       go_simp
       refine hK _ _ ?_ ?_ HW
       ·simp [upd, e2]
       ·exact rfl
      refine auto_op 16 [3] (by kernel_rfl) (fun y w' HW hd K hK => ?_) ?_
      ·have e3 := hd_nth (hd 3 (by simp)) rfl
       go_simp
       refine hK _ _ ?_ ?_ HW
       ·simp [upd, e3]
       ·exact rfl
      refine auto_op 17 [3] (by kernel_rfl) (fun y w' HW hd K hK => ?_) ?_
      ·have e3 := hd_nth (hd 3 (by simp)) rfl
       go_simp
       refine hK _ _ ?_ ?_ HW
       ·simp [upd, e3]
       ·exact rfl
      refine auto_op 18 [4, 5, 3, 3] (by kernel_rfl) (fun y w' HW hd K hK => ?_) ?_
      ·have e3 := hd_nth (hd 3 (by simp)) rfl
       have e4 := hd_nth (hd 4 (by simp)) rfl
       have e5 := hd_nth (hd 5 (by simp)) rfl
       go_simp
       refine (HPZ.out _ HW).mono ?_
       rintro e w3 ⟨rfl, hb3⟩
       refine hK _ _ ?_ ?_ (HW.trans (hb3.mono HW.size))
       ·simp [upd, e3, e4, e5]
       ·exact rfl
      refine auto_op 19 [6, 3] (by kernel_rfl) (fun y w' HW hd K hK => ?_) ?_
      ·have e3 := hd_nth (hd 3 (by simp)) rfl
       have e6 := hd_nth (hd 6 (by simp)) rfl
       go_simp
       refine hK _ _ ?_ ?_ HW
       ·simp [upd, e3, e6]
       ·exact rfl
      refine auto_op 20 [3] (by kernel_rfl) (fun y w' HW hd K hK => ?_) ?_
      ·have e3 := hd_nth (hd 3 (by simp)) rfl
       go_simp
       refine hK _ _ ?_ ?_ HW
       ·simp [upd, e3]
       ·exact rfl
      refine auto_op 21 [8, 3] (by kernel_rfl) (fun y w' HW hd K hK => ?_) ?_
      ·have e3 := hd_nth (hd 3 (by simp)) rfl
       have e8 := hd_nth (hd 8 (by simp)) rfl
       have hcl : ∀ p : Addr, p.block < wr.heap.size → w'.cell? p = wr.cell? p := fun p hp => HW.cell hp
       go_simp
       refine hK _ _ ?_ ?_ HW
       ·simp [upd, e3, e8]
       ·exact rfl
      refine auto_op 22 [7, 9, 3] (by kernel_rfl) (fun y w' HW hd K hK => ?_) ?_
      ·have e3 := hd_nth (hd 3 (by simp)) rfl
       have e7 := hd_nth (hd 7 (by simp)) rfl
       have e9 := hd_nth (hd 9 (by simp)) rfl
       go_simp
       refine hK _ _ ?_ ?_ HW
       ·simp [upd, e3, e7, e9]
       ·exact rfl
      refine auto_last fun y w' HW hd K hK => ?_
      have e0 := hd_nth (hd 0 (by omega)) rfl
      have e1 := hd_nth (hd 1 (by omega)) rfl
      have e2 := hd_nth (hd 2 (by omega)) rfl
      have e3 := hd_nth (hd 3 (by omega)) rfl
      have e4 := hd_nth (hd 4 (by omega)) rfl
      have e5 := hd_nth (hd 5 (by omega)) rfl
      have e6 := hd_nth (hd 6 (by omega)) rfl
      have e7 := hd_nth (hd 7 (by omega)) rfl
      have e8 := hd_nth (hd 8 (by omega)) rfl
      have e9 := hd_nth (hd 9 (by omega)) rfl
      have e10 := hd_nth (hd 10 (by omega)) rfl
      go_simp
      refine hK _ _ ?_
      clear hd hK K e0 e1 e2 e3 e4 e5 e6 e7 e8 e9 e10
      go_wp2
      go_meet
      exact ⟨rfl, rfl, HW⟩
   case rest =>
    clear hcs a0 a1 al HPZ
    obtain ⟨rfl, rfl, hbc⟩ := hcut
    have HS2 := Lib.hid (HS1.out.more hbc)
    have HQ2 := Lib.hid (HQ.out.trans (Kq.of_below hbc))
    have HN2 := Lib.hid (HN.out.more hbc)
    clear hbc HS1 HQ HN
    obtain ⟨wy, rfl⟩ : ∃ X, X = wc := ⟨_, rfl⟩
    cases tt
    ·have HS9 : Hid (WrR wy u t g b s m S L D Y l q (fun z => z = p ∧ p < 8 ∧ p < i + 1)) := Lib.hid ⟨l1, q1, HS2.out, HF1.out, fun z hz => HC1.out z ⟨hz.1, hz.2.1, by
      rcases Nat.lt_or_ge p i with h | h
      ·exact h
      ·exact absurd (HTT.out (by omega)) (by decide)⟩⟩
     clear HS2 HF1 HC1 HTT
     go_wp2
     go_roundw
     case rel => exact ⟨i + 1, by have := H3.out; omega, by first | rfl | (simp; done), HS9, HQ2, HN2⟩
     case measure => have := H3.out; simp [intOf]; omega
    ·clear HTT
     have u1 := HS2.out.cell1
     have u2 := HS2.out.cell2
     have ul := HS2.out.lt
     have hwr := Sw.shWrote_any (i : Int) HS2.out.sh
     have hfd := HF1.out.trans (forg_drop l1 q1 (goF i false))
     have hlb := left_by l1 i
     have hsub : ∀ x ∈ leftS l1 i false, x ∈ l1 := fun x hx => (List.mem_filter.1 hx).1
     have hkk : ∀ x ∈ (goneS l1 i false).map Ln.key, ∃ p r, x = [p, r] := fun x hx => by obtain ⟨z, _, rfl⟩ := List.mem_map.1 hx; exact ⟨_, _, rfl⟩
     have hkl : ((goneS l1 i false).map Ln.key).length ≤ 1000 := by
      rw [List.length_map]
      have h1 : (goneS l1 i false).length ≤ l1.length := List.length_filter_le _ _
      have h2 := HS2.out.sh.len
      omega
     change Forg l q (leftS l1 i false) (dropQ q1 ((goneS l1 i false).map Ln.key)) at hfd
     generalize (goneS l1 i false).map Ln.key = ks at hwr hfd hkk hkl
     generalize leftS l1 i false = l2 at hwr hfd hlb hsub
     have HWR := Lib.hid hwr
     have HFD := Lib.hid hfd
     have HC3 : Hid (∀ z : Int, (z = p ∧ p < 8 ∧ p < i + 1) → ∀ x ∈ l2, x.by_ z = false) := Lib.hid fun z hz x hx => by
      by_cases hzi : z = i
      ·rw [hzi]; exact hlb x hx
      ·exact HC1.out z ⟨hz.1, hz.2.1, by omega⟩ x (hsub x hx)
     have HKK := Lib.hid hkk
     have HKL := Lib.hid hkl
     clear hwr hfd hlb hsub hkk hkl HF1 HC1
     go_wp2_with fail
     refine HWR.out.mono ?_
     rintro e w3 ⟨⟨v, rfl, HT⟩, HL3, hk3⟩
     obtain ⟨ka, kc, rfl, hrow, hge⟩ := HT.out
     have HS3 := Lib.hid (HS2.out.shd hk3 HL3.out)
     have hfg := forget20_any (W := w3) ks ka kc hrow HKK.out (fun y e => by have h1 := hge y e; have h2 := HS2.out.tl.lt; omega) HKL.out HS3.out
     generalize ks.length = nk at hfg
     have HFG := Lib.hid hfg
     have HQ3 := Lib.hid (HQ2.out.trans (hk3.more (by simp)))
     have HN3 := Lib.hid (HN2.out.kq hk3 (by have := HAB.out; simp at this ⊢; omega))
     clear HT hrow hge hk3 HL3 HWR u1 u2 ul HS2 HQ2 HN2 hfg HKK HKL
     go_wp2_with fail
     refine HFG.out.mono ?_
     rintro e w4 ⟨rfl, HS4, hk4⟩
     have HS9 : Hid (WrR w4 u t g b s m S L D Y l q (fun z => z = p ∧ p < 8 ∧ p < i + 1)) := Lib.hid ⟨_, _, HS4.out, HFD.out, HC3.out⟩
     have HQ9 := Lib.hid (HQ3.out.trans (hk4.more (by simp)))
     have HN9 := Lib.hid (HN3.out.kq hk4 (by have := HAB.out; simp at this ⊢; omega))
     clear hk4 HFG HS3 HQ3 HN3 HFD HC3 HS4
     go_wp2
     go_roundw
     case rel => exact ⟨i + 1, by have := H3.out; omega, by first | rfl | (simp; done), HS9, HQ9, HN9⟩
     case measure => have := H3.out; simp [intOf]; omega
  ·have hne : ¬ (i : Int) < 8 := by omega
   have HE : Hid (WrR wr u t g b s m S L D Y l q (fun z => z = p ∧ p < 8)) := Lib.hid (HS.out.weak (fun z hz => ⟨hz.1, hz.2, by omega⟩))
   have HQ9 := Lib.hid HQ.out
   clear HS HQ HN hi hin
   go_wp2
   go_end0
   exact ⟨rfl, HE, HQ9.out⟩
end
end Go.Proofs.YteaincdeoajkeaaGreatDoor.Mm
end
section
/- Package mmu: keep. -/
namespace Go.Proofs.YteaincdeoajkeaaGreatDoor.Mm
open Go.RowKit Go.Shelf Ut Oc Vw Wa
open Sw (Ln tabL ownP fillS toldS Inv19 ErW FlB findS entS)
open Sb (Rc findL withoutL narL RcRow)
set_option linter.unusedVariables false
set_option maxRecDepth 100000
set_option maxHeartbeats 8000000

def narAll (q : List Rc) (ps : List (List Int)) : List Rc := ps.foldl (fun q p => narL q (p.getD 0 0)) q
theorem narAll_next {q : List Rc} {ps : List (List Int)} {i : Nat} {p : Int} (h : ps[i]? = some [p]) : narL (narAll q (ps.take i)) p = narAll q (ps.take (i + 1)) := by
 unfold narAll
 rw [List.take_add_one, h, List.foldl_append]
 rfl
/-- the keys of those that the shadow lacks -/
def missK (l : List Ln) (ys : List Rc) : List (List Int) := (ys.filter fun y => (findS l y.kr y.kp).isNone).map fun y => [y.kr, y.kp]
theorem dropQ_snoc (q : List Rc) (ks : List (List Int)) (p r : Int) : withoutL (dropQ q ks) p r = dropQ q (ks ++ [[p, r]]) := by
 have h := dropQ_next (q := q) (ks := ks ++ [[p, r]]) (i := ks.length) (p := p) (r := r) (by simp)
 rw [List.take_left, List.take_of_length_le (by simp)] at h
 exact h
theorem missK_next {l : List Ln} {ys : List Rc} {i : Nat} {y : Rc} (h : ys[i]? = some y) : missK l (ys.take (i + 1)) = missK l (ys.take i) ++ (if (findS l y.kr y.kp).isNone = true then [[y.kr, y.kp]] else []) := by
 unfold missK
 rw [List.take_add_one, h, List.filter_append, List.map_append]
 by_cases hn : (findS l y.kr y.kp).isNone = true
 ·rw [if_pos hn]; simp [hn]
 ·rw [if_neg hn]; simp [hn]
/-- what keep leaves in the Tlb -/
def KeepQ (l1 : List Ln) (kr kp : Int) (q1 q3 : List Rc) : Prop := ∃ z, findS l1 kr kp = some z ∧ ∀ y ∈ q3, y = ⟨kr, kp, z.ep, z.ef, z.er⟩ ∨ (y ∈ q1 ∧ (findS l1 y.kr y.kp).isSome = true ∧ ¬ (y.kr = kr ∧ y.kp = kp))

/-- the memory in keep: the boxed key and entry lie there, too -/
structure KS (W w : World) (u t g b s m : Nat) (S : List Int) (L : List Gm.Pl) (D : List Bool) (l : List Ln) (q : List Rc) (Y : List Gm.Pl) (kr kp ep ef er : Int) : Prop where
 st : ST w u t g b s m S L D l q Y
 fl : FlB W w kr kp ep ef er
 kq : Kq [t, g] W w
 tW : t < W.heap.size
 gW : g < W.heap.size
 lo : ∀ x ∈ [u, t, g, b, s, m, 0], x < W.heap.size
section
variable {W w w' : World} {u t g b s m : Nat} {S : List Int} {L : List Gm.Pl} {D : List Bool} {l l' : List Ln} {q q' : List Rc} {Y : List Gm.Pl} {kr kp ep ef er : Int}
theorem KS.more (h : KS W w u t g b s m S L D l q Y kr kp ep ef er) (hb : Below w.heap.size w w') : KS W w' u t g b s m S L D l q Y kr kp ep ef er :=
 ⟨h.st.more hb, h.fl.kq (T := []) (Kq.of_below hb) (fun _ h => by simp at h), h.kq.trans (Kq.of_below hb), h.tW, h.gW, h.lo⟩
theorem KS.tlb (h : KS W w u t g b s m S L D l q Y kr kp ep ef er) (hk : Kq [t] w w') (hq : Sb.QT w' t q') : KS W w' u t g b s m S L D l q' Y kr kp ep ef er :=
 ⟨h.st.tlb hk hq, h.fl.kq hk (fun z hz => by simp at hz; rw [hz]; exact h.tW), h.kq.trans (hk.more (by simp)), h.tW, h.gW, h.lo⟩
theorem KS.shd (h : KS W w u t g b s m S L D l q Y kr kp ep ef er) (hk : Kq [g] w w') (hl : Sw.LS19 w' g true l') : KS W w' u t g b s m S L D l' q Y kr kp ep ef er :=
 ⟨h.st.shd hk hl, h.fl.kq hk (fun z hz => by simp at hz; rw [hz]; exact h.gW), h.kq.trans (hk.more (by simp)), h.tW, h.gW, h.lo⟩
/-- the boxed entry is another one -/
theorem KS.ent {ep' ef' er' : Int} (h : KS W w u t g b s m S L D l q Y kr kp ep ef er) (hk : Kq [W.heap.size + 1] w w') (he : Blk w' (W.heap.size + 1) 50 [.int .i64 ep', .int .i64 ef', .int .i64 er']) : KS W w' u t g b s m S L D l q Y kr kp ep' ef' er' :=
 ⟨h.st.kq hk (fun x hx => by have := h.lo x hx; simp; omega), ⟨h.fl.key.kq hk (by simp), he⟩, by
  have h1 := h.kq
  exact ⟨h1.os.symm ▸ hk.os, h1.tape.symm ▸ hk.tape, h1.output.symm ▸ hk.output, Nat.le_trans h1.size hk.size, fun x hx hn => (hk.block x (Nat.lt_of_lt_of_le hx h1.size) (by simp; omega)).trans (h1.block x hx hn)⟩, h.tW, h.gW, h.lo⟩
theorem keepQ_of {l1 : List Ln} {q1 mq q3 : List Rc} {z : Ln} (hz : findS l1 kr kp = some z) (hp : mq.Perm q1) (h : ∀ y ∈ q3, y = ⟨kr, kp, z.ep, z.ef, z.er⟩ ∨ y ∈ withoutL (dropQ q1 (missK l1 mq)) kr kp) : KeepQ l1 kr kp q1 q3 := by
 refine ⟨z, hz, fun y hy => ?_⟩
 rcases h y hy with h | h
 ·exact .inl h
 ·obtain ⟨h1, h2⟩ := List.mem_filter.1 h
  obtain ⟨h3, h4⟩ := List.mem_filter.1 h1
  refine .inr ⟨h3, ?_, fun e => ?_⟩
  ·cases ho : findS l1 y.kr y.kp with
   | some z => rfl
   | none =>
    have hm : [y.kr, y.kp] ∈ missK l1 mq := List.mem_map.2 ⟨y, List.mem_filter.2 ⟨hp.mem_iff.2 h3, by rw [ho]; rfl⟩, rfl⟩
    rw [Bool.not_eq_true', ← Bool.not_eq_true, List.contains_iff_mem] at h4
    exact absurd hm h4
  ·rw [Sb.is_iff.2 e] at h2
   cases h2
theorem fill_found (l : List Ln) (x : Ln) (h : l.length ≤ 32) : ∃ z, findS (fillS l x) x.kr x.kp = some z := by
 obtain ⟨ws, e, _, _⟩ := Sw.add_split l x h
 have h1 : (x.kr, x.kp) ∈ (fillS l x).map Sw.kyS := by
  unfold fillS
  rw [Sw.out_map _ _ _ Sw.kyS (fun z => rfl), e]
  simp [Sw.kyS]
 obtain ⟨z, hz, ez⟩ := List.mem_map.1 h1
 cases ho : findS (fillS l x) x.kr x.kp with
 | some z => exact ⟨z, rfl⟩
 | none =>
  have := List.find?_eq_none.1 ho z hz
  rw [Sw.is_iffS.2 ez] at this
  exact absurd rfl this
theorem keep20_any (kr kp ep ef er rt lf : Int) (h : ST W u t g b s m S L D l q Y) (hI : Inv19 l) (hE : ErW l) (hr : ownP rt = true) (hf : ownP lf = true) :
  Calls Tryz.prog 76 #[.pointer (some ⟨u, 0, none⟩), .agg #[.int .i64 kr, .int .i64 kp], .agg #[.int .i64 ep, .int .i64 ef, .int .i64 er], .int .i64 rt, .int .i64 lf] W fun e w' => e = .returned (.tuple #[]) ∧ Hid (∃ q3, ST w' u t g b s m S L D (fillS l ⟨kr, kp, ep, ef, er, rt, lf⟩) q3 Y ∧ KeepQ (fillS l ⟨kr, kp, ep, ef, er, rt, lf⟩) kr kp (narAll q (toldS l rt lf 8)) q3) ∧ Kq [t, g] W w' := by
 obtain ⟨U, hU⟩ : ∃ U, U = (W.alloc (.cells #[.int .i64 kr, .int .i64 kp] 48)).alloc (.cells #[.int .i64 ep, .int .i64 ef, .int .i64 er] 50) := ⟨_, rfl⟩
 have hB : Below W.heap.size W U := by rw [hU]; exact ((Below.refl _ _).alloc (Nat.le_refl _) _).alloc (by simp) _
 have hks : KS W U u t g b s m S L D l q Y kr kp ep ef er := ⟨h.more hB, by rw [hU]; exact Sw.flB_new W kr kp ep ef er, Kq.of_below hB, h.tl.lt, h.sh.lt, fun x hx => by
  have h1 := h.lt
  have h2 := h.tl.lt
  have h3 := h.sh.lt
  have h4 := h.pv.lt
  have h5 := h.pv.mb
  have h6 := h.pv.sm
  have h7 := h.ns
  simp at hx
  omega⟩
 have hn := fill_found l ⟨kr, kp, ep, ef, er, rt, lf⟩ hI.n
 dsimp only at hn
 have HFI : Hid (∀ w', Below U.heap.size U w' → Calls Tryz.prog 119 #[.pointer (some ⟨g, 0, none⟩), .agg #[.int .i64 kr, .int .i64 kp], .agg #[.int .i64 ep, .int .i64 ef, .int .i64 er], .int .i64 rt, .int .i64 lf] w' fun e w'' => (∃ v, e = .returned (.tuple #[v, .int .i64 0]) ∧ Hid (Sw.Told 1 w' w'' v (toldS l rt lf 8))) ∧ Hid (Sw.LS19 w'' g true (fillS l ⟨kr, kp, ep, ef, er, rt, lf⟩)) ∧ Kq [g] w' w'') := Lib.hid fun w' hw' => Sw.shFill_yes kr kp ep ef er rt lf (hks.more hw').st.sh hI hE hr hf
 have hf8 : (toldS l rt lf 8).length ≤ 8 := Sw.told_len l rt lf 8
 have hf1 : ∀ z ∈ toldS l rt lf 8, ∃ p, z = [p] := fun z hz => by
  unfold toldS at hz
  obtain ⟨p, _, rfl⟩ := List.mem_map.1 hz
  exact ⟨_, rfl⟩
 have HU := Lib.hid hU
 have HKS := Lib.hid hks
 generalize fillS l ⟨kr, kp, ep, ef, er, rt, lf⟩ = l1 at hn HFI ⊢
 generalize toldS l rt lf 8 = fs at HFI hf8 hf1 ⊢
 obtain ⟨nf, hnf⟩ : ∃ nf, fs.length = nf := ⟨_, rfl⟩
 rw [hnf] at hf8
 have HNF := Lib.hid hnf
 obtain ⟨zz, hzz⟩ := hn
 have HZZ := Lib.hid hzz
 have HF8 := Lib.hid hf8
 have HF1 := Lib.hid hf1
 have u2 := hks.st.cell2
 have ul := hks.st.lt
 have k0 := hks.fl.key.cell (j := 0) rfl
 have k1 := hks.fl.key.cell (j := 1) rfl
 have kl := hks.fl.key.lt
 have j0 := hks.fl.ent.cell (j := 0) rfl
 have j1 := hks.fl.ent.cell (j := 1) rfl
 have j2 := hks.fl.ent.cell (j := 2) rfl
 have jl := hks.fl.ent.lt
 clear hzz hf1 hnf hU hB hks h hI hE hr hf
 go_enter Tryz.func76, Tryz.ntmps76
 go_upto_region 1 with fail
 rw [← HU.out]
 clear HU
 go_cut [10] from 8 to 29 (fun v wx => ∃ a c, v = .slice a nf c ∧ Hid (KS W wx u t g b s m S L D l1 q Y kr kp ep ef er) ∧ Hid (IRow 1 wx a fs ∧ ∀ y, a = some y → W.heap.size ≤ y.block))
 case first =>
  have hd : Below U.heap.size U U.drew := (Below.refl _ _).drew
  go_region_with (refine (HFI.out _ hd).mono ?_; rintro e w3 ⟨⟨v, rfl, HT⟩, HL3, hk3⟩; obtain ⟨fa, fc, hfv, hrow, hge⟩ := HT.out; rw [HNF.out] at hfv; subst hfv; have HK3 := Lib.hid ((HKS.out.more hd).shd hk3 HL3.out); have HR3 := Lib.hid (And.intro hrow (fun y e => Nat.le_trans (HKS.out.kq.trans (Kq.of_below hd)).size (hge y e))); clear hrow hge HT HL3 hk3)
  all_goals
   go_wp2
   go_meet
   exact ⟨_, _, rfl, HK3, HR3⟩
 case rest =>
  obtain ⟨V, rfl⟩ : ∃ X, X = wc := ⟨_, rfl⟩
  obtain ⟨fa, fc, rfl, HK, HR⟩ := hcut
  have HRG : Hid (∀ y, fa = some y → W.heap.size ≤ y.block) := Lib.hid HR.out.2
  have HR0 : Hid (IRow 1 V fa fs) := Lib.hid HR.out.1
  have HTW : Hid (t < W.heap.size ∧ g < W.heap.size) := Lib.hid ⟨HK.out.tW, HK.out.gW⟩
  have HK0 : Hid (KS W V u t g b s m S L D l1 (narAll q (fs.take 0)) Y kr kp ep ef er) := HK
  have n0 : (0 : Int) ≤ (nf : Int) := by omega
  clear u2 ul k0 k1 kl j0 j1 j2 jl HFI HKS HR HK
  go_wp2
  go_loopw [32] (fun j wr => ∃ i : Nat, i ≤ nf ∧ j = .int .i64 i ∧ Hid (KS W wr u t g b s m S L D l1 (narAll q (fs.take i)) Y kr kp ep ef er) ∧ Hid (IRow 1 wr fa fs)) (fun j _ => nf - (intOf j).toNat)
  case atStart => exact ⟨0, Nat.zero_le _, rfl, HK0, HR0⟩
  case round =>
   clear HK0 HR0
   obtain ⟨i, hi, rfl, HK, HR⟩ := hrel
   by_cases hin : i < nf
   ·have f0 : (i : Int) < (nf : Int) := by omega
    have f1 : (0 : Int) ≤ (i : Int) := by omega
    have H3 := Lib.hid hin
    have hx : fs[i]? = some (fs[i]'(by rw [HNF.out]; exact hin)) := List.getElem?_eq_getElem _
    obtain ⟨x, hxx⟩ : ∃ x, fs[i]'(by rw [HNF.out]; exact hin) = x := ⟨_, rfl⟩
    rw [hxx] at hx
    obtain ⟨p, rfl⟩ := HF1.out x (List.mem_of_getElem? hx)
    have HNX := Lib.hid (narAll_next (q := q) hx)
    obtain ⟨y, rfl, hyb, hyb2, d0, _⟩ := HR.out.at_ hx
    have d0 := d0 p rfl
    rw [Nat.mul_one] at d0 hyb2
    have u1 := HK.out.st.cell1
    have ul := HK.out.st.lt
    have HD := Lib.hid (Sb.qtNarrow p HK.out.st.tl)
    clear hx hxx hin hi
    go_wp2_with fail
    refine HD.out.mono ?_
    rintro e w3 ⟨⟨_, rfl⟩, hq3, hk3⟩
    have HK3 := Lib.hid (HK.out.tlb hk3 hq3)
    rw [HNX.out] at HK3
    have HR3 := Lib.hid (HR.out.kq hk3 (fun z e => by have h1 := HRG.out z e; have h2 := HTW.out; simp; omega))
    clear hq3 hk3 HD HK HR HNX d0 hyb hyb2 u1 ul
    go_wp2
    go_roundw
    case rel => exact ⟨i + 1, by have := H3.out; omega, by first | rfl | (simp; done), HK3, HR3⟩
    case measure => have := H3.out; simp [intOf]; omega
   ·have hne : ¬ (i : Int) < (nf : Int) := by omega
    have HKE : Hid (KS W wr u t g b s m S L D l1 (narAll q fs) Y kr kp ep ef er) := Lib.hid (by
     have e : fs.take i = fs := by rw [List.take_of_length_le]; rw [HNF.out]; omega
     have h := HK.out
     rw [e] at h
     exact h)
    clear HK HR hi hin HRG HF1 HNF
    obtain ⟨q1, hq1⟩ : ∃ q1, narAll q fs = q1 := ⟨_, rfl⟩
    rw [hq1] at HKE
    have HQ1 := Lib.hid hq1
    clear hq1
    have u1 := HKE.out.st.cell1
    have ul := HKE.out.st.lt
    have HLS := Lib.hid (Sb.qtList HKE.out.st.tl)
    have hl4 := HKE.out.st.tl.len
    obtain ⟨nq, hnq⟩ : ∃ nq, q1.length = nq := ⟨_, rfl⟩
    rw [hnq] at HLS hl4
    have HNQ := Lib.hid hnq
    clear hnq
    go_wp2_with fail
    refine HLS.out.mono ?_
    rintro e w4 ⟨⟨la, lc, rfl, HM⟩, hb4⟩
    obtain ⟨mq, hperm, hrow, hge, _⟩ := HM.out
    have HPM := Lib.hid hperm
    have HMN : Hid (mq.length = nq) := Lib.hid (hperm.length_eq.trans HNQ.out)
    have HR0 := Lib.hid hrow
    have HRG := Lib.hid hge
    have HK0 : Hid (KS W w4 u t g b s m S L D l1 (dropQ q1 (missK l1 (mq.take 0))) Y kr kp ep ef er) := Lib.hid (by rw [show missK l1 (mq.take 0) = [] from rfl, dropQ_none]; exact HKE.out.more hb4)
    have HT4 : Hid (t < wr.heap.size) := Lib.hid HKE.out.st.tl.lt
    have n1 : (0 : Int) ≤ (nq : Int) := by omega
    obtain ⟨wy, rfl⟩ : ∃ X, X = wr := ⟨_, rfl⟩
    clear hperm hrow hge HM hb4 HLS u1 ul HKE
    go_wp2
    go_loopw [49] (fun j wr => ∃ i : Nat, i ≤ nq ∧ j = .int .i64 i ∧ Hid (KS W wr u t g b s m S L D l1 (dropQ q1 (missK l1 (mq.take i))) Y kr kp ep ef er) ∧ Hid (RcRow wr la mq)) (fun j _ => nq - (intOf j).toNat)
    case atStart => exact ⟨0, Nat.zero_le _, rfl, HK0, HR0⟩
    case round =>
     clear HK0 HR0
     obtain ⟨i, hi, rfl, HK, HR⟩ := hrel
     by_cases hin : i < nq
     ·have f0 : (i : Int) < (nq : Int) := by omega
      have f1 : (0 : Int) ≤ (i : Int) := by omega
      have H3 := Lib.hid hin
      have hx : mq[i]? = some (mq[i]'(by rw [HMN.out]; exact hin)) := List.getElem?_eq_getElem _
      obtain ⟨x, hxx⟩ : ∃ x, mq[i]'(by rw [HMN.out]; exact hin) = x := ⟨_, rfl⟩
      rw [hxx] at hx
      have hms := missK_next (l := l1) hx
      obtain ⟨ad, rfl, hab, c0, c1, c2, c3, c4⟩ := RcRow.at_ HR.out hx
      have hab2 : (ad.add (i * 5)).block < wr.heap.size := by rw [block_of_add]; exact hab
      obtain ⟨xr, xp, xe, xf, xs⟩ := x
      dsimp only at c0 c1 c2 c3 c4 hms
      obtain ⟨V, hV⟩ : ∃ V, V = wr.alloc (.cells #[.int .i64 xr, .int .i64 xp, .int .i64 xe, .int .i64 xf, .int .i64 xs] 52) := ⟨_, rfl⟩
      have hbV : Below wr.heap.size wr V := by rw [hV]; exact (Below.refl _ _).alloc (Nat.le_refl _) _
      have hNV : Blk V wr.heap.size 52 [.int .i64 xr, .int .i64 xp, .int .i64 xe, .int .i64 xf, .int .i64 xs] := by rw [hV]; exact Blk.new wr _ _
      have HV := Lib.hid hV
      have HKV := Lib.hid (HK.out.more hbV)
      have HRV := Lib.hid (HR.out.more hbV)
      have HNV := Lib.hid hNV
      obtain ⟨o, ho⟩ : ∃ o, findS l1 xr xp = o := ⟨_, rfl⟩
      rw [ho] at hms
      have HG : Hid (∀ w', Below V.heap.size V w' → Calls Tryz.prog 74 #[.pointer (some ⟨g, 0, none⟩), .agg #[.int .i64 xr, .int .i64 xp]] w' fun e w'' => e = .returned (.tuple #[Sw.entW (entS o), .bool o.isSome]) ∧ Below w'.heap.size w' w'') := Lib.hid fun w' hw' => by
       have h := (HKV.out.more hw').st.sh
       have := Sw.shGet_any xr xp h.th (.inr ⟨_, _, rfl, h⟩)
       rw [ho] at this
       exact this
      have hos : (o.isNone = true ∧ o.isSome = false) ∨ (o.isNone = false ∧ o.isSome = true) := by cases o <;> simp
      clear ho
      obtain ⟨e3, he3⟩ : ∃ e3, entS o = e3 := ⟨_, rfl⟩
      rw [he3] at HG
      clear he3
      obtain ⟨q0, q1_, q2⟩ := e3
      unfold Sw.entW at HG
      dsimp only at HG
      generalize o.isSome = ok at HG hos
      generalize o.isNone = no at hms hos
      have HMS := Lib.hid hms
      have HOS := Lib.hid hos
      have u2 := HKV.out.st.cell2
      have ul := HKV.out.st.lt
      have b0 := hNV.cell (j := 0) rfl
      have b1 := hNV.cell (j := 1) rfl
      have bl := hNV.lt
      clear hx hxx hin hi hV hbV hNV hms hos HK HR
      go_upto_region 10 with fail
      rw [← HV.out]
      clear HV c0 c1 c2 c3 c4 hab hab2
      generalize wr.heap.size = vb at HNV b0 b1 bl ⊢
      apply wp_region_x [54, 55, 56, 57, 58, 59, 60, 53, 61, 62, 16, 120] [_, _, _, _, _, _, _, _, _, _, undef, undef] [10] (fun L_ x_ W' => Below V.heap.size V W' ∧ NewB V.heap.size 10 11 50 [.int .i64 0, .int .i64 0, .int .i64 0] [.int .i64 q0, .int .i64 q1_, .int .i64 q2] L_ x_ W')
      case hm => kernel_rfl
      case hT => intro y; simp only [setAll, List.setIfInBounds_toArray, List.set_cons_succ, List.set_cons_zero, List.set_nil]; exact rfl
      case hok => kernel_rfl
      case hn => decide
      case hw => exact (fun L_ x_ h0 => ⟨(Below.refl _ _).drew, NewB.no (h0 10 (by decide))⟩)
      case hs =>
       refine x_op 54 [] (by kernel_rfl) (fun L y w' hL hC HW hd K hK => ?_) ?_
       ·go_simp
        refine hK _ _ ?_ ?_ HW
        ·simp [upd]
        ·exact rfl
       refine x_op 55 [0] (by kernel_rfl) (fun L y w' hL hC HW hd K hK => ?_) ?_
       ·have e0 := xR_nth (hd 0 (by simp)).2 rfl rfl
        go_simp
        refine hK _ _ ?_ ?_ HW
        ·simp [upd, e0]
        ·exact rfl
       refine x_op 56 [1] (by kernel_rfl) (fun L y w' hL hC HW hd K hK => ?_) ?_
       ·have e1 := xR_nth (hd 1 (by simp)).2 rfl rfl
        go_simp
        refine hK _ _ ?_ ?_ HW
        ·simp [upd, e1]
        ·exact rfl
       refine x_op 57 [2] (by kernel_rfl) (fun L y w' hL hC HW hd K hK => ?_) ?_
       ·have e2 := xR_nth (hd 2 (by simp)).2 rfl rfl
        have u2 := (HW.1.cell (p := ⟨u, 2, none⟩) ul).trans u2
        have ul := Nat.lt_of_lt_of_le ul HW.1.size
        go_simp
        refine hK _ _ ?_ ?_ HW
        ·simp [upd, e2]
        ·exact rfl
       refine x_op 58 [] (by kernel_rfl) (fun L y w' hL hC HW hd K hK => ?_) ?_
       ·go_simp
        refine hK _ _ ?_ ?_ HW
        ·simp [upd]
        ·exact rfl
       refine x_op 59 [4] (by kernel_rfl) (fun L y w' hL hC HW hd K hK => ?_) ?_
       ·have e4 := xR_nth (hd 4 (by simp)).2 rfl rfl
        have b0 := (HW.1.cell (p := ⟨vb, 0, none⟩) bl).trans b0
        have b1 := (HW.1.cell (p := ⟨vb, 1, none⟩) bl).trans b1
        have bl := Nat.lt_of_lt_of_le bl HW.1.size
        go_simp
        refine hK _ _ ?_ ?_ HW
        ·simp [upd, e4]
        ·exact rfl
       refine x_op 60 [3, 5] (by kernel_rfl) (fun L y w' hL hC HW hd K hK => ?_) ?_
       ·have e3 := xR_nth (hd 3 (by simp)).2 rfl rfl
        have e5 := xR_nth (hd 5 (by simp)).2 rfl rfl
        go_simp
        refine (HG.out _ HW.1).mono ?_
        rintro e w3 ⟨rfl, hb3⟩
        refine hK _ _ ?_ ?_ ⟨HW.1.trans (hb3.mono HW.1.size), HW.2.kq (Kq.of_below (T := []) hb3) (by simp) rfl rfl rfl⟩
        ·simp [upd, e3, e5]
        ·exact rfl
       refine x_op 53 [6] (by kernel_rfl) (fun L y w' hL hC HW hd K hK => ?_) ?_
       ·have e6 := xR_nth (hd 6 (by simp)).2 rfl rfl
        go_simp
        refine hK _ _ ?_ ?_ HW
        ·simp [upd, e6]
        ·exact rfl
       refine x_op 61 [7] (by kernel_rfl) (fun L y w' hL hC HW hd K hK => ?_) ?_
       ·have e7 := xR_nth (hd 7 (by simp)).2 rfl rfl
        go_simp
        refine hK _ _ ?_ ?_ HW
        ·simp [upd, e7]
        ·exact rfl
       refine x_op 62 [7] (by kernel_rfl) (fun L y w' hL hC HW hd K hK => ?_) ?_
       ·have e7 := xR_nth (hd 7 (by simp)).2 rfl rfl
        go_simp
        refine hK _ _ ?_ ?_ HW
        ·simp [upd, e7]
        ·exact rfl
       refine x_one 16 [] (by kernel_rfl) rfl (fun L y w' hL hC HW hd K hK => ?_) ?_
       ·go_simp
        refine hK _ _ ?_ ⟨HW.1.trans (((Below.refl _ _).alloc (Nat.le_refl _) _).mono HW.1.size), NewB.made (hC.not' 11 10 (by kernel_rfl) hL) rfl HW.1.size rfl⟩
        ·simp [upd]
       refine x_op 120 [10, 8, 6, 0, 1, 2, 3, 4, 5, 6, 7, 8, 10] (by kernel_rfl) (fun L y w' hL hC HW hd K hK => ?_) ?_
       ·have e0 := xR_nth (hd 0 (by simp)).2 rfl rfl
        have e1 := xR_nth (hd 1 (by simp)).2 rfl rfl
        have e2 := xR_nth (hd 2 (by simp)).2 rfl rfl
        have e3 := xR_nth (hd 3 (by simp)).2 rfl rfl
        have e4 := xR_nth (hd 4 (by simp)).2 rfl rfl
        have e5 := xR_nth (hd 5 (by simp)).2 rfl rfl
        have e6 := xR_nth (hd 6 (by simp)).2 rfl rfl
        have e7 := xR_nth (hd 7 (by simp)).2 rfl rfl
        have e8 := xR_nth (hd 8 (by simp)).2 rfl rfl
        have hl10 := (hd 10 (by simp)).1
        obtain ⟨pb, e10, hp10, hb10⟩ := HW.2 hl10
        rw [hL] at hb10
        have z0 := hb10.cell (j := 0) rfl
        have z1 := hb10.cell (j := 1) rfl
        have z2 := hb10.cell (j := 2) rfl
        have y0 := hb10.frozen 0
        have y1 := hb10.frozen 1
        have y2 := hb10.frozen 2
        have zl := hb10.lt
        go_simp
        refine hK _ _ ?_ ?_ ⟨((HW.1.setCell (p := ⟨pb, 0, none⟩) hp10 _).setCell (p := ⟨pb, 1, none⟩) hp10 _).setCell (p := ⟨pb, 2, none⟩) hp10 _, NewB.put rfl e10 hp10 (((hb10.set 0 (.int .i64 q0)).set 1 (.int .i64 q1_)).set 2 (.int .i64 q2))⟩
        ·simp [upd, e0, e1, e2, e3, e4, e5, e6, e7, e8, e10]
        ·exact rfl
       refine x_last fun L y w' hLs HW hd K hK => ?_
       have e0 := xR_nth (hd 0 (by omega)) rfl rfl
       have e1 := xR_nth (hd 1 (by omega)) rfl rfl
       have e2 := xR_nth (hd 2 (by omega)) rfl rfl
       have e3 := xR_nth (hd 3 (by omega)) rfl rfl
       have e4 := xR_nth (hd 4 (by omega)) rfl rfl
       have e5 := xR_nth (hd 5 (by omega)) rfl rfl
       have e6 := xR_nth (hd 6 (by omega)) rfl rfl
       have e7 := xR_nth (hd 7 (by omega)) rfl rfl
       have e8 := xR_nth (hd 8 (by omega)) rfl rfl
       have e9 := xR_nth (hd 9 (by omega)) rfl rfl
       have HW9 := HW.1
       obtain ⟨pb, e10, _, _⟩ := HW.2 (hLs 10 (by decide))
       go_simp
       refine hK _ _ ?_
       clear hd hK K HW hLs
       have HK5 := Lib.hid (HKV.out.more HW9)
       have HR5 := Lib.hid (HRV.out.more HW9)
       have HN5 := Lib.hid (HNV.out.more HW9)
       clear HW9 HKV HRV HNV HG u2 ul b0 b1 bl
       rcases HOS.out with ⟨hno, hok⟩ | ⟨hno, hok⟩
       ·rw [hno] at HMS
        rw [hok]
        have HMT : Hid (missK l1 (mq.take (i + 1)) = missK l1 (mq.take i) ++ [[xr, xp]]) := Lib.hid (by have h := HMS.out; rw [if_pos rfl] at h; exact h)
        clear HMS
        have u1 := HK5.out.st.cell1
        have ul := HK5.out.st.lt
        have b0 := HN5.out.cell (j := 0) rfl
        have b1 := HN5.out.cell (j := 1) rfl
        have bl := HN5.out.lt
        have hbd : Below w'.heap.size w' w'.drew := (Below.refl _ _).drew
        have HD := Lib.hid (Sb.qtDrop xr xp (HK5.out.more hbd).st.tl)
        have HK6 := Lib.hid (HK5.out.more hbd)
        have HR6 := Lib.hid (HR5.out.more hbd)
        clear hno hok hbd HOS HK5 HR5 HN5
        go_upto_region 12 with fail
        go_still_tail 6, (by kernel_rfl)
        change wpList _ _ _ _ _ w'.drew
        generalize w'.drew = w6 at HD HK6 HR6 ⊢
        clear u1 ul b0 b1 bl
        go_wp2_with fail
        refine HD.out.mono ?_
        rintro e w7 ⟨⟨_, rfl⟩, hq7, hk7⟩
        have HK7 := Lib.hid (HK6.out.tlb hk7 hq7)
        rw [dropQ_snoc, ← HMT.out] at HK7
        have HR7 := Lib.hid (HR6.out.kq hk7 (fun z e => by have h1 := HRG.out z e; have h2 := HT4.out; simp; omega))
        clear hq7 hk7 HD HK6 HR6 HMT
        go_wp2
        go_roundw
        case rel => exact ⟨i + 1, by have := H3.out; omega, by first | rfl | (simp; done), HK7, HR7⟩
        case measure => have := H3.out; simp [intOf]; omega
       ·rw [hno] at HMS
        rw [hok]
        have HMT : Hid (missK l1 (mq.take (i + 1)) = missK l1 (mq.take i)) := Lib.hid (by have h := HMS.out; rw [if_neg (by decide), List.append_nil] at h; exact h)
        have HK7 : Hid (KS W w' u t g b s m S _ D l1 (dropQ q1 (missK l1 (mq.take (i + 1)))) Y kr kp ep ef er) := Lib.hid (by rw [HMT.out]; exact HK5.out)
        clear hno hok HOS HN5 HMS HMT HK5
        go_wp2
        go_roundw
        case rel => exact ⟨i + 1, by have := H3.out; omega, by first | rfl | (simp; done), HK7, HR5⟩
        case measure => have := H3.out; simp [intOf]; omega
     ·have hne2 : ¬ (i : Int) < (nq : Int) := by omega
      have HKE : Hid (KS W wr u t g b s m S L D l1 (dropQ q1 (missK l1 mq)) Y kr kp ep ef er) := Lib.hid (by
       have e : mq.take i = mq := by rw [List.take_of_length_le]; rw [HMN.out]; omega
       have h := HK.out
       rw [e] at h
       exact h)
      have HKQ : Hid (∀ q3 : List Rc, (∀ y ∈ q3, y = ⟨kr, kp, zz.ep, zz.ef, zz.er⟩ ∨ y ∈ withoutL (dropQ q1 (missK l1 mq)) kr kp) → KeepQ l1 kr kp q1 q3) := Lib.hid fun q3 h => keepQ_of HZZ.out HPM.out h
      clear HK HR hi hin HMN HPM HRG
      generalize dropQ q1 (missK l1 mq) = q2 at HKE HKQ
      have HG : Hid (∀ w', Kq [W.heap.size + 1] wr w' → Calls Tryz.prog 74 #[.pointer (some ⟨g, 0, none⟩), .agg #[.int .i64 kr, .int .i64 kp]] w' fun e w'' => e = .returned (.tuple #[Sw.entW (entS (some zz)), .bool true]) ∧ Below w'.heap.size w' w'') := Lib.hid fun w' hw' => by
       have h := (HKE.out.st.kq hw' (fun x hx => by have := HKE.out.lo x hx; simp; omega)).sh
       have := Sw.shGet_any kr kp h.th (.inr ⟨_, _, rfl, h⟩)
       rw [HZZ.out] at this
       exact this
      obtain ⟨_, _, ze, zf, zs, _, _⟩ := zz
      unfold Sw.entW entS at HG
      dsimp only at HG HKQ
      have HUE : Hid (u < W.heap.size) := Lib.hid (HKE.out.lo u (by simp))
      have u2 := HKE.out.st.cell2
      have ul := HKE.out.st.lt
      have k0 := HKE.out.fl.key.cell (j := 0) rfl
      have k1 := HKE.out.fl.key.cell (j := 1) rfl
      have kl := HKE.out.fl.key.lt
      have HFE := Lib.hid HKE.out.fl.ent
      clear HZZ
      go_upto_region 14 with fail
      apply wp_region_xa [74, 75, 76, 77, 78, 79, 73, 80, 81, 120] [_, _, _, _, _, _, _, _, _, undef] [] (fun L_ x_ W' => Kq [W.heap.size + 1] wr W' ∧ Blk W' (W.heap.size + 1) 50 (cond (L_ 9) [.int .i64 ze, .int .i64 zf, .int .i64 zs] [.int .i64 ep, .int .i64 ef, .int .i64 er]))
      case hm => kernel_rfl
      case hT => intro y; simp only [setAll, List.setIfInBounds_toArray, List.set_cons_succ, List.set_cons_zero, List.set_nil]; exact rfl
      case hok => kernel_rfl
      case hw => exact (fun L_ x_ h0 => ⟨Kq.of_below ((Below.refl _ _).drew), by rw [h0 9 (by decide)]; exact HFE.out.more ((Below.refl _ _).drew)⟩)
      case hs =>
       refine xa_op 74 [] (by kernel_rfl) (fun L y w' hL hC HW hd K hK => ?_) ?_
       ·go_simp
        refine hK _ _ ?_ ?_ HW
        ·simp [upd]
        ·exact rfl
       refine xa_op 75 [0] (by kernel_rfl) (fun L y w' hL hC HW hd K hK => ?_) ?_
       ·have e0 := xR_nth (hd 0 (by simp)).2 rfl rfl
        go_simp
        refine hK _ _ ?_ ?_ HW
        ·simp [upd, e0]
        ·exact rfl
       refine xa_op 76 [1] (by kernel_rfl) (fun L y w' hL hC HW hd K hK => ?_) ?_
       ·have e1 := xR_nth (hd 1 (by simp)).2 rfl rfl
        go_simp
        refine hK _ _ ?_ ?_ HW
        ·simp [upd, e1]
        ·exact rfl
       refine xa_op 77 [2] (by kernel_rfl) (fun L y w' hL hC HW hd K hK => ?_) ?_
       ·have e2 := xR_nth (hd 2 (by simp)).2 rfl rfl
        have u2 := (HW.1.cell (p := ⟨u, 2, none⟩) ul (by have := HUE.out; simp; omega)).trans u2
        have ul := Nat.lt_of_lt_of_le ul HW.1.size
        go_simp
        refine hK _ _ ?_ ?_ HW
        ·simp [upd, e2]
        ·exact rfl
       refine xa_op 78 [] (by kernel_rfl) (fun L y w' hL hC HW hd K hK => ?_) ?_
       ·have k0 := (HW.1.cell (p := ⟨W.heap.size, 0, none⟩) kl (by simp)).trans k0
        have k1 := (HW.1.cell (p := ⟨W.heap.size, 1, none⟩) kl (by simp)).trans k1
        have kl := Nat.lt_of_lt_of_le kl HW.1.size
        go_simp
        refine hK _ _ ?_ ?_ HW
        ·simp [upd]
        ·exact rfl
       refine xa_op 79 [3, 4] (by kernel_rfl) (fun L y w' hL hC HW hd K hK => ?_) ?_
       ·have e3 := xR_nth (hd 3 (by simp)).2 rfl rfl
        have e4 := xR_nth (hd 4 (by simp)).2 rfl rfl
        go_simp
        refine (HG.out _ HW.1).mono ?_
        rintro e w3 ⟨rfl, hb3⟩
        refine hK _ _ ?_ ?_ ⟨HW.1.trans (Kq.of_below hb3), HW.2.more hb3⟩
        ·simp [upd, e3, e4]
        ·exact rfl
       refine xa_op 73 [5] (by kernel_rfl) (fun L y w' hL hC HW hd K hK => ?_) ?_
       ·have e5 := xR_nth (hd 5 (by simp)).2 rfl rfl
        go_simp
        refine hK _ _ ?_ ?_ HW
        ·simp [upd, e5]
        ·exact rfl
       refine xa_op 80 [6] (by kernel_rfl) (fun L y w' hL hC HW hd K hK => ?_) ?_
       ·have e6 := xR_nth (hd 6 (by simp)).2 rfl rfl
        go_simp
        refine hK _ _ ?_ ?_ HW
        ·simp [upd, e6]
        ·exact rfl
       refine xa_op 81 [6] (by kernel_rfl) (fun L y w' hL hC HW hd K hK => ?_) ?_
       ·have e6 := xR_nth (hd 6 (by simp)).2 rfl rfl
        go_simp
        refine hK _ _ ?_ ?_ HW
        ·simp [upd, e6]
        ·exact rfl
       refine xa_op 120 [7, 5, 0, 1, 2, 3, 4, 5, 6, 7] (by kernel_rfl) (fun L y w' hL hC HW hd K hK => ?_) ?_
       ·have e0 := xR_nth (hd 0 (by simp)).2 rfl rfl
        have e1 := xR_nth (hd 1 (by simp)).2 rfl rfl
        have e2 := xR_nth (hd 2 (by simp)).2 rfl rfl
        have e3 := xR_nth (hd 3 (by simp)).2 rfl rfl
        have e4 := xR_nth (hd 4 (by simp)).2 rfl rfl
        have e5 := xR_nth (hd 5 (by simp)).2 rfl rfl
        have e6 := xR_nth (hd 6 (by simp)).2 rfl rfl
        have e7 := xR_nth (hd 7 (by simp)).2 rfl rfl
        have hb := HW.2
        rw [hL] at hb
        have z0 := hb.cell (j := 0) rfl
        have z1 := hb.cell (j := 1) rfl
        have z2 := hb.cell (j := 2) rfl
        have y0 := hb.frozen 0
        have y1 := hb.frozen 1
        have y2 := hb.frozen 2
        have zl := hb.lt
        go_simp
        refine hK _ _ ?_ ?_ ⟨((HW.1.setCell (W.heap.size + 1) 0 (.int .i64 ze) (.inl (by simp))).setCell (W.heap.size + 1) 1 (.int .i64 zf) (.inl (by simp))).setCell (W.heap.size + 1) 2 (.int .i64 zs) (.inl (by simp)), ((hb.set 0 (.int .i64 ze)).set 1 (.int .i64 zf)).set 2 (.int .i64 zs)⟩
        ·simp [upd, e0, e1, e2, e3, e4, e5, e6, e7]
        ·exact rfl
       exact xa_nil
      case he =>
       intro L y w' hLs HW hd
       have e0 := xR_nth (hd 0 (by decide)) rfl rfl
       have e1 := xR_nth (hd 1 (by decide)) rfl rfl
       have e2 := xR_nth (hd 2 (by decide)) rfl rfl
       have e3 := xR_nth (hd 3 (by decide)) rfl rfl
       have e4 := xR_nth (hd 4 (by decide)) rfl rfl
       have e5 := xR_nth (hd 5 (by decide)) rfl rfl
       have e6 := xR_nth (hd 6 (by decide)) rfl rfl
       have e7 := xR_nth (hd 7 (by decide)) rfl rfl
       have e8 := xR_nth (hd 8 (by decide)) rfl rfl
       have HK9 := Lib.hid (HKE.out.ent HW.1 (by have h := HW.2; rw [hLs 9 (by decide)] at h; exact h))
       clear HW HKE HG u2 ul k0 k1 kl
       simp only [e0, e1, e2, e3, e4, e5, e6, e7, e8]
       clear hd hLs e0 e1 e2 e3 e4 e5 e6 e7 e8
       have hbd : Below w'.heap.size w' w'.drew := (Below.refl _ _).drew
       have u1 := HK9.out.st.cell1
       have ul := HK9.out.st.lt
       have k0 := HK9.out.fl.key.cell (j := 0) rfl
       have k1 := HK9.out.fl.key.cell (j := 1) rfl
       have kl := HK9.out.fl.key.lt
       have j0 := HK9.out.fl.ent.cell (j := 0) rfl
       have j1 := HK9.out.fl.ent.cell (j := 1) rfl
       have j2 := HK9.out.fl.ent.cell (j := 2) rfl
       have jl := HK9.out.fl.ent.lt
       have HD := Lib.hid (Sb.qtPut ⟨kr, kp, ze, zf, zs⟩ (HK9.out.more hbd).st.tl)
       have HK6 := Lib.hid (HK9.out.more hbd)
       clear hbd HK9 HFE HUE
       go_upto_region 15 with fail
       go_still_tail 6, (by kernel_rfl)
       change wpList _ _ _ _ _ w'.drew
       generalize w'.drew = w6 at HD HK6 ⊢
       clear u1 ul k0 k1 kl j0 j1 j2 jl
       go_wp2_with fail
       refine HD.out.mono ?_
       rintro e w7 ⟨rfl, HQ7, hk7⟩
       have HE : Hid (∃ q3, ST w7 u t g b s m S _ D l1 q3 Y ∧ KeepQ l1 kr kp q1 q3) := Lib.hid (by
        obtain ⟨q3, hq3, hm⟩ := HQ7.out
        exact ⟨q3, (HK6.out.tlb hk7 hq3).st, HKQ.out q3 hm⟩)
       have HKF := Lib.hid (HK6.out.kq.trans (hk7.more (T' := [t, g]) (by simp)))
       clear HD HQ7 hk7 HK6 HKQ
       go_wp2
       go_end0
       exact ⟨rfl, by rw [HQ1.out]; exact HE, HKF.out⟩
end
end Go.Proofs.YteaincdeoajkeaaGreatDoor.Mm
end
