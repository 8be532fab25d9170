/- Several texts in one: Jv Jw Jy Jx Jz -/
import Derived.Test.YteaincdeoajkeaaGreatDoorZ33
import Derived.Test.YteaincdeoajkeaaGreatDoorZ31
section
/- Package shadow: forget: what goes, and what is left in its place. -/
namespace Go.Proofs.YteaincdeoajkeaaGreatDoor.Sw
open Go.RowKit Ut
set_option maxRecDepth 100000
set_option linter.unusedVariables false
set_option maxHeartbeats 8000000

/-- where forget's loop is: i asked, k of them left, the places L -/
structure FgI (P : Ln → Bool) (l L0 L : List Ln) (k i : Nat) : Prop where
 len : L.length = 32
 tk : L.take k = (l.take i).filter (fun x => !P x)
 dr : L.drop i = L0.drop i
 le : k ≤ i
 kl : ((l.take i).filter (fun x => !P x)).length = k
section
variable {P : Ln → Bool} {l L0 L : List Ln} {k i : Nat} {x : Ln}
theorem FgI.start (h : L.length = 32) : FgI P l L L 0 0 := ⟨h, rfl, rfl, Nat.le_refl _, rfl⟩
theorem fg_take (hx : l[i]? = some x) : (l.take (i + 1)).filter (fun x => !P x) = (l.take i).filter (fun x => !P x) ++ (if P x = true then [] else [x]) := by
 rw [List.take_add_one, hx, List.filter_append]
 cases h : P x <;> simp [h]
theorem fg_takeP (hx : l[i]? = some x) : (l.take (i + 1)).filter P = (l.take i).filter P ++ (if P x = true then [x] else []) := by
 rw [List.take_add_one, hx, List.filter_append]
 cases h : P x <;> simp [h]
theorem FgI.goes (h : FgI P l L0 L k i) (hx : l[i]? = some x) (hp : P x = true) : FgI P l L0 L k (i + 1) := by
 have e := fg_take (P := P) hx
 rw [if_pos hp, List.append_nil] at e
 exact ⟨h.len, by rw [e]; exact h.tk, by rw [← List.drop_drop, h.dr, List.drop_drop], Nat.le_succ_of_le h.le, by rw [e]; exact h.kl⟩
theorem FgI.stays (h : FgI P l L0 L k i) (hx : l[i]? = some x) (hp : P x = false) (hi : i < 32) : FgI P l L0 (L.set k x) (k + 1) (i + 1) := by
 have e := fg_take (P := P) hx
 rw [if_neg (by rw [hp]; decide)] at e
 have hkL : k < L.length := by have := h.le; have := h.len; omega
 refine ⟨by rw [List.length_set]; exact h.len, ?_, ?_, Nat.succ_le_succ h.le, by rw [e, List.length_append, h.kl]; rfl⟩
 ·rw [e, ← h.tk, List.take_add_one, List.getElem?_set_self hkL, List.take_set_of_le (Nat.le_refl _)]
  rfl
 ·rw [List.drop_set_of_lt (by have := h.le; omega), ← List.drop_drop, h.dr, List.drop_drop]
theorem FgI.at_ {z : List Ln} (h : FgI P l (l ++ z) L k i) (hx : l[i]? = some x) : L[i]? = some x := by
 have h1 : (L.drop i)[0]? = ((l ++ z).drop i)[0]? := by rw [h.dr]
 rw [List.getElem?_drop, List.getElem?_drop, Nat.add_zero, List.getElem?_append_left (List.getElem?_eq_some_iff.1 hx).1, hx] at h1
 exact h1
end
/-- forget's loop: the keys of those that go, and the places -/
structure FgW (W wr : World) (g : Nat) (m : Bool) (n : Int) (v : Value) (gone L : List Ln) : Prop where
 own : OwnT 2 wr W.heap.size 48 v (gone.map Ln.key)
 rs : RS19 wr g m n L
 gl : g < W.heap.size
 kq : Kq [g] W wr
section
variable {W wr w' : World} {g : Nat} {m : Bool} {n : Int} {v v' : Value} {gone L L' : List Ln}
theorem FgW.ob (h : FgW W wr g m n v gone L) : ∀ q, v.ownBlock = some q → W.heap.size ≤ q ∧ q < wr.heap.size := fun q hq => World.ownsRow.lt h.own.1 q hq
theorem FgW.more (h : FgW W wr g m n v gone L) (hb : Below wr.heap.size wr w') : FgW W w' g m n v gone L := ⟨h.own.below hb, h.rs.more hb, h.gl, h.kq.trans (Kq.of_below hb)⟩
theorem FgW.key (h : FgW W wr g m n v gone L) (ho : OwnT 2 w' W.heap.size 48 v' (L'.map Ln.key)) (hg : wr.grownBy w' v.ownBlock) : FgW W w' g m n v' L' L :=
 ⟨ho, ⟨h.rs.1, h.rs.2.of_block (hg.block g h.rs.lt (fun e => by have := (h.ob g e.symm).1; have := h.gl; omega))⟩, h.gl, kq_grown h.kq hg (fun q hq => .inl (h.ob q hq).1)⟩
theorem FgW.put (h : FgW W wr g m n v gone L) (ds : Array Value) (hr : RS19 (wr.setRow g ds) g m n L') : FgW W (wr.setRow g ds) g m n v gone L' :=
 ⟨ownT_kept h.own (setRow_kq [g] wr g ds (by simp)) (fun q hq => by have := (h.ob q hq).1; have := h.gl; simp; omega), hr, h.gl, h.kq.trans (setRow_kq _ _ _ _ (by simp))⟩
theorem size_trans : (Tryz.prog.info? 167).map (·.size) = some 7 := by kernel_rfl
theorem zero_trans (w : World) : (zeroValue 167).run Tryz.prog w = .ok (Ln.v noL) w := by kernel_rfl
theorem RS19.putRow (h : RS19 W g m n L) (k : Nat) (x : Ln) (hk : k < 32) : splice (hd2 m n ++ encR (L.map Ln.l)) (2 + k * 7) (encI x.l) = hd2 m n ++ encR ((L.set k x).map Ln.l) ∧ 2 + k * 7 + 7 ≤ (hd2 m n ++ encR (L.map Ln.l)).length ∧ RS19 (W.setRow g (hd2 m n ++ encR ((L.set k x).map Ln.l)).toArray) g m n (L.set k x) := by
 have hl : k < (L.map Ln.l).length := by rw [List.length_map, h.1]; exact hk
 have h1 := h.2.putRow (o := 2) rfl k x.l hl rfl
 rw [← List.map_set] at h1
 exact ⟨h1.1, h.2.fits rfl k hl, ⟨by rw [List.length_set]; exact h.1, h1.2⟩⟩
end
section
variable {W : World} {g fi : Nat} {m : Bool} {l : List Ln} {caps : Array Value} {P : Ln → Bool}
theorem forget_any (h : LS19 W g m l) (hi : IsL W [g] fi caps P) :
  Calls Tryz.prog 95 #[.pointer (some ⟨g, 0, none⟩), .func (.func fi) #[] caps] W fun e w' => (∃ v, e = .returned v ∧ Hid (Told 2 W w' v ((l.filter P).map Ln.key))) ∧ Hid (LS19 w' g m (l.filter fun x => !P x)) ∧ Kq [g] W w' := by
 obtain ⟨hen, hc⟩ := hi
 have HC := Lib.hid hc
 have hth := there_any h
 obtain ⟨y, hy⟩ : ∃ y : Addr, y = ⟨g, 2, none⟩ := ⟨_, rfl⟩
 rw [← hy] at hth
 have hgl := h.lt
 have h32 := h.len
 obtain ⟨z, hrs⟩ := h
 obtain ⟨n, hn⟩ : ∃ n : Nat, l.length = n := ⟨_, rfl⟩
 rw [hn] at hrs hth h32
 have HTH := Lib.hid hth
 have HY := Lib.hid hy
 have HN := Lib.hid hn
 have HRS := Lib.hid hrs
 have HGL := Lib.hid hgl
 have H32 := Lib.hid h32
 have n0 : (0 : Int) ≤ (n : Int) ∧ (n : Int) ≤ 32 := by omega
 clear hc hth hy hrs hn hgl h32
 go_enter Tryz.func95, Tryz.ntmps95
 go_wp2_with fail
 refine HTH.out.mono ?_
 rintro e w1 ⟨rfl, hb1⟩
 have HF0 : Hid (FgW W w1 g m n (.slice none 0 0) [] (l ++ z)) := Lib.hid ⟨OwnT.nil _ _ _ _, HRS.out.more hb1, HGL.out, Kq.of_below hb1⟩
 have HI0 : Hid (FgI P l (l ++ z) (l ++ z) 0 0) := Lib.hid (FgI.start HRS.out.1)
 clear hb1 HTH HRS
 go_wp2
 go_loopw [5, 6, 14] (fun u f j wr => ∃ (i k s : Nat) (b : Option Addr) (c : Nat) (L : List Ln), i ≤ n ∧ u = .slice b s c ∧ f = .int .i64 k ∧ j = .int .i64 i ∧ Hid (((l.take i).filter P).length = s) ∧ Hid (FgI P l (l ++ z) L k i) ∧ Hid (FgW W wr g m n (.slice b s c) ((l.take i).filter P) L)) (fun _ _ j _ => n - (intOf j).toNat)
 case atStart => exact ⟨0, 0, 0, none, 0, l ++ z, Nat.zero_le _, rfl, rfl, rfl, rfl, HI0, HF0⟩
 case round =>
  clear HF0 HI0
  obtain ⟨i, k, s, b, c, L, hin0, rfl, rfl, rfl, HS, HI, HF⟩ := hrel
  by_cases hin : i < n
  ·have f0 : (i : Int) < (n : Int) := by omega
   have f2 : (0 : Int) ≤ (i : Int) := by omega
   have hx : l[i]? = some (l[i]'(by rw [HN.out]; exact hin)) := List.getElem?_eq_getElem _
   obtain ⟨x, hxx⟩ : ∃ x, l[i]'(by rw [HN.out]; exact hin) = x := ⟨_, rfl⟩
   rw [hxx] at hx
   have hrow : LnRow wr (some y) L := by rw [HY.out]; exact HF.out.rs.2.row rfl
   obtain ⟨y', e', hyb, hyb2, d0, d1, d2, d3, d4, d5, d6⟩ := hrow.at_ (HI.out.at_ hx)
   injection e' with e'
   subst e'
   have HX := Lib.hid hx
   have H3 := Lib.hid hin
   have k1 : (k : Int) ≤ (i : Int) := by have := HI.out.le; omega
   have k2 : (k : Int) < 32 := by have := H32.out; omega
   have HKL : Hid (k < 32) := Lib.hid (by omega)
   have hs1 : s + 1 ≤ 1000000 := by
    have h1 := HS.out
    have h3 := List.length_filter_le P (l.take i)
    rw [List.length_take] at h3
    have := H32.out
    omega
   have HS1 := Lib.hid hs1
   clear hx hxx hin hin0 hrow hs1
   obtain ⟨V, hV⟩ : ∃ V, V = wr.alloc (.cells #[.int .i64 x.kr, .int .i64 x.kp, .int .i64 x.ep, .int .i64 x.ef, .int .i64 x.er, .int .i64 x.rt, .int .i64 x.lf] 167) := ⟨_, rfl⟩
   have hbV : Below wr.heap.size wr V := by rw [hV]; exact (Below.refl _ _).alloc (Nat.le_refl _) _
   have hNV : Blk V wr.heap.size 167 (encI x.l) := by rw [hV]; exact Blk.new wr _ _
   have HV := Lib.hid hV
   have HFV := Lib.hid (HF.out.more hbV)
   have HNV := Lib.hid hNV
   obtain ⟨t, ht⟩ : ∃ t, P x = t := ⟨_, rfl⟩
   have HCX := Lib.hid (HC.out x V HFV.out.kq)
   rw [ht] at HCX
   have HT := Lib.hid ht
   have x0 := hNV.cell (j := 0) rfl
   have x1 := hNV.cell (j := 1) rfl
   have x2 := hNV.cell (j := 2) rfl
   have x3 := hNV.cell (j := 3) rfl
   have x4 := hNV.cell (j := 4) rfl
   have x5 := hNV.cell (j := 5) rfl
   have x6 := hNV.cell (j := 6) rfl
   have xl := hNV.lt
   clear hV hbV hNV HF ht
   obtain ⟨kr, kp, ep, ef, er, rt, lf⟩ := x
   dsimp only [Ln.v, Ln.l] at HV HNV HCX d0 d1 d2 d3 d4 d5 d6 x0 x1 x2 x3 x4 x5 x6
   go_upto_region 8 with fail
   rw [← HV.out]
   clear HV d0 d1 d2 d3 d4 d5 d6 hyb hyb2
   go_wp2_with fail
   refine HCX.out.mono ?_
   rintro e V2 ⟨rfl, hb2⟩
   have HF2 := Lib.hid (HFV.out.more hb2)
   have HN2 := Lib.hid (HNV.out.more hb2)
   clear hb2 HCX HFV HNV x0 x1 x2 x3 x4 x5 x6 xl
   have x0 := HN2.out.cell (j := 0) rfl
   have x1 := HN2.out.cell (j := 1) rfl
   have x2 := HN2.out.cell (j := 2) rfl
   have x3 := HN2.out.cell (j := 3) rfl
   have x4 := HN2.out.cell (j := 4) rfl
   have x5 := HN2.out.cell (j := 5) rfl
   have x6 := HN2.out.cell (j := 6) rfl
   have xl := HN2.out.lt
   cases t
   ·have HI9 := Lib.hid (HI.out.stays HX.out HT.out (by have := H3.out; have := H32.out; omega))
    have q1 := fg_takeP (P := P) HX.out
    rw [if_neg (by rw [HT.out]; decide), List.append_nil] at q1
    have HQ := Lib.hid q1
    have HSP := Lib.hid (fun X (h : RS19 X g m n L) => h.putRow k ⟨kr, kp, ep, ef, er, rt, lf⟩ HKL.out)
    have gl2 := HF2.out.rs.lt
    clear q1 HI
    go_upto_region 10 with fail
    apply wp_region_auto [27, 28, 29, 30, 31, 32] [_, _, _, _, _, _] (fun W' => Below V2.heap.size V2 W')
    case hm => kernel_rfl
    case hT => intro y; simp only [setAll, List.setIfInBounds_toArray, List.set_cons_succ, List.set_cons_zero]; exact rfl
    case hok => kernel_rfl
    case hn => decide
    case hw => exact (Below.refl _ _).drew
    case hs =>
     refine auto_op 27 [] (by kernel_rfl) (fun y w' HW hd K hK => ?_) ?_
     ·go_simp
      refine hK _ _ ?_ ?_ HW
      ·simp [upd]
      ·exact rfl
     refine auto_op 28 [] (by kernel_rfl) (fun y w' HW hd K hK => ?_) ?_
     ·go_simp
      refine hK _ _ ?_ ?_ HW
      ·simp [upd]
      ·exact rfl
     refine auto_op 29 [] (by kernel_rfl) (fun y w' HW hd K hK => ?_) ?_
     ·have hcl : ∀ p : Addr, p.block < V2.heap.size → w'.cell? p = V2.cell? p := fun p hp => HW.cell hp
      go_simp
      refine hK _ _ ?_ ?_ HW
      ·simp [upd]
      ·exact rfl
     refine auto_op 30 [0] (by kernel_rfl) (fun y w' HW hd K hK => ?_) ?_
     ·have e0 := hd_nth (hd 0 (by simp)) rfl
      go_simp
      refine hK _ _ ?_ ?_ HW
      ·simp [upd, e0]
      ·exact rfl
     refine auto_op 31 [3] (by kernel_rfl) (fun y w' HW hd K hK => ?_) ?_
     ·have e3 := hd_nth (hd 3 (by simp)) rfl
      go_simp
      refine hK _ _ ?_ ?_ HW
      ·simp [upd, e3]
      ·exact rfl
     refine auto_op 32 [4, 1, 0, 1, 2] (by kernel_rfl) (fun y w' HW hd K hK => ?_) ?_
     ·have e0 := hd_nth (hd 0 (by simp)) rfl
      have e1 := hd_nth (hd 1 (by simp)) rfl
      have e2 := hd_nth (hd 2 (by simp)) rfl
      have e4 := hd_nth (hd 4 (by simp)) rfl
      go_simp
      refine hK _ _ ?_ ?_ HW
      ·simp [upd, e0, e1, e2, e4]
      ·exact rfl
     refine auto_last fun y w' HW hd K hK => ?_
     have e0 := hd_nth (hd 0 (by omega)) rfl
     have e1 := hd_nth (hd 1 (by omega)) rfl
     have e2 := hd_nth (hd 2 (by omega)) rfl
     have e3 := hd_nth (hd 3 (by omega)) rfl
     have e4 := hd_nth (hd 4 (by omega)) rfl
     have e5 := hd_nth (hd 5 (by omega)) rfl
     have hF3 := HF2.out.more HW
     obtain ⟨p1, p2, p3⟩ := HSP.out w' hF3.rs
     refine step_store_blk (a := ⟨_, _⟩) (by kernel_rfl) 167 (.tmp 32) (.tmp 29) (by exact rfl) g (2 + k * 7) 185 _ (encI (Ln.l ⟨kr, kp, ep, ef, er, rt, lf⟩)) (by exact e5) (by exact e2) hF3.rs.2.2 (by rw [size_trans]; rfl) p2 (encI_one _) ?_
     rw [p1]
     have HF9 := Lib.hid (hF3.put _ p3)
     refine hK _ _ ?_
     generalize w'.setRow g (hd2 m n ++ encR ((L.set k ⟨kr, kp, ep, ef, er, rt, lf⟩).map Ln.l)).toArray = W9 at HF9 ⊢
     clear hd hK K hF3 p1 p2 p3 HW HF2 HN2 HSP x0 x1 x2 x3 x4 x5 x6 xl gl2
     go_wp2
     go_roundw
     case rel => exact ⟨i + 1, k + 1, s, b, c, L.set k ⟨kr, kp, ep, ef, er, rt, lf⟩, H3.out, rfl, by go_num, by go_num, Lib.hid (by rw [HQ.out]; exact HS.out), HI9, Lib.hid (by rw [HQ.out]; exact HF9.out)⟩
     case measure => have := H3.out; simp [intOf]; omega
   ·have HI9 := Lib.hid (HI.out.goes HX.out HT.out)
    have q1 := fg_takeP (P := P) HX.out
    rw [if_pos HT.out] at q1
    have HQ := Lib.hid q1
    have hsz : W.heap.size ≤ V2.heap.size := HF2.out.kq.size
    obtain ⟨ba, cap5, w5, hrun, ho5, hg5, _⟩ := push_new (P := Tryz.prog) (t := 133) (ty := 133) Tryz.underlying133 info_key19 rfl (by decide) (by decide) HF2.out.own [kr, kp] rfl (by rw [List.length_map, HS.out]; exact HS1.out) hsz
    rw [List.length_map, HS.out] at hrun ho5
    have HRUN : Hid ((Builtin.append_ #[133, 133] 133 #[.slice b s c, .slice (some ⟨V2.heap.size, 0, none⟩) 1 1]).run Tryz.prog (V2.alloc (.cells #[.int .i64 kr, .int .i64 kp] 48)) = .ok (.slice ba (s + 1) cap5) w5) := Lib.hid hrun
    have HF9 : Hid (FgW W w5 g m n (.slice ba (s + 1) cap5) ((l.take (i + 1)).filter P) L) := Lib.hid (HF2.out.key (by rw [q1, List.map_append]; exact ho5) hg5)
    have HS9 : Hid (((l.take (i + 1)).filter P).length = s + 1) := Lib.hid (by rw [q1, List.length_append, HS.out]; rfl)
    clear q1 HI hsz hrun ho5 hg5 HF2 HN2
    go_wp2_with (refine wpList_append_run rfl _ _ 133 rfl _ _ rfl rfl _ _ HRUN.out ?_)
    clear x0 x1 x2 x3 x4 x5 x6 xl
    go_wp2
    go_roundw
    case rel => exact ⟨i + 1, k, s + 1, ba, cap5, L, H3.out, rfl, rfl, by go_num, HS9, HI9, HF9⟩
    case measure => have := H3.out; simp [intOf]; omega
  ·have f0 : ¬ (i : Int) < (n : Int) := by omega
   obtain rfl : i = n := by omega
   have hl : l.take i = l := by rw [← HN.out, List.take_length]
   rw [hl] at HS HF
   have hI := HI.out
   have htk := hI.tk
   have hkl := hI.kl
   rw [hl] at htk hkl
   have k1 : (0 : Int) ≤ (k : Int) ∧ (k : Int) ≤ (i : Int) := by have := hI.le; omega
   have k2 : (k : Int) ≤ 32 := by omega
   have gl := HF.out.rs.lt
   have c1 := HF.out.rs.pre.2
   have HTK := Lib.hid htk
   have HKL := Lib.hid hkl
   have HLE := Lib.hid hI.le
   clear hl hI htk hkl hin hin0
   go_upto_region 13 with fail
   apply wp_region_auto [36, 37, 38, 39, 40, 41, 42, 43, 44] [_, _, _, _, _, _, _, _, _] (fun W' => Below wr.heap.size wr W')
   case hm => kernel_rfl
   case hT => intro y; simp only [setAll, List.setIfInBounds_toArray, List.set_cons_succ, List.set_cons_zero]; exact rfl
   case hok => kernel_rfl
   case hn => decide
   case hw => exact (Below.refl _ _).drew
   case hs =>
    refine auto_op 36 [] (by kernel_rfl) (fun y w' HW hd K hK => ?_) ?_
    ·go_simp
     refine hK _ _ ?_ ?_ HW
     ·simp [upd]
     ·exact rfl
    refine auto_op 37 [0] (by kernel_rfl) (fun y w' HW hd K hK => ?_) ?_
    ·have e0 := hd_nth (hd 0 (by simp)) rfl
     go_simp
     refine hK _ _ ?_ ?_ HW
     ·simp [upd, e0]
     ·exact rfl
    refine auto_op 38 [1] (by kernel_rfl) (fun y w' HW hd K hK => ?_) ?_
    ·have e1 := hd_nth (hd 1 (by simp)) rfl
     go_simp
     refine hK _ _ ?_ ?_ HW
     ·simp [upd, e1]
     ·exact rfl
    refine auto_op 39 [] (by kernel_rfl) (fun y w' HW hd K hK => ?_) ?_
    ·go_simp
     refine hK _ _ ?_ ?_ HW
     ·simp [upd]
     ·exact rfl
    refine auto_op 40 [] (by kernel_rfl) (fun y w' HW hd K hK => ?_) ?_
    ·go_simp
     refine hK _ _ ?_ ?_ HW
     ·simp [upd]
     ·exact rfl
    refine auto_op 41 [4] (by kernel_rfl) (fun y w' HW hd K hK => ?_) ?_
    ·have e4 := hd_nth (hd 4 (by simp)) rfl
     go_simp
     refine hK _ _ ?_ ?_ HW
     ·simp [upd, e4]
     ·exact rfl
    refine auto_op 42 [5] (by kernel_rfl) (fun y w' HW hd K hK => ?_) ?_
    ·have e5 := hd_nth (hd 5 (by simp)) rfl
     go_simp
     refine hK _ _ ?_ ?_ HW
     ·simp [upd, e5]
     ·exact rfl
    refine auto_op 43 [6] (by kernel_rfl) (fun y w' HW hd K hK => ?_) ?_
    ·have e6 := hd_nth (hd 6 (by simp)) rfl
     have hcl : ∀ p : Addr, p.block < wr.heap.size → w'.cell? p = wr.cell? p := fun p hp => HW.cell hp
     go_simp
     refine hK _ _ ?_ ?_ HW
     ·simp [upd, e6]
     ·exact rfl
    refine auto_op 44 [2, 3, 7] (by kernel_rfl) (fun y w' HW hd K hK => ?_) ?_
    ·have e2 := hd_nth (hd 2 (by simp)) rfl
     have e3 := hd_nth (hd 3 (by simp)) rfl
     have e7 := hd_nth (hd 7 (by simp)) rfl
     go_simp
     refine hK _ _ ?_ ?_ HW
     ·simp [upd, e2, e3, e7]
     ·exact rfl
    refine auto_last fun y w' HW hd K hK => ?_
    have e0 := hd_nth (hd 0 (by omega)) rfl
    have e1 := hd_nth (hd 1 (by omega)) rfl
    have e2 := hd_nth (hd 2 (by omega)) rfl
    have e3 := hd_nth (hd 3 (by omega)) rfl
    have e4 := hd_nth (hd 4 (by omega)) rfl
    have e5 := hd_nth (hd 5 (by omega)) rfl
    have e6 := hd_nth (hd 6 (by omega)) rfl
    have e7 := hd_nth (hd 7 (by omega)) rfl
    have e8 := hd_nth (hd 8 (by omega)) rfl
    have hF3 := HF.out.more HW
    obtain ⟨W9, hrun, hr9, hk9⟩ := run_clear_recs (P := Tryz.prog) hF3.rs.2 (o := 2) rfl 164 167 0 (Ln.v noL) Tryz.underlying164 zero_trans rfl k (i - k) (32 - k) (by rw [List.length_map, hF3.rs.1]; have := H32.out; have := HLE.out; omega) (some (if 32 = k then ⟨g, 2, none⟩ else ⟨g, 2 + k * 7, none⟩)) (fun h => by rw [if_neg (by have := H32.out; omega)])
    refine step_clear_run (a := ⟨_, _⟩) rfl (.tmp 44) 164 (by exact rfl) _ (by exact e8) _ W9 hrun ?_
    have hL9 : RS19 W9 g m i (splice L k (List.replicate (i - k) noL)) := by
     refine ⟨?_, ?_⟩
     ·rw [splice_len _ _ _ (by rw [List.length_replicate, hF3.rs.1]; have := H32.out; have := HLE.out; omega)]
      exact hF3.rs.1
     ·rw [splice_map, List.map_replicate]
      exact hr9
    have hkk : Kq [g] W W9 := hF3.kq.trans hk9
    have ho9 : OwnT 2 W9 W.heap.size 48 (.slice b s c) ((l.filter P).map Ln.key) := ownT_kept hF3.own hk9 (fun q hq => by have := (hF3.ob q hq).1; have := HGL.out; simp; omega)
    have hk10 : Kq [g] W9 (W9.setCell ⟨g, 1, none⟩ (.int .i64 k)) := (Kq.refl _ _).setCell g 1 _ (.inl (by simp))
    have HL10 : Hid (LS19 (W9.setCell ⟨g, 1, none⟩ (.int .i64 k)) g m (l.filter fun x => !P x)) := Lib.hid (by
     have h1 := hL9.count (k : Int)
     have h2 : splice L k (List.replicate (i - k) noL) = (l.filter fun x => !P x) ++ (splice L k (List.replicate (i - k) noL)).drop k := by
      have h3 := splice_take L (List.replicate (i - k) noL) k (by have := HF.out.rs.1; have := HLE.out; have := H32.out; omega)
      rw [HTK.out] at h3
      rw [← h3, List.take_append_drop]
     rw [h2] at h1
     exact ⟨_, by rw [HKL.out]; exact h1⟩)
    have HT10 : Hid (Told 2 W (W9.setCell ⟨g, 1, none⟩ (.int .i64 k)) (.slice b s c) ((l.filter P).map Ln.key)) := Lib.hid (by
     have ho10 := ownT_kept ho9 hk10 (fun q hq => by have := (hF3.ob q hq).1; have := HGL.out; simp; omega)
     obtain ⟨a1, c1, q1, hr1, _, _, hb1, _⟩ := IRow.own ho10
     injection q1 with q1 q2 q3
     subst q1 q3
     exact ⟨_, _, by rw [List.length_map, HS.out], hr1, hb1⟩)
    have HK10 := Lib.hid (hkk.trans hk10)
    have gl9 := hL9.lt
    have f9 := hL9.frz 1
    have c9 := hL9.pre.2
    refine hK _ _ ?_
    clear hd hK K hF3 hrun hr9 hk9 hL9 hkk ho9 hk10 HW HF HI gl c1 e0 e1 e2 e3 e4 e5 e6 e7 e8
    go_wp2
    go_ret
    exact ⟨⟨_, rfl, HT10⟩, HL10, HK10.out⟩
end
end Go.Proofs.YteaincdeoajkeaaGreatDoor.Sw
end
section
/- Package shadow: Wrote, Gone, Flush. -/
namespace Go.Proofs.YteaincdeoajkeaaGreatDoor.Sw
open Go.RowKit Ut
set_option maxRecDepth 100000
set_option linter.unusedVariables false
set_option maxHeartbeats 4000000

theorem goF_no (p : Int) : goF p false = fun x => x.by_ p := by
 funext x
 unfold goF
 rw [Bool.false_and, Bool.or_false]
section
variable {W : World} {g : Nat} {m : Bool} {l : List Ln}
/-- forget's contract, carried on from a world ahead of it -/
theorem forget_from {fi : Nat} {caps : Array Value} {P : Ln → Bool} {V : World} (h : LS19 W g m l) (hb : Below W.heap.size W V) (hi : IsL V [g] fi caps P) :
  Calls Tryz.prog 95 #[.pointer (some ⟨g, 0, none⟩), .func (.func fi) #[] caps] V fun e w' => (∃ v, e = .returned v ∧ Hid (Told 2 W w' v ((l.filter P).map Ln.key))) ∧ Hid (LS19 w' g m (l.filter fun x => !P x)) ∧ Kq [g] W w' :=
 (forget_any (h.more hb) hi).mono fun e w' ⟨⟨v, h1, h2⟩, h3, h4⟩ => ⟨⟨v, h1, Lib.hid (h2.out.from_ hb.size)⟩, h3, (Kq.of_below hb).trans h4⟩
theorem shWrote_any (p : Int) (h : LS19 W g m l) : Calls Tryz.prog 92 #[.pointer (some ⟨g, 0, none⟩), .int .i64 p] W fun e w' => (∃ v, e = .returned v ∧ Hid (Told 2 W w' v ((goneS l p false).map Ln.key))) ∧ Hid (LS19 w' g m (leftS l p false)) ∧ Kq [g] W w' := by
 have HF : Hid (∀ w1, Blk w1 W.heap.size 3 [.int .i64 p] → Below W.heap.size W w1 → Calls Tryz.prog 95 #[.pointer (some ⟨g, 0, none⟩), .func (.func 129) #[] #[.pointer (some ⟨W.heap.size, 0, none⟩)]] w1 fun e w' => (∃ v, e = .returned v ∧ Hid (Told 2 W w' v ((goneS l p false).map Ln.key))) ∧ Hid (LS19 w' g m (leftS l p false)) ∧ Kq [g] W w') := Lib.hid fun w1 hk hb => by
  have := forget_from h hb (isL_through (T := [g]) p W.heap.size hk (by have := h.lt; simp; omega))
  unfold goneS leftS
  rw [goF_no]
  exact this
 clear h
 go_enter Tryz.func92, Tryz.ntmps92
 go_wp2_with fail
 refine (through_any p W).mono ?_
 rintro e w1 ⟨rfl, hk, hb⟩
 have HG := Lib.hid (HF.out w1 hk hb)
 clear hk hb HF
 go_wp2_with fail
 refine HG.out.mono ?_
 rintro e w2 ⟨⟨v, rfl, HT⟩, HL, hk⟩
 have HK := Lib.hid hk
 clear hk HG
 go_wp2
 go_ret
 exact ⟨⟨v, rfl, HT⟩, HL, HK.out⟩
/-- the world in which Gone asks forget: the page, through's page, the variable that holds its closure -/
theorem shGone_any (p : Int) (h : LS19 W g m l) : Calls Tryz.prog 59 #[.pointer (some ⟨g, 0, none⟩), .int .i64 p] W fun e w' => (∃ v, e = .returned v ∧ Hid (Told 2 W w' v ((goneS l p true).map Ln.key))) ∧ Hid (LS19 w' g m (leftS l p true)) ∧ Kq [g] W w' := by
 obtain ⟨U, hU⟩ : ∃ U, U = W.alloc (.cells #[.int .i64 p] 3) := ⟨_, rfl⟩
 have hB : Below W.heap.size W U := by rw [hU]; exact (Below.refl _ _).alloc (Nat.le_refl _) _
 have hN : Blk U W.heap.size 3 [.int .i64 p] := by rw [hU]; exact Blk.new W _ [.int .i64 p]
 have k0 := hN.cell (j := 0) rfl
 have kl := hN.lt
 have hgl := h.lt
 have HU := Lib.hid hU
 have HF : Hid (∀ w1, Blk w1 U.heap.size 3 [.int .i64 p] → Below U.heap.size U w1 → Calls Tryz.prog 95 #[.pointer (some ⟨g, 0, none⟩), .func (.func 96) #[] #[.pointer (some ⟨w1.heap.size, 0, none⟩), .pointer (some ⟨W.heap.size, 0, none⟩)]] (w1.alloc (.cells #[.func (.func 129) #[] #[.pointer (some ⟨U.heap.size, 0, none⟩)]] 179)) fun e w' => (∃ v, e = .returned v ∧ Hid (Told 2 W w' v ((goneS l p true).map Ln.key))) ∧ Hid (LS19 w' g m (leftS l p true)) ∧ Kq [g] W w') := Lib.hid fun w1 hk hb => by
  have hb1 : Below w1.heap.size w1 (w1.alloc (.cells #[.func (.func 129) #[] #[.pointer (some ⟨U.heap.size, 0, none⟩)]] 179)) := (Below.refl _ _).alloc (Nat.le_refl _) _
  have hf := Blk.new w1 179 [.func (.func 129) #[] #[.pointer (some ⟨U.heap.size, 0, none⟩)]]
  have hbb : Below W.heap.size W w1 := hB.trans (hb.mono hB.size)
  have s1 := hB.size
  have s2 := hb.size
  exact forget_from h (hbb.trans (hb1.mono hbb.size)) ⟨fun _ _ => rfl, fun x w' hw => gone119_any p W.heap.size w1.heap.size U.heap.size x w' (((hN.more hb).more hb1).kq hw (by simp; omega)) (hf.kq hw (by simp; omega)) ((hk.more hb1).kq hw (by simp; omega))⟩
 clear h hB hN hU hgl
 go_enter Tryz.func59, Tryz.ntmps59
 go_upto_region 1 with fail
 rw [← HU.out]
 clear HU
 go_wp2_with fail
 refine (through_any p U).mono ?_
 rintro e w1 ⟨rfl, hk, hb⟩
 have HG := Lib.hid (HF.out w1 hk hb)
 clear hk hb HF k0 kl
 go_wp2_with fail
 refine HG.out.mono ?_
 rintro e w2 ⟨⟨v, rfl, HT⟩, HL, hk⟩
 have HK := Lib.hid hk
 clear hk HG
 go_wp2
 go_ret
 exact ⟨⟨v, rfl, HT⟩, HL, HK.out⟩
theorem shFlush_any (h : LS19 W g m l) : Calls Tryz.prog 61 #[.pointer (some ⟨g, 0, none⟩)] W fun e w' => e = .returned (.int .i64 l.length) ∧ Hid (LS19 w' g m []) ∧ Kq [g] W w' := by
 have hF := forget_from h (Below.refl _ _) (isL_flush (T := [g]))
 have e1 : ((l.filter fun _ => true).map Ln.key).length = l.length := by simp
 have e2 : (l.filter fun _ => !true) = [] := by simp
 have HF := Lib.hid hF
 have HE := Lib.hid e1
 rw [e2] at HF
 generalize (l.filter fun _ => true).map Ln.key = ks at HF HE
 clear hF h e1 e2
 generalize l.length = n at HE ⊢
 go_enter Tryz.func61, Tryz.ntmps61
 go_wp2_with fail
 refine HF.out.mono ?_
 rintro e w2 ⟨⟨v, rfl, HT⟩, HL, hk⟩
 have HK := Lib.hid hk
 obtain ⟨a, c, rfl, _⟩ := HT.out
 rw [HE.out]
 clear hk HF HT HE
 go_wp2
 go_ret
 exact ⟨rfl, HL, HK.out⟩
end
end Go.Proofs.YteaincdeoajkeaaGreatDoor.Sw
end
section
/- Package shadow: narrow. -/
namespace Go.Proofs.YteaincdeoajkeaaGreatDoor.Sw
open Go.RowKit Ut
set_option maxRecDepth 100000
set_option linter.unusedVariables false
set_option maxHeartbeats 4000000

/-- what narrow makes of a translation; of the first i -/
def narZ (l : List Ln) (z : Ln) : Ln := if tabL l z.ep = true then clrS z else z
def narI (l : List Ln) (i : Nat) : List Ln := (l.take i).map (narZ l) ++ l.drop i
section
variable {l : List Ln} {i : Nat} {x : Ln}
theorem narZ_by (l : List Ln) (z : Ln) (p : Int) : (narZ l z).by_ p = z.by_ p := by
 unfold narZ
 split <;> rfl
theorem tab_by (l : List Ln) (p : Int) : tabL l p = (l.map fun x => x.by_ p).any id := by unfold tabL; rw [List.any_map]; rfl
theorem tab_nar (l : List Ln) (i : Nat) (p : Int) : tabL (narI l i) p = tabL l p := by
 rw [tab_by, tab_by]
 unfold narI
 rw [List.map_append, List.map_map, show ((fun x : Ln => x.by_ p) ∘ narZ l) = fun x => x.by_ p from funext fun z => narZ_by l z p, ← List.map_append, List.take_append_drop]
theorem nar_at (hx : l[i]? = some x) : (narI l i)[i]? = some x ∧ narI l (i + 1) = (narI l i).set i (narZ l x) := by
 have hi := (List.getElem?_eq_some_iff.1 hx).1
 have hl : ((l.take i).map (narZ l)).length = i := by rw [List.length_map, List.length_take]; omega
 have hd : l.drop i = x :: l.drop (i + 1) := by
  rw [List.drop_eq_getElem_cons hi]
  congr 1
  exact (List.getElem?_eq_some_iff.1 hx).2
 unfold narI
 refine ⟨?_, ?_⟩
 ·rw [List.getElem?_append_right (by omega), hl, Nat.sub_self, hd]
  rfl
 ·rw [List.set_append_right _ _ (by omega), hl, Nat.sub_self, hd, List.set_cons_zero, List.take_add_one, hx, List.map_append, List.append_assoc]
  rfl
theorem nar_end (l : List Ln) : narI l l.length = l.map (narZ l) := by
 unfold narI
 rw [List.take_length, List.drop_length, List.append_nil]
end
section
variable {W : World} {g : Nat} {m : Bool} {n : Int} {l L : List Ln}
theorem RS19.setEr (h : RS19 W g m n L) {i : Nat} {x : Ln} (e : Int) (hx : L[i]? = some x) : RS19 (W.setCell ⟨g, 2 + i * 7 + 4, none⟩ (.int .i64 e)) g m n (L.set i { x with er := e }) := by
 refine ⟨by rw [List.length_set]; exact h.1, ?_⟩
 have h1 := h.2.setAt (o := 2) rfl (i := i) (j := 4) (x := x.l) e (by rw [List.getElem?_map, hx]; rfl) (by decide)
 rw [List.map_set]
 exact h1
theorem LS19.setEr (h : LS19 W g m l) {i : Nat} {x : Ln} (e : Int) (hx : l[i]? = some x) : LS19 (W.setCell ⟨g, 2 + i * 7 + 4, none⟩ (.int .i64 e)) g m (l.set i { x with er := e }) := by
 obtain ⟨z, h⟩ := h
 have hi := (List.getElem?_eq_some_iff.1 hx).1
 have h1 := h.setEr (i := i) (x := x) e (by rw [List.getElem?_append_left hi]; exact hx)
 rw [List.set_append_left _ _ hi] at h1
 exact ⟨z, by rw [List.length_set]; exact h1⟩
theorem kq_drew19 {T : List Nat} {W W' : World} (h : Kq T W W') : Kq T W W'.drew := ⟨h.os, h.tape, h.output, h.size, h.block⟩
theorem narrow_any (h : LS19 W g m l) : Calls Tryz.prog 144 #[.pointer (some ⟨g, 0, none⟩)] W fun e w' => e = .returned (.tuple #[]) ∧ Hid (LS19 w' g m (l.map (narZ l))) ∧ Kq [g] W w' := by
 have hth := there_any h
 obtain ⟨y, hy⟩ : ∃ y : Addr, y = ⟨g, 2, none⟩ := ⟨_, rfl⟩
 rw [← hy] at hth
 have h32 := h.len
 obtain ⟨n, hn⟩ : ∃ n : Nat, l.length = n := ⟨_, rfl⟩
 rw [hn] at hth h32
 have HTH := Lib.hid hth
 have HY := Lib.hid hy
 have HN := Lib.hid hn
 have H32 := Lib.hid h32
 have HL := Lib.hid h
 have n0 : (0 : Int) ≤ (n : Int) ∧ (n : Int) ≤ 32 := by omega
 clear hth hy hn h32 h
 go_enter Tryz.func144, Tryz.ntmps144
 go_wp2_with fail
 refine HTH.out.mono ?_
 rintro e w1 ⟨rfl, hb1⟩
 have HL0 : Hid (LS19 w1 g m (narI l 0)) := Lib.hid (HL.out.more hb1)
 have HK0 := Lib.hid (Kq.of_below (T := [g]) hb1)
 clear hb1 HTH HL
 go_wp2
 go_loopw [7] (fun j wr => ∃ i : Nat, i ≤ n ∧ j = .int .i64 i ∧ Hid (LS19 wr g m (narI l i)) ∧ Hid (Kq [g] W wr)) (fun j _ => n - (intOf j).toNat)
 case atStart => exact ⟨0, Nat.zero_le _, rfl, HL0, HK0⟩
 case round =>
  clear HL0 HK0
  obtain ⟨i, hin0, rfl, HL, HK⟩ := hrel
  by_cases hin : i < n
  ·have f0 : (i : Int) < (n : Int) := by omega
   have f2 : (0 : Int) ≤ (i : Int) := by omega
   have f3 : (i : Int) < 32 := by have := H32.out; omega
   have hx : l[i]? = some (l[i]'(by rw [HN.out]; exact hin)) := List.getElem?_eq_getElem _
   obtain ⟨x, hxx⟩ : ∃ x, l[i]'(by rw [HN.out]; exact hin) = x := ⟨_, rfl⟩
   rw [hxx] at hx
   have hna := nar_at hx
   have hrow : LnRow wr (some y) (narI l i) := by rw [HY.out]; exact HL.out.row
   obtain ⟨y', e', hyb, hyb2, d0, d1, d2, d3, d4, d5, d6⟩ := hrow.at_ hna.1
   injection e' with e'
   subst e'
   have HX := Lib.hid hx
   have HNA := Lib.hid hna
   have H3 := Lib.hid hin
   obtain ⟨V, hV⟩ : ∃ V, V = wr.alloc (.cells #[.int .i64 x.kr, .int .i64 x.kp, .int .i64 x.ep, .int .i64 x.ef, .int .i64 x.er, .int .i64 x.rt, .int .i64 x.lf] 167) := ⟨_, rfl⟩
   have hbV : Below wr.heap.size wr V := by rw [hV]; exact (Below.refl _ _).alloc (Nat.le_refl _) _
   have hNV : Blk V wr.heap.size 167 (encI x.l) := by rw [hV]; exact Blk.new wr _ _
   have HV := Lib.hid hV
   have HLV := Lib.hid (HL.out.more hbV)
   have HKV := Lib.hid (HK.out.trans (Kq.of_below hbV))
   obtain ⟨t, ht⟩ : ∃ t, tabL l x.ep = t := ⟨_, rfl⟩
   have HTB := Lib.hid (shTable_any x.ep HLV.out.th)
   rw [tab_nar, ht] at HTB
   have HT := Lib.hid ht
   have x0 := hNV.cell (j := 0) rfl
   have x1 := hNV.cell (j := 1) rfl
   have x2 := hNV.cell (j := 2) rfl
   have x3 := hNV.cell (j := 3) rfl
   have x4 := hNV.cell (j := 4) rfl
   have x5 := hNV.cell (j := 5) rfl
   have x6 := hNV.cell (j := 6) rfl
   have xl := hNV.lt
   clear hV hbV hNV ht hx hxx hna hrow hin hin0
   obtain ⟨kr, kp, ep, ef, er, rt, lf⟩ := x
   dsimp only [Ln.l] at HV HTB d0 d1 d2 d3 d4 d5 d6 x0 x1 x2 x3 x4 x5 x6
   go_upto_region 3 with fail
   rw [← HV.out]
   clear HV d0 d1 d2 d3 d4 d5 d6 hyb hyb2 HL HK
   go_wp2_with fail
   refine HTB.out.mono ?_
   rintro e V2 ⟨rfl, hb2⟩
   have HL2 := Lib.hid (HLV.out.more hb2)
   have HK2 := Lib.hid (HKV.out.trans (Kq.of_below hb2))
   clear hb2 HLV HKV HTB x0 x1 x2 x3 x4 x5 x6 xl
   cases t
   ·have HL9 : Hid (LS19 V2 g m (narI l (i + 1))) := Lib.hid (by
     have h1 : narZ l ⟨kr, kp, ep, ef, er, rt, lf⟩ = ⟨kr, kp, ep, ef, er, rt, lf⟩ := by
      unfold narZ
      rw [if_neg (by rw [HT.out]; decide)]
     rw [HNA.out.2, h1]
     have h2 : (narI l i).set i ⟨kr, kp, ep, ef, er, rt, lf⟩ = narI l i := by
      obtain ⟨hi, he⟩ := List.getElem?_eq_some_iff.1 HNA.out.1
      rw [← he]
      exact List.set_getElem_self hi
     rw [h2]
     exact HL2.out)
    clear HL2 HNA
    go_wp2
    go_roundw
    case rel => exact ⟨i + 1, H3.out, by go_num, HL9, HK2⟩
    case measure => have := H3.out; simp [intOf]; omega
   ·have e9 : 2 + i * 7 + 4 = 2 + i * 7 + 2 + 2 := by omega
    have c4 : V2.cell? ⟨g, 2 + i * 7 + 4, none⟩ = some (.int .i64 er) := by
     obtain ⟨z, hz⟩ := HL2.out
     exact (hz.cells (i := i) (x := ⟨kr, kp, ep, ef, er, rt, lf⟩) (by rw [List.getElem?_append_left (List.getElem?_eq_some_iff.1 HNA.out.1).1]; exact HNA.out.1)).2.2.2.2.1
    have g4 : V2.frozen? ⟨g, 2 + i * 7 + 4, none⟩ = false := HL2.out.elim fun z hz => hz.frz _
    have gl := HL2.out.lt
    have HL9 : Hid (LS19 (V2.setCell ⟨g, 2 + i * 7 + 4, none⟩ (.int .i64 (bits .andNot .i64 er 2))).drew g m (narI l (i + 1))) := Lib.hid (by
     have h1 : narZ l ⟨kr, kp, ep, ef, er, rt, lf⟩ = ⟨kr, kp, ep, ef, bits .andNot .i64 er 2, rt, lf⟩ := by
      unfold narZ
      rw [if_pos HT.out]
      rfl
     rw [HNA.out.2, h1]
     have h3 := HL2.out.setEr (bits .andNot .i64 er 2) HNA.out.1
     exact h3.kq (T := []) (kq_drew19 (Kq.refl _ _)) (by simp))
    have HK9 := Lib.hid (kq_drew19 (HK2.out.setCell g (2 + i * 7 + 4) (.int .i64 (bits .andNot .i64 er 2)) (.inl (by simp))))
    rw [e9] at c4 g4 HL9 HK9
    clear HL2 HK2 HNA e9
    go_upto_region 4 with fail
    go_region
    go_wp2
    go_roundw
    case rel => exact ⟨i + 1, H3.out, by go_num, HL9, HK9⟩
    case measure => have := H3.out; simp [intOf]; omega
  ·have f0 : ¬ (i : Int) < (n : Int) := by omega
   obtain rfl : i = n := by omega
   have HL9 : Hid (LS19 wr g m (l.map (narZ l))) := Lib.hid (by
    have h1 := HL.out
    rw [← HN.out, nar_end] at h1
    exact h1)
   clear hin hin0 HL
   go_wp2
   go_end0
   exact ⟨rfl, HL9, HK.out⟩
end
end Go.Proofs.YteaincdeoajkeaaGreatDoor.Sw
end
section
/- Package shadow: List, fresh. -/
namespace Go.Proofs.YteaincdeoajkeaaGreatDoor.Sw
open Go.RowKit Ut
set_option maxRecDepth 100000
set_option linter.unusedVariables false
set_option maxHeartbeats 4000000

section
variable {W : World} {l : List Ln}
/-- which of both pages are no tables -/
theorem fresh_any {v : Value} (r f : Int) (h : ThP W v l) : Calls Tryz.prog 143 #[v, .int .i64 r, .int .i64 f] W fun e w' => (∃ v, e = .returned v ∧ Hid (Told 1 W w' v (toldS l r f 8))) ∧ Below W.heap.size W w' := by
 have HTB : Hid (∀ V (p : Int), Below W.heap.size W V → Calls Tryz.prog 52 #[v, .int .i64 p] V fun e w' => e = .returned (.bool (tabL l p)) ∧ Below V.heap.size V w') := Lib.hid fun V p hb => shTable_any p (h.more hb)
 clear h
 go_enter Tryz.func143, Tryz.ntmps143
 go_wp2
 go_loopw [7, 9] (fun u j wr => ∃ (i k : Nat) (b : Option Addr) (c : Nat), i ≤ 8 ∧ u = .slice b k c ∧ j = .int .i64 i ∧ Hid ((toldS l r f i).length = k) ∧ Hid (OwnT 1 wr W.heap.size 3 (.slice b k c) (toldS l r f i)) ∧ Hid (Below W.heap.size W wr)) (fun _ j _ => 8 - (intOf j).toNat)
 case atStart => exact ⟨0, 0, none, 0, Nat.zero_le _, rfl, rfl, rfl, Lib.hid (OwnT.nil _ _ _ _), Lib.hid (Below.refl _ _)⟩
 case round =>
  obtain ⟨i, k, b, c, hi, rfl, rfl, HLK, HO, HB⟩ := hrel
  by_cases hin : i < 8
  ·have f0 : (i : Int) < 8 := by omega
   have f2 : (0 : Int) ≤ (i : Int) := by omega
   have H3 := Lib.hid hin
   obtain ⟨t, ht⟩ : ∃ t, tabL l (i : Int) = t := ⟨_, rfl⟩
   have HTI := Lib.hid (HTB.out wr (i : Int) HB.out)
   rw [ht] at HTI
   have hts := told_snoc l r f i
   have hcases := tell_cases l r f i
   rw [ht] at hcases
   have hk8 : k ≤ 8 := by have := told_len l r f i; rw [HLK.out] at this; omega
   have HK8 := Lib.hid hk8
   clear hin hi ht hk8
   cases t
   ·rcases hcases with ⟨t1, t3⟩ | ⟨t1, t2, t3⟩ | ⟨t1, t2, t3⟩
    ·rw [if_pos (show tellB l r f i = true from t3)] at hts
     have HTS := Lib.hid hts
     clear hts t3
     go_wp2_with fail
     refine HTI.out.mono ?_
     rintro e w2 ⟨rfl, hb2⟩
     have ho2 := HO.out.below hb2
     have hbb := HB.out.trans (hb2.mono HB.out.size)
     obtain ⟨ba, cap5, w5, hrun, ho5, hg5, _⟩ := push_new (P := Tryz.prog) (t := 145) (ty := 145) Tryz.underlying145 info_int19 rfl (by decide) (by decide) ho2 [(i : Int)] rfl (by rw [HLK.out]; have := HK8.out; omega) hbb.size
     rw [HLK.out] at hrun ho5
     have HRUN : Hid ((Builtin.append_ #[145, 145] 145 #[.slice b k c, .slice (some ⟨w2.heap.size, 0, none⟩) 1 1]).run Tryz.prog (w2.alloc (.cells #[.int .i64 (i : Int)] 3)) = .ok (.slice ba (k + 1) cap5) w5) := Lib.hid hrun
     have HO9 : Hid (OwnT 1 w5 W.heap.size 3 (.slice ba (k + 1) cap5) (toldS l r f (i + 1))) := Lib.hid (by rw [HTS.out]; exact ho5)
     have HL9 : Hid ((toldS l r f (i + 1)).length = k + 1) := Lib.hid (by rw [HTS.out, List.length_append, HLK.out]; rfl)
     have HB9 : Hid (Below W.heap.size W w5) := Lib.hid (hbb.grown hg5 hbb.size (fun q hq => (World.ownsRow.lt ho2.1 q hq).1))
     clear hb2 ho2 hbb hrun ho5 hg5 HTI HO HB HLK
     go_wp2_with (refine wpList_append_run rfl _ _ 145 rfl _ _ rfl rfl _ _ HRUN.out ?_)
     go_wp2
     go_roundw
     case rel => exact ⟨i + 1, k + 1, ba, cap5, H3.out, rfl, by go_num, HL9, HO9, HB9⟩
     case measure => have := H3.out; simp [intOf]; omega
    ·rw [if_pos (show tellB l r f i = true from t3)] at hts
     have HTS := Lib.hid hts
     clear hts t3
     go_wp2_with fail
     refine HTI.out.mono ?_
     rintro e w2 ⟨rfl, hb2⟩
     have ho2 := HO.out.below hb2
     have hbb := HB.out.trans (hb2.mono HB.out.size)
     obtain ⟨ba, cap5, w5, hrun, ho5, hg5, _⟩ := push_new (P := Tryz.prog) (t := 145) (ty := 145) Tryz.underlying145 info_int19 rfl (by decide) (by decide) ho2 [(i : Int)] rfl (by rw [HLK.out]; have := HK8.out; omega) hbb.size
     rw [HLK.out] at hrun ho5
     have HRUN : Hid ((Builtin.append_ #[145, 145] 145 #[.slice b k c, .slice (some ⟨w2.heap.size, 0, none⟩) 1 1]).run Tryz.prog (w2.alloc (.cells #[.int .i64 (i : Int)] 3)) = .ok (.slice ba (k + 1) cap5) w5) := Lib.hid hrun
     have HO9 : Hid (OwnT 1 w5 W.heap.size 3 (.slice ba (k + 1) cap5) (toldS l r f (i + 1))) := Lib.hid (by rw [HTS.out]; exact ho5)
     have HL9 : Hid ((toldS l r f (i + 1)).length = k + 1) := Lib.hid (by rw [HTS.out, List.length_append, HLK.out]; rfl)
     have HB9 : Hid (Below W.heap.size W w5) := Lib.hid (hbb.grown hg5 hbb.size (fun q hq => (World.ownsRow.lt ho2.1 q hq).1))
     clear hb2 ho2 hbb hrun ho5 hg5 HTI HO HB HLK
     go_wp2_with (refine wpList_append_run rfl _ _ 145 rfl _ _ rfl rfl _ _ HRUN.out ?_)
     go_wp2
     go_roundw
     case rel => exact ⟨i + 1, k + 1, ba, cap5, H3.out, rfl, by go_num, HL9, HO9, HB9⟩
     case measure => have := H3.out; simp [intOf]; omega
    ·rw [if_neg (by rw [t3]; decide), List.append_nil] at hts
     have HO9 : Hid (OwnT 1 wr W.heap.size 3 (.slice b k c) (toldS l r f (i + 1))) := Lib.hid (by rw [hts]; exact HO.out)
     have HL9 : Hid ((toldS l r f (i + 1)).length = k) := Lib.hid (by rw [hts, HLK.out])
     clear hts t3 HTI HO HLK
     go_wp2
     go_roundw
     case rel => exact ⟨i + 1, k, b, c, H3.out, rfl, by go_num, HL9, HO9, HB⟩
     case measure => have := H3.out; simp [intOf]; omega
   ·have t3 : tellB l r f i = false := by rcases hcases with ⟨_, t3⟩ | ⟨_, _, t3⟩ | ⟨_, _, t3⟩ <;> exact t3
    rw [if_neg (by rw [t3]; decide), List.append_nil] at hts
    have HL9 : Hid ((toldS l r f (i + 1)).length = k) := Lib.hid (by rw [hts, HLK.out])
    have HTS := Lib.hid hts
    clear hts t3
    rcases hcases with ⟨t1, _⟩ | ⟨t1, t2, _⟩ | ⟨t1, t2, _⟩
    ·go_wp2_with fail
     refine HTI.out.mono ?_
     rintro e w2 ⟨rfl, hb2⟩
     have HO9 : Hid (OwnT 1 w2 W.heap.size 3 (.slice b k c) (toldS l r f (i + 1))) := Lib.hid (by rw [HTS.out]; exact HO.out.below hb2)
     have HB9 := Lib.hid (HB.out.trans (hb2.mono HB.out.size))
     clear hb2 HTI HO HB HLK
     go_wp2
     go_roundw
     case rel => exact ⟨i + 1, k, b, c, H3.out, rfl, by go_num, HL9, HO9, HB9⟩
     case measure => have := H3.out; simp [intOf]; omega
    ·go_wp2_with fail
     refine HTI.out.mono ?_
     rintro e w2 ⟨rfl, hb2⟩
     have HO9 : Hid (OwnT 1 w2 W.heap.size 3 (.slice b k c) (toldS l r f (i + 1))) := Lib.hid (by rw [HTS.out]; exact HO.out.below hb2)
     have HB9 := Lib.hid (HB.out.trans (hb2.mono HB.out.size))
     clear hb2 HTI HO HB HLK
     go_wp2
     go_roundw
     case rel => exact ⟨i + 1, k, b, c, H3.out, rfl, by go_num, HL9, HO9, HB9⟩
     case measure => have := H3.out; simp [intOf]; omega
    ·have HO9 : Hid (OwnT 1 wr W.heap.size 3 (.slice b k c) (toldS l r f (i + 1))) := Lib.hid (by rw [HTS.out]; exact HO.out)
     clear HTI HO HLK
     go_wp2
     go_roundw
     case rel => exact ⟨i + 1, k, b, c, H3.out, rfl, by go_num, HL9, HO9, HB⟩
     case measure => have := H3.out; simp [intOf]; omega
  ·have f0 : ¬ (i : Int) < 8 := by omega
   obtain rfl : i = 8 := by omega
   have HT : Hid (Told 1 W wr (.slice b k c) (toldS l r f 8)) := Lib.hid (by
    obtain ⟨a1, c1, q1, hr1, _, _, hb1, _⟩ := IRow.own HO.out
    injection q1 with q1 q2 q3
    subst q1 q3
    exact ⟨_, _, by rw [HLK.out], hr1, hb1⟩)
   clear hin hi HO HLK
   go_wp2
   go_ret
   exact ⟨⟨_, rfl, HT⟩, HB.out⟩
end
end Go.Proofs.YteaincdeoajkeaaGreatDoor.Sw
end
section
/- Package shadow: Fill. -/
namespace Go.Proofs.YteaincdeoajkeaaGreatDoor.Sw
open Go.RowKit Ut
set_option maxRecDepth 100000
set_option linter.unusedVariables false
set_option maxHeartbeats 4000000

/-- those that stay ahead of the one that is filled -/
def roomS (l : List Ln) (p q : Int) : List Ln := if (withS l p q).length = 32 then (withS l p q).drop 1 else withS l p q
def ErW (l : List Ln) : Prop := ∀ x ∈ l, -9223372036854775808 ≤ x.er ∧ x.er < 9223372036854775808
theorem add_room {l : List Ln} (x : Ln) (h : l.length ≤ 32) : addS l x = roomS l x.kr x.kp ++ [x] ∧ (roomS l x.kr x.kp).length ≤ 31 := by
 have hl := withS_len l x.kr x.kp
 unfold addS roomS
 by_cases h32 : (withS l x.kr x.kp).length = 32
 ·rw [if_pos (by omega), if_pos h32]
  generalize withS l x.kr x.kp = ws at h32 hl
  match ws, h32 with
  | w :: ws, h32 => exact ⟨rfl, by simp only [List.length_cons] at h32; simp; omega⟩
 ·rw [if_neg (by omega), if_neg h32]
  exact ⟨rfl, by omega⟩
theorem room_sub (l : List Ln) (p q : Int) : ∀ x ∈ roomS l p q, x ∈ l := fun x hx => by
 unfold roomS at hx
 split at hx
 ·exact (List.mem_filter.1 (List.mem_of_mem_drop hx)).1
 ·exact (List.mem_filter.1 hx).1
/-- the first of them let go by its key -/
theorem first_goes {f : Ln} {rest : List Ln} (h : KeyU (f :: rest)) : (f :: rest).filter (fun x => !x.is f.kr f.kp) = rest := by
 have h1 : f.is f.kr f.kp = true := is_iffS.2 rfl
 unfold KeyU at h
 rw [List.map_cons, List.nodup_cons] at h
 rw [List.filter_cons_of_neg (by rw [h1]; decide), List.filter_eq_self]
 intro y hy
 have : y.is f.kr f.kp = false := not_isS.2 (fun e => h.1 (List.mem_map.2 ⟨y, hy, e⟩))
 rw [this]
 rfl
theorem fill_nar {l : List Ln} (hI : Inv19 l) (hE : ErW l) (x : Ln) : fillS l x = (addS l x).map (narZ (addS l x)) := by
 obtain ⟨ha, hl⟩ := add_room x hI.n
 unfold fillS outS
 rw [List.take_length]
 apply List.ext_getElem?
 intro i
 rw [List.getElem?_mapIdx, List.getElem?_map]
 cases hz : (addS l x)[i]? with
 | none => rfl
 | some z =>
  simp only [Option.map_some, Option.some.injEq]
  have hxm : x ∈ addS l x := by rw [ha]; exact List.mem_append_right _ (List.mem_singleton.2 rfl)
  unfold narZ
  rcases lose_cases (addS l x) x.rt x.lf i z with ⟨c1, c⟩ | ⟨_, c1, c⟩ | ⟨_, _, _, c⟩ | ⟨c1, c2, c3, c⟩
  ·have ht : tabL (addS l x) z.ep = true := tab_iff.2 ⟨x, hxm, .inl (by simpa using (beq_iff_eq.1 c1).symm)⟩
   rw [if_pos c, if_pos ht]
  ·have ht : tabL (addS l x) z.ep = true := tab_iff.2 ⟨x, hxm, .inr (by simpa using (beq_iff_eq.1 c1).symm)⟩
   rw [if_pos c, if_pos ht]
  ·rw [c]
  ·rw [if_neg (by rw [c]; decide)]
   split
   ·rename_i ht
    rw [ha] at hz ht c3
    rw [List.length_append, List.length_singleton] at c3
    have hi : i < (roomS l x.kr x.kp).length := by
     have := (List.getElem?_eq_some_iff.1 hz).1
     rw [List.length_append, List.length_singleton] at this
     omega
    rw [List.getElem?_append_left hi] at hz
    have hzl := room_sub l _ _ z (List.mem_of_getElem? hz)
    have htl : tabL l z.ep = true := by
     rw [tab_iff] at ht ⊢
     obtain ⟨u, hu, hp⟩ := ht
     rcases List.mem_append.1 hu with hu | hu
     ·exact ⟨u, room_sub l _ _ u hu, hp⟩
     ·rw [List.mem_singleton] at hu
      subst hu
      simp only [beq_eq_false_iff_ne, ne_eq] at c1 c2
      rcases hp with hp | hp
      ·exact absurd hp.symm c1
      ·exact absurd hp.symm c2
    have he := same_two2 z.er (hE z hzl).1 (hE z hzl).2 (hI.p z hzl htl)
    unfold clrS
    rw [he]
   ·rfl
section
variable {W W' : World} {g : Nat} {m : Bool} {l : List Ln}
theorem Told.kq {k : Nat} {V : World} {v : Value} {xs : List (List Int)} {T : List Nat} (h : Told k W V v xs) (q : Kq T V W') (hT : ∀ b ∈ T, b < W.heap.size) : Told k W W' v xs := by
 obtain ⟨a, c, h1, h2, h3⟩ := h
 exact ⟨a, c, h1, h2.kq q (fun y e hm => by have := h3 y e; have := hT _ hm; omega), h3⟩
theorem LS19.push (h : LS19 W g m l) (hl : l.length < 32) (x : Ln) : ∃ L : List Ln, RS19 W g m (l.length : Nat) L ∧ ∀ V, RS19 V g m (l.length : Nat) (L.set l.length x) → LS19 (V.setCell ⟨g, 1, none⟩ (.int .i64 ((l.length : Int) + 1))) g m (l ++ [x]) := by
 obtain ⟨z, h⟩ := h
 refine ⟨l ++ z, h, fun V hV => ?_⟩
 have h5 := h.1
 rw [List.length_append] at h5
 match z, h5, hV with
 | [], h5, _ => simp at h5; omega
 | c :: z, _, hV =>
  refine ⟨z, ?_⟩
  have := hV.count ((l.length : Int) + 1)
  rw [List.set_append_right _ _ (Nat.le_refl _), Nat.sub_self, List.set_cons_zero] at this
  rw [List.length_append, List.append_assoc]
  exact this
/-- the boxes of Fill's key and entry -/
structure FlB (W V : World) (p q ep ef er : Int) : Prop where
 key : Blk V W.heap.size 48 [.int .i64 p, .int .i64 q]
 ent : Blk V (W.heap.size + 1) 50 [.int .i64 ep, .int .i64 ef, .int .i64 er]
theorem FlB.kq {T : List Nat} {V V' : World} {p q ep ef er : Int} (h : FlB W V p q ep ef er) (k : Kq T V V') (hT : ∀ b ∈ T, b < W.heap.size) : FlB W V' p q ep ef er := ⟨h.key.kq k (fun hm => by have := hT _ hm; omega), h.ent.kq k (fun hm => by have := hT _ hm; omega)⟩
theorem flB_new (W : World) (p q ep ef er : Int) : FlB W ((W.alloc (.cells #[.int .i64 p, .int .i64 q] 48)).alloc (.cells #[.int .i64 ep, .int .i64 ef, .int .i64 er] 50)) p q ep ef er := by
 refine ⟨(Blk.new W _ [.int .i64 p, .int .i64 q]).more ((Below.refl _ _).alloc (Nat.le_refl _) _), ?_⟩
 have := Blk.new (W.alloc (.cells #[.int .i64 p, .int .i64 q] 48)) 50 [.int .i64 ep, .int .i64 ef, .int .i64 er]
 rw [World.size_alloc] at this
 exact this
theorem shFill_yes (p q ep ef er r f : Int) (h : LS19 W g true l) (hI : Inv19 l) (hE : ErW l) (hr : ownP r = true) (hf : ownP f = true) :
  Calls Tryz.prog 119 #[.pointer (some ⟨g, 0, none⟩), .agg #[.int .i64 p, .int .i64 q], .agg #[.int .i64 ep, .int .i64 ef, .int .i64 er], .int .i64 r, .int .i64 f] W fun e w' => (∃ v, e = .returned (.tuple #[v, .int .i64 0]) ∧ Hid (Told 1 W w' v (toldS l r f 8))) ∧ Hid (LS19 w' g true (fillS l ⟨p, q, ep, ef, er, r, f⟩)) ∧ Kq [g] W w' := by
 obtain ⟨U, hU⟩ : ∃ U, U = (W.alloc (.cells #[.int .i64 p, .int .i64 q] 48)).alloc (.cells #[.int .i64 ep, .int .i64 ef, .int .i64 er] 50) := ⟨_, rfl⟩
 have hB : Below W.heap.size W U := by rw [hU]; exact ((Below.refl _ _).alloc (Nat.le_refl _) _).alloc (by simp) _
 have hFB : FlB W U p q ep ef er := by rw [hU]; exact flB_new W p q ep ef er
 have hgl := h.lt
 have hLU := h.more hB
 obtain ⟨x, hx⟩ : ∃ x : Ln, x = ⟨p, q, ep, ef, er, r, f⟩ := ⟨_, rfl⟩
 have har := add_room x hI.n
 have hfn := fill_nar hI hE x
 rw [har.1] at hfn
 have hrl := har.2
 have HRM : Hid (roomS l p q = if (withS l p q).length = 32 then (withS l p q).drop 1 else withS l p q) := Lib.hid rfl
 have HKU := Lib.hid (keyU_filter hI.u (fun y => !y.is p q))
 rw [show roomS l x.kr x.kp = roomS l p q by rw [hx]] at hfn hrl
 rw [hx] at hfn
 have HU := Lib.hid hU
 have HB := Lib.hid hB
 have HFB := Lib.hid hFB
 have HGL : Hid (∀ b ∈ [g], b < W.heap.size) := Lib.hid (fun b hb => by simp at hb; subst hb; exact hgl)
 have HL := Lib.hid hLU
 have HFN := Lib.hid hfn
 have HRL := Lib.hid hrl
 have HFR := Lib.hid (fresh_any r f hLU.th)
 have H1 := Lib.hid (fun V => own19_any r V)
 have H2 := Lib.hid (fun V => own19_any f V)
 rw [hr] at H1
 rw [hf] at H2
 have c0 := hLU.pre.1
 have gl := hLU.lt
 clear hU hB hFB hgl hLU hx har hfn hrl h hI hE hr hf
 generalize roomS l p q = room at HRM HFN HRL
 generalize fillS l ⟨p, q, ep, ef, er, r, f⟩ = fin at HFN ⊢
 generalize toldS l r f 8 = told at HFR ⊢
 go_enter Tryz.func119, Tryz.ntmps119
 go_upto_region 1 with fail
 rw [← HU.out]
 clear HU
 go_wp2_with fail
 refine (H1.out _).mono ?_
 rintro e w1 ⟨rfl, rfl⟩
 go_wp2_with fail
 refine (H2.out _).mono ?_
 rintro e w1 ⟨rfl, rfl⟩
 clear H1 H2
 go_wp2_with fail
 refine HFR.out.mono ?_
 rintro e w1 ⟨⟨vt, rfl, HT⟩, hb1⟩
 have HT1 := Lib.hid (HT.out.from_ HB.out.size)
 have HL1 := Lib.hid (HL.out.more hb1)
 have HFB1 := Lib.hid (HFB.out.kq (T := [g]) (Kq.of_below hb1) HGL.out)
 have HK1 := Lib.hid ((Kq.of_below (T := [g]) HB.out).trans (Kq.of_below hb1))
 clear hb1 HT HL HFB HFR c0 gl
 have k0 := HFB1.out.key.cell (j := 0) rfl
 have k1 := HFB1.out.key.cell (j := 1) rfl
 have kl := HFB1.out.key.lt
 go_wp2_with fail
 refine (hasKey19_any p q w1).mono ?_
 rintro e w2 ⟨rfl, hk2, hb2⟩
 have HG := Lib.hid (forget_from HL1.out hb2 (isL_key (T := [g]) p q w1.heap.size hk2 (by have := HL1.out.lt; simp; omega)))
 clear hk2 hb2 k0 k1 kl
 go_wp2_with fail
 refine HG.out.mono ?_
 rintro e w3 ⟨⟨v2, rfl, _⟩, HL3, hk3⟩
 have HL3 : Hid (LS19 w3 g true (withS l p q)) := HL3
 have HKU : Hid (KeyU (withS l p q)) := HKU
 have HFB3 := Lib.hid (HFB1.out.kq hk3 HGL.out)
 have HT3 := Lib.hid (HT1.out.kq hk3 HGL.out)
 have HK3 := Lib.hid (HK1.out.trans hk3)
 clear hk3 HG HL1 HFB1 HT1 HK1
 generalize withS l p q = ws at HRM HKU HL3
 obtain ⟨n1, hn1⟩ : ∃ n1 : Nat, ws.length = n1 := ⟨_, rfl⟩
 rw [hn1] at HRM
 have c1 := HL3.out.pre.2
 have gl := HL3.out.lt
 have h32 := HL3.out.len
 rw [hn1] at c1 h32
 have n10 : (0 : Int) ≤ (n1 : Int) ∧ (n1 : Int) ≤ 32 := by omega
 have HN1 := Lib.hid hn1
 clear hn1 h32
 go_upto_if 42 with fail
 go_cut [] (fun wx => Hid (LS19 wx g true room) ∧ Hid (Kq [g] w3 wx))
 case first =>
  by_cases h32 : n1 = 32
  ·have t1 : ((n1 : Int) == 32) = true := by rw [beq_iff_eq]; omega
   have hrm := HRM.out
   rw [if_pos h32] at hrm
   obtain ⟨f0, rest, rfl⟩ : ∃ f0 rest, ws = f0 :: rest := by
    match ws, HN1.out with
    | [], e => simp at e; omega
    | f0 :: rest, _ => exact ⟨_, _, rfl⟩
   obtain ⟨zz, hrs⟩ := HL3.out
   have hc := hrs.cells (i := 0) (x := f0) rfl
   simp only [Nat.zero_mul, Nat.add_zero, Nat.reduceAdd] at hc
   obtain ⟨d0, d1, _⟩ := hc
   have HFG := Lib.hid (first_goes HKU.out)
   have HRM2 : Hid (room = rest) := Lib.hid hrm
   clear hrm hrs HRM h32
   go_wp2_with fail
   refine (hasKey19_any f0.kr f0.kp w3).mono ?_
   rintro e w4 ⟨rfl, hk4, hb4⟩
   have HG := Lib.hid (forget_from HL3.out hb4 (isL_key (T := [g]) f0.kr f0.kp w3.heap.size hk4 (by have := HL3.out.lt; simp; omega)))
   clear hk4 hb4 d0 d1 c1
   go_wp2_with fail
   refine HG.out.mono ?_
   rintro e w5 ⟨⟨v5, rfl, _⟩, HL5, hk5⟩
   have HL5 : Hid (LS19 w5 g true room) := Lib.hid (by
    have h1 := HL5.out
    rw [HFG.out] at h1
    rw [HRM2.out]
    exact h1)
   have HK5 := Lib.hid hk5
   clear hk5 HG
   go_wp2
   go_meet
   exact ⟨HL5, HK5⟩
  ·have t1 : ((n1 : Int) == 32) = false := by rw [beq_eq_false_iff_ne]; omega
   have hrm := HRM.out
   rw [if_neg h32] at hrm
   have HL5 : Hid (LS19 w3 g true room) := Lib.hid (by rw [hrm]; exact HL3.out)
   have HK5 := Lib.hid (Kq.refl [g] w3)
   clear hrm HRM h32
   go_wp2
   go_meet
   exact ⟨HL5, HK5⟩
 case rest =>
  obtain ⟨V, rfl⟩ : ∃ X, X = wc := ⟨_, rfl⟩
  obtain ⟨HL5, HK5⟩ := hcut
  have HFB5 := Lib.hid (HFB3.out.kq HK5.out HGL.out)
  have HT5 := Lib.hid (HT3.out.kq HK5.out HGL.out)
  have HK6 := Lib.hid (HK3.out.trans HK5.out)
  clear HK5 HFB3 HT3 HK3 HL3 c1 gl HKU HRM HN1 n10
  have hl31 : room.length < 32 := by have := HRL.out; omega
  obtain ⟨L, hrs, hps⟩ := HL5.out.push hl31 ⟨p, q, ep, ef, er, r, f⟩
  obtain ⟨n2, hn2⟩ : ∃ n2 : Nat, room.length = n2 := ⟨_, rfl⟩
  rw [hn2] at hrs hps hl31
  have HRS := Lib.hid hrs
  have HPS := Lib.hid hps
  have HN2 := Lib.hid hl31
  have n20 : (0 : Int) ≤ (n2 : Int) ∧ (n2 : Int) < 32 := by omega
  have c1 := hrs.pre.2
  have gl := hrs.lt
  have k0 := HFB5.out.key.cell (j := 0) rfl
  have k1 := HFB5.out.key.cell (j := 1) rfl
  have kl := HFB5.out.key.lt
  have j0 := HFB5.out.ent.cell (j := 0) rfl
  have j1 := HFB5.out.ent.cell (j := 1) rfl
  have j2 := HFB5.out.ent.cell (j := 2) rfl
  have jl := HFB5.out.ent.lt
  clear hrs hps hn2 hl31 HL5
  go_upto_region 9 with fail
  apply wp_region_auto [53, 54, 55, 56, 57, 58, 59, 60, 61, 62, 63, 64, 65, 66] [_, _, _, _, _, _, _, _, _, _, _, _, _, _] (fun W' => Below V.heap.size V W')
  case hm => kernel_rfl
  case hT => intro y; simp only [setAll, List.setIfInBounds_toArray, List.set_cons_succ, List.set_cons_zero]; exact rfl
  case hok => kernel_rfl
  case hn => decide
  case hw => exact (Below.refl _ _).drew
  case hs =>
   refine auto_op 53 [] (by kernel_rfl) (fun y w' HW hd K hK => ?_) ?_
   ·go_simp
    refine hK _ _ ?_ ?_ HW
    ·simp [upd]
    ·exact rfl
   refine auto_op 54 [] (by kernel_rfl) (fun y w' HW hd K hK => ?_) ?_
   ·go_simp
    refine hK _ _ ?_ ?_ HW
    ·simp [upd]
    ·exact rfl
   refine auto_op 55 [1] (by kernel_rfl) (fun y w' HW hd K hK => ?_) ?_
   ·have e1 := hd_nth (hd 1 (by simp)) rfl
    go_simp
    refine hK _ _ ?_ ?_ HW
    ·simp [upd, e1]
    ·exact rfl
   refine auto_op 56 [2] (by kernel_rfl) (fun y w' HW hd K hK => ?_) ?_
   ·have e2 := hd_nth (hd 2 (by simp)) rfl
    go_simp
    refine hK _ _ ?_ ?_ HW
    ·simp [upd, e2]
    ·exact rfl
   refine auto_op 57 [3] (by kernel_rfl) (fun y w' HW hd K hK => ?_) ?_
   ·have e3 := hd_nth (hd 3 (by simp)) rfl
    have hcl : ∀ p : Addr, p.block < V.heap.size → w'.cell? p = V.cell? p := fun p hp => HW.cell hp
    go_simp
    refine hK _ _ ?_ ?_ HW
    ·simp [upd, e3]
    ·exact rfl
   refine auto_op 58 [] (by kernel_rfl) (fun y w' HW hd K hK => ?_) ?_
   ·have hcl : ∀ p : Addr, p.block < V.heap.size → w'.cell? p = V.cell? p := fun p hp => HW.cell hp
    go_simp
    refine hK _ _ ?_ ?_ HW
    ·simp [upd]
    ·exact rfl
   refine auto_op 59 [] (by kernel_rfl) (fun y w' HW hd K hK => ?_) ?_
   ·have hcl : ∀ p : Addr, p.block < V.heap.size → w'.cell? p = V.cell? p := fun p hp => HW.cell hp
    go_simp
    refine hK _ _ ?_ ?_ HW
    ·simp [upd]
    ·exact rfl
   refine auto_op 60 [5, 6] (by kernel_rfl) (fun y w' HW hd K hK => ?_) ?_
   ·have e5 := hd_nth (hd 5 (by simp)) rfl
    have e6 := hd_nth (hd 6 (by simp)) rfl
    go_simp
    refine hK _ _ ?_ ?_ HW
    ·simp [upd, e5, e6]
    ·exact rfl
   refine auto_op 61 [] (by kernel_rfl) (fun y w' HW hd K hK => ?_) ?_
   ·go_simp
    refine hK _ _ ?_ ?_ HW
    ·simp [upd]
    ·exact rfl
   refine auto_op 62 [] (by kernel_rfl) (fun y w' HW hd K hK => ?_) ?_
   ·go_simp
    refine hK _ _ ?_ ?_ HW
    ·simp [upd]
    ·exact rfl
   refine auto_op 63 [7, 8, 9] (by kernel_rfl) (fun y w' HW hd K hK => ?_) ?_
   ·have e7 := hd_nth (hd 7 (by simp)) rfl
    have e8 := hd_nth (hd 8 (by simp)) rfl
    have e9 := hd_nth (hd 9 (by simp)) rfl
    go_simp
    refine hK _ _ ?_ ?_ HW
    ·simp [upd, e7, e8, e9]
    ·exact rfl
   refine auto_op 64 [0] (by kernel_rfl) (fun y w' HW hd K hK => ?_) ?_
   ·have e0 := hd_nth (hd 0 (by simp)) rfl
    go_simp
    refine hK _ _ ?_ ?_ HW
    ·simp [upd, e0]
    ·exact rfl
   refine auto_op 65 [11] (by kernel_rfl) (fun y w' HW hd K hK => ?_) ?_
   ·have e11 := hd_nth (hd 11 (by simp)) rfl
    go_simp
    refine hK _ _ ?_ ?_ HW
    ·simp [upd, e11]
    ·exact rfl
   refine auto_op 66 [12, 4, 0, 1, 2, 3, 4, 5, 6, 7, 8, 9, 10] (by kernel_rfl) (fun y w' HW hd K hK => ?_) ?_
   ·have e0 := hd_nth (hd 0 (by simp)) rfl
    have e1 := hd_nth (hd 1 (by simp)) rfl
    have e2 := hd_nth (hd 2 (by simp)) rfl
    have e3 := hd_nth (hd 3 (by simp)) rfl
    have e4 := hd_nth (hd 4 (by simp)) rfl
    have e5 := hd_nth (hd 5 (by simp)) rfl
    have e6 := hd_nth (hd 6 (by simp)) rfl
    have e7 := hd_nth (hd 7 (by simp)) rfl
    have e8 := hd_nth (hd 8 (by simp)) rfl
    have e9 := hd_nth (hd 9 (by simp)) rfl
    have e10 := hd_nth (hd 10 (by simp)) rfl
    have e12 := hd_nth (hd 12 (by simp)) rfl
    go_simp
    refine hK _ _ ?_ ?_ HW
    ·simp [upd, e0, e1, e2, e3, e4, e5, e6, e7, e8, e9, e10, e12]
    ·exact rfl
   refine auto_last fun y w' HW hd K hK => ?_
   have e0 := hd_nth (hd 0 (by omega)) rfl
   have e1 := hd_nth (hd 1 (by omega)) rfl
   have e2 := hd_nth (hd 2 (by omega)) rfl
   have e3 := hd_nth (hd 3 (by omega)) rfl
   have e4 := hd_nth (hd 4 (by omega)) rfl
   have e5 := hd_nth (hd 5 (by omega)) rfl
   have e6 := hd_nth (hd 6 (by omega)) rfl
   have e7 := hd_nth (hd 7 (by omega)) rfl
   have e8 := hd_nth (hd 8 (by omega)) rfl
   have e9 := hd_nth (hd 9 (by omega)) rfl
   have e10 := hd_nth (hd 10 (by omega)) rfl
   have e11 := hd_nth (hd 11 (by omega)) rfl
   have e12 := hd_nth (hd 12 (by omega)) rfl
   have e13 := hd_nth (hd 13 (by omega)) rfl
   have hq := HRS.out.more HW
   obtain ⟨p1, p2, p3⟩ := hq.putRow n2 ⟨p, q, ep, ef, er, r, f⟩ HN2.out
   refine step_store_blk (a := ⟨_, _⟩) (by kernel_rfl) 167 (.tmp 66) (.tmp 63) (by exact rfl) g (2 + n2 * 7) 185 _ (encI (Ln.l ⟨p, q, ep, ef, er, r, f⟩)) (by exact e13) (by exact e10) hq.2.2 (by rw [size_trans]; rfl) p2 (encI_one _) ?_
   rw [p1]
   have HR9 := Lib.hid p3
   have HK9 := Lib.hid ((HK6.out.trans (Kq.of_below HW)).trans (setRow_kq [g] w' g (hd2 true n2 ++ encR ((L.set n2 ⟨p, q, ep, ef, er, r, f⟩).map Ln.l)).toArray (by simp)))
   have HT9 := Lib.hid (HT5.out.kq ((Kq.of_below (T := [g]) HW).trans (setRow_kq [g] w' g (hd2 true n2 ++ encR ((L.set n2 ⟨p, q, ep, ef, er, r, f⟩).map Ln.l)).toArray (by simp))) HGL.out)
   refine hK _ _ ?_
   generalize w'.setRow g (hd2 true n2 ++ encR ((L.set n2 ⟨p, q, ep, ef, er, r, f⟩).map Ln.l)).toArray = W9 at HR9 HK9 HT9 ⊢
   clear hd hK K hq p1 p2 p3 HW HFB5 HT5 HK6 HRS c1 gl k0 k1 kl j0 j1 j2 jl e0 e1 e2 e3 e4 e5 e6 e7 e8 e9 e10 e11 e12 e13
   have c9 := HR9.out.pre.2
   have f9 := HR9.out.frz 1
   have l9 := HR9.out.lt
   have d0 : wrap64 ((n2 : Int) + 1) = (n2 : Int) + 1 := IntWalk.wrap64_in _ (by omega)
   have hk10 : Kq [g] W9 (W9.setCell ⟨g, 1, none⟩ (.int .i64 ((n2 : Int) + 1))) := (Kq.refl _ _).setCell g 1 _ (.inl (by simp))
   have HN := Lib.hid (narrow_any (HPS.out W9 HR9.out))
   have HK10 := Lib.hid (HK9.out.trans hk10)
   have HT10 := Lib.hid (HT9.out.kq hk10 HGL.out)
   clear hk10 HR9 HPS HK9 HT9
   go_wp2_with fail
   refine HN.out.mono ?_
   rintro e W11 ⟨rfl, HL11, hk11⟩
   have HK11 := Lib.hid (HK10.out.trans hk11)
   have HT11 := Lib.hid (HT10.out.kq hk11 HGL.out)
   have HL12 : Hid (LS19 W11 g true fin) := Lib.hid (by rw [HFN.out]; exact HL11.out)
   clear hk11 HN HK10 HT10 HL11 c9 f9 l9
   go_wp2
   go_ret2
   exact ⟨⟨_, rfl, HT11⟩, HL12, HK11.out⟩
end
end Go.Proofs.YteaincdeoajkeaaGreatDoor.Sw
end
