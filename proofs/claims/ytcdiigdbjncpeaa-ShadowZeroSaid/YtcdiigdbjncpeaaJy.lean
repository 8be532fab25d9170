/- Package shadow: narrow. -/
import Derived.Test.YtcdiigdbjncpeaaJw
import Derived.Test.YtcdiigdbjncpeaaBz
namespace Go.Proofs.Ytcdiigdbjncpeaa.Sw
open Go.RowKit Ut
set_option maxRecDepth 100000
set_option linter.unusedVariables false
set_option maxHeartbeats 4000000

/-- what narrow makes of a translation; of the first i -/
def narZ (l : List Ln) (z : Ln) : Ln := if tabL l z.ep = true then clrS z else z
def narI (l : List Ln) (i : Nat) : List Ln := (l.take i).map (narZ l) ++ l.drop i
section
variable {l : List Ln} {i : Nat} {x : Ln}
theorem narZ_by (l : List Ln) (z : Ln) (p : Int) : (narZ l z).by_ p = z.by_ p := by
  unfold narZ
  split <;> rfl
theorem tab_by (l : List Ln) (p : Int) : tabL l p = (l.map fun x => x.by_ p).any id := by unfold tabL; rw [List.any_map]; rfl
theorem tab_nar (l : List Ln) (i : Nat) (p : Int) : tabL (narI l i) p = tabL l p := by
  rw [tab_by, tab_by]
  unfold narI
  rw [List.map_append, List.map_map, show ((fun x : Ln => x.by_ p) ∘ narZ l) = fun x => x.by_ p from funext fun z => narZ_by l z p, ← List.map_append, List.take_append_drop]
theorem nar_len (l : List Ln) (i : Nat) : (narI l i).length = l.length := by
  unfold narI
  rw [List.length_append, List.length_map, ← List.length_append, List.take_append_drop]
theorem nar_at (hx : l[i]? = some x) : (narI l i)[i]? = some x ∧ narI l (i + 1) = (narI l i).set i (narZ l x) := by
  have hi := (List.getElem?_eq_some_iff.1 hx).1
  have hl : ((l.take i).map (narZ l)).length = i := by rw [List.length_map, List.length_take]; omega
  have hd : l.drop i = x :: l.drop (i + 1) := by
    rw [List.drop_eq_getElem_cons hi]
    congr 1
    exact (List.getElem?_eq_some_iff.1 hx).2
  unfold narI
  refine ⟨?_, ?_⟩
  · rw [List.getElem?_append_right (by omega), hl, Nat.sub_self, hd]
    rfl
  · rw [List.set_append_right _ _ (by omega), hl, Nat.sub_self, hd, List.set_cons_zero, List.take_add_one, hx, List.map_append, List.append_assoc]
    rfl
theorem nar_end (l : List Ln) : narI l l.length = l.map (narZ l) := by
  unfold narI
  rw [List.take_length, List.drop_length, List.append_nil]
end
section
variable {W : World} {g : Nat} {m : Bool} {n : Int} {l L : List Ln}
theorem RS19.setEr (h : RS19 W g m n L) {i : Nat} {x : Ln} (e : Int) (hx : L[i]? = some x) : RS19 (W.setCell ⟨g, 2 + i * 7 + 4, none⟩ (.int .i64 e)) g m n (L.set i { x with er := e }) := by
  refine ⟨by rw [List.length_set]; exact h.1, ?_⟩
  have h1 := h.2.setAt (o := 2) rfl (i := i) (j := 4) (x := x.l) e (by rw [List.getElem?_map, hx]; rfl) (by decide)
  rw [List.map_set]
  exact h1
theorem LS19.setEr (h : LS19 W g m l) {i : Nat} {x : Ln} (e : Int) (hx : l[i]? = some x) : LS19 (W.setCell ⟨g, 2 + i * 7 + 4, none⟩ (.int .i64 e)) g m (l.set i { x with er := e }) := by
  obtain ⟨z, h⟩ := h
  have hi := (List.getElem?_eq_some_iff.1 hx).1
  have h1 := h.setEr (i := i) (x := x) e (by rw [List.getElem?_append_left hi]; exact hx)
  rw [List.set_append_left _ _ hi] at h1
  exact ⟨z, by rw [List.length_set]; exact h1⟩
theorem kq_drew19 {T : List Nat} {W W' : World} (h : Kq T W W') : Kq T W W'.drew := ⟨h.os, h.tape, h.output, h.size, h.block⟩
theorem narrow_any (h : LS19 W g m l) : Calls Try.prog 37 #[.pointer (some ⟨g, 0, none⟩)] W fun e w' => e = .returned (.tuple #[]) ∧ Hid (LS19 w' g m (l.map (narZ l))) ∧ Kq [g] W w' := by
  have hth := there_any h
  obtain ⟨y, hy⟩ : ∃ y : Addr, y = ⟨g, 2, none⟩ := ⟨_, rfl⟩
  rw [← hy] at hth
  have h32 := h.len
  obtain ⟨n, hn⟩ : ∃ n : Nat, l.length = n := ⟨_, rfl⟩
  rw [hn] at hth h32
  have HTH := Lib.hid hth
  have HY := Lib.hid hy
  have HN := Lib.hid hn
  have H32 := Lib.hid h32
  have HL := Lib.hid h
  have n0 : (0 : Int) ≤ (n : Int) ∧ (n : Int) ≤ 32 := by omega
  clear hth hy hn h32 h
  go_enter Try.func37, Try.ntmps37
  go_wp2_with fail
  refine HTH.out.mono ?_
  rintro e w1 ⟨rfl, hb1⟩
  have HL0 : Hid (LS19 w1 g m (narI l 0)) := Lib.hid (HL.out.more hb1)
  have HK0 := Lib.hid (Kq.of_below (T := [g]) hb1)
  clear hb1 HTH HL
  go_wp2
  go_loopw [7] (fun j wr => ∃ i : Nat, i ≤ n ∧ j = .int .i64 i ∧ Hid (LS19 wr g m (narI l i)) ∧ Hid (Kq [g] W wr)) (fun j _ => n - (intOf j).toNat)
  case atStart => exact ⟨0, Nat.zero_le _, rfl, HL0, HK0⟩
  case round =>
    clear HL0 HK0
    obtain ⟨i, hin0, rfl, HL, HK⟩ := hrel
    by_cases hin : i < n
    · have f0 : (i : Int) < (n : Int) := by omega
      have f2 : (0 : Int) ≤ (i : Int) := by omega
      have f3 : (i : Int) < 32 := by have := H32.out; omega
      have hx : l[i]? = some (l[i]'(by rw [HN.out]; exact hin)) := List.getElem?_eq_getElem _
      obtain ⟨x, hxx⟩ : ∃ x, l[i]'(by rw [HN.out]; exact hin) = x := ⟨_, rfl⟩
      rw [hxx] at hx
      have hna := nar_at hx
      have hrow : LnRow wr (some y) (narI l i) := by rw [HY.out]; exact HL.out.row
      obtain ⟨y', e', hyb, hyb2, d0, d1, d2, d3, d4, d5, d6⟩ := hrow.at_ hna.1
      injection e' with e'
      subst e'
      have HX := Lib.hid hx
      have HNA := Lib.hid hna
      have H3 := Lib.hid hin
      obtain ⟨V, hV⟩ : ∃ V, V = wr.alloc (.cells #[.int .i64 x.kr, .int .i64 x.kp, .int .i64 x.ep, .int .i64 x.ef, .int .i64 x.er, .int .i64 x.rt, .int .i64 x.lf] 62) := ⟨_, rfl⟩
      have hbV : Below wr.heap.size wr V := by rw [hV]; exact (Below.refl _ _).alloc (Nat.le_refl _) _
      have hNV : Blk V wr.heap.size 62 (encI x.l) := by rw [hV]; exact Blk.new wr _ _
      have HV := Lib.hid hV
      have HLV := Lib.hid (HL.out.more hbV)
      have HKV := Lib.hid (HK.out.trans (Kq.of_below hbV))
      obtain ⟨t, ht⟩ : ∃ t, tabL l x.ep = t := ⟨_, rfl⟩
      have HTB := Lib.hid (shTable_any x.ep HLV.out.th)
      rw [tab_nar, ht] at HTB
      have HT := Lib.hid ht
      have x0 := hNV.cell (j := 0) rfl
      have x1 := hNV.cell (j := 1) rfl
      have x2 := hNV.cell (j := 2) rfl
      have x3 := hNV.cell (j := 3) rfl
      have x4 := hNV.cell (j := 4) rfl
      have x5 := hNV.cell (j := 5) rfl
      have x6 := hNV.cell (j := 6) rfl
      have xl := hNV.lt
      clear hV hbV hNV ht hx hxx hna hrow hin hin0
      obtain ⟨kr, kp, ep, ef, er, rt, lf⟩ := x
      dsimp only [Ln.l] at HV HTB d0 d1 d2 d3 d4 d5 d6 x0 x1 x2 x3 x4 x5 x6
      go_upto_region 3 with fail
      rw [← HV.out]
      clear HV d0 d1 d2 d3 d4 d5 d6 hyb hyb2 HL HK
      go_wp2_with fail
      refine HTB.out.mono ?_
      rintro e V2 ⟨rfl, hb2⟩
      have HL2 := Lib.hid (HLV.out.more hb2)
      have HK2 := Lib.hid (HKV.out.trans (Kq.of_below hb2))
      clear hb2 HLV HKV HTB x0 x1 x2 x3 x4 x5 x6 xl
      cases t
      · have HL9 : Hid (LS19 V2 g m (narI l (i + 1))) := Lib.hid (by
          have h1 : narZ l ⟨kr, kp, ep, ef, er, rt, lf⟩ = ⟨kr, kp, ep, ef, er, rt, lf⟩ := by
            unfold narZ
            rw [if_neg (by rw [HT.out]; decide)]
          rw [HNA.out.2, h1]
          have h2 : (narI l i).set i ⟨kr, kp, ep, ef, er, rt, lf⟩ = narI l i := by
            obtain ⟨hi, he⟩ := List.getElem?_eq_some_iff.1 HNA.out.1
            rw [← he]
            exact List.set_getElem_self hi
          rw [h2]
          exact HL2.out)
        clear HL2 HNA
        go_wp2
        go_roundw
        case rel => exact ⟨i + 1, H3.out, by go_num, HL9, HK2⟩
        case measure => have := H3.out; simp [intOf]; omega
      · have e9 : 2 + i * 7 + 4 = 2 + i * 7 + 2 + 2 := by omega
        have c4 : V2.cell? ⟨g, 2 + i * 7 + 4, none⟩ = some (.int .i64 er) := by
          obtain ⟨z, hz⟩ := HL2.out
          exact (hz.cells (i := i) (x := ⟨kr, kp, ep, ef, er, rt, lf⟩) (by rw [List.getElem?_append_left (List.getElem?_eq_some_iff.1 HNA.out.1).1]; exact HNA.out.1)).2.2.2.2.1
        have g4 : V2.frozen? ⟨g, 2 + i * 7 + 4, none⟩ = false := HL2.out.elim fun z hz => hz.frz _
        have gl := HL2.out.lt
        have HL9 : Hid (LS19 (V2.setCell ⟨g, 2 + i * 7 + 4, none⟩ (.int .i64 (bits .andNot .i64 er 2))).drew g m (narI l (i + 1))) := Lib.hid (by
          have h1 : narZ l ⟨kr, kp, ep, ef, er, rt, lf⟩ = ⟨kr, kp, ep, ef, bits .andNot .i64 er 2, rt, lf⟩ := by
            unfold narZ
            rw [if_pos HT.out]
            rfl
          rw [HNA.out.2, h1]
          have h3 := HL2.out.setEr (bits .andNot .i64 er 2) HNA.out.1
          exact h3.kq (T := []) (kq_drew19 (Kq.refl _ _)) (by simp))
        have HK9 := Lib.hid (kq_drew19 (HK2.out.setCell g (2 + i * 7 + 4) (.int .i64 (bits .andNot .i64 er 2)) (.inl (by simp))))
        rw [e9] at c4 g4 HL9 HK9
        clear HL2 HK2 HNA e9
        go_upto_region 4 with fail
        go_region
        go_wp2
        go_roundw
        case rel => exact ⟨i + 1, H3.out, by go_num, HL9, HK9⟩
        case measure => have := H3.out; simp [intOf]; omega
    · have f0 : ¬ (i : Int) < (n : Int) := by omega
      obtain rfl : i = n := by omega
      have HL9 : Hid (LS19 wr g m (l.map (narZ l))) := Lib.hid (by
        have h1 := HL.out
        rw [← HN.out, nar_end] at h1
        exact h1)
      clear hin hin0 HL
      go_wp2
      go_end0
      exact ⟨rfl, HL9, HK.out⟩
end
end Go.Proofs.Ytcdiigdbjncpeaa.Sw
