/- The document's tables in the shadow: Get, List. -/
import Derived.Test.YtcdiigdbjncpeaaBw
namespace Go.Proofs.Ytcdiigdbjncpeaa.Sw
open Go.RowKit Ut
set_option maxRecDepth 100000
set_option linter.unusedVariables false
set_option maxHeartbeats 4000000

section
variable {d n cap : Nat} {a : Option Addr} {l : List Ln}
theorem refGetS_any (p q : Int) (o : Option Ln) (ho : findS l p q = o) (w : World) (h : DS w d a n cap l) (hn : n ≤ 100000) :
    Calls Try.prog 15 #[.pointer (some ⟨d, 0, none⟩), .agg #[.int .i64 p, .int .i64 q]] w fun e w' => e = .returned (.tuple #[entW (entS o), .bool o.isSome]) ∧ Below w.heap.size w w' := by
  obtain ⟨U, hU⟩ : ∃ U, U = (w.alloc (.cells #[.int .i64 p, .int .i64 q] 30)).alloc (.cells #[.int .i64 0, .int .i64 0, .int .i64 0] 32) := ⟨_, rfl⟩
  have hB : Below w.heap.size w U := by rw [hU]; exact ((Below.refl _ _).alloc (Nat.le_refl _) _).alloc (by simp) _
  have hk : Blk U w.heap.size 30 [.int .i64 p, .int .i64 q] := by rw [hU]; exact (Blk.new w _ [.int .i64 p, .int .i64 q]).more ((Below.refl _ _).alloc (Nat.le_refl _) _)
  have he : Blk U (w.heap.size + 1) 32 (entD (0, 0, 0)) := by
    have := Blk.new (w.alloc (.cells #[.int .i64 p, .int .i64 q] 30)) 32 (entD (0, 0, 0))
    rw [World.size_alloc] at this
    rw [hU]
    exact this
  have HU := Lib.hid hU
  have HB := Lib.hid hB
  have HK := Lib.hid hk
  have HE := Lib.hid he
  have HD := Lib.hid (h.more hB)
  have HO := Lib.hid ho
  have HSet : Hid (∀ (W : World) (j : Nat) (v : Value), Below w.heap.size w W → Below w.heap.size w (W.setCell ⟨w.heap.size + 1, j, none⟩ v)) := Lib.hid fun W j v h => h.setCell (p := ⟨w.heap.size + 1, j, none⟩) (by simp) _
  clear hU hB hk he h ho
  go_enter Try.func15, Try.ntmps15
  go_upto_region 1 with fail
  rw [← HU.out]
  clear HU
  go_wp2
  go_loopw [6] (fun j wr => ∃ i : Nat, i ≤ n ∧ j = .int .i64 i ∧ Hid (∀ y ∈ l.take i, y.is p q = false) ∧ Hid (Below U.heap.size U wr)) (fun j _ => n - (intOf j).toNat)
  case atStart => exact ⟨0, Nat.zero_le _, rfl, Lib.hid (by simp), Lib.hid (Below.refl _ _)⟩
  case round =>
    obtain ⟨i, hi, rfl, HN, HW⟩ := hrel
    have HDW := Lib.hid (HD.out.more HW.out)
    have c0 := HDW.out.cell0
    have cl := HDW.out.blk.lt
    by_cases hin : i < n
    · have f0 : (i : Int) < (n : Int) := by omega
      have f2 : (0 : Int) ≤ (i : Int) := by omega
      have hx : l[i]? = some (l[i]'(by rw [HD.out.len]; exact hin)) := List.getElem?_eq_getElem _
      obtain ⟨x, hxx⟩ : ∃ x, l[i]'(by rw [HD.out.len]; exact hin) = x := ⟨_, rfl⟩
      rw [hxx] at hx
      obtain ⟨y, rfl, hyb, hyb2, d0, d1, d2, d3, d4, d5, d6⟩ := HDW.out.row.at_ hx
      have q0 := HK.out.more HW.out
      have k0 := q0.cell (j := 0) rfl
      have k1 := q0.cell (j := 1) rfl
      have kl := q0.lt
      have HX := Lib.hid hx
      have H3 := Lib.hid hin
      clear hx hxx q0 hi hin d5 d6
      have hcases := isS_cases x p q
      obtain ⟨kr, kp, ep, ef, er, rt, lf⟩ := x
      dsimp only at hcases d0 d1 d2 d3 d4
      rcases hcases with ⟨hy, h1, h2⟩ | ⟨hno, h1⟩ | ⟨hno, h1, h2⟩
      · subst h1 h2
        have HF := Lib.hid (HO.out.symm.trans (foundS HN.out HX.out hy))
        have HB9 := Lib.hid (HB.out.trans (HW.out.mono HB.out.size))
        have q0 := HE.out.more HW.out
        have r0 := q0.cell (j := 0) rfl
        have r1 := q0.cell (j := 1) rfl
        have r2 := q0.cell (j := 2) rfl
        have f3 := q0.frozen 0
        have f4 := q0.frozen 1
        have f5 := q0.frozen 2
        have hlt := q0.lt
        clear hy q0
        go_upto_region 4 with fail
        go_quiet (fail)
        go_wp2
        exact bodyPost_ret (v := .tuple #[entW (ep, ef, er), .bool true]) (by simp [results, Try.results15, go_sem, r0, r1, r2, entW]) rfl ⟨by rw [HF.out]; rfl, by (repeat (first | refine HSet.out _ _ _ ?_)); exact drewN_below HB9.out _⟩
      · have HN2 := Lib.hid (noneS HN.out HX.out hno)
        clear hno d2 d3 d4
        go_upto_region 4 with fail
        go_quiet (fail)
        go_wp2
        go_roundw
        case rel => exact ⟨i + 1, H3.out, by go_num, HN2, Lib.hid (drewN_below HW.out _)⟩
        case measure => have := H3.out; simp [intOf]; omega
      · have HN2 := Lib.hid (noneS HN.out HX.out hno)
        clear hno d2 d3 d4
        subst h1
        go_upto_region 4 with fail
        go_quiet (fail)
        go_wp2
        go_roundw
        case rel => exact ⟨i + 1, H3.out, by go_num, HN2, Lib.hid (drewN_below HW.out _)⟩
        case measure => have := H3.out; simp [intOf]; omega
    · have f0 : ¬ (i : Int) < (n : Int) := by omega
      obtain rfl : i = n := by omega
      have HF : Hid (o = none) := Lib.hid (HO.out.symm.trans (absentS (by have := HN.out; rwa [← HD.out.len, List.take_length] at this)))
      have HB9 := Lib.hid (HB.out.trans (HW.out.mono HB.out.size))
      have q0 := HE.out.more HW.out
      have r0 := q0.cell (j := 0) rfl
      have r1 := q0.cell (j := 1) rfl
      have r2 := q0.cell (j := 2) rfl
      have f3 := q0.frozen 0
      have f4 := q0.frozen 1
      have f5 := q0.frozen 2
      have hlt := q0.lt
      clear hi hin q0
      go_wp2
      exact bodyPost_ret (v := .tuple #[entW (0, 0, 0), .bool false]) (by simp [results, Try.results15, go_sem, r0, r1, r2, entW]) rfl ⟨by rw [HF.out]; rfl, by (repeat (first | refine HSet.out _ _ _ ?_)); exact HB9.out⟩

theorem info_kept19 : (Try.prog.info? 54).map (fun i => (i.zero, i.size, i.bytes)) = some (some (.agg #[.int .i64 0, .int .i64 0, .int .i64 0, .int .i64 0, .int .i64 0]), 5, 40) := by kernel_rfl
theorem kept_snoc {l : List Ln} {i : Nat} {x : Ln} (hx : l[i]? = some x) : (l.take (i + 1)).map Ln.kept = (l.take i).map Ln.kept ++ [x.kept] := by
  rw [List.take_add_one, hx]
  simp
theorem refListS_any (w : World) (h : DS w d a n cap l) (hn : n ≤ 100000) :
    Calls Try.prog 19 #[.pointer (some ⟨d, 0, none⟩)] w fun e w' => (∃ b c, e = .returned (.slice b n c) ∧ Hid (IRow 5 w' b (l.map Ln.kept) ∧ ∀ y, b = some y → w.heap.size ≤ y.block)) ∧ Below w.heap.size w w' := by
  have HD := Lib.hid h
  have HDL := Lib.hid h.blk.lt
  have hn0 : (n : Int) ≤ 100000 := by omega
  have HN0 := Lib.hid hn
  obtain ⟨i0, hi, hz0, hz1, hz2⟩ := info_parts info_kept19
  have HINF := Lib.hid (And.intro hi (And.intro hz0 (And.intro hz1 hz2)))
  clear h hn hi hz0 hz1 hz2
  go_enter Try.func19, Try.ntmps19
  go_wp2
  go_loopw [3, 4] (fun v j wr => ∃ (i : Nat) (b : Option Addr) (c : Nat), i ≤ n ∧ v = .slice b i c ∧ j = .int .i64 i ∧ Hid (OwnT 5 wr w.heap.size 54 (.slice b i c) ((l.take i).map Ln.kept)) ∧ Hid (Below w.heap.size w wr)) (fun _ j _ => n - (intOf j).toNat)
  case atStart => exact ⟨0, none, 0, Nat.zero_le _, rfl, rfl, Lib.hid (OwnT.nil _ _ _ _), Lib.hid (Below.refl _ _)⟩
  case round =>
    obtain ⟨i, b, c, hi, rfl, rfl, HO, HBW⟩ := hrel
    have HDW := Lib.hid (HD.out.more HBW.out)
    have c0 := HDW.out.cell0
    have cl := HDW.out.blk.lt
    by_cases hin : i < n
    · have f0 : (i : Int) < (n : Int) := by omega
      have f2 : (0 : Int) ≤ (i : Int) := by omega
      have hx : l[i]? = some (l[i]'(by rw [HD.out.len]; exact hin)) := List.getElem?_eq_getElem _
      obtain ⟨x, hxx⟩ : ∃ x, l[i]'(by rw [HD.out.len]; exact hin) = x := ⟨_, rfl⟩
      rw [hxx] at hx
      obtain ⟨_, e', _, hyb0, _⟩ := HD.out.row.at_ hx
      obtain ⟨y1, rfl, hyb, hyb2, d0, d1, d2, d3, d4, d5, d6⟩ := HDW.out.row.at_ hx
      injection e' with e'
      subst e'
      have dl0 := HDL.out
      have HX := Lib.hid hx
      have H3 := Lib.hid hin
      have hi1 : (l.take i).length = i := by rw [List.length_take, HD.out.len]; omega
      have hown := HO.out
      have hBW : w.heap.size ≤ wr.heap.size := HBW.out.size
      have hlt : ∀ q, (Value.slice b i c).ownBlock = some q → w.heap.size ≤ q ∧ q < wr.heap.size := fun q hq => World.ownsRow.lt hown.1 q hq
      obtain ⟨hi9, hz0, hz1, hz2⟩ := HINF.out
      have hlen : ((l.take i).map Ln.kept).length + 1 ≤ 1099511627776 := by rw [List.length_map, hi1]; have := HN0.out; omega
      have hxl : ((l.take i).map Ln.kept).length = i := by rw [List.length_map, hi1]
      clear hx hxx hin d5 d6 hi1
      obtain ⟨kr, kp, ep, ef, er, rt, lf⟩ := x
      dsimp only at d0 d1 d2 d3 d4
      have HSN : Hid ((l.take (i + 1)).map Ln.kept = (l.take i).map Ln.kept ++ [[kr, kp, ep, ef, er]]) := Lib.hid (kept_snoc HX.out)
      generalize (l.take i).map Ln.kept = xs at hown HSN hlen HO hxl
      go_upto_region 5 with fail
      apply wp_region_app [14, 15, 16, 17, 18, 19, 20, 21, 22, 23, 24, 25, 26, 27, 28, 29, 30, 31, 32, 33] [_, _, _, _, _, _, _, _, _, _, _, _, _, _, _, _, _, _, undef, undef] (⟨wr, w.heap.size, 54, 5, .slice b i c, xs, [kr, kp, ep, ef, er]⟩ : AppOf) 19
      case hXW => rfl
      case hBW => exact hBW
      case hown => exact hown
      case hm => kernel_rfl
      case hT => intro y; simp only [setAll, List.setIfInBounds_toArray, List.set_cons_succ, List.set_cons_zero]; exact rfl
      case hok => kernel_rfl
      case hn => decide
      case hs =>
        refine app_op 14 [] (by kernel_rfl) (by decide) (by decide) (fun p y w' HW hd K hK => ?_) ?_
        · go_simp
          refine hK _ ?_ ?_
          · simp [upd]
          · exact rfl
        refine app_op 15 [] (by kernel_rfl) (by decide) (by decide) (fun p y w' HW hd K hK => ?_) ?_
        · go_simp
          refine hK _ ?_ ?_
          · simp [upd]
          · exact rfl
        refine app_op 16 [1] (by kernel_rfl) (by decide) (by decide) (fun p y w' HW hd K hK => ?_) ?_
        · have e1 := appR_nth (hd 1 (by simp)) (by decide) (by decide) rfl
          go_simp
          refine hK _ ?_ ?_
          · simp [upd, e1]
          · exact rfl
        refine app_op 17 [2] (by kernel_rfl) (by decide) (by decide) (fun p y w' HW hd K hK => ?_) ?_
        · have e2 := appR_nth (hd 2 (by simp)) (by decide) (by decide) rfl
          go_simp
          refine hK _ ?_ ?_
          · simp [upd, e2]
          · exact rfl
        refine app_op 18 [3] (by kernel_rfl) (by decide) (by decide) (fun p y w' HW hd K hK => ?_) ?_
        · have e3 := appR_nth (hd 3 (by simp)) (by decide) (by decide) rfl
          have hcl : ∀ p : Addr, p.block < w.heap.size → w'.cell? p = wr.cell? p := fun p hp => HW.1.cell hp
          go_simp
          refine hK _ ?_ ?_
          · simp [upd, e3]
          · exact rfl
        refine app_op 19 [] (by kernel_rfl) (by decide) (by decide) (fun p y w' HW hd K hK => ?_) ?_
        · go_simp
          refine hK _ ?_ ?_
          · simp [upd]
          · exact rfl
        refine app_op 20 [4, 5] (by kernel_rfl) (by decide) (by decide) (fun p y w' HW hd K hK => ?_) ?_
        · have e4 := appR_nth (hd 4 (by simp)) (by decide) (by decide) rfl
          have e5 := appR_nth (hd 5 (by simp)) (by decide) (by decide) rfl
          go_simp
          refine hK _ ?_ ?_
          · simp [upd, e4, e5]
          · exact rfl
        refine app_op 21 [6] (by kernel_rfl) (by decide) (by decide) (fun p y w' HW hd K hK => ?_) ?_
        · have e6 := appR_nth (hd 6 (by simp)) (by decide) (by decide) rfl
          go_simp
          refine hK _ ?_ ?_
          · simp [upd, e6]
          · exact rfl
        refine app_op 22 [7] (by kernel_rfl) (by decide) (by decide) (fun p y w' HW hd K hK => ?_) ?_
        · have e7 := appR_nth (hd 7 (by simp)) (by decide) (by decide) rfl
          have hcl : ∀ p : Addr, p.block < w.heap.size → w'.cell? p = wr.cell? p := fun p hp => HW.1.cell hp
          go_simp
          refine hK _ ?_ ?_
          · simp [upd, e7]
          · exact rfl
        refine app_op 23 [] (by kernel_rfl) (by decide) (by decide) (fun p y w' HW hd K hK => ?_) ?_
        · go_simp
          refine hK _ ?_ ?_
          · simp [upd]
          · exact rfl
        refine app_op 24 [9] (by kernel_rfl) (by decide) (by decide) (fun p y w' HW hd K hK => ?_) ?_
        · have e9 := appR_nth (hd 9 (by simp)) (by decide) (by decide) rfl
          go_simp
          refine hK _ ?_ ?_
          · simp [upd, e9]
          · exact rfl
        refine app_op 25 [10] (by kernel_rfl) (by decide) (by decide) (fun p y w' HW hd K hK => ?_) ?_
        · have e10 := appR_nth (hd 10 (by simp)) (by decide) (by decide) rfl
          go_simp
          refine hK _ ?_ ?_
          · simp [upd, e10]
          · exact rfl
        refine app_op 26 [11] (by kernel_rfl) (by decide) (by decide) (fun p y w' HW hd K hK => ?_) ?_
        · have e11 := appR_nth (hd 11 (by simp)) (by decide) (by decide) rfl
          have hcl : ∀ p : Addr, p.block < w.heap.size → w'.cell? p = wr.cell? p := fun p hp => HW.1.cell hp
          go_simp
          refine hK _ ?_ ?_
          · simp [upd, e11]
          · exact rfl
        refine app_op 27 [] (by kernel_rfl) (by decide) (by decide) (fun p y w' HW hd K hK => ?_) ?_
        · go_simp
          refine hK _ ?_ ?_
          · simp [upd]
          · exact rfl
        refine app_op 28 [12, 13] (by kernel_rfl) (by decide) (by decide) (fun p y w' HW hd K hK => ?_) ?_
        · have e12 := appR_nth (hd 12 (by simp)) (by decide) (by decide) rfl
          have e13 := appR_nth (hd 13 (by simp)) (by decide) (by decide) rfl
          go_simp
          refine hK _ ?_ ?_
          · simp [upd, e12, e13]
          · exact rfl
        refine app_op 29 [14] (by kernel_rfl) (by decide) (by decide) (fun p y w' HW hd K hK => ?_) ?_
        · have e14 := appR_nth (hd 14 (by simp)) (by decide) (by decide) rfl
          go_simp
          refine hK _ ?_ ?_
          · simp [upd, e14]
          · exact rfl
        refine app_op 30 [15] (by kernel_rfl) (by decide) (by decide) (fun p y w' HW hd K hK => ?_) ?_
        · have e15 := appR_nth (hd 15 (by simp)) (by decide) (by decide) rfl
          have hcl : ∀ p : Addr, p.block < w.heap.size → w'.cell? p = wr.cell? p := fun p hp => HW.1.cell hp
          go_simp
          refine hK _ ?_ ?_
          · simp [upd, e15]
          · exact rfl
        refine app_op 31 [8, 16] (by kernel_rfl) (by decide) (by decide) (fun p y w' HW hd K hK => ?_) ?_
        · have e8 := appR_nth (hd 8 (by simp)) (by decide) (by decide) rfl
          have e16 := appR_nth (hd 16 (by simp)) (by decide) (by decide) rfl
          go_simp
          refine hK _ ?_ ?_
          · simp [upd, e8, e16]
          · exact rfl
        refine app_build 32 [17] (by kernel_rfl) (by decide) (.cells #[.int .i64 kr, .int .i64 kp, .int .i64 ep, .int .i64 ef, .int .i64 er] 54) _ rfl hBW (fun p y w' HW hd K hK => ?_) ?_
        · have e17 := appR_nth (hd 17 (by simp)) (by decide) (by decide) rfl
          go_simp
          refine hK _ ?_ ?_
          · simp [upd, e17]
          · exact rfl
        refine app_append 14 32 48 i0 _ 40 0 18 (by kernel_rfl) rfl rfl Try.underlying48 hi9 hz0 hz1 hz2 rfl (Nat.zero_lt_succ _) rfl ⟨by decide, by decide⟩ rfl rfl (fun _ => rfl) (fun _ => rfl) (fun _ _ => rfl) hlen (by decide) hBW hlt ?_
        refine app_last (fun y w' HW hd K hK => ?_) (by decide)
        have e0 := appR_nth (hd 0 (by omega)) (by decide) (by decide) rfl
        have e1 := appR_nth (hd 1 (by omega)) (by decide) (by decide) rfl
        have e2 := appR_nth (hd 2 (by omega)) (by decide) (by decide) rfl
        have e3 := appR_nth (hd 3 (by omega)) (by decide) (by decide) rfl
        have e4 := appR_nth (hd 4 (by omega)) (by decide) (by decide) rfl
        have e5 := appR_nth (hd 5 (by omega)) (by decide) (by decide) rfl
        have e6 := appR_nth (hd 6 (by omega)) (by decide) (by decide) rfl
        have e7 := appR_nth (hd 7 (by omega)) (by decide) (by decide) rfl
        have e8 := appR_nth (hd 8 (by omega)) (by decide) (by decide) rfl
        have e9 := appR_nth (hd 9 (by omega)) (by decide) (by decide) rfl
        have e10 := appR_nth (hd 10 (by omega)) (by decide) (by decide) rfl
        have e11 := appR_nth (hd 11 (by omega)) (by decide) (by decide) rfl
        have e12 := appR_nth (hd 12 (by omega)) (by decide) (by decide) rfl
        have e13 := appR_nth (hd 13 (by omega)) (by decide) (by decide) rfl
        have e14 := appR_nth (hd 14 (by omega)) (by decide) (by decide) rfl
        have e15 := appR_nth (hd 15 (by omega)) (by decide) (by decide) rfl
        have e16 := appR_nth (hd 16 (by omega)) (by decide) (by decide) rfl
        have e17 := appR_nth (hd 17 (by omega)) (by decide) (by decide) rfl
        have eA : OwnT _ w' _ _ (y 19) _ := hd 19 (by omega)
        have hA : OwnT 5 w' w.heap.size 54 (y 19) (xs ++ [[kr, kp, ep, ef, er]]) := eA
        obtain ⟨b2, c2, ey, _⟩ := IRow.own hA
        rw [ey] at hA
        rw [List.length_append, List.length_singleton, hxl] at ey hA
        have HA := Lib.hid hA
        have HB9 : Hid (Below w.heap.size w w') := Lib.hid (HBW.out.trans HW.1)
        go_simp
        refine hK _ _ ?_
        clear hd hK K eA hA HW hown hlt hi9 hz0 hz1 hz2 hxl ey
        go_wp2
        go_roundw
        case rel => exact ⟨i + 1, b2, c2, H3.out, rfl, by go_num, by rw [HSN.out]; exact HA, HB9⟩
        case measure => have := H3.out; simp [intOf]; omega
    · have f0 : ¬ (i : Int) < (n : Int) := by omega
      obtain rfl : i = n := by omega
      have HE : Hid (IRow 5 wr b (l.map Ln.kept) ∧ ∀ y, b = some y → w.heap.size ≤ y.block) := Lib.hid (by
        have ho := HO.out
        rw [← HD.out.len, List.take_length] at ho
        obtain ⟨b', c', e', hr, _, _, hb, _⟩ := IRow.own ho
        injection e' with e1 _ _
        subst e1
        exact ⟨hr, hb⟩)
      clear hi hin
      go_wp2
      go_ret
      exact ⟨⟨b, ⟨c, rfl⟩, HE⟩, HBW.out⟩
end
end Go.Proofs.Ytcdiigdbjncpeaa.Sw
