/- The document's tables in the shadow: Wrote. -/
import Derived.Test.YtcdiigdbjncpeaaBx
namespace Go.Proofs.Ytcdiigdbjncpeaa.Sw
open Go.RowKit Ut
set_option maxRecDepth 100000
set_option linter.unusedVariables false
set_option maxHeartbeats 8000000

/-- those that go: filled through the page; with all of the page, too, if that is asked -/
def goF (pg : Int) (too : Bool) (x : Ln) : Bool := x.by_ pg || (too && x.ep == pg)
def goneS (l : List Ln) (pg : Int) (too : Bool) : List Ln := l.filter fun x => goF pg too x
def leftS (l : List Ln) (pg : Int) (too : Bool) : List Ln := l.filter fun x => !goF pg too x
theorem info_key19 : (Try.prog.info? 30).map (fun i => (i.zero, i.size, i.bytes)) = some (some (.agg #[.int .i64 0, .int .i64 0]), 2, 16) := by kernel_rfl
theorem info_line19 : (Try.prog.info? 68).map (fun i => (i.zero, i.size, i.bytes)) = some (some (Ln.v ⟨0, 0, 0, 0, 0, 0, 0⟩), 7, 56) := by kernel_rfl
theorem goF_cases (x : Ln) (pg : Int) (too : Bool) : (goF pg too x = true ∧ ((x.rt == pg) = true ∨ ((x.rt == pg) = false ∧ (x.lf == pg) = true) ∨ ((x.rt == pg) = false ∧ (x.lf == pg) = false ∧ too = true ∧ (x.ep == pg) = true))) ∨
    (goF pg too x = false ∧ (((x.rt == pg) = false ∧ (x.lf == pg) = false ∧ too = true ∧ (x.ep == pg) = false) ∨ ((x.rt == pg) = false ∧ (x.lf == pg) = false ∧ too = false))) := by
  unfold goF Ln.by_
  cases x.rt == pg <;> cases x.lf == pg <;> cases too <;> cases x.ep == pg <;> simp
theorem gone_at {l : List Ln} {pg : Int} {too : Bool} {i : Nat} {x : Ln} (hx : l[i]? = some x) (h : goF pg too x = true) : goneS (l.take (i + 1)) pg too = goneS (l.take i) pg too ++ [x] ∧ leftS (l.take (i + 1)) pg too = leftS (l.take i) pg too := by
  unfold goneS leftS
  rw [List.take_add_one, hx, List.filter_append, List.filter_append]
  simp [h]
theorem left_at {l : List Ln} {pg : Int} {too : Bool} {i : Nat} {x : Ln} (hx : l[i]? = some x) (h : goF pg too x = false) : goneS (l.take (i + 1)) pg too = goneS (l.take i) pg too ∧ leftS (l.take (i + 1)) pg too = leftS (l.take i) pg too ++ [x] := by
  unfold goneS leftS
  rw [List.take_add_one, hx, List.filter_append, List.filter_append]
  simp [h]
/-- the document's at d, its row made later than B -/
def DSE (W : World) (B d : Nat) (l : List Ln) : Prop := ∃ b c, DS W d b l.length c l ∧ ∀ y, b = some y → B ≤ y.block
/-- where Wrote's loop is: two rows of its own, the keys of those that go and those that stay -/
structure WS (w W : World) (u v : Value) (g s : List Ln) : Prop where
  ku : OwnT 2 W w.heap.size 30 u (g.map Ln.key)
  kv : OwnT 7 W w.heap.size 68 v (s.map Ln.l)
  b : Below w.heap.size w W
section
variable {w W W' : World} {u v u' v' : Value} {g s g' s' : List Ln}
theorem WS.more (h : WS w W u v g s) (hb : Below W.heap.size W W') : WS w W' u v g s := ⟨h.ku.below hb, h.kv.below hb, h.b.trans (hb.mono h.b.size)⟩
theorem WS.key (h : WS w W u v g s) (ho : OwnT 2 W' w.heap.size 30 u' (g'.map Ln.key)) (hg : W.grownBy W' u.ownBlock) : WS w W' u' v g' s :=
  ⟨ho, ⟨ownsRow_other h.kv.1 hg (fun q cs e' f hq hc => by rw [own_tag h.ku.1 q cs e' f hq hc]; decide), h.kv.2⟩, h.b.grown hg h.b.size (fun q hq => (World.ownsRow.lt h.ku.1 q hq).1)⟩
theorem WS.line (h : WS w W u v g s) (ho : OwnT 7 W' w.heap.size 68 v' (s'.map Ln.l)) (hg : W.grownBy W' v.ownBlock) : WS w W' u v' g s' :=
  ⟨⟨ownsRow_other h.ku.1 hg (fun q cs e' f hq hc => by rw [own_tag h.kv.1 q cs e' f hq hc]; decide), h.ku.2⟩, ho, h.b.grown hg h.b.size (fun q hq => (World.ownsRow.lt h.kv.1 q hq).1)⟩
end
section
variable {d n cap : Nat} {a : Option Addr} {l : List Ln}
theorem refWrote_any (pg : Int) (too : Bool) (w : World) (h : DS w d a n cap l) (hn : n ≤ 100000) :
    Calls Try.prog 11 #[.pointer (some ⟨d, 0, none⟩), .int .i64 pg, .bool too] w fun e w' => (∃ b c, e = .returned (.slice b (goneS l pg too).length c) ∧ Hid (IRow 2 w' b ((goneS l pg too).map Ln.key) ∧ ∀ y, b = some y → w.heap.size ≤ y.block)) ∧ DSE w' w.heap.size d (leftS l pg too) ∧ Kq [d] w w' := by
  have HD := Lib.hid h
  have HDL := Lib.hid h.blk.lt
  have hn0 : (n : Int) ≤ 100000 := by omega
  have HN0 := Lib.hid hn
  clear h hn
  go_enter Try.func11, Try.ntmps11
  go_wp2
  go_loopw [7, 8, 9] (fun u v j wr => ∃ (i k m : Nat) (b1 b2 : Option Addr) (c1 c2 : Nat), i ≤ n ∧ u = .slice b1 k c1 ∧ v = .slice b2 m c2 ∧ j = .int .i64 i ∧ Hid ((goneS (l.take i) pg too).length = k) ∧ Hid ((leftS (l.take i) pg too).length = m) ∧ Hid (WS w wr (.slice b1 k c1) (.slice b2 m c2) (goneS (l.take i) pg too) (leftS (l.take i) pg too))) (fun _ _ j _ => n - (intOf j).toNat)
  case atStart => exact ⟨0, 0, 0, none, none, 0, 0, Nat.zero_le _, rfl, rfl, rfl, rfl, rfl, Lib.hid ⟨OwnT.nil _ _ _ _, OwnT.nil _ _ _ _, Below.refl _ _⟩⟩
  case round =>
    obtain ⟨i, k, m, b1, b2, cc1, cc2, hi, rfl, rfl, rfl, HLK, HLM, HWS⟩ := hrel
    have HDW := Lib.hid (HD.out.more HWS.out.b)
    have c0 := HDW.out.cell0
    have cl := HDW.out.blk.lt
    by_cases hin : i < n
    · have f0 : (i : Int) < (n : Int) := by omega
      have f2 : (0 : Int) ≤ (i : Int) := by omega
      have hx : l[i]? = some (l[i]'(by rw [HD.out.len]; exact hin)) := List.getElem?_eq_getElem _
      obtain ⟨x, hxx⟩ : ∃ x, l[i]'(by rw [HD.out.len]; exact hin) = x := ⟨_, rfl⟩
      rw [hxx] at hx
      obtain ⟨y1, rfl, hyb, hyb2, d0, d1, d2, d3, d4, d5, d6⟩ := HDW.out.row.at_ hx
      have HX := Lib.hid hx
      have H3 := Lib.hid hin
      have hkm : k + 1 ≤ 1000000 ∧ m + 1 ≤ 1000000 := by
        have h1 := HLK.out
        have h2 := HLM.out
        unfold goneS at h1
        unfold leftS at h2
        have h3 := List.length_filter_le (fun x => goF pg too x) (l.take i)
        have h4 := List.length_filter_le (fun x => !goF pg too x) (l.take i)
        rw [List.length_take] at h3 h4
        have := HN0.out
        omega
      have HKM := Lib.hid hkm
      clear hx hxx hin hkm hi
      have hcases := goF_cases x pg too
      obtain ⟨kr, kp, ep, ef, er, rt, lf⟩ := x
      dsimp only at hcases d0 d1 d2 d3 d4 d5 d6
      obtain ⟨V, hV⟩ : ∃ V, V = wr.alloc (.cells #[.int .i64 kr, .int .i64 kp, .int .i64 ep, .int .i64 ef, .int .i64 er, .int .i64 rt, .int .i64 lf] 68) := ⟨_, rfl⟩
      have hbV : Below wr.heap.size wr V := by rw [hV]; exact (Below.refl _ _).alloc (Nat.le_refl _) _
      have hNV : Blk V wr.heap.size 68 (encI [kr, kp, ep, ef, er, rt, lf]) := by rw [hV]; exact Blk.new wr _ _
      have HV := Lib.hid hV
      have HSV := Lib.hid (HWS.out.more hbV)
      have x0 := hNV.cell (j := 0) rfl
      have x1 := hNV.cell (j := 1) rfl
      have x2 := hNV.cell (j := 2) rfl
      have x3 := hNV.cell (j := 3) rfl
      have x4 := hNV.cell (j := 4) rfl
      have x5 := hNV.cell (j := 5) rfl
      have x6 := hNV.cell (j := 6) rfl
      have xl := hNV.lt
      clear hV hbV hNV
      go_upto_region 7 with fail
      rw [← HV.out]
      clear HV d0 d1 d2 d3 d4 d5 d6 hyb hyb2 c0 cl HDW HWS
      have hszV : w.heap.size ≤ V.heap.size := HSV.out.b.size
      rcases hcases with ⟨hg, ht⟩ | ⟨hg, ht⟩
      · obtain ⟨q1, q2⟩ := gone_at HX.out hg
        obtain ⟨ba, cap5, w5, hrun, ho5, hg5, _⟩ := push_new (P := Try.prog) (t := 36) (ty := 36) Try.underlying36 info_key19 rfl (by decide) (by decide) HSV.out.ku [kr, kp] rfl (by rw [List.length_map, HLK.out]; exact HKM.out.1) hszV
        rw [List.length_map, HLK.out] at hrun ho5
        have HRUN : Hid ((Builtin.append_ #[36, 36] 36 #[.slice b1 k cc1, .slice (some ⟨V.heap.size, 0, none⟩) 1 1]).run Try.prog (V.alloc (.cells #[.int .i64 kr, .int .i64 kp] 30)) = .ok (.slice ba (k + 1) cap5) w5) := Lib.hid hrun
        have HS9 : Hid (WS w w5 (.slice ba (k + 1) cap5) (.slice b2 m cc2) (goneS (l.take (i + 1)) pg too) (leftS (l.take (i + 1)) pg too)) := Lib.hid (by
          rw [q1, q2]
          exact HSV.out.key (by rw [List.map_append]; exact ho5) hg5)
        have HK9 : Hid ((goneS (l.take (i + 1)) pg too).length = k + 1) := Lib.hid (by rw [q1, List.length_append, HLK.out]; rfl)
        have HM9 : Hid ((leftS (l.take (i + 1)) pg too).length = m) := Lib.hid (by rw [q2, HLM.out])
        clear hg q1 q2 hrun ho5 hg5 hszV
        rcases ht with t1 | ⟨t1, t2⟩ | ⟨t1, t2, rfl, t4⟩
        all_goals
          go_wp2_with (refine wpList_append_run rfl _ _ 36 rfl _ _ rfl rfl _ _ HRUN.out ?_)
          go_wp2
          go_roundw
          case rel => exact ⟨i + 1, k + 1, m, ba, b2, cap5, cc2, H3.out, rfl, rfl, by go_num, HK9, HM9, HS9⟩
          case measure => have := H3.out; simp [intOf]; omega
      · obtain ⟨q1, q2⟩ := left_at HX.out hg
        obtain ⟨ba, cap5, w5, hrun, ho5, hg5, _⟩ := push_new (P := Try.prog) (t := 26) (ty := 26) Try.underlying26 info_line19 rfl (by decide) (by decide) HSV.out.kv [kr, kp, ep, ef, er, rt, lf] rfl (by rw [List.length_map, HLM.out]; exact HKM.out.2) hszV
        rw [List.length_map, HLM.out] at hrun ho5
        have HRUN : Hid ((Builtin.append_ #[26, 26] 26 #[.slice b2 m cc2, .slice (some ⟨V.heap.size, 0, none⟩) 1 1]).run Try.prog (V.alloc (.cells #[.int .i64 kr, .int .i64 kp, .int .i64 ep, .int .i64 ef, .int .i64 er, .int .i64 rt, .int .i64 lf] 68)) = .ok (.slice ba (m + 1) cap5) w5) := Lib.hid hrun
        have HS9 : Hid (WS w w5 (.slice b1 k cc1) (.slice ba (m + 1) cap5) (goneS (l.take (i + 1)) pg too) (leftS (l.take (i + 1)) pg too)) := Lib.hid (by
          rw [q1, q2]
          exact HSV.out.line (by rw [List.map_append]; exact ho5) hg5)
        have HK9 : Hid ((goneS (l.take (i + 1)) pg too).length = k) := Lib.hid (by rw [q1, HLK.out])
        have HM9 : Hid ((leftS (l.take (i + 1)) pg too).length = m + 1) := Lib.hid (by rw [q2, List.length_append, HLM.out]; rfl)
        clear hg q1 q2 hrun ho5 hg5 hszV
        rcases ht with ⟨t1, t2, rfl, t4⟩ | ⟨t1, t2, rfl⟩
        all_goals
          go_wp2_with (refine wpList_append_run rfl _ _ 26 rfl _ _ rfl rfl _ _ HRUN.out ?_)
          go_wp2
          go_roundw
          case rel => exact ⟨i + 1, k, m + 1, b1, ba, cc1, cap5, H3.out, rfl, rfl, by go_num, HK9, HM9, HS9⟩
          case measure => have := H3.out; simp [intOf]; omega
    · have f0 : ¬ (i : Int) < (n : Int) := by omega
      obtain rfl : i = n := by omega
      have hl : l.take i = l := by rw [← HD.out.len, List.take_length]
      rw [hl] at HLK HLM HWS
      obtain ⟨a1, e1, q1, hr1, _, _, hb1, _⟩ := IRow.own HWS.out.ku
      injection q1 with q1 q1a q1b
      clear q1a q1b
      subst q1
      obtain ⟨a2, e2, q2, hr2, _, _, hb2, _⟩ := IRow.own HWS.out.kv
      injection q2 with q2 q2a q2b
      clear q2a q2b
      subst q2
      have hd := HDW.out.blk.lt
      have hkq : Kq [d] wr (wr.setCell ⟨d, 0, none⟩ (.slice b2 m cc2)) := (Kq.refl _ _).setCell d 0 _ (.inl (by simp))
      have HE : Hid (IRow 2 (wr.setCell ⟨d, 0, none⟩ (.slice b2 m cc2)) b1 ((goneS l pg too).map Ln.key) ∧ ∀ y, b1 = some y → w.heap.size ≤ y.block) := Lib.hid ⟨hr1.kq hkq (fun y e => by have := hb1 y e; have := HDL.out; simp; omega), hb1⟩
      have HF : Hid (DSE (wr.setCell ⟨d, 0, none⟩ (.slice b2 m cc2)) w.heap.size d (leftS l pg too)) := Lib.hid ⟨b2, cc2, ⟨by rw [HLM.out]; exact HDW.out.blk.set 0 _, rfl, hr2.kq hkq (fun y e => by have := hb2 y e; have := HDL.out; simp; omega), fun y e => by have := hb2 y e; have := HDL.out; omega⟩, hb2⟩
      have HK9 := Lib.hid ((Kq.of_below (T := [d]) HWS.out.b).trans hkq)
      have fz := HDW.out.blk.frozen 0
      clear hl hr1 hr2 hb1 hb2 hi hin hkq hd
      go_wp2
      go_ret
      exact ⟨⟨b1, ⟨cc1, by rw [HLK.out]; rfl⟩, HE⟩, HF.out, HK9.out⟩
end
end Go.Proofs.Ytcdiigdbjncpeaa.Sw
