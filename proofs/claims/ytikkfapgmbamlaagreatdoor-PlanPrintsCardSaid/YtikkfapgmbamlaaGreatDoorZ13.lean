/- Several texts in one: El -/
import Derived.Test.YtikkfapgmbamlaaGreatDoorZ11
import Derived.Deep.Cut
import Derived.Deep.DeepCutAuto
import Derived.Deep.CutBlock
section
/- plan: the walk of read. -/
namespace Go.Proofs.YtikkfapgmbamlaaGreatDoor.Pl
open Go.RowKit Ut
set_option linter.unusedVariables false

theorem rec_none (l : List UInt8) (hl : l.length ≤ 1099511627776) (h : recL l = none) (w : World) (hK : Kinds w) :
    Calls Tryz.prog 55 #[.string (tb l)] w fun e w' => e = .returned (.tuple #[.agg #[.int .i64 0, .int .i64 0, .int .i64 0, .int .i64 0], .bool false]) ∧ Below w.heap.size w w' := by
  have := recordOf_any (tb l) (by rw [tb_size]; exact hl) _ w (Nat.le_refl _) hK
  rw [tb_list, h] at this
  exact this
theorem rec_some (l : List UInt8) (hl : l.length ≤ 1099511627776) (r : Nat) (v : List Int) (h : recL l = some (r, v)) (w : World) (hK : Kinds w) :
    ∃ a0 a1 a2, v = [a0, a1, a2].take (kf r).length ∧ Calls Tryz.prog 55 #[.string (tb l)] w fun e w' => e = .returned (.tuple #[.agg #[.int .i64 r, .int .i64 a0, .int .i64 a1, .int .i64 a2], .bool true]) ∧ Below w.heap.size w w' := by
  have := recordOf_any (tb l) (by rw [tb_size]; exact hl) _ w (Nat.le_refl _) hK
  rw [tb_list, h] at this
  refine ⟨_, _, _, ?_, this⟩
  obtain ⟨_, hr, hlen⟩ := rec_back h
  have h3 : (kf r).length ≤ 3 := by
    match r, hr with
    | 0, _ => decide
    | 1, _ => decide
    | 2, _ => decide
    | 3, _ => decide
    | 4, _ => decide
    | 5, _ => decide
    | 6, _ => decide
    | r + 7, h => omega
  rw [← hlen]
  match v, hlen with
  | [], _ => rfl
  | [_], _ => rfl
  | [_, _], _ => rfl
  | [_, _, _], _ => rfl
  | _ :: _ :: _ :: _ :: _, hl => simp at hl; omega
theorem piece_len (c : UInt8) (l : List UInt8) (k : Nat) : ((cutL c l).1.getD k []).length ≤ l.length := by
  have h := cutL_join c l
  generalize cutL c l = q at h ⊢
  obtain ⟨ps, q2⟩ := q
  rw [h, List.length_append]
  have key : ∀ (ps : List (List UInt8)) (k : Nat), (ps.getD k []).length ≤ ((ps.map (· ++ [c])).flatten).length := by
    intro ps
    induction ps with
    | nil => intro k; simp
    | cons p ps ih =>
      intro k
      cases k with
      | zero => simp <;> omega
      | succ k =>
        have := ih k
        simp only [List.getD_cons_succ, List.map_cons, List.flatten_cons, List.length_append]
        omega
  have := key ps k
  simp only at this ⊢
  omega

set_option maxHeartbeats 4000000 in
set_option maxRecDepth 100000 in
theorem read_any (s : ByteArray) (hs : s.size ≤ 16384) (B : Nat) (w : World) (hB : B ≤ w.heap.size) (hB0 : 0 < B) (hK : Kinds w) :
    Calls Tryz.prog 20 #[.string s] w fun e w' => ReadPost (readL s.data.toList) B e w' ∧ Below B w w' := by
  have hx := cut_any s 10 (by decide) (by omega)
  have HL := Lib.hid (piece_len 10 s.data.toList)
  obtain ⟨q, hq⟩ : ∃ q, readL s.data.toList = q := ⟨_, rfl⟩
  have HQ : Hid (q = match runL (cutL 10 s.data.toList).1 pc0 (-1) 0 with
    | .inl n => .inl n
    | .inr c => if (cutL 10 s.data.toList).2 = [] ∧ (cutL 10 s.data.toList).1 ≠ [] then .inr c else .inl ((cutL 10 s.data.toList).1.length + 1)) := Lib.hid hq.symm
  rw [hq]
  clear hq
  obtain ⟨c, hc⟩ : ∃ c, cutL 10 s.data.toList = c := ⟨_, rfl⟩
  rw [hc] at hx HL HQ
  clear hc
  obtain ⟨ls, rest⟩ := c
  simp only at hx
  have HLL : Hid (∀ k, (ls.getD k []).length ≤ 1099511627776) := Lib.hid fun k => by
    have h1 := HL.out k
    have h2 : s.data.toList.length = s.size := by simp
    have h3 : (ls.getD k []).length ≤ s.data.toList.length := h1
    omega
  clear HL
  obtain ⟨n, hn⟩ : ∃ n, ls.length = n := ⟨_, rfl⟩
  rw [hn] at hx
  have HN := Lib.hid hn
  have HK := Lib.hid hK
  clear hn hK
  go_enter Tryz.func20, Tryz.ntmps20
  go_wp2_with (go_at_call 54; refine (hx _ _ (Nat.le_refl _)).mono ?_; rintro e w2 ⟨v, rfl, hown, hpl, hb1⟩; clear hx; obtain ⟨a, cap, rfl, hcap, hcm, hrow⟩ := OwnS.row hown)
  obtain ⟨w1, hw1⟩ : ∃ w1, (w.alloc (.cells #[.int .i64 0, .slice none 0 0, .slice none 0 0, .slice none 0 0, .slice none 0 0, .slice none 0 0, .int .i64 0, .int .i64 0] 28)).alloc (.cells #[.int .i64 0, .slice none 0 0, .slice none 0 0, .slice none 0 0, .slice none 0 0, .slice none 0 0, .int .i64 (-1), .int .i64 0] 28) = w1 := ⟨_, rfl⟩
  rw [hw1] at hb1 hown
  have hsw : w1.heap.size = w.heap.size + 2 := by rw [← hw1]; simp
  have hbw1 : Below w.heap.size w w1 := hw1 ▸ ((Below.refl _ _).alloc (Nat.le_refl _) _).alloc (by simp) _
  have hz1 : w1.heap[w.heap.size]? = some (.cells zeroL.toArray 28 (0, 0)) := by
    rw [← hw1, Below.heap_alloc _ _ _ (by simp)]; exact heap_alloc_new _ _
  have hc1 : w1.heap[w.heap.size + 1]? = some (.cells [.int .i64 0, .slice none 0 0, .slice none 0 0, .slice none 0 0, .slice none 0 0, .slice none 0 0, .int .i64 (-1), .int .i64 0].toArray 28 (0, 0)) := hw1 ▸ heap_alloc2_new _ _ _
  have hz2 := (hb1.block _ (by omega)).trans hz1
  have hc2 := (hb1.block _ (by omega)).trans hc1
  have hbx : Box w2 B (w.heap.size + 1) pc0 := ⟨_, _, _, _, _, hc2, by omega, OwnT.nil _ _ _ _, OwnT.nil _ _ _ _, OwnT.nil _ _ _ _, OwnT.nil _ _ _ _, OwnT.nil _ _ _ _⟩
  have hkk : Kinds w2 := (HK.out.below hbw1 HK.out.lt).below hb1 (by omega)
  have hBB : Below B w w2 := (hbw1.mono hB).trans (hb1.mono (by omega))
  have HOW := Lib.hid hown
  have hsw2 : w1.heap.size ≤ w2.heap.size := hb1.size
  have HBX := Lib.hid hbx
  have HZ := Lib.hid hz2
  have HKK := Lib.hid hkk
  clear hw1 hbw1 hz1 hc1 hz2 hc2 hbx hkk hown hrow hb1
  go_loopw [7, 20] (fun last i wr => ∃ (k : Nat) (c : PC) (lz : Int), k ≤ n ∧ i = .int .i64 k ∧ last = .int .i64 lz ∧ -1 ≤ lz ∧ lz < 7 ∧ runL ls pc0 (-1) 0 = runL (ls.drop k) c lz k ∧ c.size ≤ k ∧ Box wr B (w.heap.size + 1) c ∧ wr.heap[w.heap.size]? = some (.cells zeroL.toArray 28 (0, 0)) ∧ OwnS wr w1.heap.size 9 (.slice a n cap) n ls ∧ Kinds wr ∧ Below B w wr ∧ w1.heap.size ≤ wr.heap.size) (fun _ i _ => n - (intOf i).toNat)
  case atStart => exact ⟨0, pc0, -1, Nat.zero_le _, rfl, rfl, by omega, by omega, rfl, Nat.le_refl _, HBX.out, HZ.out, HOW.out, HKK.out, hBB, hsw2⟩
  case round =>
    clear hBB
    obtain ⟨k, c, lz, hk, rfl, rfl, hl1, hl2, hrun, hcs, hbx, hzz, hown, hkk, hBB, hsz1⟩ := hrel
    have HRUN := Lib.hid hrun
    have HZZ := Lib.hid hzz
    have HOWN := Lib.hid hown
    have HKW := Lib.hid hkk
    have HBW := Lib.hid hbx
    have hzl := (Array.getElem?_eq_some_iff.1 hzz).1
    have hBw := Nat.le_trans hB hBB.size
    by_cases hlt : k < n
    · obtain ⟨a', cap', hv', _, _, hrow⟩ := OwnS.row hown
      obtain ⟨rfl, _, rfl⟩ : a = a' ∧ n = n ∧ cap = cap' := by
        injection hv' with e1 e2 e3
        exact ⟨e1, rfl, e3⟩
      obtain ⟨ad, rfl, had, hc⟩ := hrow.at k hlt
      have hll := HLL.out k
      obtain ⟨l, hl⟩ : ∃ l, ls.getD k [] = l := ⟨_, rfl⟩
      rw [hl] at hc hll
      have HSTEP := Lib.hid (HRUN.out.trans (runL_drop (by have := HN.out; omega) c lz))
      have HSL := Lib.hid hl
      clear hrun hzz hown hbx hl hrow hv'
      cases hr : recL l with
      | none =>
        have HE : Hid (runL ls pc0 (-1) 0 = .inl (k + 1)) := Lib.hid (by rw [HSTEP.out, HSL.out, hr])
        have hv := rec_none l hll hr wr hkk
        clear hr hkk
        generalize tb l = tl at hc hv
        go_upto_region 9 with (go_at_call 55; refine hv.mono ?_; rintro e w3 ⟨rfl, hb3⟩; have hz3 := (hb3.block _ hzl).trans HZZ.out; have hlt3 : w.heap.size < w3.heap.size := (Array.getElem?_eq_some_iff.1 hz3).1; have hz4 := (Below.heap_alloc w3 (.cells #[.int .i64 0, .int .i64 0, .int .i64 0, .int .i64 0] 46) _ hlt3).trans hz3; have hb4 := (hBB.trans (hb3.mono hBw)).alloc (Nat.le_trans hBw hb3.size) (.cells #[.int .i64 0, .int .i64 0, .int .i64 0, .int .i64 0] 46); have HZ4 := Lib.hid hz4; clear hv hz3 hz4)
        refine wp_region_lit ?_
        refine wpList_build rfl 28 #[] rfl (by kernel_rfl) ?_
        refine wpList_value rfl (.int .i64 k) (by kernel_rfl) ?_
        refine wpList_value rfl (.int .i64 (IntKind.i64.wrap ((k : Int) + 1))) (by kernel_rfl) ?_
        refine wpList_store_row rfl 28 (.tmp 2) (.tmp 39) rfl w.heap.size zeroL.toArray rfl (by kernel_rfl) 28 _ HZ4.out (by kernel_rfl) rfl (by kernel_rfl) ?_
        have hrow4 := setRow_heap _ w.heap.size _ zeroL.toArray _ _ HZ4.out
        have hbe := below_setRow hb4 hB zeroL.toArray
        have HR4 := Lib.hid hrow4
        clear hrow4
        go_wp2
        have hqe : q = .inl (k + 1) := by rw [HQ.out, HE.out]
        exact bodyPost_ret (v := .tuple #[zeroC, .int .i64 ((k : Int) + 1)]) (results_read _ _ w.heap.size zeroL.toArray _ rfl rfl HR4.out (by kernel_rfl)) rfl ⟨by rw [hqe]; simp [ReadPost], hbe⟩
      | some rv =>
        obtain ⟨r, v⟩ := rv
        obtain ⟨a0, a1, a2, hva, hv⟩ := rec_some l hll r v hr wr hkk
        have hr7 := (rec_back hr).2.1
        have hfo := follows_any r hr7 lz hl1 hl2
        cases hf : folL r lz
        · have HE : Hid (runL ls pc0 (-1) 0 = .inl (k + 1)) := Lib.hid (by rw [HSTEP.out, HSL.out, hr]; simp only [hf]; rfl)
          have hfo2 := fun W hW => hfo W hW
          rw [hf] at hfo2
          clear hr hva hf hfo
          generalize tb l = tl at hc hv
          go_upto_region 9 with (first | (go_at_call 55; refine hv.mono ?_; rintro e w3 ⟨rfl, hb3⟩; have hz3 := (hb3.block _ hzl).trans HZZ.out; have hlt3 : w.heap.size < w3.heap.size := (Array.getElem?_eq_some_iff.1 hz3).1; have hz4 := (Below.heap_alloc w3 (.cells #[.int .i64 r, .int .i64 a0, .int .i64 a1, .int .i64 a2] 46) _ hlt3).trans hz3; have hb4 := (hBB.trans (hb3.mono hBw)).alloc (Nat.le_trans hBw hb3.size) (.cells #[.int .i64 r, .int .i64 a0, .int .i64 a1, .int .i64 a2] 46); have HZ4 := Lib.hid hz4; have hk4 := ((HKW.out.below hb3 HKW.out.lt).alloc (.cells #[.int .i64 r, .int .i64 a0, .int .i64 a1, .int .i64 a2] 46)); have HK4 := Lib.hid hk4; clear hv hz3 hz4 hk4) | (go_at_call 56; refine (hfo2 _ HK4.out).mono ?_; rintro e w5 ⟨rfl, rfl⟩))
          refine wp_region_lit ?_
          refine wpList_build rfl 28 #[] rfl (by kernel_rfl) ?_
          refine wpList_value rfl (.int .i64 k) (by kernel_rfl) ?_
          refine wpList_value rfl (.int .i64 (IntKind.i64.wrap ((k : Int) + 1))) (by kernel_rfl) ?_
          refine wpList_store_row rfl 28 (.tmp 2) (.tmp 39) rfl w.heap.size zeroL.toArray rfl (by kernel_rfl) 28 _ HZ4.out (by kernel_rfl) rfl (by kernel_rfl) ?_
          have hrow4 := setRow_heap _ w.heap.size _ zeroL.toArray _ _ HZ4.out
          have hbe := below_setRow hb4 hB zeroL.toArray
          have HR4 := Lib.hid hrow4
          clear hrow4
          go_wp2
          have hqe : q = .inl (k + 1) := by rw [HQ.out, HE.out]
          exact bodyPost_ret (v := .tuple #[zeroC, .int .i64 ((k : Int) + 1)]) (results_read _ _ w.heap.size zeroL.toArray _ rfl rfl HR4.out (by kernel_rfl)) rfl ⟨by rw [hqe]; simp [ReadPost], hbe⟩
        · have HE : Hid (runL ls pc0 (-1) 0 = runL (ls.drop (k + 1)) (c.put r v) r (k + 1)) := Lib.hid (by rw [HSTEP.out, HSL.out, hr]; simp only [hf]; rfl)
          have hfo2 := fun W hW => hfo W hW
          rw [hf] at hfo2
          have HVA := Lib.hid hva
          have hcs3 : c.size ≤ 1000000 := by omega
          clear hr hva hf hfo
          generalize tb l = tl at hc hv
          go_wp2_with (first | (go_at_call 55; refine hv.mono ?_; rintro e w3 ⟨rfl, hb3⟩; have hz3 := (hb3.block _ hzl).trans HZZ.out; have hlt3 : w.heap.size < w3.heap.size := (Array.getElem?_eq_some_iff.1 hz3).1; have hal : Below w3.heap.size w3 (w3.alloc (.cells #[.int .i64 r, .int .i64 a0, .int .i64 a1, .int .i64 a2] 46)) := (Below.refl _ _).alloc (Nat.le_refl _) _; have HZ4 := Lib.hid ((hal.block _ hlt3).trans hz3); have HR4 := Lib.hid (heap_alloc_new w3 (.cells #[.int .i64 r, .int .i64 a0, .int .i64 a1, .int .i64 a2] 46)); have hb4 := hBB.trans ((hb3.mono hBw).trans (hal.mono (Nat.le_trans hBw hb3.size))); have HK4 := Lib.hid (HK.out.below hb4 hB0); have HX4 := Lib.hid ((HBW.out.below hb3).below hal); have HO4 := Lib.hid ((HOWN.out.below hb3).below hal); have hs4 : B ≤ (w3.alloc (.cells #[.int .i64 r, .int .i64 a0, .int .i64 a1, .int .i64 a2] 46)).heap.size := (Nat.le_trans hBw (Nat.le_trans hb3.size hal.size)); have hsz3 : wr.heap.size ≤ w3.heap.size := hb3.size; have hs14 : w1.heap.size ≤ (w3.alloc (.cells #[.int .i64 r, .int .i64 a0, .int .i64 a1, .int .i64 a2] 46)).heap.size := (Nat.le_trans hsz1 (Nat.le_trans hb3.size hal.size)); clear hv hz3 hal hb3) | (go_at_call 56; refine (hfo2 _ HK4.out).mono ?_; rintro e w5 ⟨rfl, rfl⟩) | (go_at_call 57; refine (put_any r hr7 a0 a1 a2 c (w.heap.size + 1) B _ hs4 HX4.out hcs3).mono ?_; rintro e w5 ⟨rfl, hbx5, hb5, hks5⟩; obtain ⟨cR, _⟩ := box_cell (cs := [.int .i64 r, .int .i64 a0, .int .i64 a1, .int .i64 a2]) (hks5.2 _ _ _ _ (fun h => by rw [h] at hsz3; omega) (.inr (.inr rfl)) HR4.out) 0 _ rfl; have HKS := Lib.hid hks5; have HX5 := Lib.hid hbx5; clear hks5 hbx5))
          go_roundw
          case rel =>
            have hks := HKS.out
            have hb6 := hb4.trans hb5
            have hbn : ∀ cs f, (w3.alloc (.cells #[.int .i64 r, .int .i64 a0, .int .i64 a1, .int .i64 a2] 46)).heap[w.heap.size + 1]? ≠ some (Obj.cells cs 9 f) := fun cs f h => by
              obtain ⟨_, _, _, _, _, hx⟩ := HX4.out
              rw [hx.box] at h
              injection h with h
              injection h with _ h
              revert h; decide
            refine ⟨k + 1, c.put r v, r, by omega, by go_num, rfl, by omega, by omega, HE.out, ?_, ?_, hks.2 _ _ _ _ (by omega) (.inr (.inl rfl)) HZ4.out, KeptS.ownS HO4.out hks hbn, HK.out.below hb6 hB0, hb6, Nat.le_trans hs14 hks.1⟩
            · have := PC.size_put c r v; omega
            · rw [HVA.out]; exact HX5.out
          case measure => simp [intOf]; omega
    · have hkn : k = n := by omega
      subst hkn
      have HEND : Hid (runL ls pc0 (-1) 0 = .inr c) := Lib.hid (HRUN.out.trans (runL_end (by have := HN.out; omega) c lz))
      obtain ⟨vg, vr, vp, vn, vs, hbp⟩ := hbx
      have HBP := Lib.hid hbp
      clear hrun hzz hown hbp
      by_cases hdone : rest = [] ∧ k ≠ 0
      · have hq : q = .inr c := by
          rw [HQ.out, HEND.out]
          simp only
          rw [if_pos ⟨hdone.1, fun h => hdone.2 (by have := HN.out; rw [h] at this; exact this.symm)⟩]
        have ht : ((tb rest).toList == []) = true := by rw [tb_empty]; simp [hdone.1]
        have hk0 : ¬ ((k : Nat) : Int) = 0 := by have := hdone.2; omega
        have HQE := Lib.hid hq
        clear hq hdone
        generalize tb rest = tr at ht ⊢
        go_upto_region 15 with fail
        refine wp_region_lit ?_
        refine wpList_load_row rfl 28 _ rfl (w.heap.size + 1) rfl 28 _ (0, 0) _ HBP.out.box Tryz.underlying28 rfl (by kernel_rfl) ?_
        refine wpList_store_row rfl 28 (.tmp 2) (.tmp 58) rfl w.heap.size #[.int .i64 c.cats, vg, vr, vp, vn, vs, .int .i64 c.gate, .int .i64 c.quota] rfl rfl 28 _ HZZ.out (by kernel_rfl) rfl (cfg_one HBP.out) ?_
        have hrow4 := setRow_heap _ w.heap.size _ #[.int .i64 c.cats, vg, vr, vp, vn, vs, .int .i64 c.gate, .int .i64 c.quota] _ _ HZZ.out
        have hbe := below_setRow hBB hB #[.int .i64 c.cats, vg, vr, vp, vn, vs, .int .i64 c.gate, .int .i64 c.quota]
        have hrs : RowsP wr B c vg vr vp vn vs := ⟨HBP.out.og, HBP.out.or, HBP.out.op, HBP.out.on, HBP.out.os⟩
        have hrs2 := Lib.hid (hrs.setRow (new := #[.int .i64 c.cats, vg, vr, vp, vn, vs, .int .i64 c.gate, .int .i64 c.quota]) HZZ.out)
        have HR4 := Lib.hid hrow4
        clear hrow4 hrs
        go_wp2
        exact bodyPost_ret (v := .tuple #[cfgV c vg vr vp vn vs, .int .i64 0]) (results_read _ _ w.heap.size _ _ rfl rfl HR4.out (by kernel_rfl)) rfl ⟨by rw [HQE.out]; exact ⟨_, _, _, _, _, rfl, hrs2.out⟩, hbe⟩
      · have hq : q = .inl (k + 1) := by
          rw [HQ.out, HEND.out]
          simp only
          rw [if_neg (fun h => hdone ⟨h.1, fun h0 => h.2 (List.length_eq_zero_iff.1 (by have h1 : ls.length = k := HN.out; show ls.length = 0; omega))⟩)]
          show (Sum.inl (ls.length + 1) : Nat ⊕ PC) = _
          rw [show ls.length = k from HN.out]
        have HQE := Lib.hid hq
        have hkb : k ≤ 16384 := by omega
        clear hq
        by_cases hr0 : rest = []
        · have ht : ((tb rest).toList == []) = true := by rw [tb_empty]; simp [hr0]
          have hk0 : ((k : Nat) : Int) = 0 := by
            have : k = 0 := by
              rcases Nat.eq_zero_or_pos k with h | h
              · exact h
              · exact absurd ⟨hr0, by omega⟩ hdone
            omega
          have HK0 : Hid (k = 0) := Lib.hid (by omega)
          clear hdone hr0
          generalize tb rest = tr at ht ⊢
          go_upto_region 14 with fail
          refine wp_region_lit ?_
          refine wpList_build rfl 28 #[] rfl (by kernel_rfl) ?_
          refine wpList_value rfl (.slice a k cap) (by kernel_rfl) ?_
          refine wpList_value rfl (.int .i64 k) (by kernel_rfl) ?_
          refine wpList_value rfl (.int .i64 (IntKind.i64.wrap ((k : Int) + 1))) (by kernel_rfl) ?_
          refine wpList_store_row rfl 28 (.tmp 2) (.tmp 54) rfl w.heap.size zeroL.toArray rfl (by kernel_rfl) 28 _ HZZ.out (by kernel_rfl) rfl (by kernel_rfl) ?_
          have hrow4 := setRow_heap _ w.heap.size _ zeroL.toArray _ _ HZZ.out
          have hbe := below_setRow hBB hB zeroL.toArray
          have HR4 := Lib.hid hrow4
          clear hrow4
          go_wp2
          exact bodyPost_ret (v := .tuple #[zeroC, .int .i64 1]) (results_read _ _ w.heap.size zeroL.toArray _ rfl rfl HR4.out (by kernel_rfl)) rfl ⟨by rw [HQE.out, HK0.out]; rfl, hbe⟩
        · have ht : ((tb rest).toList == []) = false := by rw [tb_empty]; simp [hr0]
          clear hdone hr0
          generalize tb rest = tr at ht ⊢
          go_upto_region 14 with fail
          refine wp_region_lit ?_
          refine wpList_build rfl 28 #[] rfl (by kernel_rfl) ?_
          refine wpList_value rfl (.slice a k cap) (by kernel_rfl) ?_
          refine wpList_value rfl (.int .i64 k) (by kernel_rfl) ?_
          refine wpList_value rfl (.int .i64 (IntKind.i64.wrap ((k : Int) + 1))) (by kernel_rfl) ?_
          refine wpList_store_row rfl 28 (.tmp 2) (.tmp 54) rfl w.heap.size zeroL.toArray rfl (by kernel_rfl) 28 _ HZZ.out (by kernel_rfl) rfl (by kernel_rfl) ?_
          have hrow4 := setRow_heap _ w.heap.size _ zeroL.toArray _ _ HZZ.out
          have hbe := below_setRow hBB hB zeroL.toArray
          have HR4 := Lib.hid hrow4
          clear hrow4
          go_wp2
          exact bodyPost_ret (v := .tuple #[zeroC, .int .i64 ((k : Int) + 1)]) (results_read _ _ w.heap.size zeroL.toArray _ rfl rfl HR4.out (by kernel_rfl)) rfl ⟨by rw [HQE.out]; simp [ReadPost], hbe⟩
end Go.Proofs.YtikkfapgmbamlaaGreatDoor.Pl
end
