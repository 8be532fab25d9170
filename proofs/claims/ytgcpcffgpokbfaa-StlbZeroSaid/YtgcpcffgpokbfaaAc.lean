/- The document's translations: one record more; without. -/
import Derived.Test.YtgcpcffgpokbfaaAb
namespace Go.Proofs.Ytgcpcffgpokbfaa.Sb
open Go.RowKit Ut
set_option maxRecDepth 100000
set_option linter.unusedVariables false
set_option maxHeartbeats 4000000

theorem kept_info : (Try.prog.info? 53).map (fun i => (i.zero, i.size, i.bytes)) = some (some (Rc.v ⟨0, 0, 0, 0, 0⟩), 5, 40) := by kernel_rfl
/-- one record more, out of a block of its own -/
theorem push_rec {w0 w : World} {B : Nat} {v : Value} {xs : List Rc} (hown : OwnT 5 w B 53 v (xs.map Rc.l)) (x : Rc) (hl : xs.length + 1 ≤ 1000000) (hB : B ≤ w.heap.size) (hb : Below B w0 w) :
    ∃ a cap w', (Builtin.append_ #[42, 42] 42 #[v, .slice (some ⟨w.heap.size, 0, none⟩) 1 1]).run Try.prog (w.alloc (.cells #[.int .i64 x.kr, .int .i64 x.kp, .int .i64 x.ep, .int .i64 x.ef, .int .i64 x.er] 53)) = .ok (.slice a (xs.length + 1) cap) w' ∧
      OwnT 5 w' B 53 (.slice a (xs.length + 1) cap) ((xs ++ [x]).map Rc.l) ∧ Below B w0 w' ∧ w.heap.size ≤ w'.heap.size := by
  obtain ⟨i, hi, hz, hs, hby⟩ := info_parts kept_info
  have hA : Below w.heap.size w (w.alloc (.cells #[.int .i64 x.kr, .int .i64 x.kp, .int .i64 x.ep, .int .i64 x.ef, .int .i64 x.er] 53)) := (Below.refl _ _).alloc (Nat.le_refl _) _
  have hO := hown.alloc (.cells #[.int .i64 x.kr, .int .i64 x.kp, .int .i64 x.ep, .int .i64 x.ef, .int .i64 x.er] 53)
  have hn : ∀ (j : Nat) (u : Value), (encI x.l)[j]? = some u → (w.alloc (.cells #[.int .i64 x.kr, .int .i64 x.kp, .int .i64 x.ep, .int .i64 x.ef, .int .i64 x.er] 53)).cell? ((⟨w.heap.size, 0, none⟩ : Addr).add j) = some u := fun j u hj => cells_new w (encI x.l) 53 j u hj
  obtain ⟨v', w', hrun, h2, h3, _, h5⟩ := run_append_own_at (P := Try.prog) _ B 42 42 53 i _ 5 40 Try.underlying42 hi hz hs hby rfl (by decide) v (xs.map Rc.l).length _ hO.1 ⟨w.heap.size, 0, none⟩ 1 1 (encI x.l) rfl hn
    (fun u hu => by obtain ⟨z, _, rfl⟩ := List.mem_map.1 hu; rfl) (by rw [List.length_map]; unfold maxLen; omega) (by rw [List.length_map]; omega) (Nat.le_trans hB hA.size)
  have hown2 : OwnT 5 w' B 53 v' ((xs ++ [x]).map Rc.l) := by
    refine ⟨?_, fun q hq => ?_⟩
    · rw [List.map_append, show List.map Rc.l [x] = [x.l] from rfl, encR_snoc, List.length_append]
      exact h2
    · obtain ⟨c, _, rfl⟩ := List.mem_map.1 hq
      rfl
  obtain ⟨a, cap, hv, _, _, _, _, _⟩ := RcRow.own hown2
  rw [List.length_append] at hv
  have hbw : Below B w0 w' := (hb.alloc hB _).grown h3 (Nat.le_trans hB hA.size) fun q hq => (World.ownsRow.lt hO.1 q hq).1
  subst hv
  exact ⟨a, cap, w', hrun, hown2, hbw, Nat.le_trans hA.size h3.size⟩
theorem ownT_base {k B B' : Nat} {w : World} {e : TypeId} {v : Value} {xs : List (List Int)} (h : OwnT k w B e v xs) (hB : B' ≤ B) : OwnT k w B' e v xs := by
  refine ⟨⟨h.1.1, ?_⟩, h.2⟩
  rcases h.1.2 with h0 | ⟨g, cap, cur, e1, e2, rest⟩
  · exact .inl h0
  · exact .inr ⟨g, cap, cur, e1, Nat.le_trans hB e2, rest⟩
theorem without_snoc {l : List Rc} {p q : Int} {i : Nat} {x : Rc} (hx : l[i]? = some x) : withoutL (l.take (i + 1)) p q = withoutL (l.take i) p q ++ (if x.is p q = true then [] else [x]) := by
  unfold withoutL
  rw [List.take_add_one, hx, List.filter_append]
  by_cases h : x.is p q = true
  · rw [if_pos h]; simp [h]
  · rw [if_neg h]; simp [h]
theorem without_len (l : List Rc) (p q : Int) : (withoutL l p q).length ≤ l.length := List.length_filter_le _ _

section
variable {g n cap : Nat} {room : Int} {a : Option Addr} {l : List Rc}
theorem refWithout_any (p q : Int) (w : World) (h : DT w g room a n cap l) (hn : n ≤ 100000) :
    Calls Try.prog 30 #[.pointer (some ⟨g, 0, none⟩), .agg #[.int .i64 p, .int .i64 q]] w fun e w' => ∃ b c, e = .returned (.slice b (withoutL l p q).length c) ∧ Hid (OwnT 5 w' w.heap.size 53 (.slice b (withoutL l p q).length c) ((withoutL l p q).map Rc.l)) ∧ Below w.heap.size w w' := by
  obtain ⟨U, hU⟩ : ∃ U, U = w.alloc (.cells #[.int .i64 p, .int .i64 q] 38) := ⟨_, rfl⟩
  have hB : Below w.heap.size w U := by rw [hU]; exact (Below.refl _ _).alloc (Nat.le_refl _) _
  have hk : Blk U w.heap.size 38 [.int .i64 p, .int .i64 q] := by rw [hU]; exact Blk.new w _ [.int .i64 p, .int .i64 q]
  have HU := Lib.hid hU
  have HB := Lib.hid hB
  have HK := Lib.hid hk
  have HD := Lib.hid h
  have hsz : U.heap.size = w.heap.size + 1 := by rw [hU]; simp
  have HSZ := Lib.hid hsz
  clear hU hB hk h hsz
  go_enter Try.func30, Try.ntmps30
  go_upto_region 1 with fail
  rw [← HU.out]
  clear HU
  go_wp2
  go_loopw [5, 6] (fun v j wr => ∃ (i : Nat) (b : Option Addr) (c : Nat), i ≤ n ∧ j = .int .i64 i ∧ v = .slice b (withoutL (l.take i) p q).length c ∧ Hid (OwnT 5 wr (w.heap.size + 1) 53 (.slice b (withoutL (l.take i) p q).length c) ((withoutL (l.take i) p q).map Rc.l)) ∧ Hid (Below (w.heap.size + 1) U wr)) (fun _ j _ => n - (intOf j).toNat)
  case atStart => exact ⟨0, none, 0, Nat.zero_le _, rfl, rfl, Lib.hid (OwnT.nil _ _ _ _), Lib.hid (Below.refl _ _)⟩
  case round =>
    obtain ⟨i, b, c, hi, rfl, rfl, HO, HW⟩ := hrel
    have hbw : Below w.heap.size w wr := HB.out.trans (HW.out.mono (Nat.le_succ _))
    have HDW := Lib.hid (HD.out.more hbw)
    have c0 := HDW.out.cell0
    have cl := HDW.out.blk.lt
    have hws : w.heap.size + 1 ≤ wr.heap.size := by have := HW.out.size; have := HSZ.out; omega
    have HWS := Lib.hid hws
    clear hbw hws
    by_cases hin : i < n
    · have f0 : (i : Int) < (n : Int) := by omega
      have f2 : (0 : Int) ≤ (i : Int) := by omega
      have hx : l[i]? = some (l[i]'(by rw [HD.out.len]; exact hin)) := List.getElem?_eq_getElem _
      obtain ⟨x, hxx⟩ : ∃ x, l[i]'(by rw [HD.out.len]; exact hin) = x := ⟨_, rfl⟩
      rw [hxx] at hx
      obtain ⟨y, rfl, hyb, d0, d1, d2, d3, d4⟩ := HDW.out.row.at_ hx
      have q0 := HK.out.below HW.out (Nat.lt_succ_self _)
      have k0 := q0.cell (j := 0) rfl
      have k1 := q0.cell (j := 1) rfl
      have kl := q0.lt
      have HS := Lib.hid (without_snoc (p := p) (q := q) hx)
      have H3 := Lib.hid hin
      have HXL : Hid ((withoutL (l.take i) p q).length + 1 ≤ 1000000) := Lib.hid (by have := without_len (l.take i) p q; rw [List.length_take] at this; omega)
      clear hx hxx q0 hi hin
      have hcases := is_cases x p q
      obtain ⟨kr, kp, ep, ef, er⟩ := x
      dsimp only at hcases d0 d1 d2 d3 d4
      generalize withoutL (l.take i) p q = xs at HO HS HXL ⊢
      rcases hcases with ⟨hy, h1, h2⟩ | ⟨hno, h1⟩ | ⟨hno, h1, h2⟩
      · subst h1 h2
        rw [if_pos hy, List.append_nil] at HS
        clear hy
        go_upto_region 5 with fail
        go_quiet (fail)
        go_wp2
        go_roundw
        case rel => exact ⟨i + 1, b, c, H3.out, by go_num, by rw [HS.out], by rw [HS.out]; exact HO, Lib.hid (below_drewN HW.out _)⟩
        case measure => have := H3.out; simp [intOf]; omega
      · rw [if_neg (by simp [hno])] at HS
        clear hno
        go_upto_region 5 with fail
        go_quiet (fail)
        obtain ⟨b2, c2, w5, hrun, ho5, hb5, hz5⟩ := push_rec (w0 := U) (w := wr.drewN nq) HO.out ⟨kr, kp, ep, ef, er⟩ HXL.out HWS.out (below_drewN HW.out nq)
        have HRUN := Lib.hid hrun
        have HO5 := Lib.hid ho5
        have HB5 := Lib.hid hb5
        clear hrun ho5 hb5 hz5
        dsimp only at HRUN
        go_wp2_with (refine wpList_append_run rfl _ _ 42 rfl _ _ rfl rfl _ _ HRUN.out ?_)
        go_wp2
        go_roundw
        case rel => exact ⟨i + 1, b2, c2, H3.out, by go_num, by rw [HS.out, List.length_append]; rfl, by rw [HS.out, List.length_append]; exact HO5, HB5⟩
        case measure => have := H3.out; simp [intOf]; omega
      · rw [if_neg (by simp [hno])] at HS
        clear hno
        subst h1
        go_upto_region 5 with fail
        go_quiet (fail)
        obtain ⟨b2, c2, w5, hrun, ho5, hb5, hz5⟩ := push_rec (w0 := U) (w := wr.drewN nq) HO.out ⟨kr, kp, ep, ef, er⟩ HXL.out HWS.out (below_drewN HW.out nq)
        have HRUN := Lib.hid hrun
        have HO5 := Lib.hid ho5
        have HB5 := Lib.hid hb5
        clear hrun ho5 hb5 hz5
        dsimp only at HRUN
        go_wp2_with (refine wpList_append_run rfl _ _ 42 rfl _ _ rfl rfl _ _ HRUN.out ?_)
        go_wp2
        go_roundw
        case rel => exact ⟨i + 1, b2, c2, H3.out, by go_num, by rw [HS.out, List.length_append]; rfl, by rw [HS.out, List.length_append]; exact HO5, HB5⟩
        case measure => have := H3.out; simp [intOf]; omega
    · have f0 : ¬ (i : Int) < (n : Int) := by omega
      obtain rfl : i = n := by omega
      have hl : withoutL (l.take i) p q = withoutL l p q := by rw [← HD.out.len, List.take_length]
      rw [hl] at HO ⊢
      have HB9 := Lib.hid (HB.out.trans (HW.out.mono (Nat.le_succ _)))
      have HO9 : Hid (OwnT 5 wr w.heap.size 53 (.slice b (withoutL l p q).length c) ((withoutL l p q).map Rc.l)) := Lib.hid (ownT_base HO.out (Nat.le_succ _))
      clear hi hin hl HO
      go_wp2
      go_ret
      exact ⟨b, c, rfl, HO9, HB9.out⟩
end
end Go.Proofs.Ytgcpcffgpokbfaa.Sb
