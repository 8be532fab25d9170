/- The document's translations: Narrow. -/
import Derived.Test.YtgcpcffgpokbfaaAg
namespace Go.Proofs.Ytgcpcffgpokbfaa.Sb
open Go.RowKit Ut
set_option maxRecDepth 100000
set_option linter.unusedVariables false
set_option maxHeartbeats 4000000

theorem ownT_kq {k B : Nat} {w w' : World} {e : TypeId} {v : Value} {xs : List (List Int)} {T : List Nat} (h : OwnT k w B e v xs) (K : Kq T w w') (hT : ∀ q, v.ownBlock = some q → q ∉ T) : OwnT k w' B e v xs := by
  refine ⟨⟨h.1.1, ?_⟩, h.2⟩
  rcases h.1.2 with h0 | ⟨g, cap, cur, rfl, hB, hg, r⟩
  · exact .inl h0
  · exact .inr ⟨g, cap, cur, rfl, hB, (K.block g (Array.getElem?_eq_some_iff.1 hg).1 (hT g rfl)).trans hg, r⟩
section
variable {g n cap : Nat} {room : Int} {a : Option Addr} {l : List Rc}
theorem refNarrow_any (pg : Int) (w : World) (h : DT w g room a n cap l) (hn : n ≤ 100000) :
    Calls Try.prog 18 #[.pointer (some ⟨g, 0, none⟩), .int .i64 pg] w fun e w' => e = .returned (.int .i64 (narN l pg : Nat)) ∧ (∃ b c, DT w' g room b n c (narL l pg) ∧ ∀ y, b = some y → w.heap.size ≤ y.block) ∧ Kq [g] w w' := by
  have HD := Lib.hid h
  have HG := Lib.hid h.blk.lt
  have hn0 : (n : Int) ≤ 100000 := by omega
  have HLN := Lib.hid h.len
  clear h hn
  go_enter Try.func18, Try.ntmps18
  go_wp2
  go_loopw [5, 6, 7] (fun u v j wr => ∃ (i k : Nat) (b : Option Addr) (c : Nat), i ≤ n ∧ k ≤ i ∧ u = .int .i64 k ∧ j = .int .i64 i ∧ v = .slice b i c ∧ Hid (narN (l.take i) pg = k) ∧ Hid ((narL (l.take i) pg).length = i) ∧ Hid (OwnT 5 wr w.heap.size 53 (.slice b i c) ((narL (l.take i) pg).map Rc.l)) ∧ Hid (Below w.heap.size w wr)) (fun _ _ j _ => n - (intOf j).toNat)
  case atStart => exact ⟨0, 0, none, 0, Nat.zero_le _, Nat.zero_le _, rfl, rfl, rfl, Lib.hid rfl, Lib.hid rfl, Lib.hid (OwnT.nil _ _ _ _), Lib.hid (Below.refl _ _)⟩
  case round =>
    obtain ⟨i, k, b, c, hi, hki, rfl, rfl, rfl, HNK, HLK, HO, HW⟩ := hrel
    have HDW := Lib.hid (HD.out.more HW.out)
    have c0 := HDW.out.cell0
    have cl := HDW.out.blk.lt
    by_cases hin : i < n
    · have f0 : (i : Int) < (n : Int) := by omega
      have f2 : (0 : Int) ≤ (i : Int) := by omega
      have hx : l[i]? = some (l[i]'(by rw [HD.out.len]; exact hin)) := List.getElem?_eq_getElem _
      obtain ⟨x, hxx⟩ : ∃ x, l[i]'(by rw [HD.out.len]; exact hin) = x := ⟨_, rfl⟩
      rw [hxx] at hx
      obtain ⟨y, rfl, hyb, d0, d1, d2, d3, d4⟩ := HDW.out.row.at_ hx
      obtain ⟨hs1, hs2⟩ := nar_snoc (pg := pg) hx
      have HS := Lib.hid hs1
      have HT := Lib.hid hs2
      have H3 := Lib.hid hin
      have HKI := Lib.hid hki
      have hk0 : (k : Int) ≤ 100000 := by omega
      have hk1 : (0 : Int) ≤ (k : Int) := by omega
      have HXL : Hid ((narL (l.take i) pg).length + 1 ≤ 1000000) := Lib.hid (by have := HLK.out; omega)
      clear hx hxx hi hin hki hs1 hs2
      obtain ⟨kr, kp, ep, ef, er⟩ := x
      dsimp only at d0 d1 d2 d3 d4
      have HOK : Hid (OwnT 5 wr w.heap.size 53 (.slice b i c) ((narL (l.take i) pg).map Rc.l)) := HO
      generalize narL (l.take i) pg = xs at HO HS HXL HLK HOK
      generalize narN (l.take i) pg = kk at HT HNK
      have hbA : Below wr.heap.size wr (wr.alloc (.cells #[.int .i64 kr, .int .i64 kp, .int .i64 ep, .int .i64 ef, .int .i64 er] 53)) := (Below.refl _ _).alloc (Nat.le_refl _) _
      have HBA := Lib.hid (HW.out.trans (hbA.mono HW.out.size))
      have HNA : Hid (Blk (wr.alloc (.cells #[.int .i64 kr, .int .i64 kp, .int .i64 ep, .int .i64 ef, .int .i64 er] 53)) wr.heap.size 53 [.int .i64 kr, .int .i64 kp, .int .i64 ep, .int .i64 ef, .int .i64 er]) := Lib.hid (Blk.new wr _ _)
      have HOA := Lib.hid (HO.out.alloc (.cells #[.int .i64 kr, .int .i64 kp, .int .i64 ep, .int .i64 ef, .int .i64 er] 53))
      have HWR := Lib.hid HW.out.size
      have HOX : Hid (∀ v2 : Value, OwnT 5 ((wr.alloc (.cells #[.int .i64 kr, .int .i64 kp, .int .i64 ep, .int .i64 ef, .int .i64 er] 53)).setCell ⟨wr.heap.size, 4, none⟩ v2) w.heap.size 53 (.slice b i c) (xs.map Rc.l)) := Lib.hid fun v2 => ownT_kq HOA.out ((Kq.refl [wr.heap.size] _).setCell wr.heap.size 4 v2 (.inl (by simp))) (fun q hq => by have := (World.ownsRow.lt HO.out.1 q hq).2; simp; omega)
      clear hbA HO HOK HW
      go_upto_region 7 with fail
      clear c0 cl d0 d1 d2 d3 d4
      generalize wr.alloc (.cells #[.int .i64 kr, .int .i64 kp, .int .i64 ep, .int .i64 ef, .int .i64 er] 53) = V at HBA HNA HOA HOX ⊢
      generalize wr.heap.size = xb at HNA HWR HOX ⊢
      have a0 := HNA.out.cell (j := 0) rfl
      have a1 := HNA.out.cell (j := 1) rfl
      have a2 := HNA.out.cell (j := 2) rfl
      have a3 := HNA.out.cell (j := 3) rfl
      have a4 := HNA.out.cell (j := 4) rfl
      have al := HNA.out.lt
      have az := HNA.out.frozen 4
      by_cases he : ep = pg
      · subst he
        by_cases hz : bits .and .i64 er 2 = 0
        · have hh : hadB ⟨kr, kp, ep, ef, er⟩ ep = false := by unfold hadB; simp [hz]
          have HS2 : Hid (_ = xs ++ [(⟨kr, kp, ep, ef, er⟩ : Rc)]) := Lib.hid (HS.out.trans (by unfold narX; rw [hh]; rfl))
          have HT2 := Lib.hid (HT.out.trans (by rw [hh, if_neg (by decide), Nat.add_zero]))
          have hz2 : (bits .and .i64 er 2 != 0) = false := by simp [hz]
          clear HS HT hh
          obtain ⟨b2, c2, w5, hrun, ho5, hb5, hz5⟩ := push_rec (w0 := w) (w := V) HOA.out ⟨kr, kp, ep, ef, er⟩ HXL.out (HBA.out).size (HBA.out)
          rw [HLK.out] at hrun ho5
          have HRUN := Lib.hid hrun
          have HO5 := Lib.hid ho5
          have HB5 := Lib.hid hb5
          clear hrun ho5 hb5 hz5
          dsimp only at HRUN
          go_wp2_with (refine wpList_append_run rfl _ _ 42 rfl _ _ rfl rfl _ _ HRUN.out ?_)
          go_wp2
          go_roundw
          case rel => exact ⟨i + 1, k, b2, c2, H3.out, Nat.le_succ_of_le HKI.out, rfl, by go_num, rfl, by rw [HT2.out, HNK.out]; exact Lib.hid rfl, by rw [HS2.out, List.length_append, List.length_singleton, HLK.out]; exact Lib.hid rfl, by rw [HS2.out]; exact HO5, HB5⟩
          case measure => have := H3.out; simp [intOf]; omega
        · have hh : hadB ⟨kr, kp, ep, ef, er⟩ ep = true := by unfold hadB; simp [hz]
          have HS2 : Hid (_ = xs ++ [(⟨kr, kp, ep, ef, wrap64 (er - 2)⟩ : Rc)]) := Lib.hid (HS.out.trans (by unfold narX; rw [hh]; rfl))
          have HT2 := Lib.hid (HT.out.trans (by rw [hh, if_pos rfl]))
          have hz2 : (bits .and .i64 er 2 != 0) = true := by simp [hz]
          have HNB := Lib.hid (HNA.out.set 4 (.int .i64 (wrap64 (er - 2))))
          have HBB := Lib.hid (HBA.out.setCell (p := ⟨xb, 4, none⟩) HWR.out (.int .i64 (wrap64 (er - 2))))
          have HOB := Lib.hid (HOX.out (.int .i64 (wrap64 (er - 2))))
          clear HS HT hh
          go_upto_region 9 with fail
          generalize V.setCell ⟨xb, 4, none⟩ (.int .i64 (wrap64 (er - 2))) = V2 at HNB HBB HOB ⊢
          clear a0 a1 a2 a3 a4 al az HNA HBA HOA HOX
          generalize wrap64 (er - 2) = er2 at HNB HS2
          have a0 := HNB.out.cell (j := 0) rfl
          have a1 := HNB.out.cell (j := 1) rfl
          have a2 := HNB.out.cell (j := 2) rfl
          have a3 := HNB.out.cell (j := 3) rfl
          have a4 := HNB.out.cell (j := 4) rfl
          have al := HNB.out.lt
          obtain ⟨b2, c2, w5, hrun, ho5, hb5, hz5⟩ := push_rec (w0 := w) (w := V2) HOB.out ⟨kr, kp, ep, ef, er2⟩ HXL.out (HBB.out).size (HBB.out)
          rw [HLK.out] at hrun ho5
          have HRUN := Lib.hid hrun
          have HO5 := Lib.hid ho5
          have HB5 := Lib.hid hb5
          clear hrun ho5 hb5 hz5
          dsimp only at HRUN
          go_wp2_with (refine wpList_append_run rfl _ _ 42 rfl _ _ rfl rfl _ _ HRUN.out ?_)
          go_wp2
          go_roundw
          case rel => exact ⟨i + 1, k + 1, b2, c2, H3.out, Nat.succ_le_succ HKI.out, by go_num, by go_num, rfl, by rw [HT2.out, HNK.out]; exact Lib.hid rfl, by rw [HS2.out, List.length_append, List.length_singleton, HLK.out]; exact Lib.hid rfl, by rw [HS2.out]; exact HO5, HB5⟩
          case measure => have := H3.out; simp [intOf]; omega
      · have hh : hadB ⟨kr, kp, ep, ef, er⟩ pg = false := by unfold hadB; simp [he]
        have HS2 : Hid (_ = xs ++ [(⟨kr, kp, ep, ef, er⟩ : Rc)]) := Lib.hid (HS.out.trans (by unfold narX; rw [hh]; rfl))
        have HT2 := Lib.hid (HT.out.trans (by rw [hh, if_neg (by decide), Nat.add_zero]))
        have he2 : (ep == pg) = false := by simp [he]
        clear HS HT hh he
        obtain ⟨b2, c2, w5, hrun, ho5, hb5, hz5⟩ := push_rec (w0 := w) (w := V) HOA.out ⟨kr, kp, ep, ef, er⟩ HXL.out (HBA.out).size (HBA.out)
        rw [HLK.out] at hrun ho5
        have HRUN := Lib.hid hrun
        have HO5 := Lib.hid ho5
        have HB5 := Lib.hid hb5
        clear hrun ho5 hb5 hz5
        dsimp only at HRUN
        go_wp2_with (refine wpList_append_run rfl _ _ 42 rfl _ _ rfl rfl _ _ HRUN.out ?_)
        go_wp2
        go_roundw
        case rel => exact ⟨i + 1, k, b2, c2, H3.out, Nat.le_succ_of_le HKI.out, rfl, by go_num, rfl, by rw [HT2.out, HNK.out]; exact Lib.hid rfl, by rw [HS2.out, List.length_append, List.length_singleton, HLK.out]; exact Lib.hid rfl, by rw [HS2.out]; exact HO5, HB5⟩
        case measure => have := H3.out; simp [intOf]; omega
    · have f0 : ¬ (i : Int) < (n : Int) := by omega
      obtain rfl : i = n := by omega
      have hl : narL (l.take i) pg = narL l pg ∧ narN (l.take i) pg = narN l pg := by rw [← HD.out.len, List.take_length]; exact ⟨rfl, rfl⟩
      rw [hl.1] at HO HLK
      rw [hl.2] at HNK
      obtain ⟨a3, c3, e3, hr, _, _, hbb, _⟩ := RcRow.own HO.out
      injection e3 with e3 e3' e4
      subst e3 e4
      clear e3'
      have HD9 := Lib.hid (dt_put (k := i) (c := c) HDW.out.blk hr HLK.out (fun y e => by have := hbb y e; have := HG.out; omega))
      have HRB := Lib.hid hbb
      have HK9 := Lib.hid ((Kq.of_below (T := [g]) HW.out).setCell g 0 (.slice b i c) (.inl (by simp)))
      have fz := HDW.out.blk.frozen 0
      clear hi hin hl HO hr hbb hki
      go_wp2
      go_ret
      exact ⟨by rw [HNK.out]; rfl, ⟨b, ⟨c, HD9.out⟩, HRB.out⟩, HK9.out⟩
end
end Go.Proofs.Ytgcpcffgpokbfaa.Sb
