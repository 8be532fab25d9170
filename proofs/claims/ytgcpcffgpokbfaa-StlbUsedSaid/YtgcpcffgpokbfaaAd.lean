/- The document's translations: Put, Drop. -/
import Derived.Test.YtgcpcffgpokbfaaAc
import Derived.Deep.DeepCutAuto
import Derived.Deep.CutRange
namespace Go.Proofs.Ytgcpcffgpokbfaa.Sb
open Go.RowKit Ut
set_option maxRecDepth 100000
set_option linter.unusedVariables false
set_option maxHeartbeats 4000000

/-- one record more, out of any slice of one -/
theorem push_at {w0 w : World} {B : Nat} {v : Value} {xs : List Rc} (hown : OwnT 5 w B 53 v (xs.map Rc.l)) (x : Rc) (ad : Addr) (c : Nat) (hn : ∀ (j : Nat) (u : Value), (encI x.l)[j]? = some u → w.cell? (ad.add j) = some u) (hl : xs.length + 1 ≤ 1000000) (hB : B ≤ w.heap.size) (hb : Below B w0 w) :
    ∃ a cap w', (Builtin.append_ #[42, 42] 42 #[v, .slice (some ad) 1 c]).run Try.prog w = .ok (.slice a (xs.length + 1) cap) w' ∧
      OwnT 5 w' B 53 (.slice a (xs.length + 1) cap) ((xs ++ [x]).map Rc.l) ∧ Below B w0 w' ∧ w.heap.size ≤ w'.heap.size := by
  obtain ⟨i, hi, hz, hs, hby⟩ := info_parts kept_info
  obtain ⟨v', w', hrun, h2, h3, _, h5⟩ := run_append_own_at (P := Try.prog) _ B 42 42 53 i _ 5 40 Try.underlying42 hi hz hs hby rfl (by decide) v (xs.map Rc.l).length _ hown.1 ad 1 c (encI x.l) rfl hn
    (fun u hu => by obtain ⟨z, _, rfl⟩ := List.mem_map.1 hu; rfl) (by rw [List.length_map]; unfold maxLen; omega) (by rw [List.length_map]; omega) hB
  have hown2 : OwnT 5 w' B 53 v' ((xs ++ [x]).map Rc.l) := by
    refine ⟨?_, fun q hq => ?_⟩
    · rw [List.map_append, show List.map Rc.l [x] = [x.l] from rfl, encR_snoc, List.length_append]
      exact h2
    · obtain ⟨c, _, rfl⟩ := List.mem_map.1 hq
      rfl
  obtain ⟨a, cap, hv, _, _, _, _, _⟩ := RcRow.own hown2
  rw [List.length_append] at hv
  have hbw : Below B w0 w' := hb.grown h3 hB fun q hq => (World.ownsRow.lt hown.1 q hq).1
  subst hv
  exact ⟨a, cap, w', hrun, hown2, hbw, h3.size⟩
section
variable {w w0 : World} {g n cap k c B : Nat} {room : Int} {a b : Option Addr} {l xs : List Rc}
/-- another row is put in place -/
theorem dt_put {v : Value} (h : Blk w g 44 [v, .int .i64 room]) (hr : RcRow w b xs) (hk : xs.length = k) (hn : ∀ y, b = some y → y.block ≠ g) : DT (w.setCell ⟨g, 0, none⟩ (.slice b k c)) g room b k c xs :=
  ⟨h.set 0 _, hk, hr.kq (T := [g]) ((Kq.refl _ _).setCell g 0 _ (.inl (by simp))) (fun y e => by simp; exact hn y e), hn⟩
theorem dt_own {v : Value} (h : Blk w g 44 [v, .int .i64 room]) (ho : OwnT 5 w B 53 (.slice b xs.length c) (xs.map Rc.l)) (hg : g < B) : DT (w.setCell ⟨g, 0, none⟩ (.slice b xs.length c)) g room b xs.length c xs := by
  obtain ⟨a', c', e, hr, _, _, hB, _⟩ := RcRow.own ho
  injection e with e1 _ e3
  subst e1 e3
  exact dt_put h hr rfl (fun y e => by have := hB y e; omega)

theorem refDrop_any (p q : Int) (o : Option Rc) (ho : findL l p q = o) (w : World) (h : DT w g room a n cap l) (hn : n ≤ 100000) :
    Calls Try.prog 14 #[.pointer (some ⟨g, 0, none⟩), .agg #[.int .i64 p, .int .i64 q]] w fun e w' => e = .returned (.bool o.isSome) ∧ (∃ b c, DT w' g room b (withoutL l p q).length c (withoutL l p q) ∧ ∀ y, b = some y → w.heap.size ≤ y.block) ∧ Kq [g] w w' := by
  obtain ⟨U, hU⟩ : ∃ U, U = w.alloc (.cells #[.int .i64 p, .int .i64 q] 38) := ⟨_, rfl⟩
  have hB : Below w.heap.size w U := by rw [hU]; exact (Below.refl _ _).alloc (Nat.le_refl _) _
  have hk : Blk U w.heap.size 38 [.int .i64 p, .int .i64 q] := by rw [hU]; exact Blk.new w _ [.int .i64 p, .int .i64 q]
  have HU := Lib.hid hU
  have HB := Lib.hid hB
  have HK := Lib.hid hk
  have HG := Lib.hid h.blk.lt
  have HD := Lib.hid (h.more hB)
  have HL := Lib.hid (refLook_any p q o ho U HD.out hn)
  have HN := Lib.hid hn
  have k0 := hk.cell (j := 0) rfl
  have k1 := hk.cell (j := 1) rfl
  have kl := hk.lt
  clear hU hB hk h ho hn
  go_enter Try.func14, Try.ntmps14
  go_upto_region 1 with fail
  rw [← HU.out]
  clear HU
  go_wp2_with fail
  refine HL.out.mono ?_
  rintro e w1 ⟨rfl, hb1⟩
  obtain ⟨e0, e1, e2⟩ := entF o
  unfold entV
  dsimp only
  have hb2 : Below U.heap.size U (w1.alloc (.cells #[.int .i64 e0, .int .i64 e1, .int .i64 e2] 34)) := hb1.alloc hb1.size _
  have HB2 := Lib.hid hb2
  clear hb1 hb2 HL k0 k1 kl
  go_upto_region 2 with fail
  generalize w1.alloc (.cells #[.int .i64 e0, .int .i64 e1, .int .i64 e2] 34) = w2 at HB2 ⊢
  have q0 := HK.out.more HB2.out
  have k0 := q0.cell (j := 0) rfl
  have k1 := q0.cell (j := 1) rfl
  have kl := q0.lt
  clear q0
  go_wp2_with fail
  refine (refWithout_any p q w2 (HD.out.more HB2.out) HN.out).mono ?_
  rintro e w3 ⟨b, c, rfl, hO, hb3⟩
  have hd3 := (HD.out.more HB2.out).more hb3
  have HBW : Hid (Below w.heap.size w w3) := Lib.hid ((HB.out.trans (HB2.out.mono HB.out.size)).trans (hb3.mono (Nat.le_trans HB.out.size HB2.out.size)))
  have HD9 := Lib.hid (dt_own hd3.blk hO.out (by have := HG.out; have := HB.out.size; have := HB2.out.size; omega))
  have HRB : Hid (∀ y, b = some y → w.heap.size ≤ y.block) := Lib.hid fun y e => by
    obtain ⟨a', c', e', _, _, _, hBB, _⟩ := RcRow.own hO.out
    injection e' with e1 _ _
    have := hBB y (e1 ▸ e)
    have := HB.out.size
    have := HB2.out.size
    omega
  have HK9 := Lib.hid ((Kq.of_below (T := [g]) HBW.out).setCell g 0 (.slice b (withoutL l p q).length c) (.inl (by simp)))
  have fz := hd3.blk.frozen 0
  have c0 := hd3.cell0
  have cl := hd3.blk.lt
  clear hO hb3 hd3 k0 k1 kl
  go_wp2
  go_ret
  exact ⟨rfl, ⟨b, c, HD9.out, HRB.out⟩, HK9.out⟩
end
end Go.Proofs.Ytgcpcffgpokbfaa.Sb
