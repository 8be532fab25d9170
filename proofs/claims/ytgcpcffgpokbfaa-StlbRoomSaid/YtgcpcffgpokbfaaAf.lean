/- The document's translations: Get. -/
import Derived.Test.YtgcpcffgpokbfaaAe
namespace Go.Proofs.Ytgcpcffgpokbfaa.Sb
open Go.RowKit Ut
set_option maxRecDepth 100000
set_option linter.unusedVariables false
set_option maxHeartbeats 4000000

def getX (o : Option Rc) (l xs : List Rc) (p q : Int) : List Rc := match o with | some x => xs ++ [⟨p, q, x.ep, x.ef, x.er⟩] | none => l
def getL (l : List Rc) (p q : Int) : List Rc := getX (findL l p q) l (withoutL l p q) p q
/-- Get's own blocks: the key, the result, the entry that was found -/
structure GS (w W : World) (p q : Int) (eb : Nat) (e0 e1 e2 : Int) : Prop where
  b : w.heap.size ≤ W.heap.size
  ky : Blk W w.heap.size 38 [.int .i64 p, .int .i64 q]
  rs : Blk W (w.heap.size + 1) 34 (entC (0, 0, 0))
  en : Blk W eb 34 [.int .i64 e0, .int .i64 e1, .int .i64 e2]
  eg : w.heap.size + 1 < eb
theorem GS.more {w W W' : World} {p q : Int} {eb : Nat} {e0 e1 e2 : Int} (h : GS w W p q eb e0 e1 e2) (hb : Below W.heap.size W W') : GS w W' p q eb e0 e1 e2 := ⟨Nat.le_trans h.b hb.size, h.ky.more hb, h.rs.more hb, h.en.more hb, h.eg⟩
theorem GS.set {w W : World} {p q : Int} {eb g : Nat} {e0 e1 e2 : Int} (h : GS w W p q eb e0 e1 e2) (hg : g < w.heap.size) (v : Value) : GS w (W.setCell ⟨g, 0, none⟩ v) p q eb e0 e1 e2 := by
  have he := h.eg
  exact ⟨by simpa [World.setCell] using h.b, h.ky.of_block (Below.heap_setCell _ _ _ _ (by simp; omega)), h.rs.of_block (Below.heap_setCell _ _ _ _ (by simp; omega)), h.en.of_block (Below.heap_setCell _ _ _ _ (by simp; omega)), h.eg⟩
section
variable {g n cap : Nat} {room : Int} {a : Option Addr} {l : List Rc}
theorem refGet_any (p q : Int) (o : Option Rc) (ho : findL l p q = o) (w : World) (h : DT w g room a n cap l) (hn : n ≤ 100000) :
    Calls Try.prog 12 #[.pointer (some ⟨g, 0, none⟩), .agg #[.int .i64 p, .int .i64 q]] w fun e w' => e = .returned (.tuple #[entV (entF o), .bool o.isSome]) ∧ (∃ b k c, DT w' g room b k c (getL l p q) ∧ (b = a ∨ ∀ y, b = some y → w.heap.size ≤ y.block)) ∧ Kq [g] w w' := by
  obtain ⟨U, hU⟩ : ∃ U, U = (w.alloc (.cells #[.int .i64 p, .int .i64 q] 38)).alloc (.cells #[.int .i64 0, .int .i64 0, .int .i64 0] 34) := ⟨_, rfl⟩
  have hB : Below w.heap.size w U := by rw [hU]; exact ((Below.refl _ _).alloc (Nat.le_refl _) _).alloc (by simp) _
  have hk : Blk U w.heap.size 38 [.int .i64 p, .int .i64 q] := by rw [hU]; exact (Blk.new w _ [.int .i64 p, .int .i64 q]).more ((Below.refl _ _).alloc (Nat.le_refl _) _)
  have he : Blk U (w.heap.size + 1) 34 (entC (0, 0, 0)) := by
    have := Blk.new (w.alloc (.cells #[.int .i64 p, .int .i64 q] 38)) 34 (entC (0, 0, 0))
    rw [World.size_alloc] at this
    rw [hU]
    exact this
  have hsz : U.heap.size = w.heap.size + 2 := by rw [hU]; simp
  have HU := Lib.hid hU
  have HB := Lib.hid hB
  have HK := Lib.hid hk
  have HE := Lib.hid he
  have HSZ := Lib.hid hsz
  have HG := Lib.hid h.blk.lt
  have HD := Lib.hid (h.more hB)
  have HD0 := Lib.hid h
  have HL := Lib.hid (refLook_any p q o ho U HD.out hn)
  have HGL : Hid (getL l p q = getX o l (withoutL l p q) p q) := Lib.hid (by unfold getL; rw [ho])
  have HWO : Hid (∀ W, Below U.heap.size U W → Calls Try.prog 30 #[.pointer (some ⟨g, 0, none⟩), .agg #[.int .i64 p, .int .i64 q]] W fun e w' => ∃ b c, e = .returned (.slice b (withoutL l p q).length c) ∧ Hid (OwnT 5 w' W.heap.size 53 (.slice b (withoutL l p q).length c) ((withoutL l p q).map Rc.l)) ∧ Below W.heap.size W w') := Lib.hid fun W hW => refWithout_any p q W (HD.out.more hW) hn
  have HWL : Hid ((withoutL l p q).length + 1 ≤ 1000000) := Lib.hid (by have := without_len l p q; have := h.len; omega)
  have HSet : Hid (∀ (W : World) (j : Nat) (v : Value), Kq [g] w W → Kq [g] w (W.setCell ⟨w.heap.size + 1, j, none⟩ v)) := Lib.hid fun W j v h => h.setCell (w.heap.size + 1) j v (.inr (by omega))
  have HSetB : Hid (∀ (W : World) (j : Nat) (v : Value), Below w.heap.size w W → Below w.heap.size w (W.setCell ⟨w.heap.size + 1, j, none⟩ v)) := Lib.hid fun W j v h => h.setCell (p := ⟨w.heap.size + 1, j, none⟩) (by simp) _
  have k0 := hk.cell (j := 0) rfl
  have k1 := hk.cell (j := 1) rfl
  have kl := hk.lt
  clear hU hB hk he hsz h hn ho
  generalize withoutL l p q = xs at HWO HWL HGL
  generalize getL l p q = GL at HGL ⊢
  go_enter Try.func12, Try.ntmps12
  go_upto_region 1 with fail
  rw [← HU.out]
  clear HU
  go_wp2_with fail
  refine HL.out.mono ?_
  rintro e w1 ⟨rfl, hb1⟩
  obtain ⟨ee, hee⟩ : ∃ ee, entF o = ee := ⟨_, rfl⟩
  obtain ⟨e0, e1, e2⟩ := ee
  rw [hee]
  have HEE := Lib.hid hee
  unfold entV
  dsimp only
  have hb2 : Below U.heap.size U (w1.alloc (.cells #[.int .i64 e0, .int .i64 e1, .int .i64 e2] 34)) := hb1.alloc hb1.size _
  have HB2 := Lib.hid hb2
  have HS2 : Hid (GS w (w1.alloc (.cells #[.int .i64 e0, .int .i64 e1, .int .i64 e2] 34)) p q w1.heap.size e0 e1 e2) := Lib.hid ⟨Nat.le_trans HB.out.size hb2.size, HK.out.more hb2, HE.out.more hb2, Blk.new _ _ _, by have := HSZ.out; have := hb1.size; omega⟩
  clear hb1 hb2 HL k0 k1 kl hee
  go_upto_region 2 with fail
  generalize w1.alloc (.cells #[.int .i64 e0, .int .i64 e1, .int .i64 e2] 34) = w2 at HB2 HS2 ⊢
  generalize w1.heap.size = eb at HS2 ⊢
  cases o with
  | none =>
    have HGE : Hid (GL = l) := HGL
    have HB9 : Hid (Below w.heap.size w w2) := Lib.hid (HB.out.trans (HB2.out.mono HB.out.size))
    have r0 := HS2.out.rs.cell (j := 0) rfl
    have r1 := HS2.out.rs.cell (j := 1) rfl
    have r2 := HS2.out.rs.cell (j := 2) rfl
    have f0 := HS2.out.rs.frozen 0
    have f1 := HS2.out.rs.frozen 1
    have f2 := HS2.out.rs.frozen 2
    have hlt := HS2.out.rs.lt
    have n0 := HS2.out.en.cell (j := 0) rfl
    have n1 := HS2.out.en.cell (j := 1) rfl
    have n2 := HS2.out.en.cell (j := 2) rfl
    have nl := HS2.out.en.lt
    have ne1 : ¬ eb = w.heap.size + 1 := by have := HS2.out.eg; omega
    have ne2 : ¬ w.heap.size + 1 = eb := by have := HS2.out.eg; omega
    have hee := HEE.out
    injection hee with h0 hee
    injection hee with h1 h2
    subst h0 h1 h2
    rw [Option.isSome_none]
    go_wp2
    exact bodyPost_ret (v := .tuple #[entV (0, 0, 0), .bool false]) (by simp [results, Try.results12, go_sem, r0, r1, r2, entV]) rfl ⟨rfl, ⟨a, ⟨n, cap, by rw [HGE.out]; exact HD0.out.more (by (repeat (first | refine HSetB.out _ _ _ ?_)); exact HB9.out)⟩, .inl rfl⟩, Kq.of_below (by (repeat (first | refine HSetB.out _ _ _ ?_)); exact HB9.out)⟩
  | some x =>
    have HGE : Hid (GL = xs ++ [(⟨p, q, e0, e1, e2⟩ : Rc)]) := Lib.hid (HGL.out.trans (by
      have hee := HEE.out
      injection hee with h0 hee
      injection hee with h1 h2
      unfold getX
      rw [← h0, ← h1, ← h2]))
    rw [Option.isSome_some]
    obtain ⟨N, hN⟩ : ∃ N, xs.length + 1 = N := ⟨_, rfl⟩
    have HLN := Lib.hid hN
    have HD2 := Lib.hid (HD.out.more HB2.out)
    have HWO2 : Hid (∀ W, Below w2.heap.size w2 W → Calls Try.prog 30 #[.pointer (some ⟨g, 0, none⟩), .agg #[.int .i64 p, .int .i64 q]] W fun e w' => ∃ b c, e = .returned (.slice b xs.length c) ∧ Hid (OwnT 5 w' W.heap.size 53 (.slice b xs.length c) (xs.map Rc.l)) ∧ Below W.heap.size W w') := Lib.hid fun W hW => HWO.out W (HB2.out.trans (hW.mono HB2.out.size))
    clear hN HWO HGL
    have k0 := HS2.out.ky.cell (j := 0) rfl
    have k1 := HS2.out.ky.cell (j := 1) rfl
    have kl := HS2.out.ky.lt
    have n0 := HS2.out.en.cell (j := 0) rfl
    have n1 := HS2.out.en.cell (j := 1) rfl
    have n2 := HS2.out.en.cell (j := 2) rfl
    have nl := HS2.out.en.lt
    have gc := HD2.out.cell0
    have gl := HD2.out.blk.lt
    go_upto_region 3 with fail
    go_cut [] from 15 to 25 (fun wx => ∃ b c, Hid (DT wx g room b N c (xs ++ [(⟨p, q, e0, e1, e2⟩ : Rc)])) ∧ Hid (∀ y, b = some y → w.heap.size + 2 ≤ y.block) ∧ Hid (GS w wx p q eb e0 e1 e2) ∧ Hid (Kq [g] w wx))
    case first =>
      have hd : Below w2.heap.size w2 w2.drew := (Below.refl _ _).drew
      have HP : Hid (∀ (W : World) (b : Option Addr) (c : Nat) (ad : Addr) (m : Nat), OwnT 5 W w2.heap.size 53 (.slice b xs.length c) (xs.map Rc.l) → (∀ (j : Nat) (u : Value), (encI [p, q, e0, e1, e2])[j]? = some u → W.cell? (ad.add j) = some u) → Below w2.heap.size w2 W →
          ∃ a2 cap2 w5, (Builtin.append_ #[42, 42] 42 #[.slice b xs.length c, .slice (some ad) 1 m]).run Try.prog W = .ok (.slice a2 N cap2) w5 ∧ w5.cell? ⟨g, 0, none⟩ = some (.slice a n cap) ∧ w5.frozen? ⟨g, 0, none⟩ = false ∧ g < w5.heap.size ∧
            Hid (DT (w5.setCell ⟨g, 0, none⟩ (.slice a2 N cap2)) g room a2 N cap2 (xs ++ [(⟨p, q, e0, e1, e2⟩ : Rc)])) ∧ Hid (∀ y, a2 = some y → w.heap.size + 2 ≤ y.block) ∧ Hid (GS w (w5.setCell ⟨g, 0, none⟩ (.slice a2 N cap2)) p q eb e0 e1 e2) ∧ Hid (Kq [g] w (w5.setCell ⟨g, 0, none⟩ (.slice a2 N cap2)))) := Lib.hid fun W b c ad m h1 h2 h3 => by
        obtain ⟨a2, cap2, w5, r1, r2, r3, _⟩ := push_at h1 ⟨p, q, e0, e1, e2⟩ ad m h2 HWL.out h3.size h3
        have hd5 := HD2.out.more r3
        have hlen : (xs ++ [(⟨p, q, e0, e1, e2⟩ : Rc)]).length = N := by rw [List.length_append]; exact HLN.out
        obtain ⟨a3, c3, e3, hr, _, _, hbb, _⟩ := RcRow.own r2
        injection e3 with e3 _ e4
        subst e3 e4
        rw [HLN.out] at r1
        refine ⟨a2, cap2, w5, r1, hd5.cell0, hd5.blk.frozen 0, hd5.blk.lt, Lib.hid (dt_put hd5.blk hr hlen (fun y e => ?_)), Lib.hid (fun y e => ?_), Lib.hid ((HS2.out.more r3).set HG.out _), Lib.hid ((Kq.of_below (HB.out.trans ((HB2.out.trans (r3.mono HB2.out.size)).mono HB.out.size))).setCell g 0 _ (.inl (by simp)))⟩
        · have := hbb y e; have := HG.out; have := HB.out.size; have := HB2.out.size; omega
        · have := hbb y e; have := HSZ.out; have := HB2.out.size; omega
      have HNZ : Hid (∀ V, Below (w2.drew.alloc (.cells #[.int .i64 p, .int .i64 q, .int .i64 e0, .int .i64 e1, .int .i64 e2] 53)).heap.size (w2.drew.alloc (.cells #[.int .i64 p, .int .i64 q, .int .i64 e0, .int .i64 e1, .int .i64 e2] 53)) V → ∀ (j : Nat) (u : Value), (encI [p, q, e0, e1, e2])[j]? = some u → V.cell? ((⟨w2.heap.size, 0, none⟩ : Addr).add j) = some u) := Lib.hid fun V hV j u hu => (hV.cell (p := (⟨w2.heap.size, 0, none⟩ : Addr).add j) (by rw [block_of_add]; simp)).trans (cells_new w2.drew (encI [p, q, e0, e1, e2]) 53 j u hu)
      have hda : Below w2.heap.size w2 (w2.drew.alloc (.cells #[.int .i64 p, .int .i64 q, .int .i64 e0, .int .i64 e1, .int .i64 e2] 53)) := hd.alloc hd.size _
      go_region_law (first | (refine step_append_run rfl _ _ 42 rfl _ _ rfl rfl _ _ hrun ?_) | (go_simp; go_at_call 30; refine (HWO2.out _ (by first | exact hd | exact hda)).mono ?_; rintro e w3 ⟨b, c, rfl, hO, hb3⟩; first | (have hx3 : Below w2.heap.size w2 w3 := hd.trans (hb3.mono hd.size); have ho3 : OwnT 5 w3 w2.heap.size 53 (.slice b xs.length c) (xs.map Rc.l) := ownT_base hO.out (Nat.le_refl _); obtain ⟨b2, c2, w5, hrun, z0, z1, z2, HO5, HO6, HO7, HO8⟩ := HP.out (w3.alloc (.cells #[.int .i64 p, .int .i64 q, .int .i64 e0, .int .i64 e1, .int .i64 e2] 53)) b c ⟨w3.heap.size, 0, none⟩ 1 (ho3.alloc _) (fun j u hu => cells_new w3 (encI [p, q, e0, e1, e2]) 53 j u hu) (hx3.alloc hx3.size _); have m0 := (hx3.cell (p := ⟨w.heap.size, 0, none⟩) kl).trans k0; have m1 := (hx3.cell (p := ⟨w.heap.size, 1, none⟩) kl).trans k1; have m2 := (hx3.cell (p := ⟨eb, 0, none⟩) nl).trans n0; have m3 := (hx3.cell (p := ⟨eb, 1, none⟩) nl).trans n1; have m4 := (hx3.cell (p := ⟨eb, 2, none⟩) nl).trans n2; have ml := Nat.lt_of_lt_of_le kl hx3.size; have mm := Nat.lt_of_lt_of_le nl hx3.size; have m5 := (hx3.cell (p := ⟨g, 0, none⟩) gl).trans gc; have mg := Nat.lt_of_lt_of_le gl hx3.size; clear hb3 hO hx3 ho3) | (have hx3 : Below w2.heap.size w2 w3 := hda.trans (hb3.mono hda.size); have ho3 : OwnT 5 w3 w2.heap.size 53 (.slice b xs.length c) (xs.map Rc.l) := ownT_base hO.out hda.size; obtain ⟨b2, c2, w5, hrun, z0, z1, z2, HO5, HO6, HO7, HO8⟩ := HP.out w3 b c ⟨w2.heap.size, 0, none⟩ 1 ho3 (HNZ.out _ hb3) hx3; have m0 := (hx3.cell (p := ⟨w.heap.size, 0, none⟩) kl).trans k0; have m1 := (hx3.cell (p := ⟨w.heap.size, 1, none⟩) kl).trans k1; have m2 := (hx3.cell (p := ⟨eb, 0, none⟩) nl).trans n0; have m3 := (hx3.cell (p := ⟨eb, 1, none⟩) nl).trans n1; have m4 := (hx3.cell (p := ⟨eb, 2, none⟩) nl).trans n2; have ml := Nat.lt_of_lt_of_le kl hx3.size; have mm := Nat.lt_of_lt_of_le nl hx3.size; have m5 := (hx3.cell (p := ⟨g, 0, none⟩) gl).trans gc; have mg := Nat.lt_of_lt_of_le gl hx3.size; clear hb3 hO hx3 ho3)))
      all_goals
        go_wp2_with fail
        go_meet
        exact ⟨b2, c2, HO5, HO6, HO7, HO8⟩
    case rest =>
      obtain ⟨b, c, HD5, HRB, HS5, HK5⟩ := hcut
      have HSetD : Hid (∀ (W : World) (j : Nat) (v : Value), DT W g room b N c (xs ++ [(⟨p, q, e0, e1, e2⟩ : Rc)]) → DT (W.setCell ⟨w.heap.size + 1, j, none⟩ v) g room b N c (xs ++ [(⟨p, q, e0, e1, e2⟩ : Rc)])) := Lib.hid fun W j v h => h.kq (T := [w.heap.size + 1]) ((Kq.refl _ _).setCell _ j v (.inl (by simp))) (by have := HG.out; simp; omega) (fun y e => by have := HRB.out y e; simp; omega)
      clear k0 k1 kl n0 n1 n2 nl gc gl HWO2
      have r0 := HS5.out.rs.cell (j := 0) rfl
      have r1 := HS5.out.rs.cell (j := 1) rfl
      have r2 := HS5.out.rs.cell (j := 2) rfl
      have f0 := HS5.out.rs.frozen 0
      have f1 := HS5.out.rs.frozen 1
      have f2 := HS5.out.rs.frozen 2
      have hlt := HS5.out.rs.lt
      have n0 := HS5.out.en.cell (j := 0) rfl
      have n1 := HS5.out.en.cell (j := 1) rfl
      have n2 := HS5.out.en.cell (j := 2) rfl
      have nl := HS5.out.en.lt
      have ne1 : ¬ eb = w.heap.size + 1 := by have := HS5.out.eg; omega
      have ne2 : ¬ w.heap.size + 1 = eb := by have := HS5.out.eg; omega
      go_wp2
      exact bodyPost_ret (v := .tuple #[entV (e0, e1, e2), .bool true]) (by simp [results, Try.results12, go_sem, r0, r1, r2, entV]) rfl ⟨by rw [HEE.out], ⟨b, ⟨N, c, by rw [HGE.out]; (repeat (first | refine HSetD.out _ _ _ ?_)); exact HD5.out⟩, .inr (fun y e => by have := HRB.out y e; omega)⟩, by (repeat (first | refine HSet.out _ _ _ ?_)); exact HK5.out⟩
end
end Go.Proofs.Ytgcpcffgpokbfaa.Sb
