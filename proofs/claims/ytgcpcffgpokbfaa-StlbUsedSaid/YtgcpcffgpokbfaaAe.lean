/- The document's translations: Put. -/
import Derived.Test.YtgcpcffgpokbfaaAd
import Derived.Deep.RegionLaw
namespace Go.Proofs.Ytgcpcffgpokbfaa.Sb
open Go.RowKit Ut
set_option maxRecDepth 100000
set_option linter.unusedVariables false
set_option maxHeartbeats 4000000

def putL (room : Int) (l : List Rc) (x : Rc) : List Rc := if (room : Int) < ((withoutL l x.kr x.kp).length + 1 : Nat) then (withoutL l x.kr x.kp ++ [x]).drop 1 else withoutL l x.kr x.kp ++ [x]
theorem RcRow.tail {w : World} {y : Addr} {xs : List Rc} {c : Nat} (h : RcRow w (some y) xs) (hc : c = 1 → xs.length ≤ 1) : RcRow w (if c = 1 then some y else some ⟨y.block, y.off + 5, none⟩) (xs.drop 1) := fun i x hx => by
  rw [List.getElem?_drop] at hx
  have hi := (List.getElem?_eq_some_iff.1 hx).1
  have h1 : ¬ c = 1 := fun e => by have := hc e; omega
  rw [if_neg h1]
  obtain ⟨y', e, hy, hcell⟩ := h (1 + i) x hx
  injection e with e
  subst e
  refine ⟨_, rfl, hy, fun j z hz => ?_⟩
  have e5 : (⟨y.block, y.off + 5, none⟩ : Addr) = y.add 5 := by unfold Addr.add; rw [if_neg (by decide)]
  rw [e5, add_of_add, show 5 + (i * 5 + j) = (1 + i) * 5 + j by omega]
  exact hcell j z hz
section
variable {g n cap : Nat} {room : Int} {a : Option Addr} {l : List Rc}
theorem refPut_any (x : Rc) (w : World) (h : DT w g room a n cap l) (hn : n ≤ 100000) :
    Calls Try.prog 21 #[.pointer (some ⟨g, 0, none⟩), .agg #[.int .i64 x.kr, .int .i64 x.kp], .agg #[.int .i64 x.ep, .int .i64 x.ef, .int .i64 x.er]] w fun e w' => e = .returned (.tuple #[]) ∧ (∃ b c, DT w' g room b (putL room l x).length c (putL room l x) ∧ ∀ y, b = some y → w.heap.size ≤ y.block) ∧ Kq [g] w w' := by
  obtain ⟨U, hU⟩ : ∃ U, U = (w.alloc (.cells #[.int .i64 x.kr, .int .i64 x.kp] 38)).alloc (.cells #[.int .i64 x.ep, .int .i64 x.ef, .int .i64 x.er] 34) := ⟨_, rfl⟩
  have hB : Below w.heap.size w U := by rw [hU]; exact ((Below.refl _ _).alloc (Nat.le_refl _) _).alloc (by simp) _
  have hk : Blk U w.heap.size 38 [.int .i64 x.kr, .int .i64 x.kp] := by rw [hU]; exact (Blk.new w _ [.int .i64 x.kr, .int .i64 x.kp]).more ((Below.refl _ _).alloc (Nat.le_refl _) _)
  have he : Blk U (w.heap.size + 1) 34 [.int .i64 x.ep, .int .i64 x.ef, .int .i64 x.er] := by
    have := Blk.new (w.alloc (.cells #[.int .i64 x.kr, .int .i64 x.kp] 38)) 34 [.int .i64 x.ep, .int .i64 x.ef, .int .i64 x.er]
    rw [World.size_alloc] at this
    rw [hU]
    exact this
  have hsz : U.heap.size = w.heap.size + 2 := by rw [hU]; simp
  have HU := Lib.hid hU
  have HB := Lib.hid hB
  have HK := Lib.hid hk
  have HE := Lib.hid he
  have HSZ := Lib.hid hsz
  have HG := Lib.hid h.blk.lt
  have HD := Lib.hid (h.more hB)
  have HN := Lib.hid hn
  have HWO : Hid (∀ W, Below U.heap.size U W → Calls Try.prog 30 #[.pointer (some ⟨g, 0, none⟩), .agg #[.int .i64 x.kr, .int .i64 x.kp]] W fun e w' => ∃ b c, e = .returned (.slice b (withoutL l x.kr x.kp).length c) ∧ Hid (OwnT 5 w' W.heap.size 53 (.slice b (withoutL l x.kr x.kp).length c) ((withoutL l x.kr x.kp).map Rc.l)) ∧ Below W.heap.size W w') := Lib.hid fun W hW => refWithout_any x.kr x.kp W (HD.out.more hW) hn
  have hwl : (withoutL l x.kr x.kp).length + 1 ≤ 1000000 := by have := without_len l x.kr x.kp; have := h.len; omega
  have HWL := Lib.hid hwl
  have HPL : Hid (putL room l x = if (room : Int) < ((withoutL l x.kr x.kp).length + 1 : Nat) then (withoutL l x.kr x.kp ++ [x]).drop 1 else withoutL l x.kr x.kp ++ [x]) := Lib.hid rfl
  generalize putL room l x = PL at HPL ⊢
  have k0 := hk.cell (j := 0) rfl
  have k1 := hk.cell (j := 1) rfl
  have kl := hk.lt
  have e0 := he.cell (j := 0) rfl
  have e1 := he.cell (j := 1) rfl
  have e2 := he.cell (j := 2) rfl
  have el := he.lt
  clear hU hB hk he hsz h hn hwl
  generalize withoutL l x.kr x.kp = xs at HWO HWL HPL
  obtain ⟨kr, kp, ep, ef, er⟩ := x
  dsimp only at HWO k0 k1 e0 e1 e2 ⊢
  go_enter Try.func21, Try.ntmps21
  go_upto_region 1 with fail
  rw [← HU.out]
  clear HU
  obtain ⟨N, hN⟩ : ∃ N, xs.length + 1 = N := ⟨_, rfl⟩
  have HLN := Lib.hid hN
  clear hN
  go_cut [6] from 7 to 14 (fun v wx => ∃ b c, v = .slice b N c ∧ Hid (OwnT 5 wx U.heap.size 53 (.slice b N c) ((xs ++ [(⟨kr, kp, ep, ef, er⟩ : Rc)]).map Rc.l)) ∧ Hid (Below U.heap.size U wx))
  case first =>
    have hd : Below U.heap.size U U.drew := (Below.refl _ _).drew
    have HP : Hid (∀ (W : World) (b : Option Addr) (c : Nat) (ad : Addr) (m : Nat), OwnT 5 W U.heap.size 53 (.slice b xs.length c) (xs.map Rc.l) → (∀ (j : Nat) (u : Value), (encI [kr, kp, ep, ef, er])[j]? = some u → W.cell? (ad.add j) = some u) → Below U.heap.size U W →
        ∃ a cap w', (Builtin.append_ #[42, 42] 42 #[.slice b xs.length c, .slice (some ad) 1 m]).run Try.prog W = .ok (.slice a N cap) w' ∧ Hid (OwnT 5 w' U.heap.size 53 (.slice a N cap) ((xs ++ [(⟨kr, kp, ep, ef, er⟩ : Rc)]).map Rc.l)) ∧ Hid (Below U.heap.size U w')) := Lib.hid fun W b c ad m h1 h2 h3 => by
      obtain ⟨a, cap, w', r1, r2, r3, _⟩ := push_at h1 ⟨kr, kp, ep, ef, er⟩ ad m h2 HWL.out h3.size h3
      rw [HLN.out] at r1 r2
      exact ⟨a, cap, w', r1, Lib.hid r2, Lib.hid r3⟩
    have HNZ : Hid (∀ V, Below (U.drew.alloc (.cells #[.int .i64 kr, .int .i64 kp, .int .i64 ep, .int .i64 ef, .int .i64 er] 53)).heap.size (U.drew.alloc (.cells #[.int .i64 kr, .int .i64 kp, .int .i64 ep, .int .i64 ef, .int .i64 er] 53)) V → ∀ (j : Nat) (u : Value), (encI [kr, kp, ep, ef, er])[j]? = some u → V.cell? ((⟨U.heap.size, 0, none⟩ : Addr).add j) = some u) := Lib.hid fun V hV j u hu => (hV.cell (p := (⟨U.heap.size, 0, none⟩ : Addr).add j) (by rw [block_of_add]; simp)).trans (cells_new U.drew (encI [kr, kp, ep, ef, er]) 53 j u hu)
    have hda : Below U.heap.size U (U.drew.alloc (.cells #[.int .i64 kr, .int .i64 kp, .int .i64 ep, .int .i64 ef, .int .i64 er] 53)) := hd.alloc hd.size _
    go_region_law (first | (refine step_append_run rfl _ _ 42 rfl _ _ rfl rfl _ _ hrun ?_) | (go_simp; go_at_call 30; refine (HWO.out _ (by first | exact hd | exact hda)).mono ?_; rintro e w3 ⟨b, c, rfl, hO, hb3⟩; first | (have hx3 : Below U.heap.size U w3 := hd.trans (hb3.mono hd.size); have ho3 : OwnT 5 w3 U.heap.size 53 (.slice b xs.length c) (xs.map Rc.l) := ownT_base hO.out (Nat.le_refl _); obtain ⟨b2, c2, w5, hrun, HO5, HB5⟩ := HP.out (w3.alloc (.cells #[.int .i64 kr, .int .i64 kp, .int .i64 ep, .int .i64 ef, .int .i64 er] 53)) b c ⟨w3.heap.size, 0, none⟩ 1 (ho3.alloc _) (fun j u hu => cells_new w3 (encI [kr, kp, ep, ef, er]) 53 j u hu) (hx3.alloc hx3.size _); have m0 := (hx3.cell (p := ⟨w.heap.size, 0, none⟩) kl).trans k0; have m1 := (hx3.cell (p := ⟨w.heap.size, 1, none⟩) kl).trans k1; have m2 := (hx3.cell (p := ⟨w.heap.size + 1, 0, none⟩) el).trans e0; have m3 := (hx3.cell (p := ⟨w.heap.size + 1, 1, none⟩) el).trans e1; have m4 := (hx3.cell (p := ⟨w.heap.size + 1, 2, none⟩) el).trans e2; have ml := Nat.lt_of_lt_of_le kl hx3.size; have mm := Nat.lt_of_lt_of_le el hx3.size; clear hb3 hO hx3 ho3) | (have hx3 : Below U.heap.size U w3 := hda.trans (hb3.mono hda.size); have ho3 : OwnT 5 w3 U.heap.size 53 (.slice b xs.length c) (xs.map Rc.l) := ownT_base hO.out hda.size; obtain ⟨b2, c2, w5, hrun, HO5, HB5⟩ := HP.out w3 b c ⟨U.heap.size, 0, none⟩ 1 ho3 (HNZ.out _ hb3) hx3; have m0 := (hx3.cell (p := ⟨w.heap.size, 0, none⟩) kl).trans k0; have m1 := (hx3.cell (p := ⟨w.heap.size, 1, none⟩) kl).trans k1; have m2 := (hx3.cell (p := ⟨w.heap.size + 1, 0, none⟩) el).trans e0; have m3 := (hx3.cell (p := ⟨w.heap.size + 1, 1, none⟩) el).trans e1; have m4 := (hx3.cell (p := ⟨w.heap.size + 1, 2, none⟩) el).trans e2; have ml := Nat.lt_of_lt_of_le kl hx3.size; have mm := Nat.lt_of_lt_of_le el hx3.size; clear hb3 hO hx3 ho3)))
    all_goals
      go_wp2_with fail
      go_meet
      exact ⟨b2, c2, rfl, HO5, HB5⟩
  case rest =>
    obtain ⟨b, c, rfl, HO5, HB5⟩ := hcut
    obtain ⟨b', c', e', hr5, hlc, hcm, hb5, _⟩ := RcRow.own HO5.out
    injection e' with e1' e2' e3'
    clear e2'
    subst e1' e3'
    rw [List.length_append, List.length_singleton, HLN.out] at hlc
    have HD5 := Lib.hid (HD.out.more HB5.out)
    have HBW : Hid (Below w.heap.size w wc) := Lib.hid (HB.out.trans (HB5.out.mono HB.out.size))
    have HR5 := Lib.hid hr5
    have HRB : Hid (∀ y, b = some y → w.heap.size + 2 ≤ y.block) := Lib.hid fun y e => by have := hb5 y e; have := HSZ.out; omega
    have hne : ∃ y, b = some y := by
      obtain ⟨y, e, _⟩ := hr5 xs.length _ (by rw [List.getElem?_append_right (Nat.le_refl _), Nat.sub_self]; rfl)
      exact ⟨y, e⟩
    have c1 := HD5.out.cell1
    have c0 := HD5.out.cell0
    have fz := HD5.out.blk.frozen 0
    have cl := HD5.out.blk.lt
    have hcap : c ≤ 9223372036854775807 := by unfold maxLen at hcm; exact hcm
    have hm : (N : Int) ≤ 1000000 := by have := HWL.out; have := HLN.out; omega
    clear hr5 hb5 hcm HO5 k0 k1 kl e0 e1 e2 el HWO
    by_cases hroom : room < (xs.length + 1 : Nat)
    · have hP : PL = (xs ++ [(⟨kr, kp, ep, ef, er⟩ : Rc)]).drop 1 := HPL.out.trans (if_pos hroom)
      obtain ⟨y, rfl⟩ := hne
      have HPE := Lib.hid hP
      have h1 : (1 : Int) ≤ (N : Int) := by have := HLN.out; omega
      have h2 : (N : Int) ≤ (c : Int) := by omega
      have h3 : room < (N : Int) := by have := HLN.out; omega
      clear hP hroom
      have HT := Lib.hid (RcRow.tail (c := c) HR5.out (fun e => by rw [List.length_append, List.length_singleton]; have := HLN.out; omega))
      have HTB : Hid (∀ z, (if c = 1 then some y else some (⟨y.block, y.off + 5, none⟩ : Addr)) = some z → z.block = y.block) := Lib.hid fun z e => by
        by_cases hc1 : c = 1
        · rw [if_pos hc1] at e; injection e with e; rw [← e]
        · rw [if_neg hc1] at e; injection e with e; rw [← e]
      have HY := Lib.hid (HRB.out y rfl)
      have HN1 : Hid (N - 1 = xs.length) := Lib.hid (by have := HLN.out; omega)
      have HDR : Hid ((xs ++ [(⟨kr, kp, ep, ef, er⟩ : Rc)]).drop 1 = PL) := Lib.hid HPE.out.symm
      have HPL2 : Hid (PL.length = N - 1) := Lib.hid (by rw [HPE.out, List.length_drop, List.length_append, List.length_singleton, HLN.out])
      rw [HDR.out] at HT
      clear HPE HDR HPL HRB HR5 HN1
      go_upto_region 4 with fail
      generalize (if c = 1 then some y else some (⟨y.block, y.off + 5, none⟩ : Addr)) = bt at HT HTB ⊢
      have HD9 := Lib.hid (dt_put (k := N - 1) (c := c - 1) HD5.out.blk HT.out HPL2.out (fun z e => by have := HTB.out z e; have := HY.out; have := HG.out; omega))
      have HK9 := Lib.hid ((Kq.of_below (T := [g]) HBW.out).setCell g 0 (.slice bt (N - 1) (c - 1)) (.inl (by simp)))
      go_wp2
      go_end0
      exact ⟨rfl, ⟨bt, ⟨c - 1, by rw [HPL2.out]; exact HD9.out⟩, fun z e => by have := HTB.out z e; have := HY.out; omega⟩, HK9.out⟩
    · have hP : PL = xs ++ [(⟨kr, kp, ep, ef, er⟩ : Rc)] := HPL.out.trans (if_neg hroom)
      have HD9 := Lib.hid (dt_put (k := N) (c := c) HD5.out.blk HR5.out (by simp; exact HLN.out) (fun y e => by have := HRB.out y e; have := HG.out; omega))
      have HK9 := Lib.hid ((Kq.of_below (T := [g]) HBW.out).setCell g 0 (.slice b N c) (.inl (by simp)))
      have h3 : ¬ room < (N : Int) := by have := HLN.out; omega
      have HPE := Lib.hid hP
      clear hP hroom hlc hcap hne
      go_wp2
      go_end0
      exact ⟨rfl, ⟨b, ⟨c, by rw [HPE.out, List.length_append, List.length_singleton, HLN.out]; exact HD9.out⟩, fun y e => by have := HRB.out y e; omega⟩, HK9.out⟩
end
end Go.Proofs.Ytgcpcffgpokbfaa.Sb
