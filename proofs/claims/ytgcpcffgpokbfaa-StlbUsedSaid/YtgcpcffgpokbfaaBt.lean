/- hermitagelaw18: StlbUsed. -/
import Derived.Test.YtgcpcffgpokbfaaBp
namespace Go.Proofs.Ytgcpcffgpokbfaa.Sb
open Go.RowKit Ut Hg
set_option maxRecDepth 100000
set_option linter.unusedVariables false
set_option maxHeartbeats 8000000

/-- the law's blocks: the key, the entry, the Tlb -/
structure US (w W : World) (kp kq ea eb ec : Int) (room : Int) (k : Nat) (l : List Rc) : Prop where
  key : Blk W w.heap.size 38 [.int .i64 kp, .int .i64 kq]
  ent : Blk W (w.heap.size + 1) 34 [.int .i64 ea, .int .i64 eb, .int .i64 ec]
  p : PU W (w.heap.size + 2) room k l
  b : Below w.heap.size w W
section
variable {w W W' : World} {c1 c2 ea eb ec room : Int} {k m : Nat} {l l' : List Rc}
theorem US.kq (h : US w W c1 c2 ea eb ec room k l) (hp : PU W' (w.heap.size + 2) room m l') (hk : Kq [w.heap.size + 2] W W') : US w W' c1 c2 ea eb ec room m l' :=
  ⟨h.key.kq hk (by simp), h.ent.kq hk (by simp), hp, h.b.trans (hk.under (fun q hq => by simp at hq; omega) h.b.size)⟩
theorem US.more (h : US w W c1 c2 ea eb ec room k l) (hb : Below W.heap.size W W') : US w W' c1 c2 ea eb ec room k l := ⟨h.key.more hb, h.ent.more hb, h.p.more hb, h.b.trans (hb.mono h.b.size)⟩
theorem US.le (h : US w W c1 c2 ea eb ec room k l) (hm : k ≤ m) : US w W c1 c2 ea eb ec room m l := ⟨h.key, h.ent, h.p.le hm, h.b⟩
/-- one that was used ahead of another one that is put is still there -/
theorem used_round {p q : Int} {x : Rc} (hr : 2 ≤ room) (hx : x.is p q = true) (h : findL l p q = some x) : getL l p q = withoutL l p q ++ [x] ∧ findL (getL l p q) p q = some x ∧ ∀ y : Rc, y.is p q = false → findL (putL room (getL l p q) y) p q = some x := by
  obtain ⟨e1, e2⟩ := is_iff.1 hx
  have hg : getL l p q = withoutL l p q ++ [x] := by rw [get_some h, ← e1, ← e2]
  refine ⟨hg, by rw [hg]; exact find_end without_is hx, fun y hy => ?_⟩
  rw [hg]
  have hyx : x.is y.kr y.kp = false := by
    cases hxx : x.is y.kr y.kp with
    | false => rfl
    | true =>
      obtain ⟨g1, g2⟩ := is_iff.1 hxx
      rw [is_iff.2 ⟨g1.symm.trans e1, g2.symm.trans e2⟩] at hy
      cases hy
  have hw : withoutL (withoutL l p q ++ [x]) y.kr y.kp = withoutL (withoutL l p q) y.kr y.kp ++ [x] := by
    conv => lhs; unfold withoutL
    rw [List.filter_append]
    congr 1
    rw [List.filter_cons_of_pos (by rw [hyx]; rfl)]
    rfl
  have hA : ∀ z ∈ withoutL (withoutL l p q) y.kr y.kp, z.is p q = false := fun z hz => without_is z (List.mem_filter.1 hz).1
  unfold putL
  rw [hw]
  generalize withoutL (withoutL l p q) y.kr y.kp = A at hA
  have key : ∀ B : List Rc, (∀ z ∈ B, z.is p q = false) → findL (B ++ [x] ++ [y]) p q = some x := fun B hB => by
    have h1 := find_end hB hx
    unfold findL at h1 ⊢
    rw [List.find?_append, h1]
    rfl
  by_cases hroom : room < ((A ++ [x]).length + 1 : Nat)
  · rw [if_pos hroom]
    match A, hA, hroom with
    | [], _, hroom => simp at hroom; omega
    | a :: A, hA, _ => exact key A fun z hz => hA z (List.mem_cons_of_mem _ hz)
  · rw [if_neg hroom]
    exact key A hA
end

theorem used18_any (x : Nat) (hx : x < 256) (kp kq ea eb ec : Int) (ak : Option Addr) (lk ck : Nat) (Z : Nat → Int × Int) (w : World) (hlk : lk ≤ 9223372036854775807)
    (hk : KeyRow w w.heap.size ak lk Z) :
    Calls Try.prog 5 #[.int .u8 (x : Int), .agg #[.int .i64 kp, .int .i64 kq], .agg #[.int .i64 ea, .int .i64 eb, .int .i64 ec], .slice ak lk ck] w fun e w' => e = .returned (.bool true) ∧ Below w.heap.size w w' := by
  obtain ⟨U, hU⟩ : ∃ U, U = (w.alloc (.cells #[.int .i64 kp, .int .i64 kq] 38)).alloc (.cells #[.int .i64 ea, .int .i64 eb, .int .i64 ec] 34) := ⟨_, rfl⟩
  have hB : Below w.heap.size w U := by rw [hU]; exact ((Below.refl _ _).alloc (Nat.le_refl _) _).alloc (by simp) _
  have hky : Blk U w.heap.size 38 [.int .i64 kp, .int .i64 kq] := by rw [hU]; exact (Blk.new w _ [.int .i64 kp, .int .i64 kq]).more ((Below.refl _ _).alloc (Nat.le_refl _) _)
  have hen : Blk U (w.heap.size + 1) 34 [.int .i64 ea, .int .i64 eb, .int .i64 ec] := by
    have := Blk.new (w.alloc (.cells #[.int .i64 kp, .int .i64 kq] 38)) 34 [.int .i64 ea, .int .i64 eb, .int .i64 ec]
    rw [World.size_alloc] at this
    rw [hU]
    exact this
  have hsz : U.heap.size = w.heap.size + 2 := by rw [hU]; simp
  obtain ⟨r, hr⟩ : ∃ r : Nat, x % 3 = r := ⟨_, rfl⟩
  obtain ⟨n, hn⟩ : ∃ n : Nat, 2 + r = n := ⟨_, rfl⟩
  have hn4 : n ≤ 4 := by omega
  have hx0 : (0 : Int) ≤ (x : Int) := by omega
  have hx1 : (x : Int) < 256 := by omega
  have hnx : (x : Int) % 3 = (r : Int) := by omega
  have hrn : 2 + (r : Int) = (n : Int) := by omega
  have hn40 : (n : Int) ≤ 4 := by omega
  have HNew := puNew n hn4 U
  rw [hsz] at HNew
  have HNew := Lib.hid HNew
  have HK := Lib.hid hk
  have HN4 : Hid ((2 : Int) ≤ (n : Int) ∧ (n : Int) ≤ 4) := Lib.hid (by omega)
  have HU := Lib.hid hU
  have HB := Lib.hid hB
  have HKY := Lib.hid hky
  have HEN := Lib.hid hen
  clear hk hn hr hU hB hky hen hsz hn4
  go_enter Try.func5, Try.ntmps5
  go_upto_region 1 with fail
  rw [← HU.out]
  clear HU
  go_wp2_with fail
  refine HNew.out.mono ?_
  rintro e w1 ⟨rfl, HP1, hb1⟩
  have HS1 : Hid (US w w1 kp kq ea eb ec n 0 []) := Lib.hid ⟨HKY.out.below hb1 (by omega), HEN.out.below hb1 (by omega), HP1.out, HB.out.trans (hb1.mono (by omega))⟩
  clear hb1 HNew HP1 hx hx0 hx1 hnx hrn HKY HEN HB
  obtain ⟨x0, hx0⟩ : ∃ x0 : Rc, x0 = ⟨kp, kq, ea, eb, ec⟩ := ⟨_, rfl⟩
  have HX0 := Lib.hid hx0
  have HXI : Hid (x0.is kp kq = true) := Lib.hid (by rw [hx0]; exact is_iff.2 ⟨rfl, rfl⟩)
  have HXE : Hid (entF (some x0) = (ea, eb, ec)) := Lib.hid (by rw [hx0]; rfl)
  have HF1 : Hid (findL (putL n [] ⟨kp, kq, ea, eb, ec⟩) kp kq = some x0) := Lib.hid (by rw [hx0]; exact put_find (x := ⟨kp, kq, ea, eb, ec⟩) (by have := HN4.out; omega))
  have HL1 : Hid (((putL n [] (⟨kp, kq, ea, eb, ec⟩ : Rc)).length : Int) ≤ n) := Lib.hid (put_len (by omega) (by simp))
  clear hx0
  have k0 := HS1.out.key.cell (j := 0) rfl
  have k1 := HS1.out.key.cell (j := 1) rfl
  have kl := HS1.out.key.lt
  have e0 := HS1.out.ent.cell (j := 0) rfl
  have e1 := HS1.out.ent.cell (j := 1) rfl
  have e2 := HS1.out.ent.cell (j := 2) rfl
  have el := HS1.out.ent.lt
  go_wp2_with fail
  refine (puPut ⟨kp, kq, ea, eb, ec⟩ HS1.out.p (by simp) HN4.out.2 (by decide)).mono ?_
  rintro e w2 ⟨rfl, HPA, hk2⟩
  have HS2 : Hid (US w w2 kp kq ea eb ec n (2 * 0 + 1) (putL n [] ⟨kp, kq, ea, eb, ec⟩)) := Lib.hid (HS1.out.kq HPA.out hk2)
  clear HPA hk2 HS1 k0 k1 kl e0 e1 e2 el
  go_wp2
  go_loopw [12] (fun j wr => ∃ (i : Nat) (l : List Rc), j = .int .i64 i ∧ i ≤ 60 ∧ Hid (findL l kp kq = some x0) ∧ Hid ((l.length : Int) ≤ n) ∧ Hid (US w wr kp kq ea eb ec n (2 * i + 1) l)) (fun j _ => 60 - (intOf j).toNat)
  case atStart => exact ⟨0, putL n [] ⟨kp, kq, ea, eb, ec⟩, rfl, by omega, HF1, HL1, HS2⟩
  case round =>
    clear HS2 HF1 HL1
    obtain ⟨i, l, rfl, hi, HFI, HLN, HS⟩ := hrel
    obtain ⟨hg2, hf2, hp2⟩ := used_round (room := n) HN4.out.1 HXI.out HFI.out
    have HLN2 : Hid (((getL l kp kq).length : Int) ≤ n) := Lib.hid (by have := get_len (l := l) (p := kp) (q := kq); have := HLN.out; omega)
    have HF2 := Lib.hid hf2
    have HP2 := Lib.hid hp2
    have k0 := HS.out.key.cell (j := 0) rfl
    have k1 := HS.out.key.cell (j := 1) rfl
    have kl := HS.out.key.lt
    clear hg2 hf2 hp2
    obtain ⟨l2, hl2⟩ : ∃ l2, getL l kp kq = l2 := ⟨_, rfl⟩
    have HG2 := Lib.hid hl2
    rw [hl2] at HLN2 HF2 HP2
    clear hl2
    by_cases hin : i < lk ∧ i < 60
    · obtain ⟨h0, h1⟩ := hin
      obtain ⟨kk, rfl, hyc⟩ := key_on HK.out h0
      have HYC := Lib.hid hyc
      have f0 : (i : Int) < (lk : Int) := by omega
      have f1 : (i : Int) < 60 := by omega
      have f2 : (0 : Int) ≤ (i : Int) := by omega
      have H3 := Lib.hid h1
      clear hyc h0 h1 hi
      generalize Z i = zk at HYC
      obtain ⟨zp, zq⟩ := zk
      go_wp2_with fail
      refine (puGet kp kq (some x0) HFI.out HS.out.p (by have := H3.out; omega)).mono ?_
      rintro e w3 ⟨rfl, HPA, hk3⟩
      rw [HG2.out] at HPA
      have HS3 := Lib.hid (HS.out.kq HPA.out hk3)
      clear HPA hk3 HS k0 k1 kl
      rw [HXE.out, Option.isSome_some]
      unfold entV
      dsimp only
      have HS4 : Hid (US w (w3.alloc (.cells #[.int .i64 ea, .int .i64 eb, .int .i64 ec] 34)) kp kq ea eb ec n (2 * i + 1 + 1) l2) := Lib.hid (HS3.out.more ((Below.refl _ _).alloc (Nat.le_refl _) _))
      have HN4' : Hid (Blk (w3.alloc (.cells #[.int .i64 ea, .int .i64 eb, .int .i64 ec] 34)) w3.heap.size 34 [.int .i64 ea, .int .i64 eb, .int .i64 ec]) := Lib.hid (Blk.new w3 _ [.int .i64 ea, .int .i64 eb, .int .i64 ec])
      clear HS3
      go_upto_region 10 with fail
      generalize w3.alloc (.cells #[.int .i64 ea, .int .i64 eb, .int .i64 ec] 34) = V at HS4 HN4' ⊢
      generalize w3.heap.size = eb0 at HN4' ⊢
      have k0 := HS4.out.key.cell (j := 0) rfl
      have k1 := HS4.out.key.cell (j := 1) rfl
      have kl := HS4.out.key.lt
      have e0 := HS4.out.ent.cell (j := 0) rfl
      have e1 := HS4.out.ent.cell (j := 1) rfl
      have e2 := HS4.out.ent.cell (j := 2) rfl
      have el := HS4.out.ent.lt
      have r0 := HN4'.out.cell (j := 0) rfl
      have r1 := HN4'.out.cell (j := 1) rfl
      have r2 := HN4'.out.cell (j := 2) rfl
      have rl := HN4'.out.lt
      obtain ⟨m0, m1, m2, m3⟩ := HYC.out V HS4.out.b
      try dsimp only at m2 m3
      go_upto_region 12 with fail
      clear e0 e1 e2 el r0 r1 r2 rl HN4'
      have hcases : ((⟨zp, zq, (i : Int), 0, 0⟩ : Rc).is kp kq = true ∧ zp = kp ∧ zq = kq) ∨ ((⟨zp, zq, (i : Int), 0, 0⟩ : Rc).is kp kq = false ∧ (zp == kp) = false) ∨ ((⟨zp, zq, (i : Int), 0, 0⟩ : Rc).is kp kq = false ∧ zp = kp ∧ (zq == kq) = false) := is_cases ⟨zp, zq, (i : Int), 0, 0⟩ kp kq
      rcases hcases with ⟨hy, h1, h2⟩ | ⟨hy, h1⟩ | ⟨hy, h1, h2⟩
      · subst h1 h2
        clear hy
        go_quiet (fail)
        have HS9 : Hid (US w (V.drewN nq) zp zq ea eb ec n (2 * (i + 1) + 1) l2) := Lib.hid ((HS4.out.more (below_drewN (Below.refl _ _) nq)).le (by omega))
        clear HS4 k0 k1 kl m0 m1 m2 m3
        go_wp2
        go_roundw
        case rel => exact ⟨i + 1, l2, by go_num, H3.out, HF2, HLN2, HS9⟩
        case measure => have := H3.out; simp [intOf]; omega
      · have HFP := Lib.hid (HP2.out _ hy)
        have HLP : Hid (((putL n l2 (⟨zp, zq, (i : Int), 0, 0⟩ : Rc)).length : Int) ≤ n) := Lib.hid (put_len (by omega) HLN2.out)
        clear hy
        go_quiet (fail)
        have HS5 := Lib.hid (HS4.out.more (below_drewN (Below.refl _ _) nq))
        generalize V.drewN nq = V2 at HS5 ⊢
        clear k0 k1 kl m0 m1 m2 m3 HS4 h1
        obtain ⟨m0, m1, m2, m3⟩ := HYC.out V2 HS5.out.b
        try dsimp only at m2 m3
        go_wp2_with fail
        refine (puPut ⟨zp, zq, (i : Int), 0, 0⟩ HS5.out.p HLN2.out HN4.out.2 (by have := H3.out; omega)).mono ?_
        rintro e w6 ⟨rfl, HPA, hk6⟩
        have HS9 : Hid (US w w6 kp kq ea eb ec n (2 * (i + 1) + 1) (putL n l2 (⟨zp, zq, (i : Int), 0, 0⟩ : Rc))) := Lib.hid ((HS5.out.kq HPA.out hk6).le (by omega))
        clear HPA hk6 HS5 m0 m1 m2 m3
        go_wp2
        go_roundw
        case rel => exact ⟨i + 1, _, by go_num, H3.out, HFP, HLP, HS9⟩
        case measure => have := H3.out; simp [intOf]; omega
      · have HFP := Lib.hid (HP2.out _ hy)
        have HLP : Hid (((putL n l2 (⟨zp, zq, (i : Int), 0, 0⟩ : Rc)).length : Int) ≤ n) := Lib.hid (put_len (by omega) HLN2.out)
        clear hy
        subst h1
        go_quiet (fail)
        have HS5 := Lib.hid (HS4.out.more (below_drewN (Below.refl _ _) nq))
        generalize V.drewN nq = V2 at HS5 ⊢
        clear k0 k1 kl m0 m1 m2 m3 HS4 h2
        obtain ⟨m0, m1, m2, m3⟩ := HYC.out V2 HS5.out.b
        try dsimp only at m2 m3
        go_wp2_with fail
        refine (puPut ⟨zp, zq, (i : Int), 0, 0⟩ HS5.out.p HLN2.out HN4.out.2 (by have := H3.out; omega)).mono ?_
        rintro e w6 ⟨rfl, HPA, hk6⟩
        have HS9 : Hid (US w w6 zp kq ea eb ec n (2 * (i + 1) + 1) (putL n l2 (⟨zp, zq, (i : Int), 0, 0⟩ : Rc))) := Lib.hid ((HS5.out.kq HPA.out hk6).le (by omega))
        clear HPA hk6 HS5 m0 m1 m2 m3
        go_wp2
        go_roundw
        case rel => exact ⟨i + 1, _, by go_num, H3.out, HFP, HLP, HS9⟩
        case measure => have := H3.out; simp [intOf]; omega
    · have hout : (¬ (i : Int) < (lk : Int)) ∨ ((i : Int) < (lk : Int) ∧ ¬ (i : Int) < 60) := by omega
      have HI := Lib.hid hi
      rcases hout with f1 | ⟨f1, f2⟩
      all_goals
        clear hin hi HK
        go_wp2_with fail
        refine (puGet kp kq (some x0) HFI.out HS.out.p (by have := HI.out; omega)).mono ?_
        rintro e w3 ⟨rfl, HPA, hk3⟩
        rw [HG2.out] at HPA
        have HS3 := Lib.hid (HS.out.kq HPA.out hk3)
        clear HPA hk3 HS k0 k1 kl
        rw [HXE.out, Option.isSome_some]
        unfold entV
        dsimp only
        have HS4 : Hid (US w (w3.alloc (.cells #[.int .i64 ea, .int .i64 eb, .int .i64 ec] 34)) kp kq ea eb ec n (2 * i + 1 + 1) l2) := Lib.hid (HS3.out.more ((Below.refl _ _).alloc (Nat.le_refl _) _))
        have HN4' : Hid (Blk (w3.alloc (.cells #[.int .i64 ea, .int .i64 eb, .int .i64 ec] 34)) w3.heap.size 34 [.int .i64 ea, .int .i64 eb, .int .i64 ec]) := Lib.hid (Blk.new w3 _ [.int .i64 ea, .int .i64 eb, .int .i64 ec])
        clear HS3
        go_upto_region 15 with fail
        generalize w3.alloc (.cells #[.int .i64 ea, .int .i64 eb, .int .i64 ec] 34) = V at HS4 HN4' ⊢
        generalize w3.heap.size = eb0 at HN4' ⊢
        have e0 := HS4.out.ent.cell (j := 0) rfl
        have e1 := HS4.out.ent.cell (j := 1) rfl
        have e2 := HS4.out.ent.cell (j := 2) rfl
        have el := HS4.out.ent.lt
        have r0 := HN4'.out.cell (j := 0) rfl
        have r1 := HN4'.out.cell (j := 1) rfl
        have r2 := HN4'.out.cell (j := 2) rfl
        have rl := HN4'.out.lt
        obtain ⟨m, hm⟩ : ∃ m, l2.length = m := ⟨_, rfl⟩
        have hmn : (m : Int) ≤ (n : Int) := by have := HLN2.out; omega
        have hmn2 : m ≤ n := by omega
        have HLEN := Lib.hid (puLen m hm HS4.out.p)
        clear hm
        go_wp2_with fail
        refine HLEN.out.mono ?_
        rintro e w4 ⟨rfl, rfl⟩
        clear HLEN e0 e1 e2 el r0 r1 r2 rl HN4'
        go_wp2_with fail
        refine (awake18 V).mono ?_
        rintro e w6 ⟨rfl, hb⟩
        have HB6 := Lib.hid (HS4.out.b.trans (hb.mono HS4.out.b.size))
        clear hb HS4
        go_wp2
        go_ret
        exact ⟨rfl, HB6.out⟩
end Go.Proofs.Ytgcpcffgpokbfaa.Sb
