/- The walk of ShadowOne. -/
import Derived.Test.YtcdiigdbjncpeaaJl
import Derived.Deep.Cut
import Derived.Deep.DeepCutAuto
import Derived.Deep.CutBlock
import Derived.Deep.CutRange
namespace Go.Proofs.Ytcdiigdbjncpeaa.Sw
open Go.RowKit Ut
set_option maxRecDepth 100000
set_option linter.unusedVariables false
set_option maxHeartbeats 4000000

theorem outS_get (m : List Ln) (r f : Int) (i : Nat) : (outS m r f m.length)[i]? = (m[i]?).map fun z => if loseB m r f i z = true then clrS z else z := by
  unfold outS
  rw [List.take_length, List.getElem?_mapIdx]
theorem clr_is (z : Ln) (p q : Int) : (clrS z).is p q = z.is p q := rfl
/-- whose translation it is, and whether it lost the right to write -/
theorem fill_find (l : List Ln) (x : Ln) (h : l.length ≤ 32) : findS (fillS l x) x.kr x.kp = some (if tabL (fillS l x) x.ep = true then clrS x else x) := by
  obtain ⟨ws, e, hs, _⟩ := add_split l x h
  have ht : tabL (fillS l x) x.ep = tabL (addS l x) x.ep := tab_out _ _ _ _
  have hl : loseB (addS l x) x.rt x.lf ws.length x = tabL (addS l x) x.ep := by
    have hxm : x ∈ addS l x := by rw [e]; simp
    unfold loseB
    rw [show decide (ws.length + 1 = (addS l x).length) = true by rw [e]; simp]
    cases h1 : x.ep == x.rt with
    | true => rw [Bool.true_or]; exact (tab_iff.2 ⟨x, hxm, .inl (by rw [beq_iff_eq] at h1; exact h1.symm)⟩).symm
    | false =>
      cases h2 : x.ep == x.lf with
      | true => rw [Bool.true_or, Bool.false_or]; exact (tab_iff.2 ⟨x, hxm, .inr (by rw [beq_iff_eq] at h2; exact h2.symm)⟩).symm
      | false => rw [Bool.false_or, Bool.false_or, Bool.true_and]
  refine foundS (i := ws.length) (fun y hy => ?_) ?_ ?_
  · obtain ⟨j, hj, hyj⟩ := List.mem_take_iff_getElem.1 hy
    have hj1 : j < ws.length := by omega
    have hg := outS_get (addS l x) x.rt x.lf j
    have e1 : (addS l x)[j]? = some ws[j] := by rw [e, List.getElem?_append_left hj1, List.getElem?_eq_getElem hj1]
    rw [e1] at hg
    have hg2 : (fillS l x)[j]? = some y := by rw [List.getElem?_eq_getElem (by omega), hyj]
    unfold fillS at hg2
    rw [hg2] at hg
    simp only [Option.map_some, Option.some.injEq] at hg
    have hn : (ws[j]).is x.kr x.kp = false := by
      have := (List.mem_filter.1 (hs.subset (List.getElem_mem hj1))).2
      simpa using this
    rw [hg]
    split
    · rw [clr_is]; exact hn
    · exact hn
  · show (outS (addS l x) x.rt x.lf (addS l x).length)[ws.length]? = _
    rw [outS_get, show (addS l x)[ws.length]? = some x by rw [e]; simp]
    simp only [Option.map_some]
    rw [hl, ht]
  · have : x.is x.kr x.kp = true := is_iffS.2 rfl
    split
    · rw [clr_is]; exact this
    · exact this
theorem count_is (l : List Ln) (p q : Int) : l.countP (fun x => x.is p q) = (l.map kyS).count (p, q) := by
  rw [List.count, List.countP_map]
  congr 1
theorem count_one {l : List Ln} {p q : Int} {z : Ln} (h : KeyU l) (hf : findS l p q = some z) : l.countP (fun x => x.is p q) = 1 := by
  have h1 : l.countP (fun x => x.is p q) ≤ 1 := by rw [count_is]; exact List.nodup_iff_count.1 h _
  unfold findS at hf
  have h2 : 0 < l.countP (fun x => x.is p q) := List.countP_pos_iff.2 ⟨z, List.mem_of_find?_eq_some hf, @List.find?_some _ (fun x : Ln => x.is p q) _ _ hf⟩
  omega
theorem withS_count (l : List Ln) (p q : Int) : (withS l p q).length + l.countP (fun x => x.is p q) = l.length := by
  unfold withS
  induction l with
  | nil => rfl
  | cons x l ih =>
    rw [List.filter_cons, List.countP_cons]
    cases x.is p q <;> simp <;> omega
theorem fill_len_had {l : List Ln} {x z : Ln} (h : Inv19 l) (hf : findS l x.kr x.kp = some z) : (fillS l x).length = l.length := by
  have h1 := withS_count l x.kr x.kp
  rw [count_one h.u hf] at h1
  have h2 := h.n
  rw [fill_len l x h.n]
  omega
theorem fill_len_not {l : List Ln} {x : Ln} (h : Inv19 l) (hf : findS l x.kr x.kp = none) : (fillS l x).length = min l.length 31 + 1 := by
  have h1 := withS_count l x.kr x.kp
  have h3 : l.countP (fun y => y.is x.kr x.kp) = 0 := by
    rw [List.countP_eq_zero]
    intro y hy
    unfold findS at hf
    exact List.find?_eq_none.1 hf y hy
  rw [fill_len l x h.n]
  omega
theorem count_at {l : List Ln} {p q : Int} {i : Nat} {x : Ln} (hx : l[i]? = some x) : (l.take (i + 1)).countP (fun x => x.is p q) = (l.take i).countP (fun x => x.is p q) + (if x.is p q = true then 1 else 0) := by
  rw [List.take_add_one, hx, List.countP_append, Option.toList_some, List.countP_cons, List.countP_nil]
  omega
theorem u8_own (r : Nat) (h : r < 8) : ownP (r : Int) = true := by
  unfold ownP
  simp
  omega

section
variable {PS : World → Nat → List Nat → List Ln → Prop} (C : ProgC PS)
include C
theorem one_any (xr xf : Nat) (hxr : xr < 256) (hxf : xf < 256) (kp kq ea eb ec : Int) (hec : -9223372036854775808 ≤ ec) (hec2 : ec < 9223372036854775808) (a : Option Addr) (len cap : Nat) (Z : Nat → Ak) (w : World) (hlen : len ≤ 9223372036854775807) (hz : AkRow w a len Z) :
    Calls Try.prog 6 #[.slice a len cap, .agg #[.int .i64 kp, .int .i64 kq], .agg #[.int .i64 ea, .int .i64 eb, .int .i64 ec], .int .u8 (xr : Int), .int .u8 (xf : Int)] w fun e w' => e = .returned (.bool true) ∧ Below w.heap.size w w' := by
  obtain ⟨U, hU⟩ : ∃ U, U = (w.alloc (.cells #[.int .i64 kp, .int .i64 kq] 30)).alloc (.cells #[.int .i64 ea, .int .i64 eb, .int .i64 ec] 32) := ⟨_, rfl⟩
  have hB : Below w.heap.size w U := by rw [hU]; exact ((Below.refl _ _).alloc (Nat.le_refl _) _).alloc (by simp) _
  have hky : Blk U w.heap.size 30 [.int .i64 kp, .int .i64 kq] := by rw [hU]; exact (Blk.new w _ [.int .i64 kp, .int .i64 kq]).more ((Below.refl _ _).alloc (Nat.le_refl _) _)
  have hen : Blk U (w.heap.size + 1) 32 [.int .i64 ea, .int .i64 eb, .int .i64 ec] := by
    have := Blk.new (w.alloc (.cells #[.int .i64 kp, .int .i64 kq] 30)) 32 [.int .i64 ea, .int .i64 eb, .int .i64 ec]
    rw [World.size_alloc] at this
    rw [hU]
    exact this
  obtain ⟨r, hr⟩ : ∃ r : Nat, xr % 8 = r := ⟨_, rfl⟩
  obtain ⟨f, hf⟩ : ∃ f : Nat, xf % 8 = f := ⟨_, rfl⟩
  have HOR : Hid (ownP (r : Int) = true ∧ ownP (f : Int) = true) := Lib.hid ⟨u8_own r (by omega), u8_own f (by omega)⟩
  have HEC : Hid (-9223372036854775808 ≤ ec ∧ ec < 9223372036854775808) := Lib.hid ⟨hec, hec2⟩
  have hr8 : (r : Int) < 8 := by omega
  have hr0 : (0 : Int) ≤ (r : Int) := by omega
  have hf8 : (f : Int) < 8 := by omega
  have hf0 : (0 : Int) ≤ (f : Int) := by omega
  have hxr0 : (0 : Int) ≤ (xr : Int) := by omega
  have hxr1 : (xr : Int) < 256 := by omega
  have hxrr : (xr : Int) % 8 = (r : Int) := by omega
  have hxf0 : (0 : Int) ≤ (xf : Int) := by omega
  have hxf1 : (xf : Int) < 256 := by omega
  have hxff : (xf : Int) % 8 = (f : Int) := by omega
  have HZ := Lib.hid hz
  have HN := Lib.hid (qNew C U)
  have HC := Lib.hid C
  have HU := Lib.hid hU
  have HB := Lib.hid hB
  have HCL : Hid (∀ W, Below U.heap.size U W → (w.heap.size < W.heap.size ∧ W.cell? ⟨w.heap.size, 0, none⟩ = some (.int .i64 kp) ∧ W.cell? ⟨w.heap.size, 1, none⟩ = some (.int .i64 kq)) ∧ w.heap.size + 1 < W.heap.size ∧ W.cell? ⟨w.heap.size + 1, 0, none⟩ = some (.int .i64 ea) ∧ W.cell? ⟨w.heap.size + 1, 1, none⟩ = some (.int .i64 eb) ∧ W.cell? ⟨w.heap.size + 1, 2, none⟩ = some (.int .i64 ec)) := Lib.hid fun W hb =>
    ⟨⟨(hky.more hb).lt, (hky.more hb).cell (j := 0) rfl, (hky.more hb).cell (j := 1) rfl⟩, (hen.more hb).lt, (hen.more hb).cell (j := 0) rfl, (hen.more hb).cell (j := 1) rfl, (hen.more hb).cell (j := 2) rfl⟩
  have hlen0 : (len : Int) ≤ 9223372036854775807 := by omega
  clear hz C hr hf hxr hxf hU hB hky hen hec hec2
  go_enter Try.func6, Try.ntmps6
  go_upto_region 1 with fail
  rw [← HU.out]
  clear HU
  generalize hkb : w.heap.size = kb at HCL ⊢
  have HKB := Lib.hid hkb
  clear hkb
  go_wp2_with fail
  refine HN.out.mono ?_
  rintro e w1 ⟨g, rfl, HQ1⟩
  clear HN
  go_upto_block 0 with fail
  go_cut [] (fun wx => ∃ l, Hid (Inv19 l) ∧ Hid (RQ PS U wx g l []))
  case first =>
    go_wp2
    go_loopw [12] (fun j wr => ∃ (k : Nat) (l : List Ln), k ≤ 60 ∧ j = .int .i64 k ∧ Hid (Inv19 l) ∧ Hid (RQ PS U wr g l [])) (fun j _ => 60 - (intOf j).toNat)
    case atStart => exact ⟨0, [], Nat.zero_le _, rfl, Lib.hid Inv19.nil, HQ1⟩
    case round =>
      clear HQ1
      obtain ⟨k, l, hk, rfl, HI, HQ⟩ := hrel
      by_cases hin : k < len ∧ k < 60
      · obtain ⟨h0, h1⟩ := hin
        obtain ⟨y, rfl, hw, hc⟩ := act_on HZ.out h0
        obtain ⟨y1, y2, c0, c1, c2, c3, c4, c5, c6, c7⟩ := hc wr (HB.out.trans (HQ.out.b.mono HB.out.size))
        have HW := Lib.hid hw
        have H1 := Lib.hid h1
        generalize Z k = x at HW c0 c1 c2 c3 c4 c5 c6 c7
        have f0 : (k : Int) < (len : Int) := by omega
        have f1 : (k : Int) < 60 := by omega
        have f2 : (0 : Int) ≤ (k : Int) := by omega
        clear hc hk h0 h1 hw
        go_wp2_with fail
        refine (qDoes HC.out x HW.out HQ.out).mono ?_
        rintro e w2 ⟨⟨u0, u1, u2, rfl⟩, HQ2⟩
        have HI2 := Lib.hid (HI.out.act x)
        clear HQ HI HW c0 c1 c2 c3 c4 c5 c6 c7 y1 y2
        go_wp2
        go_roundw
        case rel => exact ⟨k + 1, _, H1.out, by go_num, HI2, HQ2⟩
        case measure => have := H1.out; simp [intOf]; omega
      · have hout : (¬ (k : Int) < (len : Int)) ∨ ((k : Int) < (len : Int) ∧ ¬ (k : Int) < 60) := by omega
        clear hin HZ hk hlen0
        rcases hout with f1 | ⟨f1, f2⟩
        all_goals
          go_wp2
          go_meet
          exact ⟨l, HI, HQ⟩
  case rest =>
    clear HQ1 HZ hlen0
    obtain ⟨l, HI, HQ⟩ := hcut
    obtain ⟨n, hn⟩ : ∃ n, l.length = n := ⟨_, rfl⟩
    have HN0 := Lib.hid hn
    have hn32 : (n : Int) ≤ 32 := by have := HI.out.n; omega
    clear hn
    obtain ⟨o, ho⟩ : ∃ o, findS l kp kq = o := ⟨_, rfl⟩
    have HO := Lib.hid ho
    clear ho
    obtain ⟨a0, a1, a2, haeq⟩ : ∃ a0 a1 a2, entS o = (a0, a1, a2) := ⟨_, _, _, rfl⟩
    have HAE := Lib.hid haeq
    clear haeq
    obtain ⟨tt, htt⟩ : ∃ tt, toldS l r f 8 = tt := ⟨_, rfl⟩
    have HTT := Lib.hid htt
    clear htt
    obtain ⟨l4, hl4⟩ : ∃ l4, fillS l ⟨kp, kq, ea, eb, ec, r, f⟩ = l4 := ⟨_, rfl⟩
    obtain ⟨t, ht⟩ : ∃ t, tabL l4 ea = t := ⟨_, rfl⟩
    obtain ⟨n4, hn4⟩ : ∃ n4, l4.length = n4 := ⟨_, rfl⟩
    have HL4 := Lib.hid hl4
    have HN4 := Lib.hid hn4
    have HT := Lib.hid ht
    obtain ⟨e2, he2⟩ : ∃ e2, (if t = true then bits .andNot .i64 ec 2 else ec) = e2 := ⟨_, rfl⟩
    have HE2 := Lib.hid he2
    have HF : Hid (findS l4 kp kq = some ⟨kp, kq, ea, eb, e2, r, f⟩) := Lib.hid (by
      rw [← hl4]
      refine (fill_find l ⟨kp, kq, ea, eb, ec, r, f⟩ HI.out.n).trans ?_
      show some (if tabL (fillS l ⟨kp, kq, ea, eb, ec, r, f⟩) ea = true then _ else _) = _
      rw [hl4, ht, ← he2]
      cases t <;> rfl)
    have HI4 : Hid (Inv19 l4) := Lib.hid (by rw [← hl4]; exact HI.out.fill _)
    have HCN : Hid (l4.countP (fun x => x.is kp kq) = 1) := Lib.hid (count_one HI4.out.u HF.out)
    have HAN : Hid (bits .andNot .i64 e2 2 = bits .andNot .i64 ec 2) := Lib.hid (by
      rw [← he2]
      cases t with
      | true => rw [if_pos rfl]; exact twice_two2 ec
      | false => rw [if_neg (by decide)])
    obtain ⟨hs, hhs⟩ : ∃ hs, o.isSome = hs := ⟨_, rfl⟩
    have HHS := Lib.hid hhs
    have HWT : Hid ((n4 : Int) = (if hs = true then (n : Int) else min ((n : Int) + 1) 32)) := Lib.hid (by
      have h1 := HN0.out
      have h2 := hn4
      rw [← hl4] at h2
      cases o with
      | some z =>
        obtain rfl : hs = true := hhs.symm
        rw [fill_len_had (x := ⟨kp, kq, ea, eb, ec, r, f⟩) HI.out HO.out] at h2
        rw [if_pos rfl]
        omega
      | none =>
        obtain rfl : hs = false := hhs.symm
        rw [fill_len_not (x := ⟨kp, kq, ea, eb, ec, r, f⟩) HI.out HO.out] at h2
        rw [if_neg (by decide)]
        omega)
    have hn432 : (n4 : Int) ≤ 32 := by have := HI4.out.n; omega
    clear hl4 hn4 ht he2 hhs HI
    go_wp2_with fail
    refine (qLen HC.out n HN0.out HQ.out).mono ?_
    rintro e w2 ⟨rfl, hb2⟩
    have HQ2 := Lib.hid (RQ.more HC.out HQ.out hb2)
    clear HQ hb2
    obtain ⟨⟨kl, k0, k1⟩, _⟩ := HCL.out w2 HQ2.out.b
    go_wp2_with fail
    refine (qGet HC.out kp kq o HO.out HQ2.out).mono ?_
    rintro e w3 ⟨rfl, hb3⟩
    have HQ3 := Lib.hid (RQ.more HC.out HQ2.out hb3)
    rw [HAE.out, HHS.out]
    unfold entW
    dsimp only
    have HQ4 := Lib.hid (RQ.more HC.out HQ3.out ((Below.refl _ w3).alloc (Nat.le_refl _) (.cells #[.int .i64 a0, .int .i64 a1, .int .i64 a2] 32)))
    clear HQ2 HQ3 hb3 kl k0 k1
    go_upto_region 10 with fail
    generalize w3.alloc (.cells #[.int .i64 a0, .int .i64 a1, .int .i64 a2] 32) = V4 at HQ4 ⊢
    obtain ⟨⟨kl, k0, k1⟩, el, e0, e1, e3⟩ := HCL.out V4 HQ4.out.b
    go_wp2_with fail
    refine (qYes HC.out kp kq ea eb ec r f tt _ HTT.out rfl HQ4.out HOR.out.1 HOR.out.2 HEC.out.1 HEC.out.2).mono ?_
    rintro e w5 ⟨⟨ta, tc, rfl, _⟩, HQ5⟩
    rw [HL4.out] at HQ5
    clear HQ4 kl k0 k1 el e0 e1 e3
    obtain ⟨⟨kl, k0, k1⟩, el, e0, e1, e3⟩ := HCL.out w5 HQ5.out.b
    go_wp2_with fail
    refine (qGet HC.out kp kq _ HF.out HQ5.out).mono ?_
    rintro e w6 ⟨rfl, hb6⟩
    have HQ6 := Lib.hid (RQ.more HC.out HQ5.out hb6)
    rw [Option.isSome_some, show entS (some (⟨kp, kq, ea, eb, e2, r, f⟩ : Ln)) = (ea, eb, e2) from rfl]
    unfold entW
    dsimp only
    have HQ7 := Lib.hid (RQ.more HC.out HQ6.out ((Below.refl _ w6).alloc (Nat.le_refl _) (.cells #[.int .i64 ea, .int .i64 eb, .int .i64 e2] 32)))
    have HFB : Hid (Blk (w6.alloc (.cells #[.int .i64 ea, .int .i64 eb, .int .i64 e2] 32)) w6.heap.size 32 [.int .i64 ea, .int .i64 eb, .int .i64 e2]) := Lib.hid (Blk.new w6 _ [.int .i64 ea, .int .i64 eb, .int .i64 e2])
    clear HQ5 HQ6 hb6 kl k0 k1 el e0 e1 e3
    go_upto_region 12 with fail
    generalize w6.alloc (.cells #[.int .i64 ea, .int .i64 eb, .int .i64 e2] 32) = V7 at HQ7 HFB ⊢
    generalize w6.heap.size = fb at HFB ⊢
    go_upto_if 72 with fail
    go_cut [20] (fun v wx => v = .int .i64 n4 ∧ wx = V7)
    case first =>
      cases hs with
      | true =>
        have hw := HWT.out
        rw [if_pos rfl] at hw
        obtain rfl : n4 = n := by omega
        clear hw HWT
        go_wp2
        go_meet
        exact ⟨rfl, rfl⟩
      | false =>
        have hw := HWT.out
        rw [if_neg (by decide)] at hw
        clear HWT
        go_wp2
        go_meet
        exact ⟨by rw [hw], rfl⟩
    case rest =>
      obtain ⟨rfl, rfl⟩ := hcut
      obtain ⟨⟨kl, k0, k1⟩, el, e0, e1, e3⟩ := HCL.out wc HQ7.out.b
      have r0 := HFB.out.cell (j := 0) rfl
      have r1 := HFB.out.cell (j := 1) rfl
      have r2 := HFB.out.cell (j := 2) rfl
      have rl := HFB.out.lt
      have han := HAN.out
      go_wp2_with fail
      refine (qLen HC.out n4 HN4.out HQ7.out).mono ?_
      rintro e w8 ⟨rfl, hb8⟩
      have HQ8 := Lib.hid (RQ.more HC.out HQ7.out hb8)
      have HFB8 := Lib.hid (HFB.out.more hb8)
      clear HQ7 HFB r0 r1 r2 rl kl k0 k1 el e0 e1 e3 hb8 han
      go_wp2_with fail
      refine (qList HC.out n4 HN4.out HQ8.out).mono ?_
      rintro e w9 ⟨⟨b, c, rfl, HTL⟩, hb9⟩
      have HQ9 := Lib.hid HTL.out.1
      have HFB9 := Lib.hid (HFB8.out.more hb9)
      clear HQ8 HFB8 HTL hb9
      go_wp2
      go_loopw [23, 21] (fun j m wx => ∃ (i cn : Nat), i ≤ n4 ∧ cn ≤ i ∧ j = .int .i64 i ∧ m = .int .i64 cn ∧ Hid ((l4.take i).countP (fun x => x.is kp kq) = cn) ∧ Hid (RQ PS U wx g l4 [(b, l4.map Ln.kept)]) ∧ Hid (Blk wx fb 32 [.int .i64 ea, .int .i64 eb, .int .i64 e2])) (fun j _ _ => n4 - (intOf j).toNat)
      case atStart => exact ⟨0, 0, Nat.zero_le _, Nat.le_refl _, rfl, rfl, Lib.hid (by simp), HQ9, HFB9⟩
      case round =>
        clear HQ9 HFB9
        obtain ⟨i, cn, hi, hci, rfl, rfl, HCC, HQX, HFX⟩ := hrel
        by_cases hlt : i < n4
        · have H4 := Lib.hid hlt
          have H5 := Lib.hid hci
          obtain ⟨z, yy, hz, _, rfl, hy0, hy1, d0, d1, d2, d3, d4⟩ := kept_at (HQX.out.row (List.mem_singleton.2 rfl)) (j := i) (by rw [HN4.out]; exact hlt)
          obtain ⟨⟨kl, k0, k1⟩, _⟩ := HCL.out _ HQX.out.b
          have q0 : (i : Int) < (n4 : Int) := by omega
          have q1 : (0 : Int) ≤ (i : Int) := by omega
          have q2 : (cn : Int) ≤ (i : Int) := by omega
          have q3 : (0 : Int) ≤ (cn : Int) := by omega
          have HZZ := Lib.hid hz
          have hks := isS_cases z kp kq
          clear hz hlt hi hci
          obtain ⟨zkr, zkp, zep, zef, zer, zrt, zlf⟩ := z
          dsimp only at d0 d1 d2 d3 d4 hks
          rcases hks with ⟨h1, h2, h3⟩ | ⟨h1, h2⟩ | ⟨h1, h2, h3⟩
          · have h2' := h2.symm
            have h3' := h3.symm
            subst h2' h3'
            have HC2 : Hid ((l4.take (i + 1)).countP (fun x => x.is kp kq) = cn + 1) := Lib.hid (by rw [count_at HZZ.out, if_pos h1, HCC.out])
            clear h1 h2 h3
            go_wp2
            go_quiet (fail)
            go_wp2
            go_roundw
            case rel => exact ⟨i + 1, cn + 1, H4.out, (by have := H5.out; omega), by go_num, by go_num, HC2, Lib.hid (RQ.more HC.out HQX.out (drewN_below (Below.refl _ _) _)), Lib.hid (HFX.out.more (drewN_below (Below.refl _ _) _))⟩
            case measure => have := H4.out; simp [intOf]; omega
          · have HC2 : Hid ((l4.take (i + 1)).countP (fun x => x.is kp kq) = cn) := Lib.hid (by rw [count_at HZZ.out, if_neg (by rw [h1]; decide), HCC.out]; rfl)
            clear h1
            go_wp2
            go_quiet (fail)
            go_wp2
            go_roundw
            case rel => exact ⟨i + 1, cn, H4.out, (by have := H5.out; omega), by go_num, rfl, HC2, Lib.hid (RQ.more HC.out HQX.out (drewN_below (Below.refl _ _) _)), Lib.hid (HFX.out.more (drewN_below (Below.refl _ _) _))⟩
            case measure => have := H4.out; simp [intOf]; omega
          · have HC2 : Hid ((l4.take (i + 1)).countP (fun x => x.is kp kq) = cn) := Lib.hid (by rw [count_at HZZ.out, if_neg (by rw [h1]; decide), HCC.out]; rfl)
            have h2' := h2.symm
            subst h2'
            clear h1 h2
            go_wp2
            go_quiet (fail)
            go_wp2
            go_roundw
            case rel => exact ⟨i + 1, cn, H4.out, (by have := H5.out; omega), by go_num, rfl, HC2, Lib.hid (RQ.more HC.out HQX.out (drewN_below (Below.refl _ _) _)), Lib.hid (HFX.out.more (drewN_below (Below.refl _ _) _))⟩
            case measure => have := H4.out; simp [intOf]; omega
        · obtain rfl : i = n4 := by omega
          have q0 : ¬ (i : Int) < (i : Int) := by omega
          obtain rfl : cn = 1 := by
            have h1 := HCC.out
            rw [List.take_of_length_le (by rw [HN4.out]; exact Nat.le_refl _), HCN.out] at h1
            exact h1.symm
          obtain ⟨_, el, e0, e1, e3⟩ := HCL.out _ HQX.out.b
          have r0 := HFX.out.cell (j := 0) rfl
          have r1 := HFX.out.cell (j := 1) rfl
          have r2 := HFX.out.cell (j := 2) rfl
          have rl := HFX.out.lt
          have HBX := Lib.hid (HB.out.trans (HQX.out.b.mono HB.out.size))
          have HAW : Hid (∀ W', Below wr.heap.size wr W' → Calls Try.prog 22 #[] W' fun e w' => e = .returned (.bool true) ∧ Below W'.heap.size W' w') := Lib.hid fun W' _ => awake19 HC.out W'
          have HTB : Hid (∀ W', Below wr.heap.size wr W' → Calls Try.prog 20 #[.pointer (some ⟨g, 0, none⟩), .int .i64 ea] W' fun e w' => e = .returned (.bool t) ∧ Below W'.heap.size W' w') := Lib.hid fun W' hb => qTable HC.out ea t HT.out (RQ.more HC.out HQX.out hb)
          have hE := HE2.out
          have hR := HEC.out
          clear HCL HQX HFX HCC HCN HAN HE2 HEC hi hci hlt HC HT HN4 HN0 HI4 HF HB HOR
          by_cases hA : bits .and .i64 ec 2 = 0
          · obtain rfl : e2 = ec := by
              rw [← hE]
              split
              · exact same_two2 ec hR.1 hR.2 hA
              · rfl
            clear hE hR
            go_wp2
            apply wp_region_auto [128, 129, 130, 131, 132, 133, 134, 135, 136, 137, 138, 139, 140, 141, 142, 143, 144, 145, 146, 147, 148, 149, 150, 151] [_, _, _, _, _, _, _, _, _, _, _, _, _, _, _, _, _, _, _, _, _, _, _, _] (fun W' => Below wr.heap.size wr W')
            case hm => kernel_rfl
            case hT => intro y; simp only [setAll, List.setIfInBounds_toArray, List.set_cons_succ, List.set_cons_zero]; exact rfl
            case hok => kernel_rfl
            case hn => decide
            case hw => exact (Below.refl _ _).drew
            case hs =>
              refine auto_op 128 [] (by kernel_rfl) (fun y w' HW hd K hK => ?_) ?_
              · go_simp
                refine hK _ _ ?_ ?_ HW
                · simp [upd]
                · exact rfl
              refine auto_op 129 [0] (by kernel_rfl) (fun y w' HW hd K hK => ?_) ?_
              · have e0 := hd_nth (hd 0 (by simp)) rfl
                go_simp
                refine hK _ _ ?_ ?_ HW
                · simp [upd, e0]
                · exact rfl
              refine auto_op 130 [1] (by kernel_rfl) (fun y w' HW hd K hK => ?_) ?_
              · have e1 := hd_nth (hd 1 (by simp)) rfl
                go_simp
                refine hK _ _ ?_ ?_ HW
                · simp [upd, e1]
                · exact rfl
              refine auto_op 131 [2] (by kernel_rfl) (fun y w' HW hd K hK => ?_) ?_
              · have e2 := hd_nth (hd 2 (by simp)) rfl
                go_simp
                refine hK _ _ ?_ ?_ HW
                · simp [upd, e2]
                · exact rfl
              refine auto_op 132 [3, 2] (by kernel_rfl) (fun y w' HW hd K hK => ?_) ?_
              · have e2 := hd_nth (hd 2 (by simp)) rfl
                have e3 := hd_nth (hd 3 (by simp)) rfl
                have hcl : ∀ p : Addr, p.block < wr.heap.size → w'.cell? p = wr.cell? p := fun p hp => HW.cell hp
                go_simp
                refine hK _ _ ?_ ?_ HW
                · simp [upd, e2, e3]
                · exact rfl
              refine auto_op 133 [2] (by kernel_rfl) (fun y w' HW hd K hK => ?_) ?_
              · have e2 := hd_nth (hd 2 (by simp)) rfl
                go_simp
                refine hK _ _ ?_ ?_ HW
                · simp [upd, e2]
                · exact rfl
              refine auto_op 134 [5, 2] (by kernel_rfl) (fun y w' HW hd K hK => ?_) ?_
              · have e2 := hd_nth (hd 2 (by simp)) rfl
                have e5 := hd_nth (hd 5 (by simp)) rfl
                have hcl : ∀ p : Addr, p.block < wr.heap.size → w'.cell? p = wr.cell? p := fun p hp => HW.cell hp
                go_simp
                refine hK _ _ ?_ ?_ HW
                · simp [upd, e2, e5]
                · exact rfl
              refine auto_op 135 [4, 6, 2] (by kernel_rfl) (fun y w' HW hd K hK => ?_) ?_
              · have e2 := hd_nth (hd 2 (by simp)) rfl
                have e4 := hd_nth (hd 4 (by simp)) rfl
                have e6 := hd_nth (hd 6 (by simp)) rfl
                go_simp
                refine hK _ _ ?_ ?_ HW
                · simp [upd, e2, e4, e6]
                · exact rfl
              refine auto_op 136 [2] (by kernel_rfl) (fun y w' HW hd K hK => ?_) ?_
              · have e2 := hd_nth (hd 2 (by simp)) rfl
                go_simp
                refine hK _ _ ?_ ?_ HW
                · simp [upd, e2]
                · exact rfl
              refine auto_op 137 [8, 2] (by kernel_rfl) (fun y w' HW hd K hK => ?_) ?_
              · have e2 := hd_nth (hd 2 (by simp)) rfl
                have e8 := hd_nth (hd 8 (by simp)) rfl
                have hcl : ∀ p : Addr, p.block < wr.heap.size → w'.cell? p = wr.cell? p := fun p hp => HW.cell hp
                go_simp
                refine hK _ _ ?_ ?_ HW
                · simp [upd, e2, e8]
                · exact rfl
              refine auto_op 138 [9, 2] (by kernel_rfl) (fun y w' HW hd K hK => ?_) ?_
              · have e2 := hd_nth (hd 2 (by simp)) rfl
                have e9 := hd_nth (hd 9 (by simp)) rfl
                go_simp
                refine hK _ _ ?_ ?_ HW
                · simp [upd, e2, e9]
                · exact rfl
              refine auto_op 139 [10, 2] (by kernel_rfl) (fun y w' HW hd K hK => ?_) ?_
              · have e2 := hd_nth (hd 2 (by simp)) rfl
                have e10 := hd_nth (hd 10 (by simp)) rfl
                go_simp
                refine hK _ _ ?_ ?_ HW
                · simp [upd, e2, e10]
                · exact rfl
              refine auto_op 140 [11, 2, 2] (by kernel_rfl) (fun y w' HW hd K hK => ?_) ?_
              · have e2 := hd_nth (hd 2 (by simp)) rfl
                have e11 := hd_nth (hd 11 (by simp)) rfl
                go_simp
                refine hK _ _ ?_ ?_ HW
                · simp [upd, e2, e11]
                · exact rfl
              refine auto_op 141 [12] (by kernel_rfl) (fun y w' HW hd K hK => ?_) ?_
              · have e12 := hd_nth (hd 12 (by simp)) rfl
                go_simp
                refine hK _ _ ?_ ?_ HW
                · simp [upd, e12]
                · exact rfl
              refine auto_op 142 [12] (by kernel_rfl) (fun y w' HW hd K hK => ?_) ?_
              · have e12 := hd_nth (hd 12 (by simp)) rfl
                go_simp
                refine hK _ _ ?_ ?_ HW
                · simp [upd, e12]
                · exact rfl
              refine auto_op 143 [14, 12] (by kernel_rfl) (fun y w' HW hd K hK => ?_) ?_
              · have e12 := hd_nth (hd 12 (by simp)) rfl
                have e14 := hd_nth (hd 14 (by simp)) rfl
                have hcl : ∀ p : Addr, p.block < wr.heap.size → w'.cell? p = wr.cell? p := fun p hp => HW.cell hp
                go_simp
                refine hK _ _ ?_ ?_ HW
                · simp [upd, e12, e14]
                · exact rfl
              refine auto_op 144 [13, 15, 12, 12] (by kernel_rfl) (fun y w' HW hd K hK => ?_) ?_
              · have e12 := hd_nth (hd 12 (by simp)) rfl
                have e13 := hd_nth (hd 13 (by simp)) rfl
                have e15 := hd_nth (hd 15 (by simp)) rfl
                go_simp
                refine hK _ _ ?_ ?_ HW
                · simp [upd, e12, e13, e15]
                · exact rfl
              refine auto_op 145 [16, 12] (by kernel_rfl) (fun y w' HW hd K hK => ?_) ?_
              · have e12 := hd_nth (hd 12 (by simp)) rfl
                have e16 := hd_nth (hd 16 (by simp)) rfl
                go_simp
                refine hK _ _ ?_ ?_ HW
                · simp [upd, e12, e16]
                · exact rfl
              refine auto_op 146 [12, 17, 2] (by kernel_rfl) (fun y w' HW hd K hK => ?_) ?_
              · have e2 := hd_nth (hd 2 (by simp)) rfl
                have e12 := hd_nth (hd 12 (by simp)) rfl
                have e17 := hd_nth (hd 17 (by simp)) rfl
                go_simp
                refine hK _ _ ?_ ?_ HW
                · simp [upd, e2, e12, e17]
                · exact rfl
              refine auto_op 147 [7, 18, 2] (by kernel_rfl) (fun y w' HW hd K hK => ?_) ?_
              · have e2 := hd_nth (hd 2 (by simp)) rfl
                have e7 := hd_nth (hd 7 (by simp)) rfl
                have e18 := hd_nth (hd 18 (by simp)) rfl
                go_simp
                refine hK _ _ ?_ ?_ HW
                · simp [upd, e2, e7, e18]
                · exact rfl
              refine auto_op 148 [2, 19] (by kernel_rfl) (fun y w' HW hd K hK => ?_) ?_
              · have e2 := hd_nth (hd 2 (by simp)) rfl
                have e19 := hd_nth (hd 19 (by simp)) rfl
                go_simp
                refine hK _ _ ?_ ?_ HW
                · simp [upd, e2, e19]
                · exact rfl
              refine auto_op 149 [20, 16] (by kernel_rfl) (fun y w' HW hd K hK => ?_) ?_
              · have e16 := hd_nth (hd 16 (by simp)) rfl
                have e20 := hd_nth (hd 20 (by simp)) rfl
                go_simp
                refine hK _ _ ?_ ?_ HW
                · simp [upd, e16, e20]
                · exact rfl
              refine auto_op 150 [21, 21] (by kernel_rfl) (fun y w' HW hd K hK => ?_) ?_
              · have e21 := hd_nth (hd 21 (by simp)) rfl
                go_simp
                refine (HAW.out _ HW).mono ?_
                rintro e w3 ⟨rfl, hb3⟩
                refine hK _ _ ?_ ?_ (HW.trans (hb3.mono HW.size))
                · simp [upd, e21]
                · exact rfl
              refine auto_op 151 [21, 22] (by kernel_rfl) (fun y w' HW hd K hK => ?_) ?_
              · have e21 := hd_nth (hd 21 (by simp)) rfl
                have e22 := hd_nth (hd 22 (by simp)) rfl
                go_simp
                refine hK _ _ ?_ ?_ HW
                · simp [upd, e21, e22]
                · exact rfl
              refine auto_last fun y w' HW hd K hK => ?_
              have e0 := hd_nth (hd 0 (by omega)) rfl
              have e1 := hd_nth (hd 1 (by omega)) rfl
              have e2 := hd_nth (hd 2 (by omega)) rfl
              have e3 := hd_nth (hd 3 (by omega)) rfl
              have e4 := hd_nth (hd 4 (by omega)) rfl
              have e5 := hd_nth (hd 5 (by omega)) rfl
              have e6 := hd_nth (hd 6 (by omega)) rfl
              have e7 := hd_nth (hd 7 (by omega)) rfl
              have e8 := hd_nth (hd 8 (by omega)) rfl
              have e9 := hd_nth (hd 9 (by omega)) rfl
              have e10 := hd_nth (hd 10 (by omega)) rfl
              have e11 := hd_nth (hd 11 (by omega)) rfl
              have e12 := hd_nth (hd 12 (by omega)) rfl
              have e13 := hd_nth (hd 13 (by omega)) rfl
              have e14 := hd_nth (hd 14 (by omega)) rfl
              have e15 := hd_nth (hd 15 (by omega)) rfl
              have e16 := hd_nth (hd 16 (by omega)) rfl
              have e17 := hd_nth (hd 17 (by omega)) rfl
              have e18 := hd_nth (hd 18 (by omega)) rfl
              have e19 := hd_nth (hd 19 (by omega)) rfl
              have e20 := hd_nth (hd 20 (by omega)) rfl
              have e21 := hd_nth (hd 21 (by omega)) rfl
              have e22 := hd_nth (hd 22 (by omega)) rfl
              have e23 := hd_nth (hd 23 (by omega)) rfl
              go_simp
              refine hK _ _ ?_
              clear hd hK K e0 e1 e2 e3 e4 e5 e6 e7 e8 e9 e10 e11 e12 e13 e14 e15 e16 e17 e18 e19 e20 e21 e22 e23
              have HB9 := Lib.hid (HBX.out.trans (HW.mono HBX.out.size))
              clear HW HAW HTB HBX
              go_wp2
              go_ret
              exact ⟨rfl, HB9.out⟩
          · have hq : (bits .and .i64 ec 2 == 0) = false := by simpa using hA
            cases t with
            | false =>
              rw [if_neg (by decide)] at hE
              subst hE
              clear hR hA
              go_wp2
              apply wp_region_auto [128, 129, 130, 131, 132, 133, 134, 135, 136, 137, 138, 139, 140, 141, 142, 143, 144, 145, 146, 147, 148, 149, 150, 151] [_, _, _, _, _, _, _, _, _, _, _, _, _, _, _, _, _, _, _, _, _, _, _, _] (fun W' => Below wr.heap.size wr W')
              case hm => kernel_rfl
              case hT => intro y; simp only [setAll, List.setIfInBounds_toArray, List.set_cons_succ, List.set_cons_zero]; exact rfl
              case hok => kernel_rfl
              case hn => decide
              case hw => exact (Below.refl _ _).drew
              case hs =>
                refine auto_op 128 [] (by kernel_rfl) (fun y w' HW hd K hK => ?_) ?_
                · go_simp
                  refine hK _ _ ?_ ?_ HW
                  · simp [upd]
                  · exact rfl
                refine auto_op 129 [0] (by kernel_rfl) (fun y w' HW hd K hK => ?_) ?_
                · have e0 := hd_nth (hd 0 (by simp)) rfl
                  go_simp
                  refine hK _ _ ?_ ?_ HW
                  · simp [upd, e0]
                  · exact rfl
                refine auto_op 130 [1] (by kernel_rfl) (fun y w' HW hd K hK => ?_) ?_
                · have e1 := hd_nth (hd 1 (by simp)) rfl
                  go_simp
                  refine hK _ _ ?_ ?_ HW
                  · simp [upd, e1]
                  · exact rfl
                refine auto_op 131 [2] (by kernel_rfl) (fun y w' HW hd K hK => ?_) ?_
                · have e2 := hd_nth (hd 2 (by simp)) rfl
                  go_simp
                  refine hK _ _ ?_ ?_ HW
                  · simp [upd, e2]
                  · exact rfl
                refine auto_op 132 [3, 2] (by kernel_rfl) (fun y w' HW hd K hK => ?_) ?_
                · have e2 := hd_nth (hd 2 (by simp)) rfl
                  have e3 := hd_nth (hd 3 (by simp)) rfl
                  have hcl : ∀ p : Addr, p.block < wr.heap.size → w'.cell? p = wr.cell? p := fun p hp => HW.cell hp
                  go_simp
                  refine hK _ _ ?_ ?_ HW
                  · simp [upd, e2, e3]
                  · exact rfl
                refine auto_op 133 [2] (by kernel_rfl) (fun y w' HW hd K hK => ?_) ?_
                · have e2 := hd_nth (hd 2 (by simp)) rfl
                  go_simp
                  refine hK _ _ ?_ ?_ HW
                  · simp [upd, e2]
                  · exact rfl
                refine auto_op 134 [5, 2] (by kernel_rfl) (fun y w' HW hd K hK => ?_) ?_
                · have e2 := hd_nth (hd 2 (by simp)) rfl
                  have e5 := hd_nth (hd 5 (by simp)) rfl
                  have hcl : ∀ p : Addr, p.block < wr.heap.size → w'.cell? p = wr.cell? p := fun p hp => HW.cell hp
                  go_simp
                  refine hK _ _ ?_ ?_ HW
                  · simp [upd, e2, e5]
                  · exact rfl
                refine auto_op 135 [4, 6, 2] (by kernel_rfl) (fun y w' HW hd K hK => ?_) ?_
                · have e2 := hd_nth (hd 2 (by simp)) rfl
                  have e4 := hd_nth (hd 4 (by simp)) rfl
                  have e6 := hd_nth (hd 6 (by simp)) rfl
                  go_simp
                  refine hK _ _ ?_ ?_ HW
                  · simp [upd, e2, e4, e6]
                  · exact rfl
                refine auto_op 136 [2] (by kernel_rfl) (fun y w' HW hd K hK => ?_) ?_
                · have e2 := hd_nth (hd 2 (by simp)) rfl
                  go_simp
                  refine hK _ _ ?_ ?_ HW
                  · simp [upd, e2]
                  · exact rfl
                refine auto_op 137 [8, 2] (by kernel_rfl) (fun y w' HW hd K hK => ?_) ?_
                · have e2 := hd_nth (hd 2 (by simp)) rfl
                  have e8 := hd_nth (hd 8 (by simp)) rfl
                  have hcl : ∀ p : Addr, p.block < wr.heap.size → w'.cell? p = wr.cell? p := fun p hp => HW.cell hp
                  go_simp
                  refine hK _ _ ?_ ?_ HW
                  · simp [upd, e2, e8]
                  · exact rfl
                refine auto_op 138 [9, 2] (by kernel_rfl) (fun y w' HW hd K hK => ?_) ?_
                · have e2 := hd_nth (hd 2 (by simp)) rfl
                  have e9 := hd_nth (hd 9 (by simp)) rfl
                  go_simp
                  refine hK _ _ ?_ ?_ HW
                  · simp [upd, e2, e9]
                  · exact rfl
                refine auto_op 139 [10, 2] (by kernel_rfl) (fun y w' HW hd K hK => ?_) ?_
                · have e2 := hd_nth (hd 2 (by simp)) rfl
                  have e10 := hd_nth (hd 10 (by simp)) rfl
                  go_simp
                  refine hK _ _ ?_ ?_ HW
                  · simp [upd, e2, e10]
                  · exact rfl
                refine auto_op 140 [11, 2, 2] (by kernel_rfl) (fun y w' HW hd K hK => ?_) ?_
                · have e2 := hd_nth (hd 2 (by simp)) rfl
                  have e11 := hd_nth (hd 11 (by simp)) rfl
                  go_simp
                  refine hK _ _ ?_ ?_ HW
                  · simp [upd, e2, e11]
                  · exact rfl
                refine auto_op 141 [12] (by kernel_rfl) (fun y w' HW hd K hK => ?_) ?_
                · have e12 := hd_nth (hd 12 (by simp)) rfl
                  go_simp
                  refine hK _ _ ?_ ?_ HW
                  · simp [upd, e12]
                  · exact rfl
                refine auto_op 142 [12] (by kernel_rfl) (fun y w' HW hd K hK => ?_) ?_
                · have e12 := hd_nth (hd 12 (by simp)) rfl
                  go_simp
                  refine hK _ _ ?_ ?_ HW
                  · simp [upd, e12]
                  · exact rfl
                refine auto_op 143 [14, 12] (by kernel_rfl) (fun y w' HW hd K hK => ?_) ?_
                · have e12 := hd_nth (hd 12 (by simp)) rfl
                  have e14 := hd_nth (hd 14 (by simp)) rfl
                  have hcl : ∀ p : Addr, p.block < wr.heap.size → w'.cell? p = wr.cell? p := fun p hp => HW.cell hp
                  go_simp
                  refine hK _ _ ?_ ?_ HW
                  · simp [upd, e12, e14]
                  · exact rfl
                refine auto_op 144 [13, 15, 12, 12] (by kernel_rfl) (fun y w' HW hd K hK => ?_) ?_
                · have e12 := hd_nth (hd 12 (by simp)) rfl
                  have e13 := hd_nth (hd 13 (by simp)) rfl
                  have e15 := hd_nth (hd 15 (by simp)) rfl
                  go_simp
                  refine (HTB.out _ HW).mono ?_
                  rintro e w3 ⟨rfl, hb3⟩
                  refine hK _ _ ?_ ?_ (HW.trans (hb3.mono HW.size))
                  · simp [upd, e12, e13, e15]
                  · exact rfl
                refine auto_op 145 [16, 12] (by kernel_rfl) (fun y w' HW hd K hK => ?_) ?_
                · have e12 := hd_nth (hd 12 (by simp)) rfl
                  have e16 := hd_nth (hd 16 (by simp)) rfl
                  go_simp
                  refine hK _ _ ?_ ?_ HW
                  · simp [upd, e12, e16]
                  · exact rfl
                refine auto_op 146 [12, 17, 2] (by kernel_rfl) (fun y w' HW hd K hK => ?_) ?_
                · have e2 := hd_nth (hd 2 (by simp)) rfl
                  have e12 := hd_nth (hd 12 (by simp)) rfl
                  have e17 := hd_nth (hd 17 (by simp)) rfl
                  go_simp
                  refine hK _ _ ?_ ?_ HW
                  · simp [upd, e2, e12, e17]
                  · exact rfl
                refine auto_op 147 [7, 18, 2] (by kernel_rfl) (fun y w' HW hd K hK => ?_) ?_
                · have e2 := hd_nth (hd 2 (by simp)) rfl
                  have e7 := hd_nth (hd 7 (by simp)) rfl
                  have e18 := hd_nth (hd 18 (by simp)) rfl
                  go_simp
                  refine hK _ _ ?_ ?_ HW
                  · simp [upd, e2, e7, e18]
                  · exact rfl
                refine auto_op 148 [2, 19] (by kernel_rfl) (fun y w' HW hd K hK => ?_) ?_
                · have e2 := hd_nth (hd 2 (by simp)) rfl
                  have e19 := hd_nth (hd 19 (by simp)) rfl
                  go_simp
                  refine hK _ _ ?_ ?_ HW
                  · simp [upd, e2, e19]
                  · exact rfl
                refine auto_op 149 [20, 16] (by kernel_rfl) (fun y w' HW hd K hK => ?_) ?_
                · have e16 := hd_nth (hd 16 (by simp)) rfl
                  have e20 := hd_nth (hd 20 (by simp)) rfl
                  go_simp
                  refine hK _ _ ?_ ?_ HW
                  · simp [upd, e16, e20]
                  · exact rfl
                refine auto_op 150 [21, 21] (by kernel_rfl) (fun y w' HW hd K hK => ?_) ?_
                · have e21 := hd_nth (hd 21 (by simp)) rfl
                  go_simp
                  refine (HAW.out _ HW).mono ?_
                  rintro e w3 ⟨rfl, hb3⟩
                  refine hK _ _ ?_ ?_ (HW.trans (hb3.mono HW.size))
                  · simp [upd, e21]
                  · exact rfl
                refine auto_op 151 [21, 22] (by kernel_rfl) (fun y w' HW hd K hK => ?_) ?_
                · have e21 := hd_nth (hd 21 (by simp)) rfl
                  have e22 := hd_nth (hd 22 (by simp)) rfl
                  go_simp
                  refine hK _ _ ?_ ?_ HW
                  · simp [upd, e21, e22]
                  · exact rfl
                refine auto_last fun y w' HW hd K hK => ?_
                have e0 := hd_nth (hd 0 (by omega)) rfl
                have e1 := hd_nth (hd 1 (by omega)) rfl
                have e2 := hd_nth (hd 2 (by omega)) rfl
                have e3 := hd_nth (hd 3 (by omega)) rfl
                have e4 := hd_nth (hd 4 (by omega)) rfl
                have e5 := hd_nth (hd 5 (by omega)) rfl
                have e6 := hd_nth (hd 6 (by omega)) rfl
                have e7 := hd_nth (hd 7 (by omega)) rfl
                have e8 := hd_nth (hd 8 (by omega)) rfl
                have e9 := hd_nth (hd 9 (by omega)) rfl
                have e10 := hd_nth (hd 10 (by omega)) rfl
                have e11 := hd_nth (hd 11 (by omega)) rfl
                have e12 := hd_nth (hd 12 (by omega)) rfl
                have e13 := hd_nth (hd 13 (by omega)) rfl
                have e14 := hd_nth (hd 14 (by omega)) rfl
                have e15 := hd_nth (hd 15 (by omega)) rfl
                have e16 := hd_nth (hd 16 (by omega)) rfl
                have e17 := hd_nth (hd 17 (by omega)) rfl
                have e18 := hd_nth (hd 18 (by omega)) rfl
                have e19 := hd_nth (hd 19 (by omega)) rfl
                have e20 := hd_nth (hd 20 (by omega)) rfl
                have e21 := hd_nth (hd 21 (by omega)) rfl
                have e22 := hd_nth (hd 22 (by omega)) rfl
                have e23 := hd_nth (hd 23 (by omega)) rfl
                go_simp
                refine hK _ _ ?_
                clear hd hK K e0 e1 e2 e3 e4 e5 e6 e7 e8 e9 e10 e11 e12 e13 e14 e15 e16 e17 e18 e19 e20 e21 e22 e23
                have HB9 := Lib.hid (HBX.out.trans (HW.mono HBX.out.size))
                clear HW HAW HTB HBX
                go_wp2
                go_ret
                exact ⟨rfl, HB9.out⟩
            | true =>
              rw [if_pos rfl] at hE
              have he : (e2 == ec) = false := by rw [← hE]; simpa using had_two2 ec hA
              clear hE hR hA
              go_wp2
              apply wp_region_auto [128, 129, 130, 131, 132, 133, 134, 135, 136, 137, 138, 139, 140, 141, 142, 143, 144, 145, 146, 147, 148, 149, 150, 151] [_, _, _, _, _, _, _, _, _, _, _, _, _, _, _, _, _, _, _, _, _, _, _, _] (fun W' => Below wr.heap.size wr W')
              case hm => kernel_rfl
              case hT => intro y; simp only [setAll, List.setIfInBounds_toArray, List.set_cons_succ, List.set_cons_zero]; exact rfl
              case hok => kernel_rfl
              case hn => decide
              case hw => exact (Below.refl _ _).drew
              case hs =>
                refine auto_op 128 [] (by kernel_rfl) (fun y w' HW hd K hK => ?_) ?_
                · go_simp
                  refine hK _ _ ?_ ?_ HW
                  · simp [upd]
                  · exact rfl
                refine auto_op 129 [0] (by kernel_rfl) (fun y w' HW hd K hK => ?_) ?_
                · have e0 := hd_nth (hd 0 (by simp)) rfl
                  go_simp
                  refine hK _ _ ?_ ?_ HW
                  · simp [upd, e0]
                  · exact rfl
                refine auto_op 130 [1] (by kernel_rfl) (fun y w' HW hd K hK => ?_) ?_
                · have e1 := hd_nth (hd 1 (by simp)) rfl
                  go_simp
                  refine hK _ _ ?_ ?_ HW
                  · simp [upd, e1]
                  · exact rfl
                refine auto_op 131 [2] (by kernel_rfl) (fun y w' HW hd K hK => ?_) ?_
                · have e2 := hd_nth (hd 2 (by simp)) rfl
                  go_simp
                  refine hK _ _ ?_ ?_ HW
                  · simp [upd, e2]
                  · exact rfl
                refine auto_op 132 [3, 2] (by kernel_rfl) (fun y w' HW hd K hK => ?_) ?_
                · have e2 := hd_nth (hd 2 (by simp)) rfl
                  have e3 := hd_nth (hd 3 (by simp)) rfl
                  have hcl : ∀ p : Addr, p.block < wr.heap.size → w'.cell? p = wr.cell? p := fun p hp => HW.cell hp
                  go_simp
                  refine hK _ _ ?_ ?_ HW
                  · simp [upd, e2, e3]
                  · exact rfl
                refine auto_op 133 [2] (by kernel_rfl) (fun y w' HW hd K hK => ?_) ?_
                · have e2 := hd_nth (hd 2 (by simp)) rfl
                  go_simp
                  refine hK _ _ ?_ ?_ HW
                  · simp [upd, e2]
                  · exact rfl
                refine auto_op 134 [5, 2] (by kernel_rfl) (fun y w' HW hd K hK => ?_) ?_
                · have e2 := hd_nth (hd 2 (by simp)) rfl
                  have e5 := hd_nth (hd 5 (by simp)) rfl
                  have hcl : ∀ p : Addr, p.block < wr.heap.size → w'.cell? p = wr.cell? p := fun p hp => HW.cell hp
                  go_simp
                  refine hK _ _ ?_ ?_ HW
                  · simp [upd, e2, e5]
                  · exact rfl
                refine auto_op 135 [4, 6, 2] (by kernel_rfl) (fun y w' HW hd K hK => ?_) ?_
                · have e2 := hd_nth (hd 2 (by simp)) rfl
                  have e4 := hd_nth (hd 4 (by simp)) rfl
                  have e6 := hd_nth (hd 6 (by simp)) rfl
                  go_simp
                  refine hK _ _ ?_ ?_ HW
                  · simp [upd, e2, e4, e6]
                  · exact rfl
                refine auto_op 136 [2] (by kernel_rfl) (fun y w' HW hd K hK => ?_) ?_
                · have e2 := hd_nth (hd 2 (by simp)) rfl
                  go_simp
                  refine hK _ _ ?_ ?_ HW
                  · simp [upd, e2]
                  · exact rfl
                refine auto_op 137 [8, 2] (by kernel_rfl) (fun y w' HW hd K hK => ?_) ?_
                · have e2 := hd_nth (hd 2 (by simp)) rfl
                  have e8 := hd_nth (hd 8 (by simp)) rfl
                  have hcl : ∀ p : Addr, p.block < wr.heap.size → w'.cell? p = wr.cell? p := fun p hp => HW.cell hp
                  go_simp
                  refine hK _ _ ?_ ?_ HW
                  · simp [upd, e2, e8]
                  · exact rfl
                refine auto_op 138 [9, 2] (by kernel_rfl) (fun y w' HW hd K hK => ?_) ?_
                · have e2 := hd_nth (hd 2 (by simp)) rfl
                  have e9 := hd_nth (hd 9 (by simp)) rfl
                  go_simp
                  refine hK _ _ ?_ ?_ HW
                  · simp [upd, e2, e9]
                  · exact rfl
                refine auto_op 139 [10, 2] (by kernel_rfl) (fun y w' HW hd K hK => ?_) ?_
                · have e2 := hd_nth (hd 2 (by simp)) rfl
                  have e10 := hd_nth (hd 10 (by simp)) rfl
                  go_simp
                  refine hK _ _ ?_ ?_ HW
                  · simp [upd, e2, e10]
                  · exact rfl
                refine auto_op 140 [11, 2, 2] (by kernel_rfl) (fun y w' HW hd K hK => ?_) ?_
                · have e2 := hd_nth (hd 2 (by simp)) rfl
                  have e11 := hd_nth (hd 11 (by simp)) rfl
                  go_simp
                  refine hK _ _ ?_ ?_ HW
                  · simp [upd, e2, e11]
                  · exact rfl
                refine auto_op 141 [12] (by kernel_rfl) (fun y w' HW hd K hK => ?_) ?_
                · have e12 := hd_nth (hd 12 (by simp)) rfl
                  go_simp
                  refine hK _ _ ?_ ?_ HW
                  · simp [upd, e12]
                  · exact rfl
                refine auto_op 142 [12] (by kernel_rfl) (fun y w' HW hd K hK => ?_) ?_
                · have e12 := hd_nth (hd 12 (by simp)) rfl
                  go_simp
                  refine hK _ _ ?_ ?_ HW
                  · simp [upd, e12]
                  · exact rfl
                refine auto_op 143 [14, 12] (by kernel_rfl) (fun y w' HW hd K hK => ?_) ?_
                · have e12 := hd_nth (hd 12 (by simp)) rfl
                  have e14 := hd_nth (hd 14 (by simp)) rfl
                  have hcl : ∀ p : Addr, p.block < wr.heap.size → w'.cell? p = wr.cell? p := fun p hp => HW.cell hp
                  go_simp
                  refine hK _ _ ?_ ?_ HW
                  · simp [upd, e12, e14]
                  · exact rfl
                refine auto_op 144 [13, 15, 12, 12] (by kernel_rfl) (fun y w' HW hd K hK => ?_) ?_
                · have e12 := hd_nth (hd 12 (by simp)) rfl
                  have e13 := hd_nth (hd 13 (by simp)) rfl
                  have e15 := hd_nth (hd 15 (by simp)) rfl
                  go_simp
                  refine (HTB.out _ HW).mono ?_
                  rintro e w3 ⟨rfl, hb3⟩
                  refine hK _ _ ?_ ?_ (HW.trans (hb3.mono HW.size))
                  · simp [upd, e12, e13, e15]
                  · exact rfl
                refine auto_op 145 [16, 12] (by kernel_rfl) (fun y w' HW hd K hK => ?_) ?_
                · have e12 := hd_nth (hd 12 (by simp)) rfl
                  have e16 := hd_nth (hd 16 (by simp)) rfl
                  go_simp
                  refine hK _ _ ?_ ?_ HW
                  · simp [upd, e12, e16]
                  · exact rfl
                refine auto_op 146 [12, 17, 2] (by kernel_rfl) (fun y w' HW hd K hK => ?_) ?_
                · have e2 := hd_nth (hd 2 (by simp)) rfl
                  have e12 := hd_nth (hd 12 (by simp)) rfl
                  have e17 := hd_nth (hd 17 (by simp)) rfl
                  go_simp
                  refine hK _ _ ?_ ?_ HW
                  · simp [upd, e2, e12, e17]
                  · exact rfl
                refine auto_op 147 [7, 18, 2] (by kernel_rfl) (fun y w' HW hd K hK => ?_) ?_
                · have e2 := hd_nth (hd 2 (by simp)) rfl
                  have e7 := hd_nth (hd 7 (by simp)) rfl
                  have e18 := hd_nth (hd 18 (by simp)) rfl
                  go_simp
                  refine hK _ _ ?_ ?_ HW
                  · simp [upd, e2, e7, e18]
                  · exact rfl
                refine auto_op 148 [2, 19] (by kernel_rfl) (fun y w' HW hd K hK => ?_) ?_
                · have e2 := hd_nth (hd 2 (by simp)) rfl
                  have e19 := hd_nth (hd 19 (by simp)) rfl
                  go_simp
                  refine hK _ _ ?_ ?_ HW
                  · simp [upd, e2, e19]
                  · exact rfl
                refine auto_op 149 [20, 16] (by kernel_rfl) (fun y w' HW hd K hK => ?_) ?_
                · have e16 := hd_nth (hd 16 (by simp)) rfl
                  have e20 := hd_nth (hd 20 (by simp)) rfl
                  go_simp
                  refine hK _ _ ?_ ?_ HW
                  · simp [upd, e16, e20]
                  · exact rfl
                refine auto_op 150 [21, 21] (by kernel_rfl) (fun y w' HW hd K hK => ?_) ?_
                · have e21 := hd_nth (hd 21 (by simp)) rfl
                  go_simp
                  refine (HAW.out _ HW).mono ?_
                  rintro e w3 ⟨rfl, hb3⟩
                  refine hK _ _ ?_ ?_ (HW.trans (hb3.mono HW.size))
                  · simp [upd, e21]
                  · exact rfl
                refine auto_op 151 [21, 22] (by kernel_rfl) (fun y w' HW hd K hK => ?_) ?_
                · have e21 := hd_nth (hd 21 (by simp)) rfl
                  have e22 := hd_nth (hd 22 (by simp)) rfl
                  go_simp
                  refine hK _ _ ?_ ?_ HW
                  · simp [upd, e21, e22]
                  · exact rfl
                refine auto_last fun y w' HW hd K hK => ?_
                have e0 := hd_nth (hd 0 (by omega)) rfl
                have e1 := hd_nth (hd 1 (by omega)) rfl
                have e2 := hd_nth (hd 2 (by omega)) rfl
                have e3 := hd_nth (hd 3 (by omega)) rfl
                have e4 := hd_nth (hd 4 (by omega)) rfl
                have e5 := hd_nth (hd 5 (by omega)) rfl
                have e6 := hd_nth (hd 6 (by omega)) rfl
                have e7 := hd_nth (hd 7 (by omega)) rfl
                have e8 := hd_nth (hd 8 (by omega)) rfl
                have e9 := hd_nth (hd 9 (by omega)) rfl
                have e10 := hd_nth (hd 10 (by omega)) rfl
                have e11 := hd_nth (hd 11 (by omega)) rfl
                have e12 := hd_nth (hd 12 (by omega)) rfl
                have e13 := hd_nth (hd 13 (by omega)) rfl
                have e14 := hd_nth (hd 14 (by omega)) rfl
                have e15 := hd_nth (hd 15 (by omega)) rfl
                have e16 := hd_nth (hd 16 (by omega)) rfl
                have e17 := hd_nth (hd 17 (by omega)) rfl
                have e18 := hd_nth (hd 18 (by omega)) rfl
                have e19 := hd_nth (hd 19 (by omega)) rfl
                have e20 := hd_nth (hd 20 (by omega)) rfl
                have e21 := hd_nth (hd 21 (by omega)) rfl
                have e22 := hd_nth (hd 22 (by omega)) rfl
                have e23 := hd_nth (hd 23 (by omega)) rfl
                go_simp
                refine hK _ _ ?_
                clear hd hK K e0 e1 e2 e3 e4 e5 e6 e7 e8 e9 e10 e11 e12 e13 e14 e15 e16 e17 e18 e19 e20 e21 e22 e23
                have HB9 := Lib.hid (HBX.out.trans (HW.mono HBX.out.size))
                clear HW HAW HTB HBX
                go_wp2
                go_ret
                exact ⟨rfl, HB9.out⟩
end
end Go.Proofs.Ytcdiigdbjncpeaa.Sw
