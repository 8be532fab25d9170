/- The walk of hermitagelaw18.StlbPlays. -/
import Derived.Test.YtgcpcffgpokbfaaBp
import Derived.Test.YtgcpcffgpokbfaaRd
import Derived.Test.YtgcpcffgpokbfaaRf
import Derived.Test.YtgcpcffgpokbfaaAi
import Derived.Test.YtgcpcffgpokbfaaAf
import Derived.Test.YtgcpcffgpokbfaaAh
import Derived.Test.YtgcpcffgpokbfaaAe
namespace Go.Proofs.Ytgcpcffgpokbfaa.Sb
open Go.RowKit Ut Hg
set_option maxRecDepth 100000
set_option linter.unusedVariables false
set_option maxHeartbeats 8000000

/-- the document's, its rows made later -/
def DTE (W : World) (d : Nat) (room : Int) (l : List Rc) : Prop := ∃ a n c, DT W d room a n c l ∧ ∀ y, a = some y → d < y.block
section
variable {W W' V : World} {g d B k k' : Nat} {room : Int} {l l' : List Rc} {f r : Bool}
theorem DTE.more (h : DTE W d room l) (hb : Below W.heap.size W W') : DTE W' d room l := h.elim fun a ⟨n, c, h, hy⟩ => ⟨a, n, c, h.more hb, hy⟩
theorem DTE.kq (h : DTE W d room l) (hk : Kq [g] W W') (hg : g < d) : DTE W' d room l := h.elim fun a ⟨n, c, h, hy⟩ => ⟨a, n, c, h.kq hk (by simp; omega) (fun y e => by have := hy y e; simp; omega), hy⟩
theorem DTE.lt (h : DTE W d room l) : d < W.heap.size := h.elim fun a ⟨n, c, h, hy⟩ => h.blk.lt
theorem DTE.mk (hd : d < W.heap.size) {a : Option Addr} {n c : Nat} (h : DT W' d room a n c l) (hy : ∀ y, a = some y → W.heap.size ≤ y.block) : DTE W' d room l := ⟨a, n, c, h, fun y e => Nat.lt_of_lt_of_le hd (hy y e)⟩
/-- both, of which each may have had the act or not yet -/
def JR (V : World) (B g d : Nat) (room : Int) (k k' : Nat) (l l' : List Rc) (f r : Bool) (W : World) : Prop := Below B V W ∧ PU W g room (cond f k' k) (cond f l' l) ∧ DTE W d room (cond r l' l)
theorem JR.actP (h : JR V B g d room k k' l l' false r W) (hp : PU W' g room k' l') (hk : Kq [g] W W') (hg : g < d) (hB : B ≤ g) : JR V B g d room k k' l l' true r W' :=
  ⟨h.1.trans (hk.under (fun q hq => by simp at hq; rw [hq]; exact hB) (Nat.le_trans hB (Nat.le_of_lt h.2.1.lt))), hp, h.2.2.kq hk hg⟩
theorem JR.actD (h : JR V B g d room k k' l l' f false W) (hp : DTE W' d room l') (hk : Kq [d] W W') (hg : g < d) (hB : B ≤ g) : JR V B g d room k k' l l' f true W' :=
  ⟨h.1.trans (hk.under (fun q hq => by simp at hq; omega) (Nat.le_trans hB (Nat.le_of_lt h.2.1.lt))), h.2.1.kq hk (by simp; omega), hp⟩
/-- both in one world -/
structure JB (w W : World) (g d : Nat) (room : Int) (k : Nat) (l : List Rc) : Prop where
  p : PU W g room k l
  q : DTE W d room l
  b : Below w.heap.size w W
theorem JB.more {w : World} (h : JB w W g d room k l) (hb : Below W.heap.size W W') : JB w W' g d room k l := ⟨h.p.more hb, h.q.more hb, h.b.trans (hb.mono h.b.size)⟩
theorem JB.le {w : World} (h : JB w W g d room k l) (hm : k ≤ k') : JB w W g d room k' l := ⟨h.p.le hm, h.q, h.b⟩
theorem JB.actP {w : World} (h : JB w W g d room k l) (hp : PU W' g room k' l') (hk : Kq [g] W W') (hw : w.heap.size ≤ g) : Below w.heap.size w W' := h.b.trans (hk.under (fun q hq => by simp at hq; rw [hq]; exact hw) h.b.size)

theorem dDrop (p q : Int) (t : Bool) (ht : (findL l p q).isSome = t) (h : DTE W d room l) (hn : l.length ≤ 100000) :
    Calls Try.prog 14 #[.pointer (some ⟨d, 0, none⟩), .agg #[.int .i64 p, .int .i64 q]] W fun e w' => e = .returned (.bool t) ∧ Hid (DTE w' d room (withoutL l p q)) ∧ Kq [d] W w' := by
  subst ht
  obtain ⟨a, n, c, h, hy⟩ := h
  exact (refDrop_any p q _ rfl W h (by rw [← h.len]; exact hn)).mono fun e w' ⟨h1, ⟨b, c', h2, h3⟩, h4⟩ => ⟨h1, Lib.hid (DTE.mk h.blk.lt h2 h3), h4⟩
theorem dGet (p q : Int) (o : Option Rc) (ho : findL l p q = o) (h : DTE W d room l) (hn : l.length ≤ 100000) :
    Calls Try.prog 12 #[.pointer (some ⟨d, 0, none⟩), .agg #[.int .i64 p, .int .i64 q]] W fun e w' => e = .returned (.tuple #[entV (entF o), .bool o.isSome]) ∧ Hid (DTE w' d room (getL l p q)) ∧ Kq [d] W w' := by
  obtain ⟨a, n, c, h, hy⟩ := h
  refine (refGet_any p q o ho W h (by rw [← h.len]; exact hn)).mono ?_
  rintro e w' ⟨h1, ⟨b, k, c', h2, h3⟩, h4⟩
  refine ⟨h1, Lib.hid ⟨b, k, c', h2, fun y e => ?_⟩, h4⟩
  rcases h3 with rfl | h3
  · exact hy y e
  · exact Nat.lt_of_lt_of_le h.blk.lt (h3 y e)
theorem dGone (pg n0 : Int) (hn0 : (l.length : Int) - ((goneL l pg).length : Int) = n0) (h : DTE W d room l) (hn : l.length ≤ 100000) :
    Calls Try.prog 16 #[.pointer (some ⟨d, 0, none⟩), .int .i64 pg] W fun e w' => e = .returned (.int .i64 n0) ∧ Hid (DTE w' d room (goneL l pg)) ∧ Kq [d] W w' := by
  subst hn0
  obtain ⟨a, n, c, h, hy⟩ := h
  exact (refGone_any pg W h (by rw [← h.len]; exact hn)).mono fun e w' ⟨h1, ⟨b, c', h2, h3⟩, h4⟩ => ⟨h1, Lib.hid (DTE.mk h.blk.lt h2 h3), h4⟩
theorem dNarrow (pg : Int) (n0 : Nat) (hn0 : narN l pg = n0) (h : DTE W d room l) (hn : l.length ≤ 100000) :
    Calls Try.prog 18 #[.pointer (some ⟨d, 0, none⟩), .int .i64 pg] W fun e w' => e = .returned (.int .i64 n0) ∧ Hid (DTE w' d room (narL l pg)) ∧ Kq [d] W w' := by
  subst hn0
  obtain ⟨a, n, c, h, hy⟩ := h
  exact (refNarrow_any pg W h (by rw [← h.len]; exact hn)).mono fun e w' ⟨h1, ⟨b, c', h2, h3⟩, h4⟩ => ⟨h1, Lib.hid (DTE.mk h.blk.lt h2 h3), h4⟩
theorem dPut (x : Rc) (h : DTE W d room l) (hn : l.length ≤ 100000) :
    Calls Try.prog 21 #[.pointer (some ⟨d, 0, none⟩), .agg #[.int .i64 x.kr, .int .i64 x.kp], .agg #[.int .i64 x.ep, .int .i64 x.ef, .int .i64 x.er]] W fun e w' => e = .returned (.tuple #[]) ∧ Hid (DTE w' d room (putL room l x)) ∧ Kq [d] W w' := by
  obtain ⟨a, n, c, h, hy⟩ := h
  exact (refPut_any x W h (by rw [← h.len]; exact hn)).mono fun e w' ⟨h1, ⟨b, c', h2, h3⟩, h4⟩ => ⟨h1, Lib.hid (DTE.mk h.blk.lt h2 h3), h4⟩
end

theorem plays18_any (room : Int) (az ak ae : Option Addr) (lz cz lk ck le ce : Nat) (zs : List Int) (Z : Nat → Int × Int) (Y : Nat → Int × Int × Int) (w : World) (hlz : lz ≤ 9223372036854775807) (hlk : lk ≤ 9223372036854775807) (hle : le ≤ 9223372036854775807)
    (hz : RowK .u8 w w.heap.size az lz zs) (hzb : ∀ z ∈ zs, 0 ≤ z ∧ z < 256) (hk : KeyRow w w.heap.size ak lk Z) (he : EntRow w w.heap.size ae le Y) :
    Calls Try.prog 3 #[.int .i64 room, .slice az lz cz, .slice ak lk ck, .slice ae le ce] w fun e w' => e = .returned (.bool true) ∧ Below w.heap.size w w' := by
  have HZ := Lib.hid hz
  have HZB := Lib.hid hzb
  have HK := Lib.hid hk
  have HE := Lib.hid he
  clear hz hzb hk he
  by_cases hroom : room < 0 ∨ 4 < room
  · have HN := Lib.hid (tlbNew_no room hroom w)
    have HR := Lib.hid (refNew_no room hroom w)
    clear hroom
    go_enter Try.func3, Try.ntmps3
    go_wp2_with fail
    refine HN.out.mono ?_
    rintro e w1 ⟨rfl, rfl⟩
    go_wp2_with fail
    refine HR.out.mono ?_
    rintro e w1 ⟨rfl, rfl⟩
    go_wp2_with fail
    refine (awake18 w).mono ?_
    rintro e w6 ⟨rfl, hb⟩
    have HB6 := Lib.hid hb
    clear hb
    go_wp2
    go_ret
    exact ⟨rfl, HB6.out⟩
  have h0 : ¬ room < 0 := fun h => hroom (.inl h)
  have h4 : ¬ 4 < room := fun h => hroom (.inr h)
  have HN := Lib.hid (tlbNew_yes room h0 h4 w)
  have HR := Lib.hid (fun w' => refNew_yes room h0 h4 w')
  have HRM := Lib.hid (show 0 ≤ room ∧ room ≤ 4 by omega)
  clear hroom h0 h4
  go_enter Try.func3, Try.ntmps3
  go_wp2_with fail
  refine HN.out.mono ?_
  rintro e w1 ⟨rfl, hp1, hb1⟩
  have hgl := hp1.1.lt
  have HP1 : Hid (PU w1 w.heap.size room 0 []) := Lib.hid ⟨0, PT.made (W' := w) hp1, Int.le_refl _⟩
  have HB1 := Lib.hid hb1
  have HGD := Lib.hid hgl
  clear hp1 hb1 hgl
  go_wp2_with fail
  refine (HR.out w1).mono ?_
  rintro e w2 ⟨rfl, hd2, hb2⟩
  have HJ2 : Hid (JB w w2 w.heap.size w1.heap.size room 0 []) := Lib.hid ⟨HP1.out.more hb2, ⟨none, 0, 0, hd2, fun y e => by cases e⟩, HB1.out.trans (hb2.mono HB1.out.size)⟩
  generalize w1.heap.size = d at HGD HJ2 ⊢
  clear hd2 hb2 HP1 HB1 HN HR
  go_wp2
  go_loopw [13] (fun j wr => ∃ (k : Nat) (l : List Rc), k ≤ 100 ∧ j = .int .i64 k ∧ Hid ((l.length : Int) ≤ room) ∧ Hid (JB w wr w.heap.size d room k l)) (fun j _ => 100 - (intOf j).toNat)
  case atStart => exact ⟨0, [], Nat.zero_le _, rfl, Lib.hid (by have := HRM.out; simp; omega), HJ2⟩
  case round =>
    clear HJ2
    obtain ⟨k, l, hk, rfl, HLN, HJ⟩ := hrel
    by_cases hin : k < lz ∧ k < lk ∧ k < le ∧ k < 100
    · obtain ⟨h0, h1, h2, h3⟩ := hin
      obtain ⟨zz, rfl, htb, htc⟩ := HZ.out.2 k h0
      obtain ⟨kk, rfl, hyc⟩ := key_on HK.out h1
      obtain ⟨ee, rfl, hvc⟩ := ent_on HE.out h2
      have HC0 := Lib.hid (And.intro (show (zz.add k).block < w.heap.size by rw [block_of_add]; exact htb) htc)
      have HYC := Lib.hid hyc
      have HVC := Lib.hid hvc
      have hzb : 0 ≤ zs.getD k 0 ∧ zs.getD k 0 < 256 := HZB.out _ (by
        have hlt : k < zs.length := by rw [HZ.out.1]; exact h0
        rw [List.getD_eq_getElem?_getD, List.getElem?_eq_getElem hlt]
        exact List.getElem_mem hlt)
      generalize zs.getD k 0 = z at HC0 hzb
      generalize Z k = zk at HYC
      generalize Y k = yk at HVC
      obtain ⟨kp, kq⟩ := zk
      obtain ⟨ea, eb, ec⟩ := yk
      obtain ⟨hz0, hz1⟩ := hzb
      have f0 : (k : Int) < (lz : Int) := by omega
      have f1 : (k : Int) < (lk : Int) := by omega
      have f2 : (k : Int) < (le : Int) := by omega
      have f3 : (k : Int) < 100 := by omega
      have f4 : (0 : Int) ≤ (k : Int) := by omega
      have H3 := Lib.hid h3
      have c0 := (HJ.out.b.cell HC0.out.1).trans HC0.out.2
      have c0l : (zz.add k).block < wr.heap.size := Nat.lt_of_lt_of_le HC0.out.1 HJ.out.b.size
      clear htb htc hyc hvc hk h0 h1 h2 h3 HZ HK HE HZB
      go_upto_block 2 with fail
      obtain ⟨r, hr⟩ : ∃ r, z % 8 = r := ⟨_, rfl⟩
      rw [hr]
      clear hr
      go_cut [] (fun wx => ∃ l', Hid ((l'.length : Int) ≤ room) ∧ Hid (JB w wx w.heap.size d room (k + 1) l'))
      case first =>
        clear c0 c0l hz0 hz1
        have HLN5 : Hid (l.length ≤ 100000) := Lib.hid (by have := HLN.out; have := HRM.out; omega)
        obtain ⟨bk1, bk2, _, _⟩ := HYC.out w (Below.refl _ _)
        obtain ⟨_, _, mk1, mk2⟩ := HYC.out wr HJ.out.b
        obtain ⟨be1, be2, _, _, _⟩ := HVC.out w (Below.refl _ _)
        obtain ⟨_, _, me1, me2, me3⟩ := HVC.out wr HJ.out.b
        dsimp only at mk1 mk2 me1 me2 me3
        by_cases e0 : r = 0
        · have g0 : (r == 0) = true := by simpa using e0
          clear e0
          obtain ⟨ov, hov⟩ : ∃ ov, findL l kp kq = ov := ⟨_, rfl⟩
          obtain ⟨e0, e1, e2, haeq⟩ : ∃ a0 a1 a2, entF ov = (a0, a1, a2) := ⟨_, _, _, rfl⟩
          have HOV := Lib.hid hov
          have HAE := Lib.hid haeq
          have HLE : Hid (((getL l kp kq).length : Int) ≤ room) := Lib.hid (by have := get_len (l := l) (p := kp) (q := kq); have := HLN.out; omega)
          clear hov haeq be1 be2 me1 me2 me3
          have kl : (kk.add (k * 2)).block < wr.heap.size := Nat.lt_of_lt_of_le bk2 HJ.out.b.size
          go_wp2_with fail
          refine (puGet kp kq ov HOV.out HJ.out.p (by have := H3.out; omega)).mono ?_
          rintro e w3 ⟨rfl, HPA, hk3⟩
          have hq3 := HJ.out.q.kq hk3 HGD.out
          have hb3 := HJ.out.actP HPA.out hk3 (Nat.le_refl _)
          rw [HAE.out]
          generalize hts : ov.isSome = ts
          have HTS := Lib.hid hts
          clear hts
          unfold entV
          dsimp only
          have hA3 : Below w3.heap.size w3 (w3.alloc (.cells #[.int .i64 e0, .int .i64 e1, .int .i64 e2] 34)) := (Below.refl _ _).alloc (Nat.le_refl _) _
          have HN3 : Hid (Blk (w3.alloc (.cells #[.int .i64 e0, .int .i64 e1, .int .i64 e2] 34)) w3.heap.size 34 [.int .i64 e0, .int .i64 e1, .int .i64 e2]) := Lib.hid (Blk.new w3 _ [.int .i64 e0, .int .i64 e1, .int .i64 e2])
          have HP3 := Lib.hid (HPA.out.more hA3)
          have HQ3 := Lib.hid (hq3.more hA3)
          have HB3 := Lib.hid (hb3.trans (hA3.mono hb3.size))
          have HDL := Lib.hid hq3.lt
          clear HPA hk3 hq3 hb3 hA3 HJ mk1 mk2 kl
          go_upto_region 16 with fail
          generalize w3.alloc (.cells #[.int .i64 e0, .int .i64 e1, .int .i64 e2] 34) = V3 at HN3 HP3 HQ3 HB3 ⊢
          generalize w3.heap.size = x3 at HN3 HDL ⊢
          obtain ⟨_, kl, mk1, mk2⟩ := HYC.out V3 HB3.out
          try dsimp only at mk1 mk2
          go_wp2_with fail
          refine (dGet kp kq ov HOV.out HQ3.out HLN5.out).mono ?_
          rintro e w4 ⟨rfl, HPA, hk4⟩
          have hp4 := HP3.out.kq hk4 (by have := HGD.out; simp; omega)
          have hb4 : Below w.heap.size w w4 := HB3.out.trans (hk4.under (fun q hq => by have := HGD.out; simp at hq; omega) HB3.out.size)
          have hn4 := HN3.out.kq hk4 (by have := HDL.out; simp; omega)
          rw [HAE.out, HTS.out]
          unfold entV
          dsimp only
          have hA4 : Below w4.heap.size w4 (w4.alloc (.cells #[.int .i64 e0, .int .i64 e1, .int .i64 e2] 34)) := (Below.refl _ _).alloc (Nat.le_refl _) _
          have HN4 : Hid (Blk (w4.alloc (.cells #[.int .i64 e0, .int .i64 e1, .int .i64 e2] 34)) w4.heap.size 34 [.int .i64 e0, .int .i64 e1, .int .i64 e2]) := Lib.hid (Blk.new w4 _ [.int .i64 e0, .int .i64 e1, .int .i64 e2])
          have HM4 := Lib.hid (hn4.more hA4)
          have HJ4 : Hid (JB w (w4.alloc (.cells #[.int .i64 e0, .int .i64 e1, .int .i64 e2] 34)) w.heap.size d room (k + 1) (getL l kp kq)) := Lib.hid ⟨hp4.more hA4, HPA.out.more hA4, hb4.trans (hA4.mono hb4.size)⟩
          clear HPA hk4 hp4 hb4 hn4 hA4 HN3 HP3 HQ3 HB3 mk1 mk2 kl
          go_upto_region 17 with fail
          generalize w4.alloc (.cells #[.int .i64 e0, .int .i64 e1, .int .i64 e2] 34) = V4 at HN4 HM4 HJ4 ⊢
          generalize w4.heap.size = x4 at HN4 ⊢
          have n0 := HN4.out.cell (j := 0) rfl
          have n1 := HN4.out.cell (j := 1) rfl
          have n2 := HN4.out.cell (j := 2) rfl
          have nl := HN4.out.lt
          have q0 := HM4.out.cell (j := 0) rfl
          have q1 := HM4.out.cell (j := 1) rfl
          have q2 := HM4.out.cell (j := 2) rfl
          have ql := HM4.out.lt
          go_wp2
          go_meet
          exact ⟨_, HLE, HJ4⟩
        · have g0 : (r == 0) = false := by simpa using e0
          clear e0
          by_cases e1 : r = 1
          · have g1 : (r == 1) = true := by simpa using e1
            clear e1
            obtain ⟨t, ht⟩ : ∃ t, (findL l kp kq).isSome = t := ⟨_, rfl⟩
            have HLE : Hid (((withoutL l kp kq).length : Int) ≤ room) := Lib.hid (by have := without_len l kp kq; have := HLN.out; omega)
            have HPM := Lib.hid (fun W (h : PU W w.heap.size room k l) => puDrop kp kq t ht h)
            have HPR := Lib.hid (fun W (h : DTE W d room l) => dDrop kp kq t ht h HLN5.out)
            have HJR : Hid (JR wr w.heap.size w.heap.size d room k k l (withoutL l kp kq) false false wr.drew) := Lib.hid ⟨(Below.refl _ _).drew, HJ.out.p.elim fun c h => ⟨c, by obtain ⟨us, q1, q2⟩ := h.1; exact ⟨us, ⟨q1.1.of_block rfl, q1.2⟩, q2⟩, h.2⟩, HJ.out.q.elim fun a ⟨n, c, h, hy⟩ => ⟨a, n, c, ⟨h.blk, h.len, h.row, h.ng⟩, hy⟩⟩
            clear ht be1 be2 me1 me2 me3
            go_upto_region 20 with fail
            apply wp_region_autoL [119, 120, 121, 122, 123, 124, 125, 126, 127, 128, 129, 130] [_, _, _, _, _, _, _, _, _, _, _, _] (fun L_ W' => JR wr w.heap.size w.heap.size d room k k l (withoutL l kp kq) (L_ 5) (L_ 11) W')
            case hm => kernel_rfl
            case hT => intro y; simp only [setAll, List.setIfInBounds_toArray, List.set_cons_succ, List.set_cons_zero]; exact rfl
            case hok => kernel_rfl
            case hn => decide
            case hw => exact fun L_ hL => (by simp only [hL 5 (by decide), hL 11 (by decide)]; exact HJR.out)
            case hs =>
              refine autoL_op 119 [] (by kernel_rfl) (fun L y w' hL HW hd K hK => ?_) ?_
              · go_simp
                refine hK _ _ ?_ ?_ HW
                · simp [upd]
                · exact rfl
              refine autoL_op 120 [] (by kernel_rfl) (fun L y w' hL HW hd K hK => ?_) ?_
              · go_simp
                refine hK _ _ ?_ ?_ HW
                · simp [upd]
                · exact rfl
              refine autoL_op 121 [] (by kernel_rfl) (fun L y w' hL HW hd K hK => ?_) ?_
              · go_simp
                refine hK _ _ ?_ ?_ HW
                · simp [upd]
                · exact rfl
              refine autoL_op 122 [1, 2] (by kernel_rfl) (fun L y w' hL HW hd K hK => ?_) ?_
              · have e1 := hd_nth (hd 1 (by simp)) rfl
                have e2 := hd_nth (hd 2 (by simp)) rfl
                go_simp
                refine hK _ _ ?_ ?_ HW
                · simp [upd, e1, e2]
                · exact rfl
              refine autoL_op 123 [3] (by kernel_rfl) (fun L y w' hL HW hd K hK => ?_) ?_
              · have e3 := hd_nth (hd 3 (by simp)) rfl
                have hcl : ∀ p : Addr, p.block < w.heap.size → w'.cell? p = wr.cell? p := fun p hp => HW.1.cell hp
                go_simp
                refine hK _ _ ?_ ?_ HW
                · simp [upd, e3]
                · exact rfl
              refine autoL_op 124 [0, 4] (by kernel_rfl) (fun L y w' hL HW hd K hK => ?_) ?_
              · have e0 := hd_nth (hd 0 (by simp)) rfl
                have e4 := hd_nth (hd 4 (by simp)) rfl
                go_simp
                have HW0 : JR wr w.heap.size w.heap.size d room k k l (withoutL l kp kq) false (L 11) w' := by have h := HW; simp only [hL] at h; exact h
                refine (HPM.out _ HW0.2.1).mono ?_
                rintro e w3 ⟨rfl, hF3, hg3⟩
                refine hK _ _ ?_ ?_ (HW0.actP hF3.out hg3 HGD.out (Nat.le_refl _))
                · simp [upd, e0, e4]
                · exact rfl
              refine autoL_op 125 [] (by kernel_rfl) (fun L y w' hL HW hd K hK => ?_) ?_
              · go_simp
                refine hK _ _ ?_ ?_ HW
                · simp [upd]
                · exact rfl
              refine autoL_op 126 [] (by kernel_rfl) (fun L y w' hL HW hd K hK => ?_) ?_
              · go_simp
                refine hK _ _ ?_ ?_ HW
                · simp [upd]
                · exact rfl
              refine autoL_op 127 [] (by kernel_rfl) (fun L y w' hL HW hd K hK => ?_) ?_
              · go_simp
                refine hK _ _ ?_ ?_ HW
                · simp [upd]
                · exact rfl
              refine autoL_op 128 [7, 8] (by kernel_rfl) (fun L y w' hL HW hd K hK => ?_) ?_
              · have e7 := hd_nth (hd 7 (by simp)) rfl
                have e8 := hd_nth (hd 8 (by simp)) rfl
                go_simp
                refine hK _ _ ?_ ?_ HW
                · simp [upd, e7, e8]
                · exact rfl
              refine autoL_op 129 [9] (by kernel_rfl) (fun L y w' hL HW hd K hK => ?_) ?_
              · have e9 := hd_nth (hd 9 (by simp)) rfl
                have hcl : ∀ p : Addr, p.block < w.heap.size → w'.cell? p = wr.cell? p := fun p hp => HW.1.cell hp
                go_simp
                refine hK _ _ ?_ ?_ HW
                · simp [upd, e9]
                · exact rfl
              refine autoL_op 130 [6, 10, 5] (by kernel_rfl) (fun L y w' hL HW hd K hK => ?_) ?_
              · have e5 := hd_nth (hd 5 (by simp)) rfl
                have e6 := hd_nth (hd 6 (by simp)) rfl
                have e10 := hd_nth (hd 10 (by simp)) rfl
                go_simp
                have HW0 : JR wr w.heap.size w.heap.size d room k k l (withoutL l kp kq) (L 5) false w' := by have h := HW; simp only [hL] at h; exact h
                refine (HPR.out _ HW0.2.2).mono ?_
                rintro e w3 ⟨rfl, hR3, hg3⟩
                refine hK _ _ ?_ ?_ (HW0.actD hR3.out hg3 HGD.out (Nat.le_refl _))
                · simp [upd, e5, e6, e10]
                · exact rfl
              refine autoL_last fun L y w' hLs HW hd K hK => ?_
              have e0 := hd_nth (hd 0 (by omega)) rfl
              have e1 := hd_nth (hd 1 (by omega)) rfl
              have e2 := hd_nth (hd 2 (by omega)) rfl
              have e3 := hd_nth (hd 3 (by omega)) rfl
              have e4 := hd_nth (hd 4 (by omega)) rfl
              have e5 := hd_nth (hd 5 (by omega)) rfl
              have e6 := hd_nth (hd 6 (by omega)) rfl
              have e7 := hd_nth (hd 7 (by omega)) rfl
              have e8 := hd_nth (hd 8 (by omega)) rfl
              have e9 := hd_nth (hd 9 (by omega)) rfl
              have e10 := hd_nth (hd 10 (by omega)) rfl
              have e11 := hd_nth (hd 11 (by omega)) rfl
              have HWF := Lib.hid (show JR wr w.heap.size w.heap.size d room k k l (withoutL l kp kq) true true w' by have h := HW; simp only [hLs 5 (by omega), hLs 11 (by omega)] at h; exact h)
              go_simp
              refine hK _ _ ?_
              clear hd hK K e0 e1 e2 e3 e4 e5 e6 e7 e8 e9 e10 e11
              clear hLs HW
              go_wp2
              go_meet
              exact ⟨_, HLE, ⟨PU.le (k := k) HWF.out.2.1 (Nat.le_succ k), HWF.out.2.2, HJ.out.b.trans (HWF.out.1.mono (Nat.le_refl _))⟩⟩
          · have g1 : (r == 1) = false := by simpa using e1
            clear e1
            by_cases e2 : r = 2
            · have g2 : (r == 2) = true := by simpa using e2
              clear e2
              obtain ⟨t, ht⟩ : ∃ t, (l.length : Int) - ((goneL l ea).length : Int) = t := ⟨_, rfl⟩
              have HLE : Hid (((goneL l ea).length : Int) ≤ room) := Lib.hid (by have := gone_len l ea; have := HLN.out; omega)
              have HPM := Lib.hid (fun W (h : PU W w.heap.size room k l) => puGone ea t ht h)
              have HPR := Lib.hid (fun W (h : DTE W d room l) => dGone ea t ht h HLN5.out)
              have HJR : Hid (JR wr w.heap.size w.heap.size d room k k l (goneL l ea) false false wr.drew) := Lib.hid ⟨(Below.refl _ _).drew, HJ.out.p.elim fun c h => ⟨c, by obtain ⟨us, q1, q2⟩ := h.1; exact ⟨us, ⟨q1.1.of_block rfl, q1.2⟩, q2⟩, h.2⟩, HJ.out.q.elim fun a ⟨n, c, h, hy⟩ => ⟨a, n, c, ⟨h.blk, h.len, h.row, h.ng⟩, hy⟩⟩
              clear ht bk1 bk2 mk1 mk2
              go_upto_region 23 with fail
              apply wp_region_autoL [134, 135, 136, 137, 138, 139, 140, 141, 142, 143, 144, 145, 146, 147] [_, _, _, _, _, _, _, _, _, _, _, _, _, _] (fun L_ W' => JR wr w.heap.size w.heap.size d room k k l (goneL l ea) (L_ 6) (L_ 13) W')
              case hm => kernel_rfl
              case hT => intro y; simp only [setAll, List.setIfInBounds_toArray, List.set_cons_succ, List.set_cons_zero]; exact rfl
              case hok => kernel_rfl
              case hn => decide
              case hw => exact fun L_ hL => (by simp only [hL 6 (by decide), hL 13 (by decide)]; exact HJR.out)
              case hs =>
                refine autoL_op 134 [] (by kernel_rfl) (fun L y w' hL HW hd K hK => ?_) ?_
                · go_simp
                  refine hK _ _ ?_ ?_ HW
                  · simp [upd]
                  · exact rfl
                refine autoL_op 135 [] (by kernel_rfl) (fun L y w' hL HW hd K hK => ?_) ?_
                · go_simp
                  refine hK _ _ ?_ ?_ HW
                  · simp [upd]
                  · exact rfl
                refine autoL_op 136 [] (by kernel_rfl) (fun L y w' hL HW hd K hK => ?_) ?_
                · go_simp
                  refine hK _ _ ?_ ?_ HW
                  · simp [upd]
                  · exact rfl
                refine autoL_op 137 [1, 2] (by kernel_rfl) (fun L y w' hL HW hd K hK => ?_) ?_
                · have e1 := hd_nth (hd 1 (by simp)) rfl
                  have e2 := hd_nth (hd 2 (by simp)) rfl
                  go_simp
                  refine hK _ _ ?_ ?_ HW
                  · simp [upd, e1, e2]
                  · exact rfl
                refine autoL_op 138 [3] (by kernel_rfl) (fun L y w' hL HW hd K hK => ?_) ?_
                · have e3 := hd_nth (hd 3 (by simp)) rfl
                  go_simp
                  refine hK _ _ ?_ ?_ HW
                  · simp [upd, e3]
                  · exact rfl
                refine autoL_op 139 [4] (by kernel_rfl) (fun L y w' hL HW hd K hK => ?_) ?_
                · have e4 := hd_nth (hd 4 (by simp)) rfl
                  have hcl : ∀ p : Addr, p.block < w.heap.size → w'.cell? p = wr.cell? p := fun p hp => HW.1.cell hp
                  go_simp
                  refine hK _ _ ?_ ?_ HW
                  · simp [upd, e4]
                  · exact rfl
                refine autoL_op 140 [0, 5] (by kernel_rfl) (fun L y w' hL HW hd K hK => ?_) ?_
                · have e0 := hd_nth (hd 0 (by simp)) rfl
                  have e5 := hd_nth (hd 5 (by simp)) rfl
                  go_simp
                  have HW0 : JR wr w.heap.size w.heap.size d room k k l (goneL l ea) false (L 13) w' := by have h := HW; simp only [hL] at h; exact h
                  refine (HPM.out _ HW0.2.1).mono ?_
                  rintro e w3 ⟨rfl, hF3, hg3⟩
                  refine hK _ _ ?_ ?_ (HW0.actP hF3.out hg3 HGD.out (Nat.le_refl _))
                  · simp [upd, e0, e5]
                  · exact rfl
                refine autoL_op 141 [] (by kernel_rfl) (fun L y w' hL HW hd K hK => ?_) ?_
                · go_simp
                  refine hK _ _ ?_ ?_ HW
                  · simp [upd]
                  · exact rfl
                refine autoL_op 142 [] (by kernel_rfl) (fun L y w' hL HW hd K hK => ?_) ?_
                · go_simp
                  refine hK _ _ ?_ ?_ HW
                  · simp [upd]
                  · exact rfl
                refine autoL_op 143 [] (by kernel_rfl) (fun L y w' hL HW hd K hK => ?_) ?_
                · go_simp
                  refine hK _ _ ?_ ?_ HW
                  · simp [upd]
                  · exact rfl
                refine autoL_op 144 [8, 9] (by kernel_rfl) (fun L y w' hL HW hd K hK => ?_) ?_
                · have e8 := hd_nth (hd 8 (by simp)) rfl
                  have e9 := hd_nth (hd 9 (by simp)) rfl
                  go_simp
                  refine hK _ _ ?_ ?_ HW
                  · simp [upd, e8, e9]
                  · exact rfl
                refine autoL_op 145 [10] (by kernel_rfl) (fun L y w' hL HW hd K hK => ?_) ?_
                · have e10 := hd_nth (hd 10 (by simp)) rfl
                  go_simp
                  refine hK _ _ ?_ ?_ HW
                  · simp [upd, e10]
                  · exact rfl
                refine autoL_op 146 [11] (by kernel_rfl) (fun L y w' hL HW hd K hK => ?_) ?_
                · have e11 := hd_nth (hd 11 (by simp)) rfl
                  have hcl : ∀ p : Addr, p.block < w.heap.size → w'.cell? p = wr.cell? p := fun p hp => HW.1.cell hp
                  go_simp
                  refine hK _ _ ?_ ?_ HW
                  · simp [upd, e11]
                  · exact rfl
                refine autoL_op 147 [7, 12, 6] (by kernel_rfl) (fun L y w' hL HW hd K hK => ?_) ?_
                · have e6 := hd_nth (hd 6 (by simp)) rfl
                  have e7 := hd_nth (hd 7 (by simp)) rfl
                  have e12 := hd_nth (hd 12 (by simp)) rfl
                  go_simp
                  have HW0 : JR wr w.heap.size w.heap.size d room k k l (goneL l ea) (L 6) false w' := by have h := HW; simp only [hL] at h; exact h
                  refine (HPR.out _ HW0.2.2).mono ?_
                  rintro e w3 ⟨rfl, hR3, hg3⟩
                  refine hK _ _ ?_ ?_ (HW0.actD hR3.out hg3 HGD.out (Nat.le_refl _))
                  · simp [upd, e6, e7, e12]
                  · exact rfl
                refine autoL_last fun L y w' hLs HW hd K hK => ?_
                have e0 := hd_nth (hd 0 (by omega)) rfl
                have e1 := hd_nth (hd 1 (by omega)) rfl
                have e2 := hd_nth (hd 2 (by omega)) rfl
                have e3 := hd_nth (hd 3 (by omega)) rfl
                have e4 := hd_nth (hd 4 (by omega)) rfl
                have e5 := hd_nth (hd 5 (by omega)) rfl
                have e6 := hd_nth (hd 6 (by omega)) rfl
                have e7 := hd_nth (hd 7 (by omega)) rfl
                have e8 := hd_nth (hd 8 (by omega)) rfl
                have e9 := hd_nth (hd 9 (by omega)) rfl
                have e10 := hd_nth (hd 10 (by omega)) rfl
                have e11 := hd_nth (hd 11 (by omega)) rfl
                have e12 := hd_nth (hd 12 (by omega)) rfl
                have e13 := hd_nth (hd 13 (by omega)) rfl
                have HWF := Lib.hid (show JR wr w.heap.size w.heap.size d room k k l (goneL l ea) true true w' by have h := HW; simp only [hLs 6 (by omega), hLs 13 (by omega)] at h; exact h)
                go_simp
                refine hK _ _ ?_
                clear hd hK K e0 e1 e2 e3 e4 e5 e6 e7 e8 e9 e10 e11 e12 e13
                clear hLs HW
                go_wp2
                go_meet
                exact ⟨_, HLE, ⟨PU.le (k := k) HWF.out.2.1 (Nat.le_succ k), HWF.out.2.2, HJ.out.b.trans (HWF.out.1.mono (Nat.le_refl _))⟩⟩
            · have g2 : (r == 2) = false := by simpa using e2
              clear e2
              by_cases e3 : r = 3
              · have g3 : (r == 3) = true := by simpa using e3
                clear e3
                obtain ⟨t, ht⟩ : ∃ t, narN l ea = t := ⟨_, rfl⟩
                have HLE : Hid (((narL l ea).length : Int) ≤ room) := Lib.hid (by unfold narL; rw [List.length_map]; exact HLN.out)
                have HPM := Lib.hid (fun W (h : PU W w.heap.size room k l) => puNarrow ea t ht h)
                have HPR := Lib.hid (fun W (h : DTE W d room l) => dNarrow ea t ht h HLN5.out)
                have HJR : Hid (JR wr w.heap.size w.heap.size d room k k l (narL l ea) false false wr.drew) := Lib.hid ⟨(Below.refl _ _).drew, HJ.out.p.elim fun c h => ⟨c, by obtain ⟨us, q1, q2⟩ := h.1; exact ⟨us, ⟨q1.1.of_block rfl, q1.2⟩, q2⟩, h.2⟩, HJ.out.q.elim fun a ⟨n, c, h, hy⟩ => ⟨a, n, c, ⟨h.blk, h.len, h.row, h.ng⟩, hy⟩⟩
                clear ht bk1 bk2 mk1 mk2
                go_upto_region 26 with fail
                apply wp_region_autoL [151, 152, 153, 154, 155, 156, 157, 158, 159, 160, 161, 162, 163, 164] [_, _, _, _, _, _, _, _, _, _, _, _, _, _] (fun L_ W' => JR wr w.heap.size w.heap.size d room k k l (narL l ea) (L_ 6) (L_ 13) W')
                case hm => kernel_rfl
                case hT => intro y; simp only [setAll, List.setIfInBounds_toArray, List.set_cons_succ, List.set_cons_zero]; exact rfl
                case hok => kernel_rfl
                case hn => decide
                case hw => exact fun L_ hL => (by simp only [hL 6 (by decide), hL 13 (by decide)]; exact HJR.out)
                case hs =>
                  refine autoL_op 151 [] (by kernel_rfl) (fun L y w' hL HW hd K hK => ?_) ?_
                  · go_simp
                    refine hK _ _ ?_ ?_ HW
                    · simp [upd]
                    · exact rfl
                  refine autoL_op 152 [] (by kernel_rfl) (fun L y w' hL HW hd K hK => ?_) ?_
                  · go_simp
                    refine hK _ _ ?_ ?_ HW
                    · simp [upd]
                    · exact rfl
                  refine autoL_op 153 [] (by kernel_rfl) (fun L y w' hL HW hd K hK => ?_) ?_
                  · go_simp
                    refine hK _ _ ?_ ?_ HW
                    · simp [upd]
                    · exact rfl
                  refine autoL_op 154 [1, 2] (by kernel_rfl) (fun L y w' hL HW hd K hK => ?_) ?_
                  · have e1 := hd_nth (hd 1 (by simp)) rfl
                    have e2 := hd_nth (hd 2 (by simp)) rfl
                    go_simp
                    refine hK _ _ ?_ ?_ HW
                    · simp [upd, e1, e2]
                    · exact rfl
                  refine autoL_op 155 [3] (by kernel_rfl) (fun L y w' hL HW hd K hK => ?_) ?_
                  · have e3 := hd_nth (hd 3 (by simp)) rfl
                    go_simp
                    refine hK _ _ ?_ ?_ HW
                    · simp [upd, e3]
                    · exact rfl
                  refine autoL_op 156 [4] (by kernel_rfl) (fun L y w' hL HW hd K hK => ?_) ?_
                  · have e4 := hd_nth (hd 4 (by simp)) rfl
                    have hcl : ∀ p : Addr, p.block < w.heap.size → w'.cell? p = wr.cell? p := fun p hp => HW.1.cell hp
                    go_simp
                    refine hK _ _ ?_ ?_ HW
                    · simp [upd, e4]
                    · exact rfl
                  refine autoL_op 157 [0, 5] (by kernel_rfl) (fun L y w' hL HW hd K hK => ?_) ?_
                  · have e0 := hd_nth (hd 0 (by simp)) rfl
                    have e5 := hd_nth (hd 5 (by simp)) rfl
                    go_simp
                    have HW0 : JR wr w.heap.size w.heap.size d room k k l (narL l ea) false (L 13) w' := by have h := HW; simp only [hL] at h; exact h
                    refine (HPM.out _ HW0.2.1).mono ?_
                    rintro e w3 ⟨rfl, hF3, hg3⟩
                    refine hK _ _ ?_ ?_ (HW0.actP hF3.out hg3 HGD.out (Nat.le_refl _))
                    · simp [upd, e0, e5]
                    · exact rfl
                  refine autoL_op 158 [] (by kernel_rfl) (fun L y w' hL HW hd K hK => ?_) ?_
                  · go_simp
                    refine hK _ _ ?_ ?_ HW
                    · simp [upd]
                    · exact rfl
                  refine autoL_op 159 [] (by kernel_rfl) (fun L y w' hL HW hd K hK => ?_) ?_
                  · go_simp
                    refine hK _ _ ?_ ?_ HW
                    · simp [upd]
                    · exact rfl
                  refine autoL_op 160 [] (by kernel_rfl) (fun L y w' hL HW hd K hK => ?_) ?_
                  · go_simp
                    refine hK _ _ ?_ ?_ HW
                    · simp [upd]
                    · exact rfl
                  refine autoL_op 161 [8, 9] (by kernel_rfl) (fun L y w' hL HW hd K hK => ?_) ?_
                  · have e8 := hd_nth (hd 8 (by simp)) rfl
                    have e9 := hd_nth (hd 9 (by simp)) rfl
                    go_simp
                    refine hK _ _ ?_ ?_ HW
                    · simp [upd, e8, e9]
                    · exact rfl
                  refine autoL_op 162 [10] (by kernel_rfl) (fun L y w' hL HW hd K hK => ?_) ?_
                  · have e10 := hd_nth (hd 10 (by simp)) rfl
                    go_simp
                    refine hK _ _ ?_ ?_ HW
                    · simp [upd, e10]
                    · exact rfl
                  refine autoL_op 163 [11] (by kernel_rfl) (fun L y w' hL HW hd K hK => ?_) ?_
                  · have e11 := hd_nth (hd 11 (by simp)) rfl
                    have hcl : ∀ p : Addr, p.block < w.heap.size → w'.cell? p = wr.cell? p := fun p hp => HW.1.cell hp
                    go_simp
                    refine hK _ _ ?_ ?_ HW
                    · simp [upd, e11]
                    · exact rfl
                  refine autoL_op 164 [7, 12, 6] (by kernel_rfl) (fun L y w' hL HW hd K hK => ?_) ?_
                  · have e6 := hd_nth (hd 6 (by simp)) rfl
                    have e7 := hd_nth (hd 7 (by simp)) rfl
                    have e12 := hd_nth (hd 12 (by simp)) rfl
                    go_simp
                    have HW0 : JR wr w.heap.size w.heap.size d room k k l (narL l ea) (L 6) false w' := by have h := HW; simp only [hL] at h; exact h
                    refine (HPR.out _ HW0.2.2).mono ?_
                    rintro e w3 ⟨rfl, hR3, hg3⟩
                    refine hK _ _ ?_ ?_ (HW0.actD hR3.out hg3 HGD.out (Nat.le_refl _))
                    · simp [upd, e6, e7, e12]
                    · exact rfl
                  refine autoL_last fun L y w' hLs HW hd K hK => ?_
                  have e0 := hd_nth (hd 0 (by omega)) rfl
                  have e1 := hd_nth (hd 1 (by omega)) rfl
                  have e2 := hd_nth (hd 2 (by omega)) rfl
                  have e3 := hd_nth (hd 3 (by omega)) rfl
                  have e4 := hd_nth (hd 4 (by omega)) rfl
                  have e5 := hd_nth (hd 5 (by omega)) rfl
                  have e6 := hd_nth (hd 6 (by omega)) rfl
                  have e7 := hd_nth (hd 7 (by omega)) rfl
                  have e8 := hd_nth (hd 8 (by omega)) rfl
                  have e9 := hd_nth (hd 9 (by omega)) rfl
                  have e10 := hd_nth (hd 10 (by omega)) rfl
                  have e11 := hd_nth (hd 11 (by omega)) rfl
                  have e12 := hd_nth (hd 12 (by omega)) rfl
                  have e13 := hd_nth (hd 13 (by omega)) rfl
                  have HWF := Lib.hid (show JR wr w.heap.size w.heap.size d room k k l (narL l ea) true true w' by have h := HW; simp only [hLs 6 (by omega), hLs 13 (by omega)] at h; exact h)
                  go_simp
                  refine hK _ _ ?_
                  clear hd hK K e0 e1 e2 e3 e4 e5 e6 e7 e8 e9 e10 e11 e12 e13
                  clear hLs HW
                  go_wp2
                  go_meet
                  exact ⟨_, HLE, ⟨PU.le (k := k) HWF.out.2.1 (Nat.le_succ k), HWF.out.2.2, HJ.out.b.trans (HWF.out.1.mono (Nat.le_refl _))⟩⟩
              · have g3 : (r == 3) = false := by simpa using e3
                clear e3
                by_cases e4 : r = 4
                · have g4 : (r == 4) = true := by simpa using e4
                  clear e4
                  obtain ⟨a, m, c, hdt, hay⟩ := HJ.out.q
                  obtain rfl : l.length = m := hdt.len
                  have HDT := Lib.hid hdt
                  have HAY := Lib.hid hay
                  have HPM := Lib.hid (fun W (h : PU W w.heap.size room k l) => puFlush l.length rfl h)
                  have HLE : Hid (((([] : List Rc)).length : Int) ≤ room) := Lib.hid (by have := HRM.out; simp; omega)
                  have HJR : Hid (Below w.heap.size wr wr.drew ∧ PU wr.drew w.heap.size room k l ∧ DT wr.drew d room a l.length c l) := Lib.hid ⟨(Below.refl _ _).drew, HJ.out.p.elim fun c h => ⟨c, by obtain ⟨us, q1, q2⟩ := h.1; exact ⟨us, ⟨q1.1.of_block rfl, q1.2⟩, q2⟩, h.2⟩, ⟨hdt.blk, hdt.len, hdt.row, hdt.ng⟩⟩
                  clear hdt hay bk1 bk2 mk1 mk2 be1 be2 me1 me2 me3
                  go_upto_region 29 with fail
                  apply wp_region_autoL [168, 169, 170, 171, 172, 173, 174] [_, _, _, _, _, _, _] (fun L_ W' => Below w.heap.size wr W' ∧ PU W' w.heap.size room k (cond (L_ 1) [] l) ∧ DT W' d room a l.length c l)
                  case hm => kernel_rfl
                  case hT => intro y; simp only [setAll, List.setIfInBounds_toArray, List.set_cons_succ, List.set_cons_zero]; exact rfl
                  case hok => kernel_rfl
                  case hn => decide
                  case hw => exact fun L_ hL => (by simp only [hL 1 (by decide)]; exact HJR.out)
                  case hs =>
                    refine autoL_op 168 [] (by kernel_rfl) (fun L y w' hL HW hd K hK => ?_) ?_
                    · go_simp
                      refine hK _ _ ?_ ?_ HW
                      · simp [upd]
                      · exact rfl
                    refine autoL_op 169 [0] (by kernel_rfl) (fun L y w' hL HW hd K hK => ?_) ?_
                    · have e0 := hd_nth (hd 0 (by simp)) rfl
                      go_simp
                      have HW0 : PU w' w.heap.size room k l := by have h := HW.2.1; simp only [hL] at h; exact h
                      refine (HPM.out _ HW0).mono ?_
                      rintro e w3 ⟨rfl, hF3, hg3⟩
                      refine hK _ _ ?_ ?_ ⟨HW.1.trans (hg3.under (fun q hq => by simp at hq; rw [hq]; exact Nat.le_refl _) (Nat.le_of_lt HW0.lt)), hF3.out, HW.2.2.kq hg3 (by have := HGD.out; simp; omega) (fun y e => by have := HAY.out y e; have := HGD.out; simp; omega)⟩
                      · simp [upd, e0]
                      · exact rfl
                    refine autoL_op 170 [] (by kernel_rfl) (fun L y w' hL HW hd K hK => ?_) ?_
                    · go_simp
                      refine hK _ _ ?_ ?_ HW
                      · simp [upd]
                      · exact rfl
                    refine autoL_op 171 [2] (by kernel_rfl) (fun L y w' hL HW hd K hK => ?_) ?_
                    · have e2 := hd_nth (hd 2 (by simp)) rfl
                      go_simp
                      refine hK _ _ ?_ ?_ HW
                      · simp [upd, e2]
                      · exact rfl
                    refine autoL_op 172 [3] (by kernel_rfl) (fun L y w' hL HW hd K hK => ?_) ?_
                    · have e3 := hd_nth (hd 3 (by simp)) rfl
                      go_simp
                      refine hK _ _ ?_ ?_ HW
                      · simp [upd, e3]
                      · exact rfl
                    refine autoL_op 173 [4] (by kernel_rfl) (fun L y w' hL HW hd K hK => ?_) ?_
                    · have e4 := hd_nth (hd 4 (by simp)) rfl
                      have hcl : ∀ p : Addr, p.block < w.heap.size → w'.cell? p = wr.cell? p := fun p hp => HW.1.cell hp
                      have dc := HW.2.2.cell0
                      have dl := HW.2.2.blk.lt
                      go_simp
                      refine hK _ _ ?_ ?_ HW
                      · simp [upd, e4]
                      · exact rfl
                    refine autoL_op 174 [5] (by kernel_rfl) (fun L y w' hL HW hd K hK => ?_) ?_
                    · have e5 := hd_nth (hd 5 (by simp)) rfl
                      go_simp
                      refine hK _ _ ?_ ?_ HW
                      · simp [upd, e5]
                      · exact rfl
                    refine autoL_last fun L y w' hLs HW hd K hK => ?_
                    have e0 := hd_nth (hd 0 (by omega)) rfl
                    have e1 := hd_nth (hd 1 (by omega)) rfl
                    have e2 := hd_nth (hd 2 (by omega)) rfl
                    have e3 := hd_nth (hd 3 (by omega)) rfl
                    have e4 := hd_nth (hd 4 (by omega)) rfl
                    have e5 := hd_nth (hd 5 (by omega)) rfl
                    have e6 := hd_nth (hd 6 (by omega)) rfl
                    have HWF : Hid (Below w.heap.size wr w' ∧ PU w' w.heap.size room k [] ∧ DT w' d room a l.length c l) := Lib.hid (by have h := HW; simp only [hLs 1 (by omega)] at h; exact h)
                    go_simp
                    refine hK _ _ ?_
                    clear hd hK K e0 e1 e2 e3 e4 e5 e6
                    clear hLs HW
                    have dc := HWF.out.2.2.cell0
                    have dl := HWF.out.2.2.blk.lt
                    have df := HWF.out.2.2.blk.frozen 0
                    have HJ9 : Hid (JB w (w'.setCell ⟨d, 0, none⟩ (.slice none 0 0)) w.heap.size d room (k + 1) []) := Lib.hid (by
                      have hkd : Kq [d] w' (w'.setCell ⟨d, 0, none⟩ (.slice none 0 0)) := (Kq.refl _ _).setCell d 0 _ (.inl (by simp))
                      have hb9 := HJ.out.b.trans (HWF.out.1.mono (Nat.le_refl _))
                      exact ⟨((HWF.out.2.1).kq hkd (by have := HGD.out; simp; omega)).le (by omega), ⟨none, 0, 0, ⟨HWF.out.2.2.blk.set 0 _, rfl, fun i x hx => by simp at hx, fun y e => by cases e⟩, fun y e => by cases e⟩, hb9.trans (hkd.under (fun q hq => by have := HGD.out; simp at hq; omega) hb9.size)⟩)
                    go_wp2
                    go_meet
                    exact ⟨_, HLE, HJ9.out⟩
                · have g4 : (r == 4) = false := by simpa using e4
                  clear e4
                  have HLE : Hid (((putL room l (⟨kp, kq, ea, eb, ec⟩ : Rc)).length : Int) ≤ room) := Lib.hid (put_len HRM.out.1 HLN.out)
                  have HPM := Lib.hid (fun W (h : PU W w.heap.size room k l) => puPut ⟨kp, kq, ea, eb, ec⟩ h HLN.out HRM.out.2 (by have := H3.out; omega))
                  have HPR := Lib.hid (fun W (h : DTE W d room l) => dPut ⟨kp, kq, ea, eb, ec⟩ h HLN5.out)
                  dsimp only at HPM HPR
                  generalize putL room l (⟨kp, kq, ea, eb, ec⟩ : Rc) = l2 at HLE HPM HPR
                  have HJR : Hid (JR wr w.heap.size w.heap.size d room k (k + 1) l l2 false false wr.drew) := Lib.hid ⟨(Below.refl _ _).drew, HJ.out.p.elim fun c h => ⟨c, by obtain ⟨us, q1, q2⟩ := h.1; exact ⟨us, ⟨q1.1.of_block rfl, q1.2⟩, q2⟩, h.2⟩, HJ.out.q.elim fun a ⟨n, c, h, hy⟩ => ⟨a, n, c, ⟨h.blk, h.len, h.row, h.ng⟩, hy⟩⟩
                  go_upto_region 11 with fail
                  apply wp_region_autoL [68, 69, 70, 71, 72, 73, 74, 75, 76, 77] [_, _, _, _, _, _, _, _, _, _] (fun L_ W' => JR wr w.heap.size w.heap.size d room k (k + 1) l l2 (L_ 9) false W')
                  case hm => kernel_rfl
                  case hT => intro y; simp only [setAll, List.setIfInBounds_toArray, List.set_cons_succ, List.set_cons_zero]; exact rfl
                  case hok => kernel_rfl
                  case hn => decide
                  case hw => exact fun L_ hL => (by simp only [hL 9 (by decide)]; exact HJR.out)
                  case hs =>
                    refine autoL_op 68 [] (by kernel_rfl) (fun L y w' hL HW hd K hK => ?_) ?_
                    · go_simp
                      refine hK _ _ ?_ ?_ HW
                      · simp [upd]
                      · exact rfl
                    refine autoL_op 69 [] (by kernel_rfl) (fun L y w' hL HW hd K hK => ?_) ?_
                    · go_simp
                      refine hK _ _ ?_ ?_ HW
                      · simp [upd]
                      · exact rfl
                    refine autoL_op 70 [] (by kernel_rfl) (fun L y w' hL HW hd K hK => ?_) ?_
                    · go_simp
                      refine hK _ _ ?_ ?_ HW
                      · simp [upd]
                      · exact rfl
                    refine autoL_op 71 [1, 2] (by kernel_rfl) (fun L y w' hL HW hd K hK => ?_) ?_
                    · have e1 := hd_nth (hd 1 (by simp)) rfl
                      have e2 := hd_nth (hd 2 (by simp)) rfl
                      go_simp
                      refine hK _ _ ?_ ?_ HW
                      · simp [upd, e1, e2]
                      · exact rfl
                    refine autoL_op 72 [3] (by kernel_rfl) (fun L y w' hL HW hd K hK => ?_) ?_
                    · have e3 := hd_nth (hd 3 (by simp)) rfl
                      have hcl : ∀ p : Addr, p.block < w.heap.size → w'.cell? p = wr.cell? p := fun p hp => HW.1.cell hp
                      go_simp
                      refine hK _ _ ?_ ?_ HW
                      · simp [upd, e3]
                      · exact rfl
                    refine autoL_op 73 [] (by kernel_rfl) (fun L y w' hL HW hd K hK => ?_) ?_
                    · go_simp
                      refine hK _ _ ?_ ?_ HW
                      · simp [upd]
                      · exact rfl
                    refine autoL_op 74 [] (by kernel_rfl) (fun L y w' hL HW hd K hK => ?_) ?_
                    · go_simp
                      refine hK _ _ ?_ ?_ HW
                      · simp [upd]
                      · exact rfl
                    refine autoL_op 75 [5, 6] (by kernel_rfl) (fun L y w' hL HW hd K hK => ?_) ?_
                    · have e5 := hd_nth (hd 5 (by simp)) rfl
                      have e6 := hd_nth (hd 6 (by simp)) rfl
                      go_simp
                      refine hK _ _ ?_ ?_ HW
                      · simp [upd, e5, e6]
                      · exact rfl
                    refine autoL_op 76 [7] (by kernel_rfl) (fun L y w' hL HW hd K hK => ?_) ?_
                    · have e7 := hd_nth (hd 7 (by simp)) rfl
                      have hcl : ∀ p : Addr, p.block < w.heap.size → w'.cell? p = wr.cell? p := fun p hp => HW.1.cell hp
                      go_simp
                      refine hK _ _ ?_ ?_ HW
                      · simp [upd, e7]
                      · exact rfl
                    refine autoL_op 77 [0, 4, 8] (by kernel_rfl) (fun L y w' hL HW hd K hK => ?_) ?_
                    · have e0 := hd_nth (hd 0 (by simp)) rfl
                      have e4 := hd_nth (hd 4 (by simp)) rfl
                      have e8 := hd_nth (hd 8 (by simp)) rfl
                      go_simp
                      have HW0 : JR wr w.heap.size w.heap.size d room k (k + 1) l l2 false false w' := by have h := HW; simp only [hL] at h; exact h
                      refine (HPM.out _ HW0.2.1).mono ?_
                      rintro e w3 ⟨rfl, hF3, hg3⟩
                      refine hK _ _ ?_ ?_ (HW0.actP hF3.out hg3 HGD.out (Nat.le_refl _))
                      · simp [upd, e0, e4, e8]
                      · exact rfl
                    refine autoL_last fun L y w' hLs HW hd K hK => ?_
                    have e0 := hd_nth (hd 0 (by omega)) rfl
                    have e1 := hd_nth (hd 1 (by omega)) rfl
                    have e2 := hd_nth (hd 2 (by omega)) rfl
                    have e3 := hd_nth (hd 3 (by omega)) rfl
                    have e4 := hd_nth (hd 4 (by omega)) rfl
                    have e5 := hd_nth (hd 5 (by omega)) rfl
                    have e6 := hd_nth (hd 6 (by omega)) rfl
                    have e7 := hd_nth (hd 7 (by omega)) rfl
                    have e8 := hd_nth (hd 8 (by omega)) rfl
                    have e9 := hd_nth (hd 9 (by omega)) rfl
                    have HWF := Lib.hid (show JR wr w.heap.size w.heap.size d room k (k + 1) l l2 true false w' by have h := HW; simp only [hLs 9 (by omega)] at h; exact h)
                    go_simp
                    refine hK _ _ ?_
                    clear hd hK K e0 e1 e2 e3 e4 e5 e6 e7 e8 e9
                    clear hLs HW HJR
                    have HB9 := Lib.hid (HJ.out.b.trans (HWF.out.1.mono (Nat.le_refl _)))
                    have HP9 : Hid (PU w' w.heap.size room (k + 1) l2) := Lib.hid HWF.out.2.1
                    have HQ9 : Hid (DTE w' d room l) := Lib.hid HWF.out.2.2
                    clear HWF HJ
                    obtain ⟨wy, hwy⟩ : ∃ wy, w' = wy := ⟨_, rfl⟩
                    rw [hwy] at HB9 HP9 HQ9 ⊢
                    clear hwy mk1 mk2 me1 me2 me3
                    obtain ⟨b1, b2, mk1, mk2⟩ := HYC.out wy HB9.out
                    obtain ⟨b3, b4, me1, me2, me3⟩ := HVC.out wy HB9.out
                    dsimp only at mk1 mk2 me1 me2 me3
                    go_upto_region 13 with fail
                    apply wp_region_auto [79, 80, 81, 82, 83, 84, 85, 86, 87] [_, _, _, _, _, _, _, _, _] (fun W' => Below wy.heap.size wy W')
                    case hm => kernel_rfl
                    case hT => intro y; simp only [setAll, List.setIfInBounds_toArray, List.set_cons_succ, List.set_cons_zero]; exact rfl
                    case hok => kernel_rfl
                    case hn => decide
                    case hw => exact (Below.refl _ _).drew
                    case hs =>
                      refine auto_op 79 [] (by kernel_rfl) (fun y w' HW hd K hK => ?_) ?_
                      · go_simp
                        refine hK _ _ ?_ ?_ HW
                        · simp [upd]
                        · exact rfl
                      refine auto_op 80 [] (by kernel_rfl) (fun y w' HW hd K hK => ?_) ?_
                      · go_simp
                        refine hK _ _ ?_ ?_ HW
                        · simp [upd]
                        · exact rfl
                      refine auto_op 81 [] (by kernel_rfl) (fun y w' HW hd K hK => ?_) ?_
                      · go_simp
                        refine hK _ _ ?_ ?_ HW
                        · simp [upd]
                        · exact rfl
                      refine auto_op 82 [1, 2] (by kernel_rfl) (fun y w' HW hd K hK => ?_) ?_
                      · have e1 := hd_nth (hd 1 (by simp)) rfl
                        have e2 := hd_nth (hd 2 (by simp)) rfl
                        go_simp
                        refine hK _ _ ?_ ?_ HW
                        · simp [upd, e1, e2]
                        · exact rfl
                      refine auto_op 83 [3] (by kernel_rfl) (fun y w' HW hd K hK => ?_) ?_
                      · have e3 := hd_nth (hd 3 (by simp)) rfl
                        have hcl : ∀ p : Addr, p.block < wy.heap.size → w'.cell? p = wy.cell? p := fun p hp => HW.cell hp
                        go_simp
                        refine hK _ _ ?_ ?_ HW
                        · simp [upd, e3]
                        · exact rfl
                      refine auto_op 84 [] (by kernel_rfl) (fun y w' HW hd K hK => ?_) ?_
                      · go_simp
                        refine hK _ _ ?_ ?_ HW
                        · simp [upd]
                        · exact rfl
                      refine auto_op 85 [] (by kernel_rfl) (fun y w' HW hd K hK => ?_) ?_
                      · go_simp
                        refine hK _ _ ?_ ?_ HW
                        · simp [upd]
                        · exact rfl
                      refine auto_op 86 [5, 6] (by kernel_rfl) (fun y w' HW hd K hK => ?_) ?_
                      · have e5 := hd_nth (hd 5 (by simp)) rfl
                        have e6 := hd_nth (hd 6 (by simp)) rfl
                        go_simp
                        refine hK _ _ ?_ ?_ HW
                        · simp [upd, e5, e6]
                        · exact rfl
                      refine auto_op 87 [7] (by kernel_rfl) (fun y w' HW hd K hK => ?_) ?_
                      · have e7 := hd_nth (hd 7 (by simp)) rfl
                        have hcl : ∀ p : Addr, p.block < wy.heap.size → w'.cell? p = wy.cell? p := fun p hp => HW.cell hp
                        go_simp
                        refine hK _ _ ?_ ?_ HW
                        · simp [upd, e7]
                        · exact rfl
                      refine auto_last fun y w' HW hd K hK => ?_
                      have e0 := hd_nth (hd 0 (by omega)) rfl
                      have e1 := hd_nth (hd 1 (by omega)) rfl
                      have e2 := hd_nth (hd 2 (by omega)) rfl
                      have e3 := hd_nth (hd 3 (by omega)) rfl
                      have e4 := hd_nth (hd 4 (by omega)) rfl
                      have e5 := hd_nth (hd 5 (by omega)) rfl
                      have e6 := hd_nth (hd 6 (by omega)) rfl
                      have e7 := hd_nth (hd 7 (by omega)) rfl
                      have e8 := hd_nth (hd 8 (by omega)) rfl
                      have HPD := Lib.hid (HP9.out.more HW)
                      have HQD := Lib.hid (HQ9.out.more HW)
                      have HBD := Lib.hid (HB9.out.trans (HW.mono HB9.out.size))
                      go_simp
                      refine (HPR.out _ HQD.out).mono ?_
                      rintro e w6 ⟨rfl, HPA, hk6⟩
                      have HJ9 : Hid (JB w w6 w.heap.size d room (k + 1) l2) := Lib.hid ⟨HPD.out.kq hk6 (by have := HGD.out; simp; omega), HPA.out, HBD.out.trans (hk6.under (fun q hq => by have := HGD.out; simp at hq; omega) HBD.out.size)⟩
                      refine hK _ _ ?_
                      clear hd hK K HW hk6 HPA
                      go_wp2
                      go_meet
                      exact ⟨_, HLE, HJ9⟩
      clear HJ HLN hz0 hz1 c0 c0l
      obtain ⟨l2, HLN, HJ⟩ := hcut
      obtain ⟨wx, hwx⟩ : ∃ wx, wc = wx := ⟨_, rfl⟩
      rw [hwx] at HJ ⊢
      clear hwx
      obtain ⟨a, m, c, hdt, hay⟩ := HJ.out.q
      have hm : l2.length = m := hdt.len
      have HM := Lib.hid hm
      have dc := hdt.cell0
      have dl := hdt.blk.lt
      have HRW := Lib.hid hdt.row
      have HMB : Hid (m ≤ 100000) := Lib.hid (by have := HLN.out; have := HRM.out; omega)
      have HLEN : Hid (∀ W', Below wx.heap.size wx W' → Calls Try.prog 22 #[.pointer (some ⟨w.heap.size, 0, none⟩)] W' fun e w' => e = .returned (.int .i64 m) ∧ W' = w') := Lib.hid fun W' hW => puLen m hm (HJ.out.p.more hW)
      have HLI : Hid (∀ W', Below wx.heap.size wx W' → Calls Try.prog 24 #[.pointer (some ⟨w.heap.size, 0, none⟩)] W' fun e w' => (∃ a cap, e = .returned (.slice a m cap) ∧ Hid (RcRow w' a l2 ∧ ∀ y, a = some y → W'.heap.size ≤ y.block)) ∧ Below W'.heap.size W' w') := Lib.hid fun W' hW => puList m hm (HJ.out.p.more hW)
      clear hdt hay hm
      go_upto_region 32 with fail
      apply wp_region_ex [179, 180, 181, 182, 183, 184, 185, 186, 187, 188, 189, 190, 191, 192, 193, 194, 195] [_, _, _, _, _, _, _, _, _, _, undef, _, _, _, _, _, _] 10 (fun v W' => ∃ a cap, v = .slice a m cap ∧ RcRow W' a l2) (fun v W1 W2 hb h => h.elim fun a h => h.elim fun cap h => ⟨a, cap, h.1, h.2.more hb⟩)
      case hm => kernel_rfl
      case hT => intro y; simp only [setAll, List.setIfInBounds_toArray, List.set_cons_succ, List.set_cons_zero]; exact rfl
      case hok => kernel_rfl
      case hn => decide
      case hs =>
        refine ex_op 179 [] (by kernel_rfl) (by decide) (fun y w' HW hd K hK => ?_) ?_
        · go_simp
          refine hK _ _ ?_ ?_ (Below.refl _ _)
          · simp [upd]
          · exact rfl
        refine ex_op 180 [0] (by kernel_rfl) (by decide) (fun y w' HW hd K hK => ?_) ?_
        · have e0 := exR_nth (hd 0 (by simp)) (by decide) rfl
          go_simp
          refine (HLEN.out _ HW).mono ?_
          rintro e w3 ⟨rfl, rfl⟩
          refine hK _ _ ?_ ?_ (Below.refl _ _)
          · simp [upd, e0]
          · exact rfl
        refine ex_op 181 [] (by kernel_rfl) (by decide) (fun y w' HW hd K hK => ?_) ?_
        · go_simp
          refine hK _ _ ?_ ?_ (Below.refl _ _)
          · simp [upd]
          · exact rfl
        refine ex_op 182 [2] (by kernel_rfl) (by decide) (fun y w' HW hd K hK => ?_) ?_
        · have e2 := exR_nth (hd 2 (by simp)) (by decide) rfl
          go_simp
          refine hK _ _ ?_ ?_ (Below.refl _ _)
          · simp [upd, e2]
          · exact rfl
        refine ex_op 183 [3] (by kernel_rfl) (by decide) (fun y w' HW hd K hK => ?_) ?_
        · have e3 := exR_nth (hd 3 (by simp)) (by decide) rfl
          go_simp
          refine hK _ _ ?_ ?_ (Below.refl _ _)
          · simp [upd, e3]
          · exact rfl
        refine ex_op 184 [4] (by kernel_rfl) (by decide) (fun y w' HW hd K hK => ?_) ?_
        · have e4 := exR_nth (hd 4 (by simp)) (by decide) rfl
          have hcl : ∀ p : Addr, p.block < wx.heap.size → w'.cell? p = wx.cell? p := fun p hp => HW.cell hp
          go_simp
          refine hK _ _ ?_ ?_ (Below.refl _ _)
          · simp [upd, e4]
          · exact rfl
        refine ex_op 185 [5] (by kernel_rfl) (by decide) (fun y w' HW hd K hK => ?_) ?_
        · have e5 := exR_nth (hd 5 (by simp)) (by decide) rfl
          go_simp
          refine hK _ _ ?_ ?_ (Below.refl _ _)
          · simp [upd, e5]
          · exact rfl
        refine ex_op 186 [1, 6] (by kernel_rfl) (by decide) (fun y w' HW hd K hK => ?_) ?_
        · have e1 := exR_nth (hd 1 (by simp)) (by decide) rfl
          have e6 := exR_nth (hd 6 (by simp)) (by decide) rfl
          go_simp
          refine hK _ _ ?_ ?_ (Below.refl _ _)
          · simp [upd, e1, e6]
          · exact rfl
        refine ex_op 187 [7, 1] (by kernel_rfl) (by decide) (fun y w' HW hd K hK => ?_) ?_
        · have e1 := exR_nth (hd 1 (by simp)) (by decide) rfl
          have e7 := exR_nth (hd 7 (by simp)) (by decide) rfl
          go_simp
          refine hK _ _ ?_ ?_ (Below.refl _ _)
          · simp [upd, e1, e7]
          · exact rfl
        refine ex_op 188 [8] (by kernel_rfl) (by decide) (fun y w' HW hd K hK => ?_) ?_
        · have e8 := exR_nth (hd 8 (by simp)) (by decide) rfl
          go_simp
          refine hK _ _ ?_ ?_ (Below.refl _ _)
          · simp [upd, e8]
          · exact rfl
        refine ex_one 189 [9, 8, 8] (by kernel_rfl) rfl (fun y w' HW hd K hK => ?_) ?_
        · have e8 := exR_nth (hd 8 (by simp)) (by decide) rfl
          have e9 := exR_nth (hd 9 (by simp)) (by decide) rfl
          go_simp
          refine (HLI.out _ HW).mono ?_
          rintro e w3 ⟨⟨a5, c5, rfl, HR5⟩, hb3⟩
          have hP : ∃ a cap, Value.slice a5 m c5 = .slice a m cap ∧ RcRow w3 a l2 := ⟨a5, c5, rfl, HR5.out.1⟩
          refine hK _ _ ?_ ?_ hb3
          · simp [upd, e8, e9]
          · exact hP
        refine ex_op 190 [8] (by kernel_rfl) (by decide) (fun y w' HW hd K hK => ?_) ?_
        · have e8 := exR_nth (hd 8 (by simp)) (by decide) rfl
          go_simp
          refine hK _ _ ?_ ?_ (Below.refl _ _)
          · simp [upd, e8]
          · exact rfl
        refine ex_op 191 [11, 8] (by kernel_rfl) (by decide) (fun y w' HW hd K hK => ?_) ?_
        · have e8 := exR_nth (hd 8 (by simp)) (by decide) rfl
          have e11 := exR_nth (hd 11 (by simp)) (by decide) rfl
          go_simp
          refine hK _ _ ?_ ?_ (Below.refl _ _)
          · simp [upd, e8, e11]
          · exact rfl
        refine ex_op 192 [12, 8] (by kernel_rfl) (by decide) (fun y w' HW hd K hK => ?_) ?_
        · have e8 := exR_nth (hd 8 (by simp)) (by decide) rfl
          have e12 := exR_nth (hd 12 (by simp)) (by decide) rfl
          go_simp
          refine hK _ _ ?_ ?_ (Below.refl _ _)
          · simp [upd, e8, e12]
          · exact rfl
        refine ex_op 193 [13, 8] (by kernel_rfl) (by decide) (fun y w' HW hd K hK => ?_) ?_
        · have e8 := exR_nth (hd 8 (by simp)) (by decide) rfl
          have e13 := exR_nth (hd 13 (by simp)) (by decide) rfl
          have hcl : ∀ p : Addr, p.block < wx.heap.size → w'.cell? p = wx.cell? p := fun p hp => HW.cell hp
          go_simp
          refine hK _ _ ?_ ?_ (Below.refl _ _)
          · simp [upd, e8, e13]
          · exact rfl
        refine ex_op 194 [10, 14, 10, 8] (by kernel_rfl) (by decide) (fun y w' HW hd K hK => ?_) ?_
        · have e8 := exR_nth (hd 8 (by simp)) (by decide) rfl
          have e14 := exR_nth (hd 14 (by simp)) (by decide) rfl
          have eP := exR_b (hd 10 (by simp))
          obtain ⟨a5, c5, e10, hr5⟩ := eP
          go_simp
          refine (same18_true a5 a c5 c m l2 _ HM.out HMB.out hr5 (HRW.out.more HW)).mono ?_
          rintro e w3 ⟨rfl, hb3⟩
          refine hK _ _ ?_ ?_ hb3
          · simp [upd, e8, e14, e10]
          · exact rfl
        refine ex_op 195 [15, 8] (by kernel_rfl) (by decide) (fun y w' HW hd K hK => ?_) ?_
        · have e8 := exR_nth (hd 8 (by simp)) (by decide) rfl
          have e15 := exR_nth (hd 15 (by simp)) (by decide) rfl
          go_simp
          refine hK _ _ ?_ ?_ (Below.refl _ _)
          · simp [upd, e8, e15]
          · exact rfl
        refine ex_last fun y w' HW hd K hK => ?_
        have e0 := exR_nth (hd 0 (by omega)) (by decide) rfl
        have e1 := exR_nth (hd 1 (by omega)) (by decide) rfl
        have e2 := exR_nth (hd 2 (by omega)) (by decide) rfl
        have e3 := exR_nth (hd 3 (by omega)) (by decide) rfl
        have e4 := exR_nth (hd 4 (by omega)) (by decide) rfl
        have e5 := exR_nth (hd 5 (by omega)) (by decide) rfl
        have e6 := exR_nth (hd 6 (by omega)) (by decide) rfl
        have e7 := exR_nth (hd 7 (by omega)) (by decide) rfl
        have e8 := exR_nth (hd 8 (by omega)) (by decide) rfl
        have e9 := exR_nth (hd 9 (by omega)) (by decide) rfl
        have e11 := exR_nth (hd 11 (by omega)) (by decide) rfl
        have e12 := exR_nth (hd 12 (by omega)) (by decide) rfl
        have e13 := exR_nth (hd 13 (by omega)) (by decide) rfl
        have e14 := exR_nth (hd 14 (by omega)) (by decide) rfl
        have e15 := exR_nth (hd 15 (by omega)) (by decide) rfl
        have e16 := exR_nth (hd 16 (by omega)) (by decide) rfl
        go_simp
        refine hK _ _ ?_
        clear hd hK K e0 e1 e2 e3 e4 e5 e6 e7 e8 e9 e11 e12 e13 e14 e15 e16
        have HJ9 := Lib.hid (HJ.out.more HW)
        clear HW HLEN HLI HJ dc dl
        go_wp2
        go_roundw
        case rel => exact ⟨k + 1, l2, H3.out, by go_num, HLN, HJ9⟩
        case measure => have := H3.out; simp [intOf]; omega
    · have hout : (¬ (k : Int) < (lz : Int)) ∨ ((k : Int) < (lz : Int) ∧ ¬ (k : Int) < (lk : Int)) ∨ ((k : Int) < (lz : Int) ∧ (k : Int) < (lk : Int) ∧ ¬ (k : Int) < (le : Int)) ∨ ((k : Int) < (lz : Int) ∧ (k : Int) < (lk : Int) ∧ (k : Int) < (le : Int) ∧ ¬ (k : Int) < 100) := by omega
      have HB := Lib.hid HJ.out.b
      rcases hout with f1 | ⟨f1, f2⟩ | ⟨f1, f2, f3⟩ | ⟨f1, f2, f3, f4⟩
      all_goals
        clear hin hk HK HE HZ HZB HJ HLN
        go_wp2_with fail
        refine (awake18 wr).mono ?_
        rintro e w6 ⟨rfl, hb⟩
        have HB6 := Lib.hid (HB.out.trans (hb.mono HB.out.size))
        clear hb
        go_wp2
        go_ret
        exact ⟨rfl, HB6.out⟩
end Go.Proofs.Ytgcpcffgpokbfaa.Sb
