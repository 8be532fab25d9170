/- The walk of hermitagelaw16.ViewPlays. -/
import Derived.Test.YtlgohgjnocoadaaYr
import Derived.Test.YtlgohgjnocoadaaRd
namespace Go.Proofs.Ytlgohgjnocoadaa.Vw
open Go.RowKit Go.Shelf Ut Oc
set_option maxRecDepth 100000
set_option linter.unusedVariables false
set_option maxHeartbeats 8000000

theorem ints_same (a b : Option Addr) (ca cb n B1 B2 : Nat) (zs : List Int) (w : World) (hl : zs.length ≤ 100000) (hB1 : B1 ≤ w.heap.size) (hB2 : B2 ≤ w.heap.size) (h1 : RowK .i64 w B1 a n zs) (h2 : RowK .i64 w B2 b n zs) :
    Calls Try.prog 10 #[.slice a n ca, .slice b n cb] w fun e W' => e = .returned (.bool true) ∧ Below w.heap.size w W' := by
  have hn : n = zs.length := h1.1.symm
  have H1 := Lib.hid h1
  have H2 := Lib.hid h2
  have hn2 : n ≤ 100000 := by omega
  clear h1 h2 hn
  go_enter Try.func10, Try.ntmps10
  go_wp2
  go_loopw [5] (fun i wr => ∃ k : Nat, k ≤ n ∧ i = .int .i64 k ∧ Below w.heap.size w wr) (fun i _ => n - (intOf i).toNat)
  case atStart => exact ⟨0, Nat.zero_le _, rfl, Below.refl _ _⟩
  case round =>
    obtain ⟨k, hk, rfl, hb⟩ := hrel
    by_cases hlt : k < n
    · obtain ⟨x, rfl, _, hx⟩ := (H1.out.below (hb.mono hB1)).2 k hlt
      obtain ⟨y, rfl, _, hy⟩ := (H2.out.below (hb.mono hB2)).2 k hlt
      obtain ⟨u, hu⟩ : ∃ u, u = zs.getD k 0 := ⟨_, rfl⟩
      rw [← hu] at hx hy
      clear hu
      have b0 : (0 : Int) ≤ (k : Int) := by omega
      have b1 : (k : Int) < (n : Int) := by omega
      go_wp2
      go_quiet (fail)
      go_wp2
      go_roundw
      case rel => exact ⟨k + 1, by omega, by go_num, ⟨hb.os, hb.tape, hb.output, hb.size, hb.block⟩⟩
      case measure => simp [intOf]; omega
    · have hkn : k = n := by omega
      subst hkn
      have b1 : ¬ (k : Int) < (k : Int) := by omega
      go_wp2
      go_ret
      exact ⟨rfl, hb⟩

/-- an act that came in -/
structure ActV where
  k : Int
  pa : Int
  wd : Int
  kd : Int
  x : Int
  ba : Option Addr
  bl : Nat
  bc : Nat
  bs : List Int
def ActV.cs (A : ActV) : List Value := [.int .i64 A.k, .int .u32 A.pa, .int .i64 A.wd, .int .i64 A.kd, .int .u32 A.x, .slice A.ba A.bl A.bc]
def ActV.fine (w : World) (B : Nat) (A : ActV) : Prop := 0 ≤ A.pa ∧ A.pa < 4294967296 ∧ 0 ≤ A.x ∧ A.x < 4294967296 ∧ A.bl ≤ A.bc ∧ RowK .u8 w B A.ba A.bl A.bs ∧ AreBytes A.bs
def ActRow (w : World) (B : Nat) (a : Option Addr) (n : Nat) (Z : Nat → ActV) : Prop := ∀ i, i < n → ∃ y, a = some y ∧ y.block < B ∧ (∀ j v, (Z i).cs[j]? = some v → w.cell? (y.add (i * 6 + j)) = some v) ∧ (Z i).fine w B
theorem size_act (A : ActV) : (Try.prog.info? 32).map (·.size) = some A.cs.length := by kernel_rfl

/-- both sides' memories, of which each may have had the act or not yet; the act's own copy -/
def JX (Bz : Nat) (w0 : World) (ab b s m n g bt B q gv cap : Nat) (L : List Gm.Pl) (acs : List Value) (S S' : List Int) (D D' : List Bool) (f r : Bool) (W : World) : Prop :=
  Below Bz w0 W ∧ Blk W ab 32 acs ∧ PV W b s m n (if f then S' else S) L (if f then D' else D) ∧ DV W g bt B q n gv cap (if r then S' else S) L (if r then D' else D)
/-- how their blocks lie -/
def Apart (Bz ab b s m g B q gv : Nat) : Prop := Bz ≤ s ∧ m < B ∧ q < b ∧ b < g ∧ g < ab ∧ gv < ab ∧ s < m ∧ m < b ∧ B ≤ q ∧ q < g ∧ B ≤ gv
section
variable {Bz : Nat} {w0 W W' : World} {ab b s m n g bt B q gv cap : Nat} {L : List Gm.Pl} {acs : List Value} {S S' : List Int} {D D' : List Bool}
theorem JX.actP {r : Bool} (h : JX Bz w0 ab b s m n g bt B q gv cap L acs S S' D D' false r W) (hA : Apart Bz ab b s m g B q gv) (hP : PV W' b s m n S' L D') (hk : Kq [s, b] W W') : JX Bz w0 ab b s m n g bt B q gv cap L acs S S' D D' true r W' := by
  obtain ⟨h1, h2, h3, h4⟩ := h
  unfold Apart at hA
  refine ⟨h1.trans (hk.under (fun y hy => ?_) (by have := h3.st.lt; omega)), h2.kq hk (by simp; omega), hP, h4.kq hk (by simp; omega) (by simp; omega) (fun y hy => ?_)⟩
  · rcases List.mem_cons.1 hy with rfl | hy
    · omega
    · have e : y = b := (by simpa using hy)
      omega
  · rcases List.mem_cons.1 hy with rfl | hy
    · exact .inl (by omega)
    · have e : y = b := (by simpa using hy)
      rw [e]
      exact .inr (.inl ⟨_, h3.cell0⟩)
theorem JX.actD {f : Bool} (h : JX Bz w0 ab b s m n g bt B q gv cap L acs S S' D D' f false W) (hA : Apart Bz ab b s m g B q gv) (hD : DV W' g bt B q n gv cap S' L D') (hk : Kq [gv, g] W W') : JX Bz w0 ab b s m n g bt B q gv cap L acs S S' D D' f true W' := by
  obtain ⟨h1, h2, h3, h4⟩ := h
  have hne : b ≠ gv := h4.gv_ne (.inl ⟨_, h3.cell0⟩)
  unfold Apart at hA
  refine ⟨h1.trans (hk.under (fun y hy => ?_) (by have := h3.st.lt; omega)), h2.kq hk (by simp; omega), h3.kq hk (by simp; omega) (by simp; omega) (by simp; omega), hD⟩
  rcases List.mem_cons.1 hy with rfl | hy
  · omega
  · have e : y = g := (by simpa using hy)
    omega
end

theorem blk_noint {w : World} {b s m : Nat} {D : List Bool} {ty : TypeId} (h : Blk w b ty (vCells s m D)) {x : Addr} {J : Int} (hc : w.cell? x = some (.int .i64 J)) : x.block ≠ b := fun e => by
  have hb : w.heap[x.block]? = some (.cells (vCells s m D).toArray ty (0, 0)) := by rw [e]; exact h
  have h2 : x.spot = none ∧ (vCells s m D)[x.off]? = some (.int .i64 J) := by simpa [World.cell?, hb] using hc
  have h3 := List.mem_of_getElem? h2.2
  unfold vCells at h3
  simp at h3
theorem row_kq {w w' : World} {B n : Nat} {a : Option Addr} {zs : List Int} {g s m : Nat} {D : List Bool} {ty : TypeId} (h : RowK .i64 w B a n zs) (hB : B ≤ w.heap.size) (hg : Blk w g ty (vCells s m D)) (k : Kq [g] w w') : RowK .i64 w' B a n zs :=
  ⟨h.1, fun i hi => by
    obtain ⟨x, e, hx, hc⟩ := h.2 i hi
    refine ⟨x, e, hx, ?_⟩
    have hne := blk_noint hg hc
    exact (k.cell (p := x.add i) (by rw [block_of_add]; omega) (by simpa using hne)).trans hc⟩
theorem plays_any (x : Nat) (hx : x < 256) (ai ap al : Option Addr) (li ci lp cp ll cl : Nat) (xs : List Int) (Z : Nat → Gm.Pl) (A : Nat → ActV) (w : World) (hli : li ≤ 9223372036854775807) (hlp : lp ≤ 9223372036854775807) (hll : ll ≤ 9223372036854775807)
    (hi : RowK .i64 w w.heap.size ai li xs) (hp : Gm.PlRow w w.heap.size ap lp Z) (ha : ActRow w w.heap.size al ll A) :
    Calls Try.prog 3 #[.int .u8 x, .slice ai li ci, .slice ap lp cp, .slice al ll cl] w fun e w' => e = .returned (.bool true) ∧ Below w.heap.size w w' := by
  have HMK := Lib.hid (made_any x hx ai ap li ci lp cp w.heap.size xs Z w hli hlp hi hp (Nat.le_refl _))
  generalize 1 + x % 32 = n at HMK
  generalize mkL xs Z (cnt li lp) = LM at HMK
  have HA := Lib.hid ha
  clear hi hp ha
  go_enter Try.func3, Try.ntmps3
  go_wp2_with fail
  refine HMK.out.mono ?_
  rintro e w1 ⟨b, s, m, g, bt, B, q, gv, cap, rfl, hmk⟩
  have HP1 := Lib.hid hmk.pv
  have HD1 := Lib.hid hmk.dv
  have HB1 := Lib.hid hmk.blw
  have HGL := Lib.hid hmk.dv.lt
  have HGV := Lib.hid hmk.dv.gvB
  have HAP : Hid (∀ ab, w1.heap.size ≤ ab → Apart w.heap.size ab b s m g B q gv) := Lib.hid fun ab hab => by
    have h1 := hmk.ws
    have h2 := hmk.mB
    have h3 := hmk.qb
    have h4 := hmk.bg
    have h5 := hmk.dv.lt
    have h6 := hmk.dv.gvB
    have h7 := hmk.pv.sm
    have h8 := hmk.pv.mb
    have h9 := hmk.dv.bq
    have h10 := hmk.dv.qg
    unfold Apart
    omega
  clear hmk HMK
  go_wp2
  go_loopw [11] (fun j wr => ∃ (k : Nat) (S : List Int) (D : List Bool), k ≤ 60 ∧ j = .int .i64 k ∧ Hid (PV wr b s m n S LM D) ∧ Hid (DV wr g bt B q n gv cap S LM D) ∧ Hid (Below w.heap.size w wr) ∧ Hid (w1.heap.size ≤ wr.heap.size)) (fun j _ => 60 - (intOf j).toNat)
  case atStart => exact ⟨0, _, _, Nat.zero_le _, rfl, HP1, HD1, HB1, Lib.hid (Nat.le_refl _)⟩
  case round =>
    clear HP1 HD1 HB1
    obtain ⟨k, S, D, hk, rfl, HP, HD, HB, HWL⟩ := hrel
    by_cases hin : k < ll ∧ k < 60
    · obtain ⟨h0, h1⟩ := hin
      obtain ⟨y, rfl, hyb, hyc, hfine⟩ := HA.out k h0
      generalize A k = a at hyc hfine
      have HLD : Hid (∀ (ρ : Operand → Value) (o : Oper), o.op = .load 32 (.tmp 50) → ρ (.tmp 50) = .pointer (some (y.add (k * 6))) → (execOp ρ o).run Try.prog wr = .ok (.value (.agg a.cs.toArray)) wr) := Lib.hid fun ρ o ho hx => exec_load_cells 32 (.tmp 50) ho (y.add (k * 6)) hx a.cs _ (fun j v hj => by
        rw [add_of_add]
        exact (HB.out.cell (p := y.add (k * 6 + j)) (by rw [block_of_add]; exact hyb)).trans (hyc j v hj)) Try.underlying32 rfl (size_act a)
      have f0 : (k : Int) < (ll : Int) := by omega
      have f1 : (k : Int) < 60 := by omega
      have H1 := Lib.hid h1
      have HFN := Lib.hid hfine
      clear hyb hyc hfine h0 h1 hk HA
      obtain ⟨ak, apa, awd, akd, aw, aba, abl, abc, abs⟩ := a
      unfold ActV.cs at HLD
      dsimp only at HLD
      go_upto_block 2 with (refine wpList_runW rfl (some 51) rfl (.agg [Value.int .i64 ak, .int .u32 apa, .int .i64 awd, .int .i64 akd, .int .u32 aw, .slice aba abl abc].toArray) _ (HLD.out _ _ rfl rfl) ?_)
      have hA := (Below.refl wr.heap.size wr).alloc (Nat.le_refl _) (.cells #[.int .i64 ak, .int .u32 apa, .int .i64 awd, .int .i64 akd, .int .u32 aw, .slice aba abl abc] 32)
      have HAB : Hid (Blk (wr.alloc (.cells #[.int .i64 ak, .int .u32 apa, .int .i64 awd, .int .i64 akd, .int .u32 aw, .slice aba abl abc] 32)) wr.heap.size 32 [.int .i64 ak, .int .u32 apa, .int .i64 awd, .int .i64 akd, .int .u32 aw, .slice aba abl abc]) := Lib.hid (Blk.new wr _ _)
      have HP2 := Lib.hid (HP.out.more hA)
      have HD2 := Lib.hid (HD.out.more hA)
      have HB2 := Lib.hid (HB.out.trans (hA.mono HB.out.size))
      have HAPT := Lib.hid (HAP.out wr.heap.size HWL.out)
      have HWL2 : Hid (w1.heap.size ≤ (wr.alloc (.cells #[.int .i64 ak, .int .u32 apa, .int .i64 awd, .int .i64 akd, .int .u32 aw, .slice aba abl abc] 32)).heap.size) := Lib.hid (Nat.le_trans HWL.out hA.size)
      clear hA HP HD HLD
      have HFN2 : Hid (0 ≤ apa ∧ apa < 4294967296 ∧ 0 ≤ aw ∧ aw < 4294967296 ∧ abl ≤ abc ∧ RowK .u8 w w.heap.size aba abl abs ∧ AreBytes abs) := HFN
      clear HFN
      have p0 : 0 ≤ apa := HFN2.out.1
      have p1 : apa < 4294967296 := HFN2.out.2.1
      have q0 : 0 ≤ aw := HFN2.out.2.2.1
      have q1 : aw < 4294967296 := HFN2.out.2.2.2.1
      generalize wr.alloc (.cells #[.int .i64 ak, .int .u32 apa, .int .i64 awd, .int .i64 akd, .int .u32 aw, .slice aba abl abc] 32) = V at HAB HP2 HD2 HB2 HWL2 ⊢
      generalize wr.heap.size = ab at HAB HAPT ⊢
      obtain ⟨t3, ht3⟩ : ∃ t3, (ak == 3) = t3 := ⟨_, rfl⟩
      obtain ⟨t4, ht4⟩ : ∃ t4, (ak == 4) = t4 := ⟨_, rfl⟩
      obtain ⟨acs, hacs⟩ : ∃ acs, [Value.int .i64 ak, .int .u32 apa, .int .i64 awd, .int .i64 akd, .int .u32 aw, .slice aba abl abc] = acs := ⟨_, rfl⟩
      rw [hacs] at HAB
      have a1 : acs[1]? = some (.int .u32 apa) := by rw [← hacs]; rfl
      have a2 : acs[2]? = some (.int .i64 awd) := by rw [← hacs]; rfl
      have a3 : acs[3]? = some (.int .i64 akd) := by rw [← hacs]; rfl
      have a4 : acs[4]? = some (.int .u32 aw) := by rw [← hacs]; rfl
      have a5 : acs[5]? = some (.slice aba abl abc) := by rw [← hacs]; rfl
      have HA1 := Lib.hid a1
      have HA2 := Lib.hid a2
      have HA3 := Lib.hid a3
      have HA4 := Lib.hid a4
      have HA5 := Lib.hid a5
      clear hacs a1 a2 a3 a4 a5
      go_cut [] (fun wx => ∃ S' D', Hid (Blk wx ab 32 acs) ∧ Hid (PV wx b s m n S' LM D') ∧ Hid (DV wx g bt B q n gv cap S' LM D') ∧ Hid (Below w.heap.size w wx) ∧ Hid (w1.heap.size ≤ wx.heap.size))
      case first =>
        have HVL := Lib.hid (Nat.le_refl V.heap.size)
        cases t3
        rotate_left
        · obtain ⟨t, ht⟩ : ∃ t, ownB n LM apa abl = t := ⟨_, rfl⟩
          obtain ⟨S2, hS2⟩ : ∃ S2, wrtS n S LM apa abs = S2 := ⟨_, rfl⟩
          obtain ⟨D2, hD2⟩ : ∃ D2, wrtD n LM D apa abl = D2 := ⟨_, rfl⟩
          have HRV := Lib.hid (HFN2.out.2.2.2.2.2.1.below HB2.out)
          have hap := HAPT.out
          unfold Apart at hap
          have HPW : Hid (∀ r W, JX w.heap.size V ab b s m n g bt B q gv cap LM acs S S2 D D2 false r W → Calls Try.prog 8 #[.pointer (some ⟨b, 0, none⟩), .int .u32 apa, .slice aba abl abc] W fun e w' => e = .returned (.bool t) ∧ PV w' b s m n S2 LM D2 ∧ Kq [s, b] W w') := Lib.hid fun r W h => write_any apa aba abl abc w.heap.size abs t S2 D2 p0 p1 ht hS2 hD2 HFN2.out.2.2.2.2.1 HFN2.out.2.2.2.2.2.2 W (HRV.out.below h.1) h.2.2.1 (by omega)
          have HDW : Hid (∀ f W, JX w.heap.size V ab b s m n g bt B q gv cap LM acs S S2 D D2 f false W → Calls Try.prog 9 #[.pointer (some ⟨g, 0, none⟩), .int .u32 apa, .slice aba abl abc] W fun e w' => e = .returned (.bool t) ∧ DV w' g bt B q n gv cap S2 LM D2 ∧ Kq [gv, g] W w') := Lib.hid fun f W h => refWrite_any apa aba abl abc w.heap.size abs t S2 D2 p0 p1 ht hS2 hD2 HFN2.out.2.2.2.2.2.2 W (HRV.out.below h.1) h.2.2.2 (by omega)
          have HJ : Hid (JX w.heap.size V ab b s m n g bt B q gv cap LM acs S S2 D D2 false false V.drew) := Lib.hid ⟨(Below.refl _ _).drew, HAB.out.more (Below.refl _ _).drew, HP2.out.more (Below.refl _ _).drew, HD2.out.more (Below.refl _ _).drew⟩
          clear ht hS2 hD2 hap HRV HP2 HD2 HAB p0 p1 q0 q1
          go_upto_region 12 with fail
          clear ht3 ht4
          apply wp_region_autoL [73, 74, 75, 76, 77, 78, 79, 80, 81, 82, 83, 84] [_, _, _, _, _, _, _, _, _, _, _, _] (fun L_ W' => JX w.heap.size V ab b s m n g bt B q gv cap LM acs S S2 D D2 (L_ 5) (L_ 11) W')
          case hm => kernel_rfl
          case hT => intro y; simp only [setAll, List.setIfInBounds_toArray, List.set_cons_succ, List.set_cons_zero]; exact rfl
          case hok => kernel_rfl
          case hn => decide
          case hw => exact fun L_ hL => (by simp only [hL 5 (by decide), hL 11 (by decide)]; exact HJ.out)
          case hs =>
            refine autoL_op 73 [] (by kernel_rfl) (fun L y w' hL HW hd K hK => ?_) ?_
            · go_simp
              refine hK _ _ ?_ ?_ HW
              · simp [upd]
              · exact rfl
            refine autoL_op 74 [] (by kernel_rfl) (fun L y w' hL HW hd K hK => ?_) ?_
            · go_simp
              refine hK _ _ ?_ ?_ HW
              · simp [upd]
              · exact rfl
            refine autoL_op 75 [1] (by kernel_rfl) (fun L y w' hL HW hd K hK => ?_) ?_
            · have e1 := hd_nth (hd 1 (by simp)) rfl
              have hcl : ∀ p : Addr, p.block < w.heap.size → w'.cell? p = V.cell? p := fun p hp => HW.1.cell hp
              have x1 := HW.2.1.cell HA1.out
              go_simp
              refine hK _ _ ?_ ?_ HW
              · simp [upd, e1]
              · exact rfl
            refine autoL_op 76 [] (by kernel_rfl) (fun L y w' hL HW hd K hK => ?_) ?_
            · go_simp
              refine hK _ _ ?_ ?_ HW
              · simp [upd]
              · exact rfl
            refine autoL_op 77 [3] (by kernel_rfl) (fun L y w' hL HW hd K hK => ?_) ?_
            · have e3 := hd_nth (hd 3 (by simp)) rfl
              have hcl : ∀ p : Addr, p.block < w.heap.size → w'.cell? p = V.cell? p := fun p hp => HW.1.cell hp
              have x1 := HW.2.1.cell HA5.out
              go_simp
              refine hK _ _ ?_ ?_ HW
              · simp [upd, e3]
              · exact rfl
            refine autoL_op 78 [0, 2, 4] (by kernel_rfl) (fun L y w' hL HW hd K hK => ?_) ?_
            · have e0 := hd_nth (hd 0 (by simp)) rfl
              have e2 := hd_nth (hd 2 (by simp)) rfl
              have e4 := hd_nth (hd 4 (by simp)) rfl
              go_simp
              have HW0 : JX w.heap.size V ab b s m n g bt B q gv cap LM acs S S2 D D2 false (L 11) w' := by have h := HW; simp only [hL] at h; exact h
              refine (HPW.out _ _ HW0).mono ?_
              rintro e w3 ⟨rfl, hp3, hk3⟩
              refine hK _ _ ?_ ?_ (HW0.actP HAPT.out hp3 hk3)
              · simp [upd, e0, e2, e4]
              · exact rfl
            refine autoL_op 79 [] (by kernel_rfl) (fun L y w' hL HW hd K hK => ?_) ?_
            · go_simp
              refine hK _ _ ?_ ?_ HW
              · simp [upd]
              · exact rfl
            refine autoL_op 80 [] (by kernel_rfl) (fun L y w' hL HW hd K hK => ?_) ?_
            · go_simp
              refine hK _ _ ?_ ?_ HW
              · simp [upd]
              · exact rfl
            refine autoL_op 81 [7] (by kernel_rfl) (fun L y w' hL HW hd K hK => ?_) ?_
            · have e7 := hd_nth (hd 7 (by simp)) rfl
              have hcl : ∀ p : Addr, p.block < w.heap.size → w'.cell? p = V.cell? p := fun p hp => HW.1.cell hp
              have x1 := HW.2.1.cell HA1.out
              go_simp
              refine hK _ _ ?_ ?_ HW
              · simp [upd, e7]
              · exact rfl
            refine autoL_op 82 [] (by kernel_rfl) (fun L y w' hL HW hd K hK => ?_) ?_
            · go_simp
              refine hK _ _ ?_ ?_ HW
              · simp [upd]
              · exact rfl
            refine autoL_op 83 [9] (by kernel_rfl) (fun L y w' hL HW hd K hK => ?_) ?_
            · have e9 := hd_nth (hd 9 (by simp)) rfl
              have hcl : ∀ p : Addr, p.block < w.heap.size → w'.cell? p = V.cell? p := fun p hp => HW.1.cell hp
              have x1 := HW.2.1.cell HA5.out
              go_simp
              refine hK _ _ ?_ ?_ HW
              · simp [upd, e9]
              · exact rfl
            refine autoL_op 84 [6, 8, 10, 5] (by kernel_rfl) (fun L y w' hL HW hd K hK => ?_) ?_
            · have e5 := hd_nth (hd 5 (by simp)) rfl
              have e6 := hd_nth (hd 6 (by simp)) rfl
              have e8 := hd_nth (hd 8 (by simp)) rfl
              have e10 := hd_nth (hd 10 (by simp)) rfl
              go_simp
              have HW0 : JX w.heap.size V ab b s m n g bt B q gv cap LM acs S S2 D D2 (L 5) false w' := by have h := HW; simp only [hL] at h; exact h
              refine (HDW.out _ _ HW0).mono ?_
              rintro e w3 ⟨rfl, hd3, hk3⟩
              refine hK _ _ ?_ ?_ (HW0.actD HAPT.out hd3 hk3)
              · simp [upd, e5, e6, e8, e10]
              · exact rfl
            refine autoL_last fun L y w' hLs HW hd K hK => ?_
            have e0 := hd_nth (hd 0 (by omega)) rfl
            have e1 := hd_nth (hd 1 (by omega)) rfl
            have e2 := hd_nth (hd 2 (by omega)) rfl
            have e3 := hd_nth (hd 3 (by omega)) rfl
            have e4 := hd_nth (hd 4 (by omega)) rfl
            have e5 := hd_nth (hd 5 (by omega)) rfl
            have e6 := hd_nth (hd 6 (by omega)) rfl
            have e7 := hd_nth (hd 7 (by omega)) rfl
            have e8 := hd_nth (hd 8 (by omega)) rfl
            have e9 := hd_nth (hd 9 (by omega)) rfl
            have e10 := hd_nth (hd 10 (by omega)) rfl
            have e11 := hd_nth (hd 11 (by omega)) rfl
            have HWF := Lib.hid (show JX w.heap.size V ab b s m n g bt B q gv cap LM acs S S2 D D2 true true w' by have h := HW; simp only [hLs 5 (by omega), hLs 11 (by omega)] at h; exact h)
            go_simp
            refine hK _ _ ?_
            clear hd hK K e0 e1 e2 e3 e4 e5 e6 e7 e8 e9 e10 e11
            clear hLs HW
            go_wp2
            go_meet
            exact ⟨S2, D2, HWF.out.2.1, HWF.out.2.2.1, HWF.out.2.2.2, HB2.out.trans HWF.out.1, Nat.le_trans HWL2.out HWF.out.1.size⟩
        · cases t4
          rotate_left
          · have HJ : Hid (JX w.heap.size V ab b s m n g bt B q gv cap LM acs S S D noD false false V) := Lib.hid ⟨Below.refl _ _, HAB.out, HP2.out, HD2.out⟩
            have HDL := Lib.hid (dirtL_len D 12)
            clear HD2 HAB p0 p1 q0 q1
            go_wp2_with fail
            clear ht3 ht4
            refine (dirty_any V HP2.out).mono ?_
            rintro e w3 ⟨ra, rn, rc, rfl, HRA, hp3, hk3⟩
            have HJ3 := Lib.hid (HJ.out.actP HAPT.out hp3 (hk3.more (T' := [s, b]) (by simp)))
            have HD3 : Hid (DV w3 g bt B q n gv cap S LM D) := Lib.hid HJ3.out.2.2.2
            clear hp3 hk3 HJ HP2
            go_wp2_with fail
            refine (refDirty_any w3 HD3.out).mono ?_
            rintro e w4 ⟨sa, sn, sc, rfl, HRB, hd4, hk4⟩
            have HRC := Lib.hid (row_kq HRA.out (Nat.le_refl _) HD3.out.blk hk4)
            have HSZ := Lib.hid hk4.size
            have HJ4 := Lib.hid (HJ3.out.actD HAPT.out hd4 (hk4.more (T' := [gv, g]) (by simp)))
            obtain rfl : rn = sn := HRA.out.1.symm.trans HRB.out.1
            clear hd4 hk4 HRA HJ3 HD3
            generalize dirtL D 12 = zs at HRC HRB HDL
            go_wp2_with fail
            refine (ints_same ra sa rc sc rn _ _ zs w4 (by have := HDL.out; omega) HSZ.out (Nat.le_refl _) HRC.out HRB.out).mono ?_
            rintro e w5 ⟨rfl, hb⟩
            have HJ5 : Hid (Blk w5 ab 32 acs ∧ PV w5 b s m n S LM noD ∧ DV w5 g bt B q n gv cap S LM noD ∧ Below w.heap.size V w5) := Lib.hid ⟨HJ4.out.2.1.more hb, HJ4.out.2.2.1.more hb, HJ4.out.2.2.2.more hb, HJ4.out.1.trans (hb.mono (by have := HB2.out.size; have := HJ4.out.1.size; omega))⟩
            clear hb HRB HRC HSZ HJ4
            go_wp2
            go_meet
            exact ⟨S, noD, HJ5.out.1, HJ5.out.2.1, HJ5.out.2.2.1, HB2.out.trans HJ5.out.2.2.2, Nat.le_trans HWL2.out HJ5.out.2.2.2.size⟩
          · obtain ⟨c, hc⟩ : ∃ c, findF n LM apa awd 2 = c := ⟨_, rfl⟩
            obtain ⟨S2, hS2⟩ : ∃ S2, saveS n S LM apa awd aw = S2 := ⟨_, rfl⟩
            obtain ⟨D2, hD2⟩ : ∃ D2, saveD n LM D apa awd = D2 := ⟨_, rfl⟩
            have HPW : Hid (∀ r W, JX w.heap.size V ab b s m n g bt B q gv cap LM acs S S2 D D2 false r W → Calls Try.prog 13 #[.pointer (some ⟨b, 0, none⟩), .int .u32 apa, .int .i64 awd, .int .u32 aw] W fun e w' => e = .returned (.int .i64 c) ∧ PV w' b s m n S2 LM D2 ∧ Kq [s, b] W w') := Lib.hid fun r W h => save_any apa awd aw c S2 D2 p0 p1 q0 q1 hc hS2 hD2 W h.2.2.1
            have HDW : Hid (∀ f W, JX w.heap.size V ab b s m n g bt B q gv cap LM acs S S2 D D2 f false W → Calls Try.prog 14 #[.pointer (some ⟨g, 0, none⟩), .int .u32 apa, .int .i64 awd, .int .u32 aw] W fun e w' => e = .returned (.int .i64 c) ∧ DV w' g bt B q n gv cap S2 LM D2 ∧ Kq [gv, g] W w') := Lib.hid fun f W h => refSave_any apa awd aw c S2 D2 p0 p1 q0 q1 hc hS2 hD2 W h.2.2.2
            have HJ : Hid (JX w.heap.size V ab b s m n g bt B q gv cap LM acs S S2 D D2 false false V.drew) := Lib.hid ⟨(Below.refl _ _).drew, HAB.out.more (Below.refl _ _).drew, HP2.out.more (Below.refl _ _).drew, HD2.out.more (Below.refl _ _).drew⟩
            clear hc hS2 hD2 HP2 HD2 HAB p0 p1 q0 q1
            go_upto_region 9 with fail
            clear ht3 ht4
            apply wp_region_autoL [54, 55, 56, 57, 58, 59, 60, 61, 62, 63, 64, 65, 66, 67, 68, 69] [_, _, _, _, _, _, _, _, _, _, _, _, _, _, _, _] (fun L_ W' => JX w.heap.size V ab b s m n g bt B q gv cap LM acs S S2 D D2 (L_ 7) (L_ 15) W')
            case hm => kernel_rfl
            case hT => intro y; simp only [setAll, List.setIfInBounds_toArray, List.set_cons_succ, List.set_cons_zero]; exact rfl
            case hok => kernel_rfl
            case hn => decide
            case hw => exact fun L_ hL => (by simp only [hL 7 (by decide), hL 15 (by decide)]; exact HJ.out)
            case hs =>
              refine autoL_op 54 [] (by kernel_rfl) (fun L y w' hL HW hd K hK => ?_) ?_
              · go_simp
                refine hK _ _ ?_ ?_ HW
                · simp [upd]
                · exact rfl
              refine autoL_op 55 [] (by kernel_rfl) (fun L y w' hL HW hd K hK => ?_) ?_
              · go_simp
                refine hK _ _ ?_ ?_ HW
                · simp [upd]
                · exact rfl
              refine autoL_op 56 [1] (by kernel_rfl) (fun L y w' hL HW hd K hK => ?_) ?_
              · have e1 := hd_nth (hd 1 (by simp)) rfl
                have hcl : ∀ p : Addr, p.block < w.heap.size → w'.cell? p = V.cell? p := fun p hp => HW.1.cell hp
                have x1 := HW.2.1.cell HA1.out
                go_simp
                refine hK _ _ ?_ ?_ HW
                · simp [upd, e1]
                · exact rfl
              refine autoL_op 57 [] (by kernel_rfl) (fun L y w' hL HW hd K hK => ?_) ?_
              · go_simp
                refine hK _ _ ?_ ?_ HW
                · simp [upd]
                · exact rfl
              refine autoL_op 58 [3] (by kernel_rfl) (fun L y w' hL HW hd K hK => ?_) ?_
              · have e3 := hd_nth (hd 3 (by simp)) rfl
                have hcl : ∀ p : Addr, p.block < w.heap.size → w'.cell? p = V.cell? p := fun p hp => HW.1.cell hp
                have x1 := HW.2.1.cell HA2.out
                go_simp
                refine hK _ _ ?_ ?_ HW
                · simp [upd, e3]
                · exact rfl
              refine autoL_op 59 [] (by kernel_rfl) (fun L y w' hL HW hd K hK => ?_) ?_
              · go_simp
                refine hK _ _ ?_ ?_ HW
                · simp [upd]
                · exact rfl
              refine autoL_op 60 [5] (by kernel_rfl) (fun L y w' hL HW hd K hK => ?_) ?_
              · have e5 := hd_nth (hd 5 (by simp)) rfl
                have hcl : ∀ p : Addr, p.block < w.heap.size → w'.cell? p = V.cell? p := fun p hp => HW.1.cell hp
                have x1 := HW.2.1.cell HA4.out
                go_simp
                refine hK _ _ ?_ ?_ HW
                · simp [upd, e5]
                · exact rfl
              refine autoL_op 61 [0, 2, 4, 6] (by kernel_rfl) (fun L y w' hL HW hd K hK => ?_) ?_
              · have e0 := hd_nth (hd 0 (by simp)) rfl
                have e2 := hd_nth (hd 2 (by simp)) rfl
                have e4 := hd_nth (hd 4 (by simp)) rfl
                have e6 := hd_nth (hd 6 (by simp)) rfl
                go_simp
                have HW0 : JX w.heap.size V ab b s m n g bt B q gv cap LM acs S S2 D D2 false (L 15) w' := by have h := HW; simp only [hL] at h; exact h
                refine (HPW.out _ _ HW0).mono ?_
                rintro e w3 ⟨rfl, hp3, hk3⟩
                refine hK _ _ ?_ ?_ (HW0.actP HAPT.out hp3 hk3)
                · simp [upd, e0, e2, e4, e6]
                · exact rfl
              refine autoL_op 62 [] (by kernel_rfl) (fun L y w' hL HW hd K hK => ?_) ?_
              · go_simp
                refine hK _ _ ?_ ?_ HW
                · simp [upd]
                · exact rfl
              refine autoL_op 63 [] (by kernel_rfl) (fun L y w' hL HW hd K hK => ?_) ?_
              · go_simp
                refine hK _ _ ?_ ?_ HW
                · simp [upd]
                · exact rfl
              refine autoL_op 64 [9] (by kernel_rfl) (fun L y w' hL HW hd K hK => ?_) ?_
              · have e9 := hd_nth (hd 9 (by simp)) rfl
                have hcl : ∀ p : Addr, p.block < w.heap.size → w'.cell? p = V.cell? p := fun p hp => HW.1.cell hp
                have x1 := HW.2.1.cell HA1.out
                go_simp
                refine hK _ _ ?_ ?_ HW
                · simp [upd, e9]
                · exact rfl
              refine autoL_op 65 [] (by kernel_rfl) (fun L y w' hL HW hd K hK => ?_) ?_
              · go_simp
                refine hK _ _ ?_ ?_ HW
                · simp [upd]
                · exact rfl
              refine autoL_op 66 [11] (by kernel_rfl) (fun L y w' hL HW hd K hK => ?_) ?_
              · have e11 := hd_nth (hd 11 (by simp)) rfl
                have hcl : ∀ p : Addr, p.block < w.heap.size → w'.cell? p = V.cell? p := fun p hp => HW.1.cell hp
                have x1 := HW.2.1.cell HA2.out
                go_simp
                refine hK _ _ ?_ ?_ HW
                · simp [upd, e11]
                · exact rfl
              refine autoL_op 67 [] (by kernel_rfl) (fun L y w' hL HW hd K hK => ?_) ?_
              · go_simp
                refine hK _ _ ?_ ?_ HW
                · simp [upd]
                · exact rfl
              refine autoL_op 68 [13] (by kernel_rfl) (fun L y w' hL HW hd K hK => ?_) ?_
              · have e13 := hd_nth (hd 13 (by simp)) rfl
                have hcl : ∀ p : Addr, p.block < w.heap.size → w'.cell? p = V.cell? p := fun p hp => HW.1.cell hp
                have x1 := HW.2.1.cell HA4.out
                go_simp
                refine hK _ _ ?_ ?_ HW
                · simp [upd, e13]
                · exact rfl
              refine autoL_op 69 [8, 10, 12, 14, 7] (by kernel_rfl) (fun L y w' hL HW hd K hK => ?_) ?_
              · have e7 := hd_nth (hd 7 (by simp)) rfl
                have e8 := hd_nth (hd 8 (by simp)) rfl
                have e10 := hd_nth (hd 10 (by simp)) rfl
                have e12 := hd_nth (hd 12 (by simp)) rfl
                have e14 := hd_nth (hd 14 (by simp)) rfl
                go_simp
                have HW0 : JX w.heap.size V ab b s m n g bt B q gv cap LM acs S S2 D D2 (L 7) false w' := by have h := HW; simp only [hL] at h; exact h
                refine (HDW.out _ _ HW0).mono ?_
                rintro e w3 ⟨rfl, hd3, hk3⟩
                refine hK _ _ ?_ ?_ (HW0.actD HAPT.out hd3 hk3)
                · simp [upd, e7, e8, e10, e12, e14]
                · exact rfl
              refine autoL_last fun L y w' hLs HW hd K hK => ?_
              have e0 := hd_nth (hd 0 (by omega)) rfl
              have e1 := hd_nth (hd 1 (by omega)) rfl
              have e2 := hd_nth (hd 2 (by omega)) rfl
              have e3 := hd_nth (hd 3 (by omega)) rfl
              have e4 := hd_nth (hd 4 (by omega)) rfl
              have e5 := hd_nth (hd 5 (by omega)) rfl
              have e6 := hd_nth (hd 6 (by omega)) rfl
              have e7 := hd_nth (hd 7 (by omega)) rfl
              have e8 := hd_nth (hd 8 (by omega)) rfl
              have e9 := hd_nth (hd 9 (by omega)) rfl
              have e10 := hd_nth (hd 10 (by omega)) rfl
              have e11 := hd_nth (hd 11 (by omega)) rfl
              have e12 := hd_nth (hd 12 (by omega)) rfl
              have e13 := hd_nth (hd 13 (by omega)) rfl
              have e14 := hd_nth (hd 14 (by omega)) rfl
              have e15 := hd_nth (hd 15 (by omega)) rfl
              have HWF := Lib.hid (show JX w.heap.size V ab b s m n g bt B q gv cap LM acs S S2 D D2 true true w' by have h := HW; simp only [hLs 7 (by omega), hLs 15 (by omega)] at h; exact h)
              go_simp
              refine hK _ _ ?_
              clear hd hK K e0 e1 e2 e3 e4 e5 e6 e7 e8 e9 e10 e11 e12 e13 e14 e15
              clear hLs HW
              go_wp2
              go_meet
              exact ⟨S2, D2, HWF.out.2.1, HWF.out.2.2.1, HWF.out.2.2.2, HB2.out.trans HWF.out.1, Nat.le_trans HWL2.out HWF.out.1.size⟩
      clear HP2 HD2 HAB HB2 HWL2 ht3 ht4 t3 t4 S D
      obtain ⟨S, D, HAB, HP2, HD2, HB2, HWL2⟩ := hcut
      obtain ⟨wx, hwx⟩ : ∃ wx, wc = wx := ⟨_, rfl⟩
      rw [hwx] at HAB HP2 HD2 HB2 HWL2 ⊢
      clear hwx
      obtain ⟨f, hf⟩ : ∃ f, findF n LM apa awd akd = f := ⟨_, rfl⟩
      obtain ⟨hh, hhh⟩ : ∃ hh, hitF n LM apa awd akd = hh := ⟨_, rfl⟩
      obtain ⟨fl, hfl⟩ : ∃ fl, findF n LM apa awd 1 = fl := ⟨_, rfl⟩
      obtain ⟨ul, hul⟩ : ∃ ul, loadF n S LM apa awd = ul := ⟨_, rfl⟩
      obtain ⟨t, ht⟩ : ∃ t, ownB n LM apa abl = t := ⟨_, rfl⟩
      obtain ⟨t2, ht2⟩ : ∃ t2, ownB n LM apa awd = t2 := ⟨_, rfl⟩
      obtain ⟨zl, hzl⟩ : ∃ zl, rdL n S LM apa abl = zl := ⟨_, rfl⟩
      have G1 := Lib.hid (fun W h => find_any (b := b) (s := s) (m := m) (S := S) (D := D) apa awd akd f hh p0 p1 hf hhh W h)
      have G2 := Lib.hid (fun W h => refFind_any (g := g) (bt := bt) (B := B) (q := q) (gv := gv) (cap := cap) (S := S) (D := D) apa awd akd f hh p0 p1 hf hhh W h)
      have G3 := Lib.hid (fun W h => load_any (b := b) (s := s) (m := m) (S := S) (D := D) apa awd fl ul p0 p1 hfl hul W h)
      have G4 := Lib.hid (fun W h => refLoad_any (g := g) (bt := bt) (B := B) (q := q) (gv := gv) (cap := cap) (S := S) (D := D) apa awd fl ul p0 p1 hfl hul W h)
      have G5 := Lib.hid (fun W h => read_any (b := b) (s := s) (m := m) (S := S) (D := D) apa abl t p0 p1 ht W h)
      have G6 := Lib.hid (fun W h => refRead_any (g := g) (bt := bt) (B := B) (q := q) (gv := gv) (cap := cap) (S := S) (D := D) apa abl t p0 p1 ht W h)
      have G7 := Lib.hid (fun W h => own_any (b := b) (s := s) (m := m) (S := S) (D := D) apa awd t2 p0 p1 ht2 W h)
      have G8 := Lib.hid (fun W h => refOwn_any (g := g) (bt := bt) (B := B) (q := q) (gv := gv) (cap := cap) (S := S) (D := D) apa awd t2 p0 p1 ht2 W h)
      rw [hzl] at G5 G6
      clear hf hhh hfl hul ht ht2 hzl q0 q1 p0 p1
      obtain ⟨j0, j1, j2⟩ := hh
      have HBX : Hid (∀ (U W : World), Below U.heap.size U W → Below U.heap.size U (W.alloc (.cells #[.int .i64 j0, .int .i64 j1, .int .i64 j2, .bool false] 38))) := Lib.hid fun U W h => h.alloc h.size _
      have x1 := HAB.out.cell HA1.out
      have x2 := HAB.out.cell HA2.out
      have x3 := HAB.out.cell HA3.out
      have b0 := HAB.out.lt
      go_wp2_with fail
      clear x1 x2 x3 b0
      refine (G1.out wx HP2.out).mono ?_
      rintro e v1 ⟨rfl, hb⟩
      have HU1 : Hid (Below wx.heap.size wx (v1.alloc (.cells #[.int .i64 j0, .int .i64 j1, .int .i64 j2, .bool false] 38))) := Lib.hid (HBX.out _ _ hb)
      have HH1 : Hid (Blk (v1.alloc (.cells #[.int .i64 j0, .int .i64 j1, .int .i64 j2, .bool false] 38)) v1.heap.size 38 (hitC (j0, j1, j2))) := Lib.hid (Blk.new v1 _ _)
      have hw : v1.heap.size ≤ (v1.alloc (.cells #[.int .i64 j0, .int .i64 j1, .int .i64 j2, .bool false] 38)).heap.size := by simp
      have x1 := (HAB.out.more hb).cell HA1.out
      have x2 := (HAB.out.more hb).cell HA2.out
      have x3 := (HAB.out.more hb).cell HA3.out
      have b0 := (HAB.out.more hb).lt
      clear hb hw
      unfold hitV
      go_wp2_with fail
      clear x1 x2 x3 b0
      generalize v1.alloc (.cells #[.int .i64 j0, .int .i64 j1, .int .i64 j2, .bool false] 38) = U1 at HU1 HH1 ⊢
      generalize v1.heap.size = h1b at HH1 ⊢
      refine (G2.out U1 (HD2.out.more HU1.out)).mono ?_
      rintro e v2 ⟨rfl, hb⟩
      have HU2 : Hid (Below wx.heap.size wx (v2.alloc (.cells #[.int .i64 j0, .int .i64 j1, .int .i64 j2, .bool false] 38))) := Lib.hid (HBX.out _ _ (HU1.out.trans (hb.mono HU1.out.size)))
      have HH2 : Hid (Blk (v2.alloc (.cells #[.int .i64 j0, .int .i64 j1, .int .i64 j2, .bool false] 38)) v2.heap.size 38 (hitC (j0, j1, j2))) := Lib.hid (Blk.new v2 _ _)
      have HH1' : Hid (Blk (v2.alloc (.cells #[.int .i64 j0, .int .i64 j1, .int .i64 j2, .bool false] 38)) h1b 38 (hitC (j0, j1, j2))) := Lib.hid (HH1.out.more (HBX.out _ _ hb))
      have hA2 := HAB.out.more (HU1.out.trans (hb.mono HU1.out.size))
      have x1 := hA2.cell HA1.out
      have x2 := hA2.cell HA2.out
      have b0 := hA2.lt
      clear hb hA2 HH1 HU1
      unfold hitV
      go_wp2_with fail
      clear x1 x2 b0
      generalize v2.alloc (.cells #[.int .i64 j0, .int .i64 j1, .int .i64 j2, .bool false] 38) = U2 at HU2 HH2 HH1' ⊢
      generalize v2.heap.size = h2b at HH2 ⊢
      refine (G3.out U2 (HP2.out.more HU2.out)).mono ?_
      rintro e v3 ⟨rfl, hb⟩
      have HU3 := Lib.hid (HU2.out.trans (hb.mono HU2.out.size))
      have HH3 := Lib.hid (And.intro (HH1'.out.more hb) (HH2.out.more hb))
      have hA2 := HAB.out.more HU3.out
      have x1 := hA2.cell HA1.out
      have x2 := hA2.cell HA2.out
      have b0 := hA2.lt
      clear hb hA2 HH1' HH2 HU2
      go_wp2_with fail
      clear x1 x2 b0
      refine (G4.out v3 (HD2.out.more HU3.out)).mono ?_
      rintro e v4 ⟨rfl, hb⟩
      have HU4 := Lib.hid (HU3.out.trans (hb.mono HU3.out.size))
      have HH4 := Lib.hid (And.intro (HH3.out.1.more hb) (HH3.out.2.more hb))
      have hA2 := HAB.out.more HU4.out
      have x1 := hA2.cell HA1.out
      have x5 := hA2.cell HA5.out
      have b0 := hA2.lt
      clear hb hA2 HH3 HU3
      go_wp2_with fail
      clear x1 x5 b0
      refine (G5.out v4 (HP2.out.more HU4.out)).mono ?_
      rintro e v5 ⟨r1a, r1n, r1c, rfl, hr1, hb⟩
      have HU5 := Lib.hid (HU4.out.trans (hb.mono HU4.out.size))
      have HH5 := Lib.hid (And.intro (HH4.out.1.more hb) (HH4.out.2.more hb))
      have hA2 := HAB.out.more HU5.out
      have x1 := hA2.cell HA1.out
      have x5 := hA2.cell HA5.out
      have b0 := hA2.lt
      clear hb hA2 HH4 HU4
      go_wp2_with fail
      clear x1 x5 b0
      refine (G6.out v5 (HD2.out.more HU5.out)).mono ?_
      rintro e v6 ⟨r2a, r2n, r2c, rfl, hr2, hb⟩
      have HU6 := Lib.hid (HU5.out.trans (hb.mono HU5.out.size))
      have HH6 := Lib.hid (And.intro (HH5.out.1.more hb) (HH5.out.2.more hb))
      have HR1 : Hid (RowK .u8 v6 v6.heap.size r1a r1n zl) := Lib.hid ((hr1.out.below hb).more hb.size)
      have HR2 := Lib.hid hr2.out
      clear hb HH5 HU5 hr1 hr2 G1 G2 G3 G4 G5 G6 HBX
      go_upto_region 23 with fail
      have HCV1 : Hid (∀ W, Below v6.heap.size v6 W → (convert 30 9 (.slice r1a r1n r1c)).run Try.prog W = .ok (.string (strOfNums zl)) W) := Lib.hid fun W hW => run_convert_row Try.underlying30 Try.underlying5 Try.underlying9 (HR1.out.below hW)
      have HCV2 : Hid (∀ W, Below v6.heap.size v6 W → (convert 30 9 (.slice r2a r2n r2c)).run Try.prog W = .ok (.string (strOfNums zl)) W) := Lib.hid fun W hW => run_convert_row Try.underlying30 Try.underlying5 Try.underlying9 (HR2.out.below hW)
      have HO7 : Hid (∀ W, Below v6.heap.size v6 W → Calls Try.prog 21 #[.pointer (some ⟨b, 0, none⟩), .int .u32 apa, .int .i64 awd] W fun e w' => e = .returned (.bool t2) ∧ Below W.heap.size W w') := Lib.hid fun W hW => G7.out W (HP2.out.more (HU6.out.trans (hW.mono HU6.out.size)))
      have HO8 : Hid (∀ W, Below v6.heap.size v6 W → Calls Try.prog 22 #[.pointer (some ⟨g, 0, none⟩), .int .u32 apa, .int .i64 awd] W fun e w' => e = .returned (.bool t2) ∧ Below W.heap.size W w') := Lib.hid fun W hW => G8.out W (HD2.out.more (HU6.out.trans (hW.mono HU6.out.size)))
      have hA2 := HAB.out.more HU6.out
      have x1 := hA2.cell HA1.out
      have x2 := hA2.cell HA2.out
      have b0 := hA2.lt
      obtain ⟨c0, c1, c2, c3⟩ := HAt.cells HH6.out.1
      obtain ⟨d0, d1, d2, d3⟩ := HAt.cells HH6.out.2
      have b1 := HH6.out.1.lt
      have b2 := HH6.out.2.lt
      dsimp only at c0 c1 c2 d0 d1 d2
      generalize strOfNums zl = SZ at HCV1 HCV2
      clear hA2 G7 G8 HR1 HR2
      apply wp_region_auto [154, 155, 156, 157, 158, 159, 160, 161, 162, 163, 164, 165, 166, 167, 168, 169, 170, 171, 172, 173, 174, 175, 176, 177, 178, 179, 180, 181, 182, 183, 184, 185, 186, 187, 188, 189, 190, 191, 192, 193, 194, 195, 196, 197] [_, _, _, _, _, _, _, _, _, _, _, _, _, _, _, _, _, _, _, _, _, _, _, _, _, _, _, _, _, _, _, _, _, _, _, _, _, _, _, _, _, _, _, _] (fun W' => Below v6.heap.size v6 W')
      case hm => kernel_rfl
      case hT => intro y; simp only [setAll, List.setIfInBounds_toArray, List.set_cons_succ, List.set_cons_zero]; exact rfl
      case hok => kernel_rfl
      case hn => decide
      case hw => exact (Below.refl _ _).drew
      case hs =>
        refine auto_op 154 [] (by kernel_rfl) (fun y w' HW hd K hK => ?_) ?_
        · have hcl : ∀ p : Addr, p.block < v6.heap.size → w'.cell? p = v6.cell? p := fun p hp => HW.cell hp
          go_simp
          refine hK _ _ ?_ ?_ HW
          · simp [upd]
          · exact rfl
        refine auto_op 155 [] (by kernel_rfl) (fun y w' HW hd K hK => ?_) ?_
        · have hcl : ∀ p : Addr, p.block < v6.heap.size → w'.cell? p = v6.cell? p := fun p hp => HW.cell hp
          go_simp
          refine hK _ _ ?_ ?_ HW
          · simp [upd]
          · exact rfl
        refine auto_op 156 [0, 1] (by kernel_rfl) (fun y w' HW hd K hK => ?_) ?_
        · have e0 := hd_nth (hd 0 (by simp)) rfl
          have e1 := hd_nth (hd 1 (by simp)) rfl
          go_simp
          refine hK _ _ ?_ ?_ HW
          · simp [upd, e0, e1]
          · exact rfl
        refine auto_op 157 [2] (by kernel_rfl) (fun y w' HW hd K hK => ?_) ?_
        · have e2 := hd_nth (hd 2 (by simp)) rfl
          go_simp
          refine hK _ _ ?_ ?_ HW
          · simp [upd, e2]
          · exact rfl
        refine auto_op 158 [3] (by kernel_rfl) (fun y w' HW hd K hK => ?_) ?_
        · have e3 := hd_nth (hd 3 (by simp)) rfl
          go_simp
          refine hK _ _ ?_ ?_ HW
          · simp [upd, e3]
          · exact rfl
        refine auto_op 159 [3] (by kernel_rfl) (fun y w' HW hd K hK => ?_) ?_
        · have e3 := hd_nth (hd 3 (by simp)) rfl
          go_simp
          refine hK _ _ ?_ ?_ HW
          · simp [upd, e3]
          · exact rfl
        refine auto_op 160 [4, 5, 3] (by kernel_rfl) (fun y w' HW hd K hK => ?_) ?_
        · have e3 := hd_nth (hd 3 (by simp)) rfl
          have e4 := hd_nth (hd 4 (by simp)) rfl
          have e5 := hd_nth (hd 5 (by simp)) rfl
          go_simp
          refine hK _ _ ?_ ?_ HW
          · simp [upd, e3, e4, e5]
          · exact rfl
        refine auto_op 161 [3, 6] (by kernel_rfl) (fun y w' HW hd K hK => ?_) ?_
        · have e3 := hd_nth (hd 3 (by simp)) rfl
          have e6 := hd_nth (hd 6 (by simp)) rfl
          go_simp
          refine hK _ _ ?_ ?_ HW
          · simp [upd, e3, e6]
          · exact rfl
        refine auto_op 162 [7, 3] (by kernel_rfl) (fun y w' HW hd K hK => ?_) ?_
        · have e3 := hd_nth (hd 3 (by simp)) rfl
          have e7 := hd_nth (hd 7 (by simp)) rfl
          go_simp
          refine hK _ _ ?_ ?_ HW
          · simp [upd, e3, e7]
          · exact rfl
        refine auto_op 163 [8] (by kernel_rfl) (fun y w' HW hd K hK => ?_) ?_
        · have e8 := hd_nth (hd 8 (by simp)) rfl
          go_simp
          refine hK _ _ ?_ ?_ HW
          · simp [upd, e8]
          · exact rfl
        refine auto_op 164 [8] (by kernel_rfl) (fun y w' HW hd K hK => ?_) ?_
        · have e8 := hd_nth (hd 8 (by simp)) rfl
          go_simp
          refine hK _ _ ?_ ?_ HW
          · simp [upd, e8]
          · exact rfl
        refine auto_op 165 [9, 10, 8] (by kernel_rfl) (fun y w' HW hd K hK => ?_) ?_
        · have e8 := hd_nth (hd 8 (by simp)) rfl
          have e9 := hd_nth (hd 9 (by simp)) rfl
          have e10 := hd_nth (hd 10 (by simp)) rfl
          go_simp
          refine hK _ _ ?_ ?_ HW
          · simp [upd, e8, e9, e10]
          · exact rfl
        refine auto_op 166 [8, 11] (by kernel_rfl) (fun y w' HW hd K hK => ?_) ?_
        · have e8 := hd_nth (hd 8 (by simp)) rfl
          have e11 := hd_nth (hd 11 (by simp)) rfl
          go_simp
          refine hK _ _ ?_ ?_ HW
          · simp [upd, e8, e11]
          · exact rfl
        refine auto_op 167 [12, 8] (by kernel_rfl) (fun y w' HW hd K hK => ?_) ?_
        · have e8 := hd_nth (hd 8 (by simp)) rfl
          have e12 := hd_nth (hd 12 (by simp)) rfl
          go_simp
          refine hK _ _ ?_ ?_ HW
          · simp [upd, e8, e12]
          · exact rfl
        refine auto_op 168 [13] (by kernel_rfl) (fun y w' HW hd K hK => ?_) ?_
        · have e13 := hd_nth (hd 13 (by simp)) rfl
          go_simp
          refine hK _ _ ?_ ?_ HW
          · simp [upd, e13]
          · exact rfl
        refine auto_op 169 [13] (by kernel_rfl) (fun y w' HW hd K hK => ?_) ?_
        · have e13 := hd_nth (hd 13 (by simp)) rfl
          go_simp
          refine hK _ _ ?_ ?_ HW
          · simp [upd, e13]
          · exact rfl
        refine auto_op 170 [14, 15, 13] (by kernel_rfl) (fun y w' HW hd K hK => ?_) ?_
        · have e13 := hd_nth (hd 13 (by simp)) rfl
          have e14 := hd_nth (hd 14 (by simp)) rfl
          have e15 := hd_nth (hd 15 (by simp)) rfl
          go_simp
          refine hK _ _ ?_ ?_ HW
          · simp [upd, e13, e14, e15]
          · exact rfl
        refine auto_op 171 [13, 16] (by kernel_rfl) (fun y w' HW hd K hK => ?_) ?_
        · have e13 := hd_nth (hd 13 (by simp)) rfl
          have e16 := hd_nth (hd 16 (by simp)) rfl
          go_simp
          refine hK _ _ ?_ ?_ HW
          · simp [upd, e13, e16]
          · exact rfl
        refine auto_op 172 [17, 13] (by kernel_rfl) (fun y w' HW hd K hK => ?_) ?_
        · have e13 := hd_nth (hd 13 (by simp)) rfl
          have e17 := hd_nth (hd 17 (by simp)) rfl
          go_simp
          refine hK _ _ ?_ ?_ HW
          · simp [upd, e13, e17]
          · exact rfl
        refine auto_op 173 [18] (by kernel_rfl) (fun y w' HW hd K hK => ?_) ?_
        · have e18 := hd_nth (hd 18 (by simp)) rfl
          go_simp
          refine hK _ _ ?_ ?_ HW
          · simp [upd, e18]
          · exact rfl
        refine auto_op 174 [19, 18] (by kernel_rfl) (fun y w' HW hd K hK => ?_) ?_
        · have e18 := hd_nth (hd 18 (by simp)) rfl
          have e19 := hd_nth (hd 19 (by simp)) rfl
          have hcv := HCV1.out _ HW
          go_simp
          refine hK _ _ ?_ ?_ HW
          · simp [upd, e18, e19]
          · exact rfl
        refine auto_op 175 [18] (by kernel_rfl) (fun y w' HW hd K hK => ?_) ?_
        · have e18 := hd_nth (hd 18 (by simp)) rfl
          go_simp
          refine hK _ _ ?_ ?_ HW
          · simp [upd, e18]
          · exact rfl
        refine auto_op 176 [21, 18] (by kernel_rfl) (fun y w' HW hd K hK => ?_) ?_
        · have e18 := hd_nth (hd 18 (by simp)) rfl
          have e21 := hd_nth (hd 21 (by simp)) rfl
          have hcv := HCV2.out _ HW
          go_simp
          refine hK _ _ ?_ ?_ HW
          · simp [upd, e18, e21]
          · exact rfl
        refine auto_op 177 [20, 22, 18] (by kernel_rfl) (fun y w' HW hd K hK => ?_) ?_
        · have e18 := hd_nth (hd 18 (by simp)) rfl
          have e20 := hd_nth (hd 20 (by simp)) rfl
          have e22 := hd_nth (hd 22 (by simp)) rfl
          go_simp
          refine hK _ _ ?_ ?_ HW
          · simp [upd, e18, e20, e22]
          · exact rfl
        refine auto_op 178 [18, 23] (by kernel_rfl) (fun y w' HW hd K hK => ?_) ?_
        · have e18 := hd_nth (hd 18 (by simp)) rfl
          have e23 := hd_nth (hd 23 (by simp)) rfl
          go_simp
          refine hK _ _ ?_ ?_ HW
          · simp [upd, e18, e23]
          · exact rfl
        refine auto_op 179 [24, 18] (by kernel_rfl) (fun y w' HW hd K hK => ?_) ?_
        · have e18 := hd_nth (hd 18 (by simp)) rfl
          have e24 := hd_nth (hd 24 (by simp)) rfl
          go_simp
          refine hK _ _ ?_ ?_ HW
          · simp [upd, e18, e24]
          · exact rfl
        refine auto_op 180 [25] (by kernel_rfl) (fun y w' HW hd K hK => ?_) ?_
        · have e25 := hd_nth (hd 25 (by simp)) rfl
          go_simp
          refine hK _ _ ?_ ?_ HW
          · simp [upd, e25]
          · exact rfl
        refine auto_op 181 [25] (by kernel_rfl) (fun y w' HW hd K hK => ?_) ?_
        · have e25 := hd_nth (hd 25 (by simp)) rfl
          go_simp
          refine hK _ _ ?_ ?_ HW
          · simp [upd, e25]
          · exact rfl
        refine auto_op 182 [26, 27, 25] (by kernel_rfl) (fun y w' HW hd K hK => ?_) ?_
        · have e25 := hd_nth (hd 25 (by simp)) rfl
          have e26 := hd_nth (hd 26 (by simp)) rfl
          have e27 := hd_nth (hd 27 (by simp)) rfl
          go_simp
          refine hK _ _ ?_ ?_ HW
          · simp [upd, e25, e26, e27]
          · exact rfl
        refine auto_op 183 [25, 28] (by kernel_rfl) (fun y w' HW hd K hK => ?_) ?_
        · have e25 := hd_nth (hd 25 (by simp)) rfl
          have e28 := hd_nth (hd 28 (by simp)) rfl
          go_simp
          refine hK _ _ ?_ ?_ HW
          · simp [upd, e25, e28]
          · exact rfl
        refine auto_op 184 [29, 25] (by kernel_rfl) (fun y w' HW hd K hK => ?_) ?_
        · have e25 := hd_nth (hd 25 (by simp)) rfl
          have e29 := hd_nth (hd 29 (by simp)) rfl
          go_simp
          refine hK _ _ ?_ ?_ HW
          · simp [upd, e25, e29]
          · exact rfl
        refine auto_op 185 [30] (by kernel_rfl) (fun y w' HW hd K hK => ?_) ?_
        · have e30 := hd_nth (hd 30 (by simp)) rfl
          go_simp
          refine hK _ _ ?_ ?_ HW
          · simp [upd, e30]
          · exact rfl
        refine auto_op 186 [30] (by kernel_rfl) (fun y w' HW hd K hK => ?_) ?_
        · have e30 := hd_nth (hd 30 (by simp)) rfl
          go_simp
          refine hK _ _ ?_ ?_ HW
          · simp [upd, e30]
          · exact rfl
        refine auto_op 187 [32, 30] (by kernel_rfl) (fun y w' HW hd K hK => ?_) ?_
        · have e30 := hd_nth (hd 30 (by simp)) rfl
          have e32 := hd_nth (hd 32 (by simp)) rfl
          have hcl : ∀ p : Addr, p.block < v6.heap.size → w'.cell? p = v6.cell? p := fun p hp => HW.cell hp
          go_simp
          refine hK _ _ ?_ ?_ HW
          · simp [upd, e30, e32]
          · exact rfl
        refine auto_op 188 [30] (by kernel_rfl) (fun y w' HW hd K hK => ?_) ?_
        · have e30 := hd_nth (hd 30 (by simp)) rfl
          go_simp
          refine hK _ _ ?_ ?_ HW
          · simp [upd, e30]
          · exact rfl
        refine auto_op 189 [34, 30] (by kernel_rfl) (fun y w' HW hd K hK => ?_) ?_
        · have e30 := hd_nth (hd 30 (by simp)) rfl
          have e34 := hd_nth (hd 34 (by simp)) rfl
          have hcl : ∀ p : Addr, p.block < v6.heap.size → w'.cell? p = v6.cell? p := fun p hp => HW.cell hp
          go_simp
          refine hK _ _ ?_ ?_ HW
          · simp [upd, e30, e34]
          · exact rfl
        refine auto_op 190 [31, 33, 35, 30, 30] (by kernel_rfl) (fun y w' HW hd K hK => ?_) ?_
        · have e30 := hd_nth (hd 30 (by simp)) rfl
          have e31 := hd_nth (hd 31 (by simp)) rfl
          have e33 := hd_nth (hd 33 (by simp)) rfl
          have e35 := hd_nth (hd 35 (by simp)) rfl
          go_simp
          refine (HO7.out _ HW).mono ?_
          rintro e w3 ⟨rfl, hb3⟩
          refine hK _ _ ?_ ?_ (HW.trans (hb3.mono HW.size))
          · simp [upd, e30, e31, e33, e35]
          · exact rfl
        refine auto_op 191 [30] (by kernel_rfl) (fun y w' HW hd K hK => ?_) ?_
        · have e30 := hd_nth (hd 30 (by simp)) rfl
          go_simp
          refine hK _ _ ?_ ?_ HW
          · simp [upd, e30]
          · exact rfl
        refine auto_op 192 [30] (by kernel_rfl) (fun y w' HW hd K hK => ?_) ?_
        · have e30 := hd_nth (hd 30 (by simp)) rfl
          go_simp
          refine hK _ _ ?_ ?_ HW
          · simp [upd, e30]
          · exact rfl
        refine auto_op 193 [38, 30] (by kernel_rfl) (fun y w' HW hd K hK => ?_) ?_
        · have e30 := hd_nth (hd 30 (by simp)) rfl
          have e38 := hd_nth (hd 38 (by simp)) rfl
          have hcl : ∀ p : Addr, p.block < v6.heap.size → w'.cell? p = v6.cell? p := fun p hp => HW.cell hp
          go_simp
          refine hK _ _ ?_ ?_ HW
          · simp [upd, e30, e38]
          · exact rfl
        refine auto_op 194 [30] (by kernel_rfl) (fun y w' HW hd K hK => ?_) ?_
        · have e30 := hd_nth (hd 30 (by simp)) rfl
          go_simp
          refine hK _ _ ?_ ?_ HW
          · simp [upd, e30]
          · exact rfl
        refine auto_op 195 [40, 30] (by kernel_rfl) (fun y w' HW hd K hK => ?_) ?_
        · have e30 := hd_nth (hd 30 (by simp)) rfl
          have e40 := hd_nth (hd 40 (by simp)) rfl
          have hcl : ∀ p : Addr, p.block < v6.heap.size → w'.cell? p = v6.cell? p := fun p hp => HW.cell hp
          go_simp
          refine hK _ _ ?_ ?_ HW
          · simp [upd, e30, e40]
          · exact rfl
        refine auto_op 196 [37, 39, 41, 36, 30] (by kernel_rfl) (fun y w' HW hd K hK => ?_) ?_
        · have e30 := hd_nth (hd 30 (by simp)) rfl
          have e36 := hd_nth (hd 36 (by simp)) rfl
          have e37 := hd_nth (hd 37 (by simp)) rfl
          have e39 := hd_nth (hd 39 (by simp)) rfl
          have e41 := hd_nth (hd 41 (by simp)) rfl
          go_simp
          refine (HO8.out _ HW).mono ?_
          rintro e w3 ⟨rfl, hb3⟩
          refine hK _ _ ?_ ?_ (HW.trans (hb3.mono HW.size))
          · simp [upd, e30, e36, e37, e39, e41]
          · exact rfl
        refine auto_op 197 [36, 42, 30] (by kernel_rfl) (fun y w' HW hd K hK => ?_) ?_
        · have e30 := hd_nth (hd 30 (by simp)) rfl
          have e36 := hd_nth (hd 36 (by simp)) rfl
          have e42 := hd_nth (hd 42 (by simp)) rfl
          go_simp
          refine hK _ _ ?_ ?_ HW
          · simp [upd, e30, e36, e42]
          · exact rfl
        refine auto_last fun y w' HW hd K hK => ?_
        have e0 := hd_nth (hd 0 (by omega)) rfl
        have e1 := hd_nth (hd 1 (by omega)) rfl
        have e2 := hd_nth (hd 2 (by omega)) rfl
        have e3 := hd_nth (hd 3 (by omega)) rfl
        have e4 := hd_nth (hd 4 (by omega)) rfl
        have e5 := hd_nth (hd 5 (by omega)) rfl
        have e6 := hd_nth (hd 6 (by omega)) rfl
        have e7 := hd_nth (hd 7 (by omega)) rfl
        have e8 := hd_nth (hd 8 (by omega)) rfl
        have e9 := hd_nth (hd 9 (by omega)) rfl
        have e10 := hd_nth (hd 10 (by omega)) rfl
        have e11 := hd_nth (hd 11 (by omega)) rfl
        have e12 := hd_nth (hd 12 (by omega)) rfl
        have e13 := hd_nth (hd 13 (by omega)) rfl
        have e14 := hd_nth (hd 14 (by omega)) rfl
        have e15 := hd_nth (hd 15 (by omega)) rfl
        have e16 := hd_nth (hd 16 (by omega)) rfl
        have e17 := hd_nth (hd 17 (by omega)) rfl
        have e18 := hd_nth (hd 18 (by omega)) rfl
        have e19 := hd_nth (hd 19 (by omega)) rfl
        have e20 := hd_nth (hd 20 (by omega)) rfl
        have e21 := hd_nth (hd 21 (by omega)) rfl
        have e22 := hd_nth (hd 22 (by omega)) rfl
        have e23 := hd_nth (hd 23 (by omega)) rfl
        have e24 := hd_nth (hd 24 (by omega)) rfl
        have e25 := hd_nth (hd 25 (by omega)) rfl
        have e26 := hd_nth (hd 26 (by omega)) rfl
        have e27 := hd_nth (hd 27 (by omega)) rfl
        have e28 := hd_nth (hd 28 (by omega)) rfl
        have e29 := hd_nth (hd 29 (by omega)) rfl
        have e30 := hd_nth (hd 30 (by omega)) rfl
        have e31 := hd_nth (hd 31 (by omega)) rfl
        have e32 := hd_nth (hd 32 (by omega)) rfl
        have e33 := hd_nth (hd 33 (by omega)) rfl
        have e34 := hd_nth (hd 34 (by omega)) rfl
        have e35 := hd_nth (hd 35 (by omega)) rfl
        have e36 := hd_nth (hd 36 (by omega)) rfl
        have e37 := hd_nth (hd 37 (by omega)) rfl
        have e38 := hd_nth (hd 38 (by omega)) rfl
        have e39 := hd_nth (hd 39 (by omega)) rfl
        have e40 := hd_nth (hd 40 (by omega)) rfl
        have e41 := hd_nth (hd 41 (by omega)) rfl
        have e42 := hd_nth (hd 42 (by omega)) rfl
        have e43 := hd_nth (hd 43 (by omega)) rfl
        go_simp
        refine hK _ _ ?_
        clear hd hK K e0 e1 e2 e3 e4 e5 e6 e7 e8 e9 e10 e11 e12 e13 e14 e15 e16 e17 e18 e19 e20 e21 e22 e23 e24 e25 e26 e27 e28 e29 e30 e31 e32 e33 e34 e35 e36 e37 e38 e39 e40 e41 e42 e43
        have HUF := Lib.hid (HU6.out.trans (HW.mono HU6.out.size))
        clear HW x1 x2 b0 b1 b2 c0 c1 c2 c3 d0 d1 d2 d3 HCV1 HCV2 HO7 HO8 HH6 HU6
        go_wp2
        go_roundw
        case rel => exact ⟨k + 1, S, D, H1.out, by go_num, HP2.out.more HUF.out, HD2.out.more HUF.out, HB2.out.trans (HUF.out.mono HB2.out.size), Nat.le_trans HWL2.out HUF.out.size⟩
        case measure => have := H1.out; simp [intOf]; omega
    · have hout : (¬ (k : Int) < (ll : Int)) ∨ ((k : Int) < (ll : Int) ∧ ¬ (k : Int) < 60) := by omega
      have HAPT := Lib.hid (HAP.out wr.heap.size HWL.out)
      have hap := HAPT.out
      unfold Apart at hap
      have HSB : Hid (∀ y ∈ [b], w.heap.size ≤ y) := Lib.hid fun y hy => by
        have e : y = b := (by simpa using hy)
        omega
      have HSG : Hid (∀ y ∈ [g], w.heap.size ≤ y) := Lib.hid fun y hy => by
        have e : y = g := (by simpa using hy)
        omega
      have HDL := Lib.hid (dirtL_len D 12)
      have HNG : Hid (g ∉ [b] ∧ q ∉ [b] ∧ b ∉ [g] ∧ s ∉ [g] ∧ m ∉ [g]) := Lib.hid (by simp; omega)
      clear hin hk hap HA
      rcases hout with f1 | ⟨f1, f2⟩
      all_goals
        go_wp2_with fail
        refine (dirty_any wr HP.out).mono ?_
        rintro e w3 ⟨ra, rn, rc, rfl, HRA, hp3, hk3⟩
        have HD3 := Lib.hid (HD.out.kq hk3 HNG.out.1 HNG.out.2.1 (fun y hy => by
          have e : y = b := (by simpa using hy)
          rw [e]
          exact .inr (.inl ⟨_, HP.out.cell0⟩)))
        have HB3 := Lib.hid (HB.out.trans (hk3.under HSB.out HB.out.size))
        clear hp3 hk3
        go_wp2_with fail
        refine (refDirty_any w3 HD3.out).mono ?_
        rintro e w4 ⟨sa, sn, sc, rfl, HRB, hd4, hk4⟩
        have HRC := Lib.hid (row_kq HRA.out (Nat.le_refl _) HD3.out.blk hk4)
        have HSZ := Lib.hid hk4.size
        have HB4 := Lib.hid (HB3.out.trans (hk4.under HSG.out HB3.out.size))
        obtain rfl : rn = sn := HRA.out.1.symm.trans HRB.out.1
        clear hd4 hk4 HRA HD3 HB3
        go_wp2_with fail
        refine (ints_same ra sa rc sc rn _ _ _ w4 (by have := HDL.out; omega) HSZ.out (Nat.le_refl _) HRC.out HRB.out).mono ?_
        rintro e w5 ⟨rfl, hb⟩
        have HB5 := Lib.hid (HB4.out.trans (hb.mono HB4.out.size))
        clear hb HRB HRC HSZ HB4
        go_wp2_with fail
        refine (awake_any w5).mono ?_
        rintro e w6 ⟨rfl, hb⟩
        have HB6 := Lib.hid (HB5.out.trans (hb.mono HB5.out.size))
        clear hb HB5
        go_wp2
        go_ret
        exact ⟨rfl, HB6.out⟩
end Go.Proofs.Ytlgohgjnocoadaa.Vw
