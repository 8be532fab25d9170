/- Package stlb: Put. -/
import Derived.Test.YtgcpcffgpokbfaaAt
namespace Go.Proofs.Ytgcpcffgpokbfaa.Sb
open Go.RowKit Ut Hg
set_option maxRecDepth 100000
set_option linter.unusedVariables false
set_option maxHeartbeats 4000000

theorem built_used (x : Rc) (s : Int) : Try.prog.built 57 [(0, x.v), (1, .int .u64 s)] = some (usC (x, s)).toArray := by kernel_rfl
theorem built_kept (kr kp ep ef er : Int) : Try.prog.built 53 [(0, .agg #[.int .i64 kr, .int .i64 kp]), (1, .agg #[.int .i64 ep, .int .i64 ef, .int .i64 er])] = some #[.int .i64 kr, .int .i64 kp, .int .i64 ep, .int .i64 ef, .int .i64 er] := by kernel_rfl
section
variable {W : World} {g : Nat} {room c : Int} {l : List Rc}
theorem HP.drewN {b : Nat} {t : TypeId} {pre : List Value} {us : List Us} (h : HP W b t pre us) (n : Nat) : HP (W.drewN n) b t pre us := ⟨h.1.of_block rfl, h.2⟩
theorem kq_drewN {T : List Nat} {W' : World} (h : Kq T W W') (n : Nat) : Kq T W (W'.drewN n) := ⟨h.os, h.tape, h.output, h.size, h.block⟩
theorem without_none {x : Rc} {p q : Int} (h : x ∈ withoutL l p q) : ¬ (x.kr = p ∧ x.kp = q) := fun e => by
  have := (List.mem_filter.1 h).2
  rw [is_iff.2 e] at this
  cases this
/-- what is put now -/
theorem Rel.put {us us2 : List Us} {x : Rc} (h : Rel us (withoutL l x.kr x.kp)) (hc : ∀ u ∈ us, u.2 ≤ c) (hp : us2.Perm ((x, c + 1) :: us)) : Rel us2 (withoutL l x.kr x.kp ++ [x]) ∧ ∀ u ∈ us2, u.2 ≤ c + 1 := by
  refine ⟨(h.add x (c + 1) (fun u hu => by have := hc u hu; omega) (fun u hu => without_none (h.mem.2 ⟨u.2, hu⟩))).perm hp.symm, fun u hu => ?_⟩
  rcases List.mem_cons.1 (hp.mem_iff.1 hu) with rfl | hu
  · exact Int.le_refl _
  · have := hc u hu; omega

theorem ptPut_any (x : Rc) (h : PT W g room c l) (hl : (l.length : Int) ≤ room) (hr : room ≤ 4) (hc : c ≤ 1000000) :
    Calls Try.prog 20 #[.pointer (some ⟨g, 0, none⟩), .agg #[.int .i64 x.kr, .int .i64 x.kp], .agg #[.int .i64 x.ep, .int .i64 x.ef, .int .i64 x.er]] W fun e w' => e = .returned (.int .i64 0) ∧ PT w' g room (c + 1) (putL room l x) ∧ Kq [g] W w' := by
  obtain ⟨U, hU⟩ : ∃ U, U = (W.alloc (.cells #[.int .i64 x.kr, .int .i64 x.kp] 38)).alloc (.cells #[.int .i64 x.ep, .int .i64 x.ef, .int .i64 x.er] 34) := ⟨_, rfl⟩
  have hB : Below W.heap.size W U := by rw [hU]; exact ((Below.refl _ _).alloc (Nat.le_refl _) _).alloc (by simp) _
  have hk : Blk U W.heap.size 38 [.int .i64 x.kr, .int .i64 x.kp] := by rw [hU]; exact (Blk.new W _ [.int .i64 x.kr, .int .i64 x.kp]).more ((Below.refl _ _).alloc (Nat.le_refl _) _)
  have he : Blk U (W.heap.size + 1) 34 [.int .i64 x.ep, .int .i64 x.ef, .int .i64 x.er] := by
    have := Blk.new (W.alloc (.cells #[.int .i64 x.kr, .int .i64 x.kp] 38)) 34 [.int .i64 x.ep, .int .i64 x.ef, .int .i64 x.er]
    rw [World.size_alloc] at this
    rw [hU]
    exact this
  have hg := h.lt
  have hu := h.more hB
  obtain ⟨us0, h01, _⟩ := id hu
  have c0 := h01.1.pre.1
  have hgl := h01.1.lt
  clear h01
  have HD := Lib.hid (ptDrop_any x.kr x.kp hu)
  have HU := Lib.hid hU
  have HB := Lib.hid hB
  have HK := Lib.hid hk
  have HE := Lib.hid he
  have HGW := Lib.hid hg
  have HLE : Hid ((withoutL l x.kr x.kp).length < 5) := Lib.hid (by have := without_len l x.kr x.kp; omega)
  have HC := Lib.hid hc
  have HPL : Hid (putL room l x = if (room : Int) < ((withoutL l x.kr x.kp).length + 1 : Nat) then (withoutL l x.kr x.kp ++ [x]).drop 1 else withoutL l x.kr x.kp ++ [x]) := Lib.hid rfl
  generalize putL room l x = PL at HPL ⊢
  have k0 := hk.cell (j := 0) rfl
  have k1 := hk.cell (j := 1) rfl
  have kl := hk.lt
  clear hU hB hk he h hu hl hr hc
  go_enter Try.func20, Try.ntmps20
  go_upto_region 1 with fail
  rw [← HU.out]
  clear HU
  go_wp2_with fail
  refine HD.out.mono ?_
  rintro e w1 ⟨rfl, hp1, hk1⟩
  obtain ⟨us, hh, hrel, hcs, hc0⟩ := hp1
  have HH := Lib.hid hh
  have HREL := Lib.hid hrel
  have HCS := Lib.hid hcs
  have HC0 := Lib.hid hc0
  have HU5 : Hid (us.length < 5) := Lib.hid (by rw [hrel.len]; exact HLE.out)
  have HK1 := Lib.hid ((Kq.of_below HB.out).trans hk1)
  have hk9 := HK.out.kq hk1 (by have := HGW.out; simp; omega)
  have he9 := HE.out.kq hk1 (by have := HGW.out; simp; omega)
  have HBK : Hid (W.heap.size ∉ [g] ∧ W.heap.size + 1 ∉ [g]) := Lib.hid (by have := HGW.out; simp; omega)
  have k0 := hk9.cell (j := 0) rfl
  have k1 := hk9.cell (j := 1) rfl
  have kl := hk9.lt
  have e0 := he9.cell (j := 0) rfl
  have e1 := he9.cell (j := 1) rfl
  have e2 := he9.cell (j := 2) rfl
  have el := he9.lt
  clear hh hrel hcs hc0 hk1 hk9 he9 c0 hgl HD hg
  obtain ⟨kr, kp, ep, ef, er⟩ := x
  dsimp only at k0 k1 e0 e1 e2 HPL HREL HLE ⊢
  go_upto_region 4 with fail
  apply wp_region_autoL [19, 20, 21, 22, 23, 24, 25, 26, 27, 28, 29] [_, _, _, _, _, _, _, _, _, _, _] (fun L' W' => Kq [g] w1 W' ∧ HP W' g 62 (hd3 room (cond (L' 8) (c + 1) c)) us)
  case hm => kernel_rfl
  case hT => intro y; simp only [setAll, List.setIfInBounds_toArray, List.set_cons_succ, List.set_cons_zero]; exact rfl
  case hok => kernel_rfl
  case hn => decide
  case hw => exact (fun L' h0 => ⟨kq_drew (Kq.refl _ _), by rw [h0 8 (by decide)]; exact ⟨HH.out.1.of_block rfl, HH.out.2⟩⟩)
  case hs =>
    refine autoC_op 19 [] (by kernel_rfl) (fun L y w' hL hC HW hd K hK => ?_) ?_
    · go_simp
      refine hK _ _ ?_ ?_ HW
      · simp [upd]
      · exact rfl
    refine autoC_op 20 [0] (by kernel_rfl) (fun L y w' hL hC HW hd K hK => ?_) ?_
    · have e0 := hd_nth (hd 0 (by simp)) rfl
      go_simp
      refine hK _ _ ?_ ?_ HW
      · simp [upd, e0]
      · exact rfl
    refine autoC_op 21 [1] (by kernel_rfl) (fun L y w' hL hC HW hd K hK => ?_) ?_
    · have e1 := hd_nth (hd 1 (by simp)) rfl
      go_simp
      refine hK _ _ ?_ ?_ HW
      · simp [upd, e1]
      · exact rfl
    refine autoC_op 22 [2] (by kernel_rfl) (fun L y w' hL hC HW hd K hK => ?_) ?_
    · have e2 := hd_nth (hd 2 (by simp)) rfl
      go_simp
      refine hK _ _ ?_ ?_ HW
      · simp [upd, e2]
      · exact rfl
    refine autoC_op 23 [] (by kernel_rfl) (fun L y w' hL hC HW hd K hK => ?_) ?_
    · have m0 := (HW.1.cell (p := ⟨W.heap.size, 0, none⟩) kl HBK.out.1).trans k0
      have m1 := (HW.1.cell (p := ⟨W.heap.size, 1, none⟩) kl HBK.out.1).trans k1
      go_simp
      refine hK _ _ ?_ ?_ HW
      · simp [upd]
      · exact rfl
    refine autoC_op 24 [] (by kernel_rfl) (fun L y w' hL hC HW hd K hK => ?_) ?_
    · have m0 := (HW.1.cell (p := ⟨W.heap.size + 1, 0, none⟩) el HBK.out.2).trans e0
      have m1 := (HW.1.cell (p := ⟨W.heap.size + 1, 1, none⟩) el HBK.out.2).trans e1
      have m2 := (HW.1.cell (p := ⟨W.heap.size + 1, 2, none⟩) el HBK.out.2).trans e2
      go_simp
      refine hK _ _ ?_ ?_ HW
      · simp [upd]
      · exact rfl
    refine autoC_op 25 [4, 5] (by kernel_rfl) (fun L y w' hL hC HW hd K hK => ?_) ?_
    · have e4 := hd_nth (hd 4 (by simp)) rfl
      have e5 := hd_nth (hd 5 (by simp)) rfl
      go_simp
      refine hK _ _ ?_ ?_ HW
      · simp [upd, e4, e5]
      · exact rfl
    refine autoC_op 26 [] (by kernel_rfl) (fun L y w' hL hC HW hd K hK => ?_) ?_
    · go_simp
      refine hK _ _ ?_ ?_ HW
      · simp [upd]
      · exact rfl
    refine autoC_op 27 [7] (by kernel_rfl) (fun L y w' hL hC HW hd K hK => ?_) ?_
    · have e7 := hd_nth (hd 7 (by simp)) rfl
      have hq : HP w' g 62 (hd3 room c) us := by have q := HW.2; rw [hL] at q; exact q
      go_simp
      refine (next_any hq.1 HC0.out HC.out).mono ?_
      rintro e w5 ⟨rfl, hl5, hk5⟩
      refine hK _ _ ?_ ?_ ⟨HW.1.trans hk5, hl5, HW.2.2⟩
      · simp [upd, e7]
      · exact rfl
    refine autoC_op 28 [6, 8] (by kernel_rfl) (fun L y w' hL hC HW hd K hK => ?_) ?_
    · have e6 := hd_nth (hd 6 (by simp)) rfl
      have e8 := hd_nth (hd 8 (by simp)) rfl
      go_simp
      refine hK _ _ ?_ ?_ HW
      · simp [upd, e6, e8]
      · exact rfl
    refine autoC_op 29 [9] (by kernel_rfl) (fun L y w' hL hC HW hd K hK => ?_) ?_
    · have e9 := hd_nth (hd 9 (by simp)) rfl
      go_simp
      refine hK _ _ ?_ ?_ HW
      · simp [upd, e9]
      · exact rfl
    refine autoL_last fun L y w' hLs HW hd K hK => ?_
    have e0 := hd_nth (hd 0 (by omega)) rfl
    have e1 := hd_nth (hd 1 (by omega)) rfl
    have e2 := hd_nth (hd 2 (by omega)) rfl
    have e3 := hd_nth (hd 3 (by omega)) rfl
    have e4 := hd_nth (hd 4 (by omega)) rfl
    have e5 := hd_nth (hd 5 (by omega)) rfl
    have e6 := hd_nth (hd 6 (by omega)) rfl
    have e7 := hd_nth (hd 7 (by omega)) rfl
    have e8 := hd_nth (hd 8 (by omega)) rfl
    have e9 := hd_nth (hd 9 (by omega)) rfl
    have e10 := hd_nth (hd 10 (by omega)) rfl
    have hq : HP w' g 62 (hd3 room (c + 1)) us := by
      have q := HW.2
      rw [hLs 8 (by decide)] at q
      exact q
    have HK2 := Lib.hid (HK1.out.trans HW.1)
    go_simp
    refine (hpush18 (o := 3) hq rfl (⟨kr, kp, ep, ef, er⟩, c + 1) HU5.out).mono ?_
    rintro e w3 ⟨rfl, ⟨us2, hh2, hp2⟩, hk3⟩
    refine hK _ _ ?_
    clear hd hK K
    obtain ⟨hr2, hc2⟩ := HREL.out.put (x := ⟨kr, kp, ep, ef, er⟩) HCS.out hp2
    have HH2 := Lib.hid hh2
    have HR2 := Lib.hid hr2
    have HC2 := Lib.hid hc2
    have HK3 := Lib.hid (HK2.out.trans hk3)
    have hn2 : us2.length = (withoutL l kr kp).length + 1 := by rw [hr2.len, List.length_append]; rfl
    have HC3 : Hid (0 ≤ c + 1) := Lib.hid (by have := HC0.out; omega)
    have c3 := hh2.1.cell0 (o := 3) rfl
    have c1 := hh2.1.pre.2.1
    have gl := hh2.1.lt
    rw [hn2] at c3
    have HN2 := Lib.hid hn2
    generalize (withoutL l kr kp).length = n at HPL c3 HN2
    clear hh2 hr2 hc2 hk3 hn2 hp2 hq HW
    by_cases hroom : room < ((n + 1 : Nat) : Int)
    · have HE9 : Hid (PL = (withoutL l kr kp ++ [(⟨kr, kp, ep, ef, er⟩ : Rc)]).drop 1) := Lib.hid (HPL.out.trans (if_pos hroom))
      clear HPL
      go_upto_region 5 with fail
      go_quiet (fail)
      have HF := Lib.hid (first_yes (o := 3) (HH2.out.drewN nq) rfl (by have := HN2.out; omega))
      have HK4 := Lib.hid (kq_drewN HK3.out nq)
      generalize w3.drewN nq = w4 at HF HK4 ⊢
      clear c3 c1 gl
      go_wp2_with fail
      refine HF.out.mono ?_
      rintro e w5 ⟨⟨c', r, rfl, HH5, HL5⟩, hk5⟩
      have HK5 := Lib.hid (HK4.out.trans hk5)
      have HP9 : Hid (PT w5 g room (c + 1) PL) := Lib.hid (by
        obtain ⟨hp, hle⟩ := HL5.out
        have hr := (HR2.out.perm hp.symm).least (fun v hv => hle v (hp.mem_iff.1 (List.mem_cons_of_mem _ hv)))
        rw [HE9.out]
        exact ⟨r, HH5.out, hr.2, fun u hu => HC2.out u (hp.mem_iff.1 (List.mem_cons_of_mem _ hu)), HC3.out⟩)
      clear hk5 HF
      go_wp2
      go_ret
      exact ⟨rfl, HP9.out, HK5.out⟩
    · have HE9 : Hid (PL = withoutL l kr kp ++ [(⟨kr, kp, ep, ef, er⟩ : Rc)]) := Lib.hid (HPL.out.trans (if_neg hroom))
      clear HPL
      go_upto_region 5 with fail
      go_quiet (fail)
      go_wp2
      go_ret
      exact ⟨rfl, ⟨us2, HH2.out.drewN _, by rw [HE9.out]; exact HR2.out, HC2.out, HC3.out⟩, kq_drewN HK3.out _⟩
end
end Go.Proofs.Ytgcpcffgpokbfaa.Sb
