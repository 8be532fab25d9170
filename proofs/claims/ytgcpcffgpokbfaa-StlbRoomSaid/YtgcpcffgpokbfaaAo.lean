/- Package stlb: the heap's methods Push and Pop; the heap as the library sees it. -/
import Derived.Test.YtgcpcffgpokbfaaAn
namespace Go.Proofs.Ytgcpcffgpokbfaa.Sb
open Go.RowKit Ut Hg
set_option maxRecDepth 100000
set_option linter.unusedVariables false
set_option maxHeartbeats 4000000

theorem assert_used (u : Us) (W : World) : (Instr.typeAssert (.iface 57 (usV u)) 20 57 true).run Try.prog W = .ok (.tuple #[usV u, .bool true]) W := by kernel_rfl

section
variable {W : World} {b o : Nat} {t : TypeId} {pre : List Value} {l : List Us}
theorem push18 (h : LB W b t pre l) (ho : pre.length = o) (u : Us) (hl : l.length < 5) :
    Calls Try.prog 64 #[.pointer (some ⟨b, o, none⟩), .iface 57 (usV u)] W fun e W' => e = .returned (.tuple #[]) ∧ LB W' b t pre (l ++ [u]) ∧ Kq [b] W W' := by
  obtain ⟨U, hU⟩ : ∃ U, U = W.alloc (.cells #[.int .i64 u.1.kr, .int .i64 u.1.kp, .int .i64 u.1.ep, .int .i64 u.1.ef, .int .i64 u.1.er, .int .u64 u.2] 57) := ⟨_, rfl⟩
  have hB : Below W.heap.size W U := by rw [hU]; exact (Below.refl _ _).alloc (Nat.le_refl _) _
  have hN : Blk U W.heap.size 57 (usC u) := by rw [hU]; exact Blk.new W _ (usC u)
  have hbl := h.lt
  obtain ⟨z, hr⟩ := h.more hB
  have h5 := hr.1
  obtain ⟨n, hn⟩ : ∃ n : Nat, l.length = n := ⟨_, rfl⟩
  have HL2 : Hid ((l ++ [u]).length = n + 1) := Lib.hid (by rw [List.length_append, hn]; rfl)
  have HZ : Hid (∃ z', (l ++ z).set n u = (l ++ [u]) ++ z') := Lib.hid (by
    rw [List.length_append] at h5
    match z, h5 with
    | [], h5 => simp at h5; omega
    | c :: z, _ => exact ⟨z, by rw [List.set_append_right _ _ (by omega), hn, Nat.sub_self, List.set_cons_zero, List.append_assoc]; rfl⟩)
  rw [hn] at hr hl
  generalize hLL : l ++ z = LM at hr HZ h5
  have HU := Lib.hid hU
  have HBU := Lib.hid hB
  have HN := Lib.hid hN
  have HR := Lib.hid hr
  have H5 := Lib.hid h5
  have HO := Lib.hid ho
  have d1 : (0 : Int) ≤ (n : Int) ∧ (n : Int) < 5 := by omega
  have d0 : wrap64 ((n : Int) + 1) = (n : Int) + 1 := IntWalk.wrap64_in _ (by omega)
  have HS1 : Hid (splice (pre ++ .int .i64 n :: flatU LM) (o + 1 + n * 6) (usC u) = pre ++ .int .i64 n :: flatU (LM.set n u)) := Lib.hid (by rw [splice_pre _ _ _ _ o _ ho, flatU_splice LM n u (by omega)])
  have HF : Hid (o + 1 + n * 6 + 6 ≤ (pre ++ .int .i64 n :: flatU LM).length) := Lib.hid (by rw [List.length_append, List.length_cons, length_flatU, h5, ho]; omega)
  have hlt := hr.lt
  have c0 := hr.cell0 ho
  have hgl := hN.lt
  have k0 := hN.cell (j := 0) rfl
  have k1 := hN.cell (j := 1) rfl
  have k2 := hN.cell (j := 2) rfl
  have k3 := hN.cell (j := 3) rfl
  have k4 := hN.cell (j := 4) rfl
  have k5 := hN.cell (j := 5) rfl
  have hta := assert_used u W
  have HVE := Lib.hid (usV_toArray u)
  clear h hr hB hN hU hLL hn hl h5 ho
  obtain ⟨⟨kr, kp, ep, ef, er⟩, s⟩ := u
  unfold usV at hta
  dsimp only at k0 k1 k2 k3 k4 k5 HU hta ⊢
  go_enter Try.func64, Try.ntmps64
  go_upto_region 2 with fail
  rw [← HU.out]
  clear HU hta
  apply wp_region_auto [12, 13, 14, 15, 16, 17, 18, 19, 20] [_, _, _, _, _, _, _, _, _] (fun W' => Below U.heap.size U W')
  case hm => kernel_rfl
  case hT => intro y; simp only [setAll, List.setIfInBounds_toArray, List.set_cons_succ, List.set_cons_zero]; exact rfl
  case hok => kernel_rfl
  case hn => decide
  case hw => exact (Below.refl _ _).drew
  case hs =>
    refine auto_op 12 [] (by kernel_rfl) (fun y w' HW hd K hK => ?_) ?_
    · go_simp
      refine hK _ _ ?_ ?_ HW
      · simp [upd]
      · exact rfl
    refine auto_op 13 [] (by kernel_rfl) (fun y w' HW hd K hK => ?_) ?_
    · go_simp
      refine hK _ _ ?_ ?_ HW
      · simp [upd]
      · exact rfl
    refine auto_op 14 [1] (by kernel_rfl) (fun y w' HW hd K hK => ?_) ?_
    · have e1 := hd_nth (hd 1 (by simp)) rfl
      go_simp
      refine hK _ _ ?_ ?_ HW
      · simp [upd, e1]
      · exact rfl
    refine auto_op 15 [2] (by kernel_rfl) (fun y w' HW hd K hK => ?_) ?_
    · have e2 := hd_nth (hd 2 (by simp)) rfl
      go_simp
      refine hK _ _ ?_ ?_ HW
      · simp [upd, e2]
      · exact rfl
    refine auto_op 16 [3] (by kernel_rfl) (fun y w' HW hd K hK => ?_) ?_
    · have e3 := hd_nth (hd 3 (by simp)) rfl
      have hcl : ∀ p : Addr, p.block < U.heap.size → w'.cell? p = U.cell? p := fun p hp => HW.cell hp
      go_simp
      refine hK _ _ ?_ ?_ HW
      · simp [upd, e3]
      · exact rfl
    refine auto_op 17 [] (by kernel_rfl) (fun y w' HW hd K hK => ?_) ?_
    · have hcl : ∀ p : Addr, p.block < U.heap.size → w'.cell? p = U.cell? p := fun p hp => HW.cell hp
      go_simp
      refine hK _ _ ?_ ?_ HW
      · simp [upd]
      · exact rfl
    refine auto_op 18 [0] (by kernel_rfl) (fun y w' HW hd K hK => ?_) ?_
    · have e0 := hd_nth (hd 0 (by simp)) rfl
      go_simp
      refine hK _ _ ?_ ?_ HW
      · simp [upd, e0]
      · exact rfl
    refine auto_op 19 [6] (by kernel_rfl) (fun y w' HW hd K hK => ?_) ?_
    · have e6 := hd_nth (hd 6 (by simp)) rfl
      go_simp
      refine hK _ _ ?_ ?_ HW
      · simp [upd, e6]
      · exact rfl
    refine auto_op 20 [7, 4, 0, 1, 2, 3, 4, 5] (by kernel_rfl) (fun y w' HW hd K hK => ?_) ?_
    · have e0 := hd_nth (hd 0 (by simp)) rfl
      have e1 := hd_nth (hd 1 (by simp)) rfl
      have e2 := hd_nth (hd 2 (by simp)) rfl
      have e3 := hd_nth (hd 3 (by simp)) rfl
      have e4 := hd_nth (hd 4 (by simp)) rfl
      have e5 := hd_nth (hd 5 (by simp)) rfl
      have e7 := hd_nth (hd 7 (by simp)) rfl
      go_simp
      refine hK _ _ ?_ ?_ HW
      · simp [upd, e0, e1, e2, e3, e4, e5, e7]
      · exact rfl
    refine auto_last fun y w' HW hd K hK => ?_
    have e0 := hd_nth (hd 0 (by omega)) rfl
    have e1 := hd_nth (hd 1 (by omega)) rfl
    have e2 := hd_nth (hd 2 (by omega)) rfl
    have e3 := hd_nth (hd 3 (by omega)) rfl
    have e4 := hd_nth (hd 4 (by omega)) rfl
    have e5 := hd_nth (hd 5 (by omega)) rfl
    have e6 := hd_nth (hd 6 (by omega)) rfl
    have e7 := hd_nth (hd 7 (by omega)) rfl
    have e8 := hd_nth (hd 8 (by omega)) rfl
    have hq := HR.out.2.below HW hlt
    refine step_store_blk (a := ⟨_, _⟩) (by kernel_rfl) 57 (.tmp 20) (.tmp 17) (by exact rfl) b (o + 1 + n * 6) t _ (usC (⟨kr, kp, ep, ef, er⟩, s)) (by exact e8) (by exact e5) hq (by rw [size_used]; rfl) HF.out (usC_one _) ?_
    rw [show splice (pre ++ .int .i64 n :: flatU LM) (o + 1 + n * 6) (usC (⟨kr, kp, ep, ef, er⟩, s)) = _ from HS1.out]
    have hr9 : RB (setU w' b pre n (LM.set n (⟨kr, kp, ep, ef, er⟩, s))) b t pre n (LM.set n (⟨kr, kp, ep, ef, er⟩, s)) := RB.row ⟨H5.out, hq⟩ _ (by rw [List.length_set]; exact H5.out)
    have HR9 := Lib.hid hr9
    have HK9 := Lib.hid (((Kq.of_below (T := [b]) HBU.out).trans (Kq.of_below HW)).trans (setU_kq [b] w' b pre n (LM.set n (⟨kr, kp, ep, ef, er⟩, s)) (by simp)))
    refine hK _ _ ?_
    change Hid (RB (w'.setRow b _) _ _ _ _ _) at HR9
    change Hid (Kq _ _ (w'.setRow b _)) at HK9
    generalize w'.setRow b (pre ++ .int .i64 n :: flatU (LM.set n (⟨kr, kp, ep, ef, er⟩, s))).toArray = W9 at HR9 HK9 ⊢
    clear hd hK K hq HW hr9 c0 k0 k1 k2 k3 k4 k5 hlt hgl
    have c9 := HR9.out.cell0 HO.out
    have f9 := HR9.out.2.frozen o
    have l9 := HR9.out.lt
    have HE : Hid (LB (W9.setCell ⟨b, o, none⟩ (.int .i64 ((n : Int) + 1))) b t pre (l ++ [(⟨kr, kp, ep, ef, er⟩, s)])) := Lib.hid (by
      obtain ⟨z', hz'⟩ := HZ.out
      refine ⟨z', ?_⟩
      have := HR9.out.count HO.out ((n : Int) + 1)
      rw [hz'] at this
      rw [HL2.out]
      exact this)
    have HKE := Lib.hid (HK9.out.setCell b o (.int .i64 ((n : Int) + 1)) (.inl (by simp)))
    go_wp2
    go_end0
    exact ⟨rfl, HE.out, HKE.out⟩

theorem pop18 (u : Us) (h : LB W b t pre (l ++ [u])) (ho : pre.length = o) :
    Calls Try.prog 63 #[.pointer (some ⟨b, o, none⟩)] W fun e W' => e = .returned (.iface 57 (usV u)) ∧ LB W' b t pre l ∧ Kq [b] W W' := by
  obtain ⟨n, hn⟩ : ∃ n : Nat, l.length = n := ⟨_, rfl⟩
  have hl5 := h.len
  rw [List.length_append, List.length_singleton, hn] at hl5
  have c0 := h.cell0 ho
  rw [List.length_append, List.length_singleton, hn] at c0
  have f0 := h.frz o
  have hlt := h.lt
  obtain ⟨z, hr⟩ := h
  have h5 := hr.1
  have hx : ((l ++ [u]) ++ z)[n]? = some u := by rw [List.append_assoc, List.getElem?_append_right (by omega), hn, Nat.sub_self]; rfl
  have HZ : Hid (((l ++ [u]) ++ z).set n noU = l ++ (noU :: z)) := Lib.hid (by rw [List.append_assoc, List.set_append_right _ _ (by omega), hn, Nat.sub_self]; rfl)
  generalize (l ++ [u]) ++ z = LM at hr hx h5 HZ
  have hr1 := hr.count ho (n : Nat)
  have HK1 := Lib.hid ((Kq.refl [b] W).setCell b o (.int .i64 (n : Nat)) (.inl (by simp)))
  have HR1 := Lib.hid hr1
  have H5 := Lib.hid h5
  have HO := Lib.hid ho
  have HX := Lib.hid hx
  have HNN := Lib.hid hn
  have e0 : ((n + 1 : Nat) : Int) - 1 = (n : Int) := by omega
  have d0 : wrap64 (n : Int) = (n : Int) := IntWalk.wrap64_in _ (by omega)
  have d1 : (0 : Int) ≤ (n : Int) ∧ (n : Int) < 5 := by omega
  have HS1 : Hid (splice (pre ++ .int .i64 n :: flatU LM) (o + 1 + n * 6) (usC noU) = pre ++ .int .i64 n :: flatU (LM.set n noU)) := Lib.hid (by rw [splice_pre _ _ _ _ o _ ho, flatU_splice LM n noU (by omega)])
  have HF : Hid (o + 1 + n * 6 + 6 ≤ (pre ++ .int .i64 n :: flatU LM).length) := Lib.hid (by rw [List.length_append, List.length_cons, length_flatU, h5, ho]; omega)
  have HB0 : Hid (((Try.prog.built 57 [])) = some (usC noU).toArray) := Lib.hid (by kernel_rfl)
  clear hr hr1 h5 ho hx hn hl5
  go_enter Try.func63, Try.ntmps63
  go_upto_region 2 with fail
  generalize W.setCell ⟨b, o, none⟩ (.int .i64 (n : Nat)) = W1 at HK1 HR1 ⊢
  have hl1 := HR1.out.lt
  have c1 := HR1.out.cell0 HO.out
  obtain ⟨k0, k1, k2, k3, k4, k5⟩ := HR1.out.cells HO.out n u HX.out
  have HBA : Hid (Below W1.heap.size W1 (W1.alloc (.cells #[.int .i64 u.1.kr, .int .i64 u.1.kp, .int .i64 u.1.ep, .int .i64 u.1.ef, .int .i64 u.1.er, .int .u64 u.2] 57)).drew) := Lib.hid (((Below.refl _ _).alloc (Nat.le_refl _) _).drew)
  have HNA : Hid (Blk (W1.alloc (.cells #[.int .i64 u.1.kr, .int .i64 u.1.kp, .int .i64 u.1.ep, .int .i64 u.1.ef, .int .i64 u.1.er, .int .u64 u.2] 57)).drew W1.heap.size 57 (usC u)) := Lib.hid (Blk.new W1 _ (usC u))
  clear c0 f0 hlt
  obtain ⟨⟨kr, kp, ep, ef, er⟩, s⟩ := u
  dsimp only at k0 k1 k2 k3 k4 k5 HBA HNA ⊢
  go_region
  go_upto_region 3 with fail
  generalize (W1.alloc (.cells #[.int .i64 kr, .int .i64 kp, .int .i64 ep, .int .i64 ef, .int .i64 er, .int .u64 s] 57)).drew = U at HBA HNA ⊢
  have hr2 : RB U b t pre n LM := ⟨H5.out, HR1.out.2.more HBA.out⟩
  have HR2 := Lib.hid hr2
  have c2 := hr2.cell0 HO.out
  have hl2 := hr2.lt
  clear k0 k1 k2 k3 k4 k5 c1 hl1 hr2
  apply wp_region_auto [20, 21, 22, 23, 24, 25, 26, 27, 28] [_, _, _, _, _, _, _, _, _] (fun W' => Below U.heap.size U W')
  case hm => kernel_rfl
  case hT => intro y; simp only [setAll, List.setIfInBounds_toArray, List.set_cons_succ, List.set_cons_zero]; exact rfl
  case hok => kernel_rfl
  case hn => decide
  case hw => exact (Below.refl _ _).drew
  case hs =>
    refine auto_op 20 [] (by kernel_rfl) (fun y w' HW hd K hK => ?_) ?_
    · go_simp
      refine hK _ _ ?_ ?_ HW
      · simp [upd]
      · exact rfl
    refine auto_op 21 [] (by kernel_rfl) (fun y w' HW hd K hK => ?_) ?_
    · go_simp
      refine hK _ _ ?_ ?_ HW
      · simp [upd]
      · exact rfl
    refine auto_op 22 [1] (by kernel_rfl) (fun y w' HW hd K hK => ?_) ?_
    · have e1 := hd_nth (hd 1 (by simp)) rfl
      go_simp
      refine hK _ _ ?_ ?_ HW
      · simp [upd, e1]
      · exact rfl
    refine auto_op 23 [2] (by kernel_rfl) (fun y w' HW hd K hK => ?_) ?_
    · have e2 := hd_nth (hd 2 (by simp)) rfl
      go_simp
      refine hK _ _ ?_ ?_ HW
      · simp [upd, e2]
      · exact rfl
    refine auto_op 24 [3] (by kernel_rfl) (fun y w' HW hd K hK => ?_) ?_
    · have e3 := hd_nth (hd 3 (by simp)) rfl
      have hcl : ∀ p : Addr, p.block < U.heap.size → w'.cell? p = U.cell? p := fun p hp => HW.cell hp
      go_simp
      refine hK _ _ ?_ ?_ HW
      · simp [upd, e3]
      · exact rfl
    refine auto_op 25 [] (by kernel_rfl) (fun y w' HW hd K hK => ?_) ?_
    · go_simp
      refine hK _ _ ?_ ?_ HW
      · simp [upd]
      · exact rfl
    refine auto_op 26 [0] (by kernel_rfl) (fun y w' HW hd K hK => ?_) ?_
    · have e0 := hd_nth (hd 0 (by simp)) rfl
      go_simp
      refine hK _ _ ?_ ?_ HW
      · simp [upd, e0]
      · exact rfl
    refine auto_op 27 [6] (by kernel_rfl) (fun y w' HW hd K hK => ?_) ?_
    · have e6 := hd_nth (hd 6 (by simp)) rfl
      go_simp
      refine hK _ _ ?_ ?_ HW
      · simp [upd, e6]
      · exact rfl
    refine auto_op 28 [7, 4, 0, 1, 2, 3, 4, 5] (by kernel_rfl) (fun y w' HW hd K hK => ?_) ?_
    · have e0 := hd_nth (hd 0 (by simp)) rfl
      have e1 := hd_nth (hd 1 (by simp)) rfl
      have e2 := hd_nth (hd 2 (by simp)) rfl
      have e3 := hd_nth (hd 3 (by simp)) rfl
      have e4 := hd_nth (hd 4 (by simp)) rfl
      have e5 := hd_nth (hd 5 (by simp)) rfl
      have e7 := hd_nth (hd 7 (by simp)) rfl
      go_simp
      refine hK _ _ ?_ ?_ HW
      · simp [upd, e0, e1, e2, e3, e4, e5, e7]
      · exact rfl
    refine auto_last fun y w' HW hd K hK => ?_
    have e0 := hd_nth (hd 0 (by omega)) rfl
    have e1 := hd_nth (hd 1 (by omega)) rfl
    have e2 := hd_nth (hd 2 (by omega)) rfl
    have e3 := hd_nth (hd 3 (by omega)) rfl
    have e4 := hd_nth (hd 4 (by omega)) rfl
    have e5 := hd_nth (hd 5 (by omega)) rfl
    have e6 := hd_nth (hd 6 (by omega)) rfl
    have e7 := hd_nth (hd 7 (by omega)) rfl
    have e8 := hd_nth (hd 8 (by omega)) rfl
    have hq := HR2.out.2.below HW hl2
    refine step_store_blk (a := ⟨_, _⟩) (by kernel_rfl) 57 (.tmp 28) (.tmp 25) (by exact rfl) b (o + 1 + n * 6) t _ (usC noU) (by exact e8) (by exact e5) hq (by rw [size_used]; rfl) HF.out (usC_one _) ?_
    rw [show splice (pre ++ .int .i64 n :: flatU LM) (o + 1 + n * 6) (usC noU) = _ from HS1.out]
    have hr9 : RB (setU w' b pre n (LM.set n noU)) b t pre n (LM.set n noU) := RB.row ⟨H5.out, hq⟩ _ (by rw [List.length_set]; exact H5.out)
    have HR9 := Lib.hid hr9
    have HN9 : Hid (Blk (setU w' b pre n (LM.set n noU)) W1.heap.size 57 (usC (⟨kr, kp, ep, ef, er⟩, s))) := Lib.hid ((HNA.out.below HW HNA.out.lt).of_block (setRow_other _ _ _ _ (fun e => by have := HR1.out.lt; omega)))
    have HK9 := Lib.hid ((HK1.out.trans ((Kq.of_below (T := [b]) HBA.out).trans (Kq.of_below HW))).trans (setU_kq [b] w' b pre n (LM.set n noU) (by simp)))
    refine hK _ _ ?_
    change Hid (RB (w'.setRow b _) _ _ _ _ _) at HR9
    change Hid (Kq _ _ (w'.setRow b _)) at HK9
    change Hid (Blk (w'.setRow b _) _ _ _) at HN9
    generalize w'.setRow b (pre ++ .int .i64 n :: flatU (LM.set n noU)).toArray = W9 at HR9 HK9 HN9 ⊢
    clear hd hK K hq HW hr9 c2 hl2
    have k0 := HN9.out.cell (j := 0) rfl
    have k1 := HN9.out.cell (j := 1) rfl
    have k2 := HN9.out.cell (j := 2) rfl
    have k3 := HN9.out.cell (j := 3) rfl
    have k4 := HN9.out.cell (j := 4) rfl
    have k5 := HN9.out.cell (j := 5) rfl
    have hgl := HN9.out.lt
    go_wp2
    go_ret
    exact ⟨rfl, ⟨noU :: z, by rw [HNN.out, ← HZ.out]; exact HR9.out⟩, HK9.out⟩

/-- the heap at ⟨b, o⟩, as the library sees it -/
theorem heaps18 (b o : Nat) (t : TypeId) (pre : List Value) (ho : pre.length = o) : Heaps 70 (.pointer (some ⟨b, o, none⟩)) usK (fun w (l : List Us) => LB w b t pre l) (fun w w' => Kq [b] w w') where
  refl w := Kq.refl _ w
  trans a b c h k := h.trans k
  bd W l h := by have := h.len; omega
  len W l h := Asks.ptr _ _ 61 _ _ _ _ (by kernel_rfl) Try.underlying70 (fun _ _ => rfl) ((len18 h ho).mono fun e w' ⟨h1, h2⟩ => by subst h2; exact ⟨h1, h, Kq.refl _ _⟩)
  less W l i j r h hi hj hr := Asks.ptr _ _ 62 _ _ _ _ (by kernel_rfl) Try.underlying70 (fun _ _ => rfl) ((less18 h ho i j hi hj r hr).mono fun e w' ⟨h1, h2⟩ => ⟨h1, h.more h2, Kq.of_below h2⟩)
  swap W l i j h hi hj := Asks.ptr _ _ 65 _ _ _ _ (by kernel_rfl) Try.underlying70 (fun _ _ => rfl) (swap18 h ho i j hi hj)
theorem asks_push18 (h : LB W b t pre l) (ho : pre.length = o) (u : Us) (hl : l.length < 5) : Asks 70 (.pointer (some ⟨b, o, none⟩)) "Push" W fun f rv => Calls Try.prog f #[rv, .iface 57 (usV u)] W fun e w' => e = .returned (.tuple #[]) ∧ LB w' b t pre (l ++ [u]) ∧ Kq [b] W w' :=
  Asks.ptr _ _ 64 _ _ _ _ (by kernel_rfl) Try.underlying70 (fun _ _ => rfl) (push18 h ho u hl)
theorem asks_pop18 (ho : pre.length = o) (r : List Us) (c : Us) (w : World) (h : LB w b t pre (r ++ [c])) : Asks 70 (.pointer (some ⟨b, o, none⟩)) "Pop" w fun f rv => Calls Try.prog f #[rv] w fun e w' => e = .returned ((fun u : Us => Value.iface 57 (usV u)) c) ∧ LB w' b t pre r ∧ Kq [b] w w' :=
  Asks.ptr _ _ 63 _ _ _ _ (by kernel_rfl) Try.underlying70 (fun _ _ => rfl) (pop18 c h ho)

/-- a heap of translations: in a heap's order -/
def HP (W : World) (b : Nat) (t : TypeId) (pre : List Value) (l : List Us) : Prop := LB W b t pre l ∧ HeapL usK l l.length
theorem hpush18 (h : HP W b t pre l) (ho : pre.length = o) (u : Us) (hl : l.length < 5) :
    Calls Try.prog 37 #[.iface 70 (.pointer (some ⟨b, o, none⟩)), .iface 57 (usV u)] W fun e W' => e = .returned (.tuple #[]) ∧ (∃ l', HP W' b t pre l' ∧ l'.Perm (u :: l)) ∧ Kq [b] W W' :=
  (push_by (heaps18 b o t pre ho) _ u l.length l W h.1 rfl (asks_push18 h.1 ho u hl)).mono fun e w' ⟨h1, h2, h3⟩ => by
    obtain ⟨q1, q2, q3⟩ := push_parts (ky := usK) u h.2
    exact ⟨h1, ⟨_, ⟨h2, q2⟩, q3⟩, h3⟩
theorem hpop18 (h : HP W b t pre l) (ho : pre.length = o) (hl : 0 < l.length) :
    Calls Try.prog 44 #[.iface 70 (.pointer (some ⟨b, o, none⟩))] W fun e W' => ∃ c r, e = .returned (.iface 57 (usV c)) ∧ HP W' b t pre r ∧ (c :: r).Perm l ∧ (∀ y ∈ l, c.2 ≤ y.2) ∧ Kq [b] W W' := by
  obtain ⟨r, q1, q2, q3, q4, q5⟩ := pop_parts (ky := usK) hl h.2
  exact (pop_by (heaps18 b o t pre ho) (fun u : Us => Value.iface 57 (usV u)) l.length l r _ W h.1 rfl hl q1 (fun w hw => asks_pop18 ho r _ w hw)).mono fun e w' ⟨h1, h2, h3⟩ => ⟨_, r, h1, ⟨h2, q3⟩, q4, q5, h3⟩
theorem hfix18 (u : Us) (i : Nat) (h : LB W b t pre (l.set i u)) (hh : HeapL usK l l.length) (ho : pre.length = o) (hi : i < l.length) :
    Calls Try.prog 28 #[.iface 70 (.pointer (some ⟨b, o, none⟩)), .int .i64 i] W fun e W' => e = .returned (.tuple #[]) ∧ (∃ l', HP W' b t pre l' ∧ l'.Perm (l.set i u)) ∧ Kq [b] W W' :=
  (fix_by (heaps18 b o t pre ho) i l.length _ W h (by rw [List.length_set]) hi).mono fun e w' ⟨h1, h2, h3⟩ => by
    obtain ⟨q1, q2, q3⟩ := fix_parts (ky := usK) u hi hh
    exact ⟨h1, ⟨_, ⟨h2, by rw [q3]; exact q1⟩, q2⟩, h3⟩
theorem hremove18 (i : Nat) (h : HP W b t pre l) (ho : pre.length = o) (hi : i < l.length) :
    Calls Try.prog 43 #[.iface 70 (.pointer (some ⟨b, o, none⟩)), .int .i64 i] W fun e W' => ∃ c r, e = .returned (.iface 57 (usV c)) ∧ c = l.getD i default ∧ HP W' b t pre r ∧ (c :: r).Perm l ∧ Kq [b] W W' := by
  obtain ⟨r, q1, q2, q3, q4⟩ := rem_parts (ky := usK) hi h.2
  exact (remove_by (heaps18 b o t pre ho) (fun u : Us => Value.iface 57 (usV u)) i l.length l r _ W h.1 rfl hi q1 (fun w hw => asks_pop18 ho r _ w hw)).mono fun e w' ⟨h1, h2, h3⟩ => ⟨_, r, h1, rfl, ⟨h2, q3⟩, q4, h3⟩
end
end Go.Proofs.Ytgcpcffgpokbfaa.Sb
