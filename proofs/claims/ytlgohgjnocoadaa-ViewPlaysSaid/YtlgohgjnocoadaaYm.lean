/- Package view: Write of the program. -/
import Derived.Test.YtlgohgjnocoadaaYl
import Derived.StillTailTactics
namespace Go.Proofs.Ytlgohgjnocoadaa.Vw
open Go.RowKit Go.Shelf Ut Oc
set_option maxRecDepth 100000
set_option linter.unusedVariables false
set_option maxHeartbeats 4000000

theorem prtS_bytes {L : List Gm.Pl} {S : List Int} (h : AreBytes S) {zs : List Int} (hz : AreBytes zs) (p : Part) (i : Nat) : AreBytes (prtS L S zs p i) := by
  induction i with
  | zero => exact h
  | succ i ih => exact bytes_set ih _ _ (hz.at_ _)

section
variable {b s m n : Nat} {S : List Int} {L : List Gm.Pl} {D : List Bool}
theorem write1_any (Bs Bv : Nat) (x : Part) (hk : x.off + x.k ≤ 64) (hk0 : 0 < x.k) (hp12 : x.page < 12) (hf : frN L x.page < n) (xb : Addr) (K bc Bz : Nat) (zs : List Int) (hfk : x.from_ + x.k ≤ K) (hK5 : K ≤ 512) (hKc : K ≤ bc) (hzs : AreBytes zs) (w : World)
    (hP : PV w b s m n S L D) (hV : Boxed w Bv 25 (.pointer (some ⟨b, 0, none⟩))) (hS : Boxed w Bs 30 (.slice (some xb) K bc)) (hr : RowK .u8 w Bz (some xb) K zs) (hz : Bz ≤ s) (hvs : Bv ≠ s ∧ Bv ≠ b) (hss : Bs ≠ s ∧ Bs ≠ b) :
    Calls Try.prog 35 #[x.v, .int .i64 (frN L x.page : Nat), .pointer (some ⟨Bs, 0, none⟩), .pointer (some ⟨Bv, 0, none⟩)] w fun e w' =>
      e = .returned (.tuple #[]) ∧ PV w' b s m n (prtS L S zs x x.k) L (D.set x.page true) ∧ Kq [s, b] w w' := by
  obtain ⟨P, O, Q, G⟩ := x
  dsimp only at hk hk0 hp12 hf hfk ⊢
  have cS := hS.cell
  have lS := hS.lt
  have hPA : PV (w.alloc (.cells #[.int .i64 P, .int .i64 O, .int .i64 Q, .int .i64 G] 83)) b s m n S L D := hP.more ((Below.refl _ _).alloc (Nat.le_refl _) _)
  have HPA := Lib.hid hPA
  have HNA : Hid (Blk (w.alloc (.cells #[.int .i64 P, .int .i64 O, .int .i64 Q, .int .i64 G] 83)) w.heap.size 83 [.int .i64 P, .int .i64 O, .int .i64 Q, .int .i64 G]) := Lib.hid (Blk.new w _ _)
  have HVA := Lib.hid (hV.alloc (.cells #[.int .i64 P, .int .i64 O, .int .i64 Q, .int .i64 G] 83))
  have HRA : Hid (RowK .u8 (w.alloc (.cells #[.int .i64 P, .int .i64 O, .int .i64 Q, .int .i64 G] 83)) Bz (some xb) K zs) := Lib.hid (hr.below ((Below.refl _ _).alloc (by have := hP.st.lt; omega) _))
  have HWS : Hid ((w.alloc (.cells #[.int .i64 P, .int .i64 O, .int .i64 Q, .int .i64 G] 83)).heap.size = w.heap.size + 1) := Lib.hid (by simp)
  have HKA : Hid (Kq [s, b] w (w.alloc (.cells #[.int .i64 P, .int .i64 O, .int .i64 Q, .int .i64 G] 83))) := Lib.hid (Kq.of_below ((Below.refl _ _).alloc (Nat.le_refl _) _))
  have HZ := Lib.hid hzs
  have HBZ := Lib.hid hz
  have HVS := Lib.hid hvs
  have HF := Lib.hid hf
  have HK := Lib.hid hk
  have HFK := Lib.hid hfk
  have HP12 := Lib.hid hp12
  have HLS := Lib.hid hP.lt
  have HSL := Lib.hid (show s < w.heap.size from hP.st.lt)
  have HN32 := Lib.hid hP.st.2.2.2
  obtain ⟨E, hE⟩ : ∃ E, G + Q = E := ⟨_, rfl⟩
  have e4 : ¬ bc = G := by omega
  have e7 : IntKind.i64.wrap ((G : Int) + (Q : Int)) = (E : Int) := by
    rw [IntWalk.i64_in _ (by omega)]; omega
  have e7' : (G : Int) + (Q : Int) = (E : Int) := by omega
  have e8 : (0 : Int) ≤ (E : Int) ∧ (E : Int) ≤ (bc : Int) := by omega
  have e9 : E ≤ bc := by omega
  have e10 : G ≤ E := by omega
  have e11 : E - G = Q := by omega
  have hG5 : (G : Int) ≤ 512 := by omega
  have hQ5 : (Q : Int) ≤ 64 := by omega
  have hE5 : (E : Int) ≤ 512 := by omega
  clear hP hV hS hr hPA hzs hz hvs hss hf hk hfk hp12 hE hk0 hK5 hKc
  show Calls _ _ #[.agg #[.int .i64 P, .int .i64 O, .int .i64 Q, .int .i64 G], _, _, _] _ _
  go_enter Try.func35, Try.ntmps35
  go_wp2
  clear cS lS e4 e7 e7' e8 e9 e10 e11 hG5 hE5
  generalize w.alloc (.cells #[.int .i64 P, .int .i64 O, .int .i64 Q, .int .i64 G] 83) = W0 at HPA HNA HVA HRA HWS HKA ⊢
  go_loopw [18] (fun j wr => ∃ i : Nat, i ≤ Q ∧ j = .int .i64 i ∧ Hid (PV wr b s m n (prtS L S zs ⟨P, O, Q, G⟩ i) L D) ∧ Hid (Kq [s] W0 wr)) (fun j _ => Q - (intOf j).toNat)
  case atStart => exact ⟨0, Nat.zero_le _, rfl, HPA, Kq.refl _ _⟩
  case round =>
    obtain ⟨i, hi, rfl, HPR, HKR⟩ := hrel
    have hvv := HVS.out
    by_cases hlt : i < Q
    · have f1 : (i : Int) < (Q : Int) := by omega
      have f2 : (0 : Int) ≤ (i : Int) ∧ (i : Int) < (Q : Int) := by omega
      have H3 := Lib.hid hlt
      clear hlt hi
      have hbr : Below Bz W0 wr := HKR.out.under (fun q hq => by have e : q = s := (by simpa using hq); rw [e]; exact HBZ.out) (by have := HBZ.out; have := HSL.out; have := HKA.out.size; omega)
      have hprt := (HRA.out.below hbr).part G Q HFK.out
      obtain ⟨y, ey, hyb, hyc⟩ := hprt.2 i H3.out
      injection ey with ey
      subst ey
      have hzi : ((zs.drop G).take Q).getD i 0 = zs.getD (G + i) 0 := by
        have := H3.out
        simp [List.getD, this]
      rw [hzi] at hyc
      have hzb := HZ.out.at_ (G + i)
      have hbx : Boxed wr Bv 25 (.pointer (some ⟨b, 0, none⟩)) := (HKR.out.block Bv HVA.out.lt (by simp; omega)).trans HVA.out
      have hbn : Blk wr w.heap.size 83 [.int .i64 P, .int .i64 O, .int .i64 Q, .int .i64 G] := HNA.out.kq HKR.out (by have := HSL.out; simp; omega)
      have HBX := Lib.hid hbx
      have HBN := Lib.hid hbn
      have cV := hbx.cell
      have p1 : wr.cell? ⟨w.heap.size, 1, none⟩ = some (.int .i64 O) := hbn.cell rfl
      have c0 := HPR.out.cell0
      obtain ⟨T, hT⟩ : ∃ T, prtS L S zs ⟨P, O, Q, G⟩ i = T := ⟨_, rfl⟩
      have HST : Hid (prtS L S zs ⟨P, O, Q, G⟩ (i + 1) = T.set (64 * frN L P + (O + i)) (zs.getD (G + i) 0)) := Lib.hid (by rw [← hT]; rfl)
      rw [hT] at HPR
      have HSV : Hid (∀ W, PV W b s m n T L D → Calls Try.prog 36 #[.pointer (some ⟨s, 0, none⟩), .int .i64 (frN L P : Nat), .int .i64 ((O : Int) + (i : Int)), .int .i64 1, .int .u32 (zs.getD (G + i) 0)] W fun e w' => e = .returned (.int .i64 0) ∧ PV w' b s m n (prtS L S zs ⟨P, O, Q, G⟩ (i + 1)) L D ∧ W.grownBy w' (some s)) := Lib.hid fun W hW => by
        have hfn := HF.out
        have hn32 := HN32.out
        have hok := HK.out
        have hi3 := H3.out
        have := Fr.save_in s n (frN L P) (O + i) 1 (zs.getD (G + i) 0) T W hW.st hfn (by decide) (by omega) hzb.1 (by omega)
        rw [lay_one hW.st.2.1 (by omega) (by omega) hzb, ← HST.out, show ((O + i : Nat) : Int) = (O : Int) + (i : Int) by omega] at this
        exact this.mono fun e w' ⟨he, hs, hg⟩ => ⟨he, hW.saved hs hg, hg⟩
      have hO64 : (O : Int) + (i : Int) ≤ 64 := by have := HK.out; have := H3.out; omega
      have hO0 : (0 : Int) ≤ (O : Int) := by omega
      clear hT hzi hprt hbx hbn hvv
      generalize hFF : ((frN L P : Nat) : Int) = FF at HSV ⊢
      generalize zs.getD (G + i) 0 = u at HSV hyc hzb HST
      obtain ⟨u0, u1⟩ := hzb
      go_upto_region 4 with fail
      clear hyc
      go_still_tail 11, (by kernel_rfl)
      change wpList _ _ _ _ _ wr.drew
      have HP2 : Hid (PV wr.drew b s m n T L D) := Lib.hid (HPR.out.more (Below.refl _ _).drew)
      have HK2 : Hid (Kq [s] W0 wr.drew) := Lib.hid (HKR.out.trans (Kq.of_below (Below.refl _ _).drew))
      clear cV p1 c0 HPR HKR hyb hbr
      generalize wr.drew = V2 at HP2 HK2 ⊢
      go_wp2_with fail
      refine (HSV.out _ HP2.out).mono ?_
      rintro e w3 ⟨rfl, hp3, hg3⟩
      have HP3 := Lib.hid hp3
      have HK3 : Hid (Kq [s] W0 w3) := Lib.hid (HK2.out.trans (Kq.of_grown hg3 (by simp)))
      clear hp3 hg3 HP2 HK2
      go_wp2
      go_roundw
      case rel => exact ⟨i + 1, H3.out, by go_num, HP3, HK3⟩
      case measure => have := H3.out; simp [intOf]; omega
    · have f1 : ¬ (i : Int) < (Q : Int) := by omega
      obtain rfl : i = Q := by omega
      clear hlt hi
      have hbx : Boxed wr Bv 25 (.pointer (some ⟨b, 0, none⟩)) := (HKR.out.block Bv HVA.out.lt (by simp; omega)).trans HVA.out
      have hbn : Blk wr w.heap.size 83 [.int .i64 P, .int .i64 O, .int .i64 i, .int .i64 G] := HNA.out.kq HKR.out (by have := HSL.out; simp; omega)
      have cV := hbx.cell
      have p0 : wr.cell? ⟨w.heap.size, 0, none⟩ = some (.int .i64 P) := hbn.cell rfl
      have HPM := Lib.hid (HPR.out.mark P)
      have HKM := Lib.hid ((HKA.out.trans (HKR.out.more (T' := [s, b]) (by simp))).setCell b (2 + P) (.bool true) (.inl (by simp)))
      have f2 : (0 : Int) ≤ (P : Int) ∧ (P : Int) < 12 := by have := HP12.out; omega
      have fz := HPR.out.blk.frozen (2 + P)
      have c2 : wr.cell? ⟨b, 2 + P, none⟩ = some (.bool (D.getD P false)) := HPR.out.blk.cell (by
        rw [show 2 + P = P + 1 + 1 by omega]
        have := HPR.out.len
        have := HP12.out
        simp [vCells, List.getD, show P < D.length by omega])
      clear hvv hbx hbn
      go_wp2
      go_upto_region 6 with fail
      go_region
      all_goals go_end0
      all_goals exact ⟨rfl, HPM.out.more (Below.refl _ _).drew, HKM.out.trans (Kq.of_below (Below.refl _ _).drew)⟩
theorem write_no (p : Option Addr) (z : Int) (ba : Option Addr) (K bc : Nat) (w : World) (hE : ∀ W c, Below w.heap.size w W → Calls Try.prog 34 #[.pointer p, .int .u32 z, .int .i64 K, .func (.func 35) #[] c] W fun e w' => e = .returned (.bool false) ∧ Below W.heap.size W w') :
    Calls Try.prog 8 #[.pointer p, .int .u32 z, .slice ba K bc] w fun e w' => e = .returned (.bool false) ∧ Below w.heap.size w w' := by
  have HE := Lib.hid hE
  have HBB : Hid (∀ o o' : Obj, Below w.heap.size w ((w.alloc o).alloc o')) := Lib.hid fun o o' => ((Below.refl _ _).alloc (Nat.le_refl _) _).alloc (by simp) _
  clear hE
  go_enter Try.func8, Try.ntmps8
  go_wp2_with fail
  refine (HE.out _ _ (HBB.out _ _)).mono ?_
  rintro e w1 ⟨rfl, hb1⟩
  have HB1 := Lib.hid ((HBB.out _ _).trans (hb1.mono (HBB.out _ _).size))
  clear hb1
  go_wp2
  go_ret
  exact ⟨rfl, HB1.out⟩

/-- between two parts: their bytes are laid, their pages marked -/
def WrI (b s m n : Nat) (S : List Int) (L : List Gm.Pl) (D : List Bool) (zs : List Int) (Bv Bs : Nat) (sv : Value) {a K : Nat} (pre : List (BP a K)) (W : World) : Prop :=
  PV W b s m n (foldS L zs S pre) L (foldD D pre) ∧ Boxed W Bv 25 (.pointer (some ⟨b, 0, none⟩)) ∧ Boxed W Bs 30 sv
theorem wrI_own (zs : List Int) (Bv Bs : Nat) (sv : Value) {a K : Nat} (B : Nat) : OwnFrom B (fun (pre : List (BP a K)) W => WrI b s m n S L D zs Bv Bs sv pre W) := fun pre X Y row hs hg hr => by
  obtain ⟨h1, h2, h3⟩ := hs
  have hr2 := fun r e => (hr r e).2
  exact ⟨pv_own h1 hg hr2, boxed_own _ _ (fun _ : Unit => _) () X Y row h2 hg hr2, boxed_own _ _ (fun _ : Unit => _) () X Y row h3 hg hr2⟩
theorem write_yes (a K bc Bz : Nat) (ba : Option Addr) (zs : List Int) (haK : a + K ≤ 512) (ht : ownB n L a K = true) (hall : ∀ i, i < K → okA n L (a + i) = true) (hKc : K ≤ bc) (hzs : AreBytes zs) (w : World) (hr : RowK .u8 w Bz ba K zs) (hP : PV w b s m n S L D) (hz : Bz ≤ s) :
    Calls Try.prog 8 #[.pointer (some ⟨b, 0, none⟩), .int .u32 a, .slice ba K bc] w fun e w' => e = .returned (.bool true) ∧ PV w' b s m n (wS L S a zs K) L (wD D a K) ∧ Kq [s, b] w w' := by
  have HBB : Hid (∀ o o' : Obj, Below w.heap.size w ((w.alloc o).alloc o')) := Lib.hid fun o o' => ((Below.refl _ _).alloc (Nat.le_refl _) _).alloc (by simp) _
  have bV : Boxed ((w.alloc (.cells #[.pointer (some ⟨b, 0, none⟩)] 25)).alloc (.cells #[.slice ba K bc] 30)) w.heap.size 25 (.pointer (some ⟨b, 0, none⟩)) := (Boxed.new w _ _).alloc _
  have bB : Boxed ((w.alloc (.cells #[.pointer (some ⟨b, 0, none⟩)] 25)).alloc (.cells #[.slice ba K bc] 30)) (w.heap.size + 1) 30 (.slice ba K bc) := by
    have h := Boxed.new (w.alloc (.cells #[.pointer (some ⟨b, 0, none⟩)] 25)) 30 (.slice ba K bc)
    rwa [World.size_alloc] at h
  have hPW := hP.more (HBB.out (.cells #[.pointer (some ⟨b, 0, none⟩)] 25) (.cells #[.slice ba K bc] 30))
  have hB := HBB.out (.cells #[.pointer (some ⟨b, 0, none⟩)] 25) (.cells #[.slice ba K bc] 30)
  have hsz : ((w.alloc (.cells #[.pointer (some ⟨b, 0, none⟩)] 25)).alloc (.cells #[.slice ba K bc] 30)).heap.size = w.heap.size + 2 := by simp
  have hlb := hP.lt
  have hls := hP.st.lt
  have hsm := hP.sm
  have hmb := hP.mb
  have hOK := hP.mp.2
  have hTB : ∀ q ∈ [s, b], Bz ≤ q ∧ q < w.heap.size := fun q hq => by
    rcases List.mem_cons.1 hq with rfl | hq
    · exact ⟨hz, hls⟩
    · have e : q = b := (by simpa using hq)
      rw [e]
      exact ⟨by omega, hlb⟩
  have HEY : Hid (Calls Try.prog 34 #[.pointer (some ⟨b, 0, none⟩), .int .u32 a, .int .i64 K, .func (.func 35) #[] #[.pointer (some ⟨w.heap.size + 1, 0, none⟩), .pointer (some ⟨w.heap.size, 0, none⟩)]] ((w.alloc (.cells #[.pointer (some ⟨b, 0, none⟩)] 25)).alloc (.cells #[.slice ba K bc] 30)) fun e w' =>
      e = .returned (.bool true) ∧ WrI b s m n S L D zs w.heap.size (w.heap.size + 1) (.slice ba K bc) (partsG a K K 0) w' ∧ Kq [s, b] ((w.alloc (.cells #[.pointer (some ⟨b, 0, none⟩)] 25)).alloc (.cells #[.slice ba K bc] 30)) w') := Lib.hid <| by
    refine each_yes a K haK ht hall 35 _ (fun _ _ => rfl) (WrI b s m n S L D zs w.heap.size (w.heap.size + 1) (.slice ba K bc)) [s, b] _ hPW (wrI_own _ _ _ _ _) (fun pre W h => ⟨_, _, h.1⟩) (fun q hq => by have := (hTB q hq).2; omega) ?_ ⟨hPW, bV, bB⟩
    intro pre x W hk hI hlen
    obtain ⟨h1, h2, h3⟩ := hI
    have hok := fine_ok (n := n) (L := L) hall x
    obtain ⟨f, _, hf2, hfn, hf32⟩ := ok_frame hOK hok
    have hx := x.2
    unfold Part.fine at hx
    have hrW : RowK .u8 W Bz ba K zs := (hr.below (hB.mono (by omega))).below (hk.under (fun q hq => (hTB q hq).1) (by omega))
    obtain ⟨xb, rfl, _⟩ := hrW.2 0 (by omega)
    have hp8 : x.1.page < 12 := by omega
    refine (write1_any (w.heap.size + 1) w.heap.size x.1 hx.1 hx.2.2.2 hp8 (by omega) xb K bc Bz zs hx.2.1 (by omega) hKc hzs W h1 h2 h3 hrW hz ⟨by omega, by omega⟩ ⟨by omega, by omega⟩).mono ?_
    rintro e W' ⟨he, hp', hk'⟩
    refine ⟨he, ⟨?_, ?_, ?_⟩, Kz.of_kq hk', hk.trans hk'⟩
    · rw [foldS_snoc, foldD_snoc]; exact hp'
    · exact (hk'.block _ h2.lt (by simp; omega)).trans h2
    · exact (hk'.block _ h3.lt (by simp; omega)).trans h3
  have HFS : Hid (foldS L zs S (partsG a K K 0) = wS L S a zs K) := Lib.hid (foldS_parts (L := L) (zs := zs) (S := S) K 0 (by omega) (Nat.zero_le _))
  have HFD : Hid (foldD D (partsG a K K 0) = wD D a K) := Lib.hid (foldD_parts (D := D) K 0 (by omega) (Nat.zero_le _))
  have HBW := Lib.hid hB
  clear hPW bV bB hB hP hall ht hsz hOK hTB hr hls hsm hmb hlb hz hzs
  go_enter Try.func8, Try.ntmps8
  go_wp2_with fail
  refine HEY.out.mono ?_
  rintro e w1 ⟨rfl, ⟨hp, _, _⟩, hk⟩
  rw [HFS.out, HFD.out] at hp
  have HP1 := Lib.hid hp
  have HK1 : Hid (Kq [s, b] w w1) := Lib.hid ((Kq.of_below HBW.out).trans hk)
  clear hp hk
  go_wp2
  go_ret
  exact ⟨rfl, HP1.out, HK1.out⟩

/-- what both sides write, whatever they are asked -/
def wrtS (n : Nat) (S : List Int) (L : List Gm.Pl) (z : Int) (zs : List Int) : List Int := if ownB n L z zs.length = true then wS L S z.toNat zs zs.length else S
def wrtD (n : Nat) (L : List Gm.Pl) (D : List Bool) (z : Int) (k : Nat) : List Bool := if ownB n L z k = true then wD D z.toNat k else D
/-- .. read -/
def rdL (n : Nat) (S : List Int) (L : List Gm.Pl) (z k : Int) : List Int := if ownB n L z k = true then rB L S z.toNat k.toNat else []
theorem rdL_len (n : Nat) (S : List Int) (L : List Gm.Pl) (z k : Int) : (rdL n S L z k).length = if ownB n L z k = true then k.toNat else 0 := by
  unfold rdL
  by_cases h : ownB n L z k = true
  · rw [if_pos h, if_pos h, rB_len]
  · rw [if_neg h, if_neg h]; rfl
theorem read_any (z k : Int) (t : Bool) (h0 : 0 ≤ z) (h1 : z < 4294967296) (ht : ownB n L z k = t) (w : World) (hP : PV w b s m n S L D) :
    Calls Try.prog 19 #[.pointer (some ⟨b, 0, none⟩), .int .u32 z, .int .i64 k] w fun e w' => ∃ p q c, e = .returned (.tuple #[.slice p q c, .bool t]) ∧ Hid (RowK .u8 w' w'.heap.size p q (rdL n S L z k)) ∧ Below w.heap.size w w' := by
  have hno : ownB n L z k = false → Calls Try.prog 19 #[.pointer (some ⟨b, 0, none⟩), .int .u32 z, .int .i64 k] w fun e w' => ∃ p q c, e = .returned (.tuple #[.slice p q c, .bool false]) ∧ Hid (RowK .u8 w' w'.heap.size p q (rdL n S L z k)) ∧ Below w.heap.size w w' := fun hf => by
    have e : rdL n S L z k = [] := by unfold rdL; rw [hf]; rfl
    rw [e]
    exact (read_no _ z k w fun W c hW => each_no _ z k _ W (fun V hV => own_any z k false h0 h1 hf V ((hP.more hW).more hV)) rfl ⟨_, _, rfl⟩).mono fun e w' ⟨he, hb⟩ => ⟨none, 0, 0, he, RowK.nil _ _ _ _, hb⟩
  rcases own_cases n L z k h0 with ⟨h2, _⟩ | ⟨a, K, rfl, rfl, h2, h3⟩
  · rw [h2] at ht
    subst ht
    exact hno h2
  · cases t
    · exact hno ht
    · have e : rdL n S L a K = rB L S a K := by unfold rdL; rw [if_pos ht]; rfl
      rw [e]
      exact read_yes a K h2 ht (h3.1 ht) w hP
theorem write_any (z : Int) (ba : Option Addr) (K bc Bz : Nat) (zs : List Int) (t : Bool) (S' : List Int) (D' : List Bool) (h0 : 0 ≤ z) (h1 : z < 4294967296) (ht : ownB n L z K = t) (hS' : wrtS n S L z zs = S') (hD' : wrtD n L D z K = D') (hKc : K ≤ bc) (hzs : AreBytes zs) (w : World) (hr : RowK .u8 w Bz ba K zs) (hP : PV w b s m n S L D) (hz : Bz ≤ s) :
    Calls Try.prog 8 #[.pointer (some ⟨b, 0, none⟩), .int .u32 z, .slice ba K bc] w fun e w' => e = .returned (.bool t) ∧ PV w' b s m n S' L D' ∧ Kq [s, b] w w' := by
  have hno : ownB n L z K = false → Calls Try.prog 8 #[.pointer (some ⟨b, 0, none⟩), .int .u32 z, .slice ba K bc] w fun e w' => e = .returned (.bool false) ∧ PV w' b s m n S' L D' ∧ Kq [s, b] w w' := fun hf => by
    unfold wrtS at hS'
    rw [hr.1, hf, if_neg (by decide)] at hS'
    unfold wrtD at hD'
    rw [hf, if_neg (by decide)] at hD'
    subst hS' hD'
    exact (write_no _ z ba K bc w fun W c hW => each_no _ z K _ W (fun V hV => own_any z K false h0 h1 hf V ((hP.more hW).more hV)) rfl ⟨_, _, rfl⟩).mono fun e w' ⟨he, hb⟩ => ⟨he, hP.more hb, Kq.of_below hb⟩
  rcases own_cases n L z K h0 with ⟨h2, _⟩ | ⟨a, K', rfl, hKK, h2, h3⟩
  · rw [h2] at ht
    subst ht
    exact hno h2
  · obtain rfl : K = K' := by omega
    cases t
    · exact hno ht
    · unfold wrtS at hS'
      rw [hr.1, ht, if_pos rfl] at hS'
      unfold wrtD at hD'
      rw [ht, if_pos rfl] at hD'
      subst hS' hD'
      exact write_yes a K bc Bz ba zs h2 ht (h3.1 ht) hKc hzs w hr hP hz
end
end Go.Proofs.Ytlgohgjnocoadaa.Vw
