/- hermitagelaw18: StlbNarrow. -/
import Derived.Test.YtgcpcffgpokbfaaBp
namespace Go.Proofs.Ytgcpcffgpokbfaa.Sb
open Go.RowKit Ut Hg
set_option maxRecDepth 100000
set_option linter.unusedVariables false
set_option maxHeartbeats 8000000

/-- all rights are numbers that can be -/
def Rg (l : List Rc) : Prop := ∀ x ∈ l, -9223372036854775808 ≤ x.er ∧ x.er < 9223372036854775808
section
variable {l : List Rc} {x : Rc} {room pg : Int}
theorem Rg.put (h : Rg l) (hx : -9223372036854775808 ≤ x.er ∧ x.er < 9223372036854775808) : Rg (putL room l x) := fun y hy => by
  have hm : y ∈ withoutL l x.kr x.kp ++ [x] := by
    unfold putL at hy
    split at hy
    · exact List.mem_of_mem_drop hy
    · exact hy
  rcases List.mem_append.1 hm with hm | hm
  · exact h y (List.mem_filter.1 hm).1
  · simp at hm
    rw [hm]
    exact hx
theorem nar_eq (he : (x.ep == pg) = true) (hx : -9223372036854775808 ≤ x.er ∧ x.er < 9223372036854775808) : narX pg x = { x with er := bits .andNot .i64 x.er 2 } := by
  cases h : hadB x pg with
  | true => exact (nar_had h).1
  | false =>
    rw [nar_not h]
    have hw : (bits .and .i64 x.er 2 == 0) = true := by
      unfold hadB at h
      rw [he] at h
      simpa using h
    have e2 : bits .andNot .i64 x.er 2 = IntKind.i64.wrap (((x.er % 18446744073709551616).toNat &&& 18446744073709551613 : Nat) : Int) := by
      show IntKind.i64.wrap ((BitVec.ofInt 64 x.er &&& ~~~ BitVec.ofInt 64 2).toNat : Nat) = _
      rw [BitVec.toNat_and, BitVec.toNat_ofInt, BitVec.toNat_not, two_toNat]
      rfl
    have e1 : bits .and .i64 x.er 2 = IntKind.i64.wrap (((x.er % 18446744073709551616).toNat &&& 2 : Nat) : Int) := by
      show IntKind.i64.wrap ((BitVec.ofInt 64 x.er &&& BitVec.ofInt 64 2).toNat : Nat) = _
      rw [BitVec.toNat_and, BitVec.toNat_ofInt, two_toNat]
      rfl
    have hlt : (x.er % 18446744073709551616).toNat % 4 < 2 := by
      apply Decidable.byContradiction
      intro hc
      rw [e1, low_two, if_neg hc, IntKind.wrap_i64] at hw
      simp at hw
    have e3 : bits .andNot .i64 x.er 2 = x.er := by
      rw [e2, clear_two _ (by omega), IntKind.wrap_i64]
      omega
    rw [e3]
theorem nar_ne (he : (x.ep == pg) = false) : narX pg x = x := nar_not (by unfold hadB; rw [he]; rfl)
theorem nar_page (x : Rc) : (narX pg x).ep = x.ep := by unfold narX; split <;> rfl
theorem nar_count (l : List Rc) : (narL l pg).countP (fun x => x.ep == pg) = l.countP (fun x => x.ep == pg) := by
  unfold narL
  rw [List.countP_map]
  congr 1
  funext x
  simp only [Function.comp_apply, nar_page]
theorem nar_again (l : List Rc) : narN (narL l pg) pg = 0 ∧ narL (narL l pg) pg = narL l pg := by
  have h : ∀ x ∈ narL l pg, hadB x pg = false := fun x hx => by
    obtain ⟨y, _, rfl⟩ := List.mem_map.1 hx
    cases hy : hadB y pg with
    | true => exact (nar_had hy).2
    | false => rw [nar_not hy]; exact hy
  refine ⟨List.countP_eq_zero.2 (fun x hx => by rw [h x hx]; decide), ?_⟩
  conv => lhs; unfold narL
  conv => rhs; rw [← List.map_id (narL l pg)]
  exact List.map_congr_left fun x hx => by rw [nar_not (h x hx)]; rfl
theorem gone_again (l : List Rc) : goneL (goneL l pg) pg = goneL l pg := by
  unfold goneL
  rw [List.filter_filter]
  congr 1
  funext x
  rw [Bool.and_self]
theorem gone_lens (l : List Rc) (n : Nat) (hn : l.countP (fun x => x.ep == pg) = n) : (l.length : Int) - ((goneL l pg).length : Int) = (n : Int) ∧ n ≤ l.length ∧ (goneL l pg).length = l.length - n := by
  have h1 := gone_count l pg
  have h2 := List.countP_le_length (p := fun x : Rc => x.ep == pg) (l := l)
  rw [hn] at h1 h2
  exact ⟨h1.symm, h2, by omega⟩
end

theorem narrow18_any (ak ae : Option Addr) (lk ck le ce : Nat) (Z : Nat → Int × Int) (Y : Nat → Int × Int × Int) (pg : Int) (w : World) (hlk : lk ≤ 9223372036854775807) (hle : le ≤ 9223372036854775807)
    (hk : KeyRow w w.heap.size ak lk Z) (he : EntRow w w.heap.size ae le Y) :
    Calls Try.prog 6 #[.slice ak lk ck, .slice ae le ce, .int .i64 pg] w fun e w' => e = .returned (.bool true) ∧ Below w.heap.size w w' := by
  have HNew : Hid (Calls Try.prog 8 #[.int .i64 4] w fun e w' => e = .returned (.tuple #[.pointer (some ⟨w.heap.size, 0, none⟩), .int .i64 0]) ∧ Hid (PU w' w.heap.size (4 : Nat) 0 []) ∧ Below w.heap.size w w') := Lib.hid (puNew 4 (by decide) w)
  have HK := Lib.hid hk
  have HE := Lib.hid he
  clear hk he
  go_enter Try.func6, Try.ntmps6
  go_wp2_with fail
  refine HNew.out.mono ?_
  rintro e w1 ⟨rfl, HP1, hb1⟩
  have HS1 : Hid (RS w w1 w.heap.size 4 0 []) := Lib.hid ⟨HP1.out, hb1⟩
  clear hb1 HNew HP1
  go_wp2
  go_loopw [9] (fun j wr => ∃ (k : Nat) (l : List Rc), j = .int .i64 k ∧ k ≤ 30 ∧ Hid ((l.length : Int) ≤ 4) ∧ Hid (Rg l) ∧ Hid (RS w wr w.heap.size 4 k l)) (fun j _ => 30 - (intOf j).toNat)
  case atStart => exact ⟨0, [], rfl, by omega, Lib.hid (by simp), Lib.hid (fun x hx => absurd hx List.not_mem_nil), HS1⟩
  case round =>
    clear HS1
    obtain ⟨k, l, rfl, hk, HLN, HRG, HS⟩ := hrel
    by_cases hin : k < lk ∧ k < le ∧ k < 30
    · obtain ⟨h0, h1, h2⟩ := hin
      have hrg := ent_rg HE.out h1
      obtain ⟨kk, rfl, hyc⟩ := key_on HK.out h0
      obtain ⟨ee, rfl, hvc⟩ := ent_on HE.out h1
      obtain ⟨m0, m1, m2, m3⟩ := hyc wr HS.out.b
      obtain ⟨q0, q1, q2, q3, q4⟩ := hvc wr HS.out.b
      have f0 : (k : Int) < (lk : Int) := by omega
      have f1 : (k : Int) < (le : Int) := by omega
      have f2 : (k : Int) < 30 := by omega
      have f3 : (0 : Int) ≤ (k : Int) := by omega
      have H3 := Lib.hid h2
      clear hyc hvc h0 h1 h2 hk
      generalize Z k = zk at m2 m3
      generalize Y k = yk at q2 q3 q4 hrg
      obtain ⟨kp, kq⟩ := zk
      obtain ⟨ea, eb, ec⟩ := yk
      dsimp only at m2 m3 q2 q3 q4 hrg
      have HRP : Hid (Rg (putL 4 l ⟨kp, kq, ea, eb, ec⟩)) := Lib.hid (HRG.out.put hrg)
      have HLP : Hid (((putL 4 l (⟨kp, kq, ea, eb, ec⟩ : Rc)).length : Int) ≤ 4) := Lib.hid (put_len (by decide) HLN.out)
      clear hrg
      go_upto_region 7 with fail
      apply wp_region_auto [41, 42, 43, 44, 45, 46, 47, 48, 49] [_, _, _, _, _, _, _, _, _] (fun W' => Below wr.heap.size wr W')
      case hm => kernel_rfl
      case hT => intro y; simp only [setAll, List.setIfInBounds_toArray, List.set_cons_succ, List.set_cons_zero]; exact rfl
      case hok => kernel_rfl
      case hn => decide
      case hw => exact (Below.refl _ _).drew
      case hs =>
        refine auto_op 41 [] (by kernel_rfl) (fun y w' HW hd K hK => ?_) ?_
        · go_simp
          refine hK _ _ ?_ ?_ HW
          · simp [upd]
          · exact rfl
        refine auto_op 42 [] (by kernel_rfl) (fun y w' HW hd K hK => ?_) ?_
        · go_simp
          refine hK _ _ ?_ ?_ HW
          · simp [upd]
          · exact rfl
        refine auto_op 43 [] (by kernel_rfl) (fun y w' HW hd K hK => ?_) ?_
        · go_simp
          refine hK _ _ ?_ ?_ HW
          · simp [upd]
          · exact rfl
        refine auto_op 44 [1, 2] (by kernel_rfl) (fun y w' HW hd K hK => ?_) ?_
        · have e1 := hd_nth (hd 1 (by simp)) rfl
          have e2 := hd_nth (hd 2 (by simp)) rfl
          go_simp
          refine hK _ _ ?_ ?_ HW
          · simp [upd, e1, e2]
          · exact rfl
        refine auto_op 45 [3] (by kernel_rfl) (fun y w' HW hd K hK => ?_) ?_
        · have e3 := hd_nth (hd 3 (by simp)) rfl
          have hcl : ∀ p : Addr, p.block < wr.heap.size → w'.cell? p = wr.cell? p := fun p hp => HW.cell hp
          go_simp
          refine hK _ _ ?_ ?_ HW
          · simp [upd, e3]
          · exact rfl
        refine auto_op 46 [] (by kernel_rfl) (fun y w' HW hd K hK => ?_) ?_
        · go_simp
          refine hK _ _ ?_ ?_ HW
          · simp [upd]
          · exact rfl
        refine auto_op 47 [] (by kernel_rfl) (fun y w' HW hd K hK => ?_) ?_
        · go_simp
          refine hK _ _ ?_ ?_ HW
          · simp [upd]
          · exact rfl
        refine auto_op 48 [5, 6] (by kernel_rfl) (fun y w' HW hd K hK => ?_) ?_
        · have e5 := hd_nth (hd 5 (by simp)) rfl
          have e6 := hd_nth (hd 6 (by simp)) rfl
          go_simp
          refine hK _ _ ?_ ?_ HW
          · simp [upd, e5, e6]
          · exact rfl
        refine auto_op 49 [7] (by kernel_rfl) (fun y w' HW hd K hK => ?_) ?_
        · have e7 := hd_nth (hd 7 (by simp)) rfl
          have hcl : ∀ p : Addr, p.block < wr.heap.size → w'.cell? p = wr.cell? p := fun p hp => HW.cell hp
          go_simp
          refine hK _ _ ?_ ?_ HW
          · simp [upd, e7]
          · exact rfl
        refine auto_last fun y w' HW hd K hK => ?_
        have e0 := hd_nth (hd 0 (by omega)) rfl
        have e1 := hd_nth (hd 1 (by omega)) rfl
        have e2 := hd_nth (hd 2 (by omega)) rfl
        have e3 := hd_nth (hd 3 (by omega)) rfl
        have e4 := hd_nth (hd 4 (by omega)) rfl
        have e5 := hd_nth (hd 5 (by omega)) rfl
        have e6 := hd_nth (hd 6 (by omega)) rfl
        have e7 := hd_nth (hd 7 (by omega)) rfl
        have e8 := hd_nth (hd 8 (by omega)) rfl
        have HSD := Lib.hid (HS.out.more HW)
        go_simp
        refine (puPut ⟨kp, kq, ea, eb, ec⟩ HSD.out.p HLN.out (by decide) (by have := H3.out; omega)).mono ?_
        rintro e w3 ⟨rfl, HPA, hk3⟩
        have HS3 := Lib.hid (HSD.out.kq (Nat.le_refl _) HPA.out hk3)
        refine hK _ _ ?_
        clear hd hK K HW hk3 HPA HSD HS HLN m0 m1 m2 m3 q0 q1 q2 q3 q4 e0 e1 e2 e3 e4 e5 e6 e7 e8
        go_wp2
        go_roundw
        case rel => exact ⟨k + 1, _, by go_num, H3.out, HLP, HRP, HS3⟩
        case measure => have := H3.out; simp [intOf]; omega
    · have hout : (¬ (k : Int) < (lk : Int)) ∨ ((k : Int) < (lk : Int) ∧ ¬ (k : Int) < (le : Int)) ∨ ((k : Int) < (lk : Int) ∧ (k : Int) < (le : Int) ∧ ¬ (k : Int) < 30) := by omega
      clear hin hk HK HE
      rcases hout with f1 | ⟨f1, f2⟩ | ⟨f1, f2, f3⟩
      all_goals
        obtain ⟨n, hn⟩ : ∃ n, l.length = n := ⟨_, rfl⟩
        have HLN4 : Hid (n ≤ 4) := Lib.hid (by have := HLN.out; omega)
        have HNL := Lib.hid hn
        have HGL := Lib.hid HS.out.p.lt
        have HA := Lib.hid (puList n hn HS.out.p)
        clear hn
        go_wp2_with fail
        refine HA.out.mono ?_
        rintro e w3 ⟨⟨a1, cap1, rfl, HR1⟩, hb3⟩
        have HS3 := Lib.hid (HS.out.more hb3)
        clear hb3 HA HS
        go_wp2_with fail
        refine (puNarrow pg _ rfl HS3.out.p).mono ?_
        rintro e w4 ⟨rfl, HPA, hk4⟩
        have HS4 := Lib.hid (HS3.out.kq (Nat.le_refl _) HPA.out hk4)
        have HR4 : Hid (RcRow w4 a1 l) := Lib.hid (HR1.out.1.kq hk4 (fun y e hc => by have := HR1.out.2 y e; have := HGL.out; rw [List.mem_singleton] at hc; omega))
        have hn2 : (narL l pg).length = n := by unfold narL; rw [List.length_map]; exact HNL.out
        have HA := Lib.hid (puList n hn2 HS4.out.p)
        clear hk4 HPA HS3 HR1 hn2
        go_wp2_with fail
        refine HA.out.mono ?_
        rintro e V ⟨⟨a2, cap2, rfl, HR2⟩, hb5⟩
        have HS5 := Lib.hid (HS4.out.more hb5)
        have HRA := Lib.hid (HR4.out.more hb5)
        have HRB := Lib.hid HR2.out.1
        clear hb5 HA HS4 HR4 HR2
        have hn40 : (n : Int) ≤ 4 := by have := HLN4.out; omega
        go_wp2
        go_loopw [12, 13] (fun c j wr => ∃ i : Nat, i ≤ n ∧ c = .int .i64 ((l.take i).countP (fun x => x.ep == pg) : Nat) ∧ j = .int .i64 i ∧ Hid (Below V.heap.size V wr)) (fun _ j _ => n - (intOf j).toNat)
        case atStart => exact ⟨0, Nat.zero_le _, rfl, rfl, Lib.hid (Below.refl _ _)⟩
        case round =>
          obtain ⟨i, hi, rfl, rfl, HB⟩ := hrel
          obtain ⟨m, hm⟩ : ∃ m, (l.take i).countP (fun x => x.ep == pg) = m := ⟨_, rfl⟩
          have HMC := Lib.hid hm
          rw [hm]
          have hmi : m ≤ i := by have := List.countP_le_length (p := fun x : Rc => x.ep == pg) (l := l.take i); rw [List.length_take] at this; omega
          clear hm
          by_cases hin : i < n
          · have hx : l[i]? = some (l[i]'(by rw [HNL.out]; exact hin)) := List.getElem?_eq_getElem _
            obtain ⟨x, hxx⟩ : ∃ x, l[i]'(by rw [HNL.out]; exact hin) = x := ⟨_, rfl⟩
            rw [hxx] at hx
            have hx2 : (narL l pg)[i]? = some (narX pg x) := by unfold narL; rw [List.getElem?_map, hx]; rfl
            have hrg := HRG.out x (List.mem_of_getElem? hx)
            obtain ⟨y1, rfl, hyb1, c0, c1, c2, c3, c4⟩ := (HRA.out.more HB.out).at_ hx
            have f4 : (i : Int) < (n : Int) := by omega
            have f5 : (0 : Int) ≤ (i : Int) := by omega
            have g1 : (m : Int) ≤ 4 := by omega
            have g2 : (0 : Int) ≤ (m : Int) := by omega
            have HX := Lib.hid hx
            have HX2 := Lib.hid hx2
            have H3 := Lib.hid hin
            clear hx hx2 hxx hin hi hmi
            obtain ⟨kr, kp, ep, ef, er⟩ := x
            dsimp only at c0 c1 c2 c3 c4 hrg
            have HN1 : Hid (Blk (wr.alloc (.cells #[.int .i64 kr, .int .i64 kp, .int .i64 ep, .int .i64 ef, .int .i64 er] 53)) wr.heap.size 53 [.int .i64 kr, .int .i64 kp, .int .i64 ep, .int .i64 ef, .int .i64 er]) := Lib.hid (Blk.new wr _ _)
            have HB1 : Hid (Below V.heap.size V (wr.alloc (.cells #[.int .i64 kr, .int .i64 kp, .int .i64 ep, .int .i64 ef, .int .i64 er] 53))) := Lib.hid (HB.out.alloc HB.out.size _)
            have HXB : Hid (V.heap.size ≤ wr.heap.size) := Lib.hid HB.out.size
            go_upto_region 18 with fail
            generalize wr.alloc (.cells #[.int .i64 kr, .int .i64 kp, .int .i64 ep, .int .i64 ef, .int .i64 er] 53) = V1 at HN1 HB1 ⊢
            generalize wr.heap.size = xb at HN1 HXB ⊢
            have x0 := HN1.out.cell (j := 0) rfl
            have x1 := HN1.out.cell (j := 1) rfl
            have x2 := HN1.out.cell (j := 2) rfl
            have x3 := HN1.out.cell (j := 3) rfl
            have x4 := HN1.out.cell (j := 4) rfl
            have xl := HN1.out.lt
            clear c0 c1 c2 c3 c4 hyb1
            cases hep : (ep == pg)
            rotate_left
            · have hnx : narX pg (⟨kr, kp, ep, ef, er⟩ : Rc) = ⟨kr, kp, ep, ef, bits .andNot .i64 er 2⟩ := nar_eq hep hrg
              have HCN : Hid ((l.take (i + 1)).countP (fun x => x.ep == pg) = m + 1) := Lib.hid (by
                rw [List.take_add_one, HX.out, List.countP_append, HMC.out]
                simp [hep])
              obtain ⟨er2, her2⟩ : ∃ z, bits .andNot .i64 er 2 = z := ⟨_, rfl⟩
              rw [her2] at hnx
              have HNX := Lib.hid hnx
              clear hnx hrg
              have xf := HN1.out.frozen 4
              have HN2 : Hid (Blk (V1.setCell ⟨xb, 4, none⟩ (.int .i64 er2)) xb 53 [.int .i64 kr, .int .i64 kp, .int .i64 ep, .int .i64 ef, .int .i64 er2]) := Lib.hid (HN1.out.set 4 (.int .i64 er2))
              have HB2 : Hid (Below V.heap.size V (V1.setCell ⟨xb, 4, none⟩ (.int .i64 er2))) := Lib.hid (HB1.out.setCell (p := ⟨xb, 4, none⟩) HXB.out _)
              go_upto_region 21 with fail
              generalize V1.setCell ⟨xb, 4, none⟩ (.int .i64 er2) = V2 at HN2 HB2 ⊢
              clear x0 x1 x2 x3 x4 xl xf hep her2
              obtain ⟨y3, rfl, hyb, d0, d1, d2, d3, d4⟩ := (HRB.out.more HB2.out).at_ HX2.out
              rw [HNX.out] at d0 d1 d2 d3 d4
              dsimp only at d0 d1 d2 d3 d4
              have x0 := HN2.out.cell (j := 0) rfl
              have x1 := HN2.out.cell (j := 1) rfl
              have x2 := HN2.out.cell (j := 2) rfl
              have x3 := HN2.out.cell (j := 3) rfl
              have x4 := HN2.out.cell (j := 4) rfl
              have xl := HN2.out.lt
              go_quiet (fail)
              have HB9 := Lib.hid (below_drewN HB2.out nq)
              go_wp2
              go_roundw
              case rel => exact ⟨i + 1, by have := H3.out; omega, by first | (rw [HCN.out]; done) | (rw [HCN.out]; go_num), by go_num, HB9⟩
              case measure => have := H3.out; simp [intOf]; omega
            · have hnx : narX pg (⟨kr, kp, ep, ef, er⟩ : Rc) = ⟨kr, kp, ep, ef, er⟩ := nar_ne hep
              have HCN : Hid ((l.take (i + 1)).countP (fun x => x.ep == pg) = m) := Lib.hid (by
                rw [List.take_add_one, HX.out, List.countP_append, HMC.out]
                simp [hep])
              have HNX := Lib.hid hnx
              clear hnx hrg
              go_upto_region 21 with fail
              clear hep
              obtain ⟨y3, rfl, hyb, d0, d1, d2, d3, d4⟩ := (HRB.out.more HB1.out).at_ HX2.out
              rw [HNX.out] at d0 d1 d2 d3 d4
              dsimp only at d0 d1 d2 d3 d4
              go_quiet (fail)
              have HB9 := Lib.hid (below_drewN HB1.out nq)
              go_wp2
              go_roundw
              case rel => exact ⟨i + 1, by have := H3.out; omega, by first | (rw [HCN.out]; done) | (rw [HCN.out]; go_num), by go_num, HB9⟩
              case measure => have := H3.out; simp [intOf]; omega
          · have f4 : ¬ (i : Int) < (n : Int) := by omega
            obtain rfl : i = n := by omega
            have HM : Hid ((narL l pg).countP (fun x => x.ep == pg) = m) := Lib.hid (by
              rw [nar_count]
              have := HMC.out
              rwa [← HNL.out, List.take_length] at this)
            have HS6 := Lib.hid (HS5.out.more HB.out)
            clear hin hi HS5 HRA HRB HMC HB HRG
            obtain ⟨q1, q2⟩ := nar_again (pg := pg) l
            obtain ⟨q3, q4, q5⟩ := gone_lens _ m HM.out
            have hn2 : (narL l pg).length = i := by unfold narL; rw [List.length_map]; exact HNL.out
            rw [hn2] at q4 q5
            obtain ⟨k2, hk2⟩ : ∃ k2 : Nat, (goneL (narL l pg) pg).length = k2 := ⟨_, rfl⟩
            have g1 : (i : Int) - (m : Int) = (k2 : Int) := by omega
            have g2 : (m : Int) ≤ 4 := by omega
            have HQ2 := Lib.hid q2
            have HQ3 := Lib.hid q3
            have HK2 := Lib.hid hk2
            have HQ6 : Hid (((goneL (narL l pg) pg).length : Int) - ((goneL (goneL (narL l pg) pg) pg).length : Int) = 0) := Lib.hid (by rw [gone_again]; omega)
            have HNW := Lib.hid (puNarrow pg 0 q1 HS6.out.p)
            clear q1 q2 q3 q4 q5 hn2 hk2 HM HNL hmi
            go_wp2_with fail
            refine HNW.out.mono ?_
            rintro e w7 ⟨rfl, HPA, hk7⟩
            rw [HQ2.out] at HPA
            have HS7 := Lib.hid (HS6.out.kq (Nat.le_refl _) HPA.out hk7)
            clear HPA hk7 HS6 HNW
            go_wp2_with fail
            refine (puGone pg m HQ3.out HS7.out.p).mono ?_
            rintro e w8 ⟨rfl, HPA, hk8⟩
            have HS8 := Lib.hid (HS7.out.kq (Nat.le_refl _) HPA.out hk8)
            clear HPA hk8 HS7
            go_wp2_with fail
            refine (puLen k2 HK2.out HS8.out.p).mono ?_
            rintro e w9 ⟨rfl, rfl⟩
            go_wp2_with fail
            refine (puGone pg 0 HQ6.out HS8.out.p).mono ?_
            rintro e w10 ⟨rfl, HPA, hk10⟩
            have HS10 := Lib.hid (HS8.out.kq (Nat.le_refl _) HPA.out hk10)
            clear HPA hk10 HS8
            go_wp2_with fail
            refine (awake18 w10).mono ?_
            rintro e w11 ⟨rfl, hb⟩
            have HB11 := Lib.hid (HS10.out.b.trans (hb.mono HS10.out.b.size))
            clear hb HS10
            go_wp2
            go_ret
            exact ⟨rfl, HB11.out⟩
end Go.Proofs.Ytgcpcffgpokbfaa.Sb
