/- hermitagelaw18: StlbRoom. -/
import Derived.Test.YtgcpcffgpokbfaaBp
namespace Go.Proofs.Ytgcpcffgpokbfaa.Sb
open Go.RowKit Ut Hg
set_option maxRecDepth 100000
set_option linter.unusedVariables false
set_option maxHeartbeats 8000000

/-- what a round does to the list -/
theorem room_round (n : Nat) (l : List Rc) (hl : (l.length : Int) ≤ n) (x : Rc) : ∃ (l1 l2 : List Rc) (o : Option Rc) (t : Bool), putL n l x = l1 ∧ (l1.length : Int) ≤ n ∧ findL l1 x.kr x.kp = o ∧ o.isSome = t ∧ decide (0 < n) = t ∧ (t = true → entF o = (x.ep, x.ef, x.er)) ∧ getL l1 x.kr x.kp = l2 ∧ (l2.length : Int) ≤ n ∧ (findL l2 x.kr x.kp).isSome = t ∧ findL (withoutL l2 x.kr x.kp) x.kr x.kp = none ∧ ((withoutL l2 x.kr x.kp).length : Int) ≤ n := by
  have h1 := put_len (x := x) (by omega) hl
  have h2 := get_len (l := putL n l x) (p := x.kr) (q := x.kp)
  have h3 := without_len (getL (putL n l x) x.kr x.kp) x.kr x.kp
  have h4 := get_find (l := putL n l x) (p := x.kr) (q := x.kp)
  refine ⟨_, _, _, _, rfl, h1, rfl, rfl, ?_, fun ht => ?_, rfl, by omega, h4, without_find, by omega⟩
  · by_cases hn : 0 < n
    · rw [put_find (by omega)]; simp [hn]
    · obtain rfl : n = 0 := by omega
      rw [show ((0 : Nat) : Int) = 0 from rfl, put_zero (by omega)]
      rfl
  · have hn : 0 < n := by
      rcases Nat.eq_zero_or_pos n with rfl | h
      · rw [show ((0 : Nat) : Int) = 0 from rfl, put_zero (by omega)] at ht; cases ht
      · exact h
    rw [put_find (by omega)]
    rfl

theorem room18_any (x : Nat) (hx : x < 256) (ak ae : Option Addr) (lk ck le ce : Nat) (Z : Nat → Int × Int) (Y : Nat → Int × Int × Int) (w : World) (hlk : lk ≤ 9223372036854775807) (hle : le ≤ 9223372036854775807)
    (hk : KeyRow w w.heap.size ak lk Z) (he : EntRow w w.heap.size ae le Y) :
    Calls Try.prog 4 #[.int .u8 (x : Int), .slice ak lk ck, .slice ae le ce] w fun e w' => e = .returned (.bool true) ∧ Below w.heap.size w w' := by
  obtain ⟨n, hn⟩ : ∃ n : Nat, x % 5 = n := ⟨_, rfl⟩
  have hn4 : n ≤ 4 := by omega
  have hx0 : (0 : Int) ≤ (x : Int) := by omega
  have hx1 : (x : Int) < 256 := by omega
  have hnx : (x : Int) % 5 = (n : Int) := by omega
  have HNew := Lib.hid (puNew n hn4 w)
  have HK := Lib.hid hk
  have HE := Lib.hid he
  have HN4 := Lib.hid hn4
  clear hk he hn
  go_enter Try.func4, Try.ntmps4
  go_wp2_with fail
  refine HNew.out.mono ?_
  rintro e w1 ⟨rfl, HP1, hb1⟩
  have HS1 : Hid (RS w w1 w.heap.size n (3 * 0) []) := Lib.hid ⟨HP1.out, hb1⟩
  clear hb1 HNew HP1 hx hx0 hx1 hnx
  go_wp2
  go_loopw [10] (fun j wr => ∃ (k : Nat) (l : List Rc), j = .int .i64 k ∧ k ≤ 60 ∧ Hid ((l.length : Int) ≤ n) ∧ Hid (RS w wr w.heap.size n (3 * k) l)) (fun j _ => 60 - (intOf j).toNat)
  case atStart => exact ⟨0, [], rfl, by omega, Lib.hid (by simp), HS1⟩
  case round =>
    clear HS1
    obtain ⟨k, l, rfl, hk, HLN, HS⟩ := hrel
    by_cases hin : k < lk ∧ k < le ∧ k < 60
    · obtain ⟨h0, h1, h2⟩ := hin
      obtain ⟨kk, rfl, hyc⟩ := key_on HK.out h0
      obtain ⟨ee, rfl, hvc⟩ := ent_on HE.out h1
      have HYC := Lib.hid hyc
      have HVC := Lib.hid hvc
      have f0 : (k : Int) < (lk : Int) := by omega
      have f1 : (k : Int) < (le : Int) := by omega
      have f2 : (k : Int) < 60 := by omega
      have f3 : (0 : Int) ≤ (k : Int) := by omega
      have H3 := Lib.hid h2
      clear hyc hvc h0 h1 h2 hk
      generalize Z k = zk at HYC
      generalize Y k = yk at HVC
      obtain ⟨kp, kq⟩ := zk
      obtain ⟨ea, eb, ec⟩ := yk
      obtain ⟨l1, l2, o, t, hp1, hl1, hfo, hot, htn, hea, hg2, hl2, hd, hf3, hl3⟩ := room_round n l HLN.out ⟨kp, kq, ea, eb, ec⟩
      dsimp only at hp1 hfo hea hg2 hd hf3 hl3
      obtain ⟨m0, m1, m2, m3⟩ := HYC.out wr HS.out.b
      obtain ⟨q0, q1, q2, q3, q4⟩ := HVC.out wr HS.out.b
      have HP1 := Lib.hid hp1
      have HL1 := Lib.hid hl1
      have HL2 := Lib.hid hl2
      have HL3 := Lib.hid hl3
      have HFO := Lib.hid hfo
      have HOT := Lib.hid hot
      have HTN := Lib.hid htn
      have HEA := Lib.hid hea
      have HG2 := Lib.hid hg2
      have HD := Lib.hid hd
      have HF3 := Lib.hid hf3
      clear hp1 hl1 hl2 hl3 hfo hot htn hea hg2 hd hf3
      dsimp only at m2 m3 q2 q3 q4
      go_upto_region 8 with fail
      apply wp_region_auto [45, 46, 47, 48, 49, 50, 51, 52, 53] [_, _, _, _, _, _, _, _, _] (fun W' => Below wr.heap.size wr W')
      case hm => kernel_rfl
      case hT => intro y; simp only [setAll, List.setIfInBounds_toArray, List.set_cons_succ, List.set_cons_zero]; exact rfl
      case hok => kernel_rfl
      case hn => decide
      case hw => exact (Below.refl _ _).drew
      case hs =>
        refine auto_op 45 [] (by kernel_rfl) (fun y w' HW hd K hK => ?_) ?_
        · go_simp
          refine hK _ _ ?_ ?_ HW
          · simp [upd]
          · exact rfl
        refine auto_op 46 [] (by kernel_rfl) (fun y w' HW hd K hK => ?_) ?_
        · go_simp
          refine hK _ _ ?_ ?_ HW
          · simp [upd]
          · exact rfl
        refine auto_op 47 [] (by kernel_rfl) (fun y w' HW hd K hK => ?_) ?_
        · go_simp
          refine hK _ _ ?_ ?_ HW
          · simp [upd]
          · exact rfl
        refine auto_op 48 [1, 2] (by kernel_rfl) (fun y w' HW hd K hK => ?_) ?_
        · have e1 := hd_nth (hd 1 (by simp)) rfl
          have e2 := hd_nth (hd 2 (by simp)) rfl
          go_simp
          refine hK _ _ ?_ ?_ HW
          · simp [upd, e1, e2]
          · exact rfl
        refine auto_op 49 [3] (by kernel_rfl) (fun y w' HW hd K hK => ?_) ?_
        · have e3 := hd_nth (hd 3 (by simp)) rfl
          have hcl : ∀ p : Addr, p.block < wr.heap.size → w'.cell? p = wr.cell? p := fun p hp => HW.cell hp
          go_simp
          refine hK _ _ ?_ ?_ HW
          · simp [upd, e3]
          · exact rfl
        refine auto_op 50 [] (by kernel_rfl) (fun y w' HW hd K hK => ?_) ?_
        · go_simp
          refine hK _ _ ?_ ?_ HW
          · simp [upd]
          · exact rfl
        refine auto_op 51 [] (by kernel_rfl) (fun y w' HW hd K hK => ?_) ?_
        · go_simp
          refine hK _ _ ?_ ?_ HW
          · simp [upd]
          · exact rfl
        refine auto_op 52 [5, 6] (by kernel_rfl) (fun y w' HW hd K hK => ?_) ?_
        · have e5 := hd_nth (hd 5 (by simp)) rfl
          have e6 := hd_nth (hd 6 (by simp)) rfl
          go_simp
          refine hK _ _ ?_ ?_ HW
          · simp [upd, e5, e6]
          · exact rfl
        refine auto_op 53 [7] (by kernel_rfl) (fun y w' HW hd K hK => ?_) ?_
        · have e7 := hd_nth (hd 7 (by simp)) rfl
          have hcl : ∀ p : Addr, p.block < wr.heap.size → w'.cell? p = wr.cell? p := fun p hp => HW.cell hp
          go_simp
          refine hK _ _ ?_ ?_ HW
          · simp [upd, e7]
          · exact rfl
        refine auto_last fun y w' HW hd K hK => ?_
        have e0 := hd_nth (hd 0 (by omega)) rfl
        have e1 := hd_nth (hd 1 (by omega)) rfl
        have e2 := hd_nth (hd 2 (by omega)) rfl
        have e3 := hd_nth (hd 3 (by omega)) rfl
        have e4 := hd_nth (hd 4 (by omega)) rfl
        have e5 := hd_nth (hd 5 (by omega)) rfl
        have e6 := hd_nth (hd 6 (by omega)) rfl
        have e7 := hd_nth (hd 7 (by omega)) rfl
        have e8 := hd_nth (hd 8 (by omega)) rfl
        have HSD := Lib.hid (HS.out.more HW)
        go_simp
        refine (puPut ⟨kp, kq, ea, eb, ec⟩ HSD.out.p HLN.out (by have := HN4.out; omega) (by have := H3.out; omega)).mono ?_
        rintro e w3 ⟨rfl, HPA, hk3⟩
        rw [HP1.out] at HPA
        have HS3 := Lib.hid (HSD.out.kq (Nat.le_refl _) HPA.out hk3)
        refine hK _ _ ?_
        clear hd hK K HW hk3 HPA HSD HS HLN HP1 m0 m1 m2 m3 q0 q1 q2 q3 q4 e0 e1 e2 e3 e4 e5 e6 e7 e8
        obtain ⟨m0, m1, m2, m3⟩ := HYC.out w3 HS3.out.b
        try dsimp only at m2 m3
        go_wp2_with fail
        refine (puGet kp kq o HFO.out HS3.out.p (by have := H3.out; omega)).mono ?_
        rintro e w4 ⟨rfl, HPA, hk4⟩
        rw [HG2.out] at HPA
        have HS4 := Lib.hid (HS3.out.kq (Nat.le_refl _) HPA.out hk4)
        clear hk4 HPA HS3 m0 m1 m2 m3
        obtain ⟨ae0, ae1, ae2, haeq⟩ : ∃ a0 a1 a2, entF o = (a0, a1, a2) := ⟨_, _, _, rfl⟩
        rw [haeq] at HEA ⊢
        rw [HOT.out]
        unfold entV
        dsimp only
        have HS5 : Hid (RS w (w4.alloc (.cells #[.int .i64 ae0, .int .i64 ae1, .int .i64 ae2] 34)) w.heap.size n (3 * k + 1 + 1) l2) := Lib.hid (HS4.out.more ((Below.refl _ _).alloc (Nat.le_refl _) _))
        have HN5 : Hid (Blk (w4.alloc (.cells #[.int .i64 ae0, .int .i64 ae1, .int .i64 ae2] 34)) w4.heap.size 34 (entC (ae0, ae1, ae2))) := Lib.hid (Blk.new w4 _ (entC (ae0, ae1, ae2)))
        clear haeq HS4
        go_upto_region 10 with fail
        generalize w4.alloc (.cells #[.int .i64 ae0, .int .i64 ae1, .int .i64 ae2] 34) = V at HS5 HN5 ⊢
        generalize w4.heap.size = eb0 at HN5 ⊢
        go_cut [84] from 64 to 84 (fun v wx => v = .bool false ∧ Hid (RS w wx w.heap.size n (3 * k + 1 + 1) l2))
        case first =>
          obtain ⟨m, hm⟩ : ∃ m, l2.length = m := ⟨_, rfl⟩
          have HLEN : Hid (∀ W', Below V.heap.size V W' → Calls Try.prog 22 #[.pointer (some ⟨w.heap.size, 0, none⟩)] W' fun e w' => e = .returned (.int .i64 m) ∧ W' = w') := Lib.hid fun W' hW => puLen m hm (HS5.out.p.more hW)
          have hmn : (m : Int) ≤ (n : Int) := by have := HL2.out; omega
          clear hm
          cases t
          · have hn0 : n = 0 := by have := HTN.out; simpa using this
            obtain rfl : m = 0 := by omega
            subst hn0
            clear hmn
            apply wp_region_auto [64, 65, 66, 67, 68, 69, 70, 71, 72, 73, 74, 75, 76, 77, 78, 79, 80, 81, 82, 83] [_, _, _, _, _, _, _, _, _, _, _, _, _, _, _, _, _, _, _, _] (fun W' => Below V.heap.size V W')
            case hm => kernel_rfl
            case hT => intro y; simp only [setAll, List.setIfInBounds_toArray, List.set_cons_succ, List.set_cons_zero]; exact rfl
            case hok => kernel_rfl
            case hn => decide
            case hw => exact (Below.refl _ _).drew
            case hs =>
              refine auto_op 64 [] (by kernel_rfl) (fun y w' HW hd K hK => ?_) ?_
              · go_simp
                refine hK _ _ ?_ ?_ HW
                · simp [upd]
                · exact rfl
              refine auto_op 65 [0] (by kernel_rfl) (fun y w' HW hd K hK => ?_) ?_
              · have e0 := hd_nth (hd 0 (by simp)) rfl
                go_simp
                refine (HLEN.out _ HW).mono ?_
                rintro e w5 ⟨rfl, rfl⟩
                refine hK _ _ ?_ ?_ HW
                · simp [upd, e0]
                · exact rfl
              refine auto_op 66 [] (by kernel_rfl) (fun y w' HW hd K hK => ?_) ?_
              · go_simp
                refine hK _ _ ?_ ?_ HW
                · simp [upd]
                · exact rfl
              refine auto_op 67 [1, 2] (by kernel_rfl) (fun y w' HW hd K hK => ?_) ?_
              · have e1 := hd_nth (hd 1 (by simp)) rfl
                have e2 := hd_nth (hd 2 (by simp)) rfl
                go_simp
                refine hK _ _ ?_ ?_ HW
                · simp [upd, e1, e2]
                · exact rfl
              refine auto_op 68 [3, 1] (by kernel_rfl) (fun y w' HW hd K hK => ?_) ?_
              · have e1 := hd_nth (hd 1 (by simp)) rfl
                have e3 := hd_nth (hd 3 (by simp)) rfl
                go_simp
                refine hK _ _ ?_ ?_ HW
                · simp [upd, e1, e3]
                · exact rfl
              refine auto_op 69 [4] (by kernel_rfl) (fun y w' HW hd K hK => ?_) ?_
              · have e4 := hd_nth (hd 4 (by simp)) rfl
                go_simp
                refine hK _ _ ?_ ?_ HW
                · simp [upd, e4]
                · exact rfl
              refine auto_op 70 [4] (by kernel_rfl) (fun y w' HW hd K hK => ?_) ?_
              · have e4 := hd_nth (hd 4 (by simp)) rfl
                go_simp
                refine hK _ _ ?_ ?_ HW
                · simp [upd, e4]
                · exact rfl
              refine auto_op 71 [6, 4] (by kernel_rfl) (fun y w' HW hd K hK => ?_) ?_
              · have e4 := hd_nth (hd 4 (by simp)) rfl
                have e6 := hd_nth (hd 6 (by simp)) rfl
                go_simp
                refine hK _ _ ?_ ?_ HW
                · simp [upd, e4, e6]
                · exact rfl
              refine auto_op 72 [5, 7, 4] (by kernel_rfl) (fun y w' HW hd K hK => ?_) ?_
              · have e4 := hd_nth (hd 4 (by simp)) rfl
                have e5 := hd_nth (hd 5 (by simp)) rfl
                have e7 := hd_nth (hd 7 (by simp)) rfl
                go_simp
                refine hK _ _ ?_ ?_ HW
                · simp [upd, e4, e5, e7]
                · exact rfl
              refine auto_op 73 [4, 8] (by kernel_rfl) (fun y w' HW hd K hK => ?_) ?_
              · have e4 := hd_nth (hd 4 (by simp)) rfl
                have e8 := hd_nth (hd 8 (by simp)) rfl
                go_simp
                refine hK _ _ ?_ ?_ HW
                · simp [upd, e4, e8]
                · exact rfl
              refine auto_op 74 [9, 4] (by kernel_rfl) (fun y w' HW hd K hK => ?_) ?_
              · have e4 := hd_nth (hd 4 (by simp)) rfl
                have e9 := hd_nth (hd 9 (by simp)) rfl
                go_simp
                refine hK _ _ ?_ ?_ HW
                · simp [upd, e4, e9]
                · exact rfl
              refine auto_op 75 [10] (by kernel_rfl) (fun y w' HW hd K hK => ?_) ?_
              · have e10 := hd_nth (hd 10 (by simp)) rfl
                go_simp
                refine hK _ _ ?_ ?_ HW
                · simp [upd, e10]
                · exact rfl
              refine auto_op 76 [11, 10, 10] (by kernel_rfl) (fun y w' HW hd K hK => ?_) ?_
              · have e10 := hd_nth (hd 10 (by simp)) rfl
                have e11 := hd_nth (hd 11 (by simp)) rfl
                go_simp
                refine hK _ _ ?_ ?_ HW
                · simp [upd, e10, e11]
                · exact rfl
              refine auto_op 77 [12] (by kernel_rfl) (fun y w' HW hd K hK => ?_) ?_
              · have e12 := hd_nth (hd 12 (by simp)) rfl
                have hcl : ∀ p : Addr, p.block < V.heap.size → w'.cell? p = V.cell? p := fun p hp => HW.cell hp
                go_simp
                refine hK _ _ ?_ ?_ HW
                · simp [upd, e12]
                · exact rfl
              refine auto_op 78 [12] (by kernel_rfl) (fun y w' HW hd K hK => ?_) ?_
              · have e12 := hd_nth (hd 12 (by simp)) rfl
                go_simp
                refine hK _ _ ?_ ?_ HW
                · simp [upd, e12]
                · exact rfl
              refine auto_op 79 [12] (by kernel_rfl) (fun y w' HW hd K hK => ?_) ?_
              · have e12 := hd_nth (hd 12 (by simp)) rfl
                go_simp
                refine hK _ _ ?_ ?_ HW
                · simp [upd, e12]
                · exact rfl
              refine auto_op 80 [14, 15, 12] (by kernel_rfl) (fun y w' HW hd K hK => ?_) ?_
              · have e12 := hd_nth (hd 12 (by simp)) rfl
                have e14 := hd_nth (hd 14 (by simp)) rfl
                have e15 := hd_nth (hd 15 (by simp)) rfl
                go_simp
                refine hK _ _ ?_ ?_ HW
                · simp [upd, e12, e14, e15]
                · exact rfl
              refine auto_op 81 [16, 12] (by kernel_rfl) (fun y w' HW hd K hK => ?_) ?_
              · have e12 := hd_nth (hd 12 (by simp)) rfl
                have e16 := hd_nth (hd 16 (by simp)) rfl
                have hcl : ∀ p : Addr, p.block < V.heap.size → w'.cell? p = V.cell? p := fun p hp => HW.cell hp
                go_simp
                refine hK _ _ ?_ ?_ HW
                · simp [upd, e12, e16]
                · exact rfl
              refine auto_op 82 [13, 17, 12] (by kernel_rfl) (fun y w' HW hd K hK => ?_) ?_
              · have e12 := hd_nth (hd 12 (by simp)) rfl
                have e13 := hd_nth (hd 13 (by simp)) rfl
                have e17 := hd_nth (hd 17 (by simp)) rfl
                go_simp
                refine hK _ _ ?_ ?_ HW
                · simp [upd, e12, e13, e17]
                · exact rfl
              refine auto_op 83 [12, 18, 10] (by kernel_rfl) (fun y w' HW hd K hK => ?_) ?_
              · have e10 := hd_nth (hd 10 (by simp)) rfl
                have e12 := hd_nth (hd 12 (by simp)) rfl
                have e18 := hd_nth (hd 18 (by simp)) rfl
                go_simp
                refine hK _ _ ?_ ?_ HW
                · simp [upd, e10, e12, e18]
                · exact rfl
              refine auto_last fun y w' HW hd K hK => ?_
              have e0 := hd_nth (hd 0 (by omega)) rfl
              have e1 := hd_nth (hd 1 (by omega)) rfl
              have e2 := hd_nth (hd 2 (by omega)) rfl
              have e3 := hd_nth (hd 3 (by omega)) rfl
              have e4 := hd_nth (hd 4 (by omega)) rfl
              have e5 := hd_nth (hd 5 (by omega)) rfl
              have e6 := hd_nth (hd 6 (by omega)) rfl
              have e7 := hd_nth (hd 7 (by omega)) rfl
              have e8 := hd_nth (hd 8 (by omega)) rfl
              have e9 := hd_nth (hd 9 (by omega)) rfl
              have e10 := hd_nth (hd 10 (by omega)) rfl
              have e11 := hd_nth (hd 11 (by omega)) rfl
              have e12 := hd_nth (hd 12 (by omega)) rfl
              have e13 := hd_nth (hd 13 (by omega)) rfl
              have e14 := hd_nth (hd 14 (by omega)) rfl
              have e15 := hd_nth (hd 15 (by omega)) rfl
              have e16 := hd_nth (hd 16 (by omega)) rfl
              have e17 := hd_nth (hd 17 (by omega)) rfl
              have e18 := hd_nth (hd 18 (by omega)) rfl
              have e19 := hd_nth (hd 19 (by omega)) rfl
              go_simp
              refine hK _ _ ?_
              clear hd hK K e0 e1 e2 e3 e4 e5 e6 e7 e8 e9 e10 e11 e12 e13 e14 e15 e16 e17 e18 e19
              have HS6 := Lib.hid (HS5.out.more HW)
              clear HW
              go_wp2
              go_meet
              exact ⟨rfl, HS6⟩
          · have f4 : (0 : Int) < (n : Int) := by have := HTN.out; simp at this; omega
            have f5 : ¬ (n : Int) < (m : Int) := by omega
            have f6 : 0 < n := by omega
            have f7 : ¬ n < m := by omega
            have hea := HEA.out rfl
            injection hea with g0 g1
            injection g1 with g1 g2
            subst g0 g1 g2
            obtain ⟨q0, q1, q2, q3, q4⟩ := HVC.out V HS5.out.b
            try dsimp only at q2 q3 q4
            have r0 := HN5.out.cell (j := 0) rfl
            have r1 := HN5.out.cell (j := 1) rfl
            have r2 := HN5.out.cell (j := 2) rfl
            have rl := HN5.out.lt
            clear hmn
            apply wp_region_auto [64, 65, 66, 67, 68, 69, 70, 71, 72, 73, 74, 75, 76, 77, 78, 79, 80, 81, 82, 83] [_, _, _, _, _, _, _, _, _, _, _, _, _, _, _, _, _, _, _, _] (fun W' => Below V.heap.size V W')
            case hm => kernel_rfl
            case hT => intro y; simp only [setAll, List.setIfInBounds_toArray, List.set_cons_succ, List.set_cons_zero]; exact rfl
            case hok => kernel_rfl
            case hn => decide
            case hw => exact (Below.refl _ _).drew
            case hs =>
              refine auto_op 64 [] (by kernel_rfl) (fun y w' HW hd K hK => ?_) ?_
              · go_simp
                refine hK _ _ ?_ ?_ HW
                · simp [upd]
                · exact rfl
              refine auto_op 65 [0] (by kernel_rfl) (fun y w' HW hd K hK => ?_) ?_
              · have e0 := hd_nth (hd 0 (by simp)) rfl
                go_simp
                refine (HLEN.out _ HW).mono ?_
                rintro e w5 ⟨rfl, rfl⟩
                refine hK _ _ ?_ ?_ HW
                · simp [upd, e0]
                · exact rfl
              refine auto_op 66 [] (by kernel_rfl) (fun y w' HW hd K hK => ?_) ?_
              · go_simp
                refine hK _ _ ?_ ?_ HW
                · simp [upd]
                · exact rfl
              refine auto_op 67 [1, 2] (by kernel_rfl) (fun y w' HW hd K hK => ?_) ?_
              · have e1 := hd_nth (hd 1 (by simp)) rfl
                have e2 := hd_nth (hd 2 (by simp)) rfl
                go_simp
                refine hK _ _ ?_ ?_ HW
                · simp [upd, e1, e2]
                · exact rfl
              refine auto_op 68 [3, 1] (by kernel_rfl) (fun y w' HW hd K hK => ?_) ?_
              · have e1 := hd_nth (hd 1 (by simp)) rfl
                have e3 := hd_nth (hd 3 (by simp)) rfl
                go_simp
                refine hK _ _ ?_ ?_ HW
                · simp [upd, e1, e3]
                · exact rfl
              refine auto_op 69 [4] (by kernel_rfl) (fun y w' HW hd K hK => ?_) ?_
              · have e4 := hd_nth (hd 4 (by simp)) rfl
                go_simp
                refine hK _ _ ?_ ?_ HW
                · simp [upd, e4]
                · exact rfl
              refine auto_op 70 [4] (by kernel_rfl) (fun y w' HW hd K hK => ?_) ?_
              · have e4 := hd_nth (hd 4 (by simp)) rfl
                go_simp
                refine hK _ _ ?_ ?_ HW
                · simp [upd, e4]
                · exact rfl
              refine auto_op 71 [6, 4] (by kernel_rfl) (fun y w' HW hd K hK => ?_) ?_
              · have e4 := hd_nth (hd 4 (by simp)) rfl
                have e6 := hd_nth (hd 6 (by simp)) rfl
                go_simp
                refine hK _ _ ?_ ?_ HW
                · simp [upd, e4, e6]
                · exact rfl
              refine auto_op 72 [5, 7, 4] (by kernel_rfl) (fun y w' HW hd K hK => ?_) ?_
              · have e4 := hd_nth (hd 4 (by simp)) rfl
                have e5 := hd_nth (hd 5 (by simp)) rfl
                have e7 := hd_nth (hd 7 (by simp)) rfl
                go_simp
                refine hK _ _ ?_ ?_ HW
                · simp [upd, e4, e5, e7]
                · exact rfl
              refine auto_op 73 [4, 8] (by kernel_rfl) (fun y w' HW hd K hK => ?_) ?_
              · have e4 := hd_nth (hd 4 (by simp)) rfl
                have e8 := hd_nth (hd 8 (by simp)) rfl
                go_simp
                refine hK _ _ ?_ ?_ HW
                · simp [upd, e4, e8]
                · exact rfl
              refine auto_op 74 [9, 4] (by kernel_rfl) (fun y w' HW hd K hK => ?_) ?_
              · have e4 := hd_nth (hd 4 (by simp)) rfl
                have e9 := hd_nth (hd 9 (by simp)) rfl
                go_simp
                refine hK _ _ ?_ ?_ HW
                · simp [upd, e4, e9]
                · exact rfl
              refine auto_op 75 [10] (by kernel_rfl) (fun y w' HW hd K hK => ?_) ?_
              · have e10 := hd_nth (hd 10 (by simp)) rfl
                go_simp
                refine hK _ _ ?_ ?_ HW
                · simp [upd, e10]
                · exact rfl
              refine auto_op 76 [11, 10, 10] (by kernel_rfl) (fun y w' HW hd K hK => ?_) ?_
              · have e10 := hd_nth (hd 10 (by simp)) rfl
                have e11 := hd_nth (hd 11 (by simp)) rfl
                go_simp
                refine hK _ _ ?_ ?_ HW
                · simp [upd, e10, e11]
                · exact rfl
              refine auto_op 77 [12] (by kernel_rfl) (fun y w' HW hd K hK => ?_) ?_
              · have e12 := hd_nth (hd 12 (by simp)) rfl
                have hcl : ∀ p : Addr, p.block < V.heap.size → w'.cell? p = V.cell? p := fun p hp => HW.cell hp
                go_simp
                refine hK _ _ ?_ ?_ HW
                · simp [upd, e12]
                · exact rfl
              refine auto_op 78 [12] (by kernel_rfl) (fun y w' HW hd K hK => ?_) ?_
              · have e12 := hd_nth (hd 12 (by simp)) rfl
                go_simp
                refine hK _ _ ?_ ?_ HW
                · simp [upd, e12]
                · exact rfl
              refine auto_op 79 [12] (by kernel_rfl) (fun y w' HW hd K hK => ?_) ?_
              · have e12 := hd_nth (hd 12 (by simp)) rfl
                go_simp
                refine hK _ _ ?_ ?_ HW
                · simp [upd, e12]
                · exact rfl
              refine auto_op 80 [14, 15, 12] (by kernel_rfl) (fun y w' HW hd K hK => ?_) ?_
              · have e12 := hd_nth (hd 12 (by simp)) rfl
                have e14 := hd_nth (hd 14 (by simp)) rfl
                have e15 := hd_nth (hd 15 (by simp)) rfl
                go_simp
                refine hK _ _ ?_ ?_ HW
                · simp [upd, e12, e14, e15]
                · exact rfl
              refine auto_op 81 [16, 12] (by kernel_rfl) (fun y w' HW hd K hK => ?_) ?_
              · have e12 := hd_nth (hd 12 (by simp)) rfl
                have e16 := hd_nth (hd 16 (by simp)) rfl
                have hcl : ∀ p : Addr, p.block < V.heap.size → w'.cell? p = V.cell? p := fun p hp => HW.cell hp
                go_simp
                refine hK _ _ ?_ ?_ HW
                · simp [upd, e12, e16]
                · exact rfl
              refine auto_op 82 [13, 17, 12] (by kernel_rfl) (fun y w' HW hd K hK => ?_) ?_
              · have e12 := hd_nth (hd 12 (by simp)) rfl
                have e13 := hd_nth (hd 13 (by simp)) rfl
                have e17 := hd_nth (hd 17 (by simp)) rfl
                go_simp
                refine hK _ _ ?_ ?_ HW
                · simp [upd, e12, e13, e17]
                · exact rfl
              refine auto_op 83 [12, 18, 10] (by kernel_rfl) (fun y w' HW hd K hK => ?_) ?_
              · have e10 := hd_nth (hd 10 (by simp)) rfl
                have e12 := hd_nth (hd 12 (by simp)) rfl
                have e18 := hd_nth (hd 18 (by simp)) rfl
                go_simp
                refine hK _ _ ?_ ?_ HW
                · simp [upd, e10, e12, e18]
                · exact rfl
              refine auto_last fun y w' HW hd K hK => ?_
              have e0 := hd_nth (hd 0 (by omega)) rfl
              have e1 := hd_nth (hd 1 (by omega)) rfl
              have e2 := hd_nth (hd 2 (by omega)) rfl
              have e3 := hd_nth (hd 3 (by omega)) rfl
              have e4 := hd_nth (hd 4 (by omega)) rfl
              have e5 := hd_nth (hd 5 (by omega)) rfl
              have e6 := hd_nth (hd 6 (by omega)) rfl
              have e7 := hd_nth (hd 7 (by omega)) rfl
              have e8 := hd_nth (hd 8 (by omega)) rfl
              have e9 := hd_nth (hd 9 (by omega)) rfl
              have e10 := hd_nth (hd 10 (by omega)) rfl
              have e11 := hd_nth (hd 11 (by omega)) rfl
              have e12 := hd_nth (hd 12 (by omega)) rfl
              have e13 := hd_nth (hd 13 (by omega)) rfl
              have e14 := hd_nth (hd 14 (by omega)) rfl
              have e15 := hd_nth (hd 15 (by omega)) rfl
              have e16 := hd_nth (hd 16 (by omega)) rfl
              have e17 := hd_nth (hd 17 (by omega)) rfl
              have e18 := hd_nth (hd 18 (by omega)) rfl
              have e19 := hd_nth (hd 19 (by omega)) rfl
              go_simp
              refine hK _ _ ?_
              clear hd hK K e0 e1 e2 e3 e4 e5 e6 e7 e8 e9 e10 e11 e12 e13 e14 e15 e16 e17 e18 e19
              have HS6 := Lib.hid (HS5.out.more HW)
              clear HW
              go_wp2
              go_meet
              exact ⟨rfl, HS6⟩
        case rest =>
          clear HS5 HN5 HEA HVC
          obtain ⟨rfl, HS6⟩ := hcut
          obtain ⟨m0, m1, m2, m3⟩ := HYC.out wc HS6.out.b
          try dsimp only at m2 m3
          by_cases hm : k % 4 = 3
          · have g0 : ((k : Int) % 4 == 3) = true := by simp; omega
            clear hm
            go_wp2_with fail
            refine (puDrop kp kq t HD.out HS6.out.p).mono ?_
            rintro e w7 ⟨rfl, HPA, hk7⟩
            have HS7 := Lib.hid (HS6.out.kq (Nat.le_refl _) HPA.out hk7)
            clear hk7 HPA HS6 m0 m1 m2 m3
            obtain ⟨m0, m1, m2, m3⟩ := HYC.out w7 HS7.out.b
            try dsimp only at m2 m3
            go_wp2_with fail
            refine (puGet kp kq none HF3.out HS7.out.p (by have := H3.out; omega)).mono ?_
            rintro e w8 ⟨rfl, HPA, hk8⟩
            rw [get_none' HF3.out] at HPA
            have HS8 := Lib.hid (HS7.out.kq (Nat.le_refl _) HPA.out hk8)
            unfold entF entV
            dsimp only
            have HS9 : Hid (RS w (w8.alloc (.cells #[.int .i64 0, .int .i64 0, .int .i64 0] 34)) w.heap.size n (3 * (k + 1)) (withoutL l2 kp kq)) := Lib.hid ((HS8.out.more ((Below.refl _ _).alloc (Nat.le_refl _) _)).le (by omega))
            clear hk8 HPA HS7 HS8 m0 m1 m2 m3
            go_wp2
            go_roundw
            case rel => exact ⟨k + 1, withoutL l2 kp kq, by go_num, H3.out, HL3, HS9⟩
            case measure => have := H3.out; simp [intOf]; omega
          · have g0 : ((k : Int) % 4 == 3) = false := by simp; omega
            clear hm
            have HS9 : Hid (RS w wc w.heap.size n (3 * (k + 1)) l2) := Lib.hid (HS6.out.le (by omega))
            go_wp2
            go_roundw
            case rel => exact ⟨k + 1, l2, by go_num, H3.out, HL2, HS9⟩
            case measure => have := H3.out; simp [intOf]; omega
    · have hout : (¬ (k : Int) < (lk : Int)) ∨ ((k : Int) < (lk : Int) ∧ ¬ (k : Int) < (le : Int)) ∨ ((k : Int) < (lk : Int) ∧ (k : Int) < (le : Int) ∧ ¬ (k : Int) < 60) := by omega
      have HB := Lib.hid HS.out.b
      rcases hout with f1 | ⟨f1, f2⟩ | ⟨f1, f2, f3⟩
      all_goals
        clear hin hk HK HE HS HLN
        go_wp2_with fail
        refine (awake18 wr).mono ?_
        rintro e w6 ⟨rfl, hb⟩
        have HB6 := Lib.hid (HB.out.trans (hb.mono HB.out.size))
        clear hb
        go_wp2
        go_ret
        exact ⟨rfl, HB6.out⟩
end Go.Proofs.Ytgcpcffgpokbfaa.Sb
