/- hermitagelaw10: awake, words; the walk of AsmList. -/
import Derived.Test.YtfdekfobcohcjaaDoorQk
import Derived.Laws.StructEq
namespace Go.Proofs.YtfdekfobcohcjaaDoor.As
open Go.RowKit Ut Is Pl
set_option linter.unusedVariables false
set_option maxRecDepth 100000
set_option maxHeartbeats 8000000

theorem one_dec : Lib.decDigits 1 = [49] ∧ Lib.decDigits 2 = [50] := ⟨dec_low 1 (by omega), dec_low 2 (by omega)⟩
theorem told_text : txS 14 1 2 0 (-1) = ⟨#[97, 100, 100, 105, 32, 114, 49, 32, 114, 50, 32, 45, 49]⟩ ∧ txE 14 1 2 0 (-1) = 0 := by
  have hv : validB 14 1 2 0 (-1) = true := by decide +kernel
  unfold txS txE
  rw [if_pos hv, if_pos hv]
  refine ⟨?_, rfl⟩
  have e1 : Lib.itoa 1 = [49] := (itoa_nn 1).trans one_dec.1
  have e2 : Lib.itoa 2 = [50] := (itoa_nn 2).trans one_dec.2
  have e3 : Lib.itoa (-1) = [45, 49] := (itoa_ng 1 (by omega)).trans (by rw [one_dec.1])
  have hp : partsN 14 = [(1, [114]), (2, [114]), (4, [])] := by decide +kernel
  have hn : nameAt 14 = [97, 100, 100, 105] := by decide +kernel
  show tb (textL 14 1 2 0 (-1)) = _
  unfold textL joinB
  rw [hp, hn]
  simp only [List.map_cons, List.map_nil, wordP, fld]
  simp only [if_true, Nat.reduceEqDiff, if_false, e1, e2, e3]
  rfl
theorem halt_list : listL [40] = [104, 97, 108, 116, 10] := by
  have hd : decT 40 = true := by decide +kernel
  have hp : partsN 40 = [] := by decide +kernel
  have hn : nameAt 40 = [104, 97, 108, 116] := by decide +kernel
  unfold listL wText
  simp only [List.map_cons, List.map_nil, hd, if_true]
  show ([textL 40 (wD 40) (wA 40) (wB 40) (immZ 40) ++ [10]] : List (List UInt8)).flatten = _
  unfold textL joinB
  rw [hp, hn]
  rfl
theorem halt_prog : progW [104, 97, 108, 116, 10] = [40] ∧ progE [104, 97, 108, 116, 10] = 0 ∧ progN [104, 97, 108, 116, 10] = 0 := by
  have := prog_list [40] (by simp) (by simp)
  rw [halt_list] at this
  exact this
theorem awake_any (w : World) (hw : Held w) :
    Calls Tryd.prog 9 #[] w fun e w' => e = .returned (.bool true) ∧ Below w.heap.size w w' := by
  have h1 := text_any 14 1 2 0 (-1) w hw
  rw [told_text.1, told_text.2] at h1
  have h2 := fun W hW => program_any ⟨#[104, 97, 108, 116, 10]⟩ (by decide) W hW
  have H1 := Lib.hid h1
  have H2 := Lib.hid h2
  have HW := Lib.hid hw
  obtain ⟨p1, p2, p3⟩ := halt_prog
  have HP1 := Lib.hid p1
  have HP2 := Lib.hid p2
  have HP3 := Lib.hid p3
  have hcmp : ((⟨#[97, 100, 100, 105, 32, 114, 49, 32, 114, 50, 32, 45, 49]⟩ : ByteArray).toList == (⟨#[97, 100, 100, 105, 32, 114, 49, 32, 114, 50, 32, 45, 49]⟩ : ByteArray).toList) = true := beq_self_eq_true _
  clear h1 h2 hw p1 p2 p3
  go_enter Tryd.func9, Tryd.ntmps9
  go_wp2_with fail
  refine H1.out.mono ?_
  rintro e w1 ⟨rfl, hb1⟩
  have HB1 := Lib.hid hb1
  clear hb1
  go_wp2_with fail
  refine (H2.out _ (HW.out.more HB1.out)).mono ?_
  rintro e w2 ⟨a, n, c, rfl, hrow, hn, hb2⟩
  have HB2 := Lib.hid (HB1.out.trans (hb2.mono HB1.out.size))
  have hrow2 : RowK .u32 w2 w2.heap.size a n [40] := by
    have e : progW (⟨#[104, 97, 108, 116, 10]⟩ : ByteArray).data.toList = [40] := HP1.out
    rwa [e] at hrow
  have hn1 : n = 1 := hrow2.1.symm
  subst hn1
  obtain ⟨x, rfl, hx, hc⟩ := hrow2.2 0 (by omega)
  have hc2 : w2.cell? x = some (.int .u32 40) := (congrArg w2.cell? (addr_zero x).symm).trans hc
  have hpe : progE (⟨#[104, 97, 108, 116, 10]⟩ : ByteArray).data.toList = 0 := HP2.out
  have hpn : progN (⟨#[104, 97, 108, 116, 10]⟩ : ByteArray).data.toList = 0 := HP3.out
  rw [hpe, hpn]
  clear hb2 hrow hrow2 hc hpe hpn hn
  go_wp2
  go_ret
  exact ⟨rfl, HB2.out⟩
theorem words_any (a1 a2 : Option Addr) (n c1 c2 : Nat) (zs : List Int) (hn : n ≤ 9223372036854775806) (w : World) (h1 : RowK .u32 w w.heap.size a1 n zs) (h2 : RowK .u32 w w.heap.size a2 n zs) :
    Calls Tryd.prog 16 #[.slice a1 n c1, .slice a2 n c2] w fun e w' => e = .returned (.bool true) ∧ Below w.heap.size w w' := by
  have H1 := Lib.hid h1
  have H2 := Lib.hid h2
  clear h1 h2
  go_enter Tryd.func16, Tryd.ntmps16
  go_wp2
  go_loopw [5] (fun i wr => ∃ k : Nat, k ≤ n ∧ i = .int .i64 k ∧ Below w.heap.size w wr) (fun i _ => n - (intOf i).toNat)
  case atStart => exact ⟨0, Nat.zero_le _, rfl, Below.refl _ _⟩
  case round =>
    obtain ⟨k, hk, rfl, hb⟩ := hrel
    by_cases hlt : k < n
    · obtain ⟨x, rfl, hx, hc⟩ := (H1.out.below hb).2 k hlt
      obtain ⟨v, rfl, hv, hvd⟩ := (H2.out.below hb).2 k hlt
      generalize zs.getD k 0 = z at hc hvd
      have hxl : (x.add k).block < wr.heap.size := by rw [block_of_add]; exact Nat.lt_of_lt_of_le hx hb.size
      have hyl : (v.add k).block < wr.heap.size := by rw [block_of_add]; exact Nat.lt_of_lt_of_le hv hb.size
      have hki : decide ((k : Int) < (n : Int)) = true := decide_eq_true (by omega)
      have hzz : (z != z) = false := by simp
      have hzz2 : (z == z) = true := by simp
      have HB := Lib.hid hb
      clear hb
      go_wp2
      apply wp_region_auto [23, 24, 25, 26, 27, 28, 29, 30] [_, _, _, _, _, _, _, _] (fun W' => Below wr.heap.size wr W')
      case hm => kernel_rfl
      case hT => intro y; simp only [setAll, List.setIfInBounds_toArray, List.set_cons_succ, List.set_cons_zero]; exact rfl
      case hok => kernel_rfl
      case hn => decide
      case hw => exact (Below.refl _ _).drew
      case hs =>
        refine auto_op 23 [] (by kernel_rfl) (fun y w' HW hd K hK => ?_) ?_
        · go_simp
          refine hK _ _ ?_ ?_ HW
          · simp [upd]
          · exact rfl
        refine auto_op 24 [] (by kernel_rfl) (fun y w' HW hd K hK => ?_) ?_
        · go_simp
          refine hK _ _ ?_ ?_ HW
          · simp [upd]
          · exact rfl
        refine auto_op 25 [0, 1] (by kernel_rfl) (fun y w' HW hd K hK => ?_) ?_
        · have e0 := hd_nth (hd 0 (by simp)) rfl
          have e1 := hd_nth (hd 1 (by simp)) rfl
          go_simp
          refine hK _ _ ?_ ?_ HW
          · simp [upd, e0, e1]
          · exact rfl
        refine auto_op 26 [2] (by kernel_rfl) (fun y w' HW hd K hK => ?_) ?_
        · have e2 := hd_nth (hd 2 (by simp)) rfl
          have hcl : ∀ p : Addr, p.block < wr.heap.size → w'.cell? p = wr.cell? p := fun p hp => HW.cell hp
          go_simp
          refine hK _ _ ?_ ?_ HW
          · simp [upd, e2]
          · exact rfl
        refine auto_op 27 [] (by kernel_rfl) (fun y w' HW hd K hK => ?_) ?_
        · go_simp
          refine hK _ _ ?_ ?_ HW
          · simp [upd]
          · exact rfl
        refine auto_op 28 [] (by kernel_rfl) (fun y w' HW hd K hK => ?_) ?_
        · go_simp
          refine hK _ _ ?_ ?_ HW
          · simp [upd]
          · exact rfl
        refine auto_op 29 [4, 5] (by kernel_rfl) (fun y w' HW hd K hK => ?_) ?_
        · have e4 := hd_nth (hd 4 (by simp)) rfl
          have e5 := hd_nth (hd 5 (by simp)) rfl
          go_simp
          refine hK _ _ ?_ ?_ HW
          · simp [upd, e4, e5]
          · exact rfl
        refine auto_op 30 [6] (by kernel_rfl) (fun y w' HW hd K hK => ?_) ?_
        · have e6 := hd_nth (hd 6 (by simp)) rfl
          have hcl : ∀ p : Addr, p.block < wr.heap.size → w'.cell? p = wr.cell? p := fun p hp => HW.cell hp
          go_simp
          refine hK _ _ ?_ ?_ HW
          · simp [upd, e6]
          · exact rfl
        refine auto_last fun y w' HW hd K hK => ?_
        have e0 := hd_nth (hd 0 (by omega)) rfl
        have e1 := hd_nth (hd 1 (by omega)) rfl
        have e2 := hd_nth (hd 2 (by omega)) rfl
        have e3 := hd_nth (hd 3 (by omega)) rfl
        have e4 := hd_nth (hd 4 (by omega)) rfl
        have e5 := hd_nth (hd 5 (by omega)) rfl
        have e6 := hd_nth (hd 6 (by omega)) rfl
        have e7 := hd_nth (hd 7 (by omega)) rfl
        go_simp
        refine hK _ _ ?_
        clear hd hK K e0 e1 e2 e3 e4 e5 e6 e7
        have HB2 := Lib.hid (HB.out.trans (HW.mono HB.out.size))
        clear HW
        go_wp2
        go_roundw
        case rel => exact ⟨k + 1, by omega, by go_num, HB2.out⟩
        case measure => simp [intOf]; omega
    · obtain rfl : k = n := by omega
      have HB := Lib.hid hb
      clear hb
      go_wp2
      go_ret
      exact ⟨rfl, HB.out⟩
theorem list_any (a : Option Addr) (n cap : Nat) (xs : List Nat) (hx : ∀ x ∈ xs, x < 4294967296) (hcap : cap ≤ 9223372036854775807) (hnc : n ≤ cap) (w : World) (hw : Held w) (hrow : RowK .u32 w w.heap.size a n (xs.map Int.ofNat)) :
    Calls Tryd.prog 6 #[.slice a n cap] w fun e w' => e = .returned (.bool true) ∧ Below w.heap.size w w' := by
  have hlen : xs.length = n := by have := hrow.1; simpa using this
  have HA := Lib.hid (fun W hW => awake_any W hW)
  have HR := Lib.hid hrow
  have HW := Lib.hid hw
  by_cases h : n ≤ 512
  · have HL := Lib.hid (list_short a n cap xs h hx w hw hrow)
    obtain ⟨p1, p2, p3⟩ := prog_list xs hx (by omega)
    have hll := list_len xs hx
    have HP := Lib.hid (fun W hW => program_any (tb (listL xs)) (by rw [tb_size]; omega) W hW)
    have hll2 : (tb (listL xs)).data.toList = listL xs := rfl
    rw [hll2] at HP
    unfold ProgPost at HP
    rw [p1, p2, p3] at HP
    generalize tb (listL xs) = T at HL HP
    have hi : (n : Int) ≤ 512 := by omega
    clear hx hw hrow p1 p2 p3 hll hll2
    go_enter Tryd.func6, Tryd.ntmps6
    go_wp2_with fail
    refine HL.out.mono ?_
    rintro e w1 ⟨rfl, hb1⟩
    have HB1 := Lib.hid hb1
    clear hb1
    go_wp2_with fail
    refine (HP.out _ (HW.out.more HB1.out)).mono ?_
    rintro e w2 ⟨b, m, c, rfl, hrow2, hm, hb2⟩
    have hmn : m = n := by have := hrow2.1; rw [List.length_map] at this; omega
    subst hmn
    have HB2 := Lib.hid (HB1.out.trans (hb2.mono HB1.out.size))
    have HWD := Lib.hid (words_any a b m cap c (xs.map Int.ofNat) (by omega) w2 ((HR.out.below HB2.out).more HB2.out.size) hrow2)
    clear hb2 hrow2
    go_wp2_with fail
    refine HWD.out.mono ?_
    rintro e w3 ⟨rfl, hb3⟩
    have HB3 := Lib.hid (HB2.out.trans (hb3.mono HB2.out.size))
    clear hb3
    go_wp2_with fail
    refine (HA.out _ (HW.out.more HB3.out)).mono ?_
    rintro e w4 ⟨rfl, hb4⟩
    have HB4 := Lib.hid (HB3.out.trans (hb4.mono HB3.out.size))
    clear hb4
    go_wp2
    go_ret
    exact ⟨rfl, HB4.out⟩
  · have HL := Lib.hid (list_long a n cap (by omega) (by omega) w)
    have hi : (512 : Int) < (n : Int) := by omega
    clear hx hw hrow hlen
    go_enter Tryd.func6, Tryd.ntmps6
    go_wp2_with fail
    refine HL.out.mono ?_
    rintro e w1 ⟨rfl, hb1⟩
    have HB1 := Lib.hid hb1
    clear hb1
    go_wp2_with fail
    refine (HA.out _ (HW.out.more HB1.out)).mono ?_
    rintro e w2 ⟨rfl, hb2⟩
    have HB2 := Lib.hid (HB1.out.trans (hb2.mono HB1.out.size))
    clear hb2
    go_wp2
    go_ret
    exact ⟨rfl, HB2.out⟩
end Go.Proofs.YtfdekfobcohcjaaDoor.As
