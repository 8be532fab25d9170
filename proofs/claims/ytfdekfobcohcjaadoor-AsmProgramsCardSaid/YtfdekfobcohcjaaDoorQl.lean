/- The document's Digits of any number of ten digits, signed, Names, reg, imm, part. -/
import Derived.Test.YtfdekfobcohcjaaDoorQa
import Derived.Test.YtfdekfobcohcjaaDoorRc
import Derived.Test.YtfdekfobcohcjaaDoorQe
import Derived.Test.YtfdekfobcohcjaaDoorQf
import Derived.Test.YtfdekfobcohcjaaDoorEs
import Derived.BigQuiet
namespace Go.Proofs.YtfdekfobcohcjaaDoor.As
open Go.RowKit Ut Is Pl
set_option linter.unusedVariables false
set_option maxRecDepth 100000
set_option maxHeartbeats 4000000

theorem one_all2 : (List.range 10).all (fun n => decide ((strOfNums [48 + (n : Int)]).data.toList = [UInt8.ofNat (48 + n)])) = true := by decide +kernel
theorem one_digit2 (n : Nat) (h : n < 10) : strOfNums [48 + (n : Int)] = tb [UInt8.ofNat (48 + n)] := by
  have h1 := of_decide_eq_true (List.all_eq_true.1 one_all2 n (List.mem_range.2 h))
  rw [← h1, tb_of]
theorem conv_at2 {W : World} {g : Nat} {x : Int} (hg : g < W.heap.size) (hc : ∀ i u, ([.int .u8 x] : List Value)[i]? = some u → W.cell? ⟨g, i, none⟩ = some u) : (convert 70 9 (.slice (some ⟨g, 0, none⟩) 1 1)).run Tryd.prog W = .ok (.string (strOfNums [x])) W :=
  run_convert_row (P := Tryd.prog) (cap := 1) (dst := 9) (B := W.heap.size) Tryd.underlying70 Tryd.underlying5 Tryd.underlying9 ⟨rfl, fun i hi => by
    obtain rfl : i = 0 := by omega
    exact ⟨_, rfl, hg, by rw [add_plain]; exact hc 0 _ rfl⟩⟩
theorem conv_new2 (W : World) (x : Int) : (convert 70 9 (.slice (some ⟨W.heap.size, 0, none⟩) 1 1)).run Tryd.prog (W.alloc (.cells #[.int .u8 x] 5 (0, 0))) = .ok (.string (strOfNums [x])) (W.alloc (.cells #[.int .u8 x] 5 (0, 0))) :=
  run_convert_row (P := Tryd.prog) (cap := 1) (dst := 9) Tryd.underlying70 Tryd.underlying5 Tryd.underlying9 (RowK.new1 .u8 W x 5)
theorem digits_one2 (n : Nat) (h : n < 10) (w : World) :
    Calls Tryd.prog 24 #[.int .i64 n] w fun e w' => e = .returned (.string (tb (Lib.decDigits n))) ∧ Below w.heap.size w w' := by
  have HD : Hid (tb (Lib.decDigits n) = strOfNums [48 + (n : Int)]) := Lib.hid (by rw [one_digit2 n h, dec_low n h])
  have hcv := conv_new2 w (48 + (n : Int))
  have hb0 : Below w.heap.size w (w.alloc (.cells #[.int .u8 (48 + (n : Int))] 5 (0, 0))) := (Below.refl _ _).alloc (Nat.le_refl _) _
  generalize strOfNums [48 + (n : Int)] = tx at hcv HD
  go_enter Tryd.func24, Tryd.ntmps24
  go_wp2
  go_ret
  exact ⟨by rw [HD.out]; rfl, hb0⟩
theorem digits_step (n q : Nat) (hq : n / 10 = q) (h1 : ¬ n < 10) (h : n < 10000000000) (HQ0 : ∀ w, Calls Tryd.prog 24 #[.int .i64 q] w fun e w' => e = .returned (.string (tb (Lib.decDigits q))) ∧ Below w.heap.size w w') (w : World) :
    Calls Tryd.prog 24 #[.int .i64 n] w fun e w' => e = .returned (.string (tb (Lib.decDigits n))) ∧ Below w.heap.size w w' := by
  obtain ⟨r, hr⟩ : ∃ r, n % 10 = r := ⟨_, rfl⟩
  have hq10 : q < 1000000000 := by omega
  have hr10 : r < 10 := by omega
  have HQ := Lib.hid HQ0
  have HD : Hid (tb (Lib.decDigits n) = tb (Lib.decDigits q) ++ strOfNums [48 + (r : Int)]) := Lib.hid (by
    rw [one_digit2 r hr10, tb_app2, ← hq, ← hr, dec_high n h1])
  have t1 : Int.tdiv (n : Int) 10 = (q : Int) := by rw [← hq]; rfl
  have t2 : Int.tmod (n : Int) 10 = (r : Int) := by rw [← hr]; rfl
  have t3 : (n : Int) / 10 = (q : Int) := by omega
  have t4 : (n : Int) % 10 = (r : Int) := by omega
  have HS : Hid ((tb (Lib.decDigits q)).size ≤ 9) := Lib.hid (by rw [tb_size]; exact dec_len 8 q hq10)
  generalize tb (Lib.decDigits q) = tq at HQ HD HS
  clear hq hr HQ0
  go_enter Tryd.func24, Tryd.ntmps24
  have HCA := Lib.hid (fun (W : World) (g : Nat) (hg : g < W.heap.size) (hc : ∀ i u, ([.int .u8 (48 + (r : Int))] : List Value)[i]? = some u → W.cell? ⟨g, i, none⟩ = some u) => conv_at2 hg hc)
  have hts : (strOfNums [48 + (r : Int)]).size = 1 := by rw [one_digit2 r hr10]; rfl
  generalize strOfNums [48 + (r : Int)] = ts at HCA HD hts
  have hc1 : ¬ 9223372036854775807 < tq.size + ts.size := by have := HS.out; omega
  have hc2 : ¬ 9223372036854775807 < tq.size + 1 := by have := HS.out; omega
  have w1 : IntKind.i64.wrap (q : Int) = q := IntWalk.i64_in _ (by omega)
  have w2 : IntKind.i64.wrap (r : Int) = r := IntWalk.i64_in _ (by omega)
  have w3 : IntKind.i64.wrap (48 + (r : Int)) = 48 + (r : Int) := IntWalk.i64_in _ (by omega)
  have w4 : IntKind.u8.wrap (48 + (r : Int)) = 48 + (r : Int) := IntWalk.u8_in _ (by omega)
  go_wp2
  apply wp_region_bs [10, 11, 12, 13, 14, 15, 16, 17, 18, 19] [_, _, _, _, _, _, _, undef, _, _] 1 [.int .u8 (48 + (r : Int))] 7
  case hm => kernel_rfl
  case hT => intro y; simp only [setAll, List.setIfInBounds_toArray, List.set_cons_succ, List.set_cons_zero]; exact rfl
  case hok => kernel_rfl
  case hn => decide
  case hs =>
    refine bs_op 10 [] (by kernel_rfl) (by decide) (fun y w' HW hd K hK => ?_) ?_
    · go_simp
      refine hK _ _ ?_ ?_ (Below.refl _ _)
      · simp [upd]
      · exact rfl
    refine bs_op 11 [0] (by kernel_rfl) (by decide) (fun y w' HW hd K hK => ?_) ?_
    · have e0 := bsR_nth (hd 0 (by simp)) (by decide) rfl
      go_simp
      refine hK _ _ ?_ ?_ (Below.refl _ _)
      · simp [upd, e0]
      · exact rfl
    refine bs_op 12 [1] (by kernel_rfl) (by decide) (fun y w' HW hd K hK => ?_) ?_
    · have e1 := bsR_nth (hd 1 (by simp)) (by decide) rfl
      go_simp
      refine (HQ.out _).mono ?_
      rintro e w3 ⟨rfl, hb3⟩
      refine hK _ _ ?_ ?_ hb3
      · simp [upd, e1]
      · exact rfl
    refine bs_op 13 [] (by kernel_rfl) (by decide) (fun y w' HW hd K hK => ?_) ?_
    · go_simp
      refine hK _ _ ?_ ?_ (Below.refl _ _)
      · simp [upd]
      · exact rfl
    refine bs_op 14 [3] (by kernel_rfl) (by decide) (fun y w' HW hd K hK => ?_) ?_
    · have e3 := bsR_nth (hd 3 (by simp)) (by decide) rfl
      go_simp
      refine hK _ _ ?_ ?_ (Below.refl _ _)
      · simp [upd, e3]
      · exact rfl
    refine bs_op 15 [4] (by kernel_rfl) (by decide) (fun y w' HW hd K hK => ?_) ?_
    · have e4 := bsR_nth (hd 4 (by simp)) (by decide) rfl
      go_simp
      refine hK _ _ ?_ ?_ (Below.refl _ _)
      · simp [upd, e4]
      · exact rfl
    refine bs_op 16 [5] (by kernel_rfl) (by decide) (fun y w' HW hd K hK => ?_) ?_
    · have e5 := bsR_nth (hd 5 (by simp)) (by decide) rfl
      go_simp
      refine hK _ _ ?_ ?_ (Below.refl _ _)
      · simp [upd, e5]
      · exact rfl
    refine bs_build 17 [6] (by kernel_rfl) rfl 5 (fun y w' HW hd K hK => ?_) ?_
    · have e6 := bsR_nth (hd 6 (by simp)) (by decide) rfl
      go_simp
      refine hK _ ?_ ?_
      · simp [upd, e6]
      · exact rfl
    refine bs_op 18 [7] (by kernel_rfl) (by decide) (fun y w' HW hd K hK => ?_) ?_
    · obtain ⟨g, eb, hg0, hg1, hgc⟩ := bsR_slice (hd 7 (by simp))
      have hcv := HCA.out w' g hg1 hgc
      go_simp
      refine hK _ _ ?_ ?_ (Below.refl _ _)
      · simp [upd, eb]
      · exact rfl
    refine bs_op 19 [2, 8] (by kernel_rfl) (by decide) (fun y w' HW hd K hK => ?_) ?_
    · have e2 := bsR_nth (hd 2 (by simp)) (by decide) rfl
      have e8 := bsR_nth (hd 8 (by simp)) (by decide) rfl
      go_simp
      refine hK _ _ ?_ ?_ (Below.refl _ _)
      · simp [upd, e2, e8]
      · exact rfl
    refine bs_last fun y w' HW hd K hK => ?_
    have e0 := bsR_nth (hd 0 (by omega)) (by decide) rfl
    have e1 := bsR_nth (hd 1 (by omega)) (by decide) rfl
    have e2 := bsR_nth (hd 2 (by omega)) (by decide) rfl
    have e3 := bsR_nth (hd 3 (by omega)) (by decide) rfl
    have e4 := bsR_nth (hd 4 (by omega)) (by decide) rfl
    have e5 := bsR_nth (hd 5 (by omega)) (by decide) rfl
    have e6 := bsR_nth (hd 6 (by omega)) (by decide) rfl
    have e8 := bsR_nth (hd 8 (by omega)) (by decide) rfl
    have e9 := bsR_nth (hd 9 (by omega)) (by decide) rfl
    go_simp
    refine hK _ _ ?_
    clear hd hK K e0 e1 e2 e3 e4 e5 e6 e8 e9
    go_wp2
    go_ret
    exact ⟨by rw [HD.out]; rfl, HW⟩
theorem digits2_any (n : Nat) : n < 10000000000 → ∀ w, Calls Tryd.prog 24 #[.int .i64 n] w fun e w' => e = .returned (.string (tb (Lib.decDigits n))) ∧ Below w.heap.size w w' := by
  induction n using Nat.strongRecOn with
  | _ n ih =>
    intro h w
    by_cases h1 : n < 10
    · exact digits_one2 n h1 w
    · exact digits_step n (n / 10) rfl h1 h (ih (n / 10) (by omega) (by omega)) w
theorem refSigned_any (z : Int) (h1 : -10000000000 < z) (h2 : z < 10000000000) (w : World) :
    Calls Tryd.prog 25 #[.int .i64 z] w fun e w' => e = .returned (.string (tb (Lib.itoa z))) ∧ Below w.heap.size w w' := by
  by_cases hz : z < 0
  · obtain ⟨n, rfl⟩ : ∃ n : Nat, z = -(n : Int) := ⟨z.natAbs, by omega⟩
    have HD := Lib.hid (fun W => digits2_any n (by omega) W)
    have hl := dec_len 9 n (by omega)
    have hts : (tb (Lib.decDigits n)).size ≤ 10 := by rw [tb_size]; exact hl
    have hr : tb (Lib.itoa (-(n : Int))) = ⟨#[45]⟩ ++ tb (Lib.decDigits n) := by
      rw [itoa_ng n (by omega)]
      show tb ([45] ++ Lib.decDigits n) = _
      rw [← tb_app2]; rfl
    generalize tb (Lib.decDigits n) = T at HD hts hr
    have HR := Lib.hid hr
    have hn : - -(n : Int) = (n : Int) := by omega
    have hc1 : ¬ 9223372036854775807 < 1 + T.size := by omega
    clear hr hl
    go_enter Tryd.func25, Tryd.ntmps25
    go_wp2_with fail
    refine (HD.out _).mono ?_
    rintro e w1 ⟨rfl, hb⟩
    go_wp2
    go_ret
    exact ⟨by rw [HR.out]; rfl, hb⟩
  · obtain ⟨n, rfl⟩ : ∃ n : Nat, z = n := ⟨z.toNat, by omega⟩
    have HD := Lib.hid (fun W => digits2_any n (by omega) W)
    have HI := Lib.hid (itoa_nn n)
    have hn0 : ¬ (n : Int) < 0 := by omega
    have hn1 : n < 10000000000 := by omega
    clear hz h1 h2
    go_enter Tryd.func25, Tryd.ntmps25
    go_wp2_with fail
    refine (HD.out _).mono ?_
    rintro e w1 ⟨rfl, hb⟩
    go_wp2
    go_ret
    exact ⟨by rw [HI.out]; rfl, hb⟩
theorem refNames_any (w : World) :
    Calls Tryd.prog 23 #[] w fun e w' => e = .returned (.slice (some ⟨w.heap.size, 0, none⟩) 42 42) ∧ w.heap.size < w'.heap.size ∧ (∀ i u, (nameL.map encS)[i]? = some u → w'.cell? ⟨w.heap.size, i, none⟩ = some u) ∧ Below w.heap.size w w' := by
  go_enter Tryd.func23, Tryd.ntmps23
  go_wp2
  go_ret
  refine ⟨rfl, by simp, fun i u hi => ?_, (Below.refl _ _).alloc (Nat.le_refl _) _⟩
  exact cell_of (cs := nameL.map encS) (t := 9) (heap_alloc_new w (.cells (nameL.map encS).toArray 9)) i u hi
theorem refNames_row {w : World} {g : Nat} (hg : g < w.heap.size) (h : ∀ i u, (nameL.map encS)[i]? = some u → w.cell? ⟨g, i, none⟩ = some u) : RowS w w.heap.size (some ⟨g, 0, none⟩) 42 nameL :=
  ⟨name_len, fun i hi => ⟨_, rfl, hg, by
    rw [add_plain]
    refine h i _ ?_
    have hl : i < nameL.length := by rw [name_len]; exact hi
    simp [List.getD, hl]⟩⟩

/-! ### a word as a register, as a number -/
def rgB (l : List UInt8) : Bool := Lib.hasPrefix l [114] && (numL (l.drop 1)).isSome
def rgZ (l : List UInt8) : Nat := if Lib.hasPrefix l [114] = true then (numL (l.drop 1)).getD 0 else 0
theorem refNum_two (r : ByteArray) (hs : r.size ≤ 1099511627776) (N : Nat) (q : Bool) (hN : (numL r.data.toList).getD 0 = N) (hq : (numL r.data.toList).isSome = q) (w : World) :
    Calls Tryd.prog 60 #[.string r] w fun e w' => e = .returned (.tuple #[.int .i64 N, .bool q]) ∧ w = w' :=
  (refNumber_any r hs w).mono fun e w' ⟨he, hb⟩ => ⟨by rw [he]; unfold numV; rw [hN, hq], hb⟩
theorem head_byte (s : ByteArray) (h : 0 < s.size) (c : UInt8) : Lib.hasPrefix s.data.toList [c] = decide (s[0]'h = c) := by
  have hl : 0 < s.data.toList.length := h
  cases hx : s.data.toList with
  | nil => rw [hx] at hl; simp at hl
  | cons b r =>
    have hb : s[0]'h = b := by
      have : s.data.toList[0]'hl = b := by simp [hx]
      exact this
    rw [hb]
    unfold Lib.hasPrefix
    simp only [List.isPrefixOf, Bool.and_true]
    by_cases e : c = b
    · subst e; simp
    · rw [decide_eq_false (fun h => e h.symm)]; simpa using e
theorem drop_one (s : ByteArray) : (s.extract 1 s.size).data.toList = s.data.toList.drop 1 := by
  rw [tb_part, List.take_of_length_le (by simp)]; rfl
theorem drop_size (s : ByteArray) : (s.extract 1 s.size).size ≤ s.size := by
  have h1 : (s.extract 1 s.size).data.toList.length = (s.extract 1 s.size).size := rfl
  have h2 : s.data.toList.length = s.size := rfl
  rw [drop_one, List.length_drop] at h1
  omega
theorem reg_read (s : ByteArray) (hs : s.size ≤ 1099511627776) (w : World) :
    Calls Tryd.prog 44 #[.string s] w fun e w' => e = .returned (.tuple #[.int .i64 (rgZ s.data.toList), .bool (rgB s.data.toList)]) ∧ w = w' := by
  have hsl : s.data.toList.length = s.size := rfl
  unfold rgZ rgB
  by_cases h2 : s.size < 2
  · have hb : (Lib.hasPrefix s.data.toList [114] && (numL (s.data.toList.drop 1)).isSome) = false := by
      have : s.data.toList.drop 1 = [] := List.drop_of_length_le (by omega)
      rw [this]
      simp [numL]
    have hz : (if Lib.hasPrefix s.data.toList [114] = true then (numL (s.data.toList.drop 1)).getD 0 else 0) = 0 := by
      have : s.data.toList.drop 1 = [] := List.drop_of_length_le (by omega)
      rw [this]
      split
      · rfl
      · rfl
    rw [hb, hz]
    clear hb hz hsl
    have h2i : (s.size : Int) < 2 := by omega
    go_enter Tryd.func44, Tryd.ntmps44
    go_wp2
    go_ret2
    exact ⟨rfl, rfl⟩
  · have h0 : 0 < s.size := by omega
    rw [head_byte s h0 114]
    have h2i : ¬ (s.size : Int) < 2 := by omega
    by_cases hc : s[0]'h0 = 114
    · rw [decide_eq_true hc, if_pos rfl]
      have hcb : (((s[0]'h0).toNat : Int) == 114) = true := by rw [hc]; rfl
      have hcb2 : (((s[0]'h0).toNat : Int) != 114) = false := by rw [hc]; rfl
      obtain ⟨r, hr⟩ : ∃ r, r = s.extract 1 s.size := ⟨_, rfl⟩
      have hrl : s.data.toList.drop 1 = r.data.toList := by rw [hr, drop_one]
      rw [hrl, Bool.true_and]
      obtain ⟨N, hN⟩ : ∃ N, (numL r.data.toList).getD 0 = N := ⟨_, rfl⟩
      obtain ⟨q, hq⟩ : ∃ q, (numL r.data.toList).isSome = q := ⟨_, rfl⟩
      have HC := Lib.hid (refNum_two r (by rw [hr]; have := drop_size s; omega) N q hN hq w)
      rw [hN, hq]
      have hsl2 : ∀ W : World, (Instr.slice 9 (.string s) (some (.int .i64 1)) none none).run Tryd.prog W = .ok (.string r) W := fun W => by
        rw [run_slice_string_l W 9 s Tryd.underlying9 .i64 1 (by omega) (by omega), hr]; rfl
      clear hc hrl hN hq hr hsl
      go_enter Tryd.func44, Tryd.ntmps44
      go_wp2_with fail
      refine HC.out.mono ?_
      rintro e w1 ⟨rfl, rfl⟩
      go_wp2
      go_ret2
      exact ⟨rfl, rfl⟩
    · rw [decide_eq_false hc, if_neg (by decide), Bool.false_and]
      have hcb : (((s[0]'h0).toNat : Int) == 114) = false := by
        rw [beq_eq_false_iff_ne]; intro e; exact hc (UInt8.toNat_inj.1 (by have : (114 : UInt8).toNat = 114 := rfl; omega))
      have hcb2 : (((s[0]'h0).toNat : Int) != 114) = true := by rw [bne, hcb]; rfl
      clear hc hsl
      go_enter Tryd.func44, Tryd.ntmps44
      go_wp2
      go_ret2
      exact ⟨rfl, rfl⟩
theorem imm_read (s : ByteArray) (hs : s.size ≤ 1099511627776) (w : World) :
    Calls Tryd.prog 45 #[.string s] w fun e w' => e = .returned (.tuple #[.int .i64 (sgZ s.data.toList), .bool (sgB s.data.toList)]) ∧ w = w' := by
  have hsl : s.data.toList.length = s.size := rfl
  unfold sgZ sgB
  by_cases h0 : 0 < s.size
  · have h2i : (0 : Int) < (s.size : Int) := by omega
    rw [head_byte s h0 45]
    by_cases hc : s[0]'h0 = 45
    · rw [decide_eq_true hc, if_pos rfl, if_pos rfl]
      have hcb : (((s[0]'h0).toNat : Int) == 45) = true := by rw [hc]; rfl
      obtain ⟨r, hr⟩ : ∃ r, r = s.extract 1 s.size := ⟨_, rfl⟩
      have hrl : s.data.toList.drop 1 = r.data.toList := by rw [hr, drop_one]
      rw [hrl]
      obtain ⟨N, hN⟩ : ∃ N, (numL r.data.toList).getD 0 = N := ⟨_, rfl⟩
      obtain ⟨q, hq⟩ : ∃ q, (numL r.data.toList).isSome = q := ⟨_, rfl⟩
      have HC := Lib.hid (refNum_two r (by rw [hr]; have := drop_size s; omega) N q hN hq w)
      have hlt : N < 1000000000 := hN ▸ numL_lt
      have hzero : q = false → N = 0 := fun e => by rw [← hN]; exact some_zero (hq.trans e)
      rw [hN]
      have hsl2 : ∀ W : World, (Instr.slice 9 (.string s) (some (.int .i64 1)) none none).run Tryd.prog W = .ok (.string r) W := fun W => by
        rw [run_slice_string_l W 9 s Tryd.underlying9 .i64 1 (by omega) (by omega), hr]; rfl
      clear hc hrl hN hq hr hsl
      cases q
      · obtain rfl := hzero rfl
        clear hzero
        go_enter Tryd.func45, Tryd.ntmps45
        go_wp2_with fail
        refine HC.out.mono ?_
        rintro e w1 ⟨rfl, rfl⟩
        go_wp2
        go_ret2
        exact ⟨rfl, rfl⟩
      · clear hzero
        by_cases hpos : 0 < N
        · go_enter Tryd.func45, Tryd.ntmps45
          go_wp2_with fail
          refine HC.out.mono ?_
          rintro e w1 ⟨rfl, rfl⟩
          go_wp2
          go_ret2
          exact ⟨by simp [hpos], rfl⟩
        · obtain rfl : N = 0 := by omega
          go_enter Tryd.func45, Tryd.ntmps45
          go_wp2_with fail
          refine HC.out.mono ?_
          rintro e w1 ⟨rfl, rfl⟩
          go_wp2
          go_ret2
          exact ⟨rfl, rfl⟩
    · rw [decide_eq_false hc, if_neg (by decide), if_neg (by decide)]
      have hcb : (((s[0]'h0).toNat : Int) == 45) = false := by
        rw [beq_eq_false_iff_ne]; intro e; exact hc (UInt8.toNat_inj.1 (by have : (45 : UInt8).toNat = 45 := rfl; omega))
      have HC := Lib.hid (refNum_two s hs _ _ rfl rfl w)
      generalize (numL s.data.toList).getD 0 = N at HC ⊢
      generalize (numL s.data.toList).isSome = q at HC ⊢
      clear hc hsl
      go_enter Tryd.func45, Tryd.ntmps45
      go_wp2_with fail
      refine HC.out.mono ?_
      rintro e w1 ⟨rfl, rfl⟩
      go_wp2
      go_ret2
      exact ⟨rfl, rfl⟩
  · have hnil : s.data.toList = [] := List.length_eq_zero_iff.1 (by omega)
    have hp : ¬ Lib.hasPrefix s.data.toList [45] = true := by rw [hnil]; decide
    rw [if_neg hp, if_neg hp]
    have h2i : ¬ (0 : Int) < (s.size : Int) := by omega
    have hs0 : s.size = 0 := by omega
    have HC := Lib.hid (refNum_two s hs _ _ rfl rfl w)
    generalize (numL s.data.toList).getD 0 = N at HC ⊢
    generalize (numL s.data.toList).isSome = q at HC ⊢
    have h2j : (s.size : Int) ≤ 0 := by omega
    clear hp hnil hsl hs0
    go_enter Tryd.func45, Tryd.ntmps45
    go_wp2_with fail
    refine HC.out.mono ?_
    rintro e w1 ⟨rfl, rfl⟩
    go_wp2
    go_ret2
    exact ⟨rfl, rfl⟩
theorem part_reg (s : ByteArray) (hs : s.size ≤ 1099511627776) (w : World) :
    Calls Tryd.prog 28 #[.string s, .bool true] w fun e w' => e = .returned (.tuple #[.int .i64 (rgZ s.data.toList), .bool (rgB s.data.toList)]) ∧ w = w' := by
  have HC := Lib.hid (reg_read s hs w)
  generalize rgZ s.data.toList = z at HC ⊢
  generalize rgB s.data.toList = t at HC ⊢
  go_enter Tryd.func28, Tryd.ntmps28
  go_wp2_with fail
  refine HC.out.mono ?_
  rintro e w1 ⟨rfl, rfl⟩
  go_wp2
  go_ret2
  exact ⟨rfl, rfl⟩
theorem part_imm (s : ByteArray) (hs : s.size ≤ 1099511627776) (w : World) :
    Calls Tryd.prog 28 #[.string s, .bool false] w fun e w' => e = .returned (.tuple #[.int .i64 (sgZ s.data.toList), .bool (sgB s.data.toList)]) ∧ w = w' := by
  have HC := Lib.hid (imm_read s hs w)
  generalize sgZ s.data.toList = z at HC ⊢
  generalize sgB s.data.toList = t at HC ⊢
  go_enter Tryd.func28, Tryd.ntmps28
  go_wp2_with fail
  refine HC.out.mono ?_
  rintro e w1 ⟨rfl, rfl⟩
  go_wp2
  go_ret2
  exact ⟨rfl, rfl⟩
end Go.Proofs.YtfdekfobcohcjaaDoor.As
