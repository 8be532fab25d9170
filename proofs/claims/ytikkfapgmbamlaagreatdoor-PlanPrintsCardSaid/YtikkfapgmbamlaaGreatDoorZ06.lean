/- Several texts in one: Gb Ep Eq -/
import Derived.Test.YtikkfapgmbamlaaGreatDoorZ05
import Derived.Test.YtikkfapgmbamlaaGreatDoorZ04
import Derived.Test.YtikkfapgmbamlaaGreatDoorZ02
section
/- plan: a value as a word, a record as a line. -/
namespace Go.Proofs.YtikkfapgmbamlaaGreatDoor.Pl
open Go.RowKit Ut
set_option linter.unusedVariables false
set_option maxRecDepth 100000

theorem word_any (f : UInt8) (v : Int) (h : OkV f v) (w : World) :
    Calls Tryz.prog 19 #[.int .i64 v, .int .u8 f.toNat] w fun e w' => e = .returned (.string (tb (wordL f v))) ∧ Below w.heap.size w w' := by
  rcases h with ⟨rfl, h0, h1⟩ | ⟨rfl, h0, h1⟩ | ⟨rfl, h0, h1⟩
  · have hl : La.isL v = true := by unfold La.isL; simp <;> omega
    have hx := La.text_any v hl (B := w.heap.size) (w0 := w) (w := w) (Nat.le_refl _) (Below.refl _ _)
    have HW : Hid (tb (wordL 108 v) = La.textB v) := Lib.hid (by unfold wordL; rw [if_pos rfl]; rfl)
    rw [HW.out]
    clear HW
    generalize La.textB v = tx at hx
    go_enter Tryz.func19, Tryz.ntmps19
    go_wp2_with (go_at_call 52; refine hx.mono ?_; rintro e w1 ⟨rfl, hb1⟩)
    go_ret
    exact ⟨rfl, hb1⟩
  · by_cases hv : v = -1
    · subst hv
      have HW : Hid (tb (wordL 112 (-1)) = ⟨#[111, 117, 116]⟩) := Lib.hid rfl
      rw [HW.out]
      go_enter Tryz.func19, Tryz.ntmps19
      go_wp2
      go_ret
      exact ⟨rfl, Below.refl _ _⟩
    · obtain ⟨n, rfl⟩ : ∃ n : Nat, v = n := ⟨v.toNat, by omega⟩
      have hx := Sh.strconv_Itoa_small n (by omega) w
      have HW : Hid (tb (wordL 112 (n : Int)) = ⟨(Lib.decDigits n).toArray⟩) := Lib.hid (by unfold wordL; rw [if_neg (by decide), if_neg (fun h => hv h.2)]; rfl)
      rw [HW.out]
      clear HW
      generalize (⟨(Lib.decDigits n).toArray⟩ : ByteArray) = tx at hx
      have hvb : ((n : Int) == -1) = false := by simp <;> omega
      go_enter Tryz.func19, Tryz.ntmps19
      go_wp2_with (go_at_call 53; refine hx.mono ?_; rintro e w1 ⟨rfl, rfl⟩)
      go_ret
      exact ⟨rfl, Below.refl _ _⟩
  · obtain ⟨n, rfl⟩ : ∃ n : Nat, v = n := ⟨v.toNat, by omega⟩
    have hx := Sh.strconv_Itoa_small n (by omega) w
    have HW : Hid (tb (wordL 110 (n : Int)) = ⟨(Lib.decDigits n).toArray⟩) := Lib.hid (by unfold wordL; rw [if_neg (by decide), if_neg (by rintro ⟨h, _⟩; revert h; decide)]; rfl)
    rw [HW.out]
    clear HW
    generalize (⟨(Lib.decDigits n).toArray⟩ : ByteArray) = tx at hx
    go_enter Tryz.func19, Tryz.ntmps19
    go_wp2_with (go_at_call 53; refine hx.mono ?_; rintro e w1 ⟨rfl, rfl⟩)
    go_ret
    exact ⟨rfl, Below.refl _ _⟩
theorem okvs_at : ∀ {fs : List UInt8} {vs : List Int}, OkVs fs vs → vs.length = fs.length ∧ ∀ k, k < fs.length → OkV (fs.getD k 0) (vs.getD k 0)
  | [], [], _ => ⟨rfl, fun k h => absurd h (by simp)⟩
  | [], _ :: _, h => h.elim
  | _ :: _, [], h => h.elim
  | f :: fs, v :: vs, h => by
    obtain ⟨e, hs⟩ := okvs_at h.2
    refine ⟨by simp [e], fun k hk => ?_⟩
    cases k with
    | zero => exact h.1
    | succ k => exact hs k (by simpa using hk)
theorem tail_step : ∀ (fs : List UInt8) (vs : List Int) (k : Nat), k < fs.length → vs.length = fs.length → tailL (fs.take (k + 1)) (vs.take (k + 1)) = tailL (fs.take k) (vs.take k) ++ (32 :: wordL (fs.getD k 0) (vs.getD k 0))
  | [], _, k, h, _ => absurd h (by simp)
  | f :: fs, [], k, _, h => by simp at h
  | f :: fs, v :: vs, 0, _, _ => by simp [tailL]
  | f :: fs, v :: vs, k + 1, h, e => by
    have := tail_step fs vs k (by simpa using h) (by simpa using e)
    simp only [List.take_succ_cons, tailL, this, List.getD_cons_succ, List.cons_append, List.append_assoc]
theorem tb_app (a b : List UInt8) : tb a ++ tb b = tb (a ++ b) := by
  apply ByteArray.ext
  simp [tb, ByteArray.data_append]
theorem lab_len : (List.range 256).all (fun n => decide ((La.textB n).data.toList.length ≤ 8)) = true := by decide +kernel
theorem dd_len : (List.range 100).all (fun n => decide ((dd n).length ≤ 8)) = true := by decide +kernel
theorem word_len {f : UInt8} {v : Int} (h : OkV f v) : (wordL f v).length ≤ 8 := by
  have num : ∀ n : Nat, n < 100 → (Lib.decDigits n).length ≤ 8 := fun n hn => by
    rw [dec_dd n hn]
    simpa using List.all_eq_true.1 dd_len n (List.mem_range.2 hn)
  rcases h with ⟨rfl, h0, h1⟩ | ⟨rfl, h0, h1⟩ | ⟨rfl, h0, h1⟩
  · obtain ⟨n, rfl⟩ : ∃ n : Nat, v = n := ⟨v.toNat, by omega⟩
    have := List.all_eq_true.1 lab_len n (List.mem_range.2 (by omega))
    unfold wordL
    rw [if_pos rfl]
    simpa using this
  · unfold wordL
    rw [if_neg (by decide)]
    split
    · decide
    · exact num _ (by omega)
  · unfold wordL
    rw [if_neg (by decide), if_neg (by rintro ⟨h, _⟩; revert h; decide)]
    exact num _ (by omega)
theorem kw_len (r : Nat) : (kw r).length ≤ 5 := by
  unfold kw
  split <;> decide
set_option maxHeartbeats 4000000 in
theorem line_any (r : Nat) (hr : r < 7) (a0 a1 a2 : Int) (hv : OkVs (kf r) ([a0, a1, a2].take (kf r).length)) (w : World) (hK : Kinds w) :
    Calls Tryz.prog 10 #[.agg #[.int .i64 r, .int .i64 a0, .int .i64 a1, .int .i64 a2]] w fun e w' => e = .returned (.string (tb (lineL (r, [a0, a1, a2].take (kf r).length)))) ∧ Below w.heap.size w w' := by
  obtain ⟨hvl, hva⟩ := okvs_at hv
  obtain ⟨vs, hvs⟩ : ∃ vs, [a0, a1, a2].take (kf r).length = vs := ⟨_, rfl⟩
  have hk3 : (kf r).length ≤ 3 := by
    match r, hr with
    | 0, _ => decide
    | 1, _ => decide
    | 2, _ => decide
    | 3, _ => decide
    | 4, _ => decide
    | 5, _ => decide
    | 6, _ => decide
    | r + 7, h => omega
  have hcell : ∀ k, k < (kf r).length → ([.int .i64 r, .int .i64 a0, .int .i64 a1, .int .i64 a2] : List Value)[1 + k]? = some (.int .i64 (vs.getD k 0)) := fun k hk => by
    rw [← hvs]
    have hk2 : k < 3 := by omega
    match k, hk2 with
    | 0, _ => simp [List.getD, hk]
    | 1, _ => simp [List.getD, hk]
    | 2, _ => simp [List.getD, hk]
    | k + 3, h => omega
  rw [hvs] at hvl hva ⊢
  have HCL := Lib.hid hcell
  have HST := Lib.hid (tail_step (kf r) vs)
  have HWD := Lib.hid (fun (k : Nat) (hk : k < (kf r).length) (W : World) => word_any _ _ (hva k hk) W)
  have HVL := Lib.hid hvl
  have HWL := Lib.hid (fun (k : Nat) (hk : k < (kf r).length) => word_len (hva k hk))
  have HKL := Lib.hid (kw_len r)
  obtain ⟨S, hS⟩ : ∃ S, tb (kf r) = S := ⟨_, rfl⟩
  have hSl : S.size = (kf r).length := by rw [← hS, tb_size]
  have HSL := Lib.hid hSl
  have HSG : Hid (∀ (k : Nat) (hk : k < S.size), S[k]'hk = (kf r).getD k 0) := Lib.hid fun k hk => by
    subst hS
    have h2 : k < (kf r).length := by rw [← tb_size]; exact hk
    rw [List.getD_eq_getElem?_getD, List.getElem?_eq_getElem h2]
    rfl
  have HRES : Hid (∀ T : List UInt8, T = kw r ++ tailL ((kf r).take S.size) (vs.take S.size) → tb (lineL (r, vs)) = tb T ++ ⟨#[10]⟩) := Lib.hid fun T hT => by
    subst hT
    have h1 : (kf r).take S.size = kf r := by rw [hSl]; simp
    have h2 : vs.take S.size = vs := by rw [hSl, ← hvl]; simp
    rw [h1, h2]
    show tb (bodyL (r, vs) ++ [10]) = _
    rw [← tb_app]
    rfl
  have HK := Lib.hid hK
  have HK0 := Lib.hid hK.lt
  have hS64 : S.size ≤ 3 := by omega
  clear hvs hcell hvl hva hv hSl hk3
  obtain ⟨m0, m1, _⟩ := hK.at r hr
  rw [hS] at m1
  clear hK
  generalize hW : kw r = wd at m0 HRES HKL
  clear hW
  have hk0 : 0 < w.heap.size := HK0.out
  go_enter Tryz.func10, Tryz.ntmps10
  go_wp2
  obtain ⟨W0, hW0⟩ : ∃ W0, w.alloc (.cells #[.int .i64 r, .int .i64 a0, .int .i64 a1, .int .i64 a2] 46 (0, 0)) = W0 := ⟨_, rfl⟩
  have hb0 : Below w.heap.size w W0 := hW0 ▸ (Below.refl _ _).alloc (Nat.le_refl _) _
  have hz0 : W0.heap[w.heap.size]? = some (.cells [.int .i64 r, .int .i64 a0, .int .i64 a1, .int .i64 a2].toArray 46 (0, 0)) := hW0 ▸ heap_alloc_new _ _
  have HZ0 := Lib.hid hz0
  have hzl := (Array.getElem?_eq_some_iff.1 hz0).1
  rw [hW0]
  clear hW0 hz0 m0 m1
  go_loopw [3, 16] (fun t i wr => ∃ k : Nat, k ≤ S.size ∧ i = .int .i64 k ∧ t = .string (tb (wd ++ tailL ((kf r).take k) (vs.take k))) ∧ (wd ++ tailL ((kf r).take k) (vs.take k)).length ≤ 5 + 9 * k ∧ Below W0.heap.size W0 wr) (fun _ i _ => S.size - (intOf i).toNat)
  case atStart => exact ⟨0, Nat.zero_le _, rfl, by simp [tailL], by have := HKL.out; simp [tailL]; omega, Below.refl _ _⟩
  case round =>
    obtain ⟨k, hk, rfl, rfl, hlen, hbw⟩ := hrel
    have hb1 : Below w.heap.size w wr := hb0.trans (hbw.mono hb0.size)
    by_cases hlt : k < S.size
    · have hz1 := (hbw.block _ hzl).trans HZ0.out
      have c0 := (box_cell hz1 0 _ rfl).1
      have ck := (box_cell hz1 (1 + k) _ (HCL.out k (by have := HSL.out; omega))).1
      have hK1 := HK.out.below hb1 HK0.out
      obtain ⟨_, m1, _⟩ := hK1.at r hr
      rw [hS] at m1
      have hl0 : 0 < wr.heap.size := hK1.lt
      have hl1 : w.heap.size < wr.heap.size := by have := hbw.size; omega
      have HF : Hid (∀ W : World, Calls Tryz.prog 19 #[.int .i64 (vs.getD k 0), .int .u8 (S[k]'hlt).toNat] W fun e w' => e = .returned (.string (tb (wordL ((kf r).getD k 0) (vs.getD k 0)))) ∧ Below W.heap.size W w') := Lib.hid fun W => by
        rw [HSG.out k hlt]
        exact HWD.out k (by have := HSL.out; omega) W
      have HN := Lib.hid (HST.out k (by have := HSL.out; omega) HVL.out)
      obtain ⟨vk, hvk⟩ : ∃ vk, vs.getD k 0 = vk := ⟨_, rfl⟩
      rw [hvk] at ck HF HN
      obtain ⟨T, hT⟩ : ∃ T, wordL ((kf r).getD k 0) vk = T := ⟨_, rfl⟩
      rw [hT] at HF HN
      obtain ⟨U, hU⟩ : ∃ U, tailL ((kf r).take k) (vs.take k) = U := ⟨_, rfl⟩
      rw [hU] at HN hlen ⊢
      have HLN := Lib.hid hlen
      have HTL : Hid (T.length ≤ 8) := Lib.hid (by rw [← hT, ← hvk]; exact HWL.out k (by have := HSL.out; omega))
      have hus : (tb (wd ++ U)).size ≤ 100 := by rw [tb_size]; omega
      have hts : (tb T).size ≤ 8 := by rw [tb_size]; exact HTL.out
      clear hlen
      have hkk : k < 3 := by omega
      have hri : (r : Int) < 7 := by omega
      have hrd : decide ((r : Int) < 7) = true := decide_eq_true hri
      have hki : (k : Int) < 3 := by omega
      have hkd : decide ((k : Int) < 3) = true := decide_eq_true hki
      have hks : decide ((k : Int) < (S.size : Int)) = true := decide_eq_true (by omega)
      have hki2 : ¬ (3 : Int) ≤ (k : Int) := by omega
      have hk02 : ¬ (k : Int) < 0 := by omega
      clear hvk hT hU hz1 hK1
      generalize hUT : tb (wd ++ U) = ut at hus ⊢
      have HUT := Lib.hid hUT
      clear hUT
      generalize hTT : tb T = tt at HF hts
      have HTT := Lib.hid hTT
      clear hTT
      have hc1 : ¬ 9223372036854775807 < 1 + tt.size := by omega
      have hc2 : ¬ 9223372036854775807 < ut.size + (1 + tt.size) := by omega
      have hc3 : ¬ 9223372036854775807 < ut.size + (({ data := #[32] } : ByteArray) ++ tt).size := by rw [ByteArray.size_append]; exact hc2
      go_wp2
      apply wp_region_auto [19, 20, 21, 22, 23, 24, 25, 26, 27, 28, 29, 30, 31, 32, 33] [_, _, _, _, _, _, _, _, _, _, _, _, _, _, _] (fun W' => Below wr.heap.size wr W')
      case hm => kernel_rfl
      case hT => intro y; simp only [setAll, List.setIfInBounds_toArray, List.set_cons_succ, List.set_cons_zero]; exact rfl
      case hok => kernel_rfl
      case hn => decide
      case hw => exact (Below.refl _ _).drew
      case hs =>
        refine auto_op 19 [] (by kernel_rfl) (fun y w' HW hd K hK => ?_) ?_
        · go_simp
          refine hK _ _ ?_ ?_ HW
          · simp [upd]
          · exact rfl
        refine auto_op 20 [] (by kernel_rfl) (fun y w' HW hd K hK => ?_) ?_
        · go_simp
          refine hK _ _ ?_ ?_ HW
          · simp [upd]
          · exact rfl
        refine auto_op 21 [] (by kernel_rfl) (fun y w' HW hd K hK => ?_) ?_
        · go_simp
          refine hK _ _ ?_ ?_ HW
          · simp [upd]
          · exact rfl
        refine auto_op 22 [2, 1] (by kernel_rfl) (fun y w' HW hd K hK => ?_) ?_
        · have e1 := hd_nth (hd 1 (by simp)) rfl
          have e2 := hd_nth (hd 2 (by simp)) rfl
          go_simp
          refine hK _ _ ?_ ?_ HW
          · simp [upd, e1, e2]
          · exact rfl
        refine auto_op 23 [3] (by kernel_rfl) (fun y w' HW hd K hK => ?_) ?_
        · have e3 := hd_nth (hd 3 (by simp)) rfl
          have hcl : ∀ p : Addr, p.block < wr.heap.size → w'.cell? p = wr.cell? p := fun p hp => HW.cell hp
          go_simp
          refine hK _ _ ?_ ?_ HW
          · simp [upd, e3]
          · exact rfl
        refine auto_op 24 [] (by kernel_rfl) (fun y w' HW hd K hK => ?_) ?_
        · go_simp
          refine hK _ _ ?_ ?_ HW
          · simp [upd]
          · exact rfl
        refine auto_op 25 [5] (by kernel_rfl) (fun y w' HW hd K hK => ?_) ?_
        · have e5 := hd_nth (hd 5 (by simp)) rfl
          have hcl : ∀ p : Addr, p.block < wr.heap.size → w'.cell? p = wr.cell? p := fun p hp => HW.cell hp
          go_simp
          refine hK _ _ ?_ ?_ HW
          · simp [upd, e5]
          · exact rfl
        refine auto_op 26 [6] (by kernel_rfl) (fun y w' HW hd K hK => ?_) ?_
        · have e6 := hd_nth (hd 6 (by simp)) rfl
          go_simp
          refine hK _ _ ?_ ?_ HW
          · simp [upd, e6]
          · exact rfl
        refine auto_op 27 [7] (by kernel_rfl) (fun y w' HW hd K hK => ?_) ?_
        · have e7 := hd_nth (hd 7 (by simp)) rfl
          go_simp
          refine hK _ _ ?_ ?_ HW
          · simp [upd, e7]
          · exact rfl
        refine auto_op 28 [8] (by kernel_rfl) (fun y w' HW hd K hK => ?_) ?_
        · have e8 := hd_nth (hd 8 (by simp)) rfl
          have hcl : ∀ p : Addr, p.block < wr.heap.size → w'.cell? p = wr.cell? p := fun p hp => HW.cell hp
          go_simp
          refine hK _ _ ?_ ?_ HW
          · simp [upd, e8]
          · exact rfl
        refine auto_op 29 [] (by kernel_rfl) (fun y w' HW hd K hK => ?_) ?_
        · go_simp
          refine hK _ _ ?_ ?_ HW
          · simp [upd]
          · exact rfl
        refine auto_op 30 [9, 10] (by kernel_rfl) (fun y w' HW hd K hK => ?_) ?_
        · have e9 := hd_nth (hd 9 (by simp)) rfl
          have e10 := hd_nth (hd 10 (by simp)) rfl
          go_simp
          refine hK _ _ ?_ ?_ HW
          · simp [upd, e9, e10]
          · exact rfl
        refine auto_op 31 [4, 11] (by kernel_rfl) (fun y w' HW hd K hK => ?_) ?_
        · have e4 := hd_nth (hd 4 (by simp)) rfl
          have e11 := hd_nth (hd 11 (by simp)) rfl
          go_simp
          refine (HF.out _).mono ?_
          rintro e w3 ⟨rfl, hb3⟩
          refine hK _ _ ?_ ?_ (HW.trans (hb3.mono HW.size))
          · simp [upd, e4, e11]
          · exact rfl
        refine auto_op 32 [12] (by kernel_rfl) (fun y w' HW hd K hK => ?_) ?_
        · have e12 := hd_nth (hd 12 (by simp)) rfl
          go_simp
          refine hK _ _ ?_ ?_ HW
          · simp [upd, e12]
          · exact rfl
        refine auto_op 33 [0, 13] (by kernel_rfl) (fun y w' HW hd K hK => ?_) ?_
        · have e0 := hd_nth (hd 0 (by simp)) rfl
          have e13 := hd_nth (hd 13 (by simp)) rfl
          go_simp
          refine hK _ _ ?_ ?_ HW
          · simp [upd, e0, e13]
          · exact rfl
        refine auto_last fun y w' HW hd K hK => ?_
        have e0 := hd_nth (hd 0 (by omega)) rfl
        have e1 := hd_nth (hd 1 (by omega)) rfl
        have e2 := hd_nth (hd 2 (by omega)) rfl
        have e3 := hd_nth (hd 3 (by omega)) rfl
        have e4 := hd_nth (hd 4 (by omega)) rfl
        have e5 := hd_nth (hd 5 (by omega)) rfl
        have e6 := hd_nth (hd 6 (by omega)) rfl
        have e7 := hd_nth (hd 7 (by omega)) rfl
        have e8 := hd_nth (hd 8 (by omega)) rfl
        have e9 := hd_nth (hd 9 (by omega)) rfl
        have e10 := hd_nth (hd 10 (by omega)) rfl
        have e11 := hd_nth (hd 11 (by omega)) rfl
        have e12 := hd_nth (hd 12 (by omega)) rfl
        have e13 := hd_nth (hd 13 (by omega)) rfl
        have e14 := hd_nth (hd 14 (by omega)) rfl
        go_simp
        refine hK _ _ ?_
        clear hd hK K e0 e1 e2 e3 e4 e5 e6 e7 e8 e9 e10 e11 e12 e13 e14
        go_wp2
        go_roundw
        case rel =>
          refine ⟨k + 1, by omega, by go_num, ?_, ?_, hbw.trans (HW.mono hbw.size)⟩
          · rw [HN.out, ← List.append_assoc, ← tb_app, HUT.out, ← HTT.out]; rfl
          · rw [HN.out, ← List.append_assoc, List.length_append]
            have h1 := HLN.out
            have h2 := HTL.out
            simp only [List.length_cons]
            omega
        case measure => simp [intOf]; omega
    · obtain rfl : k = S.size := by omega
      have HF := Lib.hid (HRES.out _ rfl)
      have hus : (tb (wd ++ tailL ((kf r).take S.size) (vs.take S.size))).size ≤ 100 := by rw [tb_size]; omega
      clear hlen
      generalize tb (wd ++ tailL ((kf r).take S.size) (vs.take S.size)) = ut at hus HF ⊢
      have hc1 : ¬ 9223372036854775807 < ut.size + 1 := by omega
      go_wp2
      go_ret
      exact ⟨by rw [HF.out]; rfl, hb1⟩
end Go.Proofs.YtikkfapgmbamlaaGreatDoor.Pl
end
section
/- The document's Lines and Split of layer 5. -/
namespace Go.Proofs.YtikkfapgmbamlaaGreatDoor.Pl
open Go.RowKit Ut
set_option linter.unusedVariables false

theorem info_u8' : (Tryz.prog.info? 5).map (fun i => (i.zero, i.size, i.bytes)) = some (some (.int .u8 0), 1, 1) := by kernel_rfl
theorem cutL_more (c : UInt8) (a d : List UInt8) : ∃ t, (cutL c (a ++ d)).1 = (cutL c a).1 ++ t := by
  refine snoc_ind (P := fun d => ∃ t, (cutL c (a ++ d)).1 = (cutL c a).1 ++ t) ⟨[], by simp⟩ (fun d b ih => ?_) d
  obtain ⟨t, ht⟩ := ih
  rw [← List.append_assoc, cutL_snoc]
  unfold cutS
  split
  · exact ⟨t ++ [(cutL c (a ++ d)).2], by simp [ht]⟩
  · exact ⟨t, ht⟩
/-- the bytes as numbers -/
def bz (l : List UInt8) : List Int := l.map fun b => (b.toNat : Int)
theorem bz_len (l : List UInt8) : (bz l).length = l.length := by simp [bz]
theorem str_bz (l : List UInt8) : strOfNums (bz l) = tb l := by
  unfold strOfNums tb bz
  congr 2
  induction l with
  | nil => rfl
  | cons b r ih => simp [ih]
/-- what both loops know at place k -/
structure RefAt (c : UInt8) (s : ByteArray) (k : Nat) (ps : List (List UInt8)) (cur : List UInt8) : Prop where
  cut : cutL c (s.data.toList.take k) = (ps, cur)
  len : ps.length + cur.length ≤ k
theorem RefAt.start (c : UInt8) (s : ByteArray) : RefAt c s 0 [] [] := ⟨by simp [cutL], by simp⟩
theorem RefAt.put {c : UInt8} {s : ByteArray} {k : Nat} {ps : List (List UInt8)} {cur : List UInt8} (h : RefAt c s k ps cur) (hk : k < s.size) (hb : ¬ s[k]'hk = c) : RefAt c s (k + 1) ps (cur ++ [s[k]'hk]) := by
  refine ⟨?_, by have := h.len; simp; omega⟩
  have e : s.data.toList.take (k + 1) = s.data.toList.take k ++ [s[k]'hk] := by
    rw [List.take_add_one, List.getElem?_eq_getElem (by simpa using hk)]
    rfl
  rw [e, cutL_snoc, h.cut]
  simp [cutS, hb]
theorem RefAt.hit {c : UInt8} {s : ByteArray} {k : Nat} {ps : List (List UInt8)} {cur : List UInt8} (h : RefAt c s k ps cur) (hk : k < s.size) (hb : s[k]'hk = c) : RefAt c s (k + 1) (ps ++ [cur]) [] := by
  refine ⟨?_, by have := h.len; simp; omega⟩
  have e : s.data.toList.take (k + 1) = s.data.toList.take k ++ [s[k]'hk] := by
    rw [List.take_add_one, List.getElem?_eq_getElem (by simpa using hk)]
    rfl
  rw [e, cutL_snoc, h.cut]
  simp [cutS, hb]
theorem RefAt.done {c : UInt8} {s : ByteArray} {k : Nat} {ps : List (List UInt8)} {cur : List UInt8} (h : RefAt c s k ps cur) (hk : k = s.size) : cutL c s.data.toList = (ps, cur) := by
  have := h.cut
  rwa [List.take_of_length_le (by simp [hk])] at this

end Go.Proofs.YtikkfapgmbamlaaGreatDoor.Pl
end
section
/- The document's Split of layer 5. -/
namespace Go.Proofs.YtikkfapgmbamlaaGreatDoor.Pl
open Go.RowKit Ut
set_option linter.unusedVariables false

theorem wordsL_early {s : ByteArray} {k : Nat} {ps : List (List UInt8)} {cur : List UInt8} (h : RefAt 32 s (k + 1) (ps ++ [[]]) cur) : wordsL s.data.toList = none := by
  obtain ⟨t, ht⟩ := cutL_more 32 (s.data.toList.take (k + 1)) (s.data.toList.drop (k + 1))
  rw [List.take_append_drop, h.cut] at ht
  unfold wordsL
  rw [ht, if_pos (by simp)]
end Go.Proofs.YtikkfapgmbamlaaGreatDoor.Pl
end
