/- Several texts in one: Hb -/
import Derived.Test.YtikkfapgmbamlaaGreatDoorZ30
import Derived.Test.YtikkfapgmbamlaaGreatDoorZ28
import Derived.Test.YtikkfapgmbamlaaGreatDoorZ36
import Derived.Deep.Cut
section
/- The document's Print of layer 5. -/
namespace Go.Proofs.YtikkfapgmbamlaaGreatDoor.Pl
open Go.RowKit Ut
set_option linter.unusedVariables false
set_option maxRecDepth 100000

theorem refPrint_bad (p : PC) (ga : Option Addr) (gc : Nat) (ra : Option Addr) (rc : Nat) (pa : Option Addr) (qc : Nat) (na : Option Addr) (nc : Nat) (sa : Option Addr) (sc : Nat) (B : Nat) (w : World) (hB : B ≤ w.heap.size) (h : (p.cfg ga gc ra rc pa qc na nc sa sc).At w B) (e1 : Int) (he1 : (chk p).1 = e1) (hne : ¬ e1 = 0) :
    Calls Tryz.prog 6 #[.agg #[.int .i64 p.cats, .slice ga p.gs.length gc, .slice ra p.rs.length rc, .slice pa p.ps.length qc, .slice na p.ns.length nc, .slice sa p.ss.length sc, .int .i64 p.gate, .int .i64 p.quota]] w fun e w' => e = .returned (.tuple #[.string ByteArray.empty, .int .i64 e1]) ∧ Below w.heap.size w w' := by
  have HC := Lib.hid he1
  obtain ⟨e2, he2⟩ : ∃ e2, (chk p).2 = e2 := ⟨_, rfl⟩
  have HC2 := Lib.hid he2
  have hal : Below w.heap.size w (w.alloc (.cells #[.int .i64 p.cats, .slice ga p.gs.length gc, .slice ra p.rs.length rc, .slice pa p.ps.length qc, .slice na p.ns.length nc, .slice sa p.ss.length sc, .int .i64 p.gate, .int .i64 p.quota] 28 (0, 0))) := (Below.refl _ _).alloc (Nat.le_refl _) _
  have hx := Cf.refCheck_any (p.cfg ga gc ra rc pa qc na nc sa sc) B (w.alloc (.cells #[.int .i64 p.cats, .slice ga p.gs.length gc, .slice ra p.rs.length rc, .slice pa p.ps.length qc, .slice na p.ns.length nc, .slice sa p.ss.length sc, .int .i64 p.gate, .int .i64 p.quota] 28 (0, 0))) (Nat.le_trans hB hal.size) (h.below (hal.mono hB))
  rw [chk_at, HC.out, HC2.out] at hx
  have HAL := Lib.hid hal
  clear he1 he2 h hal
  go_enter Tryz.func6, Tryz.ntmps6
  go_wp2_with (go_at_call 13; refine hx.mono ?_; rintro e w2 ⟨rfl, hb2⟩)
  go_ret2
  exact ⟨rfl, HAL.out.trans (hb2.mono HAL.out.size)⟩
/-- a label's word, a number's -/
theorem lab_call {v : Int} (h : OkV 108 v) (W : World) : Calls Tryz.prog 16 #[.int .i64 v] W fun e w' => e = .returned (.string (tb (wordL 108 v))) ∧ Below W.heap.size W w' := by
  rcases h with ⟨_, h0, h1⟩ | ⟨h, _⟩ | ⟨h, _⟩
  · have hl : La.isL v = true := by unfold La.isL; simp <;> omega
    have := refLabText_any v hl W
    have e : tb (wordL 108 v) = La.textB v := by unfold wordL; rw [if_pos rfl]; rfl
    rwa [e]
  · exact absurd h (by decide)
  · exact absurd h (by decide)
theorem num_call {f : UInt8} {v : Int} (h : OkV f v) (hf : f ≠ 108) (hv : 0 ≤ v) (W : World) : Calls Tryz.prog 15 #[.int .i64 v] W fun e w' => e = .returned (.string (tb (wordL f v))) ∧ Below W.heap.size W w' := by
  have hl : v < 100 := by
    rcases h with ⟨h, _⟩ | ⟨_, _, h⟩ | ⟨_, _, h⟩
    · exact absurd h hf
    · exact h
    · exact h
  obtain ⟨n, rfl⟩ : ∃ n : Nat, v = n := ⟨v.toNat, by omega⟩
  have := digits_any n (by omega) W
  have e : wordL f (n : Int) = Lib.decDigits n := by unfold wordL; rw [if_neg hf, if_neg (fun h => by omega)]; rfl
  rwa [e]
theorem line_call (g : Nat) (x : List UInt8) (xs : List (List UInt8)) (hn9 : xs.length ≤ 8) (hx : ∀ k, ((x :: xs).getD k []).length ≤ 10) (W : World) (hg : g < W.heap.size)
    (hc : ∀ i u, ((x :: xs).map encS)[i]? = some u → W.cell? ⟨g, i, none⟩ = some u) :
    Calls Tryz.prog 14 #[.slice (some ⟨g, 0, none⟩) (xs.length + 1) (xs.length + 1)] W fun e w' => e = .returned (.string (tb (joinL (x :: xs) ++ [10]))) ∧ Below W.heap.size W w' :=
  refLine_any g (xs.length + 1) x xs rfl (by omega) hx W hg hc
theorem small_words {l : List (List UInt8)} (h : ∀ x ∈ l, x.length ≤ 10) : ∀ k, (l.getD k []).length ≤ 10 := fun k => by
  by_cases hk : k < l.length
  · rw [List.getD_eq_getElem?_getD, List.getElem?_eq_getElem hk]; exact h _ (List.getElem_mem hk)
  · rw [List.getD_eq_getElem?_getD, List.getElem?_eq_none (Nat.le_of_not_lt hk)]; simp
theorem map_stepL {r : Nat} {xs : List (List Int)} {k : Nat} (hk : k < xs.length) : ((xs.take (k + 1)).map fun v => lineL (r, v)).flatten = ((xs.take k).map fun v => lineL (r, v)).flatten ++ lineL (r, xs.getD k []) := by
  rw [List.take_add_one, List.map_append, List.flatten_append, List.getElem?_eq_getElem hk]
  simp [List.getD, hk]
theorem text_parts (p : PC) : p.text = (((((lineL (0, [p.cats]) ++ (p.gs.map fun v => lineL (1, v)).flatten) ++ (p.rs.map fun v => lineL (2, v)).flatten) ++ (p.ps.map fun v => lineL (3, v)).flatten) ++ (p.ns.map fun v => lineL (4, v)).flatten) ++ (p.ss.map fun v => lineL (5, v)).flatten) ++ (if p.gate = -1 then [] else lineL (6, [p.gate, p.quota])) := by
  unfold PC.text PC.recs
  by_cases hg : p.gate = -1
  · simp only [if_pos hg, List.map_cons, List.map_append, List.map_map, List.flatten_cons, List.flatten_append, List.append_assoc, List.append_nil]
    rfl
  · simp only [if_neg hg, List.map_cons, List.map_append, List.map_map, List.flatten_cons, List.flatten_append, List.append_assoc, List.map_nil, List.flatten_nil, List.append_nil]
    rfl
theorem mem_get {xs : List (List Int)} {k : Nat} (hk : k < xs.length) : xs.getD k [] ∈ xs := by
  rw [List.getD_eq_getElem?_getD, List.getElem?_eq_getElem hk]; exact List.getElem_mem hk
theorem okv_num {v : Int} (h : OkV 110 v) : 0 ≤ v := by
  rcases h with ⟨h, _⟩ | ⟨h, _⟩ | ⟨_, h, _⟩
  · exact absurd h (by decide)
  · exact absurd h (by decide)
  · exact h
theorem okv_port {v : Int} (h : OkV 112 v) : v = -1 ∨ 0 ≤ v := by
  rcases h with ⟨h, _⟩ | ⟨_, h, _⟩ | ⟨h, _⟩
  · exact absurd h (by decide)
  · omega
  · exact absurd h (by decide)
set_option maxHeartbeats 40000000 in
theorem refPrint_good (p : PC) (ga : Option Addr) (gc : Nat) (ra : Option Addr) (rc : Nat) (pa : Option Addr) (qc : Nat) (na : Option Addr) (nc : Nat) (sa : Option Addr) (sc : Nat) (B : Nat) (w : World) (hB : B ≤ w.heap.size) (h : (p.cfg ga gc ra rc pa qc na nc sa sc).At w B) (hl : PLen p) (he1 : (chk p).1 = 0) :
    Calls Tryz.prog 6 #[.agg #[.int .i64 p.cats, .slice ga p.gs.length gc, .slice ra p.rs.length rc, .slice pa p.ps.length qc, .slice na p.ns.length nc, .slice sa p.ss.length sc, .int .i64 p.gate, .int .i64 p.quota]] w fun e w' => e = .returned (.tuple #[.string (tb p.text), .int .i64 0]) ∧ Below w.heap.size w w' := by
  obtain ⟨hok, l1, l2, l3, l4, l5⟩ := okp_of hl he1
  have HOK := Lib.hid hok
  have HPL := Lib.hid hl
  have HC := Lib.hid he1
  obtain ⟨e2, he2⟩ : ∃ e2, (chk p).2 = e2 := ⟨_, rfl⟩
  have HC2 := Lib.hid he2
  have hal : Below w.heap.size w (w.alloc (.cells #[.int .i64 p.cats, .slice ga p.gs.length gc, .slice ra p.rs.length rc, .slice pa p.ps.length qc, .slice na p.ns.length nc, .slice sa p.ss.length sc, .int .i64 p.gate, .int .i64 p.quota] 28 (0, 0))) := (Below.refl _ _).alloc (Nat.le_refl _) _
  have hx := Cf.refCheck_any (p.cfg ga gc ra rc pa qc na nc sa sc) B (w.alloc (.cells #[.int .i64 p.cats, .slice ga p.gs.length gc, .slice ra p.rs.length rc, .slice pa p.ps.length qc, .slice na p.ns.length nc, .slice sa p.ss.length sc, .int .i64 p.gate, .int .i64 p.quota] 28 (0, 0))) (Nat.le_trans hB hal.size) (h.below (hal.mono hB))
  rw [chk_at, HC.out, HC2.out] at hx
  have HAL := Lib.hid hal
  have HZ := Lib.hid (heap_alloc_new w (.cells #[.int .i64 p.cats, .slice ga p.gs.length gc, .slice ra p.rs.length rc, .slice pa p.ps.length qc, .slice na p.ns.length nc, .slice sa p.ss.length sc, .int .i64 p.gate, .int .i64 p.quota] 28 (0, 0)))
  have h' := h.more_at hB
  have H1 : Hid (Cf.RowT 3 w w.heap.size ga p.gs.length fun i j => (p.gs.getD i []).getD j 0) := Lib.hid h'.g
  have H2 : Hid (Cf.RowT 3 w w.heap.size ra p.rs.length fun i j => (p.rs.getD i []).getD j 0) := Lib.hid h'.r
  have H3 : Hid (Cf.RowT 2 w w.heap.size pa p.ps.length fun i j => (p.ps.getD i []).getD j 0) := Lib.hid h'.p
  have H4 : Hid (Cf.RowT 2 w w.heap.size na p.ns.length fun i j => (p.ns.getD i []).getD j 0) := Lib.hid h'.n
  have H5 : Hid (Cf.RowT 2 w w.heap.size sa p.ss.length fun i j => (p.ss.getD i []).getD j 0) := Lib.hid h'.s
  have HTP := Lib.hid (text_parts p)
  have hcat := hok.cats.1
  have HCT := Lib.hid (fun (W : World) => num_call hcat (by decide) (by rcases hcat with ⟨h, _⟩ | ⟨h, _⟩ | ⟨_, h, _⟩; (exact absurd h (by decide)); (exact absurd h (by decide)); exact h) W)
  have HCL := Lib.hid (word_len hcat)
  clear he1 he2 h h' hal hl hok hcat
  obtain ⟨tc, htc⟩ : ∃ tc, wordL 110 p.cats = tc := ⟨_, rfl⟩
  rw [htc] at HCT HCL
  have HTC := Lib.hid htc
  clear htc
  have hl0 : (joinL [kw 0, tc] ++ [10]).length ≤ 40 := by have := HCL.out; simp [joinL, kw]; omega
  have HL0 : Hid (lineL (0, [p.cats]) = joinL [kw 0, tc] ++ [10]) := Lib.hid (by rw [← HTC.out]; rfl)
  have HLC := Lib.hid (fun (g : Nat) (W : World) (hg : g < W.heap.size) (hc : ∀ i u, ([kw 0, tc].map encS)[i]? = some u → W.cell? ⟨g, i, none⟩ = some u) => line_call g (kw 0) [tc] (by simp) (small_words (by have := HCL.out; simp [kw]; omega)) W hg hc)
  go_enter Tryz.func6, Tryz.ntmps6
  go_upto_region 5 with (first
    | (go_at_call 13; refine hx.mono ?_; rintro e w2 ⟨rfl, hb2⟩; have hz2 := (hb2.block _ (by simp)).trans HZ.out; obtain ⟨⟨c0, c1, c2, c3, c4, c5, c6, c7⟩, _⟩ := cells8 hz2; have HZ2 := Lib.hid hz2; have hb02 := HAL.out.trans (hb2.mono HAL.out.size); clear hb2 hz2 hx)
    | (go_at_call 15; refine (HCT.out _).mono ?_; rintro e w3 ⟨rfl, hb3⟩; have hz3 := (hb3.block _ (Array.getElem?_eq_some_iff.1 HZ2.out).1).trans HZ2.out; have HZ3 := Lib.hid hz3; have hb03 := hb02.trans (hb3.mono hb02.size); clear hb3 hz3 hb02)
    | (go_at_call 14; refine (HLC.out w3.heap.size _ (by simp) (fun i u hi => by have h0 := cells_new w3 ([kw 0, tc].map encS) 9 i u hi; rwa [add_plain] at h0)).mono ?_; rintro e wz ⟨rfl, hb4⟩; have hz4 := (hb4.block _ (by have := (Array.getElem?_eq_some_iff.1 HZ3.out).1; simp; omega)).trans ((Below.heap_alloc w3 _ _ (Array.getElem?_eq_some_iff.1 HZ3.out).1).trans HZ3.out); have HZ4 := Lib.hid hz4; have hbz := (hb03.alloc hb03.size _).trans (hb4.mono (by simp; have := hb03.size; omega)); clear hb4 hz4 hb03))
  obtain ⟨x0, hx0⟩ : ∃ x0, joinL [kw 0, tc] ++ [10] = x0 := ⟨_, rfl⟩
  rw [hx0] at hl0 ⊢
  have EX0 := Lib.hid hx0
  clear hx0 c0 c1 c2 c3 c4 c5 c6 c7
  go_wp2
  go_loopw [6, 7] (fun s i wr => ∃ k : Nat, k ≤ p.gs.length ∧ i = .int .i64 k ∧ s = .string (tb (x0 ++ ((p.gs.take k).map (fun v => lineL (1, v))).flatten)) ∧ (x0 ++ ((p.gs.take k).map (fun v => lineL (1, v))).flatten).length ≤ 40 + 40 * k ∧ Below wz.heap.size wz wr) (fun _ i _ => p.gs.length - (intOf i).toNat)
  case atStart => exact ⟨0, Nat.zero_le _, rfl, by simp, by simp; omega, Below.refl _ _⟩
  case round =>
    obtain ⟨k, hk, rfl, rfl, hlen, hbw⟩ := hrel
    have hb1 : Below w.heap.size w wr := hbz.trans (hbw.mono hbz.size)
    have f1 := (box_cell ((hbw.block _ (Array.getElem?_eq_some_iff.1 HZ4.out).1).trans HZ4.out) 1 _ rfl).1
    have hl1 : w.heap.size < wr.heap.size := Nat.lt_of_lt_of_le (Array.getElem?_eq_some_iff.1 HZ4.out).1 hbw.size
    by_cases hlt : k < p.gs.length
    · obtain ⟨x, rfl, hxb, k0, k1, k2⟩ := Cf.RowT.at3 (H1.out.below hb1) k hlt
      have hxl : (x.add (k * 3)).block < wr.heap.size := by rw [block_of_add]; have := hb1.size; omega
      have hki : (k : Int) < (p.gs.length : Int) := by omega
      have hkd : decide ((k : Int) < (p.gs.length : Int)) = true := decide_eq_true hki
      have hk0 : ¬ (k : Int) < 0 := by omega
      have HM : Hid (((p.gs.take (k + 1)).map (fun v => lineL (1, v))).flatten = ((p.gs.take k).map (fun v => lineL (1, v))).flatten ++ lineL (1, p.gs.getD k [])) := Lib.hid (map_stepL hlt)
      have hv := HOK.out.gs _ (mem_get hlt)
      have hv3 := list3 (HPL.out.gs _ (mem_get hlt))
      rw [hv3] at hv HM
      obtain ⟨z0, hz0'⟩ : ∃ z, (p.gs.getD k []).getD 0 0 = z := ⟨_, rfl⟩
      rw [hz0'] at k0 hv HM
      obtain ⟨z1, hz1'⟩ : ∃ z, (p.gs.getD k []).getD 1 0 = z := ⟨_, rfl⟩
      rw [hz1'] at k1 hv HM
      obtain ⟨z2, hz2'⟩ : ∃ z, (p.gs.getD k []).getD 2 0 = z := ⟨_, rfl⟩
      rw [hz2'] at k2 hv HM
      clear hv3 hz0' hz1' hz2'
      obtain ⟨o0, o1, o2, _⟩ := hv
      obtain ⟨T0, hT0⟩ : ∃ T, wordL 108 z0 = T := ⟨_, rfl⟩
      obtain ⟨T1, hT1⟩ : ∃ T, wordL 110 z1 = T := ⟨_, rfl⟩
      obtain ⟨T2, hT2⟩ : ∃ T, wordL 110 z2 = T := ⟨_, rfl⟩
      have hq0 := word_len o0
      have hq1 := word_len o1
      have hq2 := word_len o2
      have hC0 := fun (W : World) => lab_call o0 W
      have hC1 := fun (W : World) => num_call o1 (by decide) (okv_num o1) W
      have hC2 := fun (W : World) => num_call o2 (by decide) (okv_num o2) W
      rw [hT0] at hq0 hC0
      rw [hT1] at hq1 hC1
      rw [hT2] at hq2 hC2
      have HM2 : Hid (lineL (1, [z0, z1, z2]) = joinL [kw 1, T0, T1, T2] ++ [10]) := Lib.hid (by rw [← hT0, ← hT1, ← hT2]; simp [lineL, bodyL, tailL, kf, joinL])
      have HCa := Lib.hid hC0
      have HCb := Lib.hid hC1
      have HCd := Lib.hid hC2
      have HLN := Lib.hid (fun (g : Nat) (W : World) (hg : g < W.heap.size) (hc : ∀ i u, ([kw 1, T0, T1, T2].map encS)[i]? = some u → W.cell? ⟨g, i, none⟩ = some u) => line_call g (kw 1) [T0, T1, T2] (by simp) (small_words (by simp [kw]; omega)) W hg hc)
      have htl : (tb (joinL [kw 1, T0, T1, T2] ++ [10])).size ≤ 40 := by rw [tb_size]; simp [joinL, kw]; omega
      clear hT0 hT1 hT2 hq0 hq1 hq2 hC0 hC1 hC2 o0 o1 o2
      obtain ⟨cur, hcur⟩ : ∃ cur, x0 ++ ((p.gs.take k).map (fun v => lineL (1, v))).flatten = cur := ⟨_, rfl⟩
      have HCR := Lib.hid hcur
      rw [hcur] at hlen ⊢
      clear hcur
      have HLEN := Lib.hid hlen
      have hus : (tb cur).size ≤ 2000 := by rw [tb_size]; omega
      clear hlen
      obtain ⟨ut, hut⟩ : ∃ ut, tb cur = ut := ⟨_, rfl⟩
      obtain ⟨tl, htl'⟩ : ∃ tl, tb (joinL [kw 1, T0, T1, T2] ++ [10]) = tl := ⟨_, rfl⟩
      rw [hut] at hus ⊢
      rw [htl'] at htl HLN
      have HUT := Lib.hid hut
      have HTL := Lib.hid htl'
      clear hut htl'
      have hcc : ¬ 9223372036854775807 < ut.size + tl.size := by omega
      go_wp2
      apply wp_region_bs [32, 33, 34, 35, 36, 37, 38, 39, 40, 41, 42, 43, 44, 45, 46, 47, 48, 49, 50, 51, 52, 53, 54, 55, 56] [_, _, _, _, _, _, _, _, _, _, _, _, _, _, _, _, _, _, _, _, _, _, undef, _, _] 4 [.string ⟨#[103, 117, 101, 115, 116]⟩, .string (tb T0), .string (tb T1), .string (tb T2)] 22
      case hm => kernel_rfl
      case hT => intro y; simp only [setAll, List.setIfInBounds_toArray, List.set_cons_succ, List.set_cons_zero]; exact rfl
      case hok => kernel_rfl
      case hn => decide
      case hs =>
        refine bs_op 32 [] (by kernel_rfl) (by decide) (fun y w' HW hd K hK => ?_) ?_
        · go_simp
          refine hK _ _ ?_ ?_ (Below.refl _ _)
          · simp [upd]
          · exact rfl
        refine bs_op 33 [] (by kernel_rfl) (by decide) (fun y w' HW hd K hK => ?_) ?_
        · go_simp
          refine hK _ _ ?_ ?_ (Below.refl _ _)
          · simp [upd]
          · exact rfl
        refine bs_op 34 [1] (by kernel_rfl) (by decide) (fun y w' HW hd K hK => ?_) ?_
        · have e1 := bsR_nth (hd 1 (by simp)) (by decide) rfl
          have hcl : ∀ p : Addr, p.block < wr.heap.size → w'.cell? p = wr.cell? p := fun p hp => HW.cell hp
          go_simp
          refine hK _ _ ?_ ?_ (Below.refl _ _)
          · simp [upd, e1]
          · exact rfl
        refine bs_op 35 [] (by kernel_rfl) (by decide) (fun y w' HW hd K hK => ?_) ?_
        · go_simp
          refine hK _ _ ?_ ?_ (Below.refl _ _)
          · simp [upd]
          · exact rfl
        refine bs_op 36 [2, 3] (by kernel_rfl) (by decide) (fun y w' HW hd K hK => ?_) ?_
        · have e2 := bsR_nth (hd 2 (by simp)) (by decide) rfl
          have e3 := bsR_nth (hd 3 (by simp)) (by decide) rfl
          go_simp
          refine hK _ _ ?_ ?_ (Below.refl _ _)
          · simp [upd, e2, e3]
          · exact rfl
        refine bs_op 37 [4] (by kernel_rfl) (by decide) (fun y w' HW hd K hK => ?_) ?_
        · have e4 := bsR_nth (hd 4 (by simp)) (by decide) rfl
          go_simp
          refine hK _ _ ?_ ?_ (Below.refl _ _)
          · simp [upd, e4]
          · exact rfl
        refine bs_op 38 [5] (by kernel_rfl) (by decide) (fun y w' HW hd K hK => ?_) ?_
        · have e5 := bsR_nth (hd 5 (by simp)) (by decide) rfl
          have hcl : ∀ p : Addr, p.block < wr.heap.size → w'.cell? p = wr.cell? p := fun p hp => HW.cell hp
          go_simp
          refine hK _ _ ?_ ?_ (Below.refl _ _)
          · simp [upd, e5]
          · exact rfl
        refine bs_op 39 [6] (by kernel_rfl) (by decide) (fun y w' HW hd K hK => ?_) ?_
        · have e6 := bsR_nth (hd 6 (by simp)) (by decide) rfl
          go_simp
          refine (HCa.out _).mono ?_
          rintro e w3 ⟨rfl, hb3⟩
          refine hK _ _ ?_ ?_ hb3
          · simp [upd, e6]
          · exact rfl
        refine bs_op 40 [] (by kernel_rfl) (by decide) (fun y w' HW hd K hK => ?_) ?_
        · go_simp
          refine hK _ _ ?_ ?_ (Below.refl _ _)
          · simp [upd]
          · exact rfl
        refine bs_op 41 [8] (by kernel_rfl) (by decide) (fun y w' HW hd K hK => ?_) ?_
        · have e8 := bsR_nth (hd 8 (by simp)) (by decide) rfl
          have hcl : ∀ p : Addr, p.block < wr.heap.size → w'.cell? p = wr.cell? p := fun p hp => HW.cell hp
          go_simp
          refine hK _ _ ?_ ?_ (Below.refl _ _)
          · simp [upd, e8]
          · exact rfl
        refine bs_op 42 [] (by kernel_rfl) (by decide) (fun y w' HW hd K hK => ?_) ?_
        · go_simp
          refine hK _ _ ?_ ?_ (Below.refl _ _)
          · simp [upd]
          · exact rfl
        refine bs_op 43 [9, 10] (by kernel_rfl) (by decide) (fun y w' HW hd K hK => ?_) ?_
        · have e9 := bsR_nth (hd 9 (by simp)) (by decide) rfl
          have e10 := bsR_nth (hd 10 (by simp)) (by decide) rfl
          go_simp
          refine hK _ _ ?_ ?_ (Below.refl _ _)
          · simp [upd, e9, e10]
          · exact rfl
        refine bs_op 44 [11] (by kernel_rfl) (by decide) (fun y w' HW hd K hK => ?_) ?_
        · have e11 := bsR_nth (hd 11 (by simp)) (by decide) rfl
          go_simp
          refine hK _ _ ?_ ?_ (Below.refl _ _)
          · simp [upd, e11]
          · exact rfl
        refine bs_op 45 [12] (by kernel_rfl) (by decide) (fun y w' HW hd K hK => ?_) ?_
        · have e12 := bsR_nth (hd 12 (by simp)) (by decide) rfl
          have hcl : ∀ p : Addr, p.block < wr.heap.size → w'.cell? p = wr.cell? p := fun p hp => HW.cell hp
          go_simp
          refine hK _ _ ?_ ?_ (Below.refl _ _)
          · simp [upd, e12]
          · exact rfl
        refine bs_op 46 [13, 7] (by kernel_rfl) (by decide) (fun y w' HW hd K hK => ?_) ?_
        · have e7 := bsR_nth (hd 7 (by simp)) (by decide) rfl
          have e13 := bsR_nth (hd 13 (by simp)) (by decide) rfl
          go_simp
          refine (HCb.out _).mono ?_
          rintro e w3 ⟨rfl, hb3⟩
          refine hK _ _ ?_ ?_ hb3
          · simp [upd, e7, e13]
          · exact rfl
        refine bs_op 47 [] (by kernel_rfl) (by decide) (fun y w' HW hd K hK => ?_) ?_
        · go_simp
          refine hK _ _ ?_ ?_ (Below.refl _ _)
          · simp [upd]
          · exact rfl
        refine bs_op 48 [15] (by kernel_rfl) (by decide) (fun y w' HW hd K hK => ?_) ?_
        · have e15 := bsR_nth (hd 15 (by simp)) (by decide) rfl
          have hcl : ∀ p : Addr, p.block < wr.heap.size → w'.cell? p = wr.cell? p := fun p hp => HW.cell hp
          go_simp
          refine hK _ _ ?_ ?_ (Below.refl _ _)
          · simp [upd, e15]
          · exact rfl
        refine bs_op 49 [] (by kernel_rfl) (by decide) (fun y w' HW hd K hK => ?_) ?_
        · go_simp
          refine hK _ _ ?_ ?_ (Below.refl _ _)
          · simp [upd]
          · exact rfl
        refine bs_op 50 [16, 17] (by kernel_rfl) (by decide) (fun y w' HW hd K hK => ?_) ?_
        · have e16 := bsR_nth (hd 16 (by simp)) (by decide) rfl
          have e17 := bsR_nth (hd 17 (by simp)) (by decide) rfl
          go_simp
          refine hK _ _ ?_ ?_ (Below.refl _ _)
          · simp [upd, e16, e17]
          · exact rfl
        refine bs_op 51 [18] (by kernel_rfl) (by decide) (fun y w' HW hd K hK => ?_) ?_
        · have e18 := bsR_nth (hd 18 (by simp)) (by decide) rfl
          go_simp
          refine hK _ _ ?_ ?_ (Below.refl _ _)
          · simp [upd, e18]
          · exact rfl
        refine bs_op 52 [19] (by kernel_rfl) (by decide) (fun y w' HW hd K hK => ?_) ?_
        · have e19 := bsR_nth (hd 19 (by simp)) (by decide) rfl
          have hcl : ∀ p : Addr, p.block < wr.heap.size → w'.cell? p = wr.cell? p := fun p hp => HW.cell hp
          go_simp
          refine hK _ _ ?_ ?_ (Below.refl _ _)
          · simp [upd, e19]
          · exact rfl
        refine bs_op 53 [20, 14] (by kernel_rfl) (by decide) (fun y w' HW hd K hK => ?_) ?_
        · have e14 := bsR_nth (hd 14 (by simp)) (by decide) rfl
          have e20 := bsR_nth (hd 20 (by simp)) (by decide) rfl
          go_simp
          refine (HCd.out _).mono ?_
          rintro e w3 ⟨rfl, hb3⟩
          refine hK _ _ ?_ ?_ hb3
          · simp [upd, e14, e20]
          · exact rfl
        refine bs_build 54 [7, 14, 21] (by kernel_rfl) rfl 9 (fun y w' HW hd K hK => ?_) ?_
        · have e7 := bsR_nth (hd 7 (by simp)) (by decide) rfl
          have e14 := bsR_nth (hd 14 (by simp)) (by decide) rfl
          have e21 := bsR_nth (hd 21 (by simp)) (by decide) rfl
          go_simp
          refine hK _ ?_ ?_
          · simp [upd, e7, e14, e21]
          · exact rfl
        refine bs_op 55 [22, 21] (by kernel_rfl) (by decide) (fun y w' HW hd K hK => ?_) ?_
        · have e21 := bsR_nth (hd 21 (by simp)) (by decide) rfl
          obtain ⟨g, eb, hg0, hg1, hgc⟩ := bsR_slice (hd 22 (by simp))
          go_simp
          refine (HLN.out g _ hg1 hgc).mono ?_
          rintro e w3 ⟨rfl, hb3⟩
          refine hK _ _ ?_ ?_ hb3
          · simp [upd, e21, eb]
          · exact rfl
        refine bs_op 56 [0, 23] (by kernel_rfl) (by decide) (fun y w' HW hd K hK => ?_) ?_
        · have e0 := bsR_nth (hd 0 (by simp)) (by decide) rfl
          have e23 := bsR_nth (hd 23 (by simp)) (by decide) rfl
          go_simp
          refine hK _ _ ?_ ?_ (Below.refl _ _)
          · simp [upd, e0, e23]
          · exact rfl
        refine bs_last fun y w' HW hd K hK => ?_
        have e0 := bsR_nth (hd 0 (by omega)) (by decide) rfl
        have e1 := bsR_nth (hd 1 (by omega)) (by decide) rfl
        have e2 := bsR_nth (hd 2 (by omega)) (by decide) rfl
        have e3 := bsR_nth (hd 3 (by omega)) (by decide) rfl
        have e4 := bsR_nth (hd 4 (by omega)) (by decide) rfl
        have e5 := bsR_nth (hd 5 (by omega)) (by decide) rfl
        have e6 := bsR_nth (hd 6 (by omega)) (by decide) rfl
        have e7 := bsR_nth (hd 7 (by omega)) (by decide) rfl
        have e8 := bsR_nth (hd 8 (by omega)) (by decide) rfl
        have e9 := bsR_nth (hd 9 (by omega)) (by decide) rfl
        have e10 := bsR_nth (hd 10 (by omega)) (by decide) rfl
        have e11 := bsR_nth (hd 11 (by omega)) (by decide) rfl
        have e12 := bsR_nth (hd 12 (by omega)) (by decide) rfl
        have e13 := bsR_nth (hd 13 (by omega)) (by decide) rfl
        have e14 := bsR_nth (hd 14 (by omega)) (by decide) rfl
        have e15 := bsR_nth (hd 15 (by omega)) (by decide) rfl
        have e16 := bsR_nth (hd 16 (by omega)) (by decide) rfl
        have e17 := bsR_nth (hd 17 (by omega)) (by decide) rfl
        have e18 := bsR_nth (hd 18 (by omega)) (by decide) rfl
        have e19 := bsR_nth (hd 19 (by omega)) (by decide) rfl
        have e20 := bsR_nth (hd 20 (by omega)) (by decide) rfl
        have e21 := bsR_nth (hd 21 (by omega)) (by decide) rfl
        have e23 := bsR_nth (hd 23 (by omega)) (by decide) rfl
        have e24 := bsR_nth (hd 24 (by omega)) (by decide) rfl
        go_simp
        refine hK _ _ ?_
        clear hd hK K e0 e1 e2 e3 e4 e5 e6 e7 e8 e9 e10 e11 e12 e13 e14 e15 e16 e17 e18 e19 e20 e21 e23 e24
        have HWB : Below wr.heap.size wr w' := HW
        clear HW
        go_wp2
        go_roundw
        case rel =>
          refine ⟨k + 1, by omega, by go_num, ?_, ?_, hbw.trans (HWB.mono hbw.size)⟩
          · rw [HM.out, HM2.out, ← List.append_assoc, HCR.out, ← tb_app5, HUT.out, HTL.out]
          · rw [HM.out, HM2.out, ← List.append_assoc, HCR.out, List.length_append]
            have h1 := HLEN.out
            have h2 : (joinL [kw 1, T0, T1, T2] ++ [10]).length ≤ 40 := by rw [← tb_size, HTL.out]; exact htl
            omega
        case measure => simp [intOf]; omega
    · obtain rfl : k = p.gs.length := by omega
      rw [List.take_length] at hlen ⊢
      obtain ⟨x1, hx1⟩ : ∃ x1, x0 ++ (p.gs.map (fun v => lineL (1, v))).flatten = x1 := ⟨_, rfl⟩
      rw [hx1] at hlen ⊢
      have E1 := Lib.hid hx1
      have hl1x : x1.length ≤ 200 := by omega
      clear hx1 hlen
      go_wp2
      go_loopw [6, 8] (fun s i wr => ∃ k : Nat, k ≤ p.rs.length ∧ i = .int .i64 k ∧ s = .string (tb (x1 ++ ((p.rs.take k).map (fun v => lineL (2, v))).flatten)) ∧ (x1 ++ ((p.rs.take k).map (fun v => lineL (2, v))).flatten).length ≤ 200 + 40 * k ∧ Below wz.heap.size wz wr) (fun _ i _ => p.rs.length - (intOf i).toNat)
      case atStart => exact ⟨0, Nat.zero_le _, rfl, by simp, by simp; omega, hbw⟩
      case round =>
        clear hbw f1
        obtain ⟨k, hk, rfl, rfl, hlen, hbw⟩ := hrel
        have hb1 : Below w.heap.size w wr := hbz.trans (hbw.mono hbz.size)
        have f1 := (box_cell ((hbw.block _ (Array.getElem?_eq_some_iff.1 HZ4.out).1).trans HZ4.out) 2 _ rfl).1
        have hl1 : w.heap.size < wr.heap.size := Nat.lt_of_lt_of_le (Array.getElem?_eq_some_iff.1 HZ4.out).1 hbw.size
        by_cases hlt : k < p.rs.length
        · obtain ⟨x, rfl, hxb, k0, k1, k2⟩ := Cf.RowT.at3 (H2.out.below hb1) k hlt
          have hxl : (x.add (k * 3)).block < wr.heap.size := by rw [block_of_add]; have := hb1.size; omega
          have hki : (k : Int) < (p.rs.length : Int) := by omega
          have hkd : decide ((k : Int) < (p.rs.length : Int)) = true := decide_eq_true hki
          have hk0 : ¬ (k : Int) < 0 := by omega
          have HM : Hid (((p.rs.take (k + 1)).map (fun v => lineL (2, v))).flatten = ((p.rs.take k).map (fun v => lineL (2, v))).flatten ++ lineL (2, p.rs.getD k [])) := Lib.hid (map_stepL hlt)
          have hv := HOK.out.rs _ (mem_get hlt)
          have hv3 := list3 (HPL.out.rs _ (mem_get hlt))
          rw [hv3] at hv HM
          obtain ⟨z0, hz0'⟩ : ∃ z, (p.rs.getD k []).getD 0 0 = z := ⟨_, rfl⟩
          rw [hz0'] at k0 hv HM
          obtain ⟨z1, hz1'⟩ : ∃ z, (p.rs.getD k []).getD 1 0 = z := ⟨_, rfl⟩
          rw [hz1'] at k1 hv HM
          obtain ⟨z2, hz2'⟩ : ∃ z, (p.rs.getD k []).getD 2 0 = z := ⟨_, rfl⟩
          rw [hz2'] at k2 hv HM
          clear hv3 hz0' hz1' hz2'
          obtain ⟨o0, o1, o2, _⟩ := hv
          obtain ⟨T0, hT0⟩ : ∃ T, wordL 108 z0 = T := ⟨_, rfl⟩
          obtain ⟨T1, hT1⟩ : ∃ T, wordL 110 z1 = T := ⟨_, rfl⟩
          obtain ⟨T2, hT2⟩ : ∃ T, wordL 110 z2 = T := ⟨_, rfl⟩
          have hq0 := word_len o0
          have hq1 := word_len o1
          have hq2 := word_len o2
          have hC0 := fun (W : World) => lab_call o0 W
          have hC1 := fun (W : World) => num_call o1 (by decide) (okv_num o1) W
          have hC2 := fun (W : World) => num_call o2 (by decide) (okv_num o2) W
          rw [hT0] at hq0 hC0
          rw [hT1] at hq1 hC1
          rw [hT2] at hq2 hC2
          have HM2 : Hid (lineL (2, [z0, z1, z2]) = joinL [kw 2, T0, T1, T2] ++ [10]) := Lib.hid (by rw [← hT0, ← hT1, ← hT2]; simp [lineL, bodyL, tailL, kf, joinL])
          have HCa := Lib.hid hC0
          have HCb := Lib.hid hC1
          have HCd := Lib.hid hC2
          have HLN := Lib.hid (fun (g : Nat) (W : World) (hg : g < W.heap.size) (hc : ∀ i u, ([kw 2, T0, T1, T2].map encS)[i]? = some u → W.cell? ⟨g, i, none⟩ = some u) => line_call g (kw 2) [T0, T1, T2] (by simp) (small_words (by simp [kw]; omega)) W hg hc)
          have htl : (tb (joinL [kw 2, T0, T1, T2] ++ [10])).size ≤ 40 := by rw [tb_size]; simp [joinL, kw]; omega
          clear hT0 hT1 hT2 hq0 hq1 hq2 hC0 hC1 hC2 o0 o1 o2
          obtain ⟨cur, hcur⟩ : ∃ cur, x1 ++ ((p.rs.take k).map (fun v => lineL (2, v))).flatten = cur := ⟨_, rfl⟩
          have HCR := Lib.hid hcur
          rw [hcur] at hlen ⊢
          clear hcur
          have HLEN := Lib.hid hlen
          have hus : (tb cur).size ≤ 2000 := by rw [tb_size]; omega
          clear hlen
          obtain ⟨ut, hut⟩ : ∃ ut, tb cur = ut := ⟨_, rfl⟩
          obtain ⟨tl, htl'⟩ : ∃ tl, tb (joinL [kw 2, T0, T1, T2] ++ [10]) = tl := ⟨_, rfl⟩
          rw [hut] at hus ⊢
          rw [htl'] at htl HLN
          have HUT := Lib.hid hut
          have HTL := Lib.hid htl'
          clear hut htl'
          have hcc : ¬ 9223372036854775807 < ut.size + tl.size := by omega
          go_wp2
          apply wp_region_bs [64, 65, 66, 67, 68, 69, 70, 71, 72, 73, 74, 75, 76, 77, 78, 79, 80, 81, 82, 83, 84, 85, 86, 87, 88] [_, _, _, _, _, _, _, _, _, _, _, _, _, _, _, _, _, _, _, _, _, _, undef, _, _] 4 [.string ⟨#[114, 97, 110, 103, 101]⟩, .string (tb T0), .string (tb T1), .string (tb T2)] 22
          case hm => kernel_rfl
          case hT => intro y; simp only [setAll, List.setIfInBounds_toArray, List.set_cons_succ, List.set_cons_zero]; exact rfl
          case hok => kernel_rfl
          case hn => decide
          case hs =>
            refine bs_op 64 [] (by kernel_rfl) (by decide) (fun y w' HW hd K hK => ?_) ?_
            · go_simp
              refine hK _ _ ?_ ?_ (Below.refl _ _)
              · simp [upd]
              · exact rfl
            refine bs_op 65 [] (by kernel_rfl) (by decide) (fun y w' HW hd K hK => ?_) ?_
            · go_simp
              refine hK _ _ ?_ ?_ (Below.refl _ _)
              · simp [upd]
              · exact rfl
            refine bs_op 66 [1] (by kernel_rfl) (by decide) (fun y w' HW hd K hK => ?_) ?_
            · have e1 := bsR_nth (hd 1 (by simp)) (by decide) rfl
              have hcl : ∀ p : Addr, p.block < wr.heap.size → w'.cell? p = wr.cell? p := fun p hp => HW.cell hp
              go_simp
              refine hK _ _ ?_ ?_ (Below.refl _ _)
              · simp [upd, e1]
              · exact rfl
            refine bs_op 67 [] (by kernel_rfl) (by decide) (fun y w' HW hd K hK => ?_) ?_
            · go_simp
              refine hK _ _ ?_ ?_ (Below.refl _ _)
              · simp [upd]
              · exact rfl
            refine bs_op 68 [2, 3] (by kernel_rfl) (by decide) (fun y w' HW hd K hK => ?_) ?_
            · have e2 := bsR_nth (hd 2 (by simp)) (by decide) rfl
              have e3 := bsR_nth (hd 3 (by simp)) (by decide) rfl
              go_simp
              refine hK _ _ ?_ ?_ (Below.refl _ _)
              · simp [upd, e2, e3]
              · exact rfl
            refine bs_op 69 [4] (by kernel_rfl) (by decide) (fun y w' HW hd K hK => ?_) ?_
            · have e4 := bsR_nth (hd 4 (by simp)) (by decide) rfl
              go_simp
              refine hK _ _ ?_ ?_ (Below.refl _ _)
              · simp [upd, e4]
              · exact rfl
            refine bs_op 70 [5] (by kernel_rfl) (by decide) (fun y w' HW hd K hK => ?_) ?_
            · have e5 := bsR_nth (hd 5 (by simp)) (by decide) rfl
              have hcl : ∀ p : Addr, p.block < wr.heap.size → w'.cell? p = wr.cell? p := fun p hp => HW.cell hp
              go_simp
              refine hK _ _ ?_ ?_ (Below.refl _ _)
              · simp [upd, e5]
              · exact rfl
            refine bs_op 71 [6] (by kernel_rfl) (by decide) (fun y w' HW hd K hK => ?_) ?_
            · have e6 := bsR_nth (hd 6 (by simp)) (by decide) rfl
              go_simp
              refine (HCa.out _).mono ?_
              rintro e w3 ⟨rfl, hb3⟩
              refine hK _ _ ?_ ?_ hb3
              · simp [upd, e6]
              · exact rfl
            refine bs_op 72 [] (by kernel_rfl) (by decide) (fun y w' HW hd K hK => ?_) ?_
            · go_simp
              refine hK _ _ ?_ ?_ (Below.refl _ _)
              · simp [upd]
              · exact rfl
            refine bs_op 73 [8] (by kernel_rfl) (by decide) (fun y w' HW hd K hK => ?_) ?_
            · have e8 := bsR_nth (hd 8 (by simp)) (by decide) rfl
              have hcl : ∀ p : Addr, p.block < wr.heap.size → w'.cell? p = wr.cell? p := fun p hp => HW.cell hp
              go_simp
              refine hK _ _ ?_ ?_ (Below.refl _ _)
              · simp [upd, e8]
              · exact rfl
            refine bs_op 74 [] (by kernel_rfl) (by decide) (fun y w' HW hd K hK => ?_) ?_
            · go_simp
              refine hK _ _ ?_ ?_ (Below.refl _ _)
              · simp [upd]
              · exact rfl
            refine bs_op 75 [9, 10] (by kernel_rfl) (by decide) (fun y w' HW hd K hK => ?_) ?_
            · have e9 := bsR_nth (hd 9 (by simp)) (by decide) rfl
              have e10 := bsR_nth (hd 10 (by simp)) (by decide) rfl
              go_simp
              refine hK _ _ ?_ ?_ (Below.refl _ _)
              · simp [upd, e9, e10]
              · exact rfl
            refine bs_op 76 [11] (by kernel_rfl) (by decide) (fun y w' HW hd K hK => ?_) ?_
            · have e11 := bsR_nth (hd 11 (by simp)) (by decide) rfl
              go_simp
              refine hK _ _ ?_ ?_ (Below.refl _ _)
              · simp [upd, e11]
              · exact rfl
            refine bs_op 77 [12] (by kernel_rfl) (by decide) (fun y w' HW hd K hK => ?_) ?_
            · have e12 := bsR_nth (hd 12 (by simp)) (by decide) rfl
              have hcl : ∀ p : Addr, p.block < wr.heap.size → w'.cell? p = wr.cell? p := fun p hp => HW.cell hp
              go_simp
              refine hK _ _ ?_ ?_ (Below.refl _ _)
              · simp [upd, e12]
              · exact rfl
            refine bs_op 78 [13, 7] (by kernel_rfl) (by decide) (fun y w' HW hd K hK => ?_) ?_
            · have e7 := bsR_nth (hd 7 (by simp)) (by decide) rfl
              have e13 := bsR_nth (hd 13 (by simp)) (by decide) rfl
              go_simp
              refine (HCb.out _).mono ?_
              rintro e w3 ⟨rfl, hb3⟩
              refine hK _ _ ?_ ?_ hb3
              · simp [upd, e7, e13]
              · exact rfl
            refine bs_op 79 [] (by kernel_rfl) (by decide) (fun y w' HW hd K hK => ?_) ?_
            · go_simp
              refine hK _ _ ?_ ?_ (Below.refl _ _)
              · simp [upd]
              · exact rfl
            refine bs_op 80 [15] (by kernel_rfl) (by decide) (fun y w' HW hd K hK => ?_) ?_
            · have e15 := bsR_nth (hd 15 (by simp)) (by decide) rfl
              have hcl : ∀ p : Addr, p.block < wr.heap.size → w'.cell? p = wr.cell? p := fun p hp => HW.cell hp
              go_simp
              refine hK _ _ ?_ ?_ (Below.refl _ _)
              · simp [upd, e15]
              · exact rfl
            refine bs_op 81 [] (by kernel_rfl) (by decide) (fun y w' HW hd K hK => ?_) ?_
            · go_simp
              refine hK _ _ ?_ ?_ (Below.refl _ _)
              · simp [upd]
              · exact rfl
            refine bs_op 82 [16, 17] (by kernel_rfl) (by decide) (fun y w' HW hd K hK => ?_) ?_
            · have e16 := bsR_nth (hd 16 (by simp)) (by decide) rfl
              have e17 := bsR_nth (hd 17 (by simp)) (by decide) rfl
              go_simp
              refine hK _ _ ?_ ?_ (Below.refl _ _)
              · simp [upd, e16, e17]
              · exact rfl
            refine bs_op 83 [18] (by kernel_rfl) (by decide) (fun y w' HW hd K hK => ?_) ?_
            · have e18 := bsR_nth (hd 18 (by simp)) (by decide) rfl
              go_simp
              refine hK _ _ ?_ ?_ (Below.refl _ _)
              · simp [upd, e18]
              · exact rfl
            refine bs_op 84 [19] (by kernel_rfl) (by decide) (fun y w' HW hd K hK => ?_) ?_
            · have e19 := bsR_nth (hd 19 (by simp)) (by decide) rfl
              have hcl : ∀ p : Addr, p.block < wr.heap.size → w'.cell? p = wr.cell? p := fun p hp => HW.cell hp
              go_simp
              refine hK _ _ ?_ ?_ (Below.refl _ _)
              · simp [upd, e19]
              · exact rfl
            refine bs_op 85 [20, 14] (by kernel_rfl) (by decide) (fun y w' HW hd K hK => ?_) ?_
            · have e14 := bsR_nth (hd 14 (by simp)) (by decide) rfl
              have e20 := bsR_nth (hd 20 (by simp)) (by decide) rfl
              go_simp
              refine (HCd.out _).mono ?_
              rintro e w3 ⟨rfl, hb3⟩
              refine hK _ _ ?_ ?_ hb3
              · simp [upd, e14, e20]
              · exact rfl
            refine bs_build 86 [7, 14, 21] (by kernel_rfl) rfl 9 (fun y w' HW hd K hK => ?_) ?_
            · have e7 := bsR_nth (hd 7 (by simp)) (by decide) rfl
              have e14 := bsR_nth (hd 14 (by simp)) (by decide) rfl
              have e21 := bsR_nth (hd 21 (by simp)) (by decide) rfl
              go_simp
              refine hK _ ?_ ?_
              · simp [upd, e7, e14, e21]
              · exact rfl
            refine bs_op 87 [22, 21] (by kernel_rfl) (by decide) (fun y w' HW hd K hK => ?_) ?_
            · have e21 := bsR_nth (hd 21 (by simp)) (by decide) rfl
              obtain ⟨g, eb, hg0, hg1, hgc⟩ := bsR_slice (hd 22 (by simp))
              go_simp
              refine (HLN.out g _ hg1 hgc).mono ?_
              rintro e w3 ⟨rfl, hb3⟩
              refine hK _ _ ?_ ?_ hb3
              · simp [upd, e21, eb]
              · exact rfl
            refine bs_op 88 [0, 23] (by kernel_rfl) (by decide) (fun y w' HW hd K hK => ?_) ?_
            · have e0 := bsR_nth (hd 0 (by simp)) (by decide) rfl
              have e23 := bsR_nth (hd 23 (by simp)) (by decide) rfl
              go_simp
              refine hK _ _ ?_ ?_ (Below.refl _ _)
              · simp [upd, e0, e23]
              · exact rfl
            refine bs_last fun y w' HW hd K hK => ?_
            have e0 := bsR_nth (hd 0 (by omega)) (by decide) rfl
            have e1 := bsR_nth (hd 1 (by omega)) (by decide) rfl
            have e2 := bsR_nth (hd 2 (by omega)) (by decide) rfl
            have e3 := bsR_nth (hd 3 (by omega)) (by decide) rfl
            have e4 := bsR_nth (hd 4 (by omega)) (by decide) rfl
            have e5 := bsR_nth (hd 5 (by omega)) (by decide) rfl
            have e6 := bsR_nth (hd 6 (by omega)) (by decide) rfl
            have e7 := bsR_nth (hd 7 (by omega)) (by decide) rfl
            have e8 := bsR_nth (hd 8 (by omega)) (by decide) rfl
            have e9 := bsR_nth (hd 9 (by omega)) (by decide) rfl
            have e10 := bsR_nth (hd 10 (by omega)) (by decide) rfl
            have e11 := bsR_nth (hd 11 (by omega)) (by decide) rfl
            have e12 := bsR_nth (hd 12 (by omega)) (by decide) rfl
            have e13 := bsR_nth (hd 13 (by omega)) (by decide) rfl
            have e14 := bsR_nth (hd 14 (by omega)) (by decide) rfl
            have e15 := bsR_nth (hd 15 (by omega)) (by decide) rfl
            have e16 := bsR_nth (hd 16 (by omega)) (by decide) rfl
            have e17 := bsR_nth (hd 17 (by omega)) (by decide) rfl
            have e18 := bsR_nth (hd 18 (by omega)) (by decide) rfl
            have e19 := bsR_nth (hd 19 (by omega)) (by decide) rfl
            have e20 := bsR_nth (hd 20 (by omega)) (by decide) rfl
            have e21 := bsR_nth (hd 21 (by omega)) (by decide) rfl
            have e23 := bsR_nth (hd 23 (by omega)) (by decide) rfl
            have e24 := bsR_nth (hd 24 (by omega)) (by decide) rfl
            go_simp
            refine hK _ _ ?_
            clear hd hK K e0 e1 e2 e3 e4 e5 e6 e7 e8 e9 e10 e11 e12 e13 e14 e15 e16 e17 e18 e19 e20 e21 e23 e24
            have HWB : Below wr.heap.size wr w' := HW
            clear HW
            go_wp2
            go_roundw
            case rel =>
              refine ⟨k + 1, by omega, by go_num, ?_, ?_, hbw.trans (HWB.mono hbw.size)⟩
              · rw [HM.out, HM2.out, ← List.append_assoc, HCR.out, ← tb_app5, HUT.out, HTL.out]
              · rw [HM.out, HM2.out, ← List.append_assoc, HCR.out, List.length_append]
                have h1 := HLEN.out
                have h2 : (joinL [kw 2, T0, T1, T2] ++ [10]).length ≤ 40 := by rw [← tb_size, HTL.out]; exact htl
                omega
            case measure => simp [intOf]; omega
        · obtain rfl : k = p.rs.length := by omega
          rw [List.take_length] at hlen ⊢
          obtain ⟨x2, hx2⟩ : ∃ x2, x1 ++ (p.rs.map (fun v => lineL (2, v))).flatten = x2 := ⟨_, rfl⟩
          rw [hx2] at hlen ⊢
          have E2 := Lib.hid hx2
          have hl2x : x2.length ≤ 520 := by omega
          clear hx2 hlen
          go_wp2
          go_loopw [6, 9] (fun s i wr => ∃ k : Nat, k ≤ p.ps.length ∧ i = .int .i64 k ∧ s = .string (tb (x2 ++ ((p.ps.take k).map (fun v => lineL (3, v))).flatten)) ∧ (x2 ++ ((p.ps.take k).map (fun v => lineL (3, v))).flatten).length ≤ 520 + 40 * k ∧ Below wz.heap.size wz wr) (fun _ i _ => p.ps.length - (intOf i).toNat)
          case atStart => exact ⟨0, Nat.zero_le _, rfl, by simp, by simp; omega, hbw⟩
          case round =>
            clear hbw f1
            obtain ⟨k, hk, rfl, rfl, hlen, hbw⟩ := hrel
            have hb1 : Below w.heap.size w wr := hbz.trans (hbw.mono hbz.size)
            have f1 := (box_cell ((hbw.block _ (Array.getElem?_eq_some_iff.1 HZ4.out).1).trans HZ4.out) 3 _ rfl).1
            have hl1 : w.heap.size < wr.heap.size := Nat.lt_of_lt_of_le (Array.getElem?_eq_some_iff.1 HZ4.out).1 hbw.size
            by_cases hlt : k < p.ps.length
            · obtain ⟨x, rfl, hxb, k0, k1⟩ := Cf.RowT.at2 (H3.out.below hb1) k hlt
              have hxl : (x.add (k * 2)).block < wr.heap.size := by rw [block_of_add]; have := hb1.size; omega
              have hki : (k : Int) < (p.ps.length : Int) := by omega
              have hkd : decide ((k : Int) < (p.ps.length : Int)) = true := decide_eq_true hki
              have hk0 : ¬ (k : Int) < 0 := by omega
              have HM : Hid (((p.ps.take (k + 1)).map (fun v => lineL (3, v))).flatten = ((p.ps.take k).map (fun v => lineL (3, v))).flatten ++ lineL (3, p.ps.getD k [])) := Lib.hid (map_stepL hlt)
              have hv := HOK.out.ps _ (mem_get hlt)
              have hv3 := list2 (HPL.out.ps _ (mem_get hlt))
              rw [hv3] at hv HM
              obtain ⟨z0, hz0'⟩ : ∃ z, (p.ps.getD k []).getD 0 0 = z := ⟨_, rfl⟩
              rw [hz0'] at k0 hv HM
              obtain ⟨z1, hz1'⟩ : ∃ z, (p.ps.getD k []).getD 1 0 = z := ⟨_, rfl⟩
              rw [hz1'] at k1 hv HM
              clear hv3 hz0' hz1'
              obtain ⟨o0, o1, _⟩ := hv
              rcases okv_port o1 with hm1 | hm1
              · subst hm1
                obtain ⟨T0, hT0⟩ : ∃ T, wordL 108 z0 = T := ⟨_, rfl⟩
                obtain ⟨T1, hT1⟩ : ∃ T, wordL 112 (-1) = T := ⟨_, rfl⟩
                have HT1 : Hid (T1 = [111, 117, 116]) := Lib.hid (by rw [← hT1]; rfl)
                have hq0 := word_len o0
                have hq1 := word_len o1
                have hC0 := fun (W : World) => lab_call o0 W
                rw [hT0] at hq0 hC0
                rw [hT1] at hq1
                have HM2 : Hid (lineL (3, [z0, -1]) = joinL [kw 3, T0, T1] ++ [10]) := Lib.hid (by rw [← hT0, ← hT1]; simp [lineL, bodyL, tailL, kf, joinL])
                have HCa := Lib.hid hC0
                have HLN := Lib.hid (fun (g : Nat) (W : World) (hg : g < W.heap.size) (hc : ∀ i u, ([kw 3, T0, T1].map encS)[i]? = some u → W.cell? ⟨g, i, none⟩ = some u) => line_call g (kw 3) [T0, T1] (by simp) (small_words (by simp [kw]; omega)) W hg hc)
                have htl : (tb (joinL [kw 3, T0, T1] ++ [10])).size ≤ 40 := by rw [tb_size]; simp [joinL, kw]; omega
                clear hT0 hT1 hq0 hq1 hC0 o0 o1
                obtain ⟨cur, hcur⟩ : ∃ cur, x2 ++ ((p.ps.take k).map (fun v => lineL (3, v))).flatten = cur := ⟨_, rfl⟩
                have HCR := Lib.hid hcur
                rw [hcur] at hlen ⊢
                clear hcur
                have HLEN := Lib.hid hlen
                have hus : (tb cur).size ≤ 2000 := by rw [tb_size]; omega
                clear hlen
                obtain ⟨ut, hut⟩ : ∃ ut, tb cur = ut := ⟨_, rfl⟩
                obtain ⟨tl, htl'⟩ : ∃ tl, tb (joinL [kw 3, T0, T1] ++ [10]) = tl := ⟨_, rfl⟩
                rw [hut] at hus ⊢
                rw [htl'] at htl HLN
                have HUT := Lib.hid hut
                have HTL := Lib.hid htl'
                clear hut htl'
                have hcc : ¬ 9223372036854775807 < ut.size + tl.size := by omega
                have hTo : T1 = [111, 117, 116] := HT1.out
                subst hTo
                go_wp2_with (first | (go_at_call 16; refine (HCa.out _).mono ?_; rintro e w3 ⟨rfl, hb3⟩) | (go_at_call 14; refine (HLN.out w3.heap.size _ (by simp) (fun i u hi => by have h0 := cells_new w3 ([kw 3, T0, [111, 117, 116]].map encS) 9 i u hi; rwa [add_plain] at h0)).mono ?_; rintro e w4 ⟨rfl, hb4⟩; have HWB : Below wr.heap.size wr w4 := (hb3.alloc hb3.size _).trans (hb4.mono (by simp; have := hb3.size; omega)); clear hb3 hb4))
                go_roundw
                case rel =>
                  refine ⟨k + 1, by omega, by go_num, ?_, ?_, hbw.trans (HWB.mono hbw.size)⟩
                  · rw [HM.out, HM2.out, ← List.append_assoc, HCR.out, ← tb_app5, HUT.out, HTL.out]
                  · rw [HM.out, HM2.out, ← List.append_assoc, HCR.out, List.length_append]
                    have h1 := HLEN.out
                    have h2 : (joinL [kw 3, T0, [111, 117, 116]] ++ [10]).length ≤ 40 := by rw [← tb_size, HTL.out]; exact htl
                    omega
                case measure => simp [intOf]; omega
              · have hm2 : ¬ z1 < 0 := by omega
                have hm3 : decide (z1 < 0) = false := decide_eq_false hm2
                obtain ⟨T0, hT0⟩ : ∃ T, wordL 108 z0 = T := ⟨_, rfl⟩
                obtain ⟨T1, hT1⟩ : ∃ T, wordL 112 z1 = T := ⟨_, rfl⟩
                have hq0 := word_len o0
                have hq1 := word_len o1
                have hC0 := fun (W : World) => lab_call o0 W
                have hC1 := fun (W : World) => num_call o1 (by decide) hm1 W
                rw [hT0] at hq0 hC0
                rw [hT1] at hq1 hC1
                have HM2 : Hid (lineL (3, [z0, z1]) = joinL [kw 3, T0, T1] ++ [10]) := Lib.hid (by rw [← hT0, ← hT1]; simp [lineL, bodyL, tailL, kf, joinL])
                have HCa := Lib.hid hC0
                have HCb := Lib.hid hC1
                have HLN := Lib.hid (fun (g : Nat) (W : World) (hg : g < W.heap.size) (hc : ∀ i u, ([kw 3, T0, T1].map encS)[i]? = some u → W.cell? ⟨g, i, none⟩ = some u) => line_call g (kw 3) [T0, T1] (by simp) (small_words (by simp [kw]; omega)) W hg hc)
                have htl : (tb (joinL [kw 3, T0, T1] ++ [10])).size ≤ 40 := by rw [tb_size]; simp [joinL, kw]; omega
                clear hT0 hT1 hq0 hq1 hC0 hC1 o0 o1
                obtain ⟨cur, hcur⟩ : ∃ cur, x2 ++ ((p.ps.take k).map (fun v => lineL (3, v))).flatten = cur := ⟨_, rfl⟩
                have HCR := Lib.hid hcur
                rw [hcur] at hlen ⊢
                clear hcur
                have HLEN := Lib.hid hlen
                have hus : (tb cur).size ≤ 2000 := by rw [tb_size]; omega
                clear hlen
                obtain ⟨ut, hut⟩ : ∃ ut, tb cur = ut := ⟨_, rfl⟩
                obtain ⟨tl, htl'⟩ : ∃ tl, tb (joinL [kw 3, T0, T1] ++ [10]) = tl := ⟨_, rfl⟩
                rw [hut] at hus ⊢
                rw [htl'] at htl HLN
                have HUT := Lib.hid hut
                have HTL := Lib.hid htl'
                clear hut htl'
                have hcc : ¬ 9223372036854775807 < ut.size + tl.size := by omega
                go_wp2
                apply wp_region_bs [114, 115, 116, 117, 118, 119, 120, 121, 122, 123, 124, 125, 126, 127, 128, 129, 130, 131] [_, _, _, _, _, _, _, _, _, _, _, _, _, _, _, undef, _, _] 3 [.string ⟨#[112, 111, 114, 116]⟩, .string (tb T0), .string (tb T1)] 15
                case hm => kernel_rfl
                case hT => intro y; simp only [setAll, List.setIfInBounds_toArray, List.set_cons_succ, List.set_cons_zero]; exact rfl
                case hok => kernel_rfl
                case hn => decide
                case hs =>
                  refine bs_op 114 [] (by kernel_rfl) (by decide) (fun y w' HW hd K hK => ?_) ?_
                  · go_simp
                    refine hK _ _ ?_ ?_ (Below.refl _ _)
                    · simp [upd]
                    · exact rfl
                  refine bs_op 115 [] (by kernel_rfl) (by decide) (fun y w' HW hd K hK => ?_) ?_
                  · go_simp
                    refine hK _ _ ?_ ?_ (Below.refl _ _)
                    · simp [upd]
                    · exact rfl
                  refine bs_op 116 [1] (by kernel_rfl) (by decide) (fun y w' HW hd K hK => ?_) ?_
                  · have e1 := bsR_nth (hd 1 (by simp)) (by decide) rfl
                    have hcl : ∀ p : Addr, p.block < wr.heap.size → w'.cell? p = wr.cell? p := fun p hp => HW.cell hp
                    go_simp
                    refine hK _ _ ?_ ?_ (Below.refl _ _)
                    · simp [upd, e1]
                    · exact rfl
                  refine bs_op 117 [] (by kernel_rfl) (by decide) (fun y w' HW hd K hK => ?_) ?_
                  · go_simp
                    refine hK _ _ ?_ ?_ (Below.refl _ _)
                    · simp [upd]
                    · exact rfl
                  refine bs_op 118 [2, 3] (by kernel_rfl) (by decide) (fun y w' HW hd K hK => ?_) ?_
                  · have e2 := bsR_nth (hd 2 (by simp)) (by decide) rfl
                    have e3 := bsR_nth (hd 3 (by simp)) (by decide) rfl
                    go_simp
                    refine hK _ _ ?_ ?_ (Below.refl _ _)
                    · simp [upd, e2, e3]
                    · exact rfl
                  refine bs_op 119 [4] (by kernel_rfl) (by decide) (fun y w' HW hd K hK => ?_) ?_
                  · have e4 := bsR_nth (hd 4 (by simp)) (by decide) rfl
                    go_simp
                    refine hK _ _ ?_ ?_ (Below.refl _ _)
                    · simp [upd, e4]
                    · exact rfl
                  refine bs_op 120 [5] (by kernel_rfl) (by decide) (fun y w' HW hd K hK => ?_) ?_
                  · have e5 := bsR_nth (hd 5 (by simp)) (by decide) rfl
                    have hcl : ∀ p : Addr, p.block < wr.heap.size → w'.cell? p = wr.cell? p := fun p hp => HW.cell hp
                    go_simp
                    refine hK _ _ ?_ ?_ (Below.refl _ _)
                    · simp [upd, e5]
                    · exact rfl
                  refine bs_op 121 [6] (by kernel_rfl) (by decide) (fun y w' HW hd K hK => ?_) ?_
                  · have e6 := bsR_nth (hd 6 (by simp)) (by decide) rfl
                    go_simp
                    refine (HCa.out _).mono ?_
                    rintro e w3 ⟨rfl, hb3⟩
                    refine hK _ _ ?_ ?_ hb3
                    · simp [upd, e6]
                    · exact rfl
                  refine bs_op 122 [] (by kernel_rfl) (by decide) (fun y w' HW hd K hK => ?_) ?_
                  · go_simp
                    refine hK _ _ ?_ ?_ (Below.refl _ _)
                    · simp [upd]
                    · exact rfl
                  refine bs_op 123 [8] (by kernel_rfl) (by decide) (fun y w' HW hd K hK => ?_) ?_
                  · have e8 := bsR_nth (hd 8 (by simp)) (by decide) rfl
                    have hcl : ∀ p : Addr, p.block < wr.heap.size → w'.cell? p = wr.cell? p := fun p hp => HW.cell hp
                    go_simp
                    refine hK _ _ ?_ ?_ (Below.refl _ _)
                    · simp [upd, e8]
                    · exact rfl
                  refine bs_op 124 [] (by kernel_rfl) (by decide) (fun y w' HW hd K hK => ?_) ?_
                  · go_simp
                    refine hK _ _ ?_ ?_ (Below.refl _ _)
                    · simp [upd]
                    · exact rfl
                  refine bs_op 125 [9, 10] (by kernel_rfl) (by decide) (fun y w' HW hd K hK => ?_) ?_
                  · have e9 := bsR_nth (hd 9 (by simp)) (by decide) rfl
                    have e10 := bsR_nth (hd 10 (by simp)) (by decide) rfl
                    go_simp
                    refine hK _ _ ?_ ?_ (Below.refl _ _)
                    · simp [upd, e9, e10]
                    · exact rfl
                  refine bs_op 126 [11] (by kernel_rfl) (by decide) (fun y w' HW hd K hK => ?_) ?_
                  · have e11 := bsR_nth (hd 11 (by simp)) (by decide) rfl
                    go_simp
                    refine hK _ _ ?_ ?_ (Below.refl _ _)
                    · simp [upd, e11]
                    · exact rfl
                  refine bs_op 127 [12] (by kernel_rfl) (by decide) (fun y w' HW hd K hK => ?_) ?_
                  · have e12 := bsR_nth (hd 12 (by simp)) (by decide) rfl
                    have hcl : ∀ p : Addr, p.block < wr.heap.size → w'.cell? p = wr.cell? p := fun p hp => HW.cell hp
                    go_simp
                    refine hK _ _ ?_ ?_ (Below.refl _ _)
                    · simp [upd, e12]
                    · exact rfl
                  refine bs_op 128 [13, 7] (by kernel_rfl) (by decide) (fun y w' HW hd K hK => ?_) ?_
                  · have e7 := bsR_nth (hd 7 (by simp)) (by decide) rfl
                    have e13 := bsR_nth (hd 13 (by simp)) (by decide) rfl
                    go_simp
                    refine (HCb.out _).mono ?_
                    rintro e w3 ⟨rfl, hb3⟩
                    refine hK _ _ ?_ ?_ hb3
                    · simp [upd, e7, e13]
                    · exact rfl
                  refine bs_build 129 [7, 14] (by kernel_rfl) rfl 9 (fun y w' HW hd K hK => ?_) ?_
                  · have e7 := bsR_nth (hd 7 (by simp)) (by decide) rfl
                    have e14 := bsR_nth (hd 14 (by simp)) (by decide) rfl
                    go_simp
                    refine hK _ ?_ ?_
                    · simp [upd, e7, e14]
                    · exact rfl
                  refine bs_op 130 [15, 14] (by kernel_rfl) (by decide) (fun y w' HW hd K hK => ?_) ?_
                  · have e14 := bsR_nth (hd 14 (by simp)) (by decide) rfl
                    obtain ⟨g, eb, hg0, hg1, hgc⟩ := bsR_slice (hd 15 (by simp))
                    go_simp
                    refine (HLN.out g _ hg1 hgc).mono ?_
                    rintro e w3 ⟨rfl, hb3⟩
                    refine hK _ _ ?_ ?_ hb3
                    · simp [upd, e14, eb]
                    · exact rfl
                  refine bs_op 131 [0, 16] (by kernel_rfl) (by decide) (fun y w' HW hd K hK => ?_) ?_
                  · have e0 := bsR_nth (hd 0 (by simp)) (by decide) rfl
                    have e16 := bsR_nth (hd 16 (by simp)) (by decide) rfl
                    go_simp
                    refine hK _ _ ?_ ?_ (Below.refl _ _)
                    · simp [upd, e0, e16]
                    · exact rfl
                  refine bs_last fun y w' HW hd K hK => ?_
                  have e0 := bsR_nth (hd 0 (by omega)) (by decide) rfl
                  have e1 := bsR_nth (hd 1 (by omega)) (by decide) rfl
                  have e2 := bsR_nth (hd 2 (by omega)) (by decide) rfl
                  have e3 := bsR_nth (hd 3 (by omega)) (by decide) rfl
                  have e4 := bsR_nth (hd 4 (by omega)) (by decide) rfl
                  have e5 := bsR_nth (hd 5 (by omega)) (by decide) rfl
                  have e6 := bsR_nth (hd 6 (by omega)) (by decide) rfl
                  have e7 := bsR_nth (hd 7 (by omega)) (by decide) rfl
                  have e8 := bsR_nth (hd 8 (by omega)) (by decide) rfl
                  have e9 := bsR_nth (hd 9 (by omega)) (by decide) rfl
                  have e10 := bsR_nth (hd 10 (by omega)) (by decide) rfl
                  have e11 := bsR_nth (hd 11 (by omega)) (by decide) rfl
                  have e12 := bsR_nth (hd 12 (by omega)) (by decide) rfl
                  have e13 := bsR_nth (hd 13 (by omega)) (by decide) rfl
                  have e14 := bsR_nth (hd 14 (by omega)) (by decide) rfl
                  have e16 := bsR_nth (hd 16 (by omega)) (by decide) rfl
                  have e17 := bsR_nth (hd 17 (by omega)) (by decide) rfl
                  go_simp
                  refine hK _ _ ?_
                  clear hd hK K e0 e1 e2 e3 e4 e5 e6 e7 e8 e9 e10 e11 e12 e13 e14 e16 e17
                  have HWB : Below wr.heap.size wr w' := HW
                  clear HW
                  go_wp2
                  go_roundw
                  case rel =>
                    refine ⟨k + 1, by omega, by go_num, ?_, ?_, hbw.trans (HWB.mono hbw.size)⟩
                    · rw [HM.out, HM2.out, ← List.append_assoc, HCR.out, ← tb_app5, HUT.out, HTL.out]
                    · rw [HM.out, HM2.out, ← List.append_assoc, HCR.out, List.length_append]
                      have h1 := HLEN.out
                      have h2 : (joinL [kw 3, T0, T1] ++ [10]).length ≤ 40 := by rw [← tb_size, HTL.out]; exact htl
                      omega
                  case measure => simp [intOf]; omega
            · obtain rfl : k = p.ps.length := by omega
              rw [List.take_length] at hlen ⊢
              obtain ⟨x3, hx3⟩ : ∃ x3, x2 ++ (p.ps.map (fun v => lineL (3, v))).flatten = x3 := ⟨_, rfl⟩
              rw [hx3] at hlen ⊢
              have E3 := Lib.hid hx3
              have hl3x : x3.length ≤ 840 := by omega
              clear hx3 hlen
              go_wp2
              go_loopw [6, 10] (fun s i wr => ∃ k : Nat, k ≤ p.ns.length ∧ i = .int .i64 k ∧ s = .string (tb (x3 ++ ((p.ns.take k).map (fun v => lineL (4, v))).flatten)) ∧ (x3 ++ ((p.ns.take k).map (fun v => lineL (4, v))).flatten).length ≤ 840 + 40 * k ∧ Below wz.heap.size wz wr) (fun _ i _ => p.ns.length - (intOf i).toNat)
              case atStart => exact ⟨0, Nat.zero_le _, rfl, by simp, by simp; omega, hbw⟩
              case round =>
                clear hbw f1
                obtain ⟨k, hk, rfl, rfl, hlen, hbw⟩ := hrel
                have hb1 : Below w.heap.size w wr := hbz.trans (hbw.mono hbz.size)
                have f1 := (box_cell ((hbw.block _ (Array.getElem?_eq_some_iff.1 HZ4.out).1).trans HZ4.out) 4 _ rfl).1
                have hl1 : w.heap.size < wr.heap.size := Nat.lt_of_lt_of_le (Array.getElem?_eq_some_iff.1 HZ4.out).1 hbw.size
                by_cases hlt : k < p.ns.length
                · obtain ⟨x, rfl, hxb, k0, k1⟩ := Cf.RowT.at2 (H4.out.below hb1) k hlt
                  have hxl : (x.add (k * 2)).block < wr.heap.size := by rw [block_of_add]; have := hb1.size; omega
                  have hki : (k : Int) < (p.ns.length : Int) := by omega
                  have hkd : decide ((k : Int) < (p.ns.length : Int)) = true := decide_eq_true hki
                  have hk0 : ¬ (k : Int) < 0 := by omega
                  have HM : Hid (((p.ns.take (k + 1)).map (fun v => lineL (4, v))).flatten = ((p.ns.take k).map (fun v => lineL (4, v))).flatten ++ lineL (4, p.ns.getD k [])) := Lib.hid (map_stepL hlt)
                  have hv := HOK.out.ns _ (mem_get hlt)
                  have hv3 := list2 (HPL.out.ns _ (mem_get hlt))
                  rw [hv3] at hv HM
                  obtain ⟨z0, hz0'⟩ : ∃ z, (p.ns.getD k []).getD 0 0 = z := ⟨_, rfl⟩
                  rw [hz0'] at k0 hv HM
                  obtain ⟨z1, hz1'⟩ : ∃ z, (p.ns.getD k []).getD 1 0 = z := ⟨_, rfl⟩
                  rw [hz1'] at k1 hv HM
                  clear hv3 hz0' hz1'
                  obtain ⟨o0, o1, _⟩ := hv
                  obtain ⟨T0, hT0⟩ : ∃ T, wordL 110 z0 = T := ⟨_, rfl⟩
                  obtain ⟨T1, hT1⟩ : ∃ T, wordL 110 z1 = T := ⟨_, rfl⟩
                  have hq0 := word_len o0
                  have hq1 := word_len o1
                  have hC0 := fun (W : World) => num_call o0 (by decide) (okv_num o0) W
                  have hC1 := fun (W : World) => num_call o1 (by decide) (okv_num o1) W
                  rw [hT0] at hq0 hC0
                  rw [hT1] at hq1 hC1
                  have HM2 : Hid (lineL (4, [z0, z1]) = joinL [kw 4, T0, T1] ++ [10]) := Lib.hid (by rw [← hT0, ← hT1]; simp [lineL, bodyL, tailL, kf, joinL])
                  have HCa := Lib.hid hC0
                  have HCb := Lib.hid hC1
                  have HLN := Lib.hid (fun (g : Nat) (W : World) (hg : g < W.heap.size) (hc : ∀ i u, ([kw 4, T0, T1].map encS)[i]? = some u → W.cell? ⟨g, i, none⟩ = some u) => line_call g (kw 4) [T0, T1] (by simp) (small_words (by simp [kw]; omega)) W hg hc)
                  have htl : (tb (joinL [kw 4, T0, T1] ++ [10])).size ≤ 40 := by rw [tb_size]; simp [joinL, kw]; omega
                  clear hT0 hT1 hq0 hq1 hC0 hC1 o0 o1
                  obtain ⟨cur, hcur⟩ : ∃ cur, x3 ++ ((p.ns.take k).map (fun v => lineL (4, v))).flatten = cur := ⟨_, rfl⟩
                  have HCR := Lib.hid hcur
                  rw [hcur] at hlen ⊢
                  clear hcur
                  have HLEN := Lib.hid hlen
                  have hus : (tb cur).size ≤ 2000 := by rw [tb_size]; omega
                  clear hlen
                  obtain ⟨ut, hut⟩ : ∃ ut, tb cur = ut := ⟨_, rfl⟩
                  obtain ⟨tl, htl'⟩ : ∃ tl, tb (joinL [kw 4, T0, T1] ++ [10]) = tl := ⟨_, rfl⟩
                  rw [hut] at hus ⊢
                  rw [htl'] at htl HLN
                  have HUT := Lib.hid hut
                  have HTL := Lib.hid htl'
                  clear hut htl'
                  have hcc : ¬ 9223372036854775807 < ut.size + tl.size := by omega
                  go_wp2
                  apply wp_region_bs [139, 140, 141, 142, 143, 144, 145, 146, 147, 148, 149, 150, 151, 152, 153, 154, 155, 156] [_, _, _, _, _, _, _, _, _, _, _, _, _, _, _, undef, _, _] 3 [.string ⟨#[114, 105, 110, 103]⟩, .string (tb T0), .string (tb T1)] 15
                  case hm => kernel_rfl
                  case hT => intro y; simp only [setAll, List.setIfInBounds_toArray, List.set_cons_succ, List.set_cons_zero]; exact rfl
                  case hok => kernel_rfl
                  case hn => decide
                  case hs =>
                    refine bs_op 139 [] (by kernel_rfl) (by decide) (fun y w' HW hd K hK => ?_) ?_
                    · go_simp
                      refine hK _ _ ?_ ?_ (Below.refl _ _)
                      · simp [upd]
                      · exact rfl
                    refine bs_op 140 [] (by kernel_rfl) (by decide) (fun y w' HW hd K hK => ?_) ?_
                    · go_simp
                      refine hK _ _ ?_ ?_ (Below.refl _ _)
                      · simp [upd]
                      · exact rfl
                    refine bs_op 141 [1] (by kernel_rfl) (by decide) (fun y w' HW hd K hK => ?_) ?_
                    · have e1 := bsR_nth (hd 1 (by simp)) (by decide) rfl
                      have hcl : ∀ p : Addr, p.block < wr.heap.size → w'.cell? p = wr.cell? p := fun p hp => HW.cell hp
                      go_simp
                      refine hK _ _ ?_ ?_ (Below.refl _ _)
                      · simp [upd, e1]
                      · exact rfl
                    refine bs_op 142 [] (by kernel_rfl) (by decide) (fun y w' HW hd K hK => ?_) ?_
                    · go_simp
                      refine hK _ _ ?_ ?_ (Below.refl _ _)
                      · simp [upd]
                      · exact rfl
                    refine bs_op 143 [2, 3] (by kernel_rfl) (by decide) (fun y w' HW hd K hK => ?_) ?_
                    · have e2 := bsR_nth (hd 2 (by simp)) (by decide) rfl
                      have e3 := bsR_nth (hd 3 (by simp)) (by decide) rfl
                      go_simp
                      refine hK _ _ ?_ ?_ (Below.refl _ _)
                      · simp [upd, e2, e3]
                      · exact rfl
                    refine bs_op 144 [4] (by kernel_rfl) (by decide) (fun y w' HW hd K hK => ?_) ?_
                    · have e4 := bsR_nth (hd 4 (by simp)) (by decide) rfl
                      go_simp
                      refine hK _ _ ?_ ?_ (Below.refl _ _)
                      · simp [upd, e4]
                      · exact rfl
                    refine bs_op 145 [5] (by kernel_rfl) (by decide) (fun y w' HW hd K hK => ?_) ?_
                    · have e5 := bsR_nth (hd 5 (by simp)) (by decide) rfl
                      have hcl : ∀ p : Addr, p.block < wr.heap.size → w'.cell? p = wr.cell? p := fun p hp => HW.cell hp
                      go_simp
                      refine hK _ _ ?_ ?_ (Below.refl _ _)
                      · simp [upd, e5]
                      · exact rfl
                    refine bs_op 146 [6] (by kernel_rfl) (by decide) (fun y w' HW hd K hK => ?_) ?_
                    · have e6 := bsR_nth (hd 6 (by simp)) (by decide) rfl
                      go_simp
                      refine (HCa.out _).mono ?_
                      rintro e w3 ⟨rfl, hb3⟩
                      refine hK _ _ ?_ ?_ hb3
                      · simp [upd, e6]
                      · exact rfl
                    refine bs_op 147 [] (by kernel_rfl) (by decide) (fun y w' HW hd K hK => ?_) ?_
                    · go_simp
                      refine hK _ _ ?_ ?_ (Below.refl _ _)
                      · simp [upd]
                      · exact rfl
                    refine bs_op 148 [8] (by kernel_rfl) (by decide) (fun y w' HW hd K hK => ?_) ?_
                    · have e8 := bsR_nth (hd 8 (by simp)) (by decide) rfl
                      have hcl : ∀ p : Addr, p.block < wr.heap.size → w'.cell? p = wr.cell? p := fun p hp => HW.cell hp
                      go_simp
                      refine hK _ _ ?_ ?_ (Below.refl _ _)
                      · simp [upd, e8]
                      · exact rfl
                    refine bs_op 149 [] (by kernel_rfl) (by decide) (fun y w' HW hd K hK => ?_) ?_
                    · go_simp
                      refine hK _ _ ?_ ?_ (Below.refl _ _)
                      · simp [upd]
                      · exact rfl
                    refine bs_op 150 [9, 10] (by kernel_rfl) (by decide) (fun y w' HW hd K hK => ?_) ?_
                    · have e9 := bsR_nth (hd 9 (by simp)) (by decide) rfl
                      have e10 := bsR_nth (hd 10 (by simp)) (by decide) rfl
                      go_simp
                      refine hK _ _ ?_ ?_ (Below.refl _ _)
                      · simp [upd, e9, e10]
                      · exact rfl
                    refine bs_op 151 [11] (by kernel_rfl) (by decide) (fun y w' HW hd K hK => ?_) ?_
                    · have e11 := bsR_nth (hd 11 (by simp)) (by decide) rfl
                      go_simp
                      refine hK _ _ ?_ ?_ (Below.refl _ _)
                      · simp [upd, e11]
                      · exact rfl
                    refine bs_op 152 [12] (by kernel_rfl) (by decide) (fun y w' HW hd K hK => ?_) ?_
                    · have e12 := bsR_nth (hd 12 (by simp)) (by decide) rfl
                      have hcl : ∀ p : Addr, p.block < wr.heap.size → w'.cell? p = wr.cell? p := fun p hp => HW.cell hp
                      go_simp
                      refine hK _ _ ?_ ?_ (Below.refl _ _)
                      · simp [upd, e12]
                      · exact rfl
                    refine bs_op 153 [13, 7] (by kernel_rfl) (by decide) (fun y w' HW hd K hK => ?_) ?_
                    · have e7 := bsR_nth (hd 7 (by simp)) (by decide) rfl
                      have e13 := bsR_nth (hd 13 (by simp)) (by decide) rfl
                      go_simp
                      refine (HCb.out _).mono ?_
                      rintro e w3 ⟨rfl, hb3⟩
                      refine hK _ _ ?_ ?_ hb3
                      · simp [upd, e7, e13]
                      · exact rfl
                    refine bs_build 154 [7, 14] (by kernel_rfl) rfl 9 (fun y w' HW hd K hK => ?_) ?_
                    · have e7 := bsR_nth (hd 7 (by simp)) (by decide) rfl
                      have e14 := bsR_nth (hd 14 (by simp)) (by decide) rfl
                      go_simp
                      refine hK _ ?_ ?_
                      · simp [upd, e7, e14]
                      · exact rfl
                    refine bs_op 155 [15, 14] (by kernel_rfl) (by decide) (fun y w' HW hd K hK => ?_) ?_
                    · have e14 := bsR_nth (hd 14 (by simp)) (by decide) rfl
                      obtain ⟨g, eb, hg0, hg1, hgc⟩ := bsR_slice (hd 15 (by simp))
                      go_simp
                      refine (HLN.out g _ hg1 hgc).mono ?_
                      rintro e w3 ⟨rfl, hb3⟩
                      refine hK _ _ ?_ ?_ hb3
                      · simp [upd, e14, eb]
                      · exact rfl
                    refine bs_op 156 [0, 16] (by kernel_rfl) (by decide) (fun y w' HW hd K hK => ?_) ?_
                    · have e0 := bsR_nth (hd 0 (by simp)) (by decide) rfl
                      have e16 := bsR_nth (hd 16 (by simp)) (by decide) rfl
                      go_simp
                      refine hK _ _ ?_ ?_ (Below.refl _ _)
                      · simp [upd, e0, e16]
                      · exact rfl
                    refine bs_last fun y w' HW hd K hK => ?_
                    have e0 := bsR_nth (hd 0 (by omega)) (by decide) rfl
                    have e1 := bsR_nth (hd 1 (by omega)) (by decide) rfl
                    have e2 := bsR_nth (hd 2 (by omega)) (by decide) rfl
                    have e3 := bsR_nth (hd 3 (by omega)) (by decide) rfl
                    have e4 := bsR_nth (hd 4 (by omega)) (by decide) rfl
                    have e5 := bsR_nth (hd 5 (by omega)) (by decide) rfl
                    have e6 := bsR_nth (hd 6 (by omega)) (by decide) rfl
                    have e7 := bsR_nth (hd 7 (by omega)) (by decide) rfl
                    have e8 := bsR_nth (hd 8 (by omega)) (by decide) rfl
                    have e9 := bsR_nth (hd 9 (by omega)) (by decide) rfl
                    have e10 := bsR_nth (hd 10 (by omega)) (by decide) rfl
                    have e11 := bsR_nth (hd 11 (by omega)) (by decide) rfl
                    have e12 := bsR_nth (hd 12 (by omega)) (by decide) rfl
                    have e13 := bsR_nth (hd 13 (by omega)) (by decide) rfl
                    have e14 := bsR_nth (hd 14 (by omega)) (by decide) rfl
                    have e16 := bsR_nth (hd 16 (by omega)) (by decide) rfl
                    have e17 := bsR_nth (hd 17 (by omega)) (by decide) rfl
                    go_simp
                    refine hK _ _ ?_
                    clear hd hK K e0 e1 e2 e3 e4 e5 e6 e7 e8 e9 e10 e11 e12 e13 e14 e16 e17
                    have HWB : Below wr.heap.size wr w' := HW
                    clear HW
                    go_wp2
                    go_roundw
                    case rel =>
                      refine ⟨k + 1, by omega, by go_num, ?_, ?_, hbw.trans (HWB.mono hbw.size)⟩
                      · rw [HM.out, HM2.out, ← List.append_assoc, HCR.out, ← tb_app5, HUT.out, HTL.out]
                      · rw [HM.out, HM2.out, ← List.append_assoc, HCR.out, List.length_append]
                        have h1 := HLEN.out
                        have h2 : (joinL [kw 4, T0, T1] ++ [10]).length ≤ 40 := by rw [← tb_size, HTL.out]; exact htl
                        omega
                    case measure => simp [intOf]; omega
                · obtain rfl : k = p.ns.length := by omega
                  rw [List.take_length] at hlen ⊢
                  obtain ⟨x4, hx4⟩ : ∃ x4, x3 ++ (p.ns.map (fun v => lineL (4, v))).flatten = x4 := ⟨_, rfl⟩
                  rw [hx4] at hlen ⊢
                  have E4 := Lib.hid hx4
                  have hl4x : x4.length ≤ 1000 := by omega
                  clear hx4 hlen
                  go_wp2
                  go_loopw [6, 11] (fun s i wr => ∃ k : Nat, k ≤ p.ss.length ∧ i = .int .i64 k ∧ s = .string (tb (x4 ++ ((p.ss.take k).map (fun v => lineL (5, v))).flatten)) ∧ (x4 ++ ((p.ss.take k).map (fun v => lineL (5, v))).flatten).length ≤ 1000 + 40 * k ∧ Below wz.heap.size wz wr) (fun _ i _ => p.ss.length - (intOf i).toNat)
                  case atStart => exact ⟨0, Nat.zero_le _, rfl, by simp, by simp; omega, hbw⟩
                  case round =>
                    clear hbw f1
                    obtain ⟨k, hk, rfl, rfl, hlen, hbw⟩ := hrel
                    have hb1 : Below w.heap.size w wr := hbz.trans (hbw.mono hbz.size)
                    have f1 := (box_cell ((hbw.block _ (Array.getElem?_eq_some_iff.1 HZ4.out).1).trans HZ4.out) 5 _ rfl).1
                    have hl1 : w.heap.size < wr.heap.size := Nat.lt_of_lt_of_le (Array.getElem?_eq_some_iff.1 HZ4.out).1 hbw.size
                    by_cases hlt : k < p.ss.length
                    · obtain ⟨x, rfl, hxb, k0, k1⟩ := Cf.RowT.at2 (H5.out.below hb1) k hlt
                      have hxl : (x.add (k * 2)).block < wr.heap.size := by rw [block_of_add]; have := hb1.size; omega
                      have hki : (k : Int) < (p.ss.length : Int) := by omega
                      have hkd : decide ((k : Int) < (p.ss.length : Int)) = true := decide_eq_true hki
                      have hk0 : ¬ (k : Int) < 0 := by omega
                      have HM : Hid (((p.ss.take (k + 1)).map (fun v => lineL (5, v))).flatten = ((p.ss.take k).map (fun v => lineL (5, v))).flatten ++ lineL (5, p.ss.getD k [])) := Lib.hid (map_stepL hlt)
                      have hv := HOK.out.ss _ (mem_get hlt)
                      have hv3 := list2 (HPL.out.ss _ (mem_get hlt))
                      rw [hv3] at hv HM
                      obtain ⟨z0, hz0'⟩ : ∃ z, (p.ss.getD k []).getD 0 0 = z := ⟨_, rfl⟩
                      rw [hz0'] at k0 hv HM
                      obtain ⟨z1, hz1'⟩ : ∃ z, (p.ss.getD k []).getD 1 0 = z := ⟨_, rfl⟩
                      rw [hz1'] at k1 hv HM
                      clear hv3 hz0' hz1'
                      obtain ⟨o0, o1, _⟩ := hv
                      obtain ⟨T0, hT0⟩ : ∃ T, wordL 110 z0 = T := ⟨_, rfl⟩
                      obtain ⟨T1, hT1⟩ : ∃ T, wordL 110 z1 = T := ⟨_, rfl⟩
                      have hq0 := word_len o0
                      have hq1 := word_len o1
                      have hC0 := fun (W : World) => num_call o0 (by decide) (okv_num o0) W
                      have hC1 := fun (W : World) => num_call o1 (by decide) (okv_num o1) W
                      rw [hT0] at hq0 hC0
                      rw [hT1] at hq1 hC1
                      have HM2 : Hid (lineL (5, [z0, z1]) = joinL [kw 5, T0, T1] ++ [10]) := Lib.hid (by rw [← hT0, ← hT1]; simp [lineL, bodyL, tailL, kf, joinL])
                      have HCa := Lib.hid hC0
                      have HCb := Lib.hid hC1
                      have HLN := Lib.hid (fun (g : Nat) (W : World) (hg : g < W.heap.size) (hc : ∀ i u, ([kw 5, T0, T1].map encS)[i]? = some u → W.cell? ⟨g, i, none⟩ = some u) => line_call g (kw 5) [T0, T1] (by simp) (small_words (by simp [kw]; omega)) W hg hc)
                      have htl : (tb (joinL [kw 5, T0, T1] ++ [10])).size ≤ 40 := by rw [tb_size]; simp [joinL, kw]; omega
                      clear hT0 hT1 hq0 hq1 hC0 hC1 o0 o1
                      obtain ⟨cur, hcur⟩ : ∃ cur, x4 ++ ((p.ss.take k).map (fun v => lineL (5, v))).flatten = cur := ⟨_, rfl⟩
                      have HCR := Lib.hid hcur
                      rw [hcur] at hlen ⊢
                      clear hcur
                      have HLEN := Lib.hid hlen
                      have hus : (tb cur).size ≤ 2000 := by rw [tb_size]; omega
                      clear hlen
                      obtain ⟨ut, hut⟩ : ∃ ut, tb cur = ut := ⟨_, rfl⟩
                      obtain ⟨tl, htl'⟩ : ∃ tl, tb (joinL [kw 5, T0, T1] ++ [10]) = tl := ⟨_, rfl⟩
                      rw [hut] at hus ⊢
                      rw [htl'] at htl HLN
                      have HUT := Lib.hid hut
                      have HTL := Lib.hid htl'
                      clear hut htl'
                      have hcc : ¬ 9223372036854775807 < ut.size + tl.size := by omega
                      go_wp2
                      apply wp_region_bs [164, 165, 166, 167, 168, 169, 170, 171, 172, 173, 174, 175, 176, 177, 178, 179, 180, 181] [_, _, _, _, _, _, _, _, _, _, _, _, _, _, _, undef, _, _] 3 [.string ⟨#[115, 108, 111, 116]⟩, .string (tb T0), .string (tb T1)] 15
                      case hm => kernel_rfl
                      case hT => intro y; simp only [setAll, List.setIfInBounds_toArray, List.set_cons_succ, List.set_cons_zero]; exact rfl
                      case hok => kernel_rfl
                      case hn => decide
                      case hs =>
                        refine bs_op 164 [] (by kernel_rfl) (by decide) (fun y w' HW hd K hK => ?_) ?_
                        · go_simp
                          refine hK _ _ ?_ ?_ (Below.refl _ _)
                          · simp [upd]
                          · exact rfl
                        refine bs_op 165 [] (by kernel_rfl) (by decide) (fun y w' HW hd K hK => ?_) ?_
                        · go_simp
                          refine hK _ _ ?_ ?_ (Below.refl _ _)
                          · simp [upd]
                          · exact rfl
                        refine bs_op 166 [1] (by kernel_rfl) (by decide) (fun y w' HW hd K hK => ?_) ?_
                        · have e1 := bsR_nth (hd 1 (by simp)) (by decide) rfl
                          have hcl : ∀ p : Addr, p.block < wr.heap.size → w'.cell? p = wr.cell? p := fun p hp => HW.cell hp
                          go_simp
                          refine hK _ _ ?_ ?_ (Below.refl _ _)
                          · simp [upd, e1]
                          · exact rfl
                        refine bs_op 167 [] (by kernel_rfl) (by decide) (fun y w' HW hd K hK => ?_) ?_
                        · go_simp
                          refine hK _ _ ?_ ?_ (Below.refl _ _)
                          · simp [upd]
                          · exact rfl
                        refine bs_op 168 [2, 3] (by kernel_rfl) (by decide) (fun y w' HW hd K hK => ?_) ?_
                        · have e2 := bsR_nth (hd 2 (by simp)) (by decide) rfl
                          have e3 := bsR_nth (hd 3 (by simp)) (by decide) rfl
                          go_simp
                          refine hK _ _ ?_ ?_ (Below.refl _ _)
                          · simp [upd, e2, e3]
                          · exact rfl
                        refine bs_op 169 [4] (by kernel_rfl) (by decide) (fun y w' HW hd K hK => ?_) ?_
                        · have e4 := bsR_nth (hd 4 (by simp)) (by decide) rfl
                          go_simp
                          refine hK _ _ ?_ ?_ (Below.refl _ _)
                          · simp [upd, e4]
                          · exact rfl
                        refine bs_op 170 [5] (by kernel_rfl) (by decide) (fun y w' HW hd K hK => ?_) ?_
                        · have e5 := bsR_nth (hd 5 (by simp)) (by decide) rfl
                          have hcl : ∀ p : Addr, p.block < wr.heap.size → w'.cell? p = wr.cell? p := fun p hp => HW.cell hp
                          go_simp
                          refine hK _ _ ?_ ?_ (Below.refl _ _)
                          · simp [upd, e5]
                          · exact rfl
                        refine bs_op 171 [6] (by kernel_rfl) (by decide) (fun y w' HW hd K hK => ?_) ?_
                        · have e6 := bsR_nth (hd 6 (by simp)) (by decide) rfl
                          go_simp
                          refine (HCa.out _).mono ?_
                          rintro e w3 ⟨rfl, hb3⟩
                          refine hK _ _ ?_ ?_ hb3
                          · simp [upd, e6]
                          · exact rfl
                        refine bs_op 172 [] (by kernel_rfl) (by decide) (fun y w' HW hd K hK => ?_) ?_
                        · go_simp
                          refine hK _ _ ?_ ?_ (Below.refl _ _)
                          · simp [upd]
                          · exact rfl
                        refine bs_op 173 [8] (by kernel_rfl) (by decide) (fun y w' HW hd K hK => ?_) ?_
                        · have e8 := bsR_nth (hd 8 (by simp)) (by decide) rfl
                          have hcl : ∀ p : Addr, p.block < wr.heap.size → w'.cell? p = wr.cell? p := fun p hp => HW.cell hp
                          go_simp
                          refine hK _ _ ?_ ?_ (Below.refl _ _)
                          · simp [upd, e8]
                          · exact rfl
                        refine bs_op 174 [] (by kernel_rfl) (by decide) (fun y w' HW hd K hK => ?_) ?_
                        · go_simp
                          refine hK _ _ ?_ ?_ (Below.refl _ _)
                          · simp [upd]
                          · exact rfl
                        refine bs_op 175 [9, 10] (by kernel_rfl) (by decide) (fun y w' HW hd K hK => ?_) ?_
                        · have e9 := bsR_nth (hd 9 (by simp)) (by decide) rfl
                          have e10 := bsR_nth (hd 10 (by simp)) (by decide) rfl
                          go_simp
                          refine hK _ _ ?_ ?_ (Below.refl _ _)
                          · simp [upd, e9, e10]
                          · exact rfl
                        refine bs_op 176 [11] (by kernel_rfl) (by decide) (fun y w' HW hd K hK => ?_) ?_
                        · have e11 := bsR_nth (hd 11 (by simp)) (by decide) rfl
                          go_simp
                          refine hK _ _ ?_ ?_ (Below.refl _ _)
                          · simp [upd, e11]
                          · exact rfl
                        refine bs_op 177 [12] (by kernel_rfl) (by decide) (fun y w' HW hd K hK => ?_) ?_
                        · have e12 := bsR_nth (hd 12 (by simp)) (by decide) rfl
                          have hcl : ∀ p : Addr, p.block < wr.heap.size → w'.cell? p = wr.cell? p := fun p hp => HW.cell hp
                          go_simp
                          refine hK _ _ ?_ ?_ (Below.refl _ _)
                          · simp [upd, e12]
                          · exact rfl
                        refine bs_op 178 [13, 7] (by kernel_rfl) (by decide) (fun y w' HW hd K hK => ?_) ?_
                        · have e7 := bsR_nth (hd 7 (by simp)) (by decide) rfl
                          have e13 := bsR_nth (hd 13 (by simp)) (by decide) rfl
                          go_simp
                          refine (HCb.out _).mono ?_
                          rintro e w3 ⟨rfl, hb3⟩
                          refine hK _ _ ?_ ?_ hb3
                          · simp [upd, e7, e13]
                          · exact rfl
                        refine bs_build 179 [7, 14] (by kernel_rfl) rfl 9 (fun y w' HW hd K hK => ?_) ?_
                        · have e7 := bsR_nth (hd 7 (by simp)) (by decide) rfl
                          have e14 := bsR_nth (hd 14 (by simp)) (by decide) rfl
                          go_simp
                          refine hK _ ?_ ?_
                          · simp [upd, e7, e14]
                          · exact rfl
                        refine bs_op 180 [15, 14] (by kernel_rfl) (by decide) (fun y w' HW hd K hK => ?_) ?_
                        · have e14 := bsR_nth (hd 14 (by simp)) (by decide) rfl
                          obtain ⟨g, eb, hg0, hg1, hgc⟩ := bsR_slice (hd 15 (by simp))
                          go_simp
                          refine (HLN.out g _ hg1 hgc).mono ?_
                          rintro e w3 ⟨rfl, hb3⟩
                          refine hK _ _ ?_ ?_ hb3
                          · simp [upd, e14, eb]
                          · exact rfl
                        refine bs_op 181 [0, 16] (by kernel_rfl) (by decide) (fun y w' HW hd K hK => ?_) ?_
                        · have e0 := bsR_nth (hd 0 (by simp)) (by decide) rfl
                          have e16 := bsR_nth (hd 16 (by simp)) (by decide) rfl
                          go_simp
                          refine hK _ _ ?_ ?_ (Below.refl _ _)
                          · simp [upd, e0, e16]
                          · exact rfl
                        refine bs_last fun y w' HW hd K hK => ?_
                        have e0 := bsR_nth (hd 0 (by omega)) (by decide) rfl
                        have e1 := bsR_nth (hd 1 (by omega)) (by decide) rfl
                        have e2 := bsR_nth (hd 2 (by omega)) (by decide) rfl
                        have e3 := bsR_nth (hd 3 (by omega)) (by decide) rfl
                        have e4 := bsR_nth (hd 4 (by omega)) (by decide) rfl
                        have e5 := bsR_nth (hd 5 (by omega)) (by decide) rfl
                        have e6 := bsR_nth (hd 6 (by omega)) (by decide) rfl
                        have e7 := bsR_nth (hd 7 (by omega)) (by decide) rfl
                        have e8 := bsR_nth (hd 8 (by omega)) (by decide) rfl
                        have e9 := bsR_nth (hd 9 (by omega)) (by decide) rfl
                        have e10 := bsR_nth (hd 10 (by omega)) (by decide) rfl
                        have e11 := bsR_nth (hd 11 (by omega)) (by decide) rfl
                        have e12 := bsR_nth (hd 12 (by omega)) (by decide) rfl
                        have e13 := bsR_nth (hd 13 (by omega)) (by decide) rfl
                        have e14 := bsR_nth (hd 14 (by omega)) (by decide) rfl
                        have e16 := bsR_nth (hd 16 (by omega)) (by decide) rfl
                        have e17 := bsR_nth (hd 17 (by omega)) (by decide) rfl
                        go_simp
                        refine hK _ _ ?_
                        clear hd hK K e0 e1 e2 e3 e4 e5 e6 e7 e8 e9 e10 e11 e12 e13 e14 e16 e17
                        have HWB : Below wr.heap.size wr w' := HW
                        clear HW
                        go_wp2
                        go_roundw
                        case rel =>
                          refine ⟨k + 1, by omega, by go_num, ?_, ?_, hbw.trans (HWB.mono hbw.size)⟩
                          · rw [HM.out, HM2.out, ← List.append_assoc, HCR.out, ← tb_app5, HUT.out, HTL.out]
                          · rw [HM.out, HM2.out, ← List.append_assoc, HCR.out, List.length_append]
                            have h1 := HLEN.out
                            have h2 : (joinL [kw 5, T0, T1] ++ [10]).length ≤ 40 := by rw [← tb_size, HTL.out]; exact htl
                            omega
                        case measure => simp [intOf]; omega
                    · obtain rfl : k = p.ss.length := by omega
                      rw [List.take_length] at hlen ⊢
                      obtain ⟨x5, hx5⟩ : ∃ x5, x4 ++ (p.ss.map (fun v => lineL (5, v))).flatten = x5 := ⟨_, rfl⟩
                      rw [hx5] at hlen ⊢
                      have E5 := Lib.hid hx5
                      have hl5x : x5.length ≤ 1320 := by omega
                      clear hx5 hlen
                      have g6 := (box_cell ((hbw.block _ (Array.getElem?_eq_some_iff.1 HZ4.out).1).trans HZ4.out) 6 _ rfl).1
                      have g7 := (box_cell ((hbw.block _ (Array.getElem?_eq_some_iff.1 HZ4.out).1).trans HZ4.out) 7 _ rfl).1
                      have HTT : Hid (p.text = x5 ++ (if p.gate = -1 then [] else lineL (6, [p.gate, p.quota]))) := Lib.hid (by rw [HTP.out, HL0.out, EX0.out, E1.out, E2.out, E3.out, E4.out, E5.out])
                      rcases HOK.out.gate with ⟨hg, _⟩ | ⟨hg, hgv⟩
                      · have HF : Hid (tb p.text = tb x5) := Lib.hid (by rw [HTT.out, if_pos hg, List.append_nil])
                        rw [hg] at g6
                        generalize tb x5 = ut at HF ⊢
                        go_wp2
                        go_ret2
                        exact ⟨by rw [HF.out]; rfl, hb1⟩
                      · obtain ⟨o0, o1, _⟩ := hgv
                        have hg0 := okv_num o0
                        obtain ⟨z0, hz0⟩ : ∃ z, p.gate = z := ⟨_, rfl⟩
                        obtain ⟨z1, hz1⟩ : ∃ z, p.quota = z := ⟨_, rfl⟩
                        rw [hz0] at g6 o0 hg0
                        rw [hz1] at g7 o1
                        have HF0 : Hid (p.text = x5 ++ lineL (6, [z0, z1])) := Lib.hid (by rw [HTT.out, if_neg hg, hz0, hz1])
                        have hgd : decide (0 ≤ z0) = true := decide_eq_true hg0
                        obtain ⟨T0, hT0⟩ : ∃ T, wordL 110 z0 = T := ⟨_, rfl⟩
                        have hq0 := word_len o0
                        have hC0 := fun (W : World) => num_call o0 (by decide) (okv_num o0) W
                        rw [hT0] at hq0 hC0
                        obtain ⟨T1, hT1⟩ : ∃ T, wordL 110 z1 = T := ⟨_, rfl⟩
                        have hq1 := word_len o1
                        have hC1 := fun (W : World) => num_call o1 (by decide) (okv_num o1) W
                        rw [hT1] at hq1 hC1
                        have HM2 : Hid (lineL (6, [z0, z1]) = joinL [kw 6, T0, T1] ++ [10]) := Lib.hid (by rw [← hT0, ← hT1]; simp [lineL, bodyL, tailL, kf, joinL])
                        have HCa := Lib.hid hC0
                        have HCb := Lib.hid hC1
                        have HLN := Lib.hid (fun (g : Nat) (W : World) (hg : g < W.heap.size) (hc : ∀ i u, ([kw 6, T0, T1].map encS)[i]? = some u → W.cell? ⟨g, i, none⟩ = some u) => line_call g (kw 6) [T0, T1] (by simp) (small_words (by simp [kw]; omega)) W hg hc)
                        have htl : (tb (joinL [kw 6, T0, T1] ++ [10])).size ≤ 40 := by rw [tb_size]; simp [joinL, kw]; omega
                        have HF : Hid (tb p.text = tb x5 ++ tb (joinL [kw 6, T0, T1] ++ [10])) := Lib.hid (by rw [HF0.out, HM2.out, tb_app5])
                        have hus : (tb x5).size ≤ 2000 := by rw [tb_size]; omega
                        clear hT0 hT1 hq0 hq1 hC0 hC1 o0 o1 hz0 hz1
                        generalize tb x5 = ut at HF hus ⊢
                        generalize tb (joinL [kw 6, T0, T1] ++ [10]) = tl at HF htl HLN
                        have hcc : ¬ 9223372036854775807 < ut.size + tl.size := by omega
                        go_wp2
                        apply wp_region_bs [185, 186, 187, 188, 189, 190, 191, 192, 193, 194] [_, _, _, _, _, _, _, undef, _, _] 3 [.string ⟨#[103, 97, 116, 101]⟩, .string (tb T0), .string (tb T1)] 7
                        case hm => kernel_rfl
                        case hT => intro y; simp only [setAll, List.setIfInBounds_toArray, List.set_cons_succ, List.set_cons_zero]; exact rfl
                        case hok => kernel_rfl
                        case hn => decide
                        case hs =>
                          refine bs_op 185 [] (by kernel_rfl) (by decide) (fun y w' HW hd K hK => ?_) ?_
                          · go_simp
                            refine hK _ _ ?_ ?_ (Below.refl _ _)
                            · simp [upd]
                            · exact rfl
                          refine bs_op 186 [] (by kernel_rfl) (by decide) (fun y w' HW hd K hK => ?_) ?_
                          · go_simp
                            refine hK _ _ ?_ ?_ (Below.refl _ _)
                            · simp [upd]
                            · exact rfl
                          refine bs_op 187 [1] (by kernel_rfl) (by decide) (fun y w' HW hd K hK => ?_) ?_
                          · have e1 := bsR_nth (hd 1 (by simp)) (by decide) rfl
                            have hcl : ∀ p : Addr, p.block < wr.heap.size → w'.cell? p = wr.cell? p := fun p hp => HW.cell hp
                            go_simp
                            refine hK _ _ ?_ ?_ (Below.refl _ _)
                            · simp [upd, e1]
                            · exact rfl
                          refine bs_op 188 [2] (by kernel_rfl) (by decide) (fun y w' HW hd K hK => ?_) ?_
                          · have e2 := bsR_nth (hd 2 (by simp)) (by decide) rfl
                            go_simp
                            refine (HCa.out _).mono ?_
                            rintro e w3 ⟨rfl, hb3⟩
                            refine hK _ _ ?_ ?_ hb3
                            · simp [upd, e2]
                            · exact rfl
                          refine bs_op 189 [] (by kernel_rfl) (by decide) (fun y w' HW hd K hK => ?_) ?_
                          · go_simp
                            refine hK _ _ ?_ ?_ (Below.refl _ _)
                            · simp [upd]
                            · exact rfl
                          refine bs_op 190 [4] (by kernel_rfl) (by decide) (fun y w' HW hd K hK => ?_) ?_
                          · have e4 := bsR_nth (hd 4 (by simp)) (by decide) rfl
                            have hcl : ∀ p : Addr, p.block < wr.heap.size → w'.cell? p = wr.cell? p := fun p hp => HW.cell hp
                            go_simp
                            refine hK _ _ ?_ ?_ (Below.refl _ _)
                            · simp [upd, e4]
                            · exact rfl
                          refine bs_op 191 [5, 3] (by kernel_rfl) (by decide) (fun y w' HW hd K hK => ?_) ?_
                          · have e3 := bsR_nth (hd 3 (by simp)) (by decide) rfl
                            have e5 := bsR_nth (hd 5 (by simp)) (by decide) rfl
                            go_simp
                            refine (HCb.out _).mono ?_
                            rintro e w3 ⟨rfl, hb3⟩
                            refine hK _ _ ?_ ?_ hb3
                            · simp [upd, e3, e5]
                            · exact rfl
                          refine bs_build 192 [3, 6] (by kernel_rfl) rfl 9 (fun y w' HW hd K hK => ?_) ?_
                          · have e3 := bsR_nth (hd 3 (by simp)) (by decide) rfl
                            have e6 := bsR_nth (hd 6 (by simp)) (by decide) rfl
                            go_simp
                            refine hK _ ?_ ?_
                            · simp [upd, e3, e6]
                            · exact rfl
                          refine bs_op 193 [7, 6] (by kernel_rfl) (by decide) (fun y w' HW hd K hK => ?_) ?_
                          · have e6 := bsR_nth (hd 6 (by simp)) (by decide) rfl
                            obtain ⟨g, eb, hg0, hg1, hgc⟩ := bsR_slice (hd 7 (by simp))
                            go_simp
                            refine (HLN.out g _ hg1 hgc).mono ?_
                            rintro e w3 ⟨rfl, hb3⟩
                            refine hK _ _ ?_ ?_ hb3
                            · simp [upd, e6, eb]
                            · exact rfl
                          refine bs_op 194 [0, 8] (by kernel_rfl) (by decide) (fun y w' HW hd K hK => ?_) ?_
                          · have e0 := bsR_nth (hd 0 (by simp)) (by decide) rfl
                            have e8 := bsR_nth (hd 8 (by simp)) (by decide) rfl
                            go_simp
                            refine hK _ _ ?_ ?_ (Below.refl _ _)
                            · simp [upd, e0, e8]
                            · exact rfl
                          refine bs_last fun y w' HW hd K hK => ?_
                          have e0 := bsR_nth (hd 0 (by omega)) (by decide) rfl
                          have e1 := bsR_nth (hd 1 (by omega)) (by decide) rfl
                          have e2 := bsR_nth (hd 2 (by omega)) (by decide) rfl
                          have e3 := bsR_nth (hd 3 (by omega)) (by decide) rfl
                          have e4 := bsR_nth (hd 4 (by omega)) (by decide) rfl
                          have e5 := bsR_nth (hd 5 (by omega)) (by decide) rfl
                          have e6 := bsR_nth (hd 6 (by omega)) (by decide) rfl
                          have e8 := bsR_nth (hd 8 (by omega)) (by decide) rfl
                          have e9 := bsR_nth (hd 9 (by omega)) (by decide) rfl
                          go_simp
                          refine hK _ _ ?_
                          clear hd hK K e0 e1 e2 e3 e4 e5 e6 e8 e9
                          go_wp2
                          go_ret2
                          exact ⟨by rw [HF.out]; rfl, hb1.trans (HW.mono hb1.size)⟩
end Go.Proofs.YtikkfapgmbamlaaGreatDoor.Pl
end
