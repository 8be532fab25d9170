/- Several texts in one: Vy Vz Sb -/
import Derived.Test.YtniaclhmfmkikaaGreatDoorZ32
import Derived.Test.YtniaclhmfmkikaaGreatDoorZ01
section
/- The law's registers (hermitagelaw13.made): both files of both sides. -/
namespace Go.Proofs.YtniaclhmfmkikaaGreatDoor.Ex
open Go.RowKit Ut
set_option maxRecDepth 100000
set_option linter.unusedVariables false
set_option maxHeartbeats 4000000

/-- the program's files and the document's, carried on from a first world -/
structure Both (w0 w : World) (rb cb ab bb i : Nat) (p : Int) (R : List Int) (Q : List Nat) (p' : Int) (R' : List Int) (Q' : List Nat) : Prop where
  f : Fil w rb cb i p R Q
  d : Doc w ab bb i p' R' Q'
  b : Below w0.heap.size w0 w
  lt : 0 < w0.heap.size ∧ w0.heap.size ≤ rb ∧ rb < cb ∧ cb < ab ∧ ab < bb
section
variable {w0 w w' : World} {rb cb ab bb i : Nat} {p : Int} {R : List Int} {Q : List Nat} {p' : Int} {R' : List Int} {Q' : List Nat}
theorem some_ne {x y : Nat} (h : x ≠ y) : (some x : Option Nat) ≠ some y := fun e => h (by injection e)
theorem Both.below (h : Both w0 w rb cb ab bb i p R Q p' R' Q') (hb : Below w.heap.size w w') : Both w0 w' rb cb ab bb i p R Q p' R' Q' := ⟨h.f.below hb, h.d.below hb, h.b.trans (hb.mono h.b.size), h.lt⟩
theorem Both.fregs {p2 : Int} {R2 : List Int} (h : Both w0 w rb cb ab bb i p R Q p' R' Q') (hF : Rg.FAt w' rb p2 R2) (hg : w.grownBy w' (some rb)) : Both w0 w' rb cb ab bb i p2 R2 Q p' R' Q' := by
  obtain ⟨l0, l1, l2, l3, l4⟩ := h.lt
  exact ⟨h.f.regs hF hg, ⟨h.d.reg.kept hg (some_ne (by omega)), h.d.csr.kept hg (some_ne (by omega)), h.d.n3⟩, below_of_grown h.b hg h.b.size l1, h.lt⟩
theorem Both.fcsrs {Q2 : List Nat} (h : Both w0 w rb cb ab bb i p R Q p' R' Q') (hF : Cs.FAt w' cb i Q2) (hg : w.grownBy w' (some cb)) : Both w0 w' rb cb ab bb i p R Q2 p' R' Q' := by
  obtain ⟨l0, l1, l2, l3, l4⟩ := h.lt
  exact ⟨h.f.csrs hF hg, ⟨h.d.reg.kept hg (some_ne (by omega)), h.d.csr.kept hg (some_ne (by omega)), h.d.n3⟩, below_of_grown h.b hg h.b.size (by omega), h.lt⟩
theorem Both.fil_kept {q : Nat} (h : Both w0 w rb cb ab bb i p R Q p' R' Q') (hg : w.grownBy w' (some q)) (hq : cb < q) : Fil w' rb cb i p R Q := by
  obtain ⟨l0, l1, l2, l3, l4⟩ := h.lt
  exact ⟨h.f.reg.kept hg (some_ne (by omega)), h.f.csr.kept hg (some_ne (by omega)), tab_grown h.f.tab hg (by omega), h.f.n3⟩
theorem Both.dregs {p2 : Int} {R2 : List Int} (h : Both w0 w rb cb ab bb i p R Q p' R' Q') (hF : Rg.RAt w' ab p2 R2) (hg : w.grownBy w' (some ab)) : Both w0 w' rb cb ab bb i p R Q p2 R2 Q' := by
  obtain ⟨l0, l1, l2, l3, l4⟩ := h.lt
  exact ⟨h.fil_kept hg (by omega), h.d.regs hF hg, below_of_grown h.b hg h.b.size (by omega), h.lt⟩
theorem Both.dcsrs {Q2 : List Nat} (h : Both w0 w rb cb ab bb i p R Q p' R' Q') (hF : Cs.RAt w' bb i Q2) (hg : w.grownBy w' (some bb)) : Both w0 w' rb cb ab bb i p R Q p' R' Q2 := by
  obtain ⟨l0, l1, l2, l3, l4⟩ := h.lt
  exact ⟨h.fil_kept hg (by omega), h.d.csrs hF hg, below_of_grown h.b hg h.b.size (by omega), h.lt⟩
theorem Both.fexec {p2 : Int} {R2 : List Int} {Q2 : List Nat} (h : Both w0 w rb cb ab bb i p R Q p' R' Q') (hF : Fil w' rb cb i p2 R2 Q2) (hk : Kp [rb, cb] w w') : Both w0 w' rb cb ab bb i p2 R2 Q2 p' R' Q' := by
  obtain ⟨l0, l1, l2, l3, l4⟩ := h.lt
  have hb : Below w0.heap.size w w' := hk.under (fun q hq => by simp at hq; omega) h.b.size
  exact ⟨hF, h.d.kp hk (by simp; omega) (by simp; omega), h.b.trans hb, h.lt⟩
theorem Both.dexec {p2 : Int} {R2 : List Int} {Q2 : List Nat} (h : Both w0 w rb cb ab bb i p R Q p' R' Q') (hF : Doc w' ab bb i p2 R2 Q2) (hk : Kp [ab, bb] w w') : Both w0 w' rb cb ab bb i p R Q p2 R2 Q2 := by
  obtain ⟨l0, l1, l2, l3, l4⟩ := h.lt
  have hb : Below w0.heap.size w w' := hk.under (fun q hq => by simp at hq; omega) h.b.size
  exact ⟨h.f.kp hk (by simp; omega) (by simp; omega) (by simp; omega), hF, h.b.trans hb, h.lt⟩
end

/-- the registers behind k rounds; behind all of them -/
def ld (zs : List Int) : Nat → List Int
  | 0 => Rg.zer
  | k + 1 => Rg.setR (ld zs k) (k : Int) (zs.getD k 0)
def ldR (zs : List Int) (n : Nat) : List Int := ld zs (min n 16)
/-- the kernel's registers -/
def qS (s : Nat) : List Nat := [0, 64, 32, 0, 0, s &&& 15, 0]
theorem ld_ok {zs : List Int} (h : ∀ z ∈ zs, 0 ≤ z ∧ z < 4294967296) : ∀ k, RegOk (ld zs k)
  | 0 => regOk_zer
  | k + 1 => (ld_ok h k).set _ _ (by
    rw [List.getD_eq_getElem?_getD]
    by_cases hk : k < zs.length
    · rw [List.getElem?_eq_getElem hk]
      exact h _ (List.getElem_mem hk)
    · rw [List.getElem?_eq_none (by omega)]
      exact ⟨Int.le_refl _, by decide⟩)
theorem ldR_ok {zs : List Int} (h : ∀ z ∈ zs, 0 ≤ z ∧ z < 4294967296) (n : Nat) : RegOk (ldR zs n) := ld_ok h _
theorem qS_1 : Cs.wrR Cs.ini 1 64 = [0, 64, 0, 0, 0, 4, 0] := by decide
theorem qS_2 : Cs.wrR [0, 64, 0, 0, 0, 4, 0] 2 32 = [0, 64, 32, 0, 0, 4, 0] := by decide
theorem qS_3 (s : Nat) : Cs.wrR [0, 64, 32, 0, 0, 4, 0] 5 s = qS s := by
  unfold Cs.wrR
  rw [if_pos (Cs.errZ_eq0 (by show Cs.hasB 4 4 = true; decide) (by decide) (by decide))]
  rfl

theorem made_any (a : Option Addr) (n cap : Nat) (zs : List Int) (pc : Int) (status : Nat) (w : World) (hn : n ≤ 9223372036854775807) (hs : status < 4294967296) (hz : RowK .u32 w w.heap.size a n zs) (hw : Is.HasT w) :
    Calls Tryz.prog 7 #[.slice a n cap, .int .u32 pc, .int .u32 (status : Int)] w fun e w' =>
      ∃ rb cb ab bb, e = .returned (.tuple #[.pointer (some ⟨rb, 0, none⟩), .pointer (some ⟨cb, 0, none⟩), .pointer (some ⟨ab, 0, none⟩), .pointer (some ⟨bb, 0, none⟩)]) ∧ Both w w' rb cb ab bb 2 pc (ldR zs n) (qS status) pc (ldR zs n) (qS status) := by
  have HZ := Lib.hid hz
  have HT := Lib.hid hw
  have A1 := fun cb => Cs.write_at cb 2 1 64 Cs.ini 0 _ (by decide) qS_1 (by decide)
  have A2 := fun cb => Cs.write_at cb 2 2 32 _ 0 _ (by decide) qS_2 (by decide)
  have A3 := fun cb => Cs.write_at cb 2 5 status [0, 64, 32, 0, 0, 4, 0] 0 _ (by decide) (qS_3 status) hs
  have B1 : Hid (∀ W bb, Cs.RAt W bb 2 Cs.ini → Calls Tryz.prog 27 #[.pointer (some ⟨bb, 0, none⟩), .int .i64 1, .int .u32 64] W fun e w' => e = .returned (.int .i64 0) ∧ Cs.RAt w' bb 2 [0, 64, 0, 0, 0, 4, 0] ∧ W.grownBy w' (some bb)) := Lib.hid fun W bb h => by
    have := Cs.refWrite_any bb 2 1 64 Cs.ini W h (by decide)
    rwa [qS_1, show Cs.errZ Cs.ini 1 7 = 0 by decide] at this
  have B2 : Hid (∀ W bb, Cs.RAt W bb 2 [0, 64, 0, 0, 0, 4, 0] → Calls Tryz.prog 27 #[.pointer (some ⟨bb, 0, none⟩), .int .i64 2, .int .u32 32] W fun e w' => e = .returned (.int .i64 0) ∧ Cs.RAt w' bb 2 [0, 64, 32, 0, 0, 4, 0] ∧ W.grownBy w' (some bb)) := Lib.hid fun W bb h => by
    have := Cs.refWrite_any bb 2 2 32 _ W h (by decide)
    rwa [qS_2, show Cs.errZ [0, 64, 0, 0, 0, 4, 0] 2 7 = 0 by decide] at this
  have B3 : Hid (∀ W bb, Cs.RAt W bb 2 [0, 64, 32, 0, 0, 4, 0] → Calls Tryz.prog 27 #[.pointer (some ⟨bb, 0, none⟩), .int .i64 5, .int .u32 (status : Int)] W fun e w' => e = .returned (.int .i64 0) ∧ Cs.RAt w' bb 2 (qS status) ∧ W.grownBy w' (some bb)) := Lib.hid fun W bb h => by
    have := Cs.refWrite_any bb 2 5 status _ W h hs
    rwa [qS_3, show Cs.errZ [0, 64, 32, 0, 0, 4, 0] 5 7 = 0 by decide] at this
  clear hz hw hs
  generalize hQ1 : ([0, 64, 0, 0, 0, 4, 0] : List Nat) = Q1 at A1 A2 B1 B2
  generalize hQ2 : ([0, 64, 32, 0, 0, 4, 0] : List Nat) = Q2 at A2 A3 B2 B3
  generalize qS status = Q3 at A3 B3 ⊢
  clear hQ1 hQ2
  go_enter Tryz.func7, Tryz.ntmps7
  go_wp2_with fail
  refine (Rg.new_any w).mono ?_
  rintro e w1 ⟨rfl, hF, hb⟩
  have HF1 := Lib.hid hF
  have HB1 := Lib.hid hb
  clear hF hb
  go_wp2_with fail
  refine (Cs.new_yes 2 w1 (by decide)).mono ?_
  rintro e w2 ⟨rfl, hC, hb⟩
  have HF2 := Lib.hid (HF1.out.below hb HF1.out.1.lt)
  have HC2 := Lib.hid hC
  have HB2 := Lib.hid (HB1.out.trans (hb.mono HB1.out.size))
  have HL2 : Hid (w.heap.size < w1.heap.size) := Lib.hid HF1.out.1.lt
  clear hC hb HF1 HB1
  generalize w1.heap.size = cb at HC2 HL2 ⊢
  go_upto_region 3 with fail
  refine wp_region_lit ?_
  refine wpList_buildTo rfl 43 _ rfl _ rfl (Rg.rCells 0 Rg.zer).toArray (by kernel_rfl) ?_
  refine Great.wpList_boxTo rfl 43 _ rfl _ rfl w2.heap.size rfl (Rg.rCells 0 Rg.zer).toArray rfl ?_
  have HA := (Below.refl w2.heap.size w2).alloc (Nat.le_refl _) (.cells (Rg.rCells 0 Rg.zer).toArray 43)
  have HA3 : Hid (Rg.RAt (w2.alloc (.cells (Rg.rCells 0 Rg.zer).toArray 43)) w2.heap.size 0 Rg.zer) := Lib.hid ⟨Blk.new w2 _ _, Rg.zer_len⟩
  have HF3 := Lib.hid (HF2.out.below HA HF2.out.1.lt)
  have HC3 := Lib.hid (HC2.out.below HA HC2.out.1.lt)
  have HB3 := Lib.hid (HB2.out.trans (HA.mono HB2.out.size))
  have HL3 : Hid (cb < w2.heap.size) := Lib.hid HC2.out.1.lt
  clear HF2 HC2 HB2 HA
  generalize w2.alloc (.cells (Rg.rCells 0 Rg.zer).toArray 43) = w3 at HA3 HF3 HC3 HB3 ⊢
  generalize w2.heap.size = ab at HA3 HL3 ⊢
  go_wp2_with fail
  refine (Cs.refNew_yes 2 w3 (by decide)).mono ?_
  rintro e w4 ⟨rfl, hD, hb⟩
  have HO : Hid (Both w w4 w.heap.size cb ab w3.heap.size 2 0 Rg.zer Cs.ini 0 Rg.zer Cs.ini) := Lib.hid ⟨⟨HF3.out.below hb HF3.out.1.lt, HC3.out.below hb HC3.out.1.lt, (HT.out.more HB3.out).more hb, by have := HL2.out; omega⟩, ⟨HA3.out.below hb HA3.out.1.lt, hD, by have := HA3.out.1.lt; omega⟩, HB3.out.trans (hb.mono HB3.out.size), HT.out.lt, Nat.le_refl _, HL2.out, HL3.out, HA3.out.1.lt⟩
  clear hD hb HF3 HC3 HB3 HA3 HL2 HL3 HT
  generalize w3.heap.size = bb at HO ⊢
  go_wp2
  go_loopw [16] (fun j wr => ∃ (k : Nat), k ≤ 16 ∧ k ≤ n ∧ j = .int .i64 k ∧ Hid (Both w wr w.heap.size cb ab bb 2 0 (ld zs k) Cs.ini 0 (ld zs k) Cs.ini)) (fun j _ => 16 - (intOf j).toNat)
  case atStart => exact ⟨0, Nat.zero_le _, Nat.zero_le _, rfl, HO⟩
  case round =>
    clear HO
    obtain ⟨k, hk, hkn, rfl, HO⟩ := hrel
    by_cases hin : k < n ∧ k < 16
    · obtain ⟨h1, h2⟩ := hin
      obtain ⟨x, rfl, hxb, hxc⟩ := HZ.out.2 k h1
      have HC := Lib.hid (And.intro (show (x.add k).block < w.heap.size by rw [block_of_add]; exact hxb) hxc)
      have HSET : Hid (∀ S, Rg.setR S (k : Int) (zs.getD k 0) = Rg.setR S (k : Int) (zs.getD k 0)) := Lib.hid fun _ => rfl
      have HLD : Hid (Rg.setR (ld zs k) (k : Int) (zs.getD k 0) = ld zs (k + 1)) := Lib.hid rfl
      have c1 := (HO.out.b.cell HC.out.1).trans HC.out.2
      generalize zs.getD k 0 = v at HC HLD c1
      have f1 : (k : Int) < (n : Int) := by omega
      have f2 : (k : Int) < 16 := by omega
      have H2 := Lib.hid h2
      have H1 := Lib.hid h1
      clear hxb hxc hk hkn h1 h2 HSET
      go_wp2_with fail
      refine (Rg.set_any w.heap.size 0 k v _ wr HO.out.f.reg).mono ?_
      rintro e w5 ⟨rfl, hF, hg⟩
      have HO5 := Lib.hid (HO.out.fregs hF hg)
      clear hF hg c1 HO
      have c1 := (HO5.out.b.cell HC.out.1).trans HC.out.2
      go_wp2_with fail
      refine (Rg.refSet_any ab 0 k v _ w5 HO5.out.d.reg).mono ?_
      rintro e w6 ⟨rfl, hF, hg⟩
      have HO6 := Lib.hid (HO5.out.dregs hF hg)
      rw [HLD.out] at HO6
      clear hF hg c1 HO5
      go_wp2
      go_roundw
      case rel => exact ⟨k + 1, H2.out, H1.out, by go_num, HO6⟩
      case measure => have := H2.out; simp [intOf]; omega
    · have hout : (¬ (k : Int) < (n : Int)) ∨ ((k : Int) < (n : Int) ∧ ¬ (k : Int) < 16) := by omega
      rw [show ld zs k = ldR zs n by unfold ldR; congr 1; omega] at HO
      obtain ⟨R, hR⟩ : ∃ R, ldR zs n = R := ⟨_, rfl⟩
      rw [hR] at HO
      have HRR := Lib.hid hR
      clear hR
      rcases hout with f1 | ⟨f1, f2⟩
      all_goals
        clear hin hk hkn HZ
        go_wp2_with fail
        refine (Rg.jump_any w.heap.size 0 pc R wr HO.out.f.reg).mono ?_
        rintro e w5 ⟨rfl, hF, hg⟩
        have HO5 := Lib.hid (HO.out.fregs hF hg)
        clear hF hg HO f1
        try clear f2
        have c16 : w5.cell? ⟨ab, 16, none⟩ = some (.int .u32 0) := HO5.out.d.reg.pc
        have f16 : w5.frozen? ⟨ab, 16, none⟩ = false := Blk.frozen HO5.out.d.reg.1 16
        have hlt := HO5.out.d.reg.1.lt
        have HO6 := Lib.hid (HO5.out.dregs (HO5.out.d.reg.jump pc) (grown_setCell w5 ab 16 (.int .u32 pc)))
        clear HO5
        go_upto_region 14 with fail
        generalize w5.setCell ⟨ab, 16, none⟩ (.int .u32 pc) = w6 at HO6 ⊢
        clear c16 f16 hlt
        go_wp2_with fail
        refine ((A1 cb).out w6 HO6.out.f.csr).mono ?_
        rintro e w7 ⟨rfl, hF, hg⟩
        have HO7 := Lib.hid (HO6.out.fcsrs hF hg)
        clear hF hg HO6
        go_wp2_with fail
        refine (B1.out w7 bb HO7.out.d.csr).mono ?_
        rintro e w8 ⟨rfl, hF, hg⟩
        have HO8 := Lib.hid (HO7.out.dcsrs hF hg)
        clear hF hg HO7
        go_wp2_with fail
        refine ((A2 cb).out w8 HO8.out.f.csr).mono ?_
        rintro e w9 ⟨rfl, hF, hg⟩
        have HO9 := Lib.hid (HO8.out.fcsrs hF hg)
        clear hF hg HO8
        go_wp2_with fail
        refine (B2.out w9 bb HO9.out.d.csr).mono ?_
        rintro e w10 ⟨rfl, hF, hg⟩
        have HO10 := Lib.hid (HO9.out.dcsrs hF hg)
        clear hF hg HO9
        go_wp2_with fail
        refine ((A3 cb).out w10 HO10.out.f.csr).mono ?_
        rintro e w11 ⟨rfl, hF, hg⟩
        have HO11 := Lib.hid (HO10.out.fcsrs hF hg)
        clear hF hg HO10
        go_wp2_with fail
        refine (B3.out w11 bb HO11.out.d.csr).mono ?_
        rintro e w12 ⟨rfl, hF, hg⟩
        have HO12 := Lib.hid (HO11.out.dcsrs hF hg)
        clear hF hg HO11
        go_wp2
        exact bodyPost_ret (v := .tuple #[.pointer (some ⟨w.heap.size, 0, none⟩), .pointer (some ⟨cb, 0, none⟩), .pointer (some ⟨ab, 0, none⟩), .pointer (some ⟨bb, 0, none⟩)]) (by simp [results, Tryz.results7, go_sem]) rfl ⟨_, _, _, _, rfl, by rw [HRR.out]; exact HO12.out⟩
end Go.Proofs.YtniaclhmfmkikaaGreatDoor.Ex
end
section
/- Package core: words stay words; effects compared; awake of the law. -/
namespace Go.Proofs.YtniaclhmfmkikaaGreatDoor.Ex
open Go.RowKit Ut
set_option maxRecDepth 100000
set_option linter.unusedVariables false
set_option maxHeartbeats 4000000

theorem one1_lt (t : Bool) : Al.one1 t < 4294967296 := by cases t <;> decide
theorem lt_ite {c : Prop} [Decidable c] {x y : Nat} (hx : x < 4294967296) (hy : y < 4294967296) : (if c then x else y) < 4294967296 := by
  by_cases h : c
  · rw [if_pos h]; exact hx
  · rw [if_neg h]; exact hy
theorem ok_ite {c : Prop} [Decidable c] {x y : Res} (hx : RegOk x.R) (hy : RegOk y.R) : RegOk (if c then x else y).R := by
  by_cases h : c
  · rw [if_pos h]; exact hx
  · rw [if_neg h]; exact hy
theorem sarN_lt (a k : Nat) (ha : a < 4294967296) : Al.sarN a k < 4294967296 :=
  lt_ite (Nat.lt_of_le_of_lt (Nat.div_le_self _ _) ha) (Nat.lt_of_le_of_lt (Nat.sub_le _ _) (by decide))
theorem reckN_lt (i : Int) (a b : Nat) (ha : a < 4294967296) (hb : b < 4294967296) : Al.reckN i a b < 4294967296 :=
  lt_ite (Nat.mod_lt _ (by decide)) <| lt_ite (Nat.mod_lt _ (by decide)) <| lt_ite (Nat.lt_of_le_of_lt Nat.and_le_left ha) <| lt_ite (Nat.or_lt_two_pow (n := 32) ha hb) <| lt_ite (Nat.xor_lt_two_pow (n := 32) ha hb) <|
  lt_ite (Nat.mod_lt _ (by decide)) <| lt_ite (Nat.lt_of_le_of_lt (Nat.div_le_self _ _) ha) <| lt_ite (sarN_lt _ _ ha) <| lt_ite (one1_lt _) <| lt_ite (one1_lt _) <| lt_ite (Nat.mod_lt _ (by decide)) <|
  lt_ite (lt_ite (by decide) (Nat.lt_of_le_of_lt (Nat.div_le_self _ _) ha)) <| lt_ite (Nat.lt_of_le_of_lt (Nat.mod_le _ _) ha) (by decide)
theorem rdZ_in {Q : List Nat} (hQ : Cs.Ok Q) {i : Nat} (hi : i < 4) (n clock : Int) : 0 ≤ Cs.rdZ Q i n clock ∧ Cs.rdZ Q i n clock < 4294967296 := by
  unfold Cs.rdZ
  have := hQ.reg n.toNat
  split
  · split
    · omega
    · split <;> omega
  · omega
theorem exX_ok {R : List Int} (hR : RegOk R) {Q : List Nat} (hQ : Cs.Ok Q) {i : Nat} (hi : i < 4) (p clock o d a b m : Int) : RegOk (exX R p Q i clock o d a b m).R := by
  have hx : (Rg.getR R a).toNat < 4294967296 := by have := hR.get a; omega
  have hy : (Rg.getR R b).toNat < 4294967296 := by have := hR.get b; omega
  have hm : (m % 4294967296).toNat < 4294967296 := by omega
  have k1 : ∀ v, 0 ≤ v ∧ v < 4294967296 → RegOk (giveX R p Q d v).R := fun v hv => hR.set d v hv
  have k2 : ∀ q, RegOk (jumpX R p Q d q).R := fun q => hR.set d _ (nxt_in p)
  have h1 := reckN_lt o _ _ hx hy
  have h2 := reckN_lt (Al.plainN o) _ _ hx hm
  unfold exX
  refine ok_ite (ok_ite (ok_ite ?_ hR) ?_) hR
  · unfold kernX
    exact ok_ite hR <| ok_ite hR <| ok_ite hR <| ok_ite hR <| ok_ite (k1 _ (rdZ_in hQ hi _ _)) <| ok_ite hR hR
  · unfold userX
    exact ok_ite (k1 _ (by omega)) <| ok_ite (k1 _ (by omega)) <| ok_ite (k1 _ (by omega)) <| ok_ite hR <| ok_ite hR <| ok_ite hR <| ok_ite hR <| ok_ite hR <| ok_ite hR <| ok_ite hR <| ok_ite (k2 _) <| ok_ite (k2 _) <| ok_ite hR hR

theorem guard_eff (op : BinOp) (x y : Operand) (E F : Eff) (w : World) : (eqGuard op 32 x y E.val F.val).run Tryz.prog w = .ok () w := run_eqGuard_agg w op 32 x y _ _ (by kernel_rfl)
theorem eql_eff (E : Eff) (w : World) : (binOp .eql 32 E.val E.val).run Tryz.prog w = .ok (.bool true) w := by
  unfold Eff.val Eff.cs
  go_simp
theorem neq_eff (E : Eff) (w : World) : (binOp .neq 32 E.val E.val).run Tryz.prog w = .ok (.bool false) w := by
  unfold Eff.val Eff.cs
  go_simp
/-- an Effect that a call gave is laid into a new block -/
theorem eff_put (w : World) (E : Eff) : Below w.heap.size w ((w.alloc (.cells zeroE.cs.toArray 32)).setRow w.heap.size E.cs.toArray) ∧ Blk ((w.alloc (.cells zeroE.cs.toArray 32)).setRow w.heap.size E.cs.toArray) w.heap.size 32 E.cs :=
  ⟨below_setRow (eff_below w) (Nat.le_refl _) _, (eff_blk w).row _⟩

theorem ex_awake : exX Rg.zer 8 (qS 4) 2 0 32 1 0 0 4 = ⟨doneE 24, Rg.setR Rg.zer 1 12, 24, qS 4⟩ := by
  rw [ex_user (by decide +kernel) (by decide +kernel), user_far (by decide), if_neg (by decide), if_pos rfl]
  rfl
theorem awake13_any (w : World) (hw : Is.HasT w) : Calls Tryz.prog 16 #[] w fun e w' => e = .returned (.bool true) ∧ Below w.heap.size w w' := by
  have HT := Lib.hid hw
  have HX : Hid (∀ W rb cb, Fil W rb cb 2 8 Rg.zer (qS 4) → Calls Tryz.prog 8 #[Is.insV 32 1 0 0 4, .pointer (some ⟨rb, 0, none⟩), .pointer (some ⟨cb, 0, none⟩), .int .i64 0] W fun e w' => e = .returned (.tuple #[(doneE 24).val, .int .i64 0]) ∧ Fil w' rb cb 2 24 (Rg.setR Rg.zer 1 12) (qS 4) ∧ Kp [rb, cb] W w') := Lib.hid fun W rb cb h => by
    have := exec_any (clock := 0) (o := 32) (d := 1) (a := 0) (b := 0) (m := 4) regOk_zer W h
    rw [ex_awake, show exZ 32 1 0 0 4 = 0 from if_pos (by decide +kernel)] at this
    exact this
  clear hw
  go_enter Tryz.func16, Tryz.ntmps16
  go_wp2_with fail
  refine (made_any none 0 0 [] 8 4 w (by decide) (by decide) (RowK.nil _ _ _ _) HT.out).mono ?_
  rintro e w1 ⟨rb, cb, ab, bb, rfl, hO⟩
  have HO1 := Lib.hid hO
  clear hO
  go_wp2_with fail
  refine (HX.out w1 rb cb HO1.out.f).mono ?_
  rintro e w2 ⟨rfl, hF, hk⟩
  have HO2 := Lib.hid (HO1.out.fexec hF hk)
  clear hF hk HO1 HX
  go_simp
  rename_i hK
  refine hK _ _ ?_
  clear hK
  refine Great.wpList_readTo rfl _ rfl (.tuple #[(doneE 24).val, .int .i64 0]) (by kernel_rfl) ?_
  refine Great.wpList_readTo rfl _ rfl (doneE 24).val (by kernel_rfl) ?_
  refine Great.wpList_readTo rfl _ rfl (.int .i64 0) (by kernel_rfl) ?_
  refine Great.wpList_allocTo rfl (some 5) rfl (.pointer (some ⟨w2.heap.size, 0, none⟩)) (.cells zeroE.cs.toArray 32) ((eff_run w2).out _ _ rfl) ?_
  refine wpList_store_rowTo rfl 32 _ _ rfl rfl w2.heap.size (doneE 24).cs.toArray (by kernel_rfl) (by kernel_rfl) 32 zeroE.cs.toArray (eff_blk w2) (size_eff _) rfl (one_eff _) ?_
  obtain ⟨hb, hN⟩ := eff_put w2 (doneE 24)
  have HO3 := Lib.hid (HO2.out.below hb)
  have HN3 := Lib.hid hN
  clear hb hN HO2
  generalize (w2.alloc (.cells zeroE.cs.toArray 32)).setRow w2.heap.size (doneE 24).cs.toArray = w3 at HO3 HN3 ⊢
  generalize w2.heap.size = g at HN3 ⊢
  go_wp2_with fail
  refine (Rg.get_any rb 24 1 _ w3 HO3.out.f.reg).mono ?_
  rw [show Rg.getR (Rg.setR Rg.zer 1 12) 1 = 12 by decide, show Rg.errZ 1 = 0 by decide]
  rintro e w4 ⟨rfl, rfl⟩
  have c0 : w3.cell? ⟨g, 0, none⟩ = some (.int .i64 0) := HN3.out.cell rfl
  have c1 : w3.cell? ⟨g, 1, none⟩ = some (.int .u32 24) := HN3.out.cell rfl
  have c2 : w3.cell? ⟨g, 2, none⟩ = some (.int .u32 0) := HN3.out.cell rfl
  have c3 : w3.cell? ⟨g, 3, none⟩ = some (.int .i64 0) := HN3.out.cell rfl
  have c4 : w3.cell? ⟨g, 4, none⟩ = some (.bool false) := HN3.out.cell rfl
  have c5 : w3.cell? ⟨g, 5, none⟩ = some (.int .i64 0) := HN3.out.cell rfl
  have c6 : w3.cell? ⟨g, 6, none⟩ = some (.int .u32 0) := HN3.out.cell rfl
  have c7 : w3.cell? ⟨g, 7, none⟩ = some (.int .u32 0) := HN3.out.cell rfl
  have c8 : w3.cell? ⟨g, 8, none⟩ = some (.int .u32 0) := HN3.out.cell rfl
  have hlt := HN3.out.lt
  go_wp2
  go_ret
  exact ⟨rfl, HO3.out.b⟩
end Go.Proofs.YtniaclhmfmkikaaGreatDoor.Ex
end
section
/- What the laws of core share: an array of registers laid into a block of its own; arrays compared. -/
namespace Go.Proofs.YtniaclhmfmkikaaGreatDoor.Ex
open Go.RowKit Ut
set_option maxRecDepth 100000
set_option linter.unusedVariables false
set_option maxHeartbeats 4000000

theorem old_put (w : World) (R : List Int) (hR : R.length = 16) : Below w.heap.size w ((w.alloc (.cells (Rg.wordsV Rg.zer).toArray 40)).setRow w.heap.size (Rg.wordsV R).toArray) ∧ Blk ((w.alloc (.cells (Rg.wordsV Rg.zer).toArray 40)).setRow w.heap.size (Rg.wordsV R).toArray) w.heap.size 40 (Rg.wordsV R) :=
  ⟨below_setRow ((Below.refl _ _).alloc (Nat.le_refl _) _) (Nat.le_refl _) _, (Blk.new w _ _).row _⟩
theorem ker_put (w : World) (Q : List Nat) : Below w.heap.size w ((w.alloc (.cells (Cs.wordsV Cs.zer).toArray 45)).setRow w.heap.size (Cs.wordsV Q).toArray) ∧ Blk ((w.alloc (.cells (Cs.wordsV Cs.zer).toArray 45)).setRow w.heap.size (Cs.wordsV Q).toArray) w.heap.size 45 (Cs.wordsV Q) :=
  ⟨below_setRow ((Below.refl _ _).alloc (Nat.le_refl _) _) (Nat.le_refl _) _, (Blk.new w _ _).row _⟩
theorem size_old (R : List Int) (h : R.length = 16) : (Tryz.prog.info? 40).map (·.size) = some (Rg.wordsV R).toArray.size := by
  rw [Rg.size_words R h]
  simp
theorem one_old (R : List Int) : (Rg.wordsV R).toArray.all (·.oneCell') = true := by simpa using Rg.one_words R
theorem size_ker (Q : List Nat) (h : Q.length = 7) : (Tryz.prog.info? 45).map (·.size) = some (Cs.wordsV Q).toArray.size := by
  rw [Cs.size_words Q h]
  simp
theorem one_ker (Q : List Nat) : (Cs.wordsV Q).toArray.all (·.oneCell') = true := by simpa using Cs.one_words Q
theorem old_cell {W : World} {ob : Nat} {R : List Int} (h : Blk W ob 40 (Rg.wordsV R)) (hR : R.length = 16) (k : Nat) (hk : k < 16) (x : Int) (hx : Rg.getR R (k : Int) = x) : W.cell? ⟨ob, k, none⟩ = some (.int .u32 x) := h.cell (by
  rw [Rg.getR_yes hk] at hx
  subst hx
  simp [Rg.wordsV, List.getD, hR, hk])
/-- what ExecC says, the result's letters named -/
theorem exec_at {rb cb i : Nat} {p : Int} {R : List Int} {Q : List Nat} (hR : RegOk R) (clock o d a b m : Int) (r : Res) (z : Int) (hr : exX R p Q i clock o d a b m = r) (hz : exZ o d a b m = z) :
    Hid (∀ W, Fil W rb cb i p R Q → Calls Tryz.prog 8 #[Is.insV o d a b m, .pointer (some ⟨rb, 0, none⟩), .pointer (some ⟨cb, 0, none⟩), .int .i64 clock] W fun e w' => e = .returned (.tuple #[r.E.val, .int .i64 z]) ∧ Fil w' rb cb i r.p r.R r.Q ∧ Kp [rb, cb] W w') := Lib.hid fun W h => by
  have := exec_any hR clock o d a b m W h
  rw [hr, hz] at this
  exact this
theorem wordR_len {R : List Int} (h : RegOk R) : R.length = 16 := h.1
end Go.Proofs.YtniaclhmfmkikaaGreatDoor.Ex
end
