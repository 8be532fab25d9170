/- Package frames: what the methods of a store return and leave, for every argument. -/
import Derived.Test.YtlgohgjnocoadaaIa
import Derived.Test.YtlgohgjnocoadaaWa
namespace Go.Proofs.Ytlgohgjnocoadaa.Fr
open Go.RowKit Ut Oc
set_option maxRecDepth 100000
set_option linter.unusedVariables false

theorem built_st (n : Nat) : Try.prog.built 109 [(0, .bool true), (1, .int .i64 n)] = some (stCells n zeros).toArray := by kernel_rfl
theorem built_frame : Try.prog.built 106 [] = some ((List.replicate 64 (0 : Int)).map (Value.int .u8)).toArray := by kernel_rfl
theorem size_frame : (Try.prog.info? 106).map (·.size) = some 64 := by kernel_rfl

theorem new_bad (n : Int) (w : World) (h : n < 0 ∨ 32 < n) :
    Calls Try.prog 28 #[.int .i64 n] w fun e w' => e = .returned (.tuple #[.pointer none, .int .i64 1]) ∧ w = w' := by
  rcases Int.lt_or_le n 0 with f0 | f0
  · have f1 : decide (n < 0) = true := by simpa using f0
    go_enter Try.func28, Try.ntmps28
    go_wp2
    go_ret2
    exact ⟨rfl, rfl⟩
  · have f1 : decide (n < 0) = false := by simpa using f0
    have f2 : decide (32 < n) = true := by simp; omega
    go_enter Try.func28, Try.ntmps28
    go_wp2
    go_ret2
    exact ⟨rfl, rfl⟩

theorem new_ok (n : Nat) (w : World) (h : n ≤ 32) :
    Calls Try.prog 28 #[.int .i64 n] w fun e w' => e = .returned (.tuple #[.pointer (some ⟨w.heap.size, 0, none⟩), .int .i64 0]) ∧ St w' w.heap.size n zeros ∧ Below w.heap.size w w' := by
  have f1 : decide ((n : Int) < 0) = false := by simp
  have f2 : decide ((32 : Int) < (n : Int)) = false := by simp; omega
  have HH := Lib.hid h
  have hS : St (w.alloc (.cells (stCells n zeros).toArray 109)) w.heap.size n zeros := ⟨heap_alloc_new w _, zeros_len, zeros_bytes, h⟩
  have HS := Lib.hid hS
  have HB := (Below.refl w.heap.size w).alloc (Nat.le_refl _) (.cells (stCells n zeros).toArray 109)
  clear h hS
  go_enter Try.func28, Try.ntmps28
  go_upto_region 3 with fail
  refine wp_region_lit ?_
  refine Great.wpList_readTo rfl _ rfl (.int .i64 n) (by kernel_rfl) ?_
  refine wpList_buildTo rfl 109 _ rfl _ rfl (stCells n zeros).toArray (by kernel_rfl) ?_
  refine Great.wpList_boxTo rfl 109 _ rfl _ rfl w.heap.size rfl (stCells n zeros).toArray rfl ?_
  obtain ⟨W, hW⟩ : ∃ W, W = w.alloc (.cells (stCells n zeros).toArray 109) := ⟨_, rfl⟩
  rw [← hW] at HS HB ⊢
  clear hW
  go_wp2
  go_ret2
  exact ⟨rfl, HS.out, HB⟩

theorem len_nil (w : World) : Calls Try.prog 52 #[.pointer none] w fun e w' => e = .returned (.int .i64 0) ∧ w = w' := by
  go_enter Try.func52, Try.ntmps52
  go_wp2
  go_ret
  exact ⟨rfl, rfl⟩
theorem len_of (b : Nat) (n : Int) (w : World) (h1 : w.cell? ⟨b, 1, none⟩ = some (.int .i64 n)) :
    Calls Try.prog 52 #[.pointer (some ⟨b, 0, none⟩)] w fun e w' => e = .returned (.int .i64 n) ∧ w = w' := by
  go_enter Try.func52, Try.ntmps52
  go_wp2
  go_ret
  exact ⟨rfl, rfl⟩

/-- where find says no: what all others answer -/
theorem load_no (p : Option Addr) (f o m z : Int) (w : World) (hz : z = 1 ∨ z = 7) (hF : Calls Try.prog 49 #[.pointer p, .int .i64 f] w fun e w' => e = .returned (.tuple #[.pointer none, .int .i64 z]) ∧ w = w') :
    Calls Try.prog 25 #[.pointer p, .int .i64 f, .int .i64 o, .int .i64 m] w fun e w' => e = .returned (.tuple #[.int .u32 0, .int .i64 z]) ∧ w = w' := by
  have hz0 : (z == 0) = false := by rcases hz with rfl | rfl <;> rfl
  clear hz
  go_enter Try.func25, Try.ntmps25
  go_wp2_with (go_at_call 49; refine hF.mono ?_; rintro e w' ⟨rfl, rfl⟩)
  go_ret2
  exact ⟨rfl, rfl⟩
theorem save_no (p : Option Addr) (f o m v z : Int) (w : World) (hz : z = 1 ∨ z = 7) (hF : Calls Try.prog 49 #[.pointer p, .int .i64 f] w fun e w' => e = .returned (.tuple #[.pointer none, .int .i64 z]) ∧ w = w') :
    Calls Try.prog 36 #[.pointer p, .int .i64 f, .int .i64 o, .int .i64 m, .int .u32 v] w fun e w' => e = .returned (.int .i64 z) ∧ w = w' := by
  have hz0 : (z == 0) = false := by rcases hz with rfl | rfl <;> rfl
  clear hz
  go_enter Try.func36, Try.ntmps36
  go_wp2_with (go_at_call 49; refine hF.mono ?_; rintro e w' ⟨rfl, rfl⟩)
  go_ret
  exact ⟨rfl, rfl⟩
theorem bytes_no (p : Option Addr) (f z : Int) (w : World) (hz : z = 1 ∨ z = 7) (hF : Calls Try.prog 49 #[.pointer p, .int .i64 f] w fun e w' => e = .returned (.tuple #[.pointer none, .int .i64 z]) ∧ w = w') :
    Calls Try.prog 47 #[.pointer p, .int .i64 f] w fun e w' => e = .returned (.tuple #[.slice none 0 0, .int .i64 z]) ∧ w = w' := by
  have hz0 : (z == 0) = false := by rcases hz with rfl | rfl <;> rfl
  clear hz
  go_enter Try.func47, Try.ntmps47
  go_wp2_with (go_at_call 49; refine hF.mono ?_; rintro e w' ⟨rfl, rfl⟩)
  go_ret2
  exact ⟨rfl, rfl⟩
theorem frame_slice_bd : (64 : Nat) ≤ 9223372036854775807 := by omega

theorem load_out (b n f : Nat) (o m : Int) (L : List Int) (w : World) (hS : St w b n L) (hf : f < n) (h : hold 64 o m = false) :
    Calls Try.prog 25 #[.pointer (some ⟨b, 0, none⟩), .int .i64 f, .int .i64 o, .int .i64 m] w fun e w' => e = .returned (.tuple #[.int .u32 0, .int .i64 1]) ∧ w = w' := by
  have HS := Lib.hid hS
  have HF := Lib.hid hf
  clear hS hf
  go_enter Try.func25, Try.ntmps25
  go_wp2_with (first | (go_at_call 49; refine (find_in b n f L w HS.out HF.out).mono ?_; rintro e w' ⟨rfl, rfl⟩) | (go_at_call 50; refine (get_no _ 64 _ o m _ frame_slice_bd h).mono ?_; rintro e w' ⟨rfl, rfl⟩))
  go_ret2
  exact ⟨rfl, rfl⟩

theorem load_in (b n f o m : Nat) (L : List Int) (w : World) (hS : St w b n L) (hf : f < n) (hm : isW m = true) (hi : o + m ≤ 64) :
    Calls Try.prog 25 #[.pointer (some ⟨b, 0, none⟩), .int .i64 f, .int .i64 o, .int .i64 m] w fun e w' => e = .returned (.tuple #[.int .u32 (num (((frameL L f).drop o).take m)), .int .i64 0]) ∧ w = w' := by
  have hn := hS.2.2.2
  have HR := Lib.hid (hS.frame f (by omega))
  have HZ := Lib.hid (frameL_bytes hS.2.2.1 f)
  have HS := Lib.hid hS
  have HF := Lib.hid hf
  have HM := Lib.hid hm
  have HI := Lib.hid hi
  clear hS hf hm hi hn
  go_enter Try.func25, Try.ntmps25
  go_wp2_with (first | (go_at_call 49; refine (find_in b n f L w HS.out HF.out).mono ?_; rintro e w' ⟨rfl, rfl⟩) | (go_at_call 50; refine (get_yes _ 64 64 o m _ _ _ (Nat.le_refl _) frame_slice_bd HR.out HZ.out HM.out HI.out).mono ?_; rintro e w' ⟨rfl, rfl⟩))
  go_ret2
  exact ⟨rfl, rfl⟩

theorem save_out (b n f : Nat) (o m v : Int) (L : List Int) (w : World) (hS : St w b n L) (hf : f < n) (h : hold 64 o m = false) :
    Calls Try.prog 36 #[.pointer (some ⟨b, 0, none⟩), .int .i64 f, .int .i64 o, .int .i64 m, .int .u32 v] w fun e w' => e = .returned (.int .i64 1) ∧ w = w' := by
  have HS := Lib.hid hS
  have HF := Lib.hid hf
  clear hS hf
  go_enter Try.func36, Try.ntmps36
  go_wp2_with (first | (go_at_call 49; refine (find_in b n f L w HS.out HF.out).mono ?_; rintro e w' ⟨rfl, rfl⟩) | (go_at_call 57; refine (put_no _ 64 _ o m v _ frame_slice_bd h).mono ?_; rintro e w' ⟨rfl, rfl⟩))
  go_ret
  exact ⟨rfl, rfl⟩

/-- block b's cells are turned, new blocks are made, all else is as it was -/
theorem grown_set {w w1 : World} {b : Nat} (hb : Below w.heap.size w w1) (cs : Array Value) : w.grownBy (w1.setRow b cs) (some b) :=
  ⟨hb.os, hb.tape, hb.output, by rw [size_setRow]; exact hb.size, fun k hk hne => by
    rw [setRow_other _ _ _ _ (fun e => hne (by rw [e]))]
    exact hb.block k hk⟩
theorem below_grown {B b : Nat} {w0 w w' : World} (h : Below B w0 w) (hg : w.grownBy w' (some b)) (hB : B ≤ w.heap.size) (hr : B ≤ b) : Below B w0 w' := h.grown hg hB (fun k hk => by injection hk with e; omega)

theorem save_in (b n f o m : Nat) (v : Int) (L : List Int) (w : World) (hS : St w b n L) (hf : f < n) (hm : isW m = true) (hi : o + m ≤ 64) (hv0 : 0 ≤ v) (hv1 : v < 4294967296) :
    Calls Try.prog 36 #[.pointer (some ⟨b, 0, none⟩), .int .i64 f, .int .i64 o, .int .i64 m, .int .u32 v] w fun e w' =>
      e = .returned (.int .i64 0) ∧ St w' b n (layF L f (putZ (frameL L f) o m v)) ∧ w.grownBy w' (some b) := by
  have hn := hS.2.2.2
  have hlt := hS.lt
  have hl := hS.2.1
  have HFL := Lib.hid (length_frameL hl (f := f) (by omega))
  have HPL := Lib.hid ((length_putZ (frameL L f) o m v (by rw [HFL.out]; omega)).trans HFL.out)
  have HPB := Lib.hid (putZ_bytes (frameL_bytes hS.2.2.1 f) o m v)
  have HE := Lib.hid (stCells_lay n hl (f := f) (by omega) HPL.out)
  have HR := Lib.hid ((hS.frame f (by omega)).more (B' := w.heap.size) (by omega))
  have HZ := Lib.hid (frameL_bytes hS.2.2.1 f)
  have HN := Lib.hid (⟨length_layF hl (f := f) (by omega) HPL.out, layF_bytes hS.2.2.1 f HPB.out, hn⟩ : (layF L f (putZ (frameL L f) o m v)).length = 2048 ∧ AreBytes (layF L f (putZ (frameL L f) o m v)) ∧ n ≤ 32)
  have HFIT := Lib.hid (show 2 + 64 * f + ((putZ (frameL L f) o m v).map (Value.int .u8)).length ≤ (stCells n L).length by rw [List.length_map, HPL.out, length_stCells n hl]; omega)
  have HLT := Lib.hid hlt
  have HS := Lib.hid hS
  have HF := Lib.hid hf
  have HM := Lib.hid hm
  have HI := Lib.hid hi
  have HV := Lib.hid (And.intro hv0 hv1)
  obtain ⟨X, hX⟩ : ∃ X, X = putZ (frameL L f) o m v := ⟨_, rfl⟩
  rw [← hX] at HPL HPB HE HN HFIT ⊢
  have HX := Lib.hid hX
  clear hS hf hm hi hn hlt hl hv0 hv1 hX
  go_enter Try.func36, Try.ntmps36
  go_upto_region 7 with (first | (go_at_call 49; refine (find_in b n f L w HS.out HF.out).mono ?_; rintro e w' ⟨rfl, rfl⟩) | (go_at_call 57; refine (put_yes _ 64 64 o m v _ _ (by omega) HR.out HM.out HI.out HV.out.1 HV.out.2).mono ?_; rintro e w2 ⟨rfl, hr2, hb2⟩))
  have HS2 := Lib.hid (HS.out.below hb2 HLT.out)
  rw [← HX.out] at hr2
  have HR2 := Lib.hid hr2
  have HG := Lib.hid (grown_set hb2 (b := b) (stCells n (layF L f X)).toArray)
  have HST : Hid (St (w2.setRow b (stCells n (layF L f X)).toArray) b n (layF L f X)) := ⟨setRow_heap w2 b _ _ _ _ HS2.out.1, HN.out⟩
  have HC : Hid (∀ j v, (X.map (Value.int .u8))[j]? = some v → w2.cell? ((⟨w.heap.size, 0, none⟩ : Addr).add j) = some v) := by
    obtain ⟨ad, e, _, hc⟩ := HR2.out.cells (by rw [List.length_map, HPL.out]; omega)
    injection e with e
    subst e
    exact hc
  have HL : (X.map (Value.int .u8)).length = Nat.min 64 64 := by rw [List.length_map, HPL.out]; rfl
  clear hr2
  go_wp2_with (refine wpList_copy_own rfl (.tmp 38) (.tmp 39) 30 30 rfl 5 Try.underlying30 size_byte b (2 + 64 * f) 64 64 ⟨w.heap.size, 0, none⟩ 64 64 rfl rfl (stCells n L).toArray 109 HS2.out.1 (X.map (Value.int .u8)) HL HC.out HFIT.out (ints_oneCell _ _) ?_; rw [show ((stCells n L).toArray.toList.take (2 + 64 * f) ++ (X.map (Value.int .u8) ++ (stCells n L).toArray.toList.drop (2 + 64 * f + (X.map (Value.int .u8)).length))) = stCells n (layF L f X) from HE.out])
  go_ret
  exact ⟨rfl, HST.out, HG.out⟩
end Go.Proofs.Ytlgohgjnocoadaa.Fr
