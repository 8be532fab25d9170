/- Package frames: Clear, Bytes, Clean of a frame that is there. -/
import Derived.Test.YthabilokbfieiaaIb
namespace Go.Proofs.Ythabilokbfieiaa.Fr
open Go.RowKit Ut Oc
set_option maxRecDepth 100000
set_option linter.unusedVariables false

/-- a frame of zeros -/
def zer : List Int := List.replicate 64 0
theorem zer_len : zer.length = 64 := List.length_replicate
theorem zer_bytes : AreBytes zer := fun z hz => by rw [List.eq_of_mem_replicate hz]; omega
theorem run_zero (w : World) : (Instr.build 70 #[]).run Try.prog w = .ok (.agg (zer.map (Value.int .u8)).toArray) w := run_build w 70 _ _ built_frame

theorem clear_in (b n f : Nat) (L : List Int) (w : World) (hS : St w b n L) (hf : f < n) :
    Calls Try.prog 34 #[.pointer (some ⟨b, 0, none⟩), .int .i64 f] w fun e w' =>
      e = .returned (.int .i64 0) ∧ St w' b n (layF L f zer) ∧ w.grownBy w' (some b) := by
  have hn := hS.2.2.2
  have hl := hS.2.1
  have HST : Hid (St (w.setRow b (stCells n (layF L f zer)).toArray) b n (layF L f zer)) := ⟨setRow_heap w b _ _ _ _ hS.1, length_layF hl (by omega) zer_len, layF_bytes hS.2.2.1 f zer_bytes, hn⟩
  have HG := Lib.hid (grown_set (Below.refl w.heap.size w) (b := b) (stCells n (layF L f zer)).toArray)
  have HE := Lib.hid (stCells_lay n hl (f := f) (by omega) zer_len)
  have HFIT := Lib.hid (show 2 + 64 * f + (zer.map (Value.int .u8)).length ≤ (stCells n L).length by rw [List.length_map, zer_len, length_stCells n hl]; omega)
  have HS := Lib.hid hS
  have HF := Lib.hid hf
  clear hS hf hn hl
  go_enter Try.func34, Try.ntmps34
  go_upto_region 4 with (go_at_call 35; refine (find_in b n f L w HS.out HF.out).mono ?_; rintro e w' ⟨rfl, rfl⟩)
  refine wp_region_lit ?_
  refine Great.wpList_readTo rfl _ rfl (.pointer (some ⟨b, 2 + 64 * f, none⟩)) (by kernel_rfl) ?_
  refine wpList_buildTo rfl 70 _ rfl _ rfl (zer.map (Value.int .u8)).toArray (by kernel_rfl) ?_
  refine Great.wpList_readTo rfl _ rfl (.pointer (some ⟨b, 2 + 64 * f, none⟩)) (by kernel_rfl) ?_
  refine wpList_store_cells rfl 70 _ _ rfl b (2 + 64 * f) 73 (stCells n L) (zer.map (Value.int .u8)) rfl rfl HS.out.1 size_frame HFIT.out (ints_oneCell _ _) ?_
  rw [HE.out]
  obtain ⟨W, hW⟩ : ∃ W, W = w.setRow b (stCells n (layF L f zer)).toArray := ⟨_, rfl⟩
  rw [← hW] at HST HG ⊢
  clear hW
  go_wp2
  go_ret
  exact ⟨rfl, HST.out, HG.out⟩

theorem clean_in (b n f : Nat) (L : List Int) (w : World) (hS : St w b n L) (hf : f < n) :
    Calls Try.prog 24 #[.pointer (some ⟨b, 0, none⟩), .int .i64 f] w fun e w' => e = .returned (.bool (frameL L f == zer)) ∧ w = w' := by
  have hn := hS.2.2.2
  have hl := hS.2.1
  have hfl := length_frameL hl (f := f) (by omega)
  have HC : Hid (∀ j v, ((frameL L f).map (Value.int .u8))[j]? = some v → w.cell? ((⟨b, 2 + 64 * f, none⟩ : Addr).add j) = some v) := by
    obtain ⟨ad, e, _, hc⟩ := (hS.frame f (by omega)).cells (by rw [List.length_map, hfl]; omega)
    injection e with e
    subst e
    exact hc
  have HI := Lib.hid (show (Try.prog.info? 70).map (·.size) = some ((frameL L f).map (Value.int .u8)).length by rw [List.length_map, hfl]; exact size_frame)
  have HFL := Lib.hid hfl
  have HS := Lib.hid hS
  have HF := Lib.hid hf
  have HBU : Hid (Try.prog.built 70 [] = some (zer.map (Value.int .u8)).toArray) := built_frame
  have HZL := Lib.hid zer_len
  clear hS hf hn hl hfl
  generalize hX : frameL L f = X at HC HI HFL ⊢
  generalize zer = Z at HBU HZL ⊢
  clear hX
  have HLD : Hid (∀ (ρ : Operand → Value) (o : Oper), o.op = .load 70 (.tmp 17) → ρ (.tmp 17) = .pointer (some ⟨b, 2 + 64 * f, none⟩) → (execOp ρ o).run Try.prog w = .ok (.value (.agg (X.map (Value.int .u8)).toArray)) w) :=
    fun ρ o ho hx => exec_load_cells 70 (.tmp 17) ho _ hx _ _ HC.out Try.underlying70 rfl HI.out
  have HBD : Hid (∀ (ρ : Operand → Value) (o : Oper), o.op = .build 70 #[] → (execOp ρ o).run Try.prog w = .ok (.value (.agg (Z.map (Value.int .u8)).toArray)) w) :=
    fun ρ o ho => exec_build0 70 ho _ HBU.out
  have HED : Hid (∀ (ρ : Operand → Value) (o : Oper), o.op = .binOp .eql 70 (.tmp 18) (.tmp 19) 70 → ρ (.tmp 18) = .agg (X.map (Value.int .u8)).toArray → ρ (.tmp 19) = .agg (Z.map (Value.int .u8)).toArray → (execOp ρ o).run Try.prog w = .ok (.value (.bool (X == Z))) w) :=
    fun ρ o ho hx hy => exec_eql_ints 70 5 70 (.tmp 18) (.tmp 19) ho 64 .u8 Try.underlying70 Try.underlying5 (fun W => by kernel_rfl) (by kernel_rfl) _ _ HFL.out HZL.out hx hy
  clear HC HI HBU HFL HZL
  generalize (X == Z) = r at HED ⊢
  generalize (X.map (Value.int .u8)).toArray = X1 at HLD HED
  generalize (Z.map (Value.int .u8)).toArray = Z1 at HBD HED
  go_enter Try.func24, Try.ntmps24
  go_upto_region 2 with (go_at_call 35; refine (find_in b n f L w HS.out HF.out).mono ?_; rintro e w' ⟨rfl, rfl⟩)
  refine wp_region_lit ?_
  refine wpList_runW rfl (some 13) rfl (.int .i64 0) w (by kernel_rfl) ?_
  go_simp
  refine wpList_runW rfl (some 14) rfl (.bool true) w (by kernel_rfl) ?_
  go_simp
  refine wpList_runW rfl (some 15) rfl (.bool true) w (by kernel_rfl) ?_
  go_simp
  refine wpList_runW (by kernel_rfl) (some 16) rfl (.pointer (some ⟨b, 2 + 64 * f, none⟩)) w (by kernel_rfl) ?_
  go_simp
  refine wpList_runW (by kernel_rfl) (some 17) rfl (.pointer (some ⟨b, 2 + 64 * f, none⟩)) w (by kernel_rfl) ?_
  go_simp
  refine wpList_runW (by kernel_rfl) (some 18) rfl (.agg X1) w (HLD.out _ _ rfl (by kernel_rfl)) ?_
  go_simp
  refine wpList_runW (by kernel_rfl) (some 19) rfl (.agg Z1) w (HBD.out _ _ rfl) ?_
  go_simp
  refine wpList_runW (by kernel_rfl) (some 20) rfl (.bool r) w (HED.out _ _ rfl (by kernel_rfl) (by kernel_rfl)) ?_
  go_simp
  refine wpList_runW (by kernel_rfl) (some 21) rfl (.bool r) w (by kernel_rfl) ?_
  go_simp
  refine wpList_runW (by kernel_rfl) (some 4) rfl (.bool r) w (by kernel_rfl) ?_
  go_simp
  clear HS HF HLD HBD HED
  go_wp2
  go_ret
  exact ⟨rfl, rfl⟩

end Go.Proofs.Ythabilokbfieiaa.Fr
