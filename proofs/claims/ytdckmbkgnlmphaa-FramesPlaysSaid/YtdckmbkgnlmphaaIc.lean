/- Package frames: Clear, Bytes, Clean of a frame that is there. -/
import Derived.Test.YtdckmbkgnlmphaaIb
namespace Go.Proofs.Ytdckmbkgnlmphaa.Fr
open Go.RowKit Ut Oc
set_option linter.unusedVariables false

/-- a frame of zeros -/
def zer : List Int := List.replicate 64 0
theorem zer_len : zer.length = 64 := List.length_replicate
theorem zer_bytes : AreBytes zer := fun z hz => by rw [List.eq_of_mem_replicate hz]; omega
theorem run_zero (w : World) : (Instr.build 56 #[]).run Try.prog w = .ok (.agg (zer.map (Value.int .u8)).toArray) w := run_build w 56 _ _ built_frame

theorem clear_in (b n f : Nat) (L : List Int) (w : World) (hS : St w b n L) (hf : f < n) :
    Calls Try.prog 10 #[.pointer (some ⟨b, 0, none⟩), .int .i64 f] w fun e w' =>
      e = .returned (.int .i64 0) ∧ St w' b n (layF L f zer) ∧ w.grownBy w' (some b) := by
  have hn := hS.2.2.2
  have hl := hS.2.1
  have HST : Hid (St (w.setRow b (stCells n (layF L f zer)).toArray) b n (layF L f zer)) := ⟨setRow_heap w b _ _ _ _ hS.1, length_layF hl (by omega) zer_len, layF_bytes hS.2.2.1 f zer_bytes, hn⟩
  have HG := Lib.hid (grown_set (Below.refl w.heap.size w) (b := b) (stCells n (layF L f zer)).toArray)
  have HE := Lib.hid (stCells_lay n hl (f := f) (by omega) zer_len)
  have HFIT := Lib.hid (show 2 + 64 * f + (zer.map (Value.int .u8)).length ≤ (stCells n L).length by rw [List.length_map, zer_len, length_stCells n hl]; omega)
  have HS := Lib.hid hS
  have HF := Lib.hid hf
  clear hS hf hn hl
  go_enter Try.func10, Try.ntmps10
  go_upto_region 4 with (go_at_call 22; refine (find_in b n f L w HS.out HF.out).mono ?_; rintro e w' ⟨rfl, rfl⟩)
  refine wp_region_lit ?_
  refine Great.wpList_readTo rfl _ rfl (.pointer (some ⟨b, 2 + 64 * f, none⟩)) (by kernel_rfl) ?_
  refine wpList_buildTo rfl 56 _ rfl _ rfl (zer.map (Value.int .u8)).toArray (by kernel_rfl) ?_
  refine Great.wpList_readTo rfl _ rfl (.pointer (some ⟨b, 2 + 64 * f, none⟩)) (by kernel_rfl) ?_
  refine wpList_store_cells rfl 56 _ _ rfl b (2 + 64 * f) 59 (stCells n L) (zer.map (Value.int .u8)) rfl rfl HS.out.1 size_frame HFIT.out (ints_oneCell _ _) ?_
  rw [HE.out]
  obtain ⟨W, hW⟩ : ∃ W, W = w.setRow b (stCells n (layF L f zer)).toArray := ⟨_, rfl⟩
  rw [← hW] at HST HG ⊢
  clear hW
  go_wp2
  go_ret
  exact ⟨rfl, HST.out, HG.out⟩

theorem clean_in (b n f : Nat) (L : List Int) (w : World) (hS : St w b n L) (hf : f < n) :
    Calls Try.prog 18 #[.pointer (some ⟨b, 0, none⟩), .int .i64 f] w fun e w' => e = .returned (.bool (frameL L f == zer)) ∧ w = w' := by
  have hn := hS.2.2.2
  have hl := hS.2.1
  have hfl := length_frameL hl (f := f) (by omega)
  have HC : Hid (∀ j v, ((frameL L f).map (Value.int .u8))[j]? = some v → w.cell? ((⟨b, 2 + 64 * f, none⟩ : Addr).add j) = some v) := by
    obtain ⟨ad, e, _, hc⟩ := (hS.frame f (by omega)).cells (by rw [List.length_map, hfl]; omega)
    injection e with e
    subst e
    exact hc
  have HI := Lib.hid (show (Try.prog.info? 56).map (·.size) = some ((frameL L f).map (Value.int .u8)).length by rw [List.length_map, hfl]; exact size_frame)
  have HFL := Lib.hid hfl
  have HS := Lib.hid hS
  have HF := Lib.hid hf
  have HBU : Hid (Try.prog.built 56 [] = some (zer.map (Value.int .u8)).toArray) := built_frame
  have HZL := Lib.hid zer_len
  clear hS hf hn hl hfl
  generalize hX : frameL L f = X at HC HI HFL ⊢
  generalize zer = Z at HBU HZL ⊢
  clear hX
  have HLD : Hid (∀ (ρ : Operand → Value) (o : Oper), o.op = .load 56 (.tmp 17) → ρ (.tmp 17) = .pointer (some ⟨b, 2 + 64 * f, none⟩) → (execOp ρ o).run Try.prog w = .ok (.value (.agg (X.map (Value.int .u8)).toArray)) w) :=
    fun ρ o ho hx => exec_load_cells 56 (.tmp 17) ho _ hx _ _ HC.out Try.underlying56 rfl HI.out
  have HBD : Hid (∀ (ρ : Operand → Value) (o : Oper), o.op = .build 56 #[] → (execOp ρ o).run Try.prog w = .ok (.value (.agg (Z.map (Value.int .u8)).toArray)) w) :=
    fun ρ o ho => exec_build0 56 ho _ HBU.out
  have HED : Hid (∀ (ρ : Operand → Value) (o : Oper), o.op = .binOp .eql 56 (.tmp 18) (.tmp 19) 56 → ρ (.tmp 18) = .agg (X.map (Value.int .u8)).toArray → ρ (.tmp 19) = .agg (Z.map (Value.int .u8)).toArray → (execOp ρ o).run Try.prog w = .ok (.value (.bool (X == Z))) w) :=
    fun ρ o ho hx hy => exec_eql_ints 56 5 56 (.tmp 18) (.tmp 19) ho 64 .u8 Try.underlying56 Try.underlying5 (fun W => by kernel_rfl) (by kernel_rfl) _ _ HFL.out HZL.out hx hy
  clear HC HI HBU HFL HZL
  generalize (X == Z) = r at HED ⊢
  generalize (X.map (Value.int .u8)).toArray = X1 at HLD HED
  generalize (Z.map (Value.int .u8)).toArray = Z1 at HBD HED
  go_enter Try.func18, Try.ntmps18
  go_upto_region 2 with (go_at_call 22; refine (find_in b n f L w HS.out HF.out).mono ?_; rintro e w' ⟨rfl, rfl⟩)
  refine wp_region_lit ?_
  refine wpList_runW rfl (some 13) rfl (.int .i64 0) w (by kernel_rfl) ?_
  go_simp
  refine wpList_runW rfl (some 14) rfl (.bool true) w (by kernel_rfl) ?_
  go_simp
  refine wpList_runW rfl (some 15) rfl (.bool true) w (by kernel_rfl) ?_
  go_simp
  refine wpList_runW (by kernel_rfl) (some 16) rfl (.pointer (some ⟨b, 2 + 64 * f, none⟩)) w (by kernel_rfl) ?_
  go_simp
  refine wpList_runW (by kernel_rfl) (some 17) rfl (.pointer (some ⟨b, 2 + 64 * f, none⟩)) w (by kernel_rfl) ?_
  go_simp
  refine wpList_runW (by kernel_rfl) (some 18) rfl (.agg X1) w (HLD.out _ _ rfl (by kernel_rfl)) ?_
  go_simp
  refine wpList_runW (by kernel_rfl) (some 19) rfl (.agg Z1) w (HBD.out _ _ rfl) ?_
  go_simp
  refine wpList_runW (by kernel_rfl) (some 20) rfl (.bool r) w (HED.out _ _ rfl (by kernel_rfl) (by kernel_rfl)) ?_
  go_simp
  refine wpList_runW (by kernel_rfl) (some 21) rfl (.bool r) w (by kernel_rfl) ?_
  go_simp
  refine wpList_runW (by kernel_rfl) (some 4) rfl (.bool r) w (by kernel_rfl) ?_
  go_simp
  clear HS HF HLD HBD HED
  go_wp2
  go_ret
  exact ⟨rfl, rfl⟩

set_option maxRecDepth 100000 in
theorem bytes_in (b n f : Nat) (L : List Int) (w : World) (hS : St w b n L) (hf : f < n) :
    Calls Try.prog 16 #[.pointer (some ⟨b, 0, none⟩), .int .i64 f] w fun e w' =>
      e = .returned (.tuple #[.slice (some ⟨w.heap.size, 0, none⟩) 64 64, .int .i64 0]) ∧ RowK .u8 w' w'.heap.size (some ⟨w.heap.size, 0, none⟩) 64 (frameL L f) ∧ Below w.heap.size w w' := by
  have hn := hS.2.2.2
  have hlt := hS.lt
  have hl := hS.2.1
  have hfl := length_frameL hl (f := f) (by omega)
  have HR := Lib.hid ((hS.frame f (by omega)).more (B' := w.heap.size) (by omega))
  have hmk : ∀ W, (Instr.makeSlice 22 (.int .i64 64) (.int .i64 64)).run Try.prog W = .ok (.slice (some ⟨W.heap.size, 0, none⟩) 64 64) (W.alloc (.cells (madeCells #[.int .u8 0] 64) 5)) := fun W => run_make_row' (P := Try.prog) 22 5 (.int .u8 0) 1 Try.underlying22 info_byte rfl .i64 .i64 64 (by omega) (by omega) W
  have HG := Lib.hid (made_heap w (.int .u8 0) 64 5)
  have HA : Below w.heap.size w (w.alloc (.cells (madeCells #[.int .u8 0] 64) 5)) := (Below.refl _ _).alloc (Nat.le_refl _) _
  have HL : 64 ≤ (List.replicate 64 (Value.int .u8 0)).length := by rw [List.length_replicate]; omega
  have HS := Lib.hid hS
  have HF := Lib.hid hf
  have HFL := Lib.hid hfl
  clear hS hf hn hl hfl hlt
  go_enter Try.func16, Try.ntmps16
  go_wp2_with (first | (go_at_call 22; refine (find_in b n f L w HS.out HF.out).mono ?_; rintro e w' ⟨rfl, rfl⟩) | (refine wpList_copy_head rfl (.tmp 19) (.tmp 22) 22 22 rfl 5 Try.underlying22 size_byte w.heap.size 64 64 64 64 _ _ _ (frameL L f) rfl rfl _ 5 HG.out (HR.out.below HA) (Nat.le_refl _) HL w.heap.size w HA (Nat.le_refl _) ?_; intro w2 HG2 hb2))
  have hI : w2.rowIs w.heap.size 5 64 (fun i => .int .u8 ((frameL L f).getD i 0)) := by
    have h := HG2.out
    rw [List.drop_of_length_le (by rw [List.length_replicate]; omega), List.append_nil] at h
    have := is_of_list h
    rwa [HFL.out] at this
  have HI := Lib.hid (RowK.of_is hI (frameL L f) HFL.out (fun i _ => rfl))
  clear HG2 HG hI
  go_ret2
  exact ⟨rfl, HI.out, hb2⟩
end Go.Proofs.Ytdckmbkgnlmphaa.Fr
