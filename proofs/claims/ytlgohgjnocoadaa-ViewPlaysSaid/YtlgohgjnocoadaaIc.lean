/- Package frames: Clear, Bytes, Clean of a frame that is there. -/
import Derived.Test.YtlgohgjnocoadaaIb
namespace Go.Proofs.Ytlgohgjnocoadaa.Fr
open Go.RowKit Ut Oc
set_option maxRecDepth 100000
set_option linter.unusedVariables false

/-- a frame of zeros -/
def zer : List Int := List.replicate 64 0
theorem zer_len : zer.length = 64 := List.length_replicate
theorem zer_bytes : AreBytes zer := fun z hz => by rw [List.eq_of_mem_replicate hz]; omega
theorem run_zero (w : World) : (Instr.build 106 #[]).run Try.prog w = .ok (.agg (zer.map (Value.int .u8)).toArray) w := run_build w 106 _ _ built_frame

set_option maxRecDepth 100000 in
theorem bytes_in (b n f : Nat) (L : List Int) (w : World) (hS : St w b n L) (hf : f < n) :
    Calls Try.prog 47 #[.pointer (some ⟨b, 0, none⟩), .int .i64 f] w fun e w' =>
      e = .returned (.tuple #[.slice (some ⟨w.heap.size, 0, none⟩) 64 64, .int .i64 0]) ∧ RowK .u8 w' w'.heap.size (some ⟨w.heap.size, 0, none⟩) 64 (frameL L f) ∧ Below w.heap.size w w' := by
  have hn := hS.2.2.2
  have hlt := hS.lt
  have hl := hS.2.1
  have hfl := length_frameL hl (f := f) (by omega)
  have HR := Lib.hid ((hS.frame f (by omega)).more (B' := w.heap.size) (by omega))
  have hmk : ∀ W, (Instr.makeSlice 30 (.int .i64 64) (.int .i64 64)).run Try.prog W = .ok (.slice (some ⟨W.heap.size, 0, none⟩) 64 64) (W.alloc (.cells (madeCells #[.int .u8 0] 64) 5)) := fun W => run_make_row' (P := Try.prog) 30 5 (.int .u8 0) 1 Try.underlying30 info_byte rfl .i64 .i64 64 (by omega) (by omega) W
  have HG := Lib.hid (made_heap w (.int .u8 0) 64 5)
  have HA : Below w.heap.size w (w.alloc (.cells (madeCells #[.int .u8 0] 64) 5)) := (Below.refl _ _).alloc (Nat.le_refl _) _
  have HL : 64 ≤ (List.replicate 64 (Value.int .u8 0)).length := by rw [List.length_replicate]; omega
  have HS := Lib.hid hS
  have HF := Lib.hid hf
  have HFL := Lib.hid hfl
  clear hS hf hn hl hfl hlt
  go_enter Try.func47, Try.ntmps47
  go_wp2_with (first | (go_at_call 49; refine (find_in b n f L w HS.out HF.out).mono ?_; rintro e w' ⟨rfl, rfl⟩) | (refine wpList_copy_head rfl (.tmp 19) (.tmp 22) 30 30 rfl 5 Try.underlying30 size_byte w.heap.size 64 64 64 64 _ _ _ (frameL L f) rfl rfl _ 5 HG.out (HR.out.below HA) (Nat.le_refl _) HL w.heap.size w HA (Nat.le_refl _) ?_; intro w2 HG2 hb2))
  have hI : w2.rowIs w.heap.size 5 64 (fun i => .int .u8 ((frameL L f).getD i 0)) := by
    have h := HG2.out
    rw [List.drop_of_length_le (by rw [List.length_replicate]; omega), List.append_nil] at h
    have := is_of_list h
    rwa [HFL.out] at this
  have HI := Lib.hid (RowK.of_is hI (frameL L f) HFL.out (fun i _ => rfl))
  clear HG2 HG hI
  go_ret2
  exact ⟨rfl, HI.out, hb2⟩
end Go.Proofs.Ytlgohgjnocoadaa.Fr
