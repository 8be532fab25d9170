/- The walks of the document's Bytes, of hermitagelaw02.words, and of OctetWords. -/
import Derived.Test.YtkkolbdapoejkaaOe
namespace Go.Proofs.Ytkkolbdapoejkaa.Oc
open Go.RowKit Ut
set_option linter.unusedVariables false

set_option maxRecDepth 100000 in
theorem refBytes_any (a : Option Addr) (n cap : Nat) (l : List Int) (w : World) (hn : 4 * n ≤ 140737488355328) (hrow : RowK .u32 w w.heap.size a n l) (hl : ∀ z ∈ l, 0 ≤ z ∧ z < 4294967296) :
    Calls Try.prog 23 #[.slice a n cap] w fun e w' => ∃ v, e = .returned v ∧ OwnI .u8 w' w.heap.size 5 v (4 * n) (bytesZ l) ∧ Below w.heap.size w w' := by
  have HR := Lib.hid hrow
  have HZ := Lib.hid hl
  have HL := Lib.hid (length_bytesZ l)
  clear hrow hl
  go_enter Try.func23, Try.ntmps23
  go_wp2
  go_loopw [3, 4] (fun v i wr => ∃ k : Nat, k ≤ n ∧ i = .int .i64 k ∧ OwnI .u8 wr w.heap.size 5 v (4 * k) ((bytesZ l).take (4 * k)) ∧ Below w.heap.size w wr) (fun _ i _ => n - (intOf i).toNat)
  case atStart => exact ⟨0, Nat.zero_le _, rfl, OwnI.nil _ _ _ _, Below.refl _ _⟩
  case round =>
    obtain ⟨k, hk, rfl, ho, hb⟩ := hrel
    have HO := Lib.hid ho
    clear ho
    by_cases hlt : k < n
    · obtain ⟨x, rfl, hxb, hx0⟩ := (HR.out).2 k hlt
      have hz := HZ.out (l.getD k 0) (by rw [getD_at l k (by rw [HR.out.1]; exact hlt)]; exact List.getElem_mem _)
      have HT := Lib.hid fun j (h : j < 4) => bytesZ_take l k j (by rw [HR.out.1]; exact hlt) h
      obtain ⟨s, hs⟩ : ∃ s, l.getD k 0 = s := ⟨_, rfl⟩
      rw [hs] at hx0 hz HT
      have HX := Lib.hid hx0
      clear hs hx0
      go_wp2
      obtain ⟨wo, rfl⟩ : ∃ wo : World, wo = wr := ⟨_, rfl⟩
      go_loopw [3, 5] (fun v i wr => ∃ j : Nat, j ≤ 4 ∧ i = .int .i64 j ∧ OwnI .u8 wr w.heap.size 5 v (4 * k + j) ((bytesZ l).take (4 * k + j)) ∧ Below w.heap.size w wr) (fun _ i _ => 4 - (intOf i).toNat)
      case atStart => exact ⟨0, Nat.zero_le _, rfl, HO.out, hb⟩
      case round =>
        obtain ⟨j, hj, rfl, ho, hb2⟩ := hrel
        have HO2 := Lib.hid ho
        clear ho
        by_cases hjt : j < 4
        · have hx := (hb2.cell (p := x.add k) (by rw [block_of_add]; exact hxb)).trans HX.out
          have hbs := hb2.size
          have HT2 := Lib.hid (HT.out j hjt)
          have hi1 : (0 : Int) ≤ (k : Int) := by omega
          have hi2 : (k : Int) < (n : Int) := by omega
          have HB : Hid (s / 2 ^ (8 * j) % 256 = byteN s j) := Lib.hid rfl
          obtain ⟨y, hy⟩ : ∃ y, s / 2 ^ (8 * j) % 256 = y := ⟨_, rfl⟩
          go_wp2_with (at_builtin; go_loud (refine wpList_append_ints rfl (.tmp 16) (.tmp 25) 25 rfl .u8 w.heap.size 5 1 Try.underlying25 info_byte _ _ _ rfl (HO2.out.alloc _) (wr.heap.size + 1) (some ⟨wr.heap.size, 0, none⟩) 1 1 [y] rfl (RowK.new1 .u8 wr y 5) (by unfold maxLen; omega) (by omega) (by simp; omega) ?_); intro v1 w1 ho1 hb1 _)
          have hb3 := (hb2.alloc hbs (.cells #[.int .u8 y] 5)).trans hb1
          go_roundw
          case rel => exact ⟨j + 1, by omega, by go_num, by rw [HT2.out, ← HB.out, hy]; exact ho1.out, hb3⟩
          case measure => simp [intOf]; omega
        · obtain rfl : j = 4 := by omega
          go_wp2
          go_roundw
          case rel => exact ⟨k + 1, by omega, by go_num, HO2.out, hb2⟩
          case measure => simp [intOf]; omega
    · obtain rfl : k = n := by omega
      go_wp2
      go_ret
      exact ⟨_, rfl, by have := HO.out; rwa [List.take_of_length_le (by rw [HL.out, HR.out.1]; omega)] at this, hb⟩

end Go.Proofs.Ytkkolbdapoejkaa.Oc
