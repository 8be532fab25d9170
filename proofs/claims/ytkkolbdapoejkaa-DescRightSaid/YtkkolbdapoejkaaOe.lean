/- The walks of octet's and the document's Words and Bytes, and of hermitagelaw02.words. -/
import Derived.Test.YtkkolbdapoejkaaOd
import Derived.Test.YtkkolbdapoejkaaOn
import Derived.Deep.QuietTactic
import Derived.BigQuiet
import Derived.WalkSmall
namespace Go.Proofs.Ytkkolbdapoejkaa.Oc
open Go.RowKit Ut
set_option linter.unusedVariables false

theorem info_word : (Try.prog.info? 22).map (fun i => (i.zero, i.size, i.bytes)) = some (some (.int .u32 0), 1, 4) := by kernel_rfl

theorem words_any (a : Option Addr) (n cap : Nat) (zs : List Int) (w : World) (hnc : n ≤ cap) (hn : n ≤ 140737488355328) (hc : cap ≤ 9223372036854775807) (hrow : RowK .u8 w w.heap.size a n zs) (hz : AreBytes zs) :
    Calls Try.prog 20 #[.slice a n cap] w fun e w' => e = .returned (.slice (some ⟨w.heap.size, 0, none⟩) (n / 4) (n / 4)) ∧ RowK .u32 w' w'.heap.size (some ⟨w.heap.size, 0, none⟩) (n / 4) (wordsZ zs) ∧ Below w.heap.size w w' := by
  have HR := Lib.hid hrow
  have HZ := Lib.hid hz
  clear hrow hz
  obtain ⟨q, hq⟩ : ∃ q, n / 4 = q := ⟨_, rfl⟩
  have hq4 : 4 * q ≤ n := by omega
  rw [hq]
  have hmk : ∀ W : World, (Instr.makeSlice 43 (.int .i64 ((n : Int) / 4)) (.int .i64 ((n : Int) / 4))).run Try.prog W = .ok (.slice (some ⟨W.heap.size, 0, none⟩) q q) (W.alloc (.cells (madeCells #[.int .u32 0] q) 22)) := fun W => by
    have := run_make_row' (P := Try.prog) 43 22 (.int .u32 0) 4 Try.underlying43 info_word rfl .i64 .i64 q (by omega) (by omega) W
    rwa [show ((q : Nat) : Int) = (n : Int) / 4 by omega] at this
  have HI0 := Lib.hid (World.rowIs_made w (.int .u32 0) q 22)
  have HA : Below w.heap.size w (w.alloc (.cells (madeCells #[.int .u32 0] q) 22)) := (Below.refl _ _).alloc (Nat.le_refl _) _
  have HQ := Lib.hid hq
  have hq9 : q ≤ 9223372036854775807 := by omega
  have hc9 : cap ≤ 9223372036854775807 := by omega
  clear hq
  go_enter Try.func20, Try.ntmps20
  go_wp2
  go_loopw [11] (fun i wr => ∃ k : Nat, k ≤ q ∧ i = .int .i64 k ∧ wr.rowIs w.heap.size 22 q (fun j => if j < k then .int .u32 ((wordsZ zs).getD j 0) else .int .u32 0) ∧ Below w.heap.size w wr) (fun i _ => q - (intOf i).toNat)
  case atStart => exact ⟨0, Nat.zero_le _, rfl, HI0.out.congr fun j _ => by rw [if_neg (by omega)], HA⟩
  case round =>
    obtain ⟨k, hk, rfl, hi, hb⟩ := hrel
    by_cases hlt : k < q
    · have hx := hi.cell hlt
      have hf := hi.frozen k
      have hl4 : 4 * k + 4 ≤ n := by omega
      obtain ⟨x, rfl, _⟩ := HR.out.2 0 (by omega)
      have HP := Lib.hid ((HR.out.below hb).part (4 * k) 4 hl4)
      have HN := Lib.hid (getD_wordsZ zs k (by rw [HR.out.1, HQ.out]; exact hlt))
      have HI := Lib.hid hi
      have hcut : ∀ W : World, Calls Try.prog 27 #[.slice (some x) n cap, .int .i64 (4 * (k : Int)), .int .i64 4] W fun e w' => e = .returned (.slice (some (x.add (4 * k))) 4 4) ∧ W = w' := fun W => by
        have := cut_any x n cap (4 * k) 4 W (by omega) hl4 hnc hc9
        simpa using this
      clear hi
      go_wp2_with (first | (go_at_call 27; refine (hcut _).mono ?_; rintro e w' ⟨rfl, rfl⟩) | (go_at_call 26; refine (number_any _ _ _ _ _ _ (by omega) HP.out ((HZ.out.drop _).take _)).mono ?_; rintro e w' ⟨rfl, rfl⟩))
      go_roundw
      case rel =>
        refine ⟨k + 1, by omega, by go_num, (HI.out.set k _).congr fun j _ => ?_, hb.setCell (Nat.le_refl _) _⟩
        by_cases e : j = k
        · subst e; rw [if_pos rfl, if_pos (by omega), HN.out]
        · rw [if_neg e]
          by_cases e2 : j < k
          · rw [if_pos e2, if_pos (by omega)]
          · rw [if_neg e2, if_neg (by omega)]
      case measure => simp [intOf]; omega
    · obtain rfl : k = q := by omega
      have HE := Lib.hid (RowK.of_is (k := .u32) hi (wordsZ zs) (by rw [length_wordsZ, HR.out.1, HQ.out]) fun j hj => if_pos hj)
      clear hi
      go_wp2
      go_ret
      exact ⟨rfl, HE.out, hb⟩

theorem refWords_any (a : Option Addr) (n cap : Nat) (zs : List Int) (w : World) (hn : n ≤ 140737488355328) (hrow : RowK .u8 w w.heap.size a n zs) (hz : AreBytes zs) :
    Calls Try.prog 21 #[.slice a n cap] w fun e w' => ∃ v, e = .returned v ∧ OwnI .u32 w' w.heap.size 22 v (n / 4) (wordsZ zs) ∧ Below w.heap.size w w' := by
  have HR := Lib.hid hrow
  have HZ := Lib.hid hz
  have HL := Lib.hid (length_wordsZ zs)
  clear hrow hz
  go_enter Try.func21, Try.ntmps21
  go_wp2
  go_loopw [3, 4] (fun v i wr => ∃ k : Nat, 4 * k ≤ n ∧ i = .int .i64 (4 * (k : Int)) ∧ OwnI .u32 wr w.heap.size 22 v k ((wordsZ zs).take k) ∧ Below w.heap.size w wr) (fun _ i _ => n - (intOf i).toNat)
  case atStart => exact ⟨0, by omega, rfl, OwnI.nil _ _ _ _, Below.refl _ _⟩
  case round =>
    obtain ⟨k, hk, rfl, ho, hb⟩ := hrel
    by_cases hlt : 4 * k + 4 ≤ n
    · have HO := Lib.hid ho
      have hbs := hb.size
      have hget : ∀ W : World, RowK .u8 W w.heap.size a n zs → Calls Try.prog 28 #[.slice a n cap, .int .i64 (4 * (k : Int)), .int .i64 4] W fun e w' => e = .returned (.tuple #[.int .u32 (num ((zs.drop (4 * k)).take 4)), .int .i64 0]) ∧ W = w' := fun W h => by
        have := refGet_yes a n cap (4 * k) 4 w.heap.size zs W hn h HZ.out rfl hlt
        simpa using this
      have HG := Lib.hid hget
      have HT := Lib.hid (wordsZ_take zs k (by rw [HR.out.1]; omega))
      clear ho hget
      obtain ⟨x, hx⟩ : ∃ x, num ((zs.drop (4 * k)).take 4) = x := ⟨_, rfl⟩
      rw [hx] at HG HT
      clear hx
      go_wp2_with (first | (go_at_call 28; refine (HG.out _ (HR.out.below hb)).mono ?_; rintro e w' ⟨rfl, rfl⟩) | (at_builtin; go_loud (refine wpList_append_ints rfl (.tmp 20) (.tmp 22) 43 rfl .u32 w.heap.size 22 4 Try.underlying43 info_word _ _ _ rfl (HO.out.alloc _) (wr.heap.size + 1) (some ⟨wr.heap.size, 0, none⟩) 1 1 [x] rfl (RowK.new1 .u32 wr x 22) (by unfold maxLen; omega) (by omega) (by simp; omega) ?_); intro v1 w1 ho1 hb1 _))
      have hb2 := (hb.alloc hbs (.cells #[.int .u32 x] 22)).trans hb1
      go_roundw
      case rel => exact ⟨k + 1, by omega, by go_num, by rw [HT.out]; exact ho1.out, hb2⟩
      case measure => simp [intOf]; omega
    · have HO := Lib.hid ho
      clear ho
      go_wp2
      go_ret
      have e : k = n / 4 := by omega
      exact ⟨_, rfl, by rw [← e]; have := HO.out; rwa [List.take_of_length_le (by rw [HL.out, HR.out.1]; omega)] at this, hb⟩

theorem bytes_any (a : Option Addr) (n cap : Nat) (l : List Int) (w : World) (hn : 4 * n ≤ 140737488355328) (hrow : RowK .u32 w w.heap.size a n l) (hl : ∀ z ∈ l, 0 ≤ z ∧ z < 4294967296) :
    Calls Try.prog 22 #[.slice a n cap] w fun e w' => e = .returned (.slice (some ⟨w.heap.size, 0, none⟩) (4 * n) (4 * n)) ∧ RowK .u8 w' w'.heap.size (some ⟨w.heap.size, 0, none⟩) (4 * n) (bytesZ l) ∧ Below w.heap.size w w' := by
  have HR := Lib.hid hrow
  have HZ := Lib.hid hl
  clear hrow hl
  obtain ⟨q, hq⟩ : ∃ q, 4 * n = q := ⟨_, rfl⟩
  rw [hq]
  have hmk : ∀ W : World, (Instr.makeSlice 25 (.int .i64 (4 * (n : Int))) (.int .i64 (4 * (n : Int)))).run Try.prog W = .ok (.slice (some ⟨W.heap.size, 0, none⟩) q q) (W.alloc (.cells (madeCells #[.int .u8 0] q) 5)) := fun W => by
    have := run_make_row' (P := Try.prog) 25 5 (.int .u8 0) 1 Try.underlying25 info_byte rfl .i64 .i64 q (by omega) (by omega) W
    rwa [show ((q : Nat) : Int) = 4 * (n : Int) by omega] at this
  have HI0 := Lib.hid (World.rowIs_made w (.int .u8 0) q 5)
  have HA : Below w.heap.size w (w.alloc (.cells (madeCells #[.int .u8 0] q) 5)) := (Below.refl _ _).alloc (Nat.le_refl _) _
  have hq1 : q ≤ 4 * n := by omega
  have hq2 : 4 * n ≤ q := by omega
  have HQ := Lib.hid hq
  clear hq
  go_enter Try.func22, Try.ntmps22
  go_wp2
  go_loopw [12] (fun i wr => ∃ k : Nat, k ≤ n ∧ i = .int .i64 k ∧ wr.rowIs w.heap.size 5 q (fun j => if j < 4 * k then .int .u8 ((bytesZ l).getD j 0) else .int .u8 0) ∧ Below w.heap.size w wr) (fun i _ => n - (intOf i).toNat)
  case atStart => exact ⟨0, Nat.zero_le _, rfl, HI0.out.congr fun j _ => by rw [if_neg (by omega)], HA⟩
  case round =>
    obtain ⟨k, hk, rfl, hi, hb⟩ := hrel
    by_cases hlt : k < n
    · obtain ⟨x, rfl, _, hx⟩ := (HR.out.below hb).2 k hlt
      have hz := HZ.out (l.getD k 0) (by rw [getD_at l k (by rw [HR.out.1]; exact hlt)]; exact List.getElem_mem _)
      have HI := Lib.hid hi
      have HD := Lib.hid fun j (h : j < 4 * l.length) => getD_bytesZ l j h
      obtain ⟨s, hs⟩ : ∃ s, l.getD k 0 = s := ⟨_, rfl⟩
      rw [hs] at hx hz
      have HS := Lib.hid hs
      clear hi hs
      have hcut : ∀ W : World, Calls Try.prog 27 #[.slice (some ⟨w.heap.size, 0, none⟩) q q, .int .i64 (4 * (k : Int)), .int .i64 4] W fun e w' => e = .returned (.slice (some ⟨w.heap.size, 4 * k, none⟩) 4 4) ∧ W = w' := fun W => by
        have := cut_own w.heap.size q q (4 * k) 4 W (by omega) (by omega) (Nat.le_refl _) (by omega)
        simpa using this
      have hi1 : (0 : Int) ≤ (k : Int) := by omega
      have hi2 : (k : Int) < (n : Int) := by omega
      go_wp2_with (first | (go_at_call 27; refine (hcut _).mono ?_; rintro e w' ⟨rfl, rfl⟩) | (go_at_call 29; refine (lay_any _ (4 * k) 4 4 q s _ _ _ (by omega) hz.1 hz.2 HI.out (by omega)).mono ?_; rintro e w' ⟨rfl, rfl⟩))
      go_roundw
      case rel =>
        refine ⟨k + 1, by omega, by go_num, (laid_is HI.out (4 * k) s 4).congr fun j hj => ?_, laid_below hb (Nat.le_refl _) _ _ _⟩
        by_cases e : 4 * k ≤ j ∧ j < 4 * k + 4
        · rw [if_pos e, if_pos (by omega), HD.out j (by rw [HR.out.1]; omega), show j / 4 = k by omega, HS.out, show j % 4 = j - 4 * k by omega]
        · rw [if_neg e]
          by_cases e2 : j < 4 * k
          · rw [if_pos e2, if_pos (by omega)]
          · rw [if_neg e2, if_neg (by omega)]
      case measure => simp [intOf]; omega
    · obtain rfl : k = n := by omega
      have HE := Lib.hid (RowK.of_is (k := .u8) hi (bytesZ l) (by rw [length_bytesZ, HR.out.1, HQ.out]) fun j hj => if_pos (by omega))
      clear hi
      go_wp2
      go_ret
      exact ⟨rfl, HE.out, hb⟩

end Go.Proofs.Ytkkolbdapoejkaa.Oc
