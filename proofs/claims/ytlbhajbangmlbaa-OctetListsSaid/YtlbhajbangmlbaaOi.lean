/- The walks of octet's and the document's Fit, and of octet's Same. -/
import Derived.Test.YtlbhajbangmlbaaOg
import Derived.Lib.BufferWrite
import Derived.Lib.ConvBytes
import Derived.Lib.MinMax
namespace Go.Proofs.Ytlbhajbangmlbaa.Oc
open Go.RowKit Ut
set_option linter.unusedVariables false

/-- a text's bytes as numbers -/
def bz (s : ByteArray) : List Int := s.data.toList.map fun b => (b.toNat : Int)
theorem length_bz (s : ByteArray) : (bz s).length = s.size := by simp [bz]
/-- how many bytes Fit gives -/
def fitN (n : Int) : Nat := (min (max n 0) 16384).toNat
/-- the bytes that Fit gives -/
def fitZ (b : List Int) (m : Nat) : List Int := (List.range m).map fun j => b.getD j 0
theorem length_fitZ (b : List Int) (m : Nat) : (fitZ b m).length = m := by simp [fitZ]
theorem getD_fitZ (b : List Int) (m j : Nat) (h : j < m) : (fitZ b m).getD j 0 = b.getD j 0 := by
  simp [fitZ, List.getD, h]
theorem fitZ_take (b : List Int) (m k : Nat) (h : k < m) : (fitZ b m).take (k + 1) = (fitZ b m).take k ++ [b.getD k 0] := by
  rw [take_snoc_getD _ _ (by rw [length_fitZ]; exact h), getD_fitZ _ _ _ h]
theorem fitZ_splice (b : List Int) (m : Nat) : b.take m ++ (List.replicate m (0 : Int)).drop (min b.length m) = fitZ b m := by
  refine ext_getD (by simp [length_fitZ]; omega) fun j hj => ?_
  have hj' : j < m := by simp at hj; omega
  rw [getD_fitZ _ _ _ hj']
  simp only [List.getD, List.getElem?_append, List.length_take, List.getElem?_take, List.getElem?_drop, List.getElem?_replicate]
  by_cases h : j < b.length
  · rw [if_pos (by omega), if_pos hj']
  · rw [if_neg (by omega), if_pos (by omega), List.getElem?_eq_none (by omega)]; rfl

/-- copy(d, s): s a text, d the head of a block that the call made -/
theorem run_copy_text {P : Program} (w : World) (dT sT ty elem : TypeId) (g n dCap : Nat) (s : ByteArray) (t : TypeId)
    (hu : P.underlying dT = some (.slice elem)) (hs : (P.info? elem).map (·.size) = some 1) (hg : w.heap[g]? = some (.cells ((List.replicate n (0 : Int)).map (Value.int .u8)).toArray t (0, 0))) :
    (Builtin.copy_ #[dT, sT] ty #[.slice (some ⟨g, 0, none⟩) n dCap, .string s]).run P w = .ok (goInt (Nat.min s.size n)) (w.setRow g ((fitZ (bz s) n).map (Value.int .u8)).toArray) := by
  have hbz : List.map (fun b : UInt8 => Value.int IntKind.u8 (b.toNat : Int)) s.data.toList = (bz s).map (Value.int .u8) := by simp [bz]
  have htk : List.take (Nat.min s.size n) (List.map (fun b : UInt8 => Value.int IntKind.u8 (b.toNat : Int)) s.data.toList) = ((bz s).take n).map (Value.int .u8) := by
    rw [hbz, ← List.map_take]
    congr 1
    rw [← length_bz s]
    show List.take (min (bz s).length n) (bz s) = List.take n (bz s)
    rcases Nat.le_total (bz s).length n with h | h
    · rw [Nat.min_eq_left h, List.take_length, List.take_of_length_le h]
    · rw [Nat.min_eq_right h]
  have hst := run_storeCells_at P g 0 t (((bz s).take n).map (Value.int .u8)) 0 _ w hg (by simp; omega) (ints_oneCell _ _)
  have e : (((List.replicate n (0 : Int)).map (Value.int .u8)).toArray.toList.take (0 + 0) ++ ((bz s).take n).map (Value.int .u8) ++ ((List.replicate n (0 : Int)).map (Value.int .u8)).toArray.toList.drop (0 + 0 + (((bz s).take n).map (Value.int .u8)).length)) = (fitZ (bz s) n).map (Value.int .u8) := by
    rw [← fitZ_splice]
    simp [Nat.min_comm]
  rw [e] at hst
  cases hq : P.info? elem with
  | none => simp [hq] at hs
  | some i =>
    simp [Builtin.copy_, run_underlying hu, Builtin.lenOf, Builtin.firstCells, sizeOf, typeInfo, hq]
    rw [htk, hst]
    simp [Result.andThen]

theorem fit_any (s : ByteArray) (n : Int) (w : World) :
    Calls Try.prog 19 #[.string s, .int .i64 n] w fun e w' => e = .returned (.slice (some ⟨w.heap.size, 0, none⟩) (fitN n) (fitN n)) ∧ RowK .u8 w' w'.heap.size (some ⟨w.heap.size, 0, none⟩) (fitN n) (fitZ (bz s) (fitN n)) ∧ Below w.heap.size w w' := by
  obtain ⟨m, hm⟩ : ∃ m, fitN n = m := ⟨_, rfl⟩
  have hmi : (m : Int) = min (max n 0) 16384 := by rw [← hm]; unfold fitN; omega
  have hm2 : m ≤ 16384 := by omega
  rw [hm]
  clear hm
  have hmk : ∀ W : World, (Instr.makeSlice 22 (.int .i64 (min (max n 0) 16384)) (.int .i64 (min (max n 0) 16384))).run Try.prog W = .ok (.slice (some ⟨W.heap.size, 0, none⟩) m m) (W.alloc (.cells (madeCells #[.int .u8 0] m) 5)) := fun W => by
    rw [← hmi]
    exact run_make_row' (P := Try.prog) 22 5 (.int .u8 0) 1 Try.underlying22 info_byte rfl .i64 .i64 m (by omega) (by omega) W
  have hg := made_heap w (.int .u8 0) m 5
  rw [show List.replicate m (Value.int .u8 0) = (List.replicate m (0 : Int)).map (Value.int .u8) by simp] at hg
  have hcp := run_copy_text (P := Try.prog) (w.alloc (.cells (madeCells #[.int .u8 0] m) 5)) 22 9 3 5 w.heap.size m m s 5 Try.underlying22 size_byte hg
  have HH := Lib.hid (setRow_heap _ w.heap.size _ ((fitZ (bz s) m).map (Value.int .u8)).toArray 5 (0, 0) hg)
  have HB := below_setRow (g := w.heap.size) ((Below.refl w.heap.size w).alloc (Nat.le_refl _) (.cells (madeCells #[.int .u8 0] m) 5)) (Nat.le_refl _) ((fitZ (bz s) m).map (Value.int .u8)).toArray
  obtain ⟨w2, hw2⟩ : ∃ w2, (w.alloc (.cells (madeCells #[.int .u8 0] m) 5)).setRow w.heap.size ((fitZ (bz s) m).map (Value.int .u8)).toArray = w2 := ⟨_, rfl⟩
  rw [hw2] at hcp HH HB
  have HL := Lib.hid (length_fitZ (bz s) m)
  have HM := Lib.hid hmi
  clear hw2 hg hmi
  go_enter Try.func19, Try.ntmps19
  go_wp2
  go_ret
  refine ⟨rfl, ?_, HB⟩
  have := is_of_list HH.out
  rw [HL.out] at this
  exact RowK.of_is this _ HL.out fun j _ => rfl

theorem refFit_any (s : ByteArray) (n : Int) (w : World) (hs : s.size ≤ 9223372036854775807) :
    Calls Try.prog 20 #[.string s, .int .i64 n] w fun e w' => ∃ v, e = .returned v ∧ OwnI .u8 w' w.heap.size 5 v (fitN n) (fitZ (bz s) (fitN n)) ∧ Below w.heap.size w w' := by
  obtain ⟨m, hm⟩ : ∃ m, fitN n = m := ⟨_, rfl⟩
  have hmi : (m : Int) = min (max n 0) 16384 := by rw [← hm]; unfold fitN; omega
  rw [hm]
  clear hm
  have HMI := Lib.hid hmi
  have HL := Lib.hid (length_fitZ (bz s) m)
  clear hmi
  go_enter Try.func20, Try.ntmps20
  go_wp2
  go_loopw [5, 6] (fun v i wr => ∃ k : Nat, k ≤ m ∧ i = .int .i64 k ∧ OwnI .u8 wr w.heap.size 5 v k ((fitZ (bz s) m).take k) ∧ Below w.heap.size w wr) (fun _ i _ => m - (intOf i).toNat)
  case atStart => exact ⟨0, by omega, rfl, OwnI.nil _ _ _ _, Below.refl _ _⟩
  case round =>
    obtain ⟨k, hk, rfl, ho, hb⟩ := hrel
    have HO := Lib.hid ho
    have hbs := hb.size
    clear ho
    by_cases hlt : k < m
    · have h1 : decide ((k : Int) < n) = true := by have := HMI.out; simp; omega
      have h2 : (k : Int) < 16384 := by have := HMI.out; omega
      have HT := Lib.hid (fitZ_take (bz s) m k hlt)
      by_cases hks : k < s.size
      · have e : (bz s).getD k 0 = (s[k].toNat : Int) := by simp [bz, List.getD, hks]; rfl
        rw [e] at HT
        clear e
        have hy0 := s[k].toNat_lt
        obtain ⟨y, hy⟩ : ∃ y, (s[k].toNat : Int) = y := ⟨_, rfl⟩
        go_wp2_with (at_builtin; go_loud (refine wpList_append_ints rfl (.tmp 24) (.tmp 26) 22 rfl .u8 w.heap.size 5 1 Try.underlying22 info_byte _ _ _ rfl (HO.out.alloc _) (wr.heap.size + 1) (some ⟨wr.heap.size, 0, none⟩) 1 1 [y] rfl (RowK.new1 .u8 wr y 5) (by unfold maxLen; omega) (by omega) (by simp; omega) ?_); intro v1 w1 ho1 hb1 _)
        have hb3 := (hb.alloc hbs (.cells #[.int .u8 y] 5)).trans hb1
        go_roundw
        case rel => exact ⟨k + 1, by omega, by go_num, by rw [HT.out, hy]; exact ho1.out, hb3⟩
        case measure => simp [intOf]; omega
      · have e : (bz s).getD k 0 = 0 := by simp [bz, List.getD]; rw [Array.getElem?_eq_none (by simpa using hks)]; rfl
        rw [e] at HT
        clear e
        go_wp2_with (at_builtin; go_loud (refine wpList_append_ints rfl (.tmp 24) (.tmp 26) 22 rfl .u8 w.heap.size 5 1 Try.underlying22 info_byte _ _ _ rfl (HO.out.alloc _) (wr.heap.size + 1) (some ⟨wr.heap.size, 0, none⟩) 1 1 [0] rfl (RowK.new1 .u8 wr 0 5) (by unfold maxLen; omega) (by omega) (by simp; omega) ?_); intro v1 w1 ho1 hb1 _)
        have hb3 := (hb.alloc hbs (.cells #[.int .u8 0] 5)).trans hb1
        go_roundw
        case rel => exact ⟨k + 1, by omega, by go_num, by rw [HT.out]; exact ho1.out, hb3⟩
        case measure => simp [intOf]; omega
    · obtain rfl : k = m := by omega
      by_cases h1 : (k : Int) < n
      · have h2 : ¬ (k : Int) < 16384 := by have := HMI.out; omega
        go_wp2
        go_ret
        exact ⟨_, rfl, by have := HO.out; rwa [List.take_of_length_le (by rw [HL.out]; omega)] at this, hb⟩
      · go_wp2
        go_ret
        exact ⟨_, rfl, by have := HO.out; rwa [List.take_of_length_le (by rw [HL.out]; omega)] at this, hb⟩

theorem strOf_bz (s : ByteArray) : strOfNums (bz s) = s := by
  unfold strOfNums bz
  apply ByteArray.ext
  have e : ((fun n : Int => UInt8.ofNat n.toNat) ∘ fun b : UInt8 => (b.toNat : Int)) = id := by funext b; simp
  rw [List.map_map, e, List.map_id]

theorem bytesWorld_below (W : World) (e : TypeId) (s : ByteArray) : Below W.heap.size W (Lib.bytesWorld W e s) :=
  ⟨rfl, rfl, rfl, by rw [Lib.bytesWorld_size]; omega, fun k hk => Lib.bytesWorld_at_old W e s k hk⟩
theorem bytesWorld_row (W : World) (e : TypeId) (s : ByteArray) : RowK .u8 (Lib.bytesWorld W e s) (W.heap.size + 1) (some ⟨W.heap.size, 0, none⟩) s.size (bz s) :=
  ⟨length_bz s, fun i hi => ⟨_, rfl, Nat.lt_succ_self _, by
    rw [add_plain, Lib.bytesWorld_cell W e s i hi]
    simp [bz, List.getD, hi]⟩⟩

theorem same_any (a b : Option Addr) (n m ca cb B1 B2 : Nat) (xs ys : List Int) (w : World) (h1 : RowK .u8 w B1 a n xs) (h2 : RowK .u8 w B2 b m ys) :
    Calls Try.prog 21 #[.slice a n ca, .slice b m cb] w fun e w' => e = .returned (.bool ((strOfNums xs).toList == (strOfNums ys).toList)) ∧ w = w' := by
  have hc1 := run_convert_row (P := Try.prog) (cap := ca) (dst := 9) Try.underlying22 Try.underlying5 Try.underlying9 h1
  have hc2 := run_convert_row (P := Try.prog) (cap := cb) (dst := 9) Try.underlying22 Try.underlying5 Try.underlying9 h2
  clear h1 h2
  go_enter Try.func21, Try.ntmps21
  go_wp2_with go_in
  go_ret
  exact ⟨rfl, rfl⟩
end Go.Proofs.Ytlbhajbangmlbaa.Oc
