/- Package asm: names: the operations' names, cut out of one text. -/
import Derived.Test.YtfdekfobcohcjaaDoorQn
import Derived.Test.YtfdekfobcohcjaaDoorEa
import Derived.Laws.RangeAny
import Derived.Deep.Cut
import Derived.Laws.Rows
import Derived.Outline
namespace Go.Proofs.YtfdekfobcohcjaaDoor.As
open Go.RowKit Ut Is Pl
set_option linter.unusedVariables false
set_option maxRecDepth 100000
set_option maxHeartbeats 4000000

def allL : List UInt8 := [97, 100, 100, 32, 115, 117, 98, 32, 97, 110, 100, 32, 111, 114, 32, 120, 111, 114, 32, 115, 104, 108, 32, 115, 104, 114, 32, 115, 97, 114, 32, 115, 108, 116, 32, 115, 108, 116, 117, 32, 109, 117, 108, 32, 100, 105, 118, 117, 32, 114, 101, 109, 117, 32, 97, 100, 100, 105, 32, 97, 110, 100, 105, 32, 111, 114, 105, 32, 120, 111, 114, 105, 32, 115, 104, 108, 105, 32, 115, 104, 114, 105, 32, 115, 97, 114, 105, 32, 115, 108, 116, 105, 32, 108, 117, 105, 32, 108, 119, 32, 108, 98, 32, 108, 98, 117, 32, 115, 119, 32, 115, 98, 32, 98, 101, 113, 32, 98, 110, 101, 32, 98, 108, 116, 32, 98, 108, 116, 117, 32, 106, 97, 108, 32, 106, 97, 108, 114, 32, 99, 97, 108, 108, 32, 104, 99, 97, 108, 108, 32, 114, 101, 116, 32, 99, 115, 114, 114, 32, 99, 115, 114, 119, 32, 105, 110, 118, 32, 104, 97, 108, 116, 32, 98, 114, 107, 32]
def stepN (q : List (List UInt8) × Nat × Nat) (k : Nat) : List (List UInt8) × Nat × Nat := if allL.getD k 0 = 32 then (q.1.set q.2.1 ((allL.take k).drop q.2.2), q.2.1 + 1, k + 1) else q
def stN : Nat → List (List UInt8) × Nat × Nat
  | 0 => (List.replicate 42 [], 1, 0)
  | k + 1 => stepN (stN k) k
theorem all_len : allL.length = 177 := rfl
theorem stN_end : (stN 177).1 = nameL := by decide +kernel
theorem stN_all : (List.range 177).all (fun k => decide ((stN k).2.1 ≤ 41) && decide ((stN k).2.2 ≤ k) && decide ((stN k).1.length = 42) && decide ((allL.getD k 0).toNat < 128)) = true := by decide +kernel
def NmAt (w wr : World) (k : Nat) : Prop :=
  wr.heap[w.heap.size]? = some (.cells (List.replicate 42 (Value.string ⟨#[]⟩)).toArray 46 (0, 0)) ∧ wr.heap[w.heap.size + 1]? = some (.cells ((stN k).1.map encS).toArray 46 (0, 0)) ∧ wr.heap[w.heap.size + 1 + 1]? = some (.stringIter ⟨allL.toArray⟩ k) ∧ Below w.heap.size w wr ∧ k ≤ 177
theorem zero42 : (List.replicate 42 ([] : List UInt8)).map encS = List.replicate 42 (Value.string ⟨#[]⟩) := rfl
theorem nm_start (w : World) (o1 o2 : Obj) (s : ByteArray) (h1 : o1 = .cells (List.replicate 42 (Value.string ⟨#[]⟩)).toArray 46 (0, 0)) (h2 : o2 = .cells (List.replicate 42 (Value.string ⟨#[]⟩)).toArray 46 (0, 0)) (hs : s = ⟨allL.toArray⟩) : NmAt w (((w.alloc o1).alloc o2).iter s 0) 0 := by
  subst h1; subst h2; subst hs
  obtain ⟨o1, h1⟩ : ∃ o1, o1 = Obj.cells (List.replicate 42 (Value.string ⟨#[]⟩)).toArray 46 (0, 0) := ⟨_, rfl⟩
  have e0 : (w.alloc o1).heap[w.heap.size]? = some o1 := heap_alloc_new w o1
  have e1 : ((w.alloc o1).alloc o1).heap[w.heap.size + 1]? = some o1 := by
    have := heap_alloc_new (w.alloc o1) o1
    simpa using this
  have e2 : (((w.alloc o1).alloc o1).iter ⟨allL.toArray⟩ 0).heap[w.heap.size + 1 + 1]? = some (.stringIter ⟨allL.toArray⟩ 0) := by
    have := World.iter_heap ((w.alloc o1).alloc o1) ⟨allL.toArray⟩ 0
    simpa using this
  have e01 : ((w.alloc o1).alloc o1).heap[w.heap.size]? = some o1 := (Below.heap_alloc _ _ _ (by simp)).trans e0
  have e02 : (((w.alloc o1).alloc o1).iter ⟨allL.toArray⟩ 0).heap[w.heap.size]? = some o1 := (Below.heap_alloc ((w.alloc o1).alloc o1) (.stringIter ⟨allL.toArray⟩ 0) _ (by simp; omega)).trans e01
  have e12 : (((w.alloc o1).alloc o1).iter ⟨allL.toArray⟩ 0).heap[w.heap.size + 1]? = some o1 := (Below.heap_alloc ((w.alloc o1).alloc o1) (.stringIter ⟨allL.toArray⟩ 0) _ (by simp)).trans e1
  have hbel : Below w.heap.size w (((w.alloc o1).alloc o1).iter ⟨allL.toArray⟩ 0) := (((Below.refl _ w).alloc (Nat.le_refl _) o1).alloc (by simp) o1).alloc (by simp; omega) _
  rw [← h1]
  refine ⟨e02.trans (by rw [h1]), e12.trans ?_, e2, hbel, Nat.zero_le _⟩
  rw [h1]
  rfl
theorem set_row {w : World} {b : Nat} {cs : List Value} {t : TypeId} (h : w.heap[b]? = some (.cells cs.toArray t (0, 0))) (i : Nat) (u : Value) : (w.setCell ⟨b, i, none⟩ u).heap[b]? = some (.cells (cs.set i u).toArray t (0, 0)) := by
  have hlt := (Array.getElem?_eq_some_iff.1 h).1
  simp [World.setCell, Array.getElem?_modify, h]
theorem box_cell2 {w : World} {b : Nat} {cs : List Value} {t : TypeId} (h : w.heap[b]? = some (.cells cs.toArray t (0, 0))) (i : Nat) (u : Value) (hi : cs[i]? = some u) : w.cell? ⟨b, i, none⟩ = some u ∧ w.frozen? ⟨b, i, none⟩ = false := by
  constructor
  · simp [World.cell?, h, hi]
  · simp [World.frozen?, h]
theorem results_names (tmps : Array Value) (w : World) (g : Nat) (cs : Array Value) (h2 : tmps.getD 0 undef = .pointer (some ⟨g, 0, none⟩)) (hg : w.heap[g]? = some (.cells cs 46 (0, 0))) (hn : (Tryd.prog.info? 46).map (·.size) = some cs.size) :
    (results Tryd.f18 tmps).run Tryd.prog w = .ok (.agg cs) w := by
  have hp' : tmps[0]?.getD undef = .pointer (some ⟨g, 0, none⟩) := by simpa using h2
  simp [results, Tryd.results18, hp', asAddr, run_loadVar_row w g 46 46 cs (0, 0) _ hg Tryd.underlying46 rfl hn]
theorem slice_all (f k : Nat) (h : f ≤ k) (hk : k ≤ 177) (W : World) : (Instr.slice 9 (.string ⟨allL.toArray⟩) (some (.int .i64 f)) (some (.int .i64 k)) none).run Tryd.prog W = .ok (.string (tb ((allL.take k).drop f))) W := by
  rw [run_slice_string W 9 ⟨allL.toArray⟩ .i64 .i64 f k Tryd.underlying9 (by omega) (by omega) (by show (k : Int) ≤ (177 : Nat); omega)]
  rw [Int.toNat_natCast, Int.toNat_natCast, tb_part]
theorem names_any (w : World) :
    Calls Tryd.prog 18 #[] w fun e w' => e = .returned (.agg (nameL.map encS).toArray) ∧ Below w.heap.size w w' := by
  go_enter Tryd.func18, Tryd.ntmps18
  go_wp2
  go_loopw [2, 3] (fun o f wr => ∃ k : Nat, o = .int .i64 ((stN k).2.1 : Nat) ∧ f = .int .i64 ((stN k).2.2 : Nat) ∧ NmAt w wr k) (fun _ _ wr => 177 - wr.iterPos (w.heap.size + 1 + 1))
  case atStart => exact ⟨0, rfl, rfl, nm_start w _ _ _ rfl rfl rfl⟩
  case round =>
    obtain ⟨k, rfl, rfl, h0, h1, h2, hb, hk⟩ := hrel
    have hsz : w.heap.size + 1 + 1 < wr.heap.size := (Array.getElem?_eq_some_iff.1 h2).1
    have HM : Hid (wr.iterPos (w.heap.size + 1 + 1) = k) := Lib.hid (by simp [World.iterPos, h2])
    by_cases hp : k < 177
    · have hnx : ∀ ty, (Instr.next (.pointer (some ⟨w.heap.size + 1 + 1, 0, none⟩)) true ty).run Tryd.prog wr = _ := fun ty => Lib.run_next_any_at wr (w.heap.size + 1 + 1) ⟨allL.toArray⟩ k ty h2 hp
      have hall := List.all_eq_true.1 stN_all k (List.mem_range.2 hp)
      simp only [Bool.and_eq_true, decide_eq_true_eq] at hall
      obtain ⟨⟨⟨g1, g2⟩, g3⟩, g4⟩ := hall
      have hgk : (⟨allL.toArray⟩ : ByteArray)[k]'hp = allL.getD k 0 := by
        rw [List.getD_eq_getElem?_getD, List.getElem?_eq_getElem hp]; rfl
      have hdec := decode_ascii ⟨allL.toArray⟩ k hp (by rw [hgk]; exact g4)
      rw [hgk] at hdec
      rw [hdec] at hnx
      clear hdec hgk
      have hit2 := Lib.iterAt_heap wr (w.heap.size + 1 + 1) ⟨allL.toArray⟩ k (k + 1) h2
      have hb2 := Lib.below_iterAt hb (k := w.heap.size + 1 + 1) (by omega) ⟨allL.toArray⟩ (k + 1)
      have h02 := (Lib.iterAt_other wr (w.heap.size + 1 + 1) w.heap.size ⟨allL.toArray⟩ (k + 1) (by omega)).trans h0
      have h12 := (Lib.iterAt_other wr (w.heap.size + 1 + 1) (w.heap.size + 1) ⟨allL.toArray⟩ (k + 1) (by omega)).trans h1
      have hsz2 : w.heap.size + 1 + 1 < (wr.iterAt (w.heap.size + 1 + 1) ⟨allL.toArray⟩ (k + 1)).heap.size := by rw [Lib.iterAt_size]; exact hsz
      obtain ⟨WW, hWW⟩ : ∃ WW, WW = wr.iterAt (w.heap.size + 1 + 1) ⟨allL.toArray⟩ (k + 1) := ⟨_, rfl⟩
      have hnx2 : ∀ ty, (Instr.next (.pointer (some ⟨w.heap.size + 1 + 1, 0, none⟩)) true ty).run Tryd.prog wr = .ok (.tuple #[.bool true, .int .i64 k, .int .i32 (allL.getD k 0).toNat]) WW := by rw [hWW]; exact hnx
      rw [← hWW] at hit2 hb2 h02 h12 hsz2
      clear hnx hWW h0 h1 h2 hb
      have HA := Lib.hid (show stN (k + 1) = stepN (stN k) k from rfl)
      by_cases hc : allL.getD k 0 = 32
      · have hc1 : (((allL.getD k 0).toNat : Int) == 32) = true := by rw [hc]; rfl
        have HS : Hid (stN (k + 1) = ((stN k).1.set (stN k).2.1 ((allL.take k).drop (stN k).2.2), (stN k).2.1 + 1, k + 1)) := Lib.hid (by rw [HA.out]; unfold stepN; rw [if_pos hc])
        clear hc
        generalize hq1 : (stN k).2.1 = o at g1 HS ⊢
        generalize hq2 : (stN k).2.2 = f at g2 HS ⊢
        generalize hq3 : (stN k).1 = ns at g3 h12 HS
        clear hq1 hq2 hq3 HA
        generalize (((allL.getD k 0).toNat : Nat) : Int) = cz at hc1 hnx2
        have hoz : (o : Int) ≤ 41 := by omega
        have hcell := (box_cell2 h12 o (encS (ns.getD o [])) (by simp [List.getD, g3, show o < 42 by omega])).1
        have hfroz := (box_cell2 h12 o (encS (ns.getD o [])) (by simp [List.getD, g3, show o < 42 by omega])).2
        have hsl := slice_all f k g2 (by omega) WW
        generalize (allL.take k).drop f = piece at hsl HS
        unfold allL at hsl
        go_wp2
        go_roundw
        case rel =>
          refine ⟨k + 1, by rw [HS.out]; go_num, by rw [HS.out]; go_num, ?_⟩
          have e := set_row h12 o (.string (tb piece))
          have hlt : w.heap.size + 1 < WW.heap.size := by omega
          have hother : ∀ j, j ≠ w.heap.size + 1 → (WW.setCell ⟨w.heap.size + 1, o, none⟩ (.string (tb piece))).heap[j]? = WW.heap[j]? := fun j hj => by
            simp [World.setCell, Array.getElem?_modify, hj.symm]
          refine ⟨(hother _ (by omega)).trans h02, e.trans ?_, (hother _ (by omega)).trans hit2, hb2.setCell (by simp) _, by omega⟩
          rw [HS.out]
          simp only [List.map_set]
          rfl
        case measure =>
          rw [HM.out]
          have hit3 : (WW.setCell ⟨w.heap.size + 1, o, none⟩ (.string (tb piece))).heap[w.heap.size + 1 + 1]? = some (Obj.stringIter ⟨allL.toArray⟩ (k + 1)) := by
            have : (WW.setCell ⟨w.heap.size + 1, o, none⟩ (.string (tb piece))).heap[w.heap.size + 1 + 1]? = WW.heap[w.heap.size + 1 + 1]? := by simp [World.setCell, Array.getElem?_modify]
            rw [this]; exact hit2
          simp only [World.iterPos, hit3]
          omega
      · have hc1 : (((allL.getD k 0).toNat : Int) == 32) = false := by
          rw [beq_eq_false_iff_ne]
          intro h
          exact hc (UInt8.toNat_inj.1 (by have : (32 : UInt8).toNat = 32 := rfl; omega))
        have HS : Hid (stN (k + 1) = stN k) := Lib.hid (by rw [HA.out]; unfold stepN; rw [if_neg hc])
        clear hc g4
        generalize (((allL.getD k 0).toNat : Nat) : Int) = cz at hc1 hnx2
        go_wp2
        go_roundw
        case rel => exact ⟨k + 1, by rw [HS.out], by rw [HS.out], h02, by rw [HS.out]; exact h12, hit2, hb2, by omega⟩
        case measure => rw [HM.out]; simp only [World.iterPos, hit2]; omega
    · obtain rfl : k = 177 := by omega
      have hnx : ∀ ty, (Instr.next (.pointer (some ⟨w.heap.size + 1 + 1, 0, none⟩)) true ty).run Tryd.prog wr = _ := fun ty => Lib.run_next_end_at wr (w.heap.size + 1 + 1) ⟨allL.toArray⟩ 177 ty h2 (by show ¬ 177 < 177; omega)
      rw [stN_end] at h1
      have HB := Lib.hid hb
      clear h2 hb
      go_upto_region 9 with fail
      refine wp_region_lit ?_
      refine wpList_load_row rfl 46 _ rfl (w.heap.size + 1) rfl 46 _ (0, 0) _ h1 Tryd.underlying46 rfl (by kernel_rfl) ?_
      refine wpList_store_row rfl 46 (.tmp 0) (.tmp 22) rfl w.heap.size (nameL.map encS).toArray rfl rfl 46 _ h0 (by kernel_rfl) rfl (by kernel_rfl) ?_
      have hrow := Lib.hid (setRow_heap _ w.heap.size _ (nameL.map encS).toArray _ _ h0)
      have hbe := Lib.hid (below_setRow HB.out (Nat.le_refl _) (nameL.map encS).toArray)
      clear h0 h1
      go_wp2
      exact bodyPost_ret (v := .agg (nameL.map encS).toArray) (results_names _ _ w.heap.size _ rfl hrow.out (by kernel_rfl)) rfl ⟨rfl, hbe.out⟩
end Go.Proofs.YtfdekfobcohcjaaDoor.As
