/- Package asm: Program. -/
import Derived.Test.YtfdekfobcohcjaaDoorQi
import Derived.Deep.OwnRows
namespace Go.Proofs.YtfdekfobcohcjaaDoor.As
open Go.RowKit Ut Is Pl
set_option linter.unusedVariables false
set_option maxRecDepth 100000
set_option maxHeartbeats 8000000

theorem flat_len : ∀ (L : List (List UInt8)) (p : List UInt8), p ∈ L → p.length ≤ (L.map (· ++ [10])).flatten.length
  | [], p, h => absurd h (by simp)
  | q :: L, p, h => by
    rcases List.mem_cons.1 h with rfl | h
    · simp
    · have := flat_len L p h
      simp at this ⊢
      omega
theorem piece_len (l : List UInt8) (k : Nat) : ((cutL 10 l).1.getD k []).length ≤ l.length := by
  by_cases h : k < (cutL 10 l).1.length
  · have hm : (cutL 10 l).1.getD k [] ∈ (cutL 10 l).1 := by rw [List.getD_eq_getElem?_getD, List.getElem?_eq_getElem h]; exact List.getElem_mem h
    have h1 := flat_len _ _ hm
    have h2 := congrArg List.length (cutL_join 10 l)
    rw [List.length_append] at h2
    omega
  · rw [List.getD_eq_getElem?_getD, List.getElem?_eq_none (by omega)]; simp
def AllGood (ps : List (List UInt8)) (k : Nat) : Prop := ∀ j, j < k → (lineO (ps.getD j [])).isSome = true
theorem AllGood.zero (ps : List (List UInt8)) : AllGood ps 0 := fun j h => absurd h (by omega)
theorem AllGood.succ {ps : List (List UInt8)} {k : Nat} (h : AllGood ps k) (hk : (lineO (ps.getD k [])).isSome = true) : AllGood ps (k + 1) := fun j hj => by
  rcases Nat.lt_succ_iff_lt_or_eq.1 hj with h1 | rfl
  · exact h j h1
  · exact hk
theorem bad_here {ps : List (List UInt8)} {k : Nat} (h : AllGood ps k) (hk : k < ps.length) (hn : (lineO (ps.getD k [])).isSome = false) : badAt ps = k := by
  unfold badAt
  rw [List.findIdx_eq hk]
  have e : ∀ j (hj : j < ps.length), ps.getD j [] = ps[j] := fun j hj => by simp [List.getD, hj]
  refine ⟨?_, fun j hj => ?_⟩
  · rw [e k hk] at hn
    cases hx : lineO ps[k] with
    | none => rfl
    | some _ => rw [hx] at hn; cases hn
  · have := h j hj
    rw [e j (by omega)] at this
    cases hx : lineO ps[j] with
    | none => rw [hx] at this; cases this
    | some _ => rfl
theorem bad_none {ps : List (List UInt8)} (h : AllGood ps ps.length) : badAt ps = ps.length := bad_all fun p hp => by
  obtain ⟨j, hj, rfl⟩ := List.getElem_of_mem hp
  have := h j hj
  simpa [List.getD, hj] using this
theorem prog_long {l : List UInt8} (h : longB l = true) : progW l = [] ∧ progE l = 10 ∧ progN l = 0 := by
  unfold progW progE progN
  rw [h]
  exact ⟨if_pos (.inl rfl), if_pos rfl, if_pos rfl⟩
theorem prog_bad {l : List UInt8} (h : longB l = false) (hb : badAt (cutL 10 l).1 < (cutL 10 l).1.length ∨ (cutL 10 l).2 ≠ []) : progW l = [] ∧ progE l = 6 ∧ progN l = (badAt (cutL 10 l).1 : Nat) + 1 := by
  unfold progW progE progN
  rw [h]
  exact ⟨if_pos (.inr hb), by rw [if_neg (by decide), if_pos hb], by rw [if_neg (by decide), if_pos hb]⟩
theorem prog_good {l : List UInt8} (h : longB l = false) (hb : badAt (cutL 10 l).1 = (cutL 10 l).1.length) (hr : (cutL 10 l).2 = []) : progW l = (cutL 10 l).1.map (fun p => (lineO p).getD 0) ∧ progE l = 0 ∧ progN l = 0 := by
  have hn : ¬ (badAt (cutL 10 l).1 < (cutL 10 l).1.length ∨ (cutL 10 l).2 ≠ []) := by
    rintro (h1 | h1)
    · omega
    · exact h1 hr
  unfold progW progE progN
  rw [h]
  exact ⟨if_neg (fun e => e.elim (by decide) hn), by rw [if_neg (by decide), if_neg hn], by rw [if_neg (by decide), if_neg hn]⟩
theorem info_word : (Tryd.prog.info? 59).map (fun i => (i.zero, i.size, i.bytes)) = some (some (.int .u32 0), 1, 4) := by kernel_rfl
theorem rowIs_more {w w' : World} {b n : Nat} {t : TypeId} {f : Nat → Value} (h : w.rowIs b t n f) (hb : Below w.heap.size w w') : w'.rowIs b t n f := by
  obtain ⟨c, h1, h2, h3⟩ := h
  exact ⟨c, (hb.block b (Array.getElem?_eq_some_iff.1 h1).1).trans h1, h2, h3⟩
def ProgPost (l : List UInt8) (W : World) (e : Ending) (w' : World) : Prop := ∃ a n c, e = .returned (.tuple #[.slice a n c, .int .i64 (progE l), .int .i64 (progN l)]) ∧ RowK .u32 w' w'.heap.size a n (progW l) ∧ n ≤ 512 ∧ Below W.heap.size W w'
theorem program_bytes (s : ByteArray) (h : 16384 < s.size) (hs : s.size ≤ 140737488355328) (w : World) :
    Calls Tryd.prog 12 #[.string s] w fun e w' => ProgPost s.data.toList w e w' := by
  have hl : longB s.data.toList = true := by unfold longB; rw [size_list, decide_eq_true h]; rfl
  obtain ⟨e1, e2, e3⟩ := prog_long hl
  have H1 := Lib.hid e1
  have H2 := Lib.hid e2
  have H3 := Lib.hid e3
  have hi : (16384 : Int) < (s.size : Int) := by omega
  clear e1 e2 e3 hl
  go_enter Tryd.func12, Tryd.ntmps12
  go_wp2
  exact bodyPost_ret (v := .tuple #[.slice none 0 0, .int .i64 10, .int .i64 0]) (by simp [results, Tryd.results12, go_sem]) rfl ⟨none, 0, 0, by rw [H2.out, H3.out], by rw [H1.out]; exact RowK.nil _ _ _ _, by omega, Below.refl _ _⟩
theorem program_lines (s : ByteArray) (hs : s.size ≤ 16384) (h : 512 < (cutL 10 s.data.toList).1.length + overN s.data.toList) (w : World) :
    Calls Tryd.prog 12 #[.string s] w fun e w' => ProgPost s.data.toList w e w' := by
  have hl : longB s.data.toList = true := by unfold longB; rw [decide_eq_true h]; simp
  obtain ⟨e1, e2, e3⟩ := prog_long hl
  have H1 := Lib.hid e1
  have H2 := Lib.hid e2
  have H3 := Lib.hid e3
  have hi : (s.size : Int) ≤ 16384 := by omega
  have HC := Lib.hid (cut_lines s (by omega) w)
  obtain ⟨ov, hov⟩ : ∃ ov, ov = decide ((cutL 10 s.data.toList).2 ≠ []) := ⟨_, rfl⟩
  have hovn : overN s.data.toList = if ov = true then 1 else 0 := by
    unfold overN
    rw [hov]
    by_cases hx : (cutL 10 s.data.toList).2 = [] <;> simp [hx]
  rw [← hov] at HC
  rw [hovn] at h
  generalize (cutL 10 s.data.toList).1 = ps at HC h
  generalize hn : ps.length = n at HC h
  have HN := Lib.hid hn
  clear e1 e2 e3 hl hov hovn hn
  go_enter Tryd.func12, Tryd.ntmps12
  go_wp2_with fail
  refine HC.out.mono ?_
  rintro e w1 ⟨v, rfl, hown, hpl, hb⟩
  obtain ⟨a, cap, rfl, hc1, hc2, hrow⟩ := hown.row
  clear hown hrow
  by_cases h5 : 512 < n
  · have h5i : (512 : Int) < (n : Int) := by omega
    clear h
    go_wp2
    exact bodyPost_ret (v := .tuple #[.slice none 0 0, .int .i64 10, .int .i64 0]) (by simp [results, Tryd.results12, go_sem]) rfl ⟨none, 0, 0, by rw [H2.out, H3.out], by rw [H1.out]; exact RowK.nil _ _ _ _, by omega, hb⟩
  · cases ov
    · simp at h; omega
    · simp only [if_true] at h
      obtain rfl : n = 512 := by omega
      clear h h5
      go_wp2
      exact bodyPost_ret (v := .tuple #[.slice none 0 0, .int .i64 10, .int .i64 0]) (by simp [results, Tryd.results12, go_sem]) rfl ⟨none, 0, 0, by rw [H2.out, H3.out], by rw [H1.out]; exact RowK.nil _ _ _ _, by omega, hb⟩
def OvIs (ov : Bool) (r : List UInt8) : Prop := ov = decide (r ≠ [])
theorem ov_yes {r : List UInt8} (h : OvIs true r) : r ≠ [] := of_decide_eq_true (Eq.symm h)
theorem ov_no {r : List UInt8} (h : OvIs false r) : r = [] := Decidable.of_not_not (of_decide_eq_false (Eq.symm h))
theorem program_rest (s : ByteArray) (hs : s.size ≤ 16384) (h : (cutL 10 s.data.toList).1.length + overN s.data.toList ≤ 512) (w : World) (hw : Held w) :
    Calls Tryd.prog 12 #[.string s] w fun e w' => ProgPost s.data.toList w e w' := by
  have hl : longB s.data.toList = false := by
    unfold longB
    rw [size_list, decide_eq_false (by omega), decide_eq_false (by omega)]; rfl
  have HBAD := Lib.hid (prog_bad hl)
  have HGOOD := Lib.hid (prog_good hl)
  have HPC := Lib.hid (piece_len s.data.toList)
  have hi : (s.size : Int) ≤ 16384 := by omega
  have HC := Lib.hid (cut_lines s (by omega) w)
  obtain ⟨ov, hov⟩ : ∃ ov, ov = decide ((cutL 10 s.data.toList).2 ≠ []) := ⟨_, rfl⟩
  have hovn : overN s.data.toList = if ov = true then 1 else 0 := by
    unfold overN
    rw [hov]
    by_cases hx : (cutL 10 s.data.toList).2 = [] <;> simp [hx]
  rw [← hov] at HC
  rw [hovn] at h
  have HOV := Lib.hid hov
  obtain ⟨ps, hps⟩ : ∃ ps, (cutL 10 s.data.toList).1 = ps := ⟨_, rfl⟩
  rw [hps] at HC h HBAD HGOOD HPC
  obtain ⟨n, hn⟩ : ∃ n, ps.length = n := ⟨_, rfl⟩
  rw [hn] at HC h
  have HN := Lib.hid hn
  have HW := Lib.hid hw
  have hszl : s.data.toList.length = s.size := rfl
  rw [hszl] at HPC
  clear hl hov hovn hn hps hw hszl
  have hno : n ≤ 512 := by omega
  have h5i : (n : Int) ≤ 512 := by omega
  have h5e : ov = true → (((n : Nat) : Int) == 512) = false := fun e => by
    rw [e] at h
    simp only [if_true] at h
    rw [beq_eq_false_iff_ne]; omega
  clear h
  have hmk : ∀ W : World, (Instr.makeSlice 35 (.int .i64 (n : Int)) (.int .i64 (n : Int))).run Tryd.prog W = .ok (.slice (some ⟨W.heap.size, 0, none⟩) n n) (W.alloc (.cells (madeCells #[.int .u32 0] n) 59)) := fun W => run_make_row' (P := Tryd.prog) 35 59 (.int .u32 0) 4 Tryd.underlying35 info_word rfl .i64 .i64 n (by omega) (by omega) W
  go_enter Tryd.func12, Tryd.ntmps12
  go_wp2_with fail
  refine HC.out.mono ?_
  rintro e w1 ⟨v, rfl, hown, hpl, hb1⟩
  obtain ⟨a, cap, rfl, hc1, hc2, hrow⟩ := hown.row
  have HR1 := Lib.hid hrow
  have HW1 := Lib.hid (HW.out.more hb1)
  have HB1 := Lib.hid hb1
  have hrm := World.rowIs_made w1 (.int .u32 0) n 59
  have hbm : Below w1.heap.size w1 (w1.alloc (.cells (madeCells #[.int .u32 0] n) 59)) := (Below.refl _ _).alloc (Nat.le_refl _) _
  obtain ⟨V, hV⟩ : ∃ V, V = w1.alloc (.cells (madeCells #[.int .u32 0] n) 59) := ⟨_, rfl⟩
  rw [← hV] at hrm hbm
  have HRM := Lib.hid hrm
  have HBM := Lib.hid hbm
  have HV := Lib.hid hV
  unfold maxLen at hc2
  clear hown hrow hb1 hrm hbm hV
  have HOVD : OvIs ov (cutL 10 s.data.toList).2 := HOV.out
  cases ov
  all_goals
    first | (have h5 := h5e rfl) | skip
    clear h5e
    go_wp2
    rw [show w1.alloc (.cells (madeCells #[.int .u32 0] n) 59) = V from HV.out.symm]
    go_loopw [36] (fun i wr => ∃ k : Nat, k ≤ n ∧ i = .int .i64 k ∧ AllGood ps k ∧ wr.rowIs w1.heap.size 59 n (fun j => if j < k then .int .u32 ((lineO (ps.getD j [])).getD 0) else .int .u32 0) ∧ Below w1.heap.size w1 wr) (fun i _ => n - (intOf i).toNat)
    case atStart => exact ⟨0, Nat.zero_le _, rfl, AllGood.zero _, HRM.out.congr fun j _ => by rw [if_neg (by omega)], HBM.out⟩
    case round =>
      obtain ⟨k, hk, rfl, hall, hri, hb⟩ := hrel
      have HALL := Lib.hid hall
      have HRI := Lib.hid hri
      have HB := Lib.hid hb
      by_cases hlt : k < n
      · obtain ⟨x, rfl, hxb, hxc⟩ := (HR1.out.below hb).at k hlt
        have hps := HPC.out k
        have HPB := Lib.hid (fun ha hn => bad_here (ps := ps) (k := k) ha (by have := HN.out; omega) hn)
        obtain ⟨p, hp⟩ : ∃ p, p = tb (ps.getD k []) := ⟨_, rfl⟩
        rw [← hp] at hxc
        have hpl : p.data.toList = ps.getD k [] := by rw [hp]; rfl
        have hsz : p.size ≤ 140737488355328 := by
          have e : p.data.toList.length = p.size := rfl
          rw [hpl] at e
          omega
        have hwd := fun W hW => word_any p hsz W hW
        rw [hpl] at hwd
        obtain ⟨t, ht⟩ : ∃ t, t = (lineO (ps.getD k [])).isSome := ⟨_, rfl⟩
        obtain ⟨z, hz⟩ : ∃ z, z = (lineO (ps.getD k [])).getD 0 := ⟨_, rfl⟩
        rw [← ht, ← hz] at hwd
        have HWD := Lib.hid hwd
        have HT := Lib.hid ht
        have HZ := Lib.hid hz
        have hxl : x.block < wr.heap.size := Nat.lt_of_lt_of_le hxb hb.size
        clear hall hri hb hwd ht hz hpl hp hps hsz
        go_wp2_with fail
        refine (HWD.out _ (HW1.out.more HB.out)).mono ?_
        rintro e w2 ⟨rfl, hb2⟩
        have HB2 := Lib.hid (HB.out.trans (hb2.mono HB.out.size))
        have hri2 := rowIs_more HRI.out hb2
        have q1 := hri2.cell hlt
        have q2 := hri2.frozen k
        rw [if_neg (Nat.lt_irrefl k)] at q1
        have hml : w1.heap.size < w2.heap.size := hri2.lt
        have HRI2 := Lib.hid hri2
        clear hb2 hri2
        cases t
        · have hbad := HPB.out HALL.out HT.out.symm
          obtain ⟨e1, e2, e3⟩ := HBAD.out (.inl (by rw [hbad]; have := HN.out; omega))
          rw [hbad] at e3
          have H1 := Lib.hid e1
          have H2 := Lib.hid e2
          have H3 := Lib.hid e3
          have HBE := Lib.hid (HB1.out.trans (HB2.out.mono HB1.out.size))
          clear e1 e2 e3 hbad
          go_wp2
          exact bodyPost_ret (v := .tuple #[.slice none 0 0, .int .i64 6, .int .i64 ((k : Int) + 1)]) (by simp [results, Tryd.results12, go_sem]) rfl ⟨none, 0, 0, by rw [H2.out, H3.out], by rw [H1.out]; exact RowK.nil _ _ _ _, by omega, HBE.out⟩
        · have HAS := Lib.hid (HALL.out.succ HT.out.symm)
          go_wp2
          go_roundw
          case rel =>
            refine ⟨k + 1, by omega, by go_num, HAS.out, (HRI2.out.set k _).congr fun j _ => ?_, HB2.out.setCell (Nat.le_refl _) _⟩
            by_cases e : j = k
            · subst e; rw [if_pos rfl, if_pos (by omega), HZ.out]
            · rw [if_neg e]
              by_cases e2 : j < k
              · rw [if_pos e2, if_pos (by omega)]
              · rw [if_neg e2, if_neg (by omega)]
          case measure => simp [intOf]; omega
      · obtain rfl : k = n := by omega
        have hbn : badAt ps = ps.length := bad_none (by rw [HN.out]; exact hall)
        have HBN := Lib.hid hbn
        have HBE := Lib.hid (HB1.out.trans (hb.mono HB1.out.size))
        clear hbn hall hb
        first
        | (have H0 := ov_yes HOVD
           obtain ⟨e1, e2, e3⟩ := HBAD.out (.inr H0)
           rw [HBN.out, HN.out] at e3
           have H1 := Lib.hid e1
           have H2 := Lib.hid e2
           have H3 := Lib.hid e3
           clear e1 e2 e3 hri H0
           go_wp2
           exact bodyPost_ret (v := .tuple #[.slice none 0 0, .int .i64 6, .int .i64 ((k : Int) + 1)]) (by simp [results, Tryd.results12, go_sem]) rfl ⟨none, 0, 0, by rw [H2.out, H3.out], by rw [H1.out]; exact RowK.nil _ _ _ _, by omega, HBE.out⟩)
        | (obtain ⟨e1, e2, e3⟩ := HGOOD.out HBN.out (ov_no HOVD)
           have hrow := RowK.of_is (k := .u32) hri (ps.map fun p => (lineO p).getD 0) (by rw [List.length_map, HN.out]) (fun j hj => by
             have hj2 : j < ps.length := by rw [HN.out]; exact hj
             rw [if_pos hj]
             simp [List.getD, hj2])
           have H1 := Lib.hid e1
           have H2 := Lib.hid e2
           have H3 := Lib.hid e3
           have HRW := Lib.hid hrow
           clear e1 e2 e3 hri hrow
           go_wp2
           exact bodyPost_ret (v := .tuple #[.slice (some ⟨w1.heap.size, 0, none⟩) k k, .int .i64 0, .int .i64 0]) (by simp [results, Tryd.results12, go_sem]) rfl ⟨_, _, _, by rw [H2.out, H3.out], by rw [H1.out]; exact HRW.out, hno, HBE.out⟩)
theorem program_any (s : ByteArray) (hs : s.size ≤ 140737488355328) (w : World) (hw : Held w) :
    Calls Tryd.prog 12 #[.string s] w fun e w' => ProgPost s.data.toList w e w' := by
  by_cases h : s.size ≤ 16384
  · by_cases h2 : (cutL 10 s.data.toList).1.length + overN s.data.toList ≤ 512
    · exact program_rest s h h2 w hw
    · exact program_lines s h (by omega) w
  · exact program_bytes s (by omega) hs w
end Go.Proofs.YtfdekfobcohcjaaDoor.As
