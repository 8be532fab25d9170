/- plan: cut, Split, Lines, Number. -/
import Derived.Test.YtfdekfobcohcjaaDoorEa
import Derived.Test.YtfdekfobcohcjaaDoorEm
import Derived.Laws.RangeAny
import Derived.BigQuiet
namespace Go.Proofs.YtfdekfobcohcjaaDoor.Pl
open Go.RowKit Ut
set_option linter.unusedVariables false

theorem info_str : (Tryd.prog.info? 9).map (fun i => (i.zero, i.size, i.bytes)) = some (some (.string ⟨#[]⟩), 1, 16) := by kernel_rfl

theorem take_more (s : ByteArray) (pos k : Nat) (h : pos ≤ k) : s.data.toList.take k = s.data.toList.take pos ++ ((s.data.toList.take k).drop pos) := by
  conv => lhs; rw [← List.take_append_drop pos (s.data.toList.take k)]
  rw [List.take_take, Nat.min_eq_left h]
/-- a rune of several bytes holds no ASCII byte -/
theorem span_no (s : ByteArray) (pos k : Nat) (c : UInt8) (hc : c.toNat < 128) (hks : k ≤ s.size) (h : ∀ j, pos ≤ j → j < k → 128 ≤ (s.get! j).toNat) : c ∉ (s.data.toList.take k).drop pos := by
  intro hm
  obtain ⟨j, hj, e⟩ := List.getElem_of_mem hm
  simp at hj
  have := h (pos + j) (by omega) (by omega)
  simp at e
  have e2 : s.get! (pos + j) = c := by
    rw [← e]
    show s.get! (pos + j) = s.data[pos + j]'_
    have hl : pos + j < s.size := by omega
    have := get_at s (pos + j) hl
    simp only [Nat.add_zero] at this
    rw [this]; rfl
  rw [e2] at this; omega

/-- where a piece begins, at place pos -/
structure CutAt (c : UInt8) (s : ByteArray) (pos fr : Nat) (ps : List (List UInt8)) : Prop where
  le : fr ≤ pos
  pl : ps.length ≤ pos
  cut : cutL c (s.data.toList.take pos) = (ps, (s.data.toList.take pos).drop fr)
theorem CutAt.start (c : UInt8) (s : ByteArray) : CutAt c s 0 0 [] := ⟨Nat.le_refl _, Nat.le_refl _, by simp [cutL]⟩
theorem CutAt.skip {c : UInt8} {s : ByteArray} {pos fr k : Nat} {ps : List (List UInt8)} (h : CutAt c s pos fr ps) (hk : pos ≤ k) (hks : k ≤ s.size) (hno : c ∉ (s.data.toList.take k).drop pos) : CutAt c s k fr ps := by
  refine ⟨by have := h.le; omega, by have := h.pl; omega, ?_⟩
  rw [take_more s pos k hk, cutL_plain c _ _ hno, h.cut]
  have hl : fr ≤ (s.data.toList.take pos).length := by
    have := h.le; simp; omega
  rw [List.drop_append_of_le_length hl]
theorem CutAt.hit {c : UInt8} {s : ByteArray} {pos fr : Nat} {ps : List (List UInt8)} (h : CutAt c s pos fr ps) (hp : pos < s.size) (he : s[pos] = c) : CutAt c s (pos + 1) (pos + 1) (ps ++ [(s.data.toList.take pos).drop fr]) := by
  refine ⟨Nat.le_refl _, by have := h.pl; simp; omega, ?_⟩
  have e : s.data.toList.take (pos + 1) = s.data.toList.take pos ++ [c] := by
    rw [List.take_add_one, List.getElem?_eq_getElem (by simpa using hp)]
    rw [← he]; rfl
  rw [e, cutL_end, h.cut]
  have hl : (s.data.toList.take pos ++ [c]).length = pos + 1 := by simp; omega
  have hd : List.drop (pos + 1) (s.data.toList.take pos ++ [c]) = [] := List.drop_of_length_le (by rw [hl]; exact Nat.le_refl _)
  rw [hd]
theorem CutAt.done {c : UInt8} {s : ByteArray} {pos fr : Nat} {ps : List (List UInt8)} (h : CutAt c s pos fr ps) (hp : pos = s.size) : cutL c s.data.toList = (ps, s.data.toList.drop fr) := by
  have := h.cut
  rwa [List.take_of_length_le (by simp [hp])] at this

set_option maxRecDepth 100000 in
theorem cut_any (s : ByteArray) (c : UInt8) (hc : c.toNat < 128) (hs : s.size ≤ 1099511627776) (B : Nat) (w : World) (hB : B ≤ w.heap.size) :
    Calls Tryd.prog 56 #[.string s, .int .i32 c.toNat] w fun e w' => ∃ v, e = .returned (.tuple #[v, .string (tb (cutL c s.data.toList).2)]) ∧ OwnS w' B 9 v (cutL c s.data.toList).1.length (cutL c s.data.toList).1 ∧ (cutL c s.data.toList).1.length ≤ s.size ∧ Below B w w' := by
  obtain ⟨i0, hi, hz0, hz1, hz2⟩ := info_parts info_str
  go_enter Tryd.func56, Tryd.ntmps56
  go_wp2
  go_loopw [6, 7] (fun v f wr => ∃ (pos fr : Nat) (ps : List (List UInt8)), f = .int .i64 fr ∧ CutAt c s pos fr ps ∧ pos ≤ s.size ∧ OwnS wr B 9 v ps.length ps ∧ wr.heap[w.heap.size]? = some (.stringIter s pos) ∧ Below B w wr) (fun _ _ wr => s.size - wr.iterPos w.heap.size)
  case atStart => exact ⟨0, 0, [], rfl, CutAt.start c s, Nat.zero_le _, OwnS.nil _ _ _, World.iter_heap w s 0, (Below.refl _ w).alloc hB _⟩
  case round =>
    obtain ⟨pos, fr, ps, rfl, hcut, hps, hown, hit, hbel⟩ := hrel
    have hsz : w.heap.size < wr.heap.size := (Array.getElem?_eq_some_iff.1 hit).1
    have hle := hcut.le
    by_cases hp : pos < s.size
    · have hnx : ∀ ty, (Instr.next (.pointer (some ⟨w.heap.size, 0, none⟩)) true ty).run Tryd.prog wr = _ := fun ty => Lib.run_next_any_at wr w.heap.size s pos ty hit hp
      obtain ⟨hd1, hd2, hd3⟩ := dec_span s pos hp
      have hd4 := decode_le s pos
      have hown2 : OwnS (wr.iterAt w.heap.size s (pos + (Utf8.decode s pos).2)) B 9 _ ps.length ps := ownsRow_iterAt hown hit _
      have hit2 := Lib.iterAt_heap wr w.heap.size s pos (pos + (Utf8.decode s pos).2) hit
      have hb2 := Lib.below_iterAt hbel (k := w.heap.size) hB s (pos + (Utf8.decode s pos).2)
      have hsz2 : w.heap.size < (wr.iterAt w.heap.size s (pos + (Utf8.decode s pos).2)).heap.size := by rw [Lib.iterAt_size]; exact hsz
      have HM : Hid (wr.iterPos w.heap.size = pos) := Lib.hid (by simp [World.iterPos, hit])
      by_cases he : (Utf8.decode s pos).1 = c.toNat
      · have hlow : (s[pos]'hp).toNat < 128 ∧ (Utf8.decode s pos).1 = (s[pos]'hp).toNat ∧ (Utf8.decode s pos).2 = 1 := by
          rcases hd3 with h | ⟨h, _⟩
          · exact h
          · omega
        have hcut2 := Lib.hid (hcut.hit hp (UInt8.toNat_inj.1 (by omega)))
        have hw1 := Lib.hid hlow.2.2
        have hpsl := hcut.pl
        clear hcut hlow hd3 hown hit hbel
        generalize hWW : wr.iterAt w.heap.size s (pos + (Utf8.decode s pos).2) = WW at hnx hown2 hit2 hb2 hsz2
        clear hWW
        go_wp2_with (at_builtin; refine wpList_append_own _ rfl _ _ 57 rfl B 9 i0 (.string ⟨#[]⟩) 1 16 Tryd.underlying57 hi hz0 hz1 hz2 rfl (by decide) _ _ _ rfl (World.ownsRow.alloc hown2 _) ⟨WW.heap.size, 0, none⟩ 1 1 [.string (s.extract fr pos)] rfl rfl ?c1 ?c2 ?c3 ?c4 ?c5 ?_)
        case c1 => exact cell_one_new _ _ _
        case c2 => intro u hu; simp at hu; subst hu; rfl
        case c3 => unfold maxLen; omega
        case c4 => omega
        case c5 => simp; omega
        · intro v' w1 hown' hgrow _
          have hb1 : Below B w w1 := (hb2.alloc (by omega) _).grown hgrow (by simp; omega) (fun q hq => (World.ownsRow.lt hown2 q hq).1)
          have hit3 : w1.heap[w.heap.size]? = some (.stringIter s (pos + (Utf8.decode s pos).2)) := (hgrow.block _ (by simp; omega) (own_ne_iter hown2 hit2).symm).trans ((Below.heap_alloc _ _ _ hsz2).trans hit2)
          have ho1 : OwnS w1 B 9 v' (ps ++ [(s.data.toList.take pos).drop fr]).length (ps ++ [(s.data.toList.take pos).drop fr]) := by
            unfold OwnS
            rw [List.map_append, List.length_append]
            simpa [encS, tb_part] using hown'
          clear hown' hgrow hown2 hit2 hb2
          go_wp2
          go_roundw
          case rel => exact ⟨pos + 1, pos + 1, _, by go_num, hcut2.out, by omega, ho1, by rw [hit3, hw1.out], hb1⟩
          case measure => rw [HM.out]; simp only [World.iterPos, hit3, hw1.out]; omega
      · have hcut2 := Lib.hid (hcut.skip (k := pos + (Utf8.decode s pos).2) (by omega) hd2 (by
          rcases hd3 with ⟨h1, h2, h3⟩ | ⟨_, h⟩
          · rw [h3]
            intro hm
            have e : (s.data.toList.take (pos + 1)).drop pos = [s[pos]'hp] := by
              rw [List.take_add_one, List.getElem?_eq_getElem (by simpa using hp), List.drop_append_of_le_length (by simp; omega), List.drop_of_length_le (by simp; omega)]
              rfl
            rw [e] at hm
            simp at hm
            exact he (by rw [h2, hm])
          · exact span_no s pos _ c hc hd2 h))
        clear hcut hd3 hown hbel hit
        generalize hWW : wr.iterAt w.heap.size s (pos + (Utf8.decode s pos).2) = WW at hnx hown2 hit2 hb2 hsz2
        clear hWW
        go_wp2
        go_roundw
        case rel => exact ⟨_, fr, ps, rfl, hcut2.out, hd2, hown2, hit2, hb2⟩
        case measure => rw [HM.out]; simp only [World.iterPos, hit2]; omega
    · have hnx : ∀ ty, (Instr.next (.pointer (some ⟨w.heap.size, 0, none⟩)) true ty).run Tryd.prog wr = _ := fun ty => Lib.run_next_end_at wr w.heap.size s pos ty hit hp
      have HD := Lib.hid (hcut.done (by omega))
      have hpl := hcut.pl
      clear hcut hit
      go_wp2
      go_quiet (fail)
      go_wp2
      go_ret2
      refine ⟨u6, ?_, ?_, ?_, ?_⟩
      · rw [HD.out]
        show Ending.returned (Value.tuple #[u6, .string (s.extract fr s.size)]) = _
        rw [tb_part, List.take_of_length_le (by simp)]
      · rw [HD.out]; exact hown
      · rw [HD.out]; show ps.length ≤ s.size; omega
      · exact hbel.trans ⟨rfl, rfl, rfl, Nat.le_refl _, fun _ _ => rfl⟩


/-- the first place of the empty text, -1 if it is nowhere -/
def idxE : List (List UInt8) → Nat → Int
  | [], _ => -1
  | x :: r, i => if x = [] then i else idxE r (i + 1)
theorem idxE_neg : ∀ (ts : List (List UInt8)) (i : Nat), (0 ≤ idxE ts i) ↔ [] ∈ ts
  | [], i => by simp [idxE]
  | x :: r, i => by
    unfold idxE
    split
    · rename_i h; simp [h]
    · rename_i h
      rw [idxE_neg r (i + 1)]
      simp [Ne.symm h]
theorem idxE_drop {ts : List (List UInt8)} {k : Nat} (hk : k < ts.length) (i : Nat) : idxE (ts.drop k) i = if ts.getD k [] = [] then (i : Int) else idxE (ts.drop (k + 1)) (i + 1) := by
  rw [List.drop_eq_getElem_cons hk, idxE]
  simp [List.getD, hk]
theorem tb_empty (l : List UInt8) : ((tb l).toList == []) = decide (l = []) := by
  rw [ByteArray.toList_eq]
  cases l <;> simp [tb]

set_option maxRecDepth 100000 in
theorem index_empty (a : Option Addr) (n cap : Nat) (ts : List (List UInt8)) (B : Nat) (w : World) (h : RowS w B a n ts) (hn : n ≤ maxLen) :
    Calls Tryd.prog 42 #[.slice a n cap, .string ⟨#[]⟩] w fun e w' => e = .returned (.int .i64 (idxE ts 0)) ∧ w = w' := by
  unfold maxLen at hn
  go_enter Tryd.func42, Tryd.ntmps42
  go_wp2
  go_loop [8] (fun i => ∃ k : Nat, k ≤ n ∧ i = .int .i64 k ∧ idxE ts 0 = idxE (ts.drop k) k) (fun i => n - (intOf i).toNat)
  case atStart => exact ⟨0, Nat.zero_le _, rfl, rfl⟩
  case round =>
    obtain ⟨k, hk, rfl, hi⟩ := hrel
    have HI := Lib.hid hi
    clear hi
    by_cases hlt : k < n
    · obtain ⟨x, rfl, hxb, hc⟩ := h.at k hlt
      have HD := Lib.hid (idxE_drop (ts := ts) (k := k) (by rw [h.1]; exact hlt) k)
      cases he : decide (ts.getD k [] = [])
      · have hne : (([] : List UInt8) == (tb (ts.getD k [])).toList) = false := by
          rw [ByteArray.toList_eq]
          cases hq : ts.getD k [] with
          | nil => rw [hq] at he; simp at he
          | cons b r => rfl
        have HE : Hid (¬ ts.getD k [] = []) := Lib.hid (by simpa using he)
        clear he
        generalize tb (ts.getD k []) = tx at hc hne
        go_wp2
        go_round
        case rel => exact ⟨k + 1, by omega, by go_num, by rw [HI.out, HD.out, if_neg HE.out]⟩
        case measure => simp [intOf]; omega
      · have hne : (([] : List UInt8) == (tb (ts.getD k [])).toList) = true := by
          rw [ByteArray.toList_eq]
          have : ts.getD k [] = [] := by simpa using he
          rw [this]; rfl
        have HE : Hid (ts.getD k [] = []) := Lib.hid (by simpa using he)
        clear he
        generalize tb (ts.getD k []) = tx at hc hne
        go_wp2
        go_ret
        refine ⟨?_, rfl⟩
        rw [HI.out, HD.out, if_pos HE.out]
        rfl
    · obtain rfl : k = n := by omega
      go_wp2
      go_ret
      refine ⟨?_, rfl⟩
      rw [HI.out, List.drop_of_length_le (by rw [h.1]; exact Nat.le_refl _)]
      rfl
theorem contains_empty (a : Option Addr) (n cap : Nat) (ts : List (List UInt8)) (B : Nat) (w : World) (h : RowS w B a n ts) (hn : n ≤ maxLen) (r : Bool) (hr : decide (0 ≤ idxE ts 0) = r) :
    Calls Tryd.prog 57 #[.slice a n cap, .string ⟨#[]⟩] w fun e w' => e = .returned (.bool r) ∧ w = w' := by
  have HR := Lib.hid hr
  generalize hz : idxE ts 0 = z at hr HR
  have hx : Calls Tryd.prog 42 #[.slice a n cap, .string ⟨#[]⟩] w fun e w' => e = .returned (.int .i64 z) ∧ w = w' := hz ▸ index_empty a n cap ts B w h hn
  clear hr hz
  go_enter Tryd.func57, Tryd.ntmps57
  go_wp2_with (go_at_call 42; refine hx.mono ?_; rintro e w' ⟨rfl, rfl⟩)
  go_ret
  refine ⟨?_, rfl⟩
  rw [← HR.out]
  rfl

set_option maxRecDepth 100000 in
theorem split_any (s : ByteArray) (hs : s.size ≤ 1099511627776) (B : Nat) (w : World) (hB : B ≤ w.heap.size) :
    Calls Tryd.prog 41 #[.string s] w fun e w' => ∃ v, e = .returned (.tuple #[v, .bool (wordsL s.data.toList).isSome]) ∧ OwnS w' B 9 v ((wordsL s.data.toList).getD []).length ((wordsL s.data.toList).getD []) ∧ ((wordsL s.data.toList).getD []).length ≤ s.size + 1 ∧ Below B w w' := by
  obtain ⟨i0, hi, hz0, hz1, hz2⟩ := info_parts info_str
  have hx := cut_any s 32 (by decide) hs B w hB
  obtain ⟨o, ho⟩ : ∃ o, wordsL s.data.toList = o := ⟨_, rfl⟩
  rw [ho]
  have HO := Lib.hid ho
  clear ho
  obtain ⟨ws, hws⟩ : ∃ ws, o.getD [] = ws := ⟨_, rfl⟩
  obtain ⟨b, hb⟩ : ∃ b, o.isSome = b := ⟨_, rfl⟩
  rw [hws, hb]
  have HW := Lib.hid hws
  have HB := Lib.hid hb
  clear hws hb
  obtain ⟨c, hc⟩ : ∃ c, cutL 32 s.data.toList = c := ⟨_, rfl⟩
  rw [hc] at hx
  have HC := Lib.hid hc
  clear hc
  go_enter Tryd.func41, Tryd.ntmps41
  go_wp2_with (first | (go_at_call 56; refine hx.mono ?_; rintro e w1 ⟨v, rfl, hown, hpl, hb1⟩; clear hx) | (at_builtin; refine wpList_append_own _ rfl _ _ 57 rfl B 9 i0 (.string ⟨#[]⟩) 1 16 Tryd.underlying57 hi hz0 hz1 hz2 rfl (by decide) _ _ _ rfl (World.ownsRow.alloc hown _) ⟨w1.heap.size, 0, none⟩ 1 1 [.string (tb c.2)] rfl rfl ?c1 ?c2 ?c3 ?c4 ?c5 ?_))
  case c1 => exact cell_one_new _ _ _
  case c2 => intro u hu; simp at hu; subst hu; rfl
  case c3 => unfold maxLen; omega
  case c4 => omega
  case c5 => have := hb1.size; simp; omega
  · intro v' w2 hown' hgrow _
    have hb2 : Below B w w2 := (hb1.alloc (by have := hb1.size; omega) _).grown hgrow (by have := hb1.size; simp; omega) (fun q hq => (World.ownsRow.lt hown q hq).1)
    have ho1 : OwnS w2 B 9 v' (c.1 ++ [c.2]).length (c.1 ++ [c.2]) := by
      unfold OwnS
      rw [List.map_append, List.length_append]
      simpa [encS] using hown'
    clear hown' hgrow hown hb1
    obtain ⟨ts, hts⟩ : ∃ ts, c.1 ++ [c.2] = ts := ⟨_, rfl⟩
    have hlen : ts.length = c.1.length + 1 := by rw [← hts]; simp
    rw [hts] at ho1
    obtain ⟨m, hm⟩ : ∃ m, ts.length = m := ⟨_, rfl⟩
    rw [hm] at hlen ho1
    have hml : m ≤ s.size + 1 := by omega
    clear hlen
    obtain ⟨a, cap, rfl, hcap, hcm, hrow⟩ := ho1.row
    have HT := Lib.hid hts
    have HM := Lib.hid hm
    clear hts hm
    cases hr : decide (0 ≤ idxE ts 0)
    · have hx := contains_empty a m cap ts _ w2 hrow (Nat.le_trans hcap hcm) false hr
      have HR := Lib.hid hr
      clear hr hrow
      go_wp2_with (go_at_call 57; refine hx.mono ?_; rintro e w3 ⟨rfl, rfl⟩)
      go_ret2
      have hn : [] ∉ ts := fun h => by have := HR.out; simp [(idxE_neg ts 0).2 h] at this
      have e : wordsL s.data.toList = some ts := by unfold wordsL; rw [HC.out, HT.out, if_neg hn]
      have eo := HO.out.symm.trans e
      have e1 : ws = ts := by rw [← HW.out, eo]; rfl
      have e2 : b = true := by rw [← HB.out, eo]; rfl
      rw [e1, e2, HM.out]
      exact ⟨_, rfl, ho1, by omega, hb2⟩
    · have hx := contains_empty a m cap ts _ w2 hrow (Nat.le_trans hcap hcm) true hr
      have HR := Lib.hid hr
      clear hr hrow
      go_wp2_with (go_at_call 57; refine hx.mono ?_; rintro e w3 ⟨rfl, rfl⟩)
      go_ret2
      have hn : [] ∈ ts := (idxE_neg ts 0).1 (by simpa using HR.out)
      have e : wordsL s.data.toList = none := by unfold wordsL; rw [HC.out, HT.out, if_pos hn]
      have eo := HO.out.symm.trans e
      have e1 : ws = [] := by rw [← HW.out, eo]; rfl
      have e2 : b = false := by rw [← HB.out, eo]; rfl
      rw [e1, e2]
      exact ⟨_, rfl, OwnS.nil _ _ _, Nat.zero_le _, hb2⟩
/-- the whole lines, if nothing stands behind them -/
def linesL (l : List UInt8) : Option (List (List UInt8)) := if (cutL 10 l).2 = [] then some (cutL 10 l).1 else none
set_option maxRecDepth 100000 in
theorem lines_any (s : ByteArray) (hs : s.size ≤ 1099511627776) (B : Nat) (w : World) (hB : B ≤ w.heap.size) :
    Calls Tryd.prog 47 #[.string s] w fun e w' => ∃ v, e = .returned (.tuple #[v, .bool (linesL s.data.toList).isSome]) ∧ OwnS w' B 9 v ((linesL s.data.toList).getD []).length ((linesL s.data.toList).getD []) ∧ ((linesL s.data.toList).getD []).length ≤ s.size ∧ Below B w w' := by
  have hx := cut_any s 10 (by decide) hs B w hB
  obtain ⟨o, ho⟩ : ∃ o, linesL s.data.toList = o := ⟨_, rfl⟩
  rw [ho]
  have HO := Lib.hid ho
  clear ho
  obtain ⟨ws, hws⟩ : ∃ ws, o.getD [] = ws := ⟨_, rfl⟩
  obtain ⟨b, hb⟩ : ∃ b, o.isSome = b := ⟨_, rfl⟩
  rw [hws, hb]
  have HW := Lib.hid hws
  have HB := Lib.hid hb
  clear hws hb
  obtain ⟨c, hc⟩ : ∃ c, cutL 10 s.data.toList = c := ⟨_, rfl⟩
  rw [hc] at hx
  have HC := Lib.hid hc
  clear hc
  have hne : ((tb c.2).toList == []) = decide (c.2 = []) := tb_empty c.2
  go_enter Tryd.func47, Tryd.ntmps47
  by_cases h0 : c.2 = []
  · have h1 : ((tb c.2).toList == []) = true := by rw [hne]; simp [h0]
    have H0 := Lib.hid h0
    clear hne h0
    generalize tb c.2 = tx at hx h1
    go_wp2_with (go_at_call 56; refine hx.mono ?_; rintro e w1 ⟨v, rfl, hown, hpl, hb1⟩)
    go_ret2
    have e : linesL s.data.toList = some c.1 := by unfold linesL; rw [HC.out, if_pos H0.out]
    have eo := HO.out.symm.trans e
    have e1 : ws = c.1 := by rw [← HW.out, eo]; rfl
    have e2 : b = true := by rw [← HB.out, eo]; rfl
    rw [e1, e2]
    exact ⟨_, rfl, hown, hpl, hb1⟩
  · have h1 : ((tb c.2).toList == []) = false := by rw [hne]; simp [h0]
    have H0 := Lib.hid h0
    clear hne h0
    generalize tb c.2 = tx at hx h1
    go_wp2_with (go_at_call 56; refine hx.mono ?_; rintro e w1 ⟨v, rfl, hown, hpl, hb1⟩)
    go_ret2
    have e : linesL s.data.toList = none := by unfold linesL; rw [HC.out, if_neg H0.out]
    have eo := HO.out.symm.trans e
    have e1 : ws = [] := by rw [← HW.out, eo]; rfl
    have e2 : b = false := by rw [← HB.out, eo]; rfl
    rw [e1, e2]
    exact ⟨_, rfl, OwnS.nil _ _ _, Nat.zero_le _, hb1⟩
end Go.Proofs.YtfdekfobcohcjaaDoor.Pl
