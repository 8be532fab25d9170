/- Several texts in one: Eb Ef -/
import Derived.Test.YtikkfapgmbamlaaGreatDoorZ01
import Derived.Laws.RangeAny
import Derived.BigQuiet
section
/- plan: cut, Split, Lines, Number. -/
namespace Go.Proofs.YtikkfapgmbamlaaGreatDoor.Pl
open Go.RowKit Ut
set_option linter.unusedVariables false

theorem info_str : (Tryz.prog.info? 9).map (fun i => (i.zero, i.size, i.bytes)) = some (some (.string ⟨#[]⟩), 1, 16) := by kernel_rfl

theorem take_more (s : ByteArray) (pos k : Nat) (h : pos ≤ k) : s.data.toList.take k = s.data.toList.take pos ++ ((s.data.toList.take k).drop pos) := by
  conv => lhs; rw [← List.take_append_drop pos (s.data.toList.take k)]
  rw [List.take_take, Nat.min_eq_left h]
/-- a rune of several bytes holds no ASCII byte -/
theorem span_no (s : ByteArray) (pos k : Nat) (c : UInt8) (hc : c.toNat < 128) (hks : k ≤ s.size) (h : ∀ j, pos ≤ j → j < k → 128 ≤ (s.get! j).toNat) : c ∉ (s.data.toList.take k).drop pos := by
  intro hm
  obtain ⟨j, hj, e⟩ := List.getElem_of_mem hm
  simp at hj
  have := h (pos + j) (by omega) (by omega)
  simp at e
  have e2 : s.get! (pos + j) = c := by
    rw [← e]
    show s.get! (pos + j) = s.data[pos + j]'_
    have hl : pos + j < s.size := by omega
    have := get_at s (pos + j) hl
    simp only [Nat.add_zero] at this
    rw [this]; rfl
  rw [e2] at this; omega

/-- where a piece begins, at place pos -/
structure CutAt (c : UInt8) (s : ByteArray) (pos fr : Nat) (ps : List (List UInt8)) : Prop where
  le : fr ≤ pos
  pl : ps.length ≤ pos
  cut : cutL c (s.data.toList.take pos) = (ps, (s.data.toList.take pos).drop fr)
theorem CutAt.start (c : UInt8) (s : ByteArray) : CutAt c s 0 0 [] := ⟨Nat.le_refl _, Nat.le_refl _, by simp [cutL]⟩
theorem CutAt.skip {c : UInt8} {s : ByteArray} {pos fr k : Nat} {ps : List (List UInt8)} (h : CutAt c s pos fr ps) (hk : pos ≤ k) (hks : k ≤ s.size) (hno : c ∉ (s.data.toList.take k).drop pos) : CutAt c s k fr ps := by
  refine ⟨by have := h.le; omega, by have := h.pl; omega, ?_⟩
  rw [take_more s pos k hk, cutL_plain c _ _ hno, h.cut]
  have hl : fr ≤ (s.data.toList.take pos).length := by
    have := h.le; simp; omega
  rw [List.drop_append_of_le_length hl]
theorem CutAt.hit {c : UInt8} {s : ByteArray} {pos fr : Nat} {ps : List (List UInt8)} (h : CutAt c s pos fr ps) (hp : pos < s.size) (he : s[pos] = c) : CutAt c s (pos + 1) (pos + 1) (ps ++ [(s.data.toList.take pos).drop fr]) := by
  refine ⟨Nat.le_refl _, by have := h.pl; simp; omega, ?_⟩
  have e : s.data.toList.take (pos + 1) = s.data.toList.take pos ++ [c] := by
    rw [List.take_add_one, List.getElem?_eq_getElem (by simpa using hp)]
    rw [← he]; rfl
  rw [e, cutL_end, h.cut]
  have hl : (s.data.toList.take pos ++ [c]).length = pos + 1 := by simp; omega
  have hd : List.drop (pos + 1) (s.data.toList.take pos ++ [c]) = [] := List.drop_of_length_le (by rw [hl]; exact Nat.le_refl _)
  rw [hd]
theorem CutAt.done {c : UInt8} {s : ByteArray} {pos fr : Nat} {ps : List (List UInt8)} (h : CutAt c s pos fr ps) (hp : pos = s.size) : cutL c s.data.toList = (ps, s.data.toList.drop fr) := by
  have := h.cut
  rwa [List.take_of_length_le (by simp [hp])] at this

set_option maxRecDepth 100000 in
theorem cut_any (s : ByteArray) (c : UInt8) (hc : c.toNat < 128) (hs : s.size ≤ 1099511627776) (B : Nat) (w : World) (hB : B ≤ w.heap.size) :
    Calls Tryz.prog 54 #[.string s, .int .i32 c.toNat] w fun e w' => ∃ v, e = .returned (.tuple #[v, .string (tb (cutL c s.data.toList).2)]) ∧ OwnS w' B 9 v (cutL c s.data.toList).1.length (cutL c s.data.toList).1 ∧ (cutL c s.data.toList).1.length ≤ s.size ∧ Below B w w' := by
  obtain ⟨i0, hi, hz0, hz1, hz2⟩ := info_parts info_str
  go_enter Tryz.func54, Tryz.ntmps54
  go_wp2
  go_loopw [6, 7] (fun v f wr => ∃ (pos fr : Nat) (ps : List (List UInt8)), f = .int .i64 fr ∧ CutAt c s pos fr ps ∧ pos ≤ s.size ∧ OwnS wr B 9 v ps.length ps ∧ wr.heap[w.heap.size]? = some (.stringIter s pos) ∧ Below B w wr) (fun _ _ wr => s.size - wr.iterPos w.heap.size)
  case atStart => exact ⟨0, 0, [], rfl, CutAt.start c s, Nat.zero_le _, OwnS.nil _ _ _, World.iter_heap w s 0, (Below.refl _ w).alloc hB _⟩
  case round =>
    obtain ⟨pos, fr, ps, rfl, hcut, hps, hown, hit, hbel⟩ := hrel
    have hsz : w.heap.size < wr.heap.size := (Array.getElem?_eq_some_iff.1 hit).1
    have hle := hcut.le
    by_cases hp : pos < s.size
    · have hnx : ∀ ty, (Instr.next (.pointer (some ⟨w.heap.size, 0, none⟩)) true ty).run Tryz.prog wr = _ := fun ty => Lib.run_next_any_at wr w.heap.size s pos ty hit hp
      obtain ⟨hd1, hd2, hd3⟩ := dec_span s pos hp
      have hd4 := decode_le s pos
      have hown2 : OwnS (wr.iterAt w.heap.size s (pos + (Utf8.decode s pos).2)) B 9 _ ps.length ps := ownsRow_iterAt hown hit _
      have hit2 := Lib.iterAt_heap wr w.heap.size s pos (pos + (Utf8.decode s pos).2) hit
      have hb2 := Lib.below_iterAt hbel (k := w.heap.size) hB s (pos + (Utf8.decode s pos).2)
      have hsz2 : w.heap.size < (wr.iterAt w.heap.size s (pos + (Utf8.decode s pos).2)).heap.size := by rw [Lib.iterAt_size]; exact hsz
      have HM : Hid (wr.iterPos w.heap.size = pos) := Lib.hid (by simp [World.iterPos, hit])
      by_cases he : (Utf8.decode s pos).1 = c.toNat
      · have hlow : (s[pos]'hp).toNat < 128 ∧ (Utf8.decode s pos).1 = (s[pos]'hp).toNat ∧ (Utf8.decode s pos).2 = 1 := by
          rcases hd3 with h | ⟨h, _⟩
          · exact h
          · omega
        have hcut2 := Lib.hid (hcut.hit hp (UInt8.toNat_inj.1 (by omega)))
        have hw1 := Lib.hid hlow.2.2
        have hpsl := hcut.pl
        clear hcut hlow hd3 hown hit hbel
        generalize hWW : wr.iterAt w.heap.size s (pos + (Utf8.decode s pos).2) = WW at hnx hown2 hit2 hb2 hsz2
        clear hWW
        go_wp2_with (at_builtin; refine wpList_append_own _ rfl _ _ 84 rfl B 9 i0 (.string ⟨#[]⟩) 1 16 Tryz.underlying84 hi hz0 hz1 hz2 rfl (by decide) _ _ _ rfl (World.ownsRow.alloc hown2 _) ⟨WW.heap.size, 0, none⟩ 1 1 [.string (s.extract fr pos)] rfl rfl ?c1 ?c2 ?c3 ?c4 ?c5 ?_)
        case c1 => exact cell_one_new _ _ _
        case c2 => intro u hu; simp at hu; subst hu; rfl
        case c3 => unfold maxLen; omega
        case c4 => omega
        case c5 => simp; omega
        · intro v' w1 hown' hgrow _
          have hb1 : Below B w w1 := (hb2.alloc (by omega) _).grown hgrow (by simp; omega) (fun q hq => (World.ownsRow.lt hown2 q hq).1)
          have hit3 : w1.heap[w.heap.size]? = some (.stringIter s (pos + (Utf8.decode s pos).2)) := (hgrow.block _ (by simp; omega) (own_ne_iter hown2 hit2).symm).trans ((Below.heap_alloc _ _ _ hsz2).trans hit2)
          have ho1 : OwnS w1 B 9 v' (ps ++ [(s.data.toList.take pos).drop fr]).length (ps ++ [(s.data.toList.take pos).drop fr]) := by
            unfold OwnS
            rw [List.map_append, List.length_append]
            simpa [encS, tb_part] using hown'
          clear hown' hgrow hown2 hit2 hb2
          go_wp2
          go_roundw
          case rel => exact ⟨pos + 1, pos + 1, _, by go_num, hcut2.out, by omega, ho1, by rw [hit3, hw1.out], hb1⟩
          case measure => rw [HM.out]; simp only [World.iterPos, hit3, hw1.out]; omega
      · have hcut2 := Lib.hid (hcut.skip (k := pos + (Utf8.decode s pos).2) (by omega) hd2 (by
          rcases hd3 with ⟨h1, h2, h3⟩ | ⟨_, h⟩
          · rw [h3]
            intro hm
            have e : (s.data.toList.take (pos + 1)).drop pos = [s[pos]'hp] := by
              rw [List.take_add_one, List.getElem?_eq_getElem (by simpa using hp), List.drop_append_of_le_length (by simp; omega), List.drop_of_length_le (by simp; omega)]
              rfl
            rw [e] at hm
            simp at hm
            exact he (by rw [h2, hm])
          · exact span_no s pos _ c hc hd2 h))
        clear hcut hd3 hown hbel hit
        generalize hWW : wr.iterAt w.heap.size s (pos + (Utf8.decode s pos).2) = WW at hnx hown2 hit2 hb2 hsz2
        clear hWW
        go_wp2
        go_roundw
        case rel => exact ⟨_, fr, ps, rfl, hcut2.out, hd2, hown2, hit2, hb2⟩
        case measure => rw [HM.out]; simp only [World.iterPos, hit2]; omega
    · have hnx : ∀ ty, (Instr.next (.pointer (some ⟨w.heap.size, 0, none⟩)) true ty).run Tryz.prog wr = _ := fun ty => Lib.run_next_end_at wr w.heap.size s pos ty hit hp
      have HD := Lib.hid (hcut.done (by omega))
      have hpl := hcut.pl
      clear hcut hit
      go_wp2
      go_quiet (fail)
      go_wp2
      go_ret2
      refine ⟨u6, ?_, ?_, ?_, ?_⟩
      · rw [HD.out]
        show Ending.returned (Value.tuple #[u6, .string (s.extract fr s.size)]) = _
        rw [tb_part, List.take_of_length_le (by simp)]
      · rw [HD.out]; exact hown
      · rw [HD.out]; show ps.length ≤ s.size; omega
      · exact hbel.trans ⟨rfl, rfl, rfl, Nat.le_refl _, fun _ _ => rfl⟩


/-- the first place of the empty text, -1 if it is nowhere -/
def idxE : List (List UInt8) → Nat → Int
  | [], _ => -1
  | x :: r, i => if x = [] then i else idxE r (i + 1)
theorem idxE_neg : ∀ (ts : List (List UInt8)) (i : Nat), (0 ≤ idxE ts i) ↔ [] ∈ ts
  | [], i => by simp [idxE]
  | x :: r, i => by
    unfold idxE
    split
    · rename_i h; simp [h]
    · rename_i h
      rw [idxE_neg r (i + 1)]
      simp [Ne.symm h]
theorem idxE_drop {ts : List (List UInt8)} {k : Nat} (hk : k < ts.length) (i : Nat) : idxE (ts.drop k) i = if ts.getD k [] = [] then (i : Int) else idxE (ts.drop (k + 1)) (i + 1) := by
  rw [List.drop_eq_getElem_cons hk, idxE]
  simp [List.getD, hk]
theorem tb_empty (l : List UInt8) : ((tb l).toList == []) = decide (l = []) := by
  rw [ByteArray.toList_eq]
  cases l <;> simp [tb]

set_option maxRecDepth 100000 in
theorem index_empty (a : Option Addr) (n cap : Nat) (ts : List (List UInt8)) (B : Nat) (w : World) (h : RowS w B a n ts) (hn : n ≤ maxLen) :
    Calls Tryz.prog 96 #[.slice a n cap, .string ⟨#[]⟩] w fun e w' => e = .returned (.int .i64 (idxE ts 0)) ∧ w = w' := by
  unfold maxLen at hn
  go_enter Tryz.func96, Tryz.ntmps96
  go_wp2
  go_loop [8] (fun i => ∃ k : Nat, k ≤ n ∧ i = .int .i64 k ∧ idxE ts 0 = idxE (ts.drop k) k) (fun i => n - (intOf i).toNat)
  case atStart => exact ⟨0, Nat.zero_le _, rfl, rfl⟩
  case round =>
    obtain ⟨k, hk, rfl, hi⟩ := hrel
    have HI := Lib.hid hi
    clear hi
    by_cases hlt : k < n
    · obtain ⟨x, rfl, hxb, hc⟩ := h.at k hlt
      have HD := Lib.hid (idxE_drop (ts := ts) (k := k) (by rw [h.1]; exact hlt) k)
      cases he : decide (ts.getD k [] = [])
      · have hne : (([] : List UInt8) == (tb (ts.getD k [])).toList) = false := by
          rw [ByteArray.toList_eq]
          cases hq : ts.getD k [] with
          | nil => rw [hq] at he; simp at he
          | cons b r => rfl
        have HE : Hid (¬ ts.getD k [] = []) := Lib.hid (by simpa using he)
        clear he
        generalize tb (ts.getD k []) = tx at hc hne
        go_wp2
        go_round
        case rel => exact ⟨k + 1, by omega, by go_num, by rw [HI.out, HD.out, if_neg HE.out]⟩
        case measure => simp [intOf]; omega
      · have hne : (([] : List UInt8) == (tb (ts.getD k [])).toList) = true := by
          rw [ByteArray.toList_eq]
          have : ts.getD k [] = [] := by simpa using he
          rw [this]; rfl
        have HE : Hid (ts.getD k [] = []) := Lib.hid (by simpa using he)
        clear he
        generalize tb (ts.getD k []) = tx at hc hne
        go_wp2
        go_ret
        refine ⟨?_, rfl⟩
        rw [HI.out, HD.out, if_pos HE.out]
        rfl
    · obtain rfl : k = n := by omega
      go_wp2
      go_ret
      refine ⟨?_, rfl⟩
      rw [HI.out, List.drop_of_length_le (by rw [h.1]; exact Nat.le_refl _)]
      rfl
theorem contains_empty (a : Option Addr) (n cap : Nat) (ts : List (List UInt8)) (B : Nat) (w : World) (h : RowS w B a n ts) (hn : n ≤ maxLen) (r : Bool) (hr : decide (0 ≤ idxE ts 0) = r) :
    Calls Tryz.prog 85 #[.slice a n cap, .string ⟨#[]⟩] w fun e w' => e = .returned (.bool r) ∧ w = w' := by
  have HR := Lib.hid hr
  generalize hz : idxE ts 0 = z at hr HR
  have hx : Calls Tryz.prog 96 #[.slice a n cap, .string ⟨#[]⟩] w fun e w' => e = .returned (.int .i64 z) ∧ w = w' := hz ▸ index_empty a n cap ts B w h hn
  clear hr hz
  go_enter Tryz.func85, Tryz.ntmps85
  go_wp2_with (go_at_call 96; refine hx.mono ?_; rintro e w' ⟨rfl, rfl⟩)
  go_ret
  refine ⟨?_, rfl⟩
  rw [← HR.out]
  rfl

set_option maxRecDepth 100000 in
theorem split_any (s : ByteArray) (hs : s.size ≤ 1099511627776) (B : Nat) (w : World) (hB : B ≤ w.heap.size) :
    Calls Tryz.prog 73 #[.string s] w fun e w' => ∃ v, e = .returned (.tuple #[v, .bool (wordsL s.data.toList).isSome]) ∧ OwnS w' B 9 v ((wordsL s.data.toList).getD []).length ((wordsL s.data.toList).getD []) ∧ ((wordsL s.data.toList).getD []).length ≤ s.size + 1 ∧ Below B w w' := by
  obtain ⟨i0, hi, hz0, hz1, hz2⟩ := info_parts info_str
  have hx := cut_any s 32 (by decide) hs B w hB
  obtain ⟨o, ho⟩ : ∃ o, wordsL s.data.toList = o := ⟨_, rfl⟩
  rw [ho]
  have HO := Lib.hid ho
  clear ho
  obtain ⟨ws, hws⟩ : ∃ ws, o.getD [] = ws := ⟨_, rfl⟩
  obtain ⟨b, hb⟩ : ∃ b, o.isSome = b := ⟨_, rfl⟩
  rw [hws, hb]
  have HW := Lib.hid hws
  have HB := Lib.hid hb
  clear hws hb
  obtain ⟨c, hc⟩ : ∃ c, cutL 32 s.data.toList = c := ⟨_, rfl⟩
  rw [hc] at hx
  have HC := Lib.hid hc
  clear hc
  go_enter Tryz.func73, Tryz.ntmps73
  go_wp2_with (first | (go_at_call 54; refine hx.mono ?_; rintro e w1 ⟨v, rfl, hown, hpl, hb1⟩; clear hx) | (at_builtin; refine wpList_append_own _ rfl _ _ 84 rfl B 9 i0 (.string ⟨#[]⟩) 1 16 Tryz.underlying84 hi hz0 hz1 hz2 rfl (by decide) _ _ _ rfl (World.ownsRow.alloc hown _) ⟨w1.heap.size, 0, none⟩ 1 1 [.string (tb c.2)] rfl rfl ?c1 ?c2 ?c3 ?c4 ?c5 ?_))
  case c1 => exact cell_one_new _ _ _
  case c2 => intro u hu; simp at hu; subst hu; rfl
  case c3 => unfold maxLen; omega
  case c4 => omega
  case c5 => have := hb1.size; simp; omega
  · intro v' w2 hown' hgrow _
    have hb2 : Below B w w2 := (hb1.alloc (by have := hb1.size; omega) _).grown hgrow (by have := hb1.size; simp; omega) (fun q hq => (World.ownsRow.lt hown q hq).1)
    have ho1 : OwnS w2 B 9 v' (c.1 ++ [c.2]).length (c.1 ++ [c.2]) := by
      unfold OwnS
      rw [List.map_append, List.length_append]
      simpa [encS] using hown'
    clear hown' hgrow hown hb1
    obtain ⟨ts, hts⟩ : ∃ ts, c.1 ++ [c.2] = ts := ⟨_, rfl⟩
    have hlen : ts.length = c.1.length + 1 := by rw [← hts]; simp
    rw [hts] at ho1
    obtain ⟨m, hm⟩ : ∃ m, ts.length = m := ⟨_, rfl⟩
    rw [hm] at hlen ho1
    have hml : m ≤ s.size + 1 := by omega
    clear hlen
    obtain ⟨a, cap, rfl, hcap, hcm, hrow⟩ := ho1.row
    have HT := Lib.hid hts
    have HM := Lib.hid hm
    clear hts hm
    cases hr : decide (0 ≤ idxE ts 0)
    · have hx := contains_empty a m cap ts _ w2 hrow (Nat.le_trans hcap hcm) false hr
      have HR := Lib.hid hr
      clear hr hrow
      go_wp2_with (go_at_call 85; refine hx.mono ?_; rintro e w3 ⟨rfl, rfl⟩)
      go_ret2
      have hn : [] ∉ ts := fun h => by have := HR.out; simp [(idxE_neg ts 0).2 h] at this
      have e : wordsL s.data.toList = some ts := by unfold wordsL; rw [HC.out, HT.out, if_neg hn]
      have eo := HO.out.symm.trans e
      have e1 : ws = ts := by rw [← HW.out, eo]; rfl
      have e2 : b = true := by rw [← HB.out, eo]; rfl
      rw [e1, e2, HM.out]
      exact ⟨_, rfl, ho1, by omega, hb2⟩
    · have hx := contains_empty a m cap ts _ w2 hrow (Nat.le_trans hcap hcm) true hr
      have HR := Lib.hid hr
      clear hr hrow
      go_wp2_with (go_at_call 85; refine hx.mono ?_; rintro e w3 ⟨rfl, rfl⟩)
      go_ret2
      have hn : [] ∈ ts := (idxE_neg ts 0).1 (by simpa using HR.out)
      have e : wordsL s.data.toList = none := by unfold wordsL; rw [HC.out, HT.out, if_pos hn]
      have eo := HO.out.symm.trans e
      have e1 : ws = [] := by rw [← HW.out, eo]; rfl
      have e2 : b = false := by rw [← HB.out, eo]; rfl
      rw [e1, e2]
      exact ⟨_, rfl, OwnS.nil _ _ _, Nat.zero_le _, hb2⟩
/-- the whole lines, if nothing stands behind them -/
def linesL (l : List UInt8) : Option (List (List UInt8)) := if (cutL 10 l).2 = [] then some (cutL 10 l).1 else none
end Go.Proofs.YtikkfapgmbamlaaGreatDoor.Pl
end
section
/- plan: Number. -/
namespace Go.Proofs.YtikkfapgmbamlaaGreatDoor.Pl
open Go.RowKit Ut
set_option linter.unusedVariables false

theorem valD_lt : ∀ (l : List UInt8), l.all isDig = true → valD l < 10 ^ l.length := by
  refine snoc_ind (fun _ => by simp [valD]) (fun l b ih hd => ?_)
  rw [valD_snoc, List.length_append]
  have hb : 48 ≤ b.toNat ∧ b.toNat ≤ 57 := by
    rw [← isDig_iff]; exact List.all_eq_true.1 hd b (by simp)
  have := ih (by rw [List.all_eq_true] at hd ⊢; exact fun x hx => hd x (by simp [hx]))
  simp only [List.length_cons, List.length_nil, Nat.zero_add, Nat.pow_succ]
  omega
theorem pow9 (k : Nat) (h : k ≤ 9) : 10 ^ k ≤ 1000000000 := by
  have : 10 ^ k ≤ 10 ^ 9 := Nat.pow_le_pow_right (by decide) h
  omega
theorem take_snoc (s : ByteArray) (k : Nat) (h : k < s.size) : s.data.toList.take (k + 1) = s.data.toList.take k ++ [s[k]'h] := by
  rw [List.take_add_one, List.getElem?_eq_getElem (by simpa using h)]
  rfl
theorem head_eq (s : ByteArray) (h : 0 < s.size) : s.data.toList.getD 0 0 = s[0]'h := by
  have h2 : 0 < s.data.toList.length := by simpa using h
  simp only [List.getD, List.getElem?_eq_getElem h2, Option.getD_some]
  rfl
theorem not_dig {s : ByteArray} {k : Nat} (hk : k < s.size) (h : isDig (s[k]'hk) = false) : s.data.toList.all isDig = false := by
  rw [List.all_eq_false]
  exact ⟨s[k]'hk, by show s[k]'hk ∈ s.data.toList; exact Array.mem_toList_iff.2 (Array.getElem_mem hk), by simp [h]⟩

/-- what Number answers -/
def numV (l : List UInt8) : Value := .tuple #[.int .i64 (((numL l).getD 0 : Nat) : Int), .bool (numL l).isSome]
theorem numV_none {l : List UInt8} (h : numL l = none) : numV l = .tuple #[.int .i64 0, .bool false] := by unfold numV; rw [h]; rfl
theorem numV_some {l : List UInt8} {n : Nat} (h : numL l = some n) : numV l = .tuple #[.int .i64 n, .bool true] := by unfold numV; rw [h]; rfl

theorem eq48 {b : UInt8} : ((b.toNat : Nat) : Int) = 48 ↔ b = 48 := by
  constructor
  · intro h
    exact UInt8.toNat_inj.1 (by simp; omega)
  · rintro rfl; rfl
set_option maxHeartbeats 1000000 in
set_option maxRecDepth 100000 in
theorem number_any (s : ByteArray) (B : Nat) (w : World) (hB : B ≤ w.heap.size) :
    Calls Tryz.prog 87 #[.string s] w fun e w' => e = .returned (numV s.data.toList) ∧ Below B w w' := by
  by_cases h0 : s.size = 0
  · have hl : s.data.toList = [] := List.length_eq_zero_iff.1 (by simpa using h0)
    have HV := Lib.hid (numV_none (l := s.data.toList) (by rw [hl]; rfl))
    have ht : (s.toList == []) = true := by rw [ByteArray.toList_eq, hl]; rfl
    clear hl
    go_enter Tryz.func87, Tryz.ntmps87
    go_wp2
    go_ret2
    exact ⟨HV.out.symm ▸ rfl, Below.refl _ _⟩
  · have ht : (s.toList == []) = false := by
      rw [ByteArray.toList_eq]
      cases h : s.data.toList with
      | nil => exact absurd (by have := congrArg List.length h; simpa using this) h0
      | cons b r => rfl
    have hpos : 0 < s.size := by omega
    have HL := Lib.hid (show s.data.toList ≠ [] from fun h => h0 (by have := congrArg List.length h; simpa using this))
    by_cases h9 : 9 < s.size
    · have HV := Lib.hid (numV_none (l := s.data.toList) (by unfold numL; rw [if_pos (.inr (.inl (by simpa using h9)))]))
      go_enter Tryz.func87, Tryz.ntmps87
      go_wp2
      go_ret2
      exact ⟨HV.out.symm ▸ rfl, Below.refl _ _⟩
    · have H0 := Lib.hid (head_eq s hpos)
      by_cases hz : (((s[0]'hpos).toNat : Nat) : Int) = 48
      · by_cases h1 : 1 < s.size
        · have HV := Lib.hid (numV_none (l := s.data.toList) (by
            unfold numL
            rw [if_pos (.inr (.inr (.inl ⟨H0.out.trans (eq48.1 hz), by simpa using h1⟩)))]))
          go_enter Tryz.func87, Tryz.ntmps87
          go_wp2
          go_ret2
          exact ⟨HV.out.symm ▸ rfl, Below.refl _ _⟩
        · have hguard : ¬ (s[0]'hpos = 48 ∧ 1 < s.size) := fun h => h1 h.2
          go_enter Tryz.func87, Tryz.ntmps87
          go_wp2
          go_loopw [4] (fun n wr => ∃ k : Nat, k ≤ s.size ∧ n = .int .i64 (valD (s.data.toList.take k)) ∧ (s.data.toList.take k).all isDig = true ∧ wr.heap[w.heap.size]? = some (.stringIter s k) ∧ Below B w wr) (fun _ wr => s.size - wr.iterPos w.heap.size)
          case atStart => exact ⟨0, Nat.zero_le _, rfl, rfl, World.iter_heap w s 0, (Below.refl _ w).alloc hB _⟩
          case round =>
            obtain ⟨k, hk, rfl, hall, hit, hbel⟩ := hrel
            have hsz : w.heap.size < wr.heap.size := (Array.getElem?_eq_some_iff.1 hit).1
            have HM : Hid (wr.iterPos w.heap.size = k) := Lib.hid (by simp [World.iterPos, hit])
            have HG := Lib.hid hguard
            clear hguard
            by_cases hp : k < s.size
            · have hnx : ∀ ty, (Instr.next (.pointer (some ⟨w.heap.size, 0, none⟩)) true ty).run Tryz.prog wr = _ := fun ty => Lib.run_next_any_at wr w.heap.size s k ty hit hp
              obtain ⟨hd1, hd2, hd3⟩ := dec_span s k hp
              have hd4 := decode_le s k
              have hit2 := Lib.iterAt_heap wr w.heap.size s k (k + (Utf8.decode s k).2) hit
              have hb2 := Lib.below_iterAt hbel (k := w.heap.size) hB s (k + (Utf8.decode s k).2)
              generalize hWW : wr.iterAt w.heap.size s (k + (Utf8.decode s k).2) = WW at hnx hit2 hb2
              have hvl := valD_lt _ hall
              have hvp := pow9 k (by omega)
              have hln : (s.data.toList.take k).length = k := by simp; omega
              rw [hln] at hvl
              have hvb : valD (s.data.toList.take k) < 1000000000 := Nat.lt_of_lt_of_le hvl hvp
              clear hvl hvp hln
              by_cases hlo : (Utf8.decode s k).1 < 48
              · have HN := Lib.hid (numV_none (l := s.data.toList) (by
                  have hdg : isDig (s[k]'hp) = false := by
                    rcases hd3 with ⟨_, e, _⟩ | ⟨h, _⟩
                    · simp [isDig]; omega
                    · omega
                  unfold numL; rw [if_pos (.inr (.inr (.inr (not_dig hp hdg))))]))
                clear hd3 hWW hall hit hbel
                go_wp2
                go_ret2
                exact ⟨HN.out.symm ▸ rfl, hb2⟩
              · by_cases hhi : 57 < (Utf8.decode s k).1
                · have HN := Lib.hid (numV_none (l := s.data.toList) (by
                    have hdg : isDig (s[k]'hp) = false := by
                      rcases hd3 with ⟨_, e, _⟩ | ⟨h, h2⟩
                      · simp [isDig]; omega
                      · have h3 := h2 k (Nat.le_refl _) (by omega)
                        have e := get_at s k hp
                        simp only [Nat.add_zero] at e
                        rw [e] at h3
                        simp [isDig]; omega
                    unfold numL; rw [if_pos (.inr (.inr (.inr (not_dig hp hdg))))]))
                  clear hd3 hWW hall hit hbel
                  go_wp2
                  go_ret2
                  exact ⟨HN.out.symm ▸ rfl, hb2⟩
                · have hone : (Utf8.decode s k).1 = (s[k]'hp).toNat ∧ (Utf8.decode s k).2 = 1 := by
                    rcases hd3 with ⟨_, e1, e2⟩ | ⟨h, _⟩
                    · exact ⟨e1, e2⟩
                    · omega
                  have H1 := Lib.hid hone
                  have HA := Lib.hid hall
                  clear hd3 hWW hall hit hbel hone
                  go_wp2
                  go_roundw
                  case rel =>
                    refine ⟨k + 1, by omega, ?_, ?_, ?_, hb2⟩
                    · rw [take_snoc s k hp, valD_snoc]
                      have := H1.out.1
                      go_num
                    · rw [take_snoc s k hp, List.all_append, HA.out]
                      have := H1.out.1
                      simp [isDig]; omega
                    · rw [hit2, H1.out.2]
                  case measure => rw [HM.out]; simp only [World.iterPos, hit2, H1.out.2]; omega
            · obtain rfl : k = s.size := by omega
              have hnx : ∀ ty, (Instr.next (.pointer (some ⟨w.heap.size, 0, none⟩)) true ty).run Tryz.prog wr = _ := fun ty => Lib.run_next_end_at wr w.heap.size s _ ty hit hp
              rw [List.take_of_length_le (by simp)] at hall ⊢
              have HN := Lib.hid (numV_some (l := s.data.toList) (n := valD s.data.toList) (by
                unfold numL
                rw [if_neg]
                rintro (h | h | h | h)
                · exact HL.out h
                · exact h9 (by simpa using h)
                · exact HG.out ⟨H0.out.symm.trans h.1, by simpa using h.2⟩
                · rw [hall] at h; cases h))
              clear hall hit
              go_wp2
              go_ret2
              exact ⟨HN.out.symm ▸ rfl, hbel⟩
      · have hguard : ¬ (s[0]'hpos = 48 ∧ 1 < s.size) := fun h => hz (eq48.2 h.1)
        go_enter Tryz.func87, Tryz.ntmps87
        go_wp2
        go_loopw [4] (fun n wr => ∃ k : Nat, k ≤ s.size ∧ n = .int .i64 (valD (s.data.toList.take k)) ∧ (s.data.toList.take k).all isDig = true ∧ wr.heap[w.heap.size]? = some (.stringIter s k) ∧ Below B w wr) (fun _ wr => s.size - wr.iterPos w.heap.size)
        case atStart => exact ⟨0, Nat.zero_le _, rfl, rfl, World.iter_heap w s 0, (Below.refl _ w).alloc hB _⟩
        case round =>
          obtain ⟨k, hk, rfl, hall, hit, hbel⟩ := hrel
          have hsz : w.heap.size < wr.heap.size := (Array.getElem?_eq_some_iff.1 hit).1
          have HM : Hid (wr.iterPos w.heap.size = k) := Lib.hid (by simp [World.iterPos, hit])
          have HG := Lib.hid hguard
          clear hguard
          by_cases hp : k < s.size
          · have hnx : ∀ ty, (Instr.next (.pointer (some ⟨w.heap.size, 0, none⟩)) true ty).run Tryz.prog wr = _ := fun ty => Lib.run_next_any_at wr w.heap.size s k ty hit hp
            obtain ⟨hd1, hd2, hd3⟩ := dec_span s k hp
            have hd4 := decode_le s k
            have hit2 := Lib.iterAt_heap wr w.heap.size s k (k + (Utf8.decode s k).2) hit
            have hb2 := Lib.below_iterAt hbel (k := w.heap.size) hB s (k + (Utf8.decode s k).2)
            generalize hWW : wr.iterAt w.heap.size s (k + (Utf8.decode s k).2) = WW at hnx hit2 hb2
            have hvl := valD_lt _ hall
            have hvp := pow9 k (by omega)
            have hln : (s.data.toList.take k).length = k := by simp; omega
            rw [hln] at hvl
            have hvb : valD (s.data.toList.take k) < 1000000000 := Nat.lt_of_lt_of_le hvl hvp
            clear hvl hvp hln
            by_cases hlo : (Utf8.decode s k).1 < 48
            · have HN := Lib.hid (numV_none (l := s.data.toList) (by
                have hdg : isDig (s[k]'hp) = false := by
                  rcases hd3 with ⟨_, e, _⟩ | ⟨h, _⟩
                  · simp [isDig]; omega
                  · omega
                unfold numL; rw [if_pos (.inr (.inr (.inr (not_dig hp hdg))))]))
              clear hd3 hWW hall hit hbel
              go_wp2
              go_ret2
              exact ⟨HN.out.symm ▸ rfl, hb2⟩
            · by_cases hhi : 57 < (Utf8.decode s k).1
              · have HN := Lib.hid (numV_none (l := s.data.toList) (by
                  have hdg : isDig (s[k]'hp) = false := by
                    rcases hd3 with ⟨_, e, _⟩ | ⟨h, h2⟩
                    · simp [isDig]; omega
                    · have h3 := h2 k (Nat.le_refl _) (by omega)
                      have e := get_at s k hp
                      simp only [Nat.add_zero] at e
                      rw [e] at h3
                      simp [isDig]; omega
                  unfold numL; rw [if_pos (.inr (.inr (.inr (not_dig hp hdg))))]))
                clear hd3 hWW hall hit hbel
                go_wp2
                go_ret2
                exact ⟨HN.out.symm ▸ rfl, hb2⟩
              · have hone : (Utf8.decode s k).1 = (s[k]'hp).toNat ∧ (Utf8.decode s k).2 = 1 := by
                  rcases hd3 with ⟨_, e1, e2⟩ | ⟨h, _⟩
                  · exact ⟨e1, e2⟩
                  · omega
                have H1 := Lib.hid hone
                have HA := Lib.hid hall
                clear hd3 hWW hall hit hbel hone
                go_wp2
                go_roundw
                case rel =>
                  refine ⟨k + 1, by omega, ?_, ?_, ?_, hb2⟩
                  · rw [take_snoc s k hp, valD_snoc]
                    have := H1.out.1
                    go_num
                  · rw [take_snoc s k hp, List.all_append, HA.out]
                    have := H1.out.1
                    simp [isDig]; omega
                  · rw [hit2, H1.out.2]
                case measure => rw [HM.out]; simp only [World.iterPos, hit2, H1.out.2]; omega
          · obtain rfl : k = s.size := by omega
            have hnx : ∀ ty, (Instr.next (.pointer (some ⟨w.heap.size, 0, none⟩)) true ty).run Tryz.prog wr = _ := fun ty => Lib.run_next_end_at wr w.heap.size s _ ty hit hp
            rw [List.take_of_length_le (by simp)] at hall ⊢
            have HN := Lib.hid (numV_some (l := s.data.toList) (n := valD s.data.toList) (by
              unfold numL
              rw [if_neg]
              rintro (h | h | h | h)
              · exact HL.out h
              · exact h9 (by simpa using h)
              · exact HG.out ⟨H0.out.symm.trans h.1, by simpa using h.2⟩
              · rw [hall] at h; cases h))
            clear hall hit
            go_wp2
            go_ret2
            exact ⟨HN.out.symm ▸ rfl, hbel⟩
end Go.Proofs.YtikkfapgmbamlaaGreatDoor.Pl
end
