/- Several texts in one: Ef Eg Eh -/
import Derived.Test.YtikkfapgmbamlaaDoorZ07
import Derived.Test.YtikkfapgmbamlaaDoorZ05
section
/- plan: Number. -/
namespace Go.Proofs.YtikkfapgmbamlaaDoor.Pl
open Go.RowKit Ut
set_option linter.unusedVariables false

theorem valD_lt : ∀ (l : List UInt8), l.all isDig = true → valD l < 10 ^ l.length := by
  refine snoc_ind (fun _ => by simp [valD]) (fun l b ih hd => ?_)
  rw [valD_snoc, List.length_append]
  have hb : 48 ≤ b.toNat ∧ b.toNat ≤ 57 := by
    rw [← isDig_iff]; exact List.all_eq_true.1 hd b (by simp)
  have := ih (by rw [List.all_eq_true] at hd ⊢; exact fun x hx => hd x (by simp [hx]))
  simp only [List.length_cons, List.length_nil, Nat.zero_add, Nat.pow_succ]
  omega
theorem pow9 (k : Nat) (h : k ≤ 9) : 10 ^ k ≤ 1000000000 := by
  have : 10 ^ k ≤ 10 ^ 9 := Nat.pow_le_pow_right (by decide) h
  omega
theorem take_snoc (s : ByteArray) (k : Nat) (h : k < s.size) : s.data.toList.take (k + 1) = s.data.toList.take k ++ [s[k]'h] := by
  rw [List.take_add_one, List.getElem?_eq_getElem (by simpa using h)]
  rfl
theorem head_eq (s : ByteArray) (h : 0 < s.size) : s.data.toList.getD 0 0 = s[0]'h := by
  have h2 : 0 < s.data.toList.length := by simpa using h
  simp only [List.getD, List.getElem?_eq_getElem h2, Option.getD_some]
  rfl
theorem not_dig {s : ByteArray} {k : Nat} (hk : k < s.size) (h : isDig (s[k]'hk) = false) : s.data.toList.all isDig = false := by
  rw [List.all_eq_false]
  exact ⟨s[k]'hk, by show s[k]'hk ∈ s.data.toList; exact Array.mem_toList_iff.2 (Array.getElem_mem hk), by simp [h]⟩

/-- what Number answers -/
def numV (l : List UInt8) : Value := .tuple #[.int .i64 (((numL l).getD 0 : Nat) : Int), .bool (numL l).isSome]
theorem numV_none {l : List UInt8} (h : numL l = none) : numV l = .tuple #[.int .i64 0, .bool false] := by unfold numV; rw [h]; rfl
theorem numV_some {l : List UInt8} {n : Nat} (h : numL l = some n) : numV l = .tuple #[.int .i64 n, .bool true] := by unfold numV; rw [h]; rfl

theorem eq48 {b : UInt8} : ((b.toNat : Nat) : Int) = 48 ↔ b = 48 := by
  constructor
  · intro h
    exact UInt8.toNat_inj.1 (by simp; omega)
  · rintro rfl; rfl
set_option maxHeartbeats 1000000 in
set_option maxRecDepth 100000 in
theorem number_any (s : ByteArray) (B : Nat) (w : World) (hB : B ≤ w.heap.size) :
    Calls Tryd.prog 10 #[.string s] w fun e w' => e = .returned (numV s.data.toList) ∧ Below B w w' := by
  by_cases h0 : s.size = 0
  · have hl : s.data.toList = [] := List.length_eq_zero_iff.1 (by simpa using h0)
    have HV := Lib.hid (numV_none (l := s.data.toList) (by rw [hl]; rfl))
    have ht : (s.toList == []) = true := by rw [ByteArray.toList_eq, hl]; rfl
    clear hl
    go_enter Tryd.func10, Tryd.ntmps10
    go_wp2
    go_ret2
    exact ⟨HV.out.symm ▸ rfl, Below.refl _ _⟩
  · have ht : (s.toList == []) = false := by
      rw [ByteArray.toList_eq]
      cases h : s.data.toList with
      | nil => exact absurd (by have := congrArg List.length h; simpa using this) h0
      | cons b r => rfl
    have hpos : 0 < s.size := by omega
    have HL := Lib.hid (show s.data.toList ≠ [] from fun h => h0 (by have := congrArg List.length h; simpa using this))
    by_cases h9 : 9 < s.size
    · have HV := Lib.hid (numV_none (l := s.data.toList) (by unfold numL; rw [if_pos (.inr (.inl (by simpa using h9)))]))
      go_enter Tryd.func10, Tryd.ntmps10
      go_wp2
      go_ret2
      exact ⟨HV.out.symm ▸ rfl, Below.refl _ _⟩
    · have H0 := Lib.hid (head_eq s hpos)
      by_cases hz : (((s[0]'hpos).toNat : Nat) : Int) = 48
      · by_cases h1 : 1 < s.size
        · have HV := Lib.hid (numV_none (l := s.data.toList) (by
            unfold numL
            rw [if_pos (.inr (.inr (.inl ⟨H0.out.trans (eq48.1 hz), by simpa using h1⟩)))]))
          go_enter Tryd.func10, Tryd.ntmps10
          go_wp2
          go_ret2
          exact ⟨HV.out.symm ▸ rfl, Below.refl _ _⟩
        · have hguard : ¬ (s[0]'hpos = 48 ∧ 1 < s.size) := fun h => h1 h.2
          go_enter Tryd.func10, Tryd.ntmps10
          go_wp2
          go_loopw [4] (fun n wr => ∃ k : Nat, k ≤ s.size ∧ n = .int .i64 (valD (s.data.toList.take k)) ∧ (s.data.toList.take k).all isDig = true ∧ wr.heap[w.heap.size]? = some (.stringIter s k) ∧ Below B w wr) (fun _ wr => s.size - wr.iterPos w.heap.size)
          case atStart => exact ⟨0, Nat.zero_le _, rfl, rfl, World.iter_heap w s 0, (Below.refl _ w).alloc hB _⟩
          case round =>
            obtain ⟨k, hk, rfl, hall, hit, hbel⟩ := hrel
            have hsz : w.heap.size < wr.heap.size := (Array.getElem?_eq_some_iff.1 hit).1
            have HM : Hid (wr.iterPos w.heap.size = k) := Lib.hid (by simp [World.iterPos, hit])
            have HG := Lib.hid hguard
            clear hguard
            by_cases hp : k < s.size
            · have hnx : ∀ ty, (Instr.next (.pointer (some ⟨w.heap.size, 0, none⟩)) true ty).run Tryd.prog wr = _ := fun ty => Lib.run_next_any_at wr w.heap.size s k ty hit hp
              obtain ⟨hd1, hd2, hd3⟩ := dec_span s k hp
              have hd4 := decode_le s k
              have hit2 := Lib.iterAt_heap wr w.heap.size s k (k + (Utf8.decode s k).2) hit
              have hb2 := Lib.below_iterAt hbel (k := w.heap.size) hB s (k + (Utf8.decode s k).2)
              generalize hWW : wr.iterAt w.heap.size s (k + (Utf8.decode s k).2) = WW at hnx hit2 hb2
              have hvl := valD_lt _ hall
              have hvp := pow9 k (by omega)
              have hln : (s.data.toList.take k).length = k := by simp; omega
              rw [hln] at hvl
              have hvb : valD (s.data.toList.take k) < 1000000000 := Nat.lt_of_lt_of_le hvl hvp
              clear hvl hvp hln
              by_cases hlo : (Utf8.decode s k).1 < 48
              · have HN := Lib.hid (numV_none (l := s.data.toList) (by
                  have hdg : isDig (s[k]'hp) = false := by
                    rcases hd3 with ⟨_, e, _⟩ | ⟨h, _⟩
                    · simp [isDig]; omega
                    · omega
                  unfold numL; rw [if_pos (.inr (.inr (.inr (not_dig hp hdg))))]))
                clear hd3 hWW hall hit hbel
                go_wp2
                go_ret2
                exact ⟨HN.out.symm ▸ rfl, hb2⟩
              · by_cases hhi : 57 < (Utf8.decode s k).1
                · have HN := Lib.hid (numV_none (l := s.data.toList) (by
                    have hdg : isDig (s[k]'hp) = false := by
                      rcases hd3 with ⟨_, e, _⟩ | ⟨h, h2⟩
                      · simp [isDig]; omega
                      · have h3 := h2 k (Nat.le_refl _) (by omega)
                        have e := get_at s k hp
                        simp only [Nat.add_zero] at e
                        rw [e] at h3
                        simp [isDig]; omega
                    unfold numL; rw [if_pos (.inr (.inr (.inr (not_dig hp hdg))))]))
                  clear hd3 hWW hall hit hbel
                  go_wp2
                  go_ret2
                  exact ⟨HN.out.symm ▸ rfl, hb2⟩
                · have hone : (Utf8.decode s k).1 = (s[k]'hp).toNat ∧ (Utf8.decode s k).2 = 1 := by
                    rcases hd3 with ⟨_, e1, e2⟩ | ⟨h, _⟩
                    · exact ⟨e1, e2⟩
                    · omega
                  have H1 := Lib.hid hone
                  have HA := Lib.hid hall
                  clear hd3 hWW hall hit hbel hone
                  go_wp2
                  go_roundw
                  case rel =>
                    refine ⟨k + 1, by omega, ?_, ?_, ?_, hb2⟩
                    · rw [take_snoc s k hp, valD_snoc]
                      have := H1.out.1
                      go_num
                    · rw [take_snoc s k hp, List.all_append, HA.out]
                      have := H1.out.1
                      simp [isDig]; omega
                    · rw [hit2, H1.out.2]
                  case measure => rw [HM.out]; simp only [World.iterPos, hit2, H1.out.2]; omega
            · obtain rfl : k = s.size := by omega
              have hnx : ∀ ty, (Instr.next (.pointer (some ⟨w.heap.size, 0, none⟩)) true ty).run Tryd.prog wr = _ := fun ty => Lib.run_next_end_at wr w.heap.size s _ ty hit hp
              rw [List.take_of_length_le (by simp)] at hall ⊢
              have HN := Lib.hid (numV_some (l := s.data.toList) (n := valD s.data.toList) (by
                unfold numL
                rw [if_neg]
                rintro (h | h | h | h)
                · exact HL.out h
                · exact h9 (by simpa using h)
                · exact HG.out ⟨H0.out.symm.trans h.1, by simpa using h.2⟩
                · rw [hall] at h; cases h))
              clear hall hit
              go_wp2
              go_ret2
              exact ⟨HN.out.symm ▸ rfl, hbel⟩
      · have hguard : ¬ (s[0]'hpos = 48 ∧ 1 < s.size) := fun h => hz (eq48.2 h.1)
        go_enter Tryd.func10, Tryd.ntmps10
        go_wp2
        go_loopw [4] (fun n wr => ∃ k : Nat, k ≤ s.size ∧ n = .int .i64 (valD (s.data.toList.take k)) ∧ (s.data.toList.take k).all isDig = true ∧ wr.heap[w.heap.size]? = some (.stringIter s k) ∧ Below B w wr) (fun _ wr => s.size - wr.iterPos w.heap.size)
        case atStart => exact ⟨0, Nat.zero_le _, rfl, rfl, World.iter_heap w s 0, (Below.refl _ w).alloc hB _⟩
        case round =>
          obtain ⟨k, hk, rfl, hall, hit, hbel⟩ := hrel
          have hsz : w.heap.size < wr.heap.size := (Array.getElem?_eq_some_iff.1 hit).1
          have HM : Hid (wr.iterPos w.heap.size = k) := Lib.hid (by simp [World.iterPos, hit])
          have HG := Lib.hid hguard
          clear hguard
          by_cases hp : k < s.size
          · have hnx : ∀ ty, (Instr.next (.pointer (some ⟨w.heap.size, 0, none⟩)) true ty).run Tryd.prog wr = _ := fun ty => Lib.run_next_any_at wr w.heap.size s k ty hit hp
            obtain ⟨hd1, hd2, hd3⟩ := dec_span s k hp
            have hd4 := decode_le s k
            have hit2 := Lib.iterAt_heap wr w.heap.size s k (k + (Utf8.decode s k).2) hit
            have hb2 := Lib.below_iterAt hbel (k := w.heap.size) hB s (k + (Utf8.decode s k).2)
            generalize hWW : wr.iterAt w.heap.size s (k + (Utf8.decode s k).2) = WW at hnx hit2 hb2
            have hvl := valD_lt _ hall
            have hvp := pow9 k (by omega)
            have hln : (s.data.toList.take k).length = k := by simp; omega
            rw [hln] at hvl
            have hvb : valD (s.data.toList.take k) < 1000000000 := Nat.lt_of_lt_of_le hvl hvp
            clear hvl hvp hln
            by_cases hlo : (Utf8.decode s k).1 < 48
            · have HN := Lib.hid (numV_none (l := s.data.toList) (by
                have hdg : isDig (s[k]'hp) = false := by
                  rcases hd3 with ⟨_, e, _⟩ | ⟨h, _⟩
                  · simp [isDig]; omega
                  · omega
                unfold numL; rw [if_pos (.inr (.inr (.inr (not_dig hp hdg))))]))
              clear hd3 hWW hall hit hbel
              go_wp2
              go_ret2
              exact ⟨HN.out.symm ▸ rfl, hb2⟩
            · by_cases hhi : 57 < (Utf8.decode s k).1
              · have HN := Lib.hid (numV_none (l := s.data.toList) (by
                  have hdg : isDig (s[k]'hp) = false := by
                    rcases hd3 with ⟨_, e, _⟩ | ⟨h, h2⟩
                    · simp [isDig]; omega
                    · have h3 := h2 k (Nat.le_refl _) (by omega)
                      have e := get_at s k hp
                      simp only [Nat.add_zero] at e
                      rw [e] at h3
                      simp [isDig]; omega
                  unfold numL; rw [if_pos (.inr (.inr (.inr (not_dig hp hdg))))]))
                clear hd3 hWW hall hit hbel
                go_wp2
                go_ret2
                exact ⟨HN.out.symm ▸ rfl, hb2⟩
              · have hone : (Utf8.decode s k).1 = (s[k]'hp).toNat ∧ (Utf8.decode s k).2 = 1 := by
                  rcases hd3 with ⟨_, e1, e2⟩ | ⟨h, _⟩
                  · exact ⟨e1, e2⟩
                  · omega
                have H1 := Lib.hid hone
                have HA := Lib.hid hall
                clear hd3 hWW hall hit hbel hone
                go_wp2
                go_roundw
                case rel =>
                  refine ⟨k + 1, by omega, ?_, ?_, ?_, hb2⟩
                  · rw [take_snoc s k hp, valD_snoc]
                    have := H1.out.1
                    go_num
                  · rw [take_snoc s k hp, List.all_append, HA.out]
                    have := H1.out.1
                    simp [isDig]; omega
                  · rw [hit2, H1.out.2]
                case measure => rw [HM.out]; simp only [World.iterPos, hit2, H1.out.2]; omega
          · obtain rfl : k = s.size := by omega
            have hnx : ∀ ty, (Instr.next (.pointer (some ⟨w.heap.size, 0, none⟩)) true ty).run Tryd.prog wr = _ := fun ty => Lib.run_next_end_at wr w.heap.size s _ ty hit hp
            rw [List.take_of_length_le (by simp)] at hall ⊢
            have HN := Lib.hid (numV_some (l := s.data.toList) (n := valD s.data.toList) (by
              unfold numL
              rw [if_neg]
              rintro (h | h | h | h)
              · exact HL.out h
              · exact h9 (by simpa using h)
              · exact HG.out ⟨H0.out.symm.trans h.1, by simpa using h.2⟩
              · rw [hall] at h; cases h))
            clear hall hit
            go_wp2
            go_ret2
            exact ⟨HN.out.symm ▸ rfl, hbel⟩
end Go.Proofs.YtikkfapgmbamlaaDoor.Pl
end
section
/- plan: what a word says in a field; a word's rank; which lines follow. -/
namespace Go.Proofs.YtikkfapgmbamlaaDoor.Pl
open Go.RowKit Ut
set_option linter.unusedVariables false

def kcells : List Value := (List.range 7).flatMap fun r => [.string (tb (kw r)), .string (tb (kf r)), .bool (manyL r)]
/-- the table of the kinds of lines, as it lies in its variable -/
def Kinds (w : World) : Prop := ∃ t fr, w.heap[0]? = some (.cells kcells.toArray t fr)
theorem Kinds.lt {w : World} (h : Kinds w) : 0 < w.heap.size := by
  obtain ⟨t, fr, h⟩ := h
  exact (Array.getElem?_eq_some_iff.1 h).1
theorem Kinds.below {w w' : World} {B : Nat} (h : Kinds w) (hb : Below B w w') (hB : 0 < B) : Kinds w' := by
  obtain ⟨t, fr, h⟩ := h
  exact ⟨t, fr, (hb.block _ hB).trans h⟩
theorem Kinds.at {w : World} (h : Kinds w) (r : Nat) (hr : r < 7) : w.cell? ⟨0, r * 3, none⟩ = some (.string (tb (kw r))) ∧ w.cell? ⟨0, r * 3 + 1, none⟩ = some (.string (tb (kf r))) ∧ w.cell? ⟨0, r * 3 + 2, none⟩ = some (.bool (manyL r)) := by
  obtain ⟨t, fr, h⟩ := h
  simp only [World.cell?, h]
  match r, hr with
  | 0, _ => exact ⟨rfl, rfl, rfl⟩
  | 1, _ => exact ⟨rfl, rfl, rfl⟩
  | 2, _ => exact ⟨rfl, rfl, rfl⟩
  | 3, _ => exact ⟨rfl, rfl, rfl⟩
  | 4, _ => exact ⟨rfl, rfl, rfl⟩
  | 5, _ => exact ⟨rfl, rfl, rfl⟩
  | 6, _ => exact ⟨rfl, rfl, rfl⟩
  | r + 7, h => omega

def optV (o : Option Int) : Value := .tuple #[.int .i64 (o.getD 0), .bool o.isSome]
theorem parseF_zero {w : List UInt8} (h : ¬ (La.parseF w).2 = 0) : La.parseF w = (0, (La.parseF w).2) := by
  rcases La.parseF_text w with e | ⟨n, hn, e⟩
  · rw [e]
  · exact absurd (by rw [← e, La.parse_text n hn]) h
theorem numV_opt (l : List UInt8) : numV l = optV ((numL l).map Int.ofNat) := by
  unfold numV optV
  cases numL l <;> rfl
theorem out_eq (s : ByteArray) : (s.toList == [111, 117, 116]) = decide (s.data.toList = [111, 117, 116]) := by
  rw [ByteArray.toList_eq]
  cases h : decide (s.data.toList = [111, 117, 116])
  · simpa using h
  · simpa using h
set_option maxRecDepth 100000 in
theorem value_any (s : ByteArray) (f : UInt8) (hs : s.size ≤ maxLen) (B : Nat) (w : World) (hB : B ≤ w.heap.size) :
    Calls Tryd.prog 67 #[.string s, .int .u8 f.toNat] w fun e w' => e = .returned (optV (valL f s.data.toList)) ∧ Below B w w' := by
  by_cases hl : f = 108
  · subst hl
    have hx := La.parse_any s hs w
    have HE : Hid (optV (valL 108 s.data.toList) = .tuple #[.int .i64 (La.parseF s.data.toList).1, .bool ((La.parseF s.data.toList).2 == 0)]) := Lib.hid (by
      unfold valL optV
      rw [if_pos rfl]
      by_cases h : (La.parseF s.data.toList).2 = 0
      · rw [if_pos h, h]; rfl
      · rw [if_neg h, parseF_zero h]
        have : ((La.parseF s.data.toList).2 == 0) = false := by simpa using h
        simp [this])
    generalize La.parseF s.data.toList = q at hx HE
    obtain ⟨q1, q2⟩ := q
    have HF : Hid (optV (valL 108 s.data.toList) = .tuple #[.int .i64 q1, .bool (q2 == 0)]) := HE
    clear HE
    go_enter Tryd.func67, Tryd.ntmps67
    go_wp2_with (go_at_call 85; refine hx.mono ?_; rintro e w1 ⟨rfl, rfl⟩)
    all_goals
      go_ret2
      exact ⟨HF.out.symm ▸ rfl, Below.refl _ _⟩
  · have hf : ¬ ((f.toNat : Nat) : Int) = 108 := fun h => hl (UInt8.toNat_inj.1 (by simp; omega))
    have hnum := number_any s B w hB
    rw [numV_opt] at hnum
    by_cases hp : f = 112
    · subst hp
      by_cases ho : s.data.toList = [111, 117, 116]
      · have ht : (s.toList == [111, 117, 116]) = true := by rw [out_eq]; simp [ho]
        have HF : Hid (optV (valL 112 s.data.toList) = .tuple #[.int .i64 (-1), .bool true]) := Lib.hid (by
          unfold valL
          rw [if_neg (by decide), if_pos ⟨rfl, ho⟩]; rfl)
        clear ho hnum
        go_enter Tryd.func67, Tryd.ntmps67
        go_wp2
        go_ret2
        exact ⟨HF.out.symm ▸ rfl, Below.refl _ _⟩
      · have ht : (s.toList == [111, 117, 116]) = false := by rw [out_eq]; simp [ho]
        have HF : Hid (valL 112 s.data.toList = (numL s.data.toList).map Int.ofNat) := Lib.hid (by
          unfold valL
          rw [if_neg (by decide), if_neg (fun h => ho h.2)])
        rw [HF.out]
        generalize (numL s.data.toList).map Int.ofNat = o at hnum ⊢
        clear ho HF
        unfold optV at hnum
        go_enter Tryd.func67, Tryd.ntmps67
        go_wp2_with (go_at_call 10; refine hnum.mono ?_; rintro e w1 ⟨rfl, hb1⟩)
        go_ret2
        exact ⟨rfl, hb1⟩
    · have hf2 : ¬ ((f.toNat : Nat) : Int) = 112 := fun h => hp (UInt8.toNat_inj.1 (by simp; omega))
      have HF : Hid (valL f s.data.toList = (numL s.data.toList).map Int.ofNat) := Lib.hid (by
        unfold valL
        rw [if_neg hl, if_neg (fun h => hp h.1)])
      rw [HF.out]
      generalize (numL s.data.toList).map Int.ofNat = o at hnum ⊢
      clear HF hl hp
      unfold optV at hnum
      go_enter Tryd.func67, Tryd.ntmps67
      go_wp2_with (go_at_call 10; refine hnum.mono ?_; rintro e w1 ⟨rfl, hb1⟩)
      go_ret2
      exact ⟨rfl, hb1⟩

set_option maxRecDepth 100000 in
theorem follows_any (r : Nat) (hr : r < 7) (last : Int) (h1 : -1 ≤ last) (h2 : last < 7) (w : World) (hK : Kinds w) :
    Calls Tryd.prog 31 #[.int .i64 r, .int .i64 last] w fun e w' => e = .returned (.bool (folL r last)) ∧ w = w' := by
  obtain ⟨_, _, hm⟩ := hK.at r hr
  clear hK
  by_cases hl : last = -1
  · subst hl
    have HF : Hid (folL r (-1) = (r == 0)) := Lib.hid (by unfold folL; rw [if_pos rfl])
    go_enter Tryd.func31, Tryd.ntmps31
    go_wp2
    go_ret
    refine ⟨?_, rfl⟩
    rw [HF.out]
    show Ending.returned (.bool (((r : Nat) : Int) == 0)) = _
    congr 2
    by_cases h : r = 0
    · subst h; rfl
    · have h2 : (r == 0) = false := by simpa using h
      have h3 : (((r : Nat) : Int) == 0) = false := by simp; omega
      rw [h2, h3]
  · by_cases he : (r : Int) = last
    · subst he
      have HF : Hid (folL r r = manyL r) := Lib.hid (by unfold folL; rw [if_neg (by omega), if_pos rfl])
      generalize manyL r = b at hm HF
      go_enter Tryd.func31, Tryd.ntmps31
      go_wp2
      go_ret
      refine ⟨?_, rfl⟩
      rw [HF.out]
      rfl
    · have HF : Hid (folL r last = decide (last < r)) := Lib.hid (by unfold folL; rw [if_neg hl, if_neg he])
      go_enter Tryd.func31, Tryd.ntmps31
      go_wp2
      go_ret
      refine ⟨?_, rfl⟩
      rw [HF.out]
      rfl

/-- a word's rank as a number, -1 if it has none -/
def rankZ (w : List UInt8) : Int := match rankL w with | some r => (r : Int) | none => -1
theorem rank_hit {w : List UInt8} {k : Nat} (hk : k < 7) (he : kw k = w) (hno : ∀ j, j < k → kw j ≠ w) : rankL w = some k := by
  have h1 : ∀ j, j < k → (kw j == w) = false := fun j hj => by simpa using hno j hj
  have h2 : (kw k == w) = true := by simpa using he
  have e : List.range 7 = [0, 1, 2, 3, 4, 5, 6] := rfl
  unfold rankL
  rw [e]
  clear he hno e
  match k, hk with
  | 0, _ => simp only [List.find?, h2]
  | 1, _ => simp only [List.find?, h1 0 (by omega), h2]
  | 2, _ => simp only [List.find?, h1 0 (by omega), h1 1 (by omega), h2]
  | 3, _ => simp only [List.find?, h1 0 (by omega), h1 1 (by omega), h1 2 (by omega), h2]
  | 4, _ => simp only [List.find?, h1 0 (by omega), h1 1 (by omega), h1 2 (by omega), h1 3 (by omega), h2]
  | 5, _ => simp only [List.find?, h1 0 (by omega), h1 1 (by omega), h1 2 (by omega), h1 3 (by omega), h1 4 (by omega), h2]
  | 6, _ => simp only [List.find?, h1 0 (by omega), h1 1 (by omega), h1 2 (by omega), h1 3 (by omega), h1 4 (by omega), h1 5 (by omega), h2]
  | k + 7, h => omega
theorem rank_miss {w : List UInt8} (hno : ∀ j, j < 7 → kw j ≠ w) : rankL w = none := by
  unfold rankL
  rw [List.find?_eq_none]
  intro j hj
  simpa using hno j (by simpa using hj)
theorem word_eq (a : List UInt8) (s : ByteArray) : ((tb a).toList == s.toList) = decide (a = s.data.toList) := by
  rw [ByteArray.toList_eq, ByteArray.toList_eq, tb_list]
  cases h : decide (a = s.data.toList)
  · simpa using h
  · simpa using h
end Go.Proofs.YtikkfapgmbamlaaDoor.Pl
end
section
/- plan: a word's rank, by the table of kinds. -/
namespace Go.Proofs.YtikkfapgmbamlaaDoor.Pl
open Go.RowKit Ut
set_option linter.unusedVariables false

set_option maxRecDepth 100000 in
theorem idx_kind (k : Nat) (hk : k < 7) : ∀ w : World, (Instr.index 100 (.agg kcells.toArray) (.int .i64 k)).run Tryd.prog w = .ok (.agg #[.string (tb (kw k)), .string (tb (kf k)), .bool (manyL k)]) w := by
  match k, hk with
  | 0, _ => exact fun _ => by kernel_rfl
  | 1, _ => exact fun _ => by kernel_rfl
  | 2, _ => exact fun _ => by kernel_rfl
  | 3, _ => exact fun _ => by kernel_rfl
  | 4, _ => exact fun _ => by kernel_rfl
  | 5, _ => exact fun _ => by kernel_rfl
  | 6, _ => exact fun _ => by kernel_rfl
  | k + 7, h => omega
set_option maxHeartbeats 1000000 in
set_option maxRecDepth 100000 in
theorem rankOf_any (s : ByteArray) (B : Nat) (w : World) (hB : B ≤ w.heap.size) (hK : Kinds w) :
    Calls Tryd.prog 66 #[.string s] w fun e w' => e = .returned (.int .i64 (rankZ s.data.toList)) ∧ Below B w w' := by
  obtain ⟨tt, fr, hg⟩ := hK
  have hsz : (Tryd.prog.info? 100).map (·.size) = some kcells.toArray.size := by kernel_rfl
  have hidx := idx_kind
  generalize kcells.toArray = cs at hg hsz hidx
  go_enter Tryd.func66, Tryd.ntmps66
  go_wp2_with (refine wpList_load_row rfl 100 _ rfl 0 rfl tt _ fr _ hg Tryd.underlying100 rfl hsz ?_)
  clear hg hsz
  go_loopw [6] (fun i wr => ∃ k : Nat, k ≤ 7 ∧ i = .int .i64 k ∧ (∀ j, j < k → kw j ≠ s.data.toList) ∧ Below B w wr) (fun i _ => 7 - (intOf i).toNat)
  case atStart => exact ⟨0, by omega, rfl, fun j h => absurd h (by omega), Below.refl _ _⟩
  case round =>
    obtain ⟨k, hk, rfl, hno, hbel⟩ := hrel
    have hbs := Nat.le_trans hB hbel.size
    have HN := Lib.hid hno
    clear hno
    by_cases hlt : k < 7
    · have hbel2 : Below B w (wr.alloc (.cells #[.string (tb (kw k)), .string (tb (kf k)), .bool (manyL k)] 99)) := hbel.alloc hbs _
      have hix := hidx k hlt
      clear hidx
      by_cases he : kw k = s.data.toList
      · have ht : ((tb (kw k)).toList == s.toList) = true := by rw [word_eq]; simp [he]
        have HE : Hid (rankZ s.data.toList = k) := Lib.hid (by unfold rankZ; rw [rank_hit hlt he HN.out])
        clear he
        generalize tb (kw k) = t1 at ht hix hbel2
        generalize tb (kf k) = t2 at hix hbel2
        generalize manyL k = t3 at hix hbel2
        go_wp2
        go_ret
        exact ⟨HE.out.symm ▸ rfl, hbel2⟩
      · have ht : ((tb (kw k)).toList == s.toList) = false := by rw [word_eq]; simp [he]
        have HE := Lib.hid he
        clear he
        generalize tb (kw k) = t1 at ht hix hbel2
        generalize tb (kf k) = t2 at hix hbel2
        generalize manyL k = t3 at hix hbel2
        go_wp2
        go_roundw
        case rel =>
          refine ⟨k + 1, by omega, by go_num, ?_, hbel2⟩
          intro j hj
          by_cases e : j = k
          · rw [e]; exact HE.out
          · exact HN.out j (by omega)
        case measure => simp [intOf]; omega
    · obtain rfl : k = 7 := by omega
      have HE : Hid (rankZ s.data.toList = -1) := Lib.hid (by unfold rankZ; rw [rank_miss HN.out])
      go_wp2
      go_ret
      exact ⟨HE.out.symm ▸ rfl, hbel⟩
end Go.Proofs.YtikkfapgmbamlaaDoor.Pl
end
