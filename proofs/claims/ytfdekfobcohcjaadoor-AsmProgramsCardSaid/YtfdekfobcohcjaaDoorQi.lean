/- Package asm: cut, the line's readers, word. -/
import Derived.Test.YtfdekfobcohcjaaDoorQh
import Derived.Lib.LastIndexByte
namespace Go.Proofs.YtfdekfobcohcjaaDoor.As
open Go.RowKit Ut Is Pl
set_option linter.unusedVariables false
set_option maxRecDepth 100000
set_option maxHeartbeats 8000000

/-! ### the lines that have their ends -/
theorem byte_at (s : ByteArray) (j : Nat) (h : j < s.size) : s.data[j]! = s.data.toList[j]'h := by
  rw [getElem!_pos s.data j h]; rfl
theorem cut_last (s : ByteArray) : ∃ n : Nat, Lib.lastIndexByte s 10 + 1 = n ∧ n ≤ s.size ∧ (cutL 10 (s.data.toList.take n)).2 = [] ∧ (cutL 10 (s.data.toList.take n)).1 = (cutL 10 s.data.toList).1 ∧ (cutL 10 s.data.toList).2 = s.data.toList.drop n := by
  have key : ∀ n, n ≤ s.size → (cutL 10 (s.data.toList.take n)).2 = [] → (10 : UInt8) ∉ s.data.toList.drop n → (cutL 10 (s.data.toList.take n)).1 = (cutL 10 s.data.toList).1 ∧ (cutL 10 s.data.toList).2 = s.data.toList.drop n := fun n hn h2 hno => by
    have e := cutL_plain 10 (s.data.toList.take n) (s.data.toList.drop n) hno
    rw [List.take_append_drop] at e
    rw [e, h2]
    exact ⟨rfl, rfl⟩
  have hnot : ∀ n, (∀ j, n ≤ j → j < s.size → ((s.data[j]!).toNat : Int) ≠ 10) → (10 : UInt8) ∉ s.data.toList.drop n := fun n h hm => by
    obtain ⟨j, hj, e⟩ := List.getElem_of_mem hm
    rw [List.length_drop] at hj
    have hj2 : n + j < s.size := by have : s.data.toList.length = s.size := rfl; omega
    refine h (n + j) (by omega) hj2 ?_
    rw [byte_at s (n + j) hj2]
    rw [List.getElem_drop] at e
    rw [e]; rfl
  rcases Lib.lastIndexByte_spec s 10 with ⟨e, hn⟩ | ⟨i, hi, e, hc, hn⟩
  · have h0 : (cutL 10 (s.data.toList.take 0)).2 = [] := rfl
    exact ⟨0, by rw [e]; rfl, Nat.zero_le _, h0, key 0 (Nat.zero_le _) h0 (hnot 0 fun j _ hj => hn j hj)⟩
  · have hb : s.data.toList[i]'hi = 10 := by
      rw [byte_at s i hi] at hc
      exact UInt8.toNat_inj.1 (by have : (10 : UInt8).toNat = 10 := rfl; omega)
    have et : s.data.toList.take (i + 1) = s.data.toList.take i ++ [10] := by
      rw [List.take_add_one, List.getElem?_eq_getElem hi, hb]; rfl
    have h0 : (cutL 10 (s.data.toList.take (i + 1))).2 = [] := by rw [et, cutL_end]
    exact ⟨i + 1, by rw [e]; rfl, hi, h0, key (i + 1) hi h0 (hnot (i + 1) fun j h1 h2 => hn j h1 h2)⟩
theorem cut_lines (s : ByteArray) (hs : s.size ≤ 1099511627776) (w : World) :
    Calls Tryd.prog 29 #[.string s] w fun e w' => ∃ v, e = .returned (.tuple #[v, .bool (decide ((cutL 10 s.data.toList).2 ≠ []))]) ∧ OwnS w' w.heap.size 9 v (cutL 10 s.data.toList).1.length (cutL 10 s.data.toList).1 ∧ (cutL 10 s.data.toList).1.length ≤ s.size ∧ Below w.heap.size w w' := by
  obtain ⟨n, hn, hns, h2, h1, h3⟩ := cut_last s
  have hli := lastIndex_any s 10 (by omega) w
  have hover : decide ((cutL 10 s.data.toList).2 ≠ []) = decide (n < s.size) := by
    rw [h3]
    have hl : s.data.toList.length = s.size := rfl
    by_cases h : n < s.size
    · rw [decide_eq_true h]
      refine decide_eq_true fun e => ?_
      have := congrArg List.length e
      simp only [List.length_drop, List.length_nil] at this
      omega
    · rw [decide_eq_false h]
      refine decide_eq_false fun e => e (List.drop_of_length_le (by omega))
  obtain ⟨t, ht⟩ : ∃ t, t = s.extract 0 n := ⟨_, rfl⟩
  have htl : t.data.toList = s.data.toList.take n := by rw [ht, tb_part]; rfl
  have hts : t.size ≤ s.size := by
    have : t.data.toList.length = t.size := rfl
    rw [htl, List.length_take] at this
    omega
  have hlin := fun W => lines_any t (by omega) w.heap.size W
  have hL : linesL t.data.toList = some (cutL 10 s.data.toList).1 := by unfold linesL; rw [htl, if_pos h2, h1]
  rw [hL] at hlin
  simp only [Option.isSome_some, Option.getD_some] at hlin
  rw [hover]
  obtain ⟨ps, hps⟩ : ∃ ps, ps = (cutL 10 s.data.toList).1 := ⟨_, rfl⟩
  rw [← hps] at hlin ⊢
  have HL := Lib.hid hlin
  have hsl : ∀ W : World, (Instr.slice 9 (.string s) none (some (.int .i64 (n : Int))) none).run Tryd.prog W = .ok (.string t) W := fun W => by
    rw [run_slice_string_h W 9 s Tryd.underlying9 .i64 (n : Int) (by omega) (by omega), ht, Int.toNat_natCast]
  have hz : Lib.lastIndexByte s 10 = (n : Int) - 1 := by omega
  rw [hz] at hli
  have HTS := Lib.hid hts
  have hn0 : (n : Int) - 1 + 1 = n := by omega
  clear hn h2 h1 h3 hover htl hlin hL hps hz ht hts
  go_enter Tryd.func29, Tryd.ntmps29
  go_wp2_with fail
  refine hli.mono ?_
  rintro e w1 ⟨rfl, rfl⟩
  go_wp2_with fail
  refine (HL.out _ (Nat.le_refl _)).mono ?_
  rintro e w2 ⟨v, rfl, hown, hpl, hb⟩
  have HOW := Lib.hid hown
  clear hown
  go_wp2
  go_ret2
  exact ⟨v, rfl, HOW.out, Nat.le_trans hpl HTS.out, hb⟩

/-! ### a line's readers -/
def insT (l : List UInt8) : Value := .tuple #[.int .u32 (if parT l = true then encZ (saidO l) (saidF l 1) (saidF l 2) (saidF l 3) (saidF l 4) else 0), .bool (parT l)]
theorem enc_zero {o d a b m : Int} (h : validB o d a b m = true) : encE o d a b m = 0 := by unfold encE; rw [if_pos h]
theorem instruction_any (s : ByteArray) (hs : s.size ≤ 140737488355328) (w : World) (hw : Held w) :
    Calls Tryd.prog 48 #[.string s] w fun e w' => e = .returned (insT s.data.toList) ∧ Below w.heap.size w w' := by
  unfold insT
  have hp := parse_any s hs w hw
  by_cases h : parT s.data.toList = true
  · obtain ⟨n, n1, n2, hn, hv, ht⟩ := par_back h
    rw [if_pos h, h]
    unfold parV parE at hp
    rw [if_pos h, if_pos h] at hp
    rw [hn] at hp ⊢
    generalize saidF s.data.toList 1 = d at hp hv ⊢
    generalize saidF s.data.toList 2 = a at hp hv ⊢
    generalize saidF s.data.toList 3 = b at hp hv ⊢
    generalize saidF s.data.toList 4 = m at hp hv ⊢
    obtain ⟨x, hx⟩ : ∃ x, encZ n d a b m = x := ⟨_, rfl⟩
    rw [hx]
    have HE : Hid (∀ w, HasT w → Calls Tryd.prog 62 #[insV n d a b m] w fun e w' => e = .returned (.tuple #[.int .u32 x, .int .i64 0]) ∧ Below w.heap.size w w') := Lib.hid fun w hw => enc_any _ _ _ _ _ x 0 hx (enc_zero hv) w hw
    have HP := Lib.hid hp
    have HW := Lib.hid hw
    clear hp h hn hv ht hx n1 n2 hw
    go_enter Tryd.func48, Tryd.ntmps48
    go_wp2_with fail
    refine HP.out.mono ?_
    rintro e w1 ⟨rfl, hb1⟩
    obtain ⟨U, hU⟩ : ∃ U, U = insW n d a b m w1 := ⟨_, rfl⟩
    have HU := Lib.hid hU
    have hbU : Below w1.heap.size w1 U := hU ▸ ins_below n d a b m w1
    have HTU := Lib.hid ((HW.out.more hb1).more hbU)
    have HBU := Lib.hid (hb1.trans (hbU.mono hb1.size))
    clear hb1 hU hbU
    go_wp2_with fail
    rw [show w1.alloc (.cells #[.int .i64 n, .int .i64 d, .int .i64 a, .int .i64 b, .int .i64 m] 23) = U from HU.out.symm]
    refine (HE.out _ HTU.out.has).mono ?_
    rintro e w2 ⟨rfl, hb2⟩
    have HB2 := Lib.hid (HBU.out.trans (hb2.mono HBU.out.size))
    clear hb2
    go_wp2
    go_ret2
    exact ⟨rfl, HB2.out⟩
  · rw [if_neg h, show parT s.data.toList = false by simpa using h]
    unfold parV parE at hp
    rw [if_neg h, if_neg h] at hp
    have HP := Lib.hid hp
    clear hp h hw
    go_enter Tryd.func48, Tryd.ntmps48
    go_wp2_with fail
    refine HP.out.mono ?_
    rintro e w1 ⟨rfl, hb1⟩
    go_wp2
    go_ret2
    exact ⟨rfl, (hb1.trans ((ins_below 0 0 0 0 0 w1).mono hb1.size))⟩
def plT (l : List UInt8) : Option Nat := if Lib.hasPrefix l wordM = true then bigL (l.drop 6) else none
theorem plain_any (s : ByteArray) (hs : s.size ≤ 281474976710656) (w : World) (hw : Held w) :
    Calls Tryd.prog 49 #[.string s] w fun e w' => e = .returned (.tuple #[.int .u32 ((plT s.data.toList).getD 0 : Nat), .bool (plT s.data.toList).isSome]) ∧ Below w.heap.size w w' := by
  obtain ⟨r, hr⟩ : ∃ r, r = tb (Lib.trimPrefix s.data.toList wordM) := ⟨_, rfl⟩
  have hcut := cutPrefix_any s ⟨#[46, 119, 111, 114, 100, 32]⟩ w
  rw [show (⟨#[46, 119, 111, 114, 100, 32]⟩ : ByteArray).data.toList = wordM from rfl, ← hr] at hcut
  have hrl : r.data.toList = Lib.trimPrefix s.data.toList wordM := by rw [hr]; rfl
  have HW := Lib.hid hw
  unfold plT
  by_cases hp : Lib.hasPrefix s.data.toList wordM = true
  · rw [if_pos hp]
    have e : Lib.trimPrefix s.data.toList wordM = s.data.toList.drop 6 := by unfold Lib.trimPrefix; rw [if_pos hp]; rfl
    rw [← e, ← hrl]
    have hrs : r.size ≤ 281474976710656 := by
      have h1 : r.data.toList.length = r.size := rfl
      have h2 : s.data.toList.length = s.size := rfl
      rw [hrl, e, List.length_drop] at h1
      omega
    rw [hp] at hcut
    have HC := Lib.hid hcut
    clear hcut hr hp e hrl
    by_cases hok : ∃ n, Lib.parseUintB 32 r.data.toList = .ok n
    · obtain ⟨n, hn⟩ := hok
      have hn32 := ((parse32_ok _ _).1 hn).2.2.2
      have HP := Lib.hid (fun W => parse_ok r hrs n hn W)
      have HF := Lib.hid (fun W hW => formatUint_any n (by omega) W hW)
      have hn64 : (n : Int) ≤ 4294967295 := by omega
      have hwr : IntKind.u32.wrap (n : Int) = (n : Int) := IntWalk.u32_in _ (by omega)
      by_cases heq : Lib.decDigits n = r.data.toList
      · have hb : bigL r.data.toList = some n := (big_iff _ _).2 ⟨hn, heq⟩
        have HB := Lib.hid hb
        have hcmp : (r.toList == r.toList) = true := beq_self_eq_true _
        have htr : tb (Lib.decDigits n) = r := by rw [heq]; rfl
        rw [htr] at HF
        clear hn heq hb htr hw
        go_enter Tryd.func49, Tryd.ntmps49
        go_wp2_with fail
        refine HC.out.mono ?_
        rintro e w1 ⟨rfl, rfl⟩
        go_wp2_with fail
        refine (HP.out _).mono ?_
        rintro e w2 ⟨rfl, hb2⟩
        have HB2 := Lib.hid hb2
        have HW2 := Lib.hid (HW.out.more hb2)
        clear hb2
        go_wp2_with fail
        refine (HF.out _ HW2.out).mono ?_
        rintro e w3 ⟨rfl, hb3⟩
        have HB3 := Lib.hid (HB2.out.trans (hb3.mono HB2.out.size))
        clear hb3
        go_wp2
        go_ret2
        exact ⟨by rw [HB.out]; rfl, HB3.out⟩
      · have hb : bigL r.data.toList = none := by
          cases hx : bigL r.data.toList with
          | none => rfl
          | some k =>
            obtain ⟨h1, h2⟩ := (big_iff _ _).1 hx
            rw [hn] at h1
            injection h1 with h1
            subst h1
            exact absurd h2 heq
        have HB := Lib.hid hb
        obtain ⟨T, hT⟩ : ∃ T, T = tb (Lib.decDigits n) := ⟨_, rfl⟩
        have hcmp : (T.toList == r.toList) = false := by
          rw [ByteArray.toList_eq, ByteArray.toList_eq, beq_eq_false_iff_ne, hT]
          exact heq
        rw [← hT] at HF
        clear hn heq hb hT hw
        go_enter Tryd.func49, Tryd.ntmps49
        go_wp2_with fail
        refine HC.out.mono ?_
        rintro e w1 ⟨rfl, rfl⟩
        go_wp2_with fail
        refine (HP.out _).mono ?_
        rintro e w2 ⟨rfl, hb2⟩
        have HB2 := Lib.hid hb2
        have HW2 := Lib.hid (HW.out.more hb2)
        clear hb2
        go_wp2_with fail
        refine (HF.out _ HW2.out).mono ?_
        rintro e w3 ⟨rfl, hb3⟩
        have HB3 := Lib.hid (HB2.out.trans (hb3.mono HB2.out.size))
        clear hb3
        go_wp2
        go_ret2
        exact ⟨by rw [HB.out]; rfl, HB3.out⟩
    · have hb : bigL r.data.toList = none := by
        cases hx : bigL r.data.toList with
        | none => rfl
        | some k => exact absurd ⟨k, ((big_iff _ _).1 hx).1⟩ hok
      have HB := Lib.hid hb
      have HP := Lib.hid (fun W hW => parse_bad r hrs (fun n hn => hok ⟨n, hn⟩) W hW)
      clear hok hb hw
      go_enter Tryd.func49, Tryd.ntmps49
      go_wp2_with fail
      refine HC.out.mono ?_
      rintro e w1 ⟨rfl, rfl⟩
      go_wp2_with fail
      refine (HP.out _ HW.out).mono ?_
      rintro e w2 ⟨z, N, rfl, hb2⟩
      have HB2 := Lib.hid hb2
      clear hb2
      go_wp2
      go_ret2
      exact ⟨by rw [HB.out]; rfl, HB2.out⟩
  · rw [if_neg hp]
    have hp2 : Lib.hasPrefix s.data.toList wordM = false := by simpa using hp
    rw [hp2] at hcut
    clear hp hp2 hrl hr hw
    go_enter Tryd.func49, Tryd.ntmps49
    go_wp2_with fail
    refine hcut.mono ?_
    rintro e w1 ⟨rfl, rfl⟩
    go_wp2
    go_ret2
    exact ⟨rfl, Below.refl _ _⟩
theorem line_eq (l : List UInt8) : lineO l = if parT l = true then some (encZ (saidO l) (saidF l 1) (saidF l 2) (saidF l 3) (saidF l 4)) else (plT l).map Int.ofNat := by
  unfold lineO plT
  split
  · rfl
  · split <;> rfl
def TwoNo (k : Nat) (t : Bool) : Prop := k = 2 → t = false
theorem word_any (s : ByteArray) (hs : s.size ≤ 140737488355328) (w : World) (hw : Held w) :
    Calls Tryd.prog 30 #[.string s] w fun e w' => e = .returned (.tuple #[.int .u32 ((lineO s.data.toList).getD 0), .bool (lineO s.data.toList).isSome]) ∧ Below w.heap.size w w' := by
  rw [line_eq]
  have hI := fun W hW => instruction_any s hs W hW
  unfold insT at hI
  by_cases h : parT s.data.toList = true
  · rw [if_pos h]
    rw [if_pos h, h] at hI
    simp only [Option.getD_some, Option.isSome_some]
    generalize encZ (saidO s.data.toList) (saidF s.data.toList 1) (saidF s.data.toList 2) (saidF s.data.toList 3) (saidF s.data.toList 4) = x at hI ⊢
    have HI := Lib.hid hI
    have HW := Lib.hid hw
    clear hI h hw
    have hix0 : ∀ W, (Instr.index 93 (.agg #[.func (.func 48) #[.string s] #[], .func (.func 49) #[.string s] #[]]) (.int .i64 0)).run Tryd.prog W = .ok (.func (.func 48) #[.string s] #[]) W := fun _ => by kernel_rfl
    go_enter Tryd.func30, Tryd.ntmps30
    go_wp2_with fail
    go_loopw [13] (fun i wr => i = .int .i64 0 ∧ wr = w) (fun i _ => 2 - (intOf i).toNat)
    case atStart => exact ⟨rfl, rfl⟩
    case round =>
      obtain ⟨rfl, rfl⟩ := hrel
      go_wp2_with fail
      refine (HI.out _ HW.out).mono ?_
      rintro e w1 ⟨rfl, hb1⟩
      go_wp2
      go_ret2
      exact ⟨rfl, hb1⟩
  · rw [if_neg h]
    rw [if_neg h, show parT s.data.toList = false by simpa using h] at hI
    have hP := fun W hW => plain_any s (by omega) W hW
    have e1 : ((plT s.data.toList).map Int.ofNat).getD 0 = (((plT s.data.toList).getD 0 : Nat) : Int) := by cases plT s.data.toList <;> rfl
    have e2 : ((plT s.data.toList).map Int.ofNat).isSome = (plT s.data.toList).isSome := by cases plT s.data.toList <;> rfl
    rw [e1, e2]
    have hn0 : (plT s.data.toList).isSome = false → (plT s.data.toList).getD 0 = 0 := by cases plT s.data.toList <;> simp
    generalize (plT s.data.toList).getD 0 = x at hP hn0 ⊢
    generalize (plT s.data.toList).isSome = t at hP hn0 ⊢
    have HI := Lib.hid hI
    have HP := Lib.hid hP
    have HW := Lib.hid hw
    have HN := Lib.hid hn0
    have hix0 : ∀ W, (Instr.index 93 (.agg #[.func (.func 48) #[.string s] #[], .func (.func 49) #[.string s] #[]]) (.int .i64 0)).run Tryd.prog W = .ok (.func (.func 48) #[.string s] #[]) W := fun _ => by kernel_rfl
    have hix1 : ∀ W, (Instr.index 93 (.agg #[.func (.func 48) #[.string s] #[], .func (.func 49) #[.string s] #[]]) (.int .i64 1)).run Tryd.prog W = .ok (.func (.func 49) #[.string s] #[]) W := fun _ => by kernel_rfl
    clear hI hP h hw e1 e2 hn0
    go_enter Tryd.func30, Tryd.ntmps30
    go_wp2_with fail
    go_loopw [13] (fun i wr => ∃ k : Nat, k ≤ 2 ∧ i = .int .i64 k ∧ Below w.heap.size w wr ∧ TwoNo k t) (fun i _ => 2 - (intOf i).toNat)
    case atStart => exact ⟨0, by omega, rfl, Below.refl _ _, fun h => by omega⟩
    case round =>
      obtain ⟨k, hk, rfl, hb, hkt⟩ := hrel
      have HB := Lib.hid hb
      have HKT := Lib.hid hkt
      rcases (show k = 0 ∨ k = 1 ∨ k = 2 by omega) with rfl | rfl | rfl
      · clear hb hkt
        go_wp2_with fail
        refine (HI.out _ (HW.out.more HB.out)).mono ?_
        rintro e w1 ⟨rfl, hb1⟩
        have HB1 := Lib.hid (HB.out.trans (hb1.mono HB.out.size))
        clear hb1
        go_wp2
        go_roundw
        case rel => exact ⟨1, by omega, rfl, HB1.out, fun h => by omega⟩
        case measure => simp [intOf]
      · clear hb hkt
        go_wp2_with fail
        refine (HP.out _ (HW.out.more HB.out)).mono ?_
        rintro e w1 ⟨rfl, hb1⟩
        have HB1 := Lib.hid (HB.out.trans (hb1.mono HB.out.size))
        clear hb1
        cases t
        · go_wp2
          go_roundw
          case rel => exact ⟨2, by omega, rfl, HB1.out, fun _ => rfl⟩
          case measure => simp [intOf]
        · go_wp2
          go_ret2
          exact ⟨rfl, HB1.out⟩
      · clear hb hkt
        have HT2 : Hid (t = false) := Lib.hid (HKT.out rfl)
        go_wp2
        go_ret2
        exact ⟨by rw [HT2.out, HN.out HT2.out]; rfl, HB.out⟩
end Go.Proofs.YtfdekfobcohcjaaDoor.As
