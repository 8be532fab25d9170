/- The document's word: what a line says. -/
import Derived.Test.YtfdekfobcohcjaaDoorQr
import Derived.Test.YtfdekfobcohcjaaDoorQv
namespace Go.Proofs.YtfdekfobcohcjaaDoor.As
open Go.RowKit Ut Is Pl
set_option linter.unusedVariables false
set_option maxRecDepth 100000
set_option maxHeartbeats 8000000

def WordPost (l : List UInt8) (w : World) (e : Ending) (w' : World) : Prop := ∃ z : Int, e = .returned (.tuple #[.int .u32 z, .bool (lineO l).isSome]) ∧ (∀ n : Int, lineO l = some n → z = n) ∧ Below w.heap.size w w'
theorem pre_take (l : List UInt8) : Lib.hasPrefix l wordM = decide (l.take 6 = wordM) := by
  unfold Lib.hasPrefix
  rw [Bool.eq_iff_iff, List.isPrefixOf_iff_prefix, List.prefix_iff_eq_take, decide_eq_true_iff]
  exact eq_comm
theorem take_six (s : ByteArray) : (s.extract 0 6).data.toList = s.data.toList.take 6 := by rw [tb_part]; rfl
theorem drop_six (s : ByteArray) : (s.extract 6 s.size).data.toList = s.data.toList.drop 6 := by
  rw [tb_part, List.take_of_length_le (by simp)]; rfl
theorem word_big (s : ByteArray) (hs : s.size ≤ 1099511627776) (h6 : 6 < s.size) (hp : Lib.hasPrefix s.data.toList wordM = true) (w : World) :
    Calls Tryd.prog 31 #[.string s] w fun e w' => WordPost s.data.toList w e w' := by
  have hlo : lineO s.data.toList = (bigL (s.data.toList.drop 6)).map Int.ofNat := by unfold lineO; rw [word_par hp, if_neg (by decide), if_pos hp]
  obtain ⟨r, hr⟩ : ∃ r, r = s.extract 6 s.size := ⟨_, rfl⟩
  obtain ⟨h, hh⟩ : ∃ h, h = s.extract 0 6 := ⟨_, rfl⟩
  have hrl : r.data.toList = s.data.toList.drop 6 := by rw [hr, drop_six]
  have hrs : r.size ≤ 1099511627776 := by
    have h1 := congrArg List.length hrl
    rw [List.length_drop] at h1
    have h2 : r.data.toList.length = r.size := rfl
    have h3 : s.data.toList.length = s.size := rfl
    omega
  have hne : (h.toList == [46, 119, 111, 114, 100, 32]) = true := by
    rw [ByteArray.toList_eq, hh, take_six, beq_iff_eq]
    rw [pre_take] at hp
    exact of_decide_eq_true hp
  have hsl1 : ∀ W : World, (Instr.slice 9 (.string s) none (some (.int .i64 6)) none).run Tryd.prog W = .ok (.string h) W := fun W => by
    rw [run_slice_string_h W 9 s Tryd.underlying9 .i64 6 (by omega) (by omega), hh]; rfl
  have hsl2 : ∀ W : World, (Instr.slice 9 (.string s) (some (.int .i64 6)) none none).run Tryd.prog W = .ok (.string r) W := fun W => by
    rw [run_slice_string_l W 9 s Tryd.underlying9 .i64 6 (by omega) (by omega), hr]; rfl
  have h6i : (6 : Int) < (s.size : Int) := by omega
  have HC := Lib.hid (refBig_any r hrs w)
  have HLO := Lib.hid hlo
  have HRL := Lib.hid hrl
  clear hlo hrl hr hh hp hrs
  go_enter Tryd.func31, Tryd.ntmps31
  go_wp2_with fail
  refine HC.out.mono ?_
  rintro e w1 ⟨z, rfl, hz, rfl⟩
  rw [HRL.out] at hz ⊢
  have HZ := Lib.hid hz
  clear hz
  generalize (bigL (s.data.toList.drop 6)) = o at HZ HLO ⊢
  go_wp2
  go_ret2
  refine ⟨z, by rw [HLO.out, Option.isSome_map]; rfl, fun n hn => ?_, Below.refl _ _⟩
  rw [HLO.out] at hn
  cases o with
  | none => cases hn
  | some m =>
    rw [HZ.out m rfl]
    simpa using hn
theorem word_parse (s : ByteArray) (hs : s.size ≤ 1099511627776) (hp : ¬ (6 < s.size ∧ Lib.hasPrefix s.data.toList wordM = true)) (w : World) :
    Calls Tryd.prog 31 #[.string s] w fun e w' => WordPost s.data.toList w e w' := by
  have hlo : parT s.data.toList = false → lineO s.data.toList = none := fun h => by
    unfold lineO
    rw [h, if_neg (by decide)]
    by_cases h1 : Lib.hasPrefix s.data.toList wordM = true
    · rw [if_pos h1]
      have h2 : ¬ 6 < s.size := fun e => hp ⟨e, h1⟩
      have h3 : s.data.toList.drop 6 = [] := List.drop_of_length_le (by have : s.data.toList.length = s.size := rfl; omega)
      rw [h3]; rfl
    · rw [if_neg h1]
  have hl2 : parT s.data.toList = true → lineO s.data.toList = some (encZ (saidO s.data.toList) (saidF s.data.toList 1) (saidF s.data.toList 2) (saidF s.data.toList 3) (saidF s.data.toList 4)) ∧ validB (saidO s.data.toList) (saidF s.data.toList 1) (saidF s.data.toList 2) (saidF s.data.toList 3) (saidF s.data.toList 4) = true := fun h => by
    refine ⟨by unfold lineO; rw [h, if_pos rfl], ?_⟩
    unfold parT at h
    simp only [Bool.and_eq_true] at h
    exact h.2
  have HP := Lib.hid (fun W => refParse_any s hs W)
  unfold parV parE at HP
  obtain ⟨l, hl⟩ : ∃ l, s.data.toList = l := ⟨_, rfl⟩
  rw [hl] at hlo hl2 HP ⊢
  have HS : 6 < s.size → Hid (∃ h : ByteArray, (h.toList == [46, 119, 111, 114, 100, 32]) = false ∧ ∀ W : World, (Instr.slice 9 (.string s) none (some (.int .i64 6)) none).run Tryd.prog W = .ok (.string h) W) := fun h6 => Lib.hid ⟨s.extract 0 6, by
    rw [ByteArray.toList_eq, take_six, beq_eq_false_iff_ne]
    intro e
    refine hp ⟨h6, ?_⟩
    rw [pre_take]
    exact decide_eq_true e, fun W => by rw [run_slice_string_h W 9 s Tryd.underlying9 .i64 6 (by omega) (by omega)]; rfl⟩
  clear hp hl
  cases ht : parT l
  · have HLO := Lib.hid (hlo ht)
    rw [ht, if_neg (by decide), if_neg (by decide)] at HP
    clear hlo hl2 ht
    by_cases h6 : 6 < s.size
    · obtain ⟨h, hne, hsl⟩ := (HS h6).out
      have h6i : (6 : Int) < (s.size : Int) := by omega
      clear HS
      go_enter Tryd.func31, Tryd.ntmps31
      go_wp2_with fail
      refine (HP.out _).mono ?_
      rintro e w1 ⟨rfl, hb⟩
      have hb2 := hb.trans ((ins_below 0 0 0 0 0 w1).mono hb.size)
      have HB := Lib.hid hb2
      clear hb hb2
      go_wp2
      go_ret2
      exact ⟨0, by rw [HLO.out]; rfl, fun n hn => (by rw [HLO.out] at hn; cases hn), HB.out⟩
    · have h6i : ¬ (6 : Int) < (s.size : Int) := by omega
      clear HS
      go_enter Tryd.func31, Tryd.ntmps31
      go_wp2_with fail
      refine (HP.out _).mono ?_
      rintro e w1 ⟨rfl, hb⟩
      have hb2 := hb.trans ((ins_below 0 0 0 0 0 w1).mono hb.size)
      have HB := Lib.hid hb2
      clear hb hb2
      go_wp2
      go_ret2
      exact ⟨0, by rw [HLO.out]; rfl, fun n hn => (by rw [HLO.out] at hn; cases hn), HB.out⟩
  · have HLO := Lib.hid (hl2 ht)
    rw [ht, if_pos rfl, if_pos rfl] at HP
    clear hlo hl2 ht
    generalize saidO l = o at HP HLO
    generalize saidF l 1 = d at HP HLO
    generalize saidF l 2 = a at HP HLO
    generalize saidF l 3 = b at HP HLO
    generalize saidF l 4 = m at HP HLO
    obtain ⟨x, hx⟩ : ∃ x, encZ o d a b m = x := ⟨_, rfl⟩
    have hE : encE o d a b m = 0 := by unfold encE; rw [if_pos HLO.out.2]
    have HEN := Lib.hid (fun W => refEnc_any o d a b m x 0 hx hE W)
    have HX := Lib.hid hx
    clear hx hE
    by_cases h6 : 6 < s.size
    · obtain ⟨h, hne, hsl⟩ := (HS h6).out
      have h6i : (6 : Int) < (s.size : Int) := by omega
      clear HS
      go_enter Tryd.func31, Tryd.ntmps31
      go_wp2_with fail
      refine (HP.out _).mono ?_
      rintro e w1 ⟨rfl, hb⟩
      have HB := Lib.hid (hb.trans ((ins_below o d a b m w1).mono hb.size))
      clear hb
      go_wp2_with fail
      refine (HEN.out _).mono ?_
      rintro e w2 ⟨rfl, hb2⟩
      have HB2 := Lib.hid (HB.out.trans (hb2.mono HB.out.size))
      clear hb2
      go_wp2
      go_ret2
      exact ⟨x, by rw [HLO.out.1]; rfl, fun n hn => (by rw [HLO.out.1, HX.out] at hn; injection hn), HB2.out⟩
    · have h6i : ¬ (6 : Int) < (s.size : Int) := by omega
      clear HS
      go_enter Tryd.func31, Tryd.ntmps31
      go_wp2_with fail
      refine (HP.out _).mono ?_
      rintro e w1 ⟨rfl, hb⟩
      have HB := Lib.hid (hb.trans ((ins_below o d a b m w1).mono hb.size))
      clear hb
      go_wp2_with fail
      refine (HEN.out _).mono ?_
      rintro e w2 ⟨rfl, hb2⟩
      have HB2 := Lib.hid (HB.out.trans (hb2.mono HB.out.size))
      clear hb2
      go_wp2
      go_ret2
      exact ⟨x, by rw [HLO.out.1]; rfl, fun n hn => (by rw [HLO.out.1, HX.out] at hn; injection hn), HB2.out⟩
theorem refWord_any (s : ByteArray) (hs : s.size ≤ 1099511627776) (w : World) :
    Calls Tryd.prog 31 #[.string s] w fun e w' => WordPost s.data.toList w e w' := by
  by_cases h : 6 < s.size ∧ Lib.hasPrefix s.data.toList wordM = true
  · exact word_big s hs h.1 h.2 w
  · exact word_parse s hs h w
end Go.Proofs.YtfdekfobcohcjaaDoor.As
