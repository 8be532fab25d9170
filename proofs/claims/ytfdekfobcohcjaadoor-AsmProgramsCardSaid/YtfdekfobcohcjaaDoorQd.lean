/- Package asm: Text of both kinds of instructions. -/
import Derived.Test.YtfdekfobcohcjaaDoorQa
import Derived.Test.YtfdekfobcohcjaaDoorQb
import Derived.Test.YtfdekfobcohcjaaDoorQc
namespace Go.Proofs.YtfdekfobcohcjaaDoor.As
open Go.RowKit Ut Is Pl
set_option linter.unusedVariables false
set_option maxRecDepth 100000
set_option maxHeartbeats 4000000

theorem index_names : ∀ (n : Nat) (hn : n < 42) (W : World), (Instr.index 46 (.agg (nameL.map encS).toArray) (.int .i64 n)).run Tryd.prog W = .ok (.string (tb (nameAt n))) W := by
  intro n hn W
  rcases (show n = 0 ∨ n = 1 ∨ n = 2 ∨ n = 3 ∨ n = 4 ∨ n = 5 ∨ n = 6 ∨ n = 7 ∨ n = 8 ∨ n = 9 ∨ n = 10 ∨ n = 11 ∨ n = 12 ∨ n = 13 ∨ n = 14 ∨ n = 15 ∨ n = 16 ∨ n = 17 ∨ n = 18 ∨ n = 19 ∨ n = 20 ∨ n = 21 ∨ n = 22 ∨ n = 23 ∨ n = 24 ∨ n = 25 ∨ n = 26 ∨ n = 27 ∨ n = 28 ∨ n = 29 ∨ n = 30 ∨ n = 31 ∨ n = 32 ∨ n = 33 ∨ n = 34 ∨ n = 35 ∨ n = 36 ∨ n = 37 ∨ n = 38 ∨ n = 39 ∨ n = 40 ∨ n = 41 by omega) with rfl | rfl | rfl | rfl | rfl | rfl | rfl | rfl | rfl | rfl | rfl | rfl | rfl | rfl | rfl | rfl | rfl | rfl | rfl | rfl | rfl | rfl | rfl | rfl | rfl | rfl | rfl | rfl | rfl | rfl | rfl | rfl | rfl | rfl | rfl | rfl | rfl | rfl | rfl | rfl | rfl | rfl
  all_goals kernel_rfl
theorem InsAt.fld {w : World} {p : Nat} {o d a b m : Int} (h : InsAt w p o d a b m) (j : Nat) (h1 : 1 ≤ j) (h4 : j ≤ 4) : w.cell? ⟨p, j, none⟩ = some (.int .i64 (fld d a b m j)) := by
  obtain ⟨_, c1, c2, c3, c4⟩ := h.cells
  rcases (show j = 1 ∨ j = 2 ∨ j = 3 ∨ j = 4 by omega) with rfl | rfl | rfl | rfl
  · exact c1
  · exact c2
  · exact c3
  · exact c4
theorem text_bad (o d a b m : Int) (hv : validB o d a b m = false) (w : World) (hw : Held w) :
    Calls Tryd.prog 7 #[insV o d a b m] w fun e w' => e = .returned (.tuple #[.string ⟨#[]⟩, .int .i64 6]) ∧ Below w.heap.size w w' := by
  have hb := Lib.hid (ins_below o d a b m w)
  have HT := Lib.hid (hw.has.more hb.out)
  have HK : Hid (∀ w, HasT w → Calls Tryd.prog 17 #[insV o d a b m] w fun e w' => e = .returned (.bool false) ∧ Below w.heap.size w w') := Lib.hid fun w hw => valid_any o d a b m false hv w hw
  clear hv hw
  go_enter Tryd.func7, Tryd.ntmps7
  go_wp2_with fail
  refine (HK.out _ HT.out).mono ?_
  rintro e w1 ⟨rfl, hb1⟩
  go_wp2
  go_ret2
  exact ⟨rfl, hb.out.trans (hb1.mono hb.out.size)⟩
theorem parts_at (n : Nat) (h : n < 42) (k : Nat) (hk : k < (partsN n).length) : 1 ≤ ((partsN n).getD k (0, [])).1 ∧ ((partsN n).getD k (0, [])).1 ≤ 4 ∧ (((partsN n).getD k (0, [])).2 = [114] ∨ ((partsN n).getD k (0, [])).2 = []) := by
  have hm : (partsN n).getD k (0, []) ∈ partsN n := by
    rw [List.getD_eq_getElem?_getD, List.getElem?_eq_getElem hk]; exact List.getElem_mem hk
  refine ⟨?_, ?_, parts_marks hm⟩
  all_goals
    generalize (partsN n).getD k (0, []) = q at hm
    unfold partsN at hm
    simp only [List.mem_append] at hm
    rcases hm with hm | hm | hm | hm
    all_goals
      split at hm
      · simp at hm; subst hm; decide
      · simp at hm
theorem encPs_at (p : Nat) : ∀ (l : List (Nat × List UInt8)) (k : Nat), k < l.length → (encPs p l)[k * 2]? = some (.pointer (some ⟨p, (l.getD k (0, [])).1, none⟩)) ∧ (encPs p l)[k * 2 + 1]? = some (.string (tb (l.getD k (0, [])).2))
  | [], k, h => absurd h (by simp)
  | q :: l, 0, _ => by simp [encPs, encPt]
  | q :: l, k + 1, h => by
    have := encPs_at p l k (by simpa using h)
    have e1 : (k + 1) * 2 = k * 2 + 2 := by omega
    have e2 : (k + 1) * 2 + 1 = k * 2 + 1 + 2 := by omega
    rw [e1, show k * 2 + 2 + 1 = k * 2 + 1 + 2 by omega]
    simpa [encPs, encPt] using this
/-- a row of parts, read -/
theorem OwnP.row {w : World} {B p : Nat} {v : Value} {l : List (Nat × List UInt8)} (h : OwnP w B p v l) : ∃ a cap, v = .slice a l.length cap ∧ l.length ≤ cap ∧ cap ≤ maxLen ∧ ∀ k, k < l.length → ∃ g, a = some ⟨g, 0, none⟩ ∧ g < w.heap.size ∧ w.cell? ⟨g, k * 2, none⟩ = some (.pointer (some ⟨p, (l.getD k (0, [])).1, none⟩)) ∧ w.cell? ⟨g, k * 2 + 1, none⟩ = some (.string (tb (l.getD k (0, [])).2)) := by
  rcases h.2 with ⟨rfl, h0⟩ | ⟨g, cap, cur, rfl, hb, hg, hnc, hm, hsz, hcur⟩
  · have hl : l = [] := by
      cases l with
      | nil => rfl
      | cons q l => simp at h0
    subst hl
    exact ⟨none, 0, rfl, by simp, by unfold maxLen; omega, fun k hk => absurd hk (by simp)⟩
  · refine ⟨some ⟨g, 0, none⟩, cap, rfl, hnc, hm, fun k hk => ⟨g, rfl, (Array.getElem?_eq_some_iff.1 hg).1, ?_, ?_⟩⟩
    all_goals
      have hlen : (encPs p l).length = l.length * 2 := h.1
      rw [World.ownsRow.cellAt h _ (by omega)]
    · exact (encPs_at p l k hk).1
    · exact (encPs_at p l k hk).2
end Go.Proofs.YtfdekfobcohcjaaDoor.As
