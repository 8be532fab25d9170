/- Package pool: the library's heaps over pool.lowest: which method is meant; up. -/
import Derived.Test.YthabilokbfieiaaKa
namespace Go.Proofs.Ythabilokbfieiaa.Lo
open Go.RowKit Ut Hp
set_option linter.unusedVariables false

theorem run_nilChk {P : Program} (ats : Array TypeId) (t : TypeId) (a : Addr) (s1 s2 : String) (W : World) : (Builtin.ssaWrapNilChk_ ats t #[.pointer (some a), strVal s1, strVal s2]).run P W = .ok (.pointer (some a)) W := rfl
/-- .. with a pointer receiver: the pointer itself -/
theorem run_method_ptr {P : Program} (n t elem f : Nat) (name : String) (a : Addr) (W : World)
    (hm : ((P.info? t).bind fun i => i.methods.find? (·.name == name)).map (fun m => (m.path.toList, m.func)) = some ([], some (f, true))) (hu : P.underlying t = some (.pointer elem)) :
    (method (n + 1) t (.pointer (some a)) name).run P W = .ok (f, .pointer (some a)) W := by
  cases hi : P.info? t with
  | none => rw [hi] at hm; cases hm
  | some i =>
    rw [hi] at hm
    simp only [Option.bind_some] at hm
    cases hf : i.methods.find? (·.name == name) with
    | none => rw [hf] at hm; cases hm
    | some m =>
      rw [hf] at hm
      simp only [Option.map_some, Option.some.injEq, Prod.mk.injEq] at hm
      obtain ⟨hp, hfn⟩ := hm
      have hpe : m.path = #[] := by
        cases hq : m.path with
        | mk l => rw [hq] at hp; simp at hp; rw [hp]
      unfold method
      simp [typeInfo, hi, hf, hpe, follow, hfn, receiverAt, run_underlying hu, Place.get]
theorem method_less (a : Addr) (n : Nat) (W : World) : (method (n + 1) 80 (.pointer (some a)) "Less").run Try.prog W = .ok (65, .pointer (some a)) W :=
  run_method_ptr n _ _ _ _ a W (by kernel_rfl) Try.underlying80
theorem method_swap (a : Addr) (n : Nat) (W : World) : (method (n + 1) 80 (.pointer (some a)) "Swap").run Try.prog W = .ok (68, .pointer (some a)) W :=
  run_method_ptr n _ _ _ _ a W (by kernel_rfl) Try.underlying80
theorem method_len (a : Addr) (n : Nat) (W : World) : (method (n + 1) 80 (.pointer (some a)) "Len").run Try.prog W = .ok (38, .pointer (some a)) W :=
  run_method_ptr n _ _ _ _ a W (by kernel_rfl) Try.underlying80
theorem method_push (a : Addr) (n : Nat) (W : World) : (method (n + 1) 80 (.pointer (some a)) "Push").run Try.prog W = .ok (67, .pointer (some a)) W :=
  run_method_ptr n _ _ _ _ a W (by kernel_rfl) Try.underlying80
theorem method_pop (a : Addr) (n : Nat) (W : World) : (method (n + 1) 80 (.pointer (some a)) "Pop").run Try.prog W = .ok (66, .pointer (some a)) W :=
  run_method_ptr n _ _ _ _ a W (by kernel_rfl) Try.underlying80

theorem upL_zero (l : List Int) : upL l 0 = l := by unfold upL; simp
theorem upL_no {l : List Int} {k : Nat} (h : ¬ l.getD k 0 < l.getD ((k - 1) / 2) 0) : upL l k = l := by
  unfold upL
  split
  · rfl
  · first | rfl | rw [if_neg h]
theorem upL_yes {l : List Int} {k : Nat} (hk : ¬ k = 0) (h : l.getD k 0 < l.getD ((k - 1) / 2) 0) : upL l k = upL (swapL l ((k - 1) / 2) k) ((k - 1) / 2) := by
  conv => lhs; unfold upL
  rw [dif_neg hk, if_pos h]

theorem up_facts (k n : Nat) (hk0 : ¬ k = 0) (hk : k < n) (hc : n ≤ 9223372036854775807) : ∃ p : Nat, p = (k - 1) / 2 ∧ ((k : Int) - 1) / 2 = (p : Int) ∧ ((p : Int) == (k : Int)) = false ∧ (p == k) = false ∧ p < n ∧ p < k := by
  exact ⟨(k - 1) / 2, rfl, by omega, by simp; omega, by simp; omega, by omega, by omega⟩

set_option maxRecDepth 100000 in
theorem up_any (ab ao n j : Nat) (l : List Int) (W : World) (h : HB W ab ao l) (hn : l.length = n) (hj : j < n) :
    Calls Try.prog 46 #[.iface 80 (.pointer (some ⟨ab, ao, none⟩)), .int .i64 j] W fun e W' => e = .returned (.tuple #[]) ∧ HB W' ab ao (upL l j) ∧ Trn W W' ab ao := by
  have HH := Lib.hid h
  have hc : n ≤ 32 := by have := h.1; omega
  clear h
  go_enter Try.func46, Try.ntmps46
  go_wp2
  go_loopw [1] (fun jj wr => ∃ (k : Nat) (l2 : List Int), jj = .int .i64 k ∧ k < n ∧ l2.length = n ∧ Hid (HB wr ab ao l2) ∧ Hid (upL l2 k = upL l j) ∧ Hid (Trn W wr ab ao)) (fun jj _ => (intOf jj).toNat)
  case atStart => exact ⟨j, l, rfl, hj, hn, HH, rfl, Trn.refl _ _ _⟩
  case round =>
    obtain ⟨k, l2, rfl, hk, hl2, H2, HU, HG⟩ := hrel
    by_cases hk0 : k = 0
    · subst hk0
      have HE := Lib.hid (show upL l j = l2 by rw [← HU.out, upL_zero])
      go_wp2
      go_end0
      exact ⟨rfl, by rw [HE.out]; exact H2.out, HG.out⟩
    · obtain ⟨p, hp, d0, d3, d4, hpn, hpk⟩ := up_facts k n hk0 hk (by omega)
      have hmL := fun m => method_less ⟨ab, ao, none⟩ m wr
      have HK := Lib.hid (show k < l2.length by omega)
      have HPL := Lib.hid (show p < l2.length by omega)
      by_cases hlt : l2.getD k 0 < l2.getD p 0
      · have HU2 := Lib.hid (show upL (swapL l2 p k) p = upL l j by rw [← HU.out, upL_yes hk0 (by rw [← hp]; exact hlt), ← hp])
        have hr : true = decide (l2.getD k 0 < l2.getD p 0) := by simp only [hlt]; rfl
        have HR := Lib.hid hr
        clear hlt hr hp HU
        go_wp2_with fail
        refine (less_any ab ao k p l2 wr H2.out HK.out HPL.out true HR.out).mono ?_
        rintro e w3 ⟨rfl, hb3⟩
        have H3 := Lib.hid (H2.out.below hb3)
        have HG3 := Lib.hid (HG.out.trans (Trn.of_below H2.out.lt hb3))
        have hmS := fun m => method_swap ⟨ab, ao, none⟩ m w3
        clear hb3 hmL
        go_wp2_with fail
        refine (swap_any ab ao p k l2 w3 H3.out HPL.out HK.out).mono ?_
        rintro e w4 ⟨rfl, h4, hg4⟩
        have H4 := Lib.hid h4
        have HG4 := Lib.hid (HG3.out.trans hg4)
        clear h4 hg4 hmS
        go_wp2
        go_roundw
        case rel => exact ⟨p, swapL l2 p k, rfl, hpn, (length_swapL _ _ _).trans hl2, H4, HU2, HG4⟩
        case measure => simp [intOf]; exact hpk
      · have HE := Lib.hid (show upL l j = l2 by rw [← HU.out, upL_no (by rw [← hp]; exact hlt)])
        have hr : false = decide (l2.getD k 0 < l2.getD p 0) := by simp only [hlt]; rfl
        have HR := Lib.hid hr
        clear hlt hr hp HU
        go_wp2_with fail
        refine (less_any ab ao k p l2 wr H2.out HK.out HPL.out false HR.out).mono ?_
        rintro e w3 ⟨rfl, hb3⟩
        have H3 := Lib.hid (H2.out.below hb3)
        have HG3 := Lib.hid (HG.out.trans (Trn.of_below H2.out.lt hb3))
        clear hb3 hmL
        go_wp2
        go_end0
        exact ⟨rfl, by rw [HE.out]; exact H3.out, HG3.out⟩
end Go.Proofs.Ythabilokbfieiaa.Lo
