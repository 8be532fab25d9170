/- Stage 19, plainly: what an act leaves: no table is written by; a key has one translation. -/
import Derived.Test.YtcdiigdbjncpeaaJh
import Derived.Test.YtcdiigdbjncpeaaSs
namespace Go.Proofs.Ytcdiigdbjncpeaa.Sw
open Go.RowKit Ut
set_option linter.unusedVariables false

/-- no translation to a table has the right to write; each key has one -/
def Prot (l : List Ln) : Prop := ∀ x ∈ l, tabL l x.ep = true → bits .and .i64 x.er 2 = 0
def kyS (x : Ln) : Int × Int := (x.kr, x.kp)
def KeyU (l : List Ln) : Prop := (l.map kyS).Nodup
theorem is_iffS {x : Ln} {p q : Int} : x.is p q = true ↔ kyS x = (p, q) := by
  unfold Ln.is kyS
  simp
theorem not_isS {x : Ln} {p q : Int} : x.is p q = false ↔ kyS x ≠ (p, q) := by
  rw [← Bool.not_eq_true, is_iffS]
theorem tab_iff {l : List Ln} {p : Int} : tabL l p = true ↔ ∃ x ∈ l, x.rt = p ∨ x.lf = p := by
  unfold tabL Ln.by_
  rw [List.any_eq_true]
  simp
theorem tab_mono {l m : List Ln} {p : Int} (h : ∀ x ∈ l, x ∈ m) (ht : tabL l p = true) : tabL m p = true := by
  rw [tab_iff] at ht ⊢
  obtain ⟨x, hx, e⟩ := ht
  exact ⟨x, h x hx, e⟩
theorem prot_left {l : List Ln} (h : Prot l) (F : Ln → Bool) : Prot (l.filter F) := fun x hx ht => h x (List.mem_filter.1 hx).1 (tab_mono (fun y hy => (List.mem_filter.1 hy).1) ht)
theorem keyU_filter {l : List Ln} (h : KeyU l) (F : Ln → Bool) : KeyU (l.filter F) := List.Nodup.sublist (List.filter_sublist.map _) h
theorem add_split (l : List Ln) (x : Ln) (h : l.length ≤ 32) : ∃ ws, addS l x = ws ++ [x] ∧ ws.Sublist (withS l x.kr x.kp) ∧ ws.length = min (withS l x.kr x.kp).length 31 := by
  have hl := withS_len l x.kr x.kp
  unfold addS
  by_cases h2 : 32 < (withS l x.kr x.kp).length + 1
  · rw [if_pos h2]
    generalize withS l x.kr x.kp = ws at h2 hl
    match ws, h2, hl with
    | w :: ws, h2, hl => exact ⟨ws, rfl, List.sublist_cons_self .., by simp only [List.length_cons] at h2 hl ⊢; omega⟩
  · rw [if_neg h2]
    exact ⟨_, rfl, List.Sublist.refl _, by omega⟩
theorem out_map {α : Type} (m : List Ln) (r f : Int) (F : Ln → α) (hF : ∀ z, F (clrS z) = F z) : (outS m r f m.length).map F = m.map F := by
  unfold outS
  rw [List.take_length]
  apply List.ext_getElem?
  intro i
  rw [List.getElem?_map, List.getElem?_mapIdx, List.getElem?_map]
  cases m[i]? with
  | none => rfl
  | some z =>
    simp only [Option.map_some]
    congr 1
    split
    · exact hF z
    · rfl
theorem out_mem {m : List Ln} {r f : Int} {z : Ln} (h : z ∈ outS m r f m.length) : ∃ (i : Nat) (y : Ln), m[i]? = some y ∧ z = if loseB m r f i y = true then clrS y else y := by
  obtain ⟨i, hi⟩ := List.mem_iff_getElem?.1 h
  unfold outS at hi
  rw [List.take_length, List.getElem?_mapIdx] at hi
  cases hm : m[i]? with
  | none => rw [hm] at hi; simp at hi
  | some y =>
    rw [hm] at hi
    simp only [Option.map_some, Option.some.injEq] at hi
    exact ⟨i, y, hm, hi.symm⟩
theorem tab_out (m : List Ln) (r f p : Int) : tabL (outS m r f m.length) p = tabL m p := by
  have h1 : ∀ l : List Ln, tabL l p = (l.map fun x => x.by_ p).any id := fun l => by unfold tabL; rw [List.any_map]; rfl
  rw [h1, h1, out_map m r f _ (fun z => rfl)]
theorem fill_len (l : List Ln) (x : Ln) (h : l.length ≤ 32) : (fillS l x).length = min (withS l x.kr x.kp).length 31 + 1 := by
  obtain ⟨ws, e, _, hl⟩ := add_split l x h
  unfold fillS
  rw [outS_len, e, List.length_append, List.length_singleton, hl]
  omega
theorem keyU_fill {l : List Ln} (h : KeyU l) (hl : l.length ≤ 32) (x : Ln) : KeyU (fillS l x) := by
  obtain ⟨ws, e, hs, _⟩ := add_split l x hl
  unfold KeyU fillS
  rw [out_map _ _ _ _ (fun z => rfl), e, List.map_append, List.nodup_append]
  refine ⟨List.Nodup.sublist (hs.map _) (keyU_filter h _), by simp, fun a ha b hb hab => ?_⟩
  simp only [List.map_cons, List.map_nil, List.mem_singleton] at hb
  obtain ⟨y, hy, rfl⟩ := List.mem_map.1 ha
  have := (List.mem_filter.1 (hs.subset hy)).2
  rw [Bool.not_eq_true', not_isS] at this
  exact this (hab.trans hb)
theorem prot_fill {l : List Ln} (h : Prot l) (hl : l.length ≤ 32) (x : Ln) : Prot (fillS l x) := by
  obtain ⟨ws, e, hs, _⟩ := add_split l x hl
  intro z hz ht
  unfold fillS at hz ht
  rw [tab_out] at ht
  obtain ⟨i, y, hy, rfl⟩ := out_mem hz
  rcases lose_cases (addS l x) x.rt x.lf i y with ⟨_, c⟩ | ⟨_, _, c⟩ | ⟨c1, c2, c3, c⟩ | ⟨c1, c2, c3, c⟩
  · rw [if_pos c]; exact off_two2 _
  · rw [if_pos c]; exact off_two2 _
  · by_cases c4 : loseB (addS l x) x.rt x.lf i y = true
    · rw [if_pos c4]; exact off_two2 _
    · rw [if_neg c4] at ht
      rw [c] at c4
      exact absurd ht c4
  · have c4 : ¬ loseB (addS l x) x.rt x.lf i y = true := by rw [c]; decide
    rw [if_neg c4] at ht ⊢
    rw [e, List.length_append, List.length_singleton] at c3
    rw [e] at hy ht
    have hi : i < ws.length := by
      have := (List.getElem?_eq_some_iff.1 hy).1
      rw [List.length_append, List.length_singleton] at this
      omega
    rw [List.getElem?_append_left hi] at hy
    have hm : ∀ z ∈ ws, z ∈ l := fun z hz => (List.mem_filter.1 (hs.subset hz)).1
    refine h y (hm y (List.mem_of_getElem? hy)) ?_
    rw [tab_iff] at ht ⊢
    obtain ⟨u, hu, hp⟩ := ht
    rcases List.mem_append.1 hu with hu | hu
    · exact ⟨u, hm u hu, hp⟩
    · rw [List.mem_singleton] at hu
      subst hu
      simp only [beq_eq_false_iff_ne, ne_eq] at c1 c2
      rcases hp with hp | hp
      · exact absurd hp.symm c1
      · exact absurd hp.symm c2
theorem fill_le (l : List Ln) (x : Ln) (h : l.length ≤ 32) : (fillS l x).length ≤ 32 := by rw [fill_len l x h]; omega
/-- what holds behind any acts -/
structure Inv19 (l : List Ln) : Prop where
  p : Prot l
  u : KeyU l
  n : l.length ≤ 32
theorem Inv19.nil : Inv19 [] := ⟨(fun x hx => by cases hx), (by unfold KeyU; simp), (by simp)⟩
theorem Inv19.filter {l : List Ln} (h : Inv19 l) (F : Ln → Bool) : Inv19 (l.filter F) := ⟨prot_left h.p F, keyU_filter h.u F, Nat.le_trans (List.length_filter_le _ _) h.n⟩
theorem Inv19.fill {l : List Ln} (h : Inv19 l) (x : Ln) : Inv19 (fillS l x) := ⟨prot_fill h.p h.n x, keyU_fill h.u h.n x, fill_le l x h.n⟩
theorem Inv19.act {l : List Ln} (h : Inv19 l) (x : Ak) : Inv19 (actS l x) := by
  unfold actS
  split
  · exact h.filter _
  split
  · exact h.filter _
  split
  · exact Inv19.nil
  split
  · exact h.fill _
  · exact h
end Go.Proofs.Ytcdiigdbjncpeaa.Sw
