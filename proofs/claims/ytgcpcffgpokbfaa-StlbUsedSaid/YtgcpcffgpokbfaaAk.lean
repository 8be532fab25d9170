/- Translations and when each was used last, in any order (us), beside the document's list (l: whose last use is longest ago first); plain facts. -/
import Derived.Test.YtgcpcffgpokbfaaAe
import Derived.Test.YtgcpcffgpokbfaaAg
namespace Go.Proofs.Ytgcpcffgpokbfaa.Sb
set_option linter.unusedVariables false

/-- by last use, each at another time -/
def Ord (o : List (Rc × Int)) : Prop := o.Pairwise fun a b => a.2 < b.2
/-- each key once -/
def Once (l : List Rc) : Prop := l.Pairwise fun a b => ¬ (a.kr = b.kr ∧ a.kp = b.kp)
/-- us, put in order, is l -/
def Rel (us : List (Rc × Int)) (l : List Rc) : Prop := Once l ∧ ∃ o, o.Perm us ∧ Ord o ∧ l = o.map Prod.fst
section
variable {us vs : List (Rc × Int)} {l : List Rc}
theorem Rel.nil : Rel [] [] := ⟨List.Pairwise.nil, [], List.Perm.refl _, List.Pairwise.nil, rfl⟩
theorem Rel.perm (h : Rel us l) (hp : us.Perm vs) : Rel vs l := by
  obtain ⟨h0, o, h1, h2, h3⟩ := h
  exact ⟨h0, o, h1.trans hp, h2, h3⟩
theorem Rel.len (h : Rel us l) : us.length = l.length := by
  obtain ⟨_, o, h1, _, rfl⟩ := h
  rw [List.length_map, h1.length_eq]
theorem Rel.mem (h : Rel us l) {x : Rc} : x ∈ l ↔ ∃ s, (x, s) ∈ us := by
  obtain ⟨_, o, h1, _, rfl⟩ := h
  rw [List.mem_map]
  constructor
  · rintro ⟨⟨y, s⟩, hy, rfl⟩; exact ⟨s, h1.mem_iff.1 hy⟩
  · rintro ⟨s, hs⟩; exact ⟨(x, s), h1.mem_iff.2 hs, rfl⟩
theorem is_iff {x : Rc} {p q : Int} : x.is p q = true ↔ x.kr = p ∧ x.kp = q := by unfold Rc.is; simp
/-- a key's entry is found at whatever place it lies -/
theorem Rel.find_some (h : Rel us l) {u : Rc × Int} (hu : u ∈ us) {p q : Int} (hi : u.1.is p q = true) : findL l p q = some u.1 := by
  have hm : u.1 ∈ l := h.mem.2 ⟨u.2, hu⟩
  have ho := h.1
  unfold findL
  clear h hu
  induction l with
  | nil => cases hm
  | cons x l ih =>
    rw [List.find?_cons]
    rcases List.mem_cons.1 hm with rfl | hm2
    · rw [hi]
    · have hx : x.is p q = false := by
        cases hxx : x.is p q with
        | false => rfl
        | true =>
          have h1 := (List.pairwise_cons.1 ho).1 _ hm2
          have h2 := is_iff.1 hxx
          have h3 := is_iff.1 hi
          exact absurd ⟨h2.1.trans h3.1.symm, h2.2.trans h3.2.symm⟩ h1
      rw [hx]
      exact ih hm2 (List.pairwise_cons.1 ho).2
theorem Rel.find_none (h : Rel us l) {p q : Int} (hi : ∀ u ∈ us, u.1.is p q = false) : findL l p q = none := by
  refine Sb.find_none fun y hy => ?_
  obtain ⟨s, hs⟩ := h.mem.1 hy
  exact hi _ hs
/-- all but some -/
theorem Rel.filter (h : Rel us l) (f : Rc → Bool) : Rel (us.filter fun u => f u.1) (l.filter f) := by
  obtain ⟨h0, o, h1, h2, rfl⟩ := h
  refine ⟨h0.filter _, o.filter fun u => f u.1, h1.filter _, h2.filter _, ?_⟩
  rw [List.filter_map]
  rfl
/-- entries turn, keys don't -/
theorem Rel.map (h : Rel us l) (f : Rc → Rc) (hf : ∀ x, (f x).kr = x.kr ∧ (f x).kp = x.kp) : Rel (us.map fun u => (f u.1, u.2)) (l.map f) := by
  obtain ⟨h0, o, h1, h2, rfl⟩ := h
  refine ⟨?_, o.map fun u => (f u.1, u.2), h1.map _, ?_, ?_⟩
  · unfold Once
    rw [List.pairwise_map]
    refine h0.imp fun {a b} hab => ?_
    rw [(hf a).1, (hf a).2, (hf b).1, (hf b).2]
    exact hab
  · unfold Ord
    rw [List.pairwise_map]
    exact h2.imp fun {a b} hab => hab
  · rw [List.map_map, List.map_map]
    rfl
/-- one that is used now -/
theorem Rel.add (h : Rel us l) (x : Rc) (s : Int) (hs : ∀ u ∈ us, u.2 < s) (hk : ∀ u ∈ us, ¬ (u.1.kr = x.kr ∧ u.1.kp = x.kp)) : Rel ((x, s) :: us) (l ++ [x]) := by
  have hm := fun y => h.mem (x := y)
  obtain ⟨h0, o, h1, h2, rfl⟩ := h
  refine ⟨?_, o ++ [(x, s)], ?_, ?_, by simp⟩
  · unfold Once
    rw [List.pairwise_append]
    refine ⟨h0, List.pairwise_singleton _ _, fun a ha b hb => ?_⟩
    simp at hb
    subst hb
    obtain ⟨t, ht⟩ := (hm a).1 ha
    exact hk _ ht
  · exact (List.perm_append_comm (l₂ := [(x, s)])).trans (h1.cons _)
  · unfold Ord
    rw [List.pairwise_append]
    refine ⟨h2, List.pairwise_singleton _ _, fun a ha b hb => ?_⟩
    simp at hb
    subst hb
    exact hs a (h1.mem_iff.1 ha)
/-- one is taken out -/
theorem Rel.rem {u : Rc × Int} (h : Rel (u :: us) l) : Rel us (withoutL l u.1.kr u.1.kp) := by
  have hf := h.filter fun x => !x.is u.1.kr u.1.kp
  have hu : u.1.is u.1.kr u.1.kp = true := is_iff.2 ⟨rfl, rfl⟩
  have hall : ∀ v ∈ us, v.1.is u.1.kr u.1.kp = false := fun v hv => by
    cases hvv : v.1.is u.1.kr u.1.kp with
    | false => rfl
    | true =>
      obtain ⟨h0, o, h1, h2, rfl⟩ := h
      have hn : (u :: us).Pairwise fun a b => ¬ (a.1.kr = b.1.kr ∧ a.1.kp = b.1.kp) := by
        have ho : o.Pairwise fun a b => ¬ (a.1.kr = b.1.kr ∧ a.1.kp = b.1.kp) := by
          unfold Once at h0
          rw [List.pairwise_map] at h0
          exact h0
        exact (h1.pairwise_iff (fun {a b} hab hba => hab ⟨hba.1.symm, hba.2.symm⟩)).1 ho
      have := (List.pairwise_cons.1 hn).1 v hv
      have h3 := is_iff.1 hvv
      exact absurd ⟨h3.1.symm, h3.2.symm⟩ this
  have e : (u :: us).filter (fun v => !v.1.is u.1.kr u.1.kp) = us := by
    rw [List.filter_cons_of_neg (by simp [hu])]
    exact List.filter_eq_self.2 fun v hv => by simp [hall v hv]
  rw [e] at hf
  exact hf
/-- the one that was used least lately is the document's first -/
theorem Rel.least {u : Rc × Int} (h : Rel (u :: us) l) (hl : ∀ v ∈ us, u.2 ≤ v.2) : l = u.1 :: l.drop 1 ∧ Rel us (l.drop 1) := by
  obtain ⟨h0, o, h1, h2, rfl⟩ := h
  match o, h1, h2, h0 with
  | [], h1, _, _ => exact absurd h1.length_eq (by simp)
  | a :: o, h1, h2, h0 =>
    have ha : a = u := by
      have hu : u ∈ a :: o := h1.mem_iff.2 (List.mem_cons_self ..)
      rcases List.mem_cons.1 hu with e | hu
      · exact e.symm
      · have h3 := (List.pairwise_cons.1 h2).1 u hu
        have ha2 : a ∈ u :: us := h1.mem_iff.1 (List.mem_cons_self ..)
        rcases List.mem_cons.1 ha2 with e | ha2
        · exact e
        · have := hl a ha2; omega
    subst ha
    refine ⟨by simp, (List.pairwise_cons.1 h0).2, o, (List.perm_cons a).1 h1, (List.pairwise_cons.1 h2).2, by simp⟩
end
end Go.Proofs.Ytgcpcffgpokbfaa.Sb
