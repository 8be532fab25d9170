/- Several texts in one: Ad Ae Ag Ak -/
import Derived.Test.YteaincdeoajkeaaGreatDoorZ28
import Derived.Deep.DeepCutAuto
import Derived.Deep.CutRange
import Derived.Deep.RegionLaw
section
/- The document's translations: Put, Drop. -/
namespace Go.Proofs.YteaincdeoajkeaaGreatDoor.Sb
open Go.RowKit Ut
set_option maxRecDepth 100000
set_option linter.unusedVariables false
set_option maxHeartbeats 4000000

/-- one record more, out of any slice of one -/
theorem push_at {w0 w : World} {B : Nat} {v : Value} {xs : List Rc} (hown : OwnT 5 w B 52 v (xs.map Rc.l)) (x : Rc) (ad : Addr) (c : Nat) (hn : ∀ (j : Nat) (u : Value), (encI x.l)[j]? = some u → w.cell? (ad.add j) = some u) (hl : xs.length + 1 ≤ 1000000) (hB : B ≤ w.heap.size) (hb : Below B w0 w) :
    ∃ a cap w', (Builtin.append_ #[45, 45] 45 #[v, .slice (some ad) 1 c]).run Tryz.prog w = .ok (.slice a (xs.length + 1) cap) w' ∧
      OwnT 5 w' B 52 (.slice a (xs.length + 1) cap) ((xs ++ [x]).map Rc.l) ∧ Below B w0 w' ∧ w.heap.size ≤ w'.heap.size := by
  obtain ⟨i, hi, hz, hs, hby⟩ := info_parts kept_info
  obtain ⟨v', w', hrun, h2, h3, _, h5⟩ := run_append_own_at (P := Tryz.prog) _ B 45 45 52 i _ 5 40 Tryz.underlying45 hi hz hs hby rfl (by decide) v (xs.map Rc.l).length _ hown.1 ad 1 c (encI x.l) rfl hn
    (fun u hu => by obtain ⟨z, _, rfl⟩ := List.mem_map.1 hu; rfl) (by rw [List.length_map]; unfold maxLen; omega) (by rw [List.length_map]; omega) hB
  have hown2 : OwnT 5 w' B 52 v' ((xs ++ [x]).map Rc.l) := by
    refine ⟨?_, fun q hq => ?_⟩
    · rw [List.map_append, show List.map Rc.l [x] = [x.l] from rfl, encR_snoc, List.length_append]
      exact h2
    · obtain ⟨c, _, rfl⟩ := List.mem_map.1 hq
      rfl
  obtain ⟨a, cap, hv, _, _, _, _, _⟩ := RcRow.own hown2
  rw [List.length_append] at hv
  have hbw : Below B w0 w' := hb.grown h3 hB fun q hq => (World.ownsRow.lt hown.1 q hq).1
  subst hv
  exact ⟨a, cap, w', hrun, hown2, hbw, h3.size⟩
section
variable {w w0 : World} {g n cap k c B : Nat} {room : Int} {a b : Option Addr} {l xs : List Rc}
end
end Go.Proofs.YteaincdeoajkeaaGreatDoor.Sb
end
section
/- The document's translations: Put. -/
namespace Go.Proofs.YteaincdeoajkeaaGreatDoor.Sb
open Go.RowKit Ut
set_option maxRecDepth 100000
set_option linter.unusedVariables false
set_option maxHeartbeats 4000000

def putL (room : Int) (l : List Rc) (x : Rc) : List Rc := if (room : Int) < ((withoutL l x.kr x.kp).length + 1 : Nat) then (withoutL l x.kr x.kp ++ [x]).drop 1 else withoutL l x.kr x.kp ++ [x]
theorem RcRow.tail {w : World} {y : Addr} {xs : List Rc} {c : Nat} (h : RcRow w (some y) xs) (hc : c = 1 → xs.length ≤ 1) : RcRow w (if c = 1 then some y else some ⟨y.block, y.off + 5, none⟩) (xs.drop 1) := fun i x hx => by
  rw [List.getElem?_drop] at hx
  have hi := (List.getElem?_eq_some_iff.1 hx).1
  have h1 : ¬ c = 1 := fun e => by have := hc e; omega
  rw [if_neg h1]
  obtain ⟨y', e, hy, hcell⟩ := h (1 + i) x hx
  injection e with e
  subst e
  refine ⟨_, rfl, hy, fun j z hz => ?_⟩
  have e5 : (⟨y.block, y.off + 5, none⟩ : Addr) = y.add 5 := by unfold Addr.add; rw [if_neg (by decide)]
  rw [e5, add_of_add, show 5 + (i * 5 + j) = (1 + i) * 5 + j by omega]
  exact hcell j z hz
section
variable {g n cap : Nat} {room : Int} {a : Option Addr} {l : List Rc}
end
end Go.Proofs.YteaincdeoajkeaaGreatDoor.Sb
end
section
/- The document's translations: Gone, Narrow. -/
namespace Go.Proofs.YteaincdeoajkeaaGreatDoor.Sb
open Go.RowKit Ut
set_option maxRecDepth 100000
set_option linter.unusedVariables false
set_option maxHeartbeats 4000000

def goneL (l : List Rc) (pg : Int) : List Rc := l.filter fun x => !(x.ep == pg)
theorem gone_snoc {l : List Rc} {pg : Int} {i : Nat} {x : Rc} (hx : l[i]? = some x) : goneL (l.take (i + 1)) pg = goneL (l.take i) pg ++ (if (x.ep == pg) = true then [] else [x]) := by
  unfold goneL
  rw [List.take_add_one, hx, List.filter_append]
  by_cases h : (x.ep == pg) = true
  · rw [if_pos h]; simp [h]
  · rw [if_neg h]; simp [h]
theorem gone_len (l : List Rc) (pg : Int) : (goneL l pg).length ≤ l.length := List.length_filter_le _ _
/-- one whose page it is loses RWrite -/
def hadB (x : Rc) (pg : Int) : Bool := (x.ep == pg) && !(bits .and .i64 x.er 2 == 0)
def narX (pg : Int) (x : Rc) : Rc := if hadB x pg = true then { x with er := wrap64 (x.er - 2) } else x
def narL (l : List Rc) (pg : Int) : List Rc := l.map (narX pg)
def narN (l : List Rc) (pg : Int) : Nat := l.countP fun x => hadB x pg
theorem nar_snoc {l : List Rc} {pg : Int} {i : Nat} {x : Rc} (hx : l[i]? = some x) : narL (l.take (i + 1)) pg = narL (l.take i) pg ++ [narX pg x] ∧ narN (l.take (i + 1)) pg = narN (l.take i) pg + (if hadB x pg = true then 1 else 0) := by
  unfold narL narN
  rw [List.take_add_one, hx]
  constructor
  · simp
  · simp [List.countP_append, List.countP_cons]
section
variable {g n cap : Nat} {room : Int} {a : Option Addr} {l : List Rc}
end
end Go.Proofs.YteaincdeoajkeaaGreatDoor.Sb
end
section
/- Translations and when each was used last, in any order (us), beside the document's list (l: whose last use is longest ago first); plain facts. -/
namespace Go.Proofs.YteaincdeoajkeaaGreatDoor.Sb
set_option linter.unusedVariables false

/-- by last use, each at another time -/
def Ord (o : List (Rc × Int)) : Prop := o.Pairwise fun a b => a.2 < b.2
/-- each key once -/
def Once (l : List Rc) : Prop := l.Pairwise fun a b => ¬ (a.kr = b.kr ∧ a.kp = b.kp)
/-- us, put in order, is l -/
def Rel (us : List (Rc × Int)) (l : List Rc) : Prop := Once l ∧ ∃ o, o.Perm us ∧ Ord o ∧ l = o.map Prod.fst
section
variable {us vs : List (Rc × Int)} {l : List Rc}
theorem Rel.nil : Rel [] [] := ⟨List.Pairwise.nil, [], List.Perm.refl _, List.Pairwise.nil, rfl⟩
theorem Rel.perm (h : Rel us l) (hp : us.Perm vs) : Rel vs l := by
  obtain ⟨h0, o, h1, h2, h3⟩ := h
  exact ⟨h0, o, h1.trans hp, h2, h3⟩
theorem Rel.len (h : Rel us l) : us.length = l.length := by
  obtain ⟨_, o, h1, _, rfl⟩ := h
  rw [List.length_map, h1.length_eq]
theorem Rel.mem (h : Rel us l) {x : Rc} : x ∈ l ↔ ∃ s, (x, s) ∈ us := by
  obtain ⟨_, o, h1, _, rfl⟩ := h
  rw [List.mem_map]
  constructor
  · rintro ⟨⟨y, s⟩, hy, rfl⟩; exact ⟨s, h1.mem_iff.1 hy⟩
  · rintro ⟨s, hs⟩; exact ⟨(x, s), h1.mem_iff.2 hs, rfl⟩
theorem is_iff {x : Rc} {p q : Int} : x.is p q = true ↔ x.kr = p ∧ x.kp = q := by unfold Rc.is; simp
/-- a key's entry is found at whatever place it lies -/
theorem Rel.find_some (h : Rel us l) {u : Rc × Int} (hu : u ∈ us) {p q : Int} (hi : u.1.is p q = true) : findL l p q = some u.1 := by
  have hm : u.1 ∈ l := h.mem.2 ⟨u.2, hu⟩
  have ho := h.1
  unfold findL
  clear h hu
  induction l with
  | nil => cases hm
  | cons x l ih =>
    rw [List.find?_cons]
    rcases List.mem_cons.1 hm with rfl | hm2
    · rw [hi]
    · have hx : x.is p q = false := by
        cases hxx : x.is p q with
        | false => rfl
        | true =>
          have h1 := (List.pairwise_cons.1 ho).1 _ hm2
          have h2 := is_iff.1 hxx
          have h3 := is_iff.1 hi
          exact absurd ⟨h2.1.trans h3.1.symm, h2.2.trans h3.2.symm⟩ h1
      rw [hx]
      exact ih hm2 (List.pairwise_cons.1 ho).2
theorem Rel.find_none (h : Rel us l) {p q : Int} (hi : ∀ u ∈ us, u.1.is p q = false) : findL l p q = none := by
  refine Sb.find_none fun y hy => ?_
  obtain ⟨s, hs⟩ := h.mem.1 hy
  exact hi _ hs
/-- all but some -/
theorem Rel.filter (h : Rel us l) (f : Rc → Bool) : Rel (us.filter fun u => f u.1) (l.filter f) := by
  obtain ⟨h0, o, h1, h2, rfl⟩ := h
  refine ⟨h0.filter _, o.filter fun u => f u.1, h1.filter _, h2.filter _, ?_⟩
  rw [List.filter_map]
  rfl
/-- entries turn, keys don't -/
theorem Rel.map (h : Rel us l) (f : Rc → Rc) (hf : ∀ x, (f x).kr = x.kr ∧ (f x).kp = x.kp) : Rel (us.map fun u => (f u.1, u.2)) (l.map f) := by
  obtain ⟨h0, o, h1, h2, rfl⟩ := h
  refine ⟨?_, o.map fun u => (f u.1, u.2), h1.map _, ?_, ?_⟩
  · unfold Once
    rw [List.pairwise_map]
    refine h0.imp fun {a b} hab => ?_
    rw [(hf a).1, (hf a).2, (hf b).1, (hf b).2]
    exact hab
  · unfold Ord
    rw [List.pairwise_map]
    exact h2.imp fun {a b} hab => hab
  · rw [List.map_map, List.map_map]
    rfl
/-- one that is used now -/
theorem Rel.add (h : Rel us l) (x : Rc) (s : Int) (hs : ∀ u ∈ us, u.2 < s) (hk : ∀ u ∈ us, ¬ (u.1.kr = x.kr ∧ u.1.kp = x.kp)) : Rel ((x, s) :: us) (l ++ [x]) := by
  have hm := fun y => h.mem (x := y)
  obtain ⟨h0, o, h1, h2, rfl⟩ := h
  refine ⟨?_, o ++ [(x, s)], ?_, ?_, by simp⟩
  · unfold Once
    rw [List.pairwise_append]
    refine ⟨h0, List.pairwise_singleton _ _, fun a ha b hb => ?_⟩
    simp at hb
    subst hb
    obtain ⟨t, ht⟩ := (hm a).1 ha
    exact hk _ ht
  · exact (List.perm_append_comm (l₂ := [(x, s)])).trans (h1.cons _)
  · unfold Ord
    rw [List.pairwise_append]
    refine ⟨h2, List.pairwise_singleton _ _, fun a ha b hb => ?_⟩
    simp at hb
    subst hb
    exact hs a (h1.mem_iff.1 ha)
/-- one is taken out -/
theorem Rel.rem {u : Rc × Int} (h : Rel (u :: us) l) : Rel us (withoutL l u.1.kr u.1.kp) := by
  have hf := h.filter fun x => !x.is u.1.kr u.1.kp
  have hu : u.1.is u.1.kr u.1.kp = true := is_iff.2 ⟨rfl, rfl⟩
  have hall : ∀ v ∈ us, v.1.is u.1.kr u.1.kp = false := fun v hv => by
    cases hvv : v.1.is u.1.kr u.1.kp with
    | false => rfl
    | true =>
      obtain ⟨h0, o, h1, h2, rfl⟩ := h
      have hn : (u :: us).Pairwise fun a b => ¬ (a.1.kr = b.1.kr ∧ a.1.kp = b.1.kp) := by
        have ho : o.Pairwise fun a b => ¬ (a.1.kr = b.1.kr ∧ a.1.kp = b.1.kp) := by
          unfold Once at h0
          rw [List.pairwise_map] at h0
          exact h0
        exact (h1.pairwise_iff (fun {a b} hab hba => hab ⟨hba.1.symm, hba.2.symm⟩)).1 ho
      have := (List.pairwise_cons.1 hn).1 v hv
      have h3 := is_iff.1 hvv
      exact absurd ⟨h3.1.symm, h3.2.symm⟩ this
  have e : (u :: us).filter (fun v => !v.1.is u.1.kr u.1.kp) = us := by
    rw [List.filter_cons_of_neg (by simp [hu])]
    exact List.filter_eq_self.2 fun v hv => by simp [hall v hv]
  rw [e] at hf
  exact hf
/-- the one that was used least lately is the document's first -/
theorem Rel.least {u : Rc × Int} (h : Rel (u :: us) l) (hl : ∀ v ∈ us, u.2 ≤ v.2) : l = u.1 :: l.drop 1 ∧ Rel us (l.drop 1) := by
  obtain ⟨h0, o, h1, h2, rfl⟩ := h
  match o, h1, h2, h0 with
  | [], h1, _, _ => exact absurd h1.length_eq (by simp)
  | a :: o, h1, h2, h0 =>
    have ha : a = u := by
      have hu : u ∈ a :: o := h1.mem_iff.2 (List.mem_cons_self ..)
      rcases List.mem_cons.1 hu with e | hu
      · exact e.symm
      · have h3 := (List.pairwise_cons.1 h2).1 u hu
        have ha2 : a ∈ u :: us := h1.mem_iff.1 (List.mem_cons_self ..)
        rcases List.mem_cons.1 ha2 with e | ha2
        · exact e
        · have := hl a ha2; omega
    subst ha
    refine ⟨by simp, (List.pairwise_cons.1 h0).2, o, (List.perm_cons a).1 h1, (List.pairwise_cons.1 h2).2, by simp⟩
end
end Go.Proofs.YteaincdeoajkeaaGreatDoor.Sb
end
