/- Several texts in one: Cl Cm Gd Ga -/
import Derived.Test.YtikkfapgmbamlaaGreatDoorZ26
import Derived.Test.YtikkfapgmbamlaaGreatDoorZ06
import Derived.Test.YtikkfapgmbamlaaGreatDoorZ27
import Derived.Test.YtikkfapgmbamlaaGreatDoorZ01
import Derived.Shelf.Strings.BuilderK
section
/- What follows of a configuration: isRight, Frames, First, RingFrame, PortOf, Period, Bound. -/
namespace Go.Proofs.YtikkfapgmbamlaaGreatDoor.Cf
open Go.RowKit Ut
set_option linter.unusedVariables false

def rightB (c : Cfg) : Bool := decide ((check c).1 = 0)
theorem errR_pos (j : Nat) : errR j ≠ 0 := by
  unfold errR
  split <;> decide
theorem right_passed {c : Cfg} (h : rightB c = true) : Passed c 13 := by
  unfold rightB at h
  simp at h
  rcases check_cases c with ⟨_, hp⟩ | ⟨j, i, _, _, _, _, _, he⟩
  · exact hp
  · rw [he] at h
    exact absurd h (errR_pos j)
theorem right_small {c : Cfg} (h : rightB c = true) : c.gn ≤ 4 ∧ 1 ≤ c.gn ∧ Small c.G c.gn := passed_small (fun j hj => right_passed h j (by omega))
theorem right_rings {c : Cfg} (h : rightB c = true) : c.nn ≤ 4 := by
  have h1 : decide (4 < (c.nn : Int)) = false := right_passed h 7 (by omega) 0 (by simp [cntR])
  simp at h1; omega
theorem right_ports {c : Cfg} (h : rightB c = true) : c.pn ≤ 8 := by
  have h1 : decide (8 < (c.pn : Int)) = false := right_passed h 5 (by omega) 0 (by simp [cntR])
  simp at h1; omega
theorem right_ranges {c : Cfg} (h : rightB c = true) : c.rn ≤ 8 := by
  have h1 : decide (8 < (c.rn : Int)) = false := right_passed h 3 (by omega) 0 (by simp [cntR])
  simp at h1; omega
theorem right_slots {c : Cfg} (h : rightB c = true) : 1 ≤ c.sn ∧ c.sn ≤ 8 := by
  have h1 : (!inB c.sn 1 8) = false := right_passed h 9 (by omega) 0 (by simp [cntR])
  unfold inB at h1
  simp at h1; omega
theorem right_need {c : Cfg} (h : rightB c = true) : need c ≤ 32 := by
  have h1 : decide (32 < need c) = false := right_passed h 12 (by omega) 0 (by simp [cntR])
  simpa using h1
theorem right_slot {c : Cfg} (h : rightB c = true) (i : Nat) (hi : i < c.sn) : isGn c.gn (c.S i 0) = true ∧ 1 ≤ c.S i 1 ∧ c.S i 1 ≤ 32 := by
  have h1 : wrongS c i = false := right_passed h 10 (by omega) i (by simpa [cntR] using hi)
  rcases wrongS_cases c i with ⟨_, h2⟩ | ⟨h0, ⟨_, h2⟩ | ⟨h3, _⟩⟩
  · rw [h2] at h1; cases h1
  · rw [h2] at h1; cases h1
  · unfold inB at h3
    simp at h3
    exact ⟨h0, h3.1, h3.2⟩
theorem right_gate {c : Cfg} (h : rightB c = true) : 0 ≤ c.quota ∧ c.quota ≤ 64 := by
  have h1 : wrongGate c = false := right_passed h 11 (by omega) 0 (by simp [cntR])
  rcases wrongGate_cases c with ⟨_, h0, _⟩ | ⟨_, _, h2⟩ | ⟨_, ⟨_, h2⟩ | ⟨_, ⟨_, h2⟩ | ⟨h3, _⟩⟩⟩
  · omega
  · rw [h2] at h1; cases h1
  · rw [h2] at h1; cases h1
  · rw [h2] at h1; cases h1
  · unfold inB at h3
    simp at h3
    omega

theorem one_new (w : World) : Hid (∀ o : Obj, Below w.heap.size w (w.alloc o)) := Lib.hid fun o => (Below.refl _ _).alloc (Nat.le_refl _) _

def framesZ (c : Cfg) : Int := if rightB c then need c else 0
def firstZ (c : Cfg) (g : Int) : Int := if rightB c && isGn c.gn g then sumG c.G g.toNat else -1
def ringZ (c : Cfg) (i : Int) : Int := if rightB c && isGn c.nn i then sumG c.G c.gn + i else -1
def portZ (c : Cfg) (g : Int) : Int := if rightB c && isGn c.gn g then atI (portI c.P c.pn g) else -1
def boundZ (c : Cfg) : Int := if rightB c then 8325 + 4 * c.quota + 16 else 0
end Go.Proofs.YtikkfapgmbamlaaGreatDoor.Cf
end
section
/- What follows of a configuration: RangeOf, Period, Owner. -/
namespace Go.Proofs.YtikkfapgmbamlaaGreatDoor.Cf
open Go.RowKit Ut
set_option linter.unusedVariables false

theorem secs_length (c : Cfg) : ∀ k, (secs c k).length = 32
  | 0 => by simp [secs]
  | k + 1 => by
    show (Pt.giveL (secs c k) _ _ _).length = 32
    rw [(Pt.giveL_okay (secs_okay c k) _ _ _).2, secs_length c k]
theorem right_range {c : Cfg} (h : rightB c = true) (i : Nat) (hi : i < c.rn) : ∃ F N : Nat, c.R i 1 = F ∧ c.R i 2 = N ∧ 1 ≤ N ∧ F + N ≤ 32 := by
  have h1 : wrongR c i = false := right_passed h 4 (by omega) i (by simpa [cntR] using hi)
  rcases wrongR_cases c i with ⟨_, h2⟩ | ⟨_, e, he, ⟨_, h2⟩ | ⟨h3, _⟩⟩
  · rw [h2] at h1; cases h1
  · rw [h2] at h1; cases h1
  · subst h3
    rcases Pt.giveL_cases (secs c i) (c.R i 1) (c.R i 2) i with ⟨_, h4, _⟩ | ⟨F, N, h4, h5, h6, h7, _⟩
    · rw [he] at h4; cases h4
    · rw [secs_length] at h7
      exact ⟨F, N, h4, h5, h6, h7⟩

/-- the first of n ranges that a sector is in -/
def rangeI (R : Nat → Nat → Int) (n : Nat) (s : Int) : Option Nat := firstI n fun k => inB s (R k 1) (R k 1 + R k 2 - 1)
def rangeZ (c : Cfg) (s : Int) : Int := if rightB c then atI (rangeI c.R c.rn s) else -1

/-- the budgets of the first k slots -/
def sumS (S : Nat → Nat → Int) : Nat → Int
  | 0 => 0
  | k + 1 => sumS S k + S k 1
def periodZ (c : Cfg) : Int := if rightB c then sumS c.S c.sn else 0
theorem sumS_bd {S : Nat → Nat → Int} {n : Nat} (h : ∀ i, i < n → 1 ≤ S i 1 ∧ S i 1 ≤ 32) : ∀ k, k ≤ n → (k : Int) ≤ sumS S k ∧ sumS S k ≤ 32 * k
  | 0, _ => by simp [sumS]
  | k + 1, hk => by
    have := sumS_bd h k (by omega)
    have := h k (by omega)
    simp only [sumS]
    omega
end Go.Proofs.YtikkfapgmbamlaaGreatDoor.Cf
end
section
/- plan: the numbers of a right configuration; its records and its lines. -/
namespace Go.Proofs.YtikkfapgmbamlaaGreatDoor.Pl
open Go.RowKit Ut
set_option linter.unusedVariables false
set_option maxRecDepth 100000

/-- each record has as many numbers as its kind -/
structure PLen (p : PC) : Prop where
  gs : ∀ v ∈ p.gs, v.length = 3
  rs : ∀ v ∈ p.rs, v.length = 3
  ps : ∀ v ∈ p.ps, v.length = 2
  ns : ∀ v ∈ p.ns, v.length = 2
  ss : ∀ v ∈ p.ss, v.length = 2
theorem list3 {v : List Int} (h : v.length = 3) : v = [v.getD 0 0, v.getD 1 0, v.getD 2 0] := by
  match v, h with
  | [a, b, c], _ => rfl
  | [], h => cases h
  | [_], h => cases h
  | [_, _], h => cases h
  | _ :: _ :: _ :: _ :: _, h => simp at h
theorem list2 {v : List Int} (h : v.length = 2) : v = [v.getD 0 0, v.getD 1 0] := by
  match v, h with
  | [a, b], _ => rfl
  | [], h => cases h
  | [_], h => cases h
  | _ :: _ :: _ :: _, h => simp at h
def cf0 (p : PC) : Cf.Cfg := p.cfg none 0 none 0 none 0 none 0 none 0
theorem in_some {xs : List (List Int)} {v : List Int} (h : v ∈ xs) : ∃ i, i < xs.length ∧ xs.getD i [] = v := by
  obtain ⟨i, hi, e⟩ := List.getElem_of_mem h
  exact ⟨i, hi, by simp [List.getD, hi, e]⟩
theorem err_ne (j : Nat) : Cf.errR j ≠ 0 := by
  unfold Cf.errR
  split <;> decide
theorem passed_of {p : PC} (h : (chk p).1 = 0) : Cf.Passed (cf0 p) 13 := by
  rcases Cf.check_cases (cf0 p) with ⟨_, h2⟩ | ⟨j, i, _, _, _, _, _, h2⟩
  · exact h2
  · have : (chk p).1 = Cf.errR j := by show (Cf.check (cf0 p)).1 = _; rw [h2]
    exact absurd (this.symm.trans h) (err_ne j)
theorem pow_all : (List.range 9).all (fun k => decide (wrap64 (2 ^ k) ≤ 256)) = true := by decide +kernel
theorem valid_lt {l n : Int} (h : La.validB l n = true) : 0 ≤ l ∧ l < 256 := by
  unfold La.validB at h
  simp only [Bool.and_eq_true, decide_eq_true_eq] at h
  obtain ⟨⟨⟨h1, h2⟩, h3⟩, h4⟩ := h
  obtain ⟨k, rfl⟩ : ∃ k : Nat, n = k := ⟨n.toNat, by omega⟩
  have hk : k ≤ 8 := by omega
  refine ⟨h3, Int.lt_of_lt_of_le h4 ?_⟩
  rw [Int.toNat_natCast]
  have : ∀ k : Nat, k ≤ 8 → wrap64 (2 ^ k) ≤ 256 := fun k hk => by
    have h := List.all_eq_true.1 pow_all k (List.mem_range.2 (show k < 9 by omega))
    simpa using h
  exact this k hk
theorem inB_of {n a b : Int} (h : Cf.inB n a b = true) : a ≤ n ∧ n ≤ b := by
  unfold Cf.inB at h
  simpa using h
/-- a right configuration's numbers fit their fields; its lists are short -/
theorem okp_of {p : PC} (hl : PLen p) (h : (chk p).1 = 0) : OkP p ∧ p.gs.length ≤ 4 ∧ p.rs.length ≤ 8 ∧ p.ps.length ≤ 8 ∧ p.ns.length ≤ 4 ∧ p.ss.length ≤ 8 := by
  have hp := passed_of h
  have h0 : Cf.inB (cf0 p).cats 0 8 = true := by simpa [Cf.wrR] using hp 0 (by omega) 0 (by simp [Cf.cntR])
  have h1 : Cf.inB (cf0 p).gn 1 4 = true := by simpa [Cf.wrR] using hp 1 (by omega) 0 (by simp [Cf.cntR])
  have h3 : ¬ (8 : Int) < ((cf0 p).rn : Int) := by simpa [Cf.wrR] using hp 3 (by omega) 0 (by simp [Cf.cntR])
  have h5 : ¬ (8 : Int) < ((cf0 p).pn : Int) := by simpa [Cf.wrR] using hp 5 (by omega) 0 (by simp [Cf.cntR])
  have h7 : ¬ (4 : Int) < ((cf0 p).nn : Int) := by simpa [Cf.wrR] using hp 7 (by omega) 0 (by simp [Cf.cntR])
  have h9 : Cf.inB (cf0 p).sn 1 8 = true := by simpa [Cf.wrR] using hp 9 (by omega) 0 (by simp [Cf.cntR])
  have hg : Cf.wrongGate (cf0 p) = false := hp 11 (by omega) 0 (by simp [Cf.cntR])
  have h0' : 0 ≤ p.cats ∧ p.cats ≤ 8 := inB_of h0
  have h1' : 1 ≤ (p.gs.length : Int) ∧ (p.gs.length : Int) ≤ 4 := inB_of h1
  have h9' : 1 ≤ (p.ss.length : Int) ∧ (p.ss.length : Int) ≤ 8 := inB_of h9
  have h3' : ¬ (8 : Int) < (p.rs.length : Int) := h3
  have h5' : ¬ (8 : Int) < (p.ps.length : Int) := h5
  have h7' : ¬ (4 : Int) < (p.ns.length : Int) := h7
  clear h0 h1 h9 h3 h5 h7
  have isg : ∀ i : Int, Cf.isG (cf0 p) i = true → 0 ≤ i ∧ i < 4 := fun i hi => by
    unfold Cf.isG at hi
    simp only [Bool.and_eq_true, decide_eq_true_eq] at hi
    have e : ((cf0 p).gn : Int) = p.gs.length := rfl
    rw [e] at hi
    omega
  refine ⟨⟨?_, ?_, ?_, ?_, ?_, ?_, ?_⟩, by omega, by omega, by omega, by omega, by omega⟩
  · exact ⟨.inr (.inr ⟨rfl, by omega, by omega⟩), trivial⟩
  · intro v hv
    obtain ⟨i, hi, e⟩ := in_some hv
    have hw : Cf.wrongG (cf0 p) i = false := hp 2 (by omega) i hi
    have hG : ∀ j, (cf0 p).G i j = v.getD j 0 := fun j => by show (p.gs.getD i []).getD j 0 = _; rw [e]
    unfold Cf.wrongG at hw
    simp only [hG, Bool.or_eq_false_iff, Bool.not_eq_false'] at hw
    rw [list3 (hl.gs v hv)]
    have k0 := valid_lt hw.1.1
    have k1 := inB_of hw.1.2
    have k2 := inB_of hw.2
    exact ⟨.inl ⟨rfl, k0.1, k0.2⟩, .inr (.inr ⟨rfl, by omega, by omega⟩), .inr (.inr ⟨rfl, by omega, by omega⟩), trivial⟩
  · intro v hv
    obtain ⟨i, hi, e⟩ := in_some hv
    have hw : Cf.wrongR (cf0 p) i = false := hp 4 (by omega) i hi
    have hG : ∀ j, (cf0 p).R i j = v.getD j 0 := fun j => by show (p.rs.getD i []).getD j 0 = _; rw [e]
    unfold Cf.wrongR at hw
    simp only [hG, Bool.or_eq_false_iff, Bool.not_eq_false', decide_eq_true_eq] at hw
    rw [list3 (hl.rs v hv)]
    have k0 := valid_lt hw.1
    rcases Pt.giveL_cases (Cf.secs (cf0 p) i) (v.getD 1 0) (v.getD 2 0) i with ⟨_, h2, _⟩ | ⟨F, N, e1, e2, h2, h4, _⟩
    · rw [h2] at hw; exact absurd hw.2 (by decide)
    · rw [Cf.secs_length] at h4
      rw [e1, e2]
      exact ⟨.inl ⟨rfl, k0.1, k0.2⟩, .inr (.inr ⟨rfl, by omega, by omega⟩), .inr (.inr ⟨rfl, by omega, by omega⟩), trivial⟩
  · intro v hv
    obtain ⟨i, hi, e⟩ := in_some hv
    have hw : Cf.wrongP (cf0 p) i = false := hp 6 (by omega) i hi
    have hG : ∀ j, (cf0 p).P i j = v.getD j 0 := fun j => by show (p.ps.getD i []).getD j 0 = _; rw [e]
    unfold Cf.wrongP at hw
    simp only [hG] at hw
    rw [list2 (hl.ps v hv)]
    split at hw
    · rename_i h1
      have k0 := valid_lt (l := v.getD 0 0) (n := (cf0 p).cats) (by simpa using hw)
      rw [h1]
      exact ⟨.inl ⟨rfl, k0.1, k0.2⟩, .inr (.inl ⟨rfl, by omega, by omega⟩), trivial⟩
    · simp only [Bool.or_eq_false_iff, Bool.not_eq_false', decide_eq_true_eq] at hw
      have k1 := isg _ hw.1.1
      obtain ⟨g, hg'⟩ : ∃ g : Nat, v.getD 1 0 = g := ⟨(v.getD 1 0).toNat, by omega⟩
      have hgl : g < p.gs.length := by
        have h2 := hw.1.1
        unfold Cf.isG at h2
        simp only [Bool.and_eq_true, decide_eq_true_eq] at h2
        have e : ((cf0 p).gn : Int) = p.gs.length := rfl
        rw [e, hg'] at h2
        omega
      have hw2 : Cf.wrongG (cf0 p) g = false := hp 2 (by omega) g hgl
      unfold Cf.wrongG at hw2
      simp only [Bool.or_eq_false_iff, Bool.not_eq_false'] at hw2
      have k0 := valid_lt hw2.1.1
      have e0 : v.getD 0 0 = (cf0 p).G g 0 := by have := hw.1.2; rw [hg', Int.toNat_natCast] at this; exact this
      rw [← e0] at k0
      exact ⟨.inl ⟨rfl, k0.1, k0.2⟩, .inr (.inl ⟨rfl, by omega, by omega⟩), trivial⟩
  · intro v hv
    obtain ⟨i, hi, e⟩ := in_some hv
    have hw : Cf.wrongN (cf0 p) i = false := hp 8 (by omega) i hi
    have hG : ∀ j, (cf0 p).N i j = v.getD j 0 := fun j => by show (p.ns.getD i []).getD j 0 = _; rw [e]
    unfold Cf.wrongN at hw
    simp only [hG, Bool.or_eq_false_iff, Bool.not_eq_false'] at hw
    rw [list2 (hl.ns v hv)]
    have k1 := isg _ hw.1.1.1
    have k2 := isg _ hw.1.1.2
    exact ⟨.inr (.inr ⟨rfl, by omega, by omega⟩), .inr (.inr ⟨rfl, by omega, by omega⟩), trivial⟩
  · intro v hv
    obtain ⟨i, hi, e⟩ := in_some hv
    have hw : Cf.wrongS (cf0 p) i = false := hp 10 (by omega) i hi
    have hG : ∀ j, (cf0 p).S i j = v.getD j 0 := fun j => by show (p.ss.getD i []).getD j 0 = _; rw [e]
    unfold Cf.wrongS at hw
    simp only [hG, Bool.or_eq_false_iff, Bool.not_eq_false'] at hw
    rw [list2 (hl.ss v hv)]
    have k1 := isg _ hw.1
    have k2 := inB_of hw.2
    exact ⟨.inr (.inr ⟨rfl, by omega, by omega⟩), .inr (.inr ⟨rfl, by omega, by omega⟩), trivial⟩
  · unfold Cf.wrongGate at hg
    have eg : (cf0 p).gate = p.gate := rfl
    have eq : (cf0 p).quota = p.quota := rfl
    rw [eg, eq] at hg
    split at hg
    · rename_i h1
      exact .inl ⟨h1, by simpa using hg⟩
    · rename_i h1
      simp only [Bool.or_eq_false_iff, Bool.not_eq_false'] at hg
      have k1 := isg _ hg.1
      have k2 := inB_of hg.2
      exact .inr ⟨h1, ⟨.inr (.inr ⟨rfl, by omega, by omega⟩), .inr (.inr ⟨rfl, by omega, by omega⟩), trivial⟩⟩
/-- a record, as it lies in memory -/
def rowOf (q : Nat × List Int) : List Int := [(q.1 : Int), q.2.getD 0 0, q.2.getD 1 0, q.2.getD 2 0]
theorem okvs_len {fs : List UInt8} {vs : List Int} (h : OkVs fs vs) : vs.length = fs.length := (okvs_at h).1
theorem rows_recs {p : PC} (hl : PLen p) : p.rows = p.recs.map rowOf := by
  have m3 : ∀ (xs : List (List Int)) (r : Nat), xs.map (pad3 r) = xs.map (rowOf ∘ Prod.mk r) := fun xs r => List.map_congr_left fun v _ => rfl
  have m2 : ∀ (xs : List (List Int)) (r : Nat), (∀ v ∈ xs, v.length = 2) → xs.map (pad2 r) = xs.map (rowOf ∘ Prod.mk r) := fun xs r h => List.map_congr_left fun v hv => by
    have := h v hv
    show [(r : Int), v.getD 0 0, v.getD 1 0, 0] = [(r : Int), v.getD 0 0, v.getD 1 0, v.getD 2 0]
    rw [show v.getD 2 0 = 0 by rw [List.getD_eq_getElem?_getD, List.getElem?_eq_none (by omega)]; rfl]
  have e1 := m3 p.gs 1
  have e2 := m3 p.rs 2
  have e3 := m2 p.ps 3 hl.ps
  have e4 := m2 p.ns 4 hl.ns
  have e5 := m2 p.ss 5 hl.ss
  unfold PC.rows PC.recs
  simp only [List.map_cons, List.map_append, List.map_map]
  rw [show (pad3 1) = pad3 ((1 : Nat) : Int) from rfl, show (pad3 2) = pad3 ((2 : Nat) : Int) from rfl, show (pad2 3) = pad2 ((3 : Nat) : Int) from rfl, show (pad2 4) = pad2 ((4 : Nat) : Int) from rfl, show (pad2 5) = pad2 ((5 : Nat) : Int) from rfl, e1, e2, e3, e4, e5]
  by_cases hg : p.gate = -1
  · simp only [if_pos hg, List.append_assoc, List.cons_append, List.nil_append, List.map_nil]
    rfl
  · simp only [if_neg hg, List.append_assoc, List.cons_append, List.nil_append, List.map_nil, List.map_cons]
    rfl
theorem recs_ok {p : PC} (h : OkP p) : ∀ q ∈ p.recs, q.1 < 7 ∧ OkVs (kf q.1) q.2 := by
  intro q hq
  simp only [PC.recs, List.mem_cons, List.mem_append, List.mem_map] at hq
  rcases hq with rfl | ⟨v, hv, rfl⟩ | ⟨v, hv, rfl⟩ | ⟨v, hv, rfl⟩ | ⟨v, hv, rfl⟩ | ⟨v, hv, rfl⟩ | hq
  · exact ⟨show (0 : Nat) < 7 by decide, h.cats⟩
  · exact ⟨show (1 : Nat) < 7 by decide, h.gs v hv⟩
  · exact ⟨show (2 : Nat) < 7 by decide, h.rs v hv⟩
  · exact ⟨show (3 : Nat) < 7 by decide, h.ps v hv⟩
  · exact ⟨show (4 : Nat) < 7 by decide, h.ns v hv⟩
  · exact ⟨show (5 : Nat) < 7 by decide, h.ss v hv⟩
  · split at hq
    · cases hq
    · rename_i hg
      simp at hq
      subst hq
      rcases h.gate with ⟨e, _⟩ | ⟨_, e⟩
      · exact absurd e hg
      · exact ⟨show (6 : Nat) < 7 by decide, e⟩
theorem kf_len (r : Nat) : (kf r).length ≤ 3 := by
  unfold kf
  split <;> decide
theorem tail_len : ∀ {fs : List UInt8} {vs : List Int}, OkVs fs vs → (tailL fs vs).length ≤ 9 * fs.length
  | [], [], _ => by simp [tailL]
  | [], _ :: _, h => h.elim
  | _ :: _, [], h => h.elim
  | f :: fs, v :: vs, h => by
    have h1 := word_len h.1
    have h2 := tail_len h.2
    simp only [tailL, List.length_append, List.length_cons]
    omega
theorem line_len {q : Nat × List Int} (h : OkVs (kf q.1) q.2) : (lineL q).length ≤ 40 := by
  have h1 := tail_len h
  have h2 := kf_len q.1
  have h3 := kw_len q.1
  unfold lineL bodyL
  simp only [List.length_append, List.length_cons, List.length_nil]
  omega
theorem take_row {q : Nat × List Int} (h : OkVs (kf q.1) q.2) : [q.2.getD 0 0, q.2.getD 1 0, q.2.getD 2 0].take (kf q.1).length = q.2 := by
  have h1 := okvs_len h
  have h2 := kf_len q.1
  obtain ⟨r, v⟩ := q
  simp only at h1 h2 ⊢
  rw [← h1]
  match v, h1 with
  | [], _ => rfl
  | [_], _ => rfl
  | [_, _], _ => rfl
  | [_, _, _], _ => rfl
  | _ :: _ :: _ :: _ :: _, h => simp at h; omega
theorem flat_len {l : List (List UInt8)} (h : ∀ x ∈ l, x.length ≤ 40) : l.flatten.length ≤ 40 * l.length := by
  induction l with
  | nil => simp
  | cons x l ih =>
    have h1 := h x (by simp)
    have h2 := ih fun y hy => h y (by simp [hy])
    simp only [List.flatten_cons, List.length_append, List.length_cons]
    omega
end Go.Proofs.YtikkfapgmbamlaaGreatDoor.Pl
end
section
/- A strings.Builder of the call's own: what is written to it. Serves all packages. -/
namespace Go.Proofs.YtikkfapgmbamlaaGreatDoor.Ut
open Go.RowKit
set_option linter.unusedVariables false
set_option maxRecDepth 100000

theorem sizeB : (Tryz.prog.info? 41).map (·.size) = some 2 := by kernel_rfl
theorem liesB : liesAt Tryz.prog Tryz.prog.depth 41 (2 / Tryz.prog.cellsOf 41) 0 41 1 = true := by kernel_rfl
theorem infoB : (Tryz.prog.info? 5).map (fun i => (i.zero, i.size, i.bytes)) = some (some (.int .u8 0), 1, 1) := by kernel_rfl
theorem copyCheck_used (b : Nat) (w : World) (h0 : w.cell? ⟨b, 0, none⟩ = some (.pointer (some ⟨b, 0, none⟩))) :
    Calls Tryz.prog 18 #[.pointer (some ⟨b, 0, none⟩)] w fun e w' => e = .returned (.tuple #[]) ∧ w' = w := by
  obtain ⟨j, hj, _⟩ := Option.map_eq_some_iff.1 sizeB
  go_enter Tryz.func18, Tryz.ntmps18
  go_wp2
  rw [Lib.run_neq_ptr_same w _ Tryz.underlying38 hj]
  go_wp2
  go_end0
  exact ⟨rfl, rfl⟩
theorem copyCheck_fresh (b : Nat) (w : World) (h0 : w.cell? ⟨b, 0, none⟩ = some (.pointer none)) (hsh : w.shape? b = some (41, 2)) (hfz : w.frozen? ⟨b, 0, none⟩ = false) :
    Calls Tryz.prog 18 #[.pointer (some ⟨b, 0, none⟩)] w fun e w' => e = .returned (.tuple #[]) ∧ w' = w.setCell ⟨b, 0, none⟩ (.pointer (some ⟨b, 0, none⟩)) := by
  obtain ⟨j, hj, hjs⟩ := Option.map_eq_some_iff.1 sizeB
  go_enter Tryz.func18, Tryz.ntmps18
  go_wp2
  rw [Lib.run_to_unsafe w ⟨b, 0, none⟩ Tryz.underlying38 Tryz.underlying91 hj (by rw [hjs]; decide) hsh (Nat.zero_lt_succ 1)]
  simp only [Result.andThen]
  rw [Oper.upon_value]
  go_wp2
  rw [run_callFunc_extern Tryz.func51 (by kernel_rfl) (by kernel_rfl) (by kernel_rfl) (e := Extern.AbiNoEscape.same) (by kernel_rfl)]
  rw [Lib.run_noEscape]
  simp only [Result.andThen]
  rw [Oper.upon_value]
  go_wp2
  rw [Lib.run_from_unsafe w ⟨b, 0, none⟩ Tryz.underlying91 Tryz.underlying38 hj hsh liesB]
  simp only [Result.andThen]
  rw [Oper.upon_value]
  go_wp2
  go_end0
  exact ⟨rfl, rfl⟩
theorem copyCheck_any (B b : Nat) (bs : List Value) (w : World) (h : Lib.IsBuilderF 41 5 B b bs w) :
    Calls Tryz.prog 18 #[.pointer (some ⟨b, 0, none⟩)] w fun e w' => e = .returned (.tuple #[]) ∧ Lib.BuilderAtF 41 5 B b (.pointer (some ⟨b, 0, none⟩)) bs w' ∧ Below B w w' ∧ Lib.OthersKept 5 (some b) w w' := by
  rcases h with h | h
  · refine (copyCheck_fresh b w h.cell0 h.shape h.frozen0).mono ?_
    rintro e w' ⟨rfl, rfl⟩
    exact ⟨rfl, h.used _, (Below.refl B w).setCell (p := ⟨b, 0, none⟩) h.1 _, (Lib.OthersKept.refl _ _ w).setCell ⟨b, 0, none⟩ rfl _⟩
  · refine (copyCheck_used b w h.cell0).mono ?_
    rintro e w' ⟨rfl, rfl⟩
    exact ⟨rfl, h, Below.refl B _, Lib.OthersKept.refl _ _ _⟩
set_option maxHeartbeats 2000000 in
/-- a text more -/
theorem writeString_any (B b : Nat) (bs : List Value) (s : ByteArray) (w : World) (h : Lib.IsBuilderF 41 5 B b bs w) (hlen : bs.length + s.size ≤ 140737488355328) (hBw : B ≤ w.heap.size) :
    Calls Tryz.prog 9 #[.pointer (some ⟨b, 0, none⟩), .string s] w fun e w' => e = .returned (.tuple #[.int .i64 s.size, .nilIface]) ∧ Lib.BuilderAtF 41 5 B b (.pointer (some ⟨b, 0, none⟩)) (bs ++ Lib.strCells s) w' ∧ Below B w w' ∧ Lib.OthersKept 5 (some b) w w' := by
  obtain ⟨i0, hi, hz0, hz1, hz2⟩ := info_parts infoB
  go_enter Tryz.func9, Tryz.ntmps9
  go_wp2_with (go_at_call 18; refine (copyCheck_any B b bs _ h).mono ?_)
  rintro e w1 ⟨rfl, h1, hb1, hk1⟩
  obtain ⟨hB, v, hbk, hown, hne⟩ := h1
  have c0 : w1.cell? ⟨b, 0, none⟩ = some (.pointer (some ⟨b, 0, none⟩)) := by rw [Lib.cell_of_heap hbk]; rfl
  have c1 : w1.cell? ⟨b, 1, none⟩ = some v := by rw [Lib.cell_of_heap hbk]; rfl
  go_wp2_with (at_builtin; refine Lib.wpList_append_own_stringF _ rfl _ _ 39 9 rfl B 5 i0 Tryz.underlying39 Tryz.underlying9 hi hz0 hz1 hz2 _ _ _ rfl hown s rfl ?c3 ?c4 ?c5 ?_)
  case c3 => unfold maxLen; omega
  case c4 => omega
  case c5 => have := hb1.size; omega
  intro v' w2 hown' hgrow _
  have hlt : b < w1.heap.size := (Array.getElem?_eq_some_iff.1 hbk).1
  have hb2 : w2.heap[b]? = some (.cells #[.pointer (some ⟨b, 0, none⟩), v] 41 (0, 0)) := by
    rw [hgrow.block b hlt (fun e => hne e.symm)]
    exact hbk
  have d0 : w2.cell? ⟨b, 0, none⟩ = some (.pointer (some ⟨b, 0, none⟩)) := by rw [Lib.cell_of_heap hb2]; rfl
  have d1 : w2.cell? ⟨b, 1, none⟩ = some v := by rw [Lib.cell_of_heap hb2]; rfl
  have f1 : w2.frozen? ⟨b, 1, none⟩ = false := Lib.frozen_of_heap hb2 1
  obtain ⟨ao, n', cap, rfl⟩ : ∃ ao n' cap, v' = .slice ao n' cap := by
    rcases hown'.2 with ⟨hv, _⟩ | ⟨g, cap, cur, fz, hv, _⟩
    · exact ⟨_, _, _, hv⟩
    · exact ⟨_, _, _, hv⟩
  go_wp2
  go_ret2
  refine ⟨rfl, ?_, ?_, (hk1.grown hgrow (Lib.ownsRowF_kind hown)).setCell ⟨b, 1, none⟩ rfl _⟩
  · exact Lib.BuilderAtF.put (T := 41) (e := 5) hB hb2 (bs' := bs ++ Lib.strCells s) (by simpa [Lib.strCells_length] using hown') (by decide)
  · exact (hb1.grown hgrow (by have := hb1.size; omega) (fun k hk => (hown.lt k hk).1)).setCell (p := ⟨b, 1, none⟩) hB _
end Go.Proofs.YtikkfapgmbamlaaGreatDoor.Ut
end
