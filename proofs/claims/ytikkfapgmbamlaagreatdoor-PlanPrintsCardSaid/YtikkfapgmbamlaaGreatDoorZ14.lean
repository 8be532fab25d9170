/- Several texts in one: Er Et Lg Li Pa Pb -/
import Derived.Test.YtikkfapgmbamlaaGreatDoorZ02
import Derived.Test.YtikkfapgmbamlaaGreatDoorZ04
import Derived.Test.YtikkfapgmbamlaaGreatDoorZ05
import Derived.Test.YtikkfapgmbamlaaGreatDoorZ01
import Derived.RangeFuncNested
import Derived.Deep.AppendLies
import Derived.RangeFuncBound
import Derived.RangeFuncCalls
import Derived.RangeFuncLeaves
import Derived.Shelf.Abstract
import Derived.Shelf.RegionOpen
import Derived.WalkKit
import Derived.OwnWalkIn
import Derived.TacticsInMore
import Derived.LoopNIn
import Derived.LoopIn
section
/- plan, plainly: the numbers of a configuration that is read are integers of 64 bits. -/
namespace Go.Proofs.YtikkfapgmbamlaaGreatDoor.Pl
open Go.RowKit Ut
set_option linter.unusedVariables false

def InB (z : Int) : Prop := -9223372036854775808 ≤ z ∧ z < 9223372036854775808
theorem valL_in {f : UInt8} {w : List UInt8} {v : Int} (h : valL f w = some v) : InB v := by
  unfold valL at h
  split at h
  · split at h
    · rename_i e2
      injection h with h
      subst h
      rcases La.parseF_text w with e | ⟨n, hn, e⟩
      · rw [e] at e2; cases e2
      · rw [← e, La.parse_text n hn]; unfold InB; omega
    · cases h
  · split at h
    · injection h with h; subst h; unfold InB; omega
    · cases hn : numL w with
      | none => rw [hn] at h; cases h
      | some n =>
        rw [hn] at h
        simp only [Option.map_some] at h
        injection h with h
        subst h
        unfold numL at hn
        split at hn
        · cases hn
        · rename_i hc
          injection hn with hn
          subst hn
          have hall : w.all isDig = true := by simpa using fun e => hc (.inr (.inr (.inr e)))
          have hl : w.length ≤ 9 := Nat.le_of_not_lt fun e => hc (.inr (.inl e))
          have h1 := valD_lt w hall
          have h2 := pow9 w.length hl
          unfold InB
          have : ((Int.ofNat (valD w)) : Int) = (valD w : Int) := rfl
          rw [this]
          omega
theorem valsL_in : ∀ (fs : List UInt8) (ws : List (List UInt8)) (vs : List Int), valsL fs ws = some vs → ∀ v ∈ vs, InB v
  | [], [], vs, h => by simp only [valsL, Option.some.injEq] at h; subst h; simp
  | [], w :: ws, vs, h => by simp [valsL] at h
  | f :: fs, [], vs, h => by simp [valsL] at h
  | f :: fs, w :: ws, vs, h => by
    unfold valsL at h
    cases h1 : valL f w with
    | none => rw [h1] at h; cases h
    | some v =>
      cases h2 : valsL fs ws with
      | none => rw [h1, h2] at h; cases h
      | some us =>
        rw [h1, h2] at h
        injection h with h
        subst h
        intro x hx
        rcases List.mem_cons.1 hx with rfl | hx
        · exact valL_in h1
        · exact valsL_in fs ws us h2 x hx
theorem recL_in {l : List UInt8} {r : Nat} {v : List Int} (h : recL l = some (r, v)) : ∀ x ∈ v, InB x := by
  unfold recL at h
  split at h
  · split at h
    · split at h
      · rename_i vs hv
        injection h with h
        injection h with _ h
        subst h
        exact valsL_in _ _ _ hv
      · cases h
    · cases h
  · cases h
/-- all its numbers are integers of the kind -/
structure PIn (p : PC) : Prop where
  cats : InB p.cats
  gs : ∀ v ∈ p.gs, ∀ x ∈ v, InB x
  rs : ∀ v ∈ p.rs, ∀ x ∈ v, InB x
  ps : ∀ v ∈ p.ps, ∀ x ∈ v, InB x
  ns : ∀ v ∈ p.ns, ∀ x ∈ v, InB x
  ss : ∀ v ∈ p.ss, ∀ x ∈ v, InB x
  gate : InB p.gate
  quota : InB p.quota
theorem getD_in {v : List Int} (h : ∀ x ∈ v, InB x) (i : Nat) : InB (v.getD i 0) := by
  by_cases hi : i < v.length
  · simp only [List.getD, List.getElem?_eq_getElem hi, Option.getD_some]; exact h _ (List.getElem_mem hi)
  · simp only [List.getD, List.getElem?_eq_none (Nat.le_of_not_lt hi), Option.getD_none]; unfold InB; omega
theorem app_in {xs : List (List Int)} {v : List Int} (h : ∀ u ∈ xs, ∀ x ∈ u, InB x) (hv : ∀ x ∈ v, InB x) : ∀ u ∈ xs ++ [v], ∀ x ∈ u, InB x := by
  intro u hu
  rcases List.mem_append.1 hu with hu | hu
  · exact h u hu
  · simp at hu; rw [hu]; exact hv
theorem PIn.put {p : PC} (h : PIn p) (r : Nat) {v : List Int} (hv : ∀ x ∈ v, InB x) : PIn (p.put r v) := by
  unfold PC.put
  split
  · exact ⟨getD_in hv 0, h.gs, h.rs, h.ps, h.ns, h.ss, h.gate, h.quota⟩
  · exact ⟨h.cats, app_in h.gs hv, h.rs, h.ps, h.ns, h.ss, h.gate, h.quota⟩
  · exact ⟨h.cats, h.gs, app_in h.rs hv, h.ps, h.ns, h.ss, h.gate, h.quota⟩
  · exact ⟨h.cats, h.gs, h.rs, app_in h.ps hv, h.ns, h.ss, h.gate, h.quota⟩
  · exact ⟨h.cats, h.gs, h.rs, h.ps, app_in h.ns hv, h.ss, h.gate, h.quota⟩
  · exact ⟨h.cats, h.gs, h.rs, h.ps, h.ns, app_in h.ss hv, h.gate, h.quota⟩
  · exact ⟨h.cats, h.gs, h.rs, h.ps, h.ns, h.ss, getD_in hv 0, getD_in hv 1⟩
  · exact h
theorem pc0_in : PIn pc0 := by
  refine ⟨?_, by simp [pc0], by simp [pc0], by simp [pc0], by simp [pc0], by simp [pc0], ?_, ?_⟩ <;> (unfold InB pc0; simp)
theorem runL_in : ∀ (ls : List (List UInt8)) (c : PC) (last : Int) (i : Nat) (p : PC), PIn c → runL ls c last i = .inr p → PIn p
  | [], c, _, _, p, hc, h => by simp only [runL] at h; injection h with h; subst h; exact hc
  | l :: ls, c, last, i, p, hc, h => by
    unfold runL at h
    split at h
    · rename_i r v hr
      split at h
      · exact runL_in ls _ _ _ p (hc.put r (recL_in hr)) h
      · cases h
    · cases h
theorem readL_in {s : List UInt8} {p : PC} (h : readL s = .inr p) : PIn p := by
  unfold readL at h
  split at h
  · cases h
  · rename_i c hr
    split at h
    · injection h with h; subst h; exact runL_in _ _ _ _ _ pc0_in hr
    · cases h
theorem readL_pos {s : List UInt8} {n : Nat} (h : readL s = .inl n) : 1 ≤ n := by
  have key : ∀ (ls : List (List UInt8)) (c : PC) (last : Int) (i n : Nat), runL ls c last i = .inl n → 1 ≤ n := by
    intro ls
    induction ls with
    | nil => intro c last i n h; simp [runL] at h
    | cons l ls ih =>
      intro c last i n h
      unfold runL at h
      split at h
      · split at h
        · exact ih _ _ _ _ h
        · injection h with h; omega
      · injection h with h; omega
  unfold readL at h
  split at h
  · rename_i m hr
    injection h with h
    subst h
    exact key _ _ _ _ _ hr
  · split at h
    · cases h
    · injection h with h; omega
end Go.Proofs.YtikkfapgmbamlaaGreatDoor.Pl
end
section
/- plan: what is read lies in memory as rows of records; how many records there are. -/
namespace Go.Proofs.YtikkfapgmbamlaaGreatDoor.Pl
open Go.RowKit Ut
set_option linter.unusedVariables false

theorem encR_len {k : Nat} : ∀ {xs : List (List Int)}, (∀ x ∈ xs, x.length = k) → (encR xs).length = xs.length * k
  | [], _ => by simp [encR]
  | x :: xs, h => by
    have h1 := encR_len (xs := xs) fun y hy => h y (by simp [hy])
    have h2 := h x (by simp)
    have e : encR (x :: xs) = encI x ++ encR xs := by simp [encR]
    rw [e, List.length_append, h1, List.length_cons, Nat.succ_mul]
    simp [encI, h2]; omega
theorem encR_get {k : Nat} : ∀ {xs : List (List Int)} (i j : Nat), (∀ x ∈ xs, x.length = k) → i < xs.length → j < k → (encR xs)[i * k + j]? = some (.int .i64 ((xs.getD i []).getD j 0))
  | [], i, j, _, hi, _ => by simp at hi
  | x :: xs, 0, j, h, _, hj => by
    have h2 := h x (by simp)
    have e : encR (x :: xs) = encI x ++ encR xs := by simp [encR]
    rw [e, Nat.zero_mul, Nat.zero_add, List.getElem?_append_left (by simp [encI, h2]; exact hj)]
    simp [encI, List.getD, h2, hj]
  | x :: xs, i + 1, j, h, hi, hj => by
    have h2 := h x (by simp)
    have e : encR (x :: xs) = encI x ++ encR xs := by simp [encR]
    have hl : (encI x).length = k := by simp [encI, h2]
    rw [e, List.getElem?_append_right (by rw [hl, Nat.succ_mul]; omega), hl, show (i + 1) * k + j - k = i * k + j by rw [Nat.succ_mul]; omega]
    exact encR_get (xs := xs) i j (fun y hy => h y (by simp [hy])) (by simpa using hi) hj
theorem recs_in {xs : List (List Int)} (h : ∀ v ∈ xs, ∀ x ∈ v, InB x) (i j : Nat) : InB ((xs.getD i []).getD j 0) := by
  refine getD_in (fun x hx => ?_) j
  by_cases hi : i < xs.length
  · simp only [List.getD, List.getElem?_eq_getElem hi, Option.getD_some] at hx
    exact h _ (List.getElem_mem hi) x hx
  · simp only [List.getD, List.getElem?_eq_none (Nat.le_of_not_lt hi), Option.getD_none] at hx
    cases hx
/-- an own row of records, as its cells -/
theorem ownT_row {k : Nat} {w : World} {B : Nat} {e : TypeId} {v : Value} {xs : List (List Int)} (h : OwnT k w B e v xs) (hin : ∀ v ∈ xs, ∀ x ∈ v, InB x) :
    ∃ a cap, v = .slice a xs.length cap ∧ xs.length ≤ cap ∧ ∀ i, i < xs.length → ∃ x, a = some x ∧ x.block < w.heap.size ∧ ∀ j, j < k → w.cell? (x.add (i * k + j)) = some (.int .i64 ((xs.getD i []).getD j 0)) ∧ InB ((xs.getD i []).getD j 0) := by
  have hlen := h.2
  rcases h.1.2 with ⟨rfl, h0⟩ | ⟨g, cap, cur, rfl, hb, hg, hnc, hm, hsz, hcur⟩
  · exact ⟨none, 0, by rw [h0], by omega, fun i hi => absurd hi (by omega)⟩
  · refine ⟨some ⟨g, 0, none⟩, cap, rfl, hnc, fun i hi => ⟨_, rfl, (Array.getElem?_eq_some_iff.1 hg).1, fun j hj => ⟨?_, recs_in hin i j⟩⟩⟩
    have hlt : i * k + j < xs.length * k := by
      have h2 : (i + 1) * k ≤ xs.length * k := Nat.mul_le_mul_right k (by omega)
      rw [Nat.succ_mul] at h2
      omega
    rw [add_plain, World.ownsRow.cellAt h.1 _ hlt]
    exact encR_get i j hlen hi hj
theorem cutL_count (c : UInt8) (l : List UInt8) : (cutL c l).1.length ≤ l.length := by
  refine snoc_ind (P := fun l => (cutL c l).1.length ≤ l.length) (by simp [cutL]) (fun l b ih => ?_) l
  rw [cutL_snoc, List.length_append]
  unfold cutS
  split
  · simp; omega
  · simp; omega
theorem runL_size : ∀ (ls : List (List UInt8)) (c : PC) (last : Int) (i : Nat) (p : PC), runL ls c last i = .inr p → p.gs.length + p.rs.length + p.ps.length + p.ns.length + p.ss.length ≤ c.gs.length + c.rs.length + c.ps.length + c.ns.length + c.ss.length + ls.length
  | [], c, _, _, p, h => by simp only [runL] at h; injection h with h; subst h; simp
  | l :: ls, c, last, i, p, h => by
    unfold runL at h
    split at h
    · rename_i r v hr
      split at h
      · have h1 := runL_size ls _ _ _ p h
        have h2 : (c.put r v).gs.length + (c.put r v).rs.length + (c.put r v).ps.length + (c.put r v).ns.length + (c.put r v).ss.length ≤ c.gs.length + c.rs.length + c.ps.length + c.ns.length + c.ss.length + 1 := by
          unfold PC.put
          split <;> simp <;> omega
        simp only [List.length_cons]
        omega
      · cases h
    · cases h
theorem readL_size {s : List UInt8} {p : PC} (h : readL s = .inr p) : p.gs.length + p.rs.length + p.ps.length + p.ns.length + p.ss.length ≤ s.length := by
  unfold readL at h
  split at h
  · cases h
  · rename_i c hr
    split at h
    · injection h with h
      subst h
      have h1 := runL_size _ _ _ _ _ hr
      have h2 := cutL_count 10 s
      simp only [pc0, List.length_nil] at h1
      omega
    · cases h
end Go.Proofs.YtikkfapgmbamlaaGreatDoor.Pl
end
section
/- The walk of label.Count and of math/bits.OnesCount, for labels; the walk of hermitagelaw01.LabelLeast. -/
namespace Go.Proofs.YtikkfapgmbamlaaGreatDoor.La
open Go.RowKit Ut

/-- what OnesCount64 reckons, step by step -/
def o1 (x : Int) : Int := IntKind.u64.wrap (bits .and .u64 (x / 2) 6148914691236517205 + bits .and .u64 x 6148914691236517205)
def o2 (x : Int) : Int := IntKind.u64.wrap (bits .and .u64 (x / 4) 3689348814741910323 + bits .and .u64 x 3689348814741910323)
def o3 (x : Int) : Int := bits .and .u64 (IntKind.u64.wrap (x / 16 + x)) 1085102592571150095
def o4 (x : Int) : Int := IntKind.u64.wrap (x + x / 256)
def o5 (x : Int) : Int := IntKind.u64.wrap (x + x / 65536)
def o6 (x : Int) : Int := IntKind.u64.wrap (x + x / 4294967296)
def ones (x : Int) : Int := bits .and .i64 (wrap64 (o6 (o5 (o4 (o3 (o2 (o1 x))))))) 127

theorem ones_all : (List.range 256).all (fun n => ones (n : Int) == (pop n : Int)) = true := by decide +kernel
theorem ones_pop (n : Nat) (h : n < 256) : ones n = pop n := by
  have := List.all_eq_true.1 ones_all n (List.mem_range.2 h)
  simpa using this

theorem two_cells (x y : Int) (w : World) : ∀ i, i < 2 → ∃ q, (some ⟨w.heap.size, 0, none⟩ : Option Addr) = some q ∧ (w.alloc (.cells #[.int .i64 x, .int .i64 y] 3)).cell? (q.add i) = some (.int .i64 ([x, y].getD i 0)) := by
  intro i hi
  rcases (show i = 0 ∨ i = 1 by omega) with rfl | rfl
  · exact ⟨_, rfl, by simp [go_sem]⟩
  · exact ⟨_, rfl, by simp [go_sem]⟩

theorem minus2_keep (x y d : Nat) (hx : x < 256) (hy : y < 256) (hd : andN x y = d) {B : Nat} {w0 w : World} (hB : B ≤ w0.heap.size) (hb : Below B w0 w) :
    Calls Tryz.prog 83 #[.int .i64 x, .int .i64 y] w fun e w' => e = .returned (.int .i64 d) ∧ Below B w0 w' := by
  refine (minus_keep x y hB hb).mono fun e w' ⟨he, hw⟩ => ⟨he.trans ?_, hw⟩
  rw [minusZ_nat x y hx hy, hd]
end Go.Proofs.YtikkfapgmbamlaaGreatDoor.La
end
section
/- The document's Valid, Flows, Minus, Count of layer 1: what each returns, for every argument. -/
namespace Go.Proofs.YtikkfapgmbamlaaGreatDoor.La
open Go.RowKit Ut

theorem hasZ_all : (List.range 256).all (fun n => (List.range 8).all fun i => hasZ (n : Int) i == n.testBit i) = true := by decide +kernel
theorem hasZ_nat (n i : Nat) (hn : n < 256) (hi : i < 8) : hasZ n i = n.testBit i := by
  have := List.all_eq_true.1 (List.all_eq_true.1 hasZ_all n (List.mem_range.2 hn)) i (List.mem_range.2 hi)
  simpa using this
theorem tb_high (n i : Nat) (hn : n < 256) (hi : 8 ≤ i) : n.testBit i = false :=
  Nat.testBit_lt_two_pow (Nat.lt_of_lt_of_le hn (show 2 ^ 8 ≤ 2 ^ i from Nat.pow_le_pow_right (by decide) hi))
theorem flowsZ_yes (n m : Nat) (hn : n < 256) (hm : m < 256) (h : ∀ i, i < 8 → hasZ n i = true → hasZ m i = true) : flowsZ n m = true := by
  refine (flowsZ_nat n m hn hm).2 fun i hi => ?_
  by_cases k : i < 8
  · have := h i k
    rw [hasZ_nat n i hn k, hasZ_nat m i hm k] at this
    exact this hi
  · rw [tb_high n i hn (by omega)] at hi; cases hi
theorem flowsZ_no (n m i : Nat) (hn : n < 256) (hm : m < 256) (hi : i < 8) (h1 : hasZ n i = true) (h2 : hasZ m i = false) : flowsZ n m = false := by
  cases h : flowsZ n m
  · rfl
  · have := (flowsZ_nat n m hn hm).1 h i (by rw [← hasZ_nat n i hn hi]; exact h1)
    rw [← hasZ_nat m i hm hi, h2] at this; cases this

/-- cats 0 to 8, and l a label of the first cats categories -/
def validB (l cats : Int) : Bool := decide (0 ≤ cats) && decide (cats ≤ 8) && decide (0 ≤ l) && decide (l < wrap64 (2 ^ cats.toNat))
theorem valid_gen (l cats : Int) (w : World) :
    Calls Tryz.prog 65 #[.int .i64 l, .int .i64 cats] w fun e w' => e = .returned (.bool (validB l cats)) ∧ w = w' := by
  by_cases h1 : 0 ≤ cats
  · by_cases h2 : cats ≤ 8
    · by_cases h3 : 0 ≤ l
      · go_enter Tryz.func65, Tryz.ntmps65
        go_wp2
        all_goals (go_ret; exact ⟨congrArg (fun b => Ending.returned (.bool b)) (by unfold validB; simp [*] <;> intros <;> omega), rfl⟩)
      · have h3' : l < 0 := by omega
        go_enter Tryz.func65, Tryz.ntmps65
        go_wp2
        all_goals (go_ret; exact ⟨congrArg (fun b => Ending.returned (.bool b)) (by unfold validB; simp [*] <;> intros <;> omega), rfl⟩)
    · have h2' : 8 < cats := by omega
      go_enter Tryz.func65, Tryz.ntmps65
      go_wp2
      all_goals (go_ret; exact ⟨congrArg (fun b => Ending.returned (.bool b)) (by unfold validB; simp [*] <;> intros <;> omega), rfl⟩)
  · have h1' : cats < 0 := by omega
    go_enter Tryz.func65, Tryz.ntmps65
    go_wp2
    all_goals (go_ret; exact ⟨congrArg (fun b => Ending.returned (.bool b)) (by unfold validB; simp [*] <;> intros <;> omega), rfl⟩)
theorem refValid_gen (l cats : Int) (w : World) :
    Calls Tryz.prog 58 #[.int .i64 l, .int .i64 cats] w fun e w' => e = .returned (.bool (validB l cats)) ∧ w = w' := by
  by_cases h1 : 0 ≤ cats
  · by_cases h2 : cats ≤ 8
    · by_cases h3 : 0 ≤ l
      · go_enter Tryz.func58, Tryz.ntmps58
        go_wp2
        all_goals (go_ret; exact ⟨congrArg (fun b => Ending.returned (.bool b)) (by unfold validB; simp [*] <;> intros <;> omega), rfl⟩)
      · have h3' : l < 0 := by omega
        go_enter Tryz.func58, Tryz.ntmps58
        go_wp2
        all_goals (go_ret; exact ⟨congrArg (fun b => Ending.returned (.bool b)) (by unfold validB; simp [*] <;> intros <;> omega), rfl⟩)
    · have h2' : 8 < cats := by omega
      go_enter Tryz.func58, Tryz.ntmps58
      go_wp2
      all_goals (go_ret; exact ⟨congrArg (fun b => Ending.returned (.bool b)) (by unfold validB; simp [*] <;> intros <;> omega), rfl⟩)
  · have h1' : cats < 0 := by omega
    go_enter Tryz.func58, Tryz.ntmps58
    go_wp2
    all_goals (go_ret; exact ⟨congrArg (fun b => Ending.returned (.bool b)) (by unfold validB; simp [*] <;> intros <;> omega), rfl⟩)

theorem refFlows_bad (a b : Int) (h : isL a = true → isL b = false) (w : World) :
    Calls Tryz.prog 61 #[.int .i64 a, .int .i64 b] w fun e w' => e = .returned (.bool false) ∧ w = w' := by
  cases ha : isL a
  · clear h
    go_enter Tryz.func61, Tryz.ntmps61
    go_wp2_with (go_at_call 62; refine (refIs_any _ _).mono ?_; rintro e w' ⟨rfl, rfl⟩)
    go_ret
    exact ⟨rfl, rfl⟩
  · have hb := h ha
    clear h
    go_enter Tryz.func61, Tryz.ntmps61
    go_wp2_with (go_at_call 62; refine (refIs_any _ _).mono ?_; rintro e w' ⟨rfl, rfl⟩)
    go_ret
    exact ⟨rfl, rfl⟩

set_option maxRecDepth 100000 in
theorem refFlows_good (n m : Nat) (hn : n < 256) (hm : m < 256) (w : World) :
    Calls Tryz.prog 61 #[.int .i64 n, .int .i64 m] w fun e w' => e = .returned (.bool (flowsZ n m)) ∧ w = w' := by
  have ha := isL_nat n hn
  have hb := isL_nat m hm
  go_enter Tryz.func61, Tryz.ntmps61
  go_wp2_with (go_at_call 62; refine (refIs_any _ _).mono ?_; rintro e w' ⟨rfl, rfl⟩)
  clear ha hb
  go_loop [5] (fun i => ∃ k : Nat, k ≤ 8 ∧ i = .int .i64 k ∧ ∀ i, i < k → hasZ n i = true → hasZ m i = true) (fun i => 8 - (intOf i).toNat)
  case atStart => exact ⟨0, Nat.zero_le _, rfl, fun i h => absurd h (by omega)⟩
  case round =>
    obtain ⟨k, hk, rfl, hall⟩ := hrel
    have HA := Lib.hid hall
    clear hall
    by_cases hlt : k < 8
    · cases h1 : hasZ n k
      · have H1 := Lib.hid h1
        go_wp2_with (go_at_call 63; refine (refHas_any _ _ hk _).mono ?_; rintro e w' ⟨rfl, rfl⟩)
        go_round
        case rel =>
          refine ⟨k + 1, by omega, by go_num, fun i hi h => ?_⟩
          by_cases e : i < k
          · exact HA.out i e h
          · obtain rfl : i = k := by omega
            rw [H1.out] at h; cases h
        case measure => simp [intOf]; omega
      · cases h2 : hasZ m k
        · have H := Lib.hid (flowsZ_no n m k hn hm hlt h1 h2)
          go_wp2_with (go_at_call 63; refine (refHas_any _ _ hk _).mono ?_; rintro e w' ⟨rfl, rfl⟩)
          go_ret
          exact ⟨congrArg (fun b => Ending.returned (.bool b)) H.out.symm, rfl⟩
        · have H2 := Lib.hid h2
          go_wp2_with (go_at_call 63; refine (refHas_any _ _ hk _).mono ?_; rintro e w' ⟨rfl, rfl⟩)
          go_round
          case rel =>
            refine ⟨k + 1, by omega, by go_num, fun i hi h => ?_⟩
            by_cases e : i < k
            · exact HA.out i e h
            · obtain rfl : i = k := by omega
              exact H2.out
          case measure => simp [intOf]; omega
    · obtain rfl : k = 8 := by omega
      have H := Lib.hid (flowsZ_yes n m hn hm HA.out)
      go_wp2
      go_ret
      exact ⟨congrArg (fun b => Ending.returned (.bool b)) H.out.symm, rfl⟩

theorem refFlows_any (a b : Int) (w : World) :
    Calls Tryz.prog 61 #[.int .i64 a, .int .i64 b] w fun e w' => e = .returned (.bool (flowsZ a b)) ∧ w = w' := by
  cases ha : isL a
  · rw [flowsZ_left a b ha]
    exact refFlows_bad a b (fun h => by rw [ha] at h; cases h) w
  · cases hb : isL b
    · rw [flowsZ_right a b hb]
      exact refFlows_bad a b (fun _ => hb) w
    · obtain ⟨n, hn, rfl⟩ := isL_ex a ha
      obtain ⟨m, hm, rfl⟩ := isL_ex b hb
      exact refFlows_good n m hn hm w

/-- the first k bits -/
theorem low_all : (List.range 256).all (fun x => (List.range 8).all fun k => x % 2 ^ (k + 1) == x % 2 ^ k + (if x.testBit k then 2 ^ k else 0)) = true := by decide +kernel
theorem low_any (x k : Nat) (hx : x < 256) (hk : k < 8) : x % 2 ^ (k + 1) = x % 2 ^ k + (if x.testBit k then 2 ^ k else 0) := by
  have := List.all_eq_true.1 (List.all_eq_true.1 low_all x (List.mem_range.2 hx)) k (List.mem_range.2 hk)
  exact eq_of_beq this
theorem low_yes (x k : Nat) (hx : x < 256) (hk : k < 8) (h : x.testBit k = true) : x % 2 ^ (k + 1) = x % 2 ^ k + 2 ^ k := by
  rw [low_any x k hx hk, h]; rfl
theorem low_no (x k : Nat) (hx : x < 256) (hk : k < 8) (h : x.testBit k = false) : x % 2 ^ (k + 1) = x % 2 ^ k := by
  rw [low_any x k hx hk, h]; rfl
theorem pow_le (k : Nat) (h : k < 8) : 2 ^ k ≤ 128 := Nat.pow_le_pow_right (by decide) (show k ≤ 7 by omega)

/-- how many of the first k categories are in n -/
def popK (n : Nat) : Nat → Nat
  | 0 => 0
  | k + 1 => popK n k + (hasZ n k).toNat
theorem popK_all : (List.range 256).all (fun n => popK n 8 == pop n) = true := by decide +kernel
theorem popK_pop (n : Nat) (h : n < 256) : popK n 8 = pop n := by
  have := List.all_eq_true.1 popK_all n (List.mem_range.2 h)
  simpa using this
theorem popK_le (n : Nat) : ∀ k, popK n k ≤ k
  | 0 => Nat.le_refl _
  | k + 1 => by
    have := popK_le n k
    have h : ∀ b : Bool, b.toNat ≤ 1 := by decide
    have := h (hasZ n k)
    unfold popK; omega

/-- how many categories a number has, -1 if it is no label -/
def countZ (l : Int) : Int := if isL l then (pop l.toNat : Nat) else -1

end Go.Proofs.YtikkfapgmbamlaaGreatDoor.La
end
section
/- Runs in memory: a run, rows of runs, rows of runs that the call owns; tables. -/
namespace Go.Proofs.YtikkfapgmbamlaaGreatDoor.Pt
open Go.RowKit Ut
set_option linter.unusedVariables false

/-- a run: from, how many, whose -/
structure R3 where
  f : Int
  n : Int
  w : Int
def R3.v (r : R3) : Value := .agg #[.int .i64 r.f, .int .i64 r.n, .int .i64 r.w]
def R3.cs (r : R3) : List Value := [.int .i64 r.f, .int .i64 r.n, .int .i64 r.w]
def R3.zero : R3 := ⟨0, 0, 0⟩
instance : Inhabited R3 := ⟨R3.zero⟩
def cs3 (rs : List R3) : List Value := rs.flatMap R3.cs

theorem cs3_cons (r : R3) (rs : List R3) : cs3 (r :: rs) = .int .i64 r.f :: .int .i64 r.n :: .int .i64 r.w :: cs3 rs := rfl
theorem cs3_append (a b : List R3) : cs3 (a ++ b) = cs3 a ++ cs3 b := by simp [cs3]
theorem cs3_length (rs : List R3) : (cs3 rs).length = rs.length * 3 := by
  induction rs with
  | nil => rfl
  | cons r rs ih => rw [cs3_cons]; simp [ih]; omega
theorem cs3_get (rs : List R3) : ∀ i, i < rs.length → (cs3 rs)[i * 3]? = some (.int .i64 (rs.getD i default).f) ∧ (cs3 rs)[i * 3 + 1]? = some (.int .i64 (rs.getD i default).n) ∧ (cs3 rs)[i * 3 + 2]? = some (.int .i64 (rs.getD i default).w) := by
  induction rs with
  | nil => intro i hi; exact absurd hi (by simp)
  | cons r rs ih =>
    intro i hi
    rw [cs3_cons]
    cases i with
    | zero => exact ⟨rfl, rfl, rfl⟩
    | succ i =>
      have h := ih i (by simpa using hi)
      have e0 : (i + 1) * 3 = i * 3 + 1 + 1 + 1 := by omega
      have e1 : (i + 1) * 3 + 1 = i * 3 + 1 + 1 + 1 + 1 := by omega
      have e2 : (i + 1) * 3 + 2 = i * 3 + 2 + 1 + 1 + 1 := by omega
      rw [e2, e1, e0]
      simp only [List.getElem?_cons_succ, List.getD_cons_succ]
      exact h
theorem cs3_one (rs : List R3) : ∀ u ∈ cs3 rs, u.oneCell' = true := by
  induction rs with
  | nil => intro u hu; cases hu
  | cons r rs ih =>
    intro u hu
    rw [cs3_cons] at hu
    simp only [List.mem_cons] at hu
    rcases hu with rfl | rfl | rfl | hu
    · rfl
    · rfl
    · rfl
    · exact ih u hu

/-- the three cells of run number i in block g -/
def CellsAt (w : World) (g : Nat) (i : Nat) (r : R3) : Prop :=
  w.cell? ⟨g, i * 3, none⟩ = some (.int .i64 r.f) ∧ w.cell? ⟨g, i * 3 + 1, none⟩ = some (.int .i64 r.n) ∧ w.cell? ⟨g, i * 3 + 2, none⟩ = some (.int .i64 r.w)

/-- the slice v reads as the runs rs, and lies below block B -/
def RowS (w : World) (B : Nat) (v : Value) (rs : List R3) : Prop :=
  (v = .slice none 0 0 ∧ rs = []) ∨ ∃ g cap, v = .slice (some ⟨g, 0, none⟩) rs.length cap ∧ rs.length ≤ cap ∧ cap ≤ maxLen ∧ g < B ∧ ∀ i, i < rs.length → CellsAt w g i (rs.getD i default)

theorem CellsAt.below {w w' : World} {B g i : Nat} {r : R3} (h : CellsAt w g i r) (hg : g < B) (hb : Below B w w') : CellsAt w' g i r :=
  ⟨(hb.cell (p := ⟨g, _, none⟩) hg).trans h.1, (hb.cell (p := ⟨g, _, none⟩) hg).trans h.2.1, (hb.cell (p := ⟨g, _, none⟩) hg).trans h.2.2⟩
theorem RowS.below {w w' : World} {B : Nat} {v : Value} {rs : List R3} (h : RowS w B v rs) (hb : Below B w w') : RowS w' B v rs := by
  rcases h with h | ⟨g, cap, hv, hl, hm, hg, hc⟩
  · exact .inl h
  · exact .inr ⟨g, cap, hv, hl, hm, hg, fun i hi => (hc i hi).below hg hb⟩
theorem RowS.more {w : World} {B B' : Nat} {v : Value} {rs : List R3} (h : RowS w B v rs) (hB : B ≤ B') : RowS w B' v rs := by
  rcases h with h | ⟨g, cap, hv, hl, hm, hg, hc⟩
  · exact .inl h
  · exact .inr ⟨g, cap, hv, hl, hm, by omega, hc⟩

/-- what the call owns, as runs -/
def OwnS (w : World) (B : Nat) (v : Value) (rs : List R3) : Prop := w.ownsRow B 108 3 v rs.length (cs3 rs)
theorem OwnS.nil (w : World) (B : Nat) : OwnS w B (.slice none 0 0) [] := World.ownsRow_nil _ _ _ _
theorem OwnS.row {w : World} {B : Nat} {v : Value} {rs : List R3} (h : OwnS w B v rs) : RowS w w.heap.size v rs := by
  rcases h.2 with ⟨rfl, h0⟩ | ⟨g, cap, cur, rfl, hb, hg, hnc, hm, hsz, hcur⟩
  · exact .inl ⟨rfl, List.length_eq_zero_iff.1 h0⟩
  · refine .inr ⟨g, cap, rfl, hnc, hm, (Array.getElem?_eq_some_iff.1 hg).1, fun i hi => ?_⟩
    obtain ⟨h1, h2, h3⟩ := cs3_get rs i hi
    exact ⟨by rw [World.ownsRow.cellAt h _ (by omega)]; exact h1, by rw [World.ownsRow.cellAt h _ (by omega)]; exact h2, by rw [World.ownsRow.cellAt h _ (by omega)]; exact h3⟩
theorem OwnS.below {w w' : World} {B : Nat} {v : Value} {rs : List R3} (h : OwnS w B v rs) (hb : Below w.heap.size w w') : OwnS w' B v rs :=
  h.kept (row := none) ⟨hb.os, hb.tape, hb.output, hb.size, fun q hq _ => hb.block q hq⟩ (Classical.em _)
theorem OwnS.form {w : World} {B : Nat} {v : Value} {rs : List R3} (h : OwnS w B v rs) (hn : rs ≠ []) : ∃ g cap, v = .slice (some ⟨g, 0, none⟩) rs.length cap ∧ B ≤ g ∧ g < w.heap.size ∧ rs.length ≤ cap ∧ cap ≤ maxLen := by
  rcases h.2 with ⟨_, h0⟩ | ⟨g, cap, cur, hv, hb, hg, hnc, hm, _⟩
  · exact absurd (List.length_eq_zero_iff.1 h0) hn
  · exact ⟨g, cap, hv, hb, (Array.getElem?_eq_some_iff.1 hg).1, hnc, hm⟩

/-- a run that a table can have -/
def Fine (r : R3) : Prop := 0 ≤ r.f ∧ r.f ≤ 64 ∧ 0 ≤ r.n ∧ r.n ≤ 64 ∧ -1 ≤ r.w ∧ r.w < 64
def BR : Type := { r : R3 // Fine r }

/-- p is a table (nil, or one whose runs are nothing, too) with the runs xs, all below block B -/
def Tbl (w : World) (B : Nat) (p : Option Addr) (xs : List BR) : Prop :=
  (p = none ∧ xs = []) ∨ ∃ bt v, p = some ⟨bt, 0, none⟩ ∧ bt < B ∧ w.cell? ⟨bt, 1, none⟩ = some v ∧ RowS w B v (xs.map (·.1))
theorem Tbl.below {w w' : World} {B : Nat} {p : Option Addr} {xs : List BR} (h : Tbl w B p xs) (hb : Below B w w') : Tbl w' B p xs := by
  rcases h with h | ⟨bt, v, hp, hB, hc, hr⟩
  · exact .inl h
  · exact .inr ⟨bt, v, hp, hB, (hb.cell (p := ⟨bt, 1, none⟩) hB).trans hc, hr.below hb⟩
theorem Tbl.more {w : World} {B B' : Nat} {p : Option Addr} {xs : List BR} (h : Tbl w B p xs) (hB' : B ≤ B') : Tbl w B' p xs := by
  rcases h with h | ⟨bt, v, hp, hB, hc, hr⟩
  · exact .inl h
  · exact .inr ⟨bt, v, hp, by omega, hc, hr.more hB'⟩

/-- three cells of a block: a run's own variable -/
def Run3 (w : World) (b : Nat) (r : R3) : Prop := w.heap[b]? = some (.cells #[.int .i64 r.f, .int .i64 r.n, .int .i64 r.w] 108 (0, 0))
theorem Run3.lt {w : World} {b : Nat} {r : R3} (h : Run3 w b r) : b < w.heap.size := (Array.getElem?_eq_some_iff.1 h).1
theorem Run3.new (w : World) (r : R3) : Run3 (w.alloc (.cells #[.int .i64 r.f, .int .i64 r.n, .int .i64 r.w] 108)) w.heap.size r := World.alloc_heap_new w _
theorem Run3.cell {w : World} {b : Nat} {r : R3} (h : Run3 w b r) : w.cell? ⟨b, 0, none⟩ = some (.int .i64 r.f) ∧ w.cell? ⟨b, 1, none⟩ = some (.int .i64 r.n) ∧ w.cell? ⟨b, 2, none⟩ = some (.int .i64 r.w) := by
  refine ⟨?_, ?_, ?_⟩ <;> simp [World.cell?, show w.heap[b]? = _ from h]
theorem Run3.kept {w w' : World} {row : Option Nat} {b : Nat} {r : R3} (h : Run3 w b r) (hg : w.grownBy w' row) (hne : some b ≠ row) : Run3 w' b r := (hg.block b h.lt hne).trans h
theorem Run3.below {w w' : World} {B b : Nat} {r : R3} (h : Run3 w b r) (hb : Below B w w') (hB : b < B) : Run3 w' b r := (hb.block b hB).trans h
theorem run3_own {β : Type} (B : Nat) (f : β → R3) : Own (fun s W => Run3 W B (f s)) := fun s X Y row hs hg hrow =>
  hs.kept hg (fun e' => by obtain ⟨o, ho, hc⟩ := hrow B e'.symm; rw [show X.heap[B]? = _ from hs] at ho; cases ho; cases hc)
end Go.Proofs.YtikkfapgmbamlaaGreatDoor.Pt
end
section
/- The iterator of a table's runs: (*Table).each, and the function that it makes. -/
namespace Go.Proofs.YtikkfapgmbamlaaGreatDoor.Pt
open Go.RowKit Go.Shelf Ut
set_option linter.unusedVariables false
attribute [local go_sem] Oper.semAt_some

theorem each_any (p : Option Addr) (w : World) :
    Calls Tryz.prog 88 #[.pointer p] w fun e w' => e = .returned (.func (.func 97) #[] #[.pointer (some ⟨w.heap.size, 0, none⟩)]) ∧ w' = w.alloc (.cells #[.pointer p] 86) := by
  go_enter Tryz.func88, Tryz.ntmps88
  go_wp2
  go_ret
  exact ⟨rfl, rfl⟩

/-- what a round is handed -/
def enc1 (x : BR) : Array Value := #[x.1.v]

set_option maxRecDepth 100000 in
set_option maxHeartbeats 1000000 in
theorem each1_some (l Bn n₀ bt g cap : Nat) (xs : List BR) (J Jx : List BR → World → Prop) (W : World) (hJ : AbidesFrom W.heap.size J)
    (hY : ∀ pre x W1, J pre W1 → pre.length < xs.length → YieldAt Fence.wide 100 Tryz.prog l (enc1 x) W1 fun e W' =>
      (e = .returned (.bool true) ∧ J (pre ++ [x]) W' ∧ Below n₀ W1 W') ∨ (e = .returned (.bool false) ∧ Jx (pre ++ [x]) W'))
    (hBn : W.cell? ⟨Bn, 0, none⟩ = some (.pointer (some ⟨bt, 0, none⟩))) (hbt : bt < n₀) (hc : W.cell? ⟨bt, 1, none⟩ = some (.slice (some ⟨g, 0, none⟩) xs.length cap))
    (hcap : xs.length ≤ cap) (hm : cap ≤ maxLen) (hg : g < n₀) (hcs : ∀ i, i < xs.length → CellsAt W g i ((xs.map (·.1)).getD i default)) (hn₀ : n₀ ≤ W.heap.size) (h0 : J [] W) :
    CallsIn Fence.wide 101 Tryz.prog 97 #[.func (.yield l) #[] #[], .pointer (some ⟨Bn, 0, none⟩)] W fun e W' => (∃ v, e = .returned v) ∧
      ((∃ ys, ys = xs ∧ J ys W') ∨ (∃ pre, pre <+: xs ∧ Jx pre W')) := by
  unfold maxLen at hm
  refine callsIn_of_wp Tryz.func97 rfl trivial ?_ rfl
  simp only [Tryz.ntmps97, List.size_toArray, List.length_cons, List.length_nil, Nat.reduceAdd, Nat.reduceSub, Array.replicate_succ, Array.replicate_zero, List.push_toArray, List.append_toArray, List.nil_append, List.cons_append]
  gi_wp2
  gi_loopw [12] (fun i wr => ∃ k : Nat, k ≤ xs.length ∧ i = .int .i64 k ∧ J (xs.take k) wr ∧ Below n₀ W wr) (fun i _ => xs.length - (intOf i).toNat)
  case atStart => exact ⟨0, Nat.zero_le _, rfl, h0, Below.refl _ _⟩
  case round =>
    obtain ⟨k, hk, rfl, hJs, hb⟩ := hrel
    by_cases hlt : k < xs.length
    · obtain ⟨x, hx⟩ : ∃ x, xs[k]? = some x := ⟨xs[k], by simp⟩
      have hr : (xs.map (·.1)).getD k default = x.1 := by simp [List.getD, hx]
      have htk : xs.take (k + 1) = xs.take k ++ [x] := by rw [List.take_add_one, hx]; rfl
      have hc' := (hcs k hlt).below hg hb
      rw [hr] at hc'
      obtain ⟨c1, c2, c3⟩ := hc'
      have HT := Lib.hid htk
      clear htk hr hx hcs hc
      have hJ1 : J (xs.take k) (wr.alloc (.cells #[.int .i64 x.1.f, .int .i64 x.1.n, .int .i64 x.1.w] 108)) := hJ _ _ _ none hJs (World.grownBy_alloc _ _ none) (fun r e => by cases e)
      have hb1 : Below n₀ wr (wr.alloc (.cells #[.int .i64 x.1.f, .int .i64 x.1.n, .int .i64 x.1.w] 108)) := (Below.refl _ _).alloc (Nat.le_trans hn₀ hb.size) _
      obtain ⟨fn, tmps, assign, body, hy, hR⟩ := hY _ x _ hJ1 (by simp; omega)
      dsimp only [enc1, R3.v] at hy
      gi_wp2
      refine hR.mono ?_
      rintro e W3 (⟨rfl, hJ3, hk3⟩ | ⟨rfl, hJx3⟩)
      · gi_wp2
        go_roundw
        case rel => exact ⟨k + 1, by omega, by simp, by rw [HT.out]; exact hJ3, hb.trans (hb1.trans hk3)⟩
        case measure => simp [intOf]; omega
      · gi_wp2
        refine bodyPost_ret (results_none rfl _ _ _) rfl ?_
        exact ⟨⟨_, rfl⟩, .inr ⟨xs.take (k + 1), List.take_prefix _ _, by rw [HT.out]; exact hJx3⟩⟩
    · obtain rfl : k = xs.length := by omega
      gi_wp2
      go_end0
      exact ⟨⟨_, rfl⟩, .inl ⟨xs, rfl, by rw [List.take_length] at hJs; exact hJs⟩⟩

set_option maxRecDepth 100000 in
set_option maxHeartbeats 1000000 in
/-- .. where there are no runs -/
theorem each1_none (l Bn : Nat) (p : Option Addr) (xs : List BR) (J : List BR → World → Prop) (W : World)
    (hBn : W.cell? ⟨Bn, 0, none⟩ = some (.pointer p)) (hp : p = none ∨ ∃ bt, p = some ⟨bt, 0, none⟩ ∧ W.cell? ⟨bt, 1, none⟩ = some (.slice none 0 0)) (h0 : J [] W) :
    CallsIn Fence.wide 101 Tryz.prog 97 #[.func (.yield l) #[] #[], .pointer (some ⟨Bn, 0, none⟩)] W fun e W' => (∃ v, e = .returned v) ∧ J [] W' := by
  rcases hp with rfl | ⟨bt, rfl, hc⟩
  · refine callsIn_of_wp Tryz.func97 rfl trivial ?_ rfl
    simp only [Tryz.ntmps97, List.size_toArray, List.length_cons, List.length_nil, Nat.reduceAdd, Nat.reduceSub, Array.replicate_succ, Array.replicate_zero, List.push_toArray, List.append_toArray, List.nil_append, List.cons_append]
    gi_wp2
    refine bodyPost_ret (results_none rfl _ _ _) rfl ?_
    exact ⟨⟨_, rfl⟩, h0⟩
  · refine callsIn_of_wp Tryz.func97 rfl trivial ?_ rfl
    simp only [Tryz.ntmps97, List.size_toArray, List.length_cons, List.length_nil, Nat.reduceAdd, Nat.reduceSub, Array.replicate_succ, Array.replicate_zero, List.push_toArray, List.append_toArray, List.nil_append, List.cons_append]
    gi_wp2
    gi_loopw [12] (fun i wr => i = .int .i64 0 ∧ J [] wr) (fun _ _ => 0)
    case atStart => exact ⟨rfl, h0⟩
    case round =>
      obtain ⟨rfl, hJs⟩ := hrel
      gi_wp2
      go_end0
      exact ⟨⟨_, rfl⟩, hJs⟩

/-- the function that each makes goes over the runs, in order -/
theorem each_stops (Bn n₀ : Nat) (p : Option Addr) (xs : List BR) (w : World) (hBn : Bn < w.heap.size) (hn₀ : n₀ ≤ w.heap.size) (hc : w.cell? ⟨Bn, 0, none⟩ = some (.pointer p)) (hT : Tbl w n₀ p xs) :
    SeqStopsK Fence.wide 101 Tryz.prog 97 #[.pointer (some ⟨Bn, 0, none⟩)] enc1 (Below n₀) (fun ys => ys = xs) (fun pre => pre <+: xs) xs.length w := fun l J Jx W hW hJ _ hY h0 => by
  have hc' := (hW.cell (p := ⟨Bn, 0, none⟩) hBn).trans hc
  have hsz := hW.size
  rcases hT.below (hW.mono hn₀) with ⟨rfl, rfl⟩ | ⟨bt, v, rfl, hbt, hv, hr⟩
  · exact (each1_none l Bn none [] J W hc' (.inl rfl) h0).mono fun e W' ⟨he, hj⟩ => ⟨he, .inl ⟨_, rfl, hj⟩⟩
  · rcases hr with ⟨rfl, hx⟩ | ⟨g, cap, rfl, hl, hm, hg, hcs⟩
    · obtain rfl : xs = [] := by simpa using hx
      exact (each1_none l Bn _ [] J W hc' (.inr ⟨bt, rfl, hv⟩) h0).mono fun e W' ⟨he, hj⟩ => ⟨he, .inl ⟨_, rfl, hj⟩⟩
    · simp only [List.length_map] at hl hcs hv
      exact each1_some l Bn n₀ bt g cap xs J Jx W hJ hY hc' hbt hv hl hm hg hcs (Nat.le_trans hn₀ hsz) h0
end Go.Proofs.YtikkfapgmbamlaaGreatDoor.Pt
end
