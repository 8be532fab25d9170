/- Several texts in one: Aa Ab -/
import Derived.Test.YteaincdeoajkeaaGreatDoorV25
import Derived.Test.YteaincdeoajkeaaGreatDoorV11
import Derived.Test.YteaincdeoajkeaaGreatDoorV03
import Derived.Deep.QuietTactic
import Derived.BigQuiet
section
/- The document's translations (hermitageref18): rows of five integers; what its acts leave, plainly; New, Look. -/
namespace Go.Proofs.YteaincdeoajkeaaGreatDoor.Sb
open Go.RowKit Ut
set_option maxRecDepth 100000
set_option linter.unusedVariables false
set_option maxHeartbeats 4000000

/-- a translation that is kept: its key (root, page), its entry (page, frame, rights) -/
structure Rc where
 kr : Int
 kp : Int
 ep : Int
 ef : Int
 er : Int
deriving DecidableEq
instance : Inhabited Rc := ⟨⟨0, 0, 0, 0, 0⟩⟩
def Rc.l (x : Rc) : List Int := [x.kr, x.kp, x.ep, x.ef, x.er]
abbrev Rc.v (x : Rc) : Value := .agg #[.int .i64 x.kr, .int .i64 x.kp, .int .i64 x.ep, .int .i64 x.ef, .int .i64 x.er]
def Rc.is (x : Rc) (p q : Int) : Bool := x.kr == p && x.kp == q
/-- the slice at a reads as xs -/
def RcRow (w : World) (a : Option Addr) (xs : List Rc) : Prop := ∀ (i : Nat) (x : Rc), xs[i]? = some x → ∃ y, a = some y ∧ y.block < w.heap.size ∧ ∀ (j : Nat) (z : Int), x.l[j]? = some z → w.cell? (y.add (i * 5 + j)) = some (.int .i64 z)
theorem add_some5 (x : Addr) (k j : Nat) (hj : 0 < j) : x.add (k * 5 + j) = ⟨(x.add (k * 5)).block, (x.add (k * 5)).off + j, none⟩ := by
 rw [← add_of_add]
 generalize x.add (k * 5) = y
 unfold Addr.add
 rw [if_neg (by omega)]
section
variable {w w' : World} {a : Option Addr} {xs : List Rc} {B : Nat}
theorem RcRow.kq {T : List Nat} (h : RcRow w a xs) (k : Kq T w w') (hT : ∀ y, a = some y → y.block ∉ T) : RcRow w' a xs := fun i x hx => by
 obtain ⟨y, rfl, hy, hc⟩ := h i x hx
 exact ⟨y, rfl, Nat.lt_of_lt_of_le hy k.size, fun j z hz => (k.cell (p := y.add (i * 5 + j)) (by rw [block_of_add]; exact hy) (by rw [block_of_add]; exact hT y rfl)).trans (hc j z hz)⟩
theorem RcRow.more (h : RcRow w a xs) (hb : Below w.heap.size w w') : RcRow w' a xs := h.kq (T := []) (Kq.of_below hb) (fun _ _ => by simp)
theorem RcRow.at_ (h : RcRow w a xs) {i : Nat} {x : Rc} (hx : xs[i]? = some x) : ∃ y, a = some y ∧ y.block < w.heap.size ∧ w.cell? (y.add (i * 5)) = some (.int .i64 x.kr) ∧ w.cell? ⟨(y.add (i * 5)).block, (y.add (i * 5)).off + 1, none⟩ = some (.int .i64 x.kp) ∧ w.cell? ⟨(y.add (i * 5)).block, (y.add (i * 5)).off + 2, none⟩ = some (.int .i64 x.ep) ∧ w.cell? ⟨(y.add (i * 5)).block, (y.add (i * 5)).off + 3, none⟩ = some (.int .i64 x.ef) ∧ w.cell? ⟨(y.add (i * 5)).block, (y.add (i * 5)).off + 4, none⟩ = some (.int .i64 x.er) := by
 obtain ⟨y, e, hy, hc⟩ := h i x hx
 refine ⟨y, e, hy, hc 0 _ rfl, ?_, ?_, ?_, ?_⟩
 ·rw [← add_some5 y i 1 (by decide)]; exact hc 1 _ rfl
 ·rw [← add_some5 y i 2 (by decide)]; exact hc 2 _ rfl
 ·rw [← add_some5 y i 3 (by decide)]; exact hc 3 _ rfl
 ·rw [← add_some5 y i 4 (by decide)]; exact hc 4 _ rfl
/-- what the call owns reads so -/
theorem RcRow.own {e : TypeId} {v : Value} (h : OwnT 5 w B e v (xs.map Rc.l)) : ∃ a cap, v = .slice a xs.length cap ∧ RcRow w a xs ∧ xs.length ≤ cap ∧ cap ≤ maxLen ∧ (∀ y, a = some y → B ≤ y.block) ∧ v.ownBlock = a.map Addr.block := by
 have hl : ∀ (ys : List Rc) (i : Nat) (x : Rc) (j : Nat) (z : Int), ys[i]? = some x → x.l[j]? = some z → (encR (ys.map Rc.l))[i * 5 + j]? = some (.int .i64 z) := by
  intro ys
  induction ys with
  | nil => intro i x j z h1; simp at h1
  | cons c ys ih =>
   intro i x j z h1 h2
   have hj : j < 5 := by
    have := (List.getElem?_eq_some_iff.1 h2).1
    simpa [Rc.l] using this
   have hcl : (encI c.l).length = 5 := rfl
   have e1 : encR ((c :: ys).map Rc.l) = encI c.l ++ encR (ys.map Rc.l) := rfl
   rw [e1]
   match i, h1 with
   | 0, h1 =>
    injection h1 with h1
    subst h1
    rw [List.getElem?_append_left (by omega), Nat.zero_mul, Nat.zero_add]
    unfold encI
    rw [List.getElem?_map, h2]
    rfl
   | i + 1, h1 =>
    rw [List.getElem?_append_right (by omega), hcl, show (i + 1) * 5 + j - 5 = i * 5 + j by omega]
    exact ih i x j z h1 h2
 have hL := h.1
 rw [List.length_map] at hL
 rcases hL.2 with ⟨rfl, h0⟩ | ⟨g, cap, cur, rfl, hB, hg, hnc, hcm, hsz, htk⟩
 ·have hx : xs = [] := List.eq_nil_of_length_eq_zero h0
  subst hx
  exact ⟨none, 0, rfl, fun i x hx => by simp at hx, by simp, by simp, (fun y e => by cases e), rfl⟩
 ·refine ⟨some ⟨g, 0, none⟩, cap, rfl, fun i x hx => ⟨_, rfl, (Array.getElem?_eq_some_iff.1 hg).1, fun j z hz => ?_⟩, hnc, hcm, (fun y e => by injection e with e; rw [← e]; exact hB), rfl⟩
  have h1 := hl xs i x j z hx hz
  rw [← htk, List.getElem?_take] at h1
  have h2 : cur.toList[i * 5 + j]? = some (.int .i64 z) := by
   split at h1
   ·exact h1
   ·cases h1
  rw [add_plain]
  unfold World.cell?
  rw [hg]
  simpa using h2
end
section
variable {w w' : World} {g n cap : Nat} {room : Int} {a : Option Addr} {l : List Rc}
end

/-- what is looked for -/
def findL (l : List Rc) (p q : Int) : Option Rc := l.find? (·.is p q)
def entF (o : Option Rc) : Int × Int × Int := match o with | some x => (x.ep, x.ef, x.er) | none => (0, 0, 0)
def entV (e : Int × Int × Int) : Value := .agg #[.int .i64 e.1, .int .i64 e.2.1, .int .i64 e.2.2]
def entC (e : Int × Int × Int) : List Value := [.int .i64 e.1, .int .i64 e.2.1, .int .i64 e.2.2]
def withoutL (l : List Rc) (p q : Int) : List Rc := l.filter fun x => !x.is p q
end Go.Proofs.YteaincdeoajkeaaGreatDoor.Sb
end
section
/- The document's translations: Look. -/
namespace Go.Proofs.YteaincdeoajkeaaGreatDoor.Sb
open Go.RowKit Ut
set_option maxRecDepth 100000
set_option linter.unusedVariables false
set_option maxHeartbeats 4000000

section
variable {g n cap : Nat} {room : Int} {a : Option Addr} {l : List Rc}
end
end Go.Proofs.YteaincdeoajkeaaGreatDoor.Sb
end
