/- Several texts in one: Yf -/
import Derived.Test.YteaincdeoajkeaaGreatDoorV14
section
/- Package view: own bytes, plainly: where a byte lies, bytes read and written one by one, parts of a range. -/
namespace Go.Proofs.YteaincdeoajkeaaGreatDoor.Vw
open Go.RowKit Ut Oc
set_option maxRecDepth 100000
set_option linter.unusedVariables false

/-- is the byte at p (below 512) an own one; where it lies in the frames' bytes -/
def okA (n : Nat) (L : List Gm.Pl) (p : Nat) : Bool := okP n (Gm.plN L (p / 64))
def frN (L : List Gm.Pl) (j : Nat) : Nat := (Gm.plN L j).1.toNat
def posn (L : List Gm.Pl) (p : Nat) : Nat := 64 * frN L (p / 64) + p % 64
def ownB (n : Nat) (L : List Gm.Pl) (z k : Int) : Bool := decide (0 ≤ k) && decide (z ≤ 512) && decide (k ≤ 512 - z) && (List.range k.toNat).all fun i => okA n L (z.toNat + i)

theorem ok_frame {n : Nat} {L : List Gm.Pl} (hL : Gm.Okay L) {j : Nat} (h : okP n (Gm.plN L j) = true) :
  ∃ f : Nat, (Gm.plN L j).1 = f ∧ frN L j = f ∧ f < n ∧ f < 32 := by
 unfold okP at h
 simp at h
 rcases Gm.pl_cases hL j with h2 | ⟨f, r, h2, hf, _, _, h4⟩
 ·rw [h2] at h; exact absurd h.1 (by decide)
 ·rw [h2] at h
  exact ⟨f, by rw [h2], by unfold frN; rw [h2]; simp, by have := h.2; simp at this; exact this, hf⟩
/-- the first k bytes of zs laid from a on; .. of a marked -/
def wS (L : List Gm.Pl) (S : List Int) (a : Nat) (zs : List Int) : Nat → List Int
 | 0 => S
 | k + 1 => (wS L S a zs k).set (posn L (a + k)) (zs.getD k 0)
def wD (D : List Bool) (a : Nat) : Nat → List Bool
 | 0 => D
 | k + 1 => (wD D a k).set ((a + k) / 64) true
/-- the first k bytes from a on -/
def rB (L : List Gm.Pl) (S : List Int) (a k : Nat) : List Int := (List.range k).map fun i => S.getD (posn L (a + i)) 0
/-- a part of a range of bytes: its page, where it begins in it, how many, how many are ahead of it -/
structure Part where
 page : Nat
 off : Nat
 k : Nat
 from_ : Nat
def Part.v (p : Part) : Value := .agg #[.int .i64 p.page, .int .i64 p.off, .int .i64 p.k, .int .i64 p.from_]
def Part.cs (p : Part) : List Value := [.int .i64 p.page, .int .i64 p.off, .int .i64 p.k, .int .i64 p.from_]
/-- a part of the K bytes from a on -/
def Part.fine (a K : Nat) (p : Part) : Prop := p.off + p.k ≤ 64 ∧ p.from_ + p.k ≤ K ∧ a + p.from_ = 64 * p.page + p.off ∧ 0 < p.k
abbrev BP (a K : Nat) := { p : Part // p.fine a K }
def nxt (a K i : Nat) : Nat := min (64 - (a + i) % 64) (K - i)
theorem nxt_bd {a K i : Nat} (h : i < K) : 0 < nxt a K i ∧ (a + i) % 64 + nxt a K i ≤ 64 ∧ i + nxt a K i ≤ K := by unfold nxt; omega
def partAt (a K i : Nat) : Part := ⟨(a + i) / 64, (a + i) % 64, nxt a K i, i⟩
theorem partAt_fine {a K i : Nat} (h : i < K) : (partAt a K i).fine a K := by
 have := nxt_bd (a := a) h
 refine ⟨this.2.1, this.2.2, ?_, this.1⟩
 show a + i = 64 * ((a + i) / 64) + (a + i) % 64
 omega
def partsG (a K : Nat) : Nat → Nat → List (BP a K)
 | 0, _ => []
 | m + 1, i => if h : i < K then ⟨partAt a K i, partAt_fine h⟩ :: partsG a K m (i + nxt a K i) else []
/-- the bytes of a part -/
def prtB (L : List Gm.Pl) (S : List Int) (p : Part) : List Int := ((Fr.frameL S (frN L p.page)).drop p.off).take p.k
/-- .. written -/
def prtS (L : List Gm.Pl) (S : List Int) (zs : List Int) (p : Part) : Nat → List Int
 | 0 => S
 | i + 1 => (prtS L S zs p i).set (64 * frN L p.page + (p.off + i)) (zs.getD (p.from_ + i) 0)
/-- over all parts -/
def foldS (L : List Gm.Pl) (zs : List Int) {a K : Nat} : List Int → List (BP a K) → List Int
 | S, [] => S
 | S, p :: l => foldS L zs (prtS L S zs p.1 p.1.k) l
def foldD {a K : Nat} : List Bool → List (BP a K) → List Bool
 | D, [] => D
 | D, p :: l => foldD (D.set p.1.page true) l
/-- all parts' bytes -/
def foldB (L : List Gm.Pl) (S : List Int) {a K : Nat} (l : List (BP a K)) : List Int := l.flatMap fun p => prtB L S p.1
end Go.Proofs.YteaincdeoajkeaaGreatDoor.Vw
end
