/- Several texts in one: Jy Jx Jz -/
import Derived.Test.YteaincdeoajkeaaGreatDoorV36
import Derived.Test.YteaincdeoajkeaaGreatDoorV33
import Derived.Test.YteaincdeoajkeaaGreatDoorV35
section
/- Package shadow: narrow. -/
namespace Go.Proofs.YteaincdeoajkeaaGreatDoor.Sw
open Go.RowKit Ut
set_option maxRecDepth 100000
set_option linter.unusedVariables false
set_option maxHeartbeats 4000000

/-- what narrow makes of a translation; of the first i -/
def narZ (l : List Ln) (z : Ln) : Ln := if tabL l z.ep = true then clrS z else z
def narI (l : List Ln) (i : Nat) : List Ln := (l.take i).map (narZ l) ++ l.drop i
section
variable {l : List Ln} {i : Nat} {x : Ln}
end
section
variable {W : World} {g : Nat} {m : Bool} {n : Int} {l L : List Ln}
end
end Go.Proofs.YteaincdeoajkeaaGreatDoor.Sw
end
section
/- Package shadow: List, fresh. -/
namespace Go.Proofs.YteaincdeoajkeaaGreatDoor.Sw
open Go.RowKit Ut
set_option maxRecDepth 100000
set_option linter.unusedVariables false
set_option maxHeartbeats 4000000

section
variable {W : World} {l : List Ln}
end
end Go.Proofs.YteaincdeoajkeaaGreatDoor.Sw
end
section
/- Package shadow: Fill. -/
namespace Go.Proofs.YteaincdeoajkeaaGreatDoor.Sw
open Go.RowKit Ut
set_option maxRecDepth 100000
set_option linter.unusedVariables false
set_option maxHeartbeats 4000000

/-- those that stay ahead of the one that is filled -/
def roomS (l : List Ln) (p q : Int) : List Ln := if (withS l p q).length = 32 then (withS l p q).drop 1 else withS l p q
def ErW (l : List Ln) : Prop := ∀ x ∈ l, -9223372036854775808 ≤ x.er ∧ x.er < 9223372036854775808
section
variable {W W' : World} {g : Nat} {m : Bool} {l : List Ln}
theorem Told.kq {k : Nat} {V : World} {v : Value} {xs : List (List Int)} {T : List Nat} (h : Told k W V v xs) (q : Kq T V W') (hT : ∀ b ∈ T, b < W.heap.size) : Told k W W' v xs := by
 obtain ⟨a, c, h1, h2, h3⟩ := h
 exact ⟨a, c, h1, h2.kq q (fun y e hm => by have := h3 y e; have := hT _ hm; omega), h3⟩
/-- the boxes of Fill's key and entry -/
structure FlB (W V : World) (p q ep ef er : Int) : Prop where
 key : Blk V W.heap.size 48 [.int .i64 p, .int .i64 q]
 ent : Blk V (W.heap.size + 1) 50 [.int .i64 ep, .int .i64 ef, .int .i64 er]
theorem FlB.kq {T : List Nat} {V V' : World} {p q ep ef er : Int} (h : FlB W V p q ep ef er) (k : Kq T V V') (hT : ∀ b ∈ T, b < W.heap.size) : FlB W V' p q ep ef er := ⟨h.key.kq k (fun hm => by have := hT _ hm; omega), h.ent.kq k (fun hm => by have := hT _ hm; omega)⟩
end
end Go.Proofs.YteaincdeoajkeaaGreatDoor.Sw
end
