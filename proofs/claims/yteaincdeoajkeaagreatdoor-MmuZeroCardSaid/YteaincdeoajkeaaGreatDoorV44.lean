/- Several texts in one: Ao Ap Bq Br -/
import Derived.Test.YteaincdeoajkeaaGreatDoorV43
import Derived.Great.Ranges
import Derived.Great.Walk
import Derived.Laws.EntriesVeiled
section
/- Package stlb: the heap's methods Push and Pop; the heap as the library sees it. -/
namespace Go.Proofs.YteaincdeoajkeaaGreatDoor.Sb
open Go.RowKit Ut Hg
set_option maxRecDepth 100000
set_option linter.unusedVariables false
set_option maxHeartbeats 4000000

section
variable {W : World} {b o : Nat} {t : TypeId} {pre : List Value} {l : List Us}
/-- a heap of translations: in a heap's order -/
def HP (W : World) (b : Nat) (t : TypeId) (pre : List Value) (l : List Us) : Prop := LB W b t pre l ∧ HeapL usK l l.length
end
end Go.Proofs.YteaincdeoajkeaaGreatDoor.Sb
end
section
/- Package stlb: New, Len, next; the closures that say which translations are meant. -/
namespace Go.Proofs.YteaincdeoajkeaaGreatDoor.Sb
open Go.RowKit Ut Hg
set_option maxRecDepth 100000
set_option linter.unusedVariables false
set_option maxHeartbeats 4000000

/-- what lies ahead of the heap: made, the room, the number of the last use -/
abbrev hd3 (room c : Int) : List Value := [.bool true, .int .i64 room, .int .u64 c]
section
variable {W W' : World} {g : Nat} {room c : Int} {us : List Us}
theorem LB.use (h : LB W g 175 (hd3 room c) us) (c' : Int) : LB (W.setCell ⟨g, 2, none⟩ (.int .u64 c')) g 175 (hd3 room c') us := by
 obtain ⟨z, h5, hb⟩ := h
 exact ⟨z, h5, hb.set 2 (.int .u64 c')⟩
theorem LB.pre (h : LB W g 175 (hd3 room c) us) : W.cell? ⟨g, 0, none⟩ = some (.bool true) ∧ W.cell? ⟨g, 1, none⟩ = some (.int .i64 room) ∧ W.cell? ⟨g, 2, none⟩ = some (.int .u64 c) := by
 obtain ⟨z, h5, hb⟩ := h
 exact ⟨hb.cell rfl, hb.cell rfl, hb.cell rfl⟩

/-- what a new one's cells are -/
def newC (room : Int) : List Value := hd3 room 0 ++ .int .i64 ((0 : Nat) : Int) :: flatU [noU, noU, noU, noU, noU]
end

end Go.Proofs.YteaincdeoajkeaaGreatDoor.Sb
end
section
/- Package stlb: find, each, forget, over any closures that say which ones are meant and what is done with them. -/
namespace Go.Proofs.YteaincdeoajkeaaGreatDoor.Sb
open Go.RowKit Ut Hg
set_option maxRecDepth 100000
set_option linter.unusedVariables false
set_option maxHeartbeats 4000000

/-- a closure that says which ones are meant, in all worlds in which nothing but g has turned since W0 -/
def IsC (W0 : World) (g fi : Nat) (caps : Array Value) (P : Rc → Bool) : Prop :=
 (∀ args w, (callFunc fi args).run Tryz.prog w = .ok (.enter fi args) w) ∧ ∀ (x : Rc) (w : World), Kq [g] W0 w → Calls Tryz.prog fi (#[x.v] ++ caps) w fun e w' => e = .returned (.bool (P x)) ∧ Below w.heap.size w w'
/-- what find answers -/
def Found (P : Rc → Bool) (us : List Us) (i : Nat) (t : Bool) : Prop := (t = true ∧ ∃ u, us[i]? = some u ∧ P u.1 = true) ∨ (t = false ∧ i = 0 ∧ ∀ u ∈ us, P u.1 = false)

def FindP (P : Rc → Bool) (us : List Us) (e : Ending) : Prop := ∃ (i : Nat) (t : Bool), e = .returned (.tuple #[.int .i64 (i : Nat), .bool t]) ∧ Found P us i t

section
variable {W W0 : World} {g fi fd : Nat} {room c : Int} {us : List Us} {caps capd : Array Value} {P : Rc → Bool}
/-- a closure that does something with one that is meant; J says what holds behind so many -/
def DoC (W0 : World) (g fd : Nat) (capd : Array Value) (pre : List Value) (P : Rc → Bool) (J : List Us → Nat → Prop) : Prop :=
 (∀ args w, (callFunc fd args).run Tryz.prog w = .ok (.enter fd args) w) ∧ ∀ (us : List Us) (n i : Nat) (u : Us) (w : World), J us n → LB w g 175 pre us → Kq [g] W0 w → us[i]? = some u → P u.1 = true →
  Calls Tryz.prog fd (#[.int .i64 i] ++ capd) w fun e w' => e = .returned (.tuple #[]) ∧ (∃ us', Hid (J us' (n + 1)) ∧ Hid (LB w' g 175 pre us')) ∧ Kq [g] w w'
/-- what is left when all that are meant are forgotten: a heap of all others -/
def GoneJ (P : Rc → Bool) (us0 : List Us) (N : Nat) (us : List Us) (n : Nat) : Prop := HeapL usK us us.length ∧ n + us.countP (fun u => P u.1) = N ∧ (us.filter fun u => !P u.1).Perm (us0.filter fun u => !P u.1)
end
end Go.Proofs.YteaincdeoajkeaaGreatDoor.Sb
end
section
/- Package stlb: what it remembers, told by the document's list; Len, Drop, Gone, Flush. -/
namespace Go.Proofs.YteaincdeoajkeaaGreatDoor.Sb
open Go.RowKit Ut Hg
set_option maxRecDepth 100000
set_option linter.unusedVariables false
set_option maxHeartbeats 4000000

/-- the program's translations at g: those of l, whose last use is longest ago first; c is the number of the last use -/
def PT (W : World) (g : Nat) (room c : Int) (l : List Rc) : Prop := ∃ us, HP W g 175 (hd3 room c) us ∧ Rel us l ∧ (∀ u ∈ us, u.2 ≤ c) ∧ 0 ≤ c
section
variable {W W0 : World} {g : Nat} {room c : Int} {l : List Rc}
theorem PT.lt (h : PT W g room c l) : g < W.heap.size := h.elim fun _ h => h.1.1.lt
theorem PT.kq {T : List Nat} {W' : World} (h : PT W g room c l) (k : Kq T W W') (hg : g ∉ T) : PT W' g room c l := by
 obtain ⟨us, h1, h2⟩ := h
 exact ⟨us, ⟨h1.1.kq k hg, h1.2⟩, h2⟩
theorem PT.more {W' : World} (h : PT W g room c l) (hb : Below W.heap.size W W') : PT W' g room c l := h.kq (T := []) (Kq.of_below hb) (by simp)
theorem PT.len (h : PT W g room c l) : l.length ≤ 5 := by
 obtain ⟨us, h1, h2, _⟩ := h
 rw [← h2.len]
 exact h1.1.len
theorem PT.made {W' : World} (h : HP W g 175 (hd3 room 0) []) : PT W g room 0 [] := ⟨[], h, Rel.nil, (fun u hu => absurd hu List.not_mem_nil), Int.le_refl _⟩
end
end Go.Proofs.YteaincdeoajkeaaGreatDoor.Sb
end
