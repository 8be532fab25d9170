/- Several texts in one: Zd Ze -/
import Derived.Test.YteaincdeoajkeaaGreatDoorV22
import Derived.WalkMore
import Derived.Deep.DeepCutAuto
import Derived.Deep.CutRange
import Derived.Deep.CutBlock
section
/- Package walk: Walk of the program. -/
namespace Go.Proofs.YteaincdeoajkeaaGreatDoor.Wa
open Go.RowKit Go.Shelf Ut Oc Vw
set_option maxRecDepth 100000
set_option linter.unusedVariables false
set_option maxHeartbeats 4000000

/-- the world in which the tables' and the steps' slices are made -/
structure WE (U : World) (b s m n : Nat) (S : List Int) (L : List Gm.Pl) (D : List Bool) (q bp : Nat) (A0 A1 : Int) : Prop where
 pv : PV U b s m n S L D
 bq : b < q
 qp : bp = q + 3
 sz : U.heap.size = q + 7
 vb : Blk U q 25 [.pointer (some ⟨b, 0, none⟩)]
 rb : Blk U (q + 1) 114 stz.cs
 tb : Blk U (bp + 1 + 1) 197 [.int .i64 A0, .pointer (some ⟨q + 2, 4, none⟩), .func (.func 103) #[] #[.pointer (some ⟨bp, 0, none⟩)], .int .i64 A1, .pointer (some ⟨q + 2, 5, none⟩), .func (.func 105) #[] #[.pointer (some ⟨q + 2, 0, none⟩)]]
 fb : Blk U (bp + 1 + 1 + 1) 200 [.func (.func 107) #[] #[.pointer (some ⟨q, 0, none⟩), .pointer (some ⟨bp, 0, none⟩), .pointer (some ⟨bp + 1, 0, none⟩)], .func (.func 109) #[] #[.pointer (some ⟨bp, 0, none⟩), .pointer (some ⟨bp + 1, 0, none⟩)]]
/-- .. in which a walk stands somewhere -/
structure WS (U W : World) (q bp : Nat) (t : Stp) (pg : Int) (u : Nat) : Prop where
 k : Kq [q + 2, bp, bp + 1] U W
 sb : Blk W (q + 2) 114 t.cs
 pb : Blk W bp 3 [.int .i64 pg]
 wb : Blk W (bp + 1) 31 [.int .u32 (u : Int)]

section
variable {U W W' : World} {b s m n q bp : Nat} {S : List Int} {L : List Gm.Pl} {D : List Bool} {A0 A1 : Int} {t : Stp} {pg : Int} {u : Nat}
theorem WS.more (h : WS U W q bp t pg u) (hb : Below W.heap.size W W') : WS U W' q bp t pg u :=
 ⟨h.k.trans (Kq.of_below hb), h.sb.more hb, h.pb.more hb, h.wb.more hb⟩
theorem WS.fault (h : WS U W q bp t pg u) (E : WE U b s m n S L D q bp A0 A1) (f : Int) : WS U (W.setCell ⟨q + 2, 3, none⟩ (.int .i64 f)) q bp ⟨t.o, t.r, t.g, f, t.rt, t.lf⟩ pg u := by
 have e := E.qp
 exact ⟨h.k.setCell (q + 2) 3 _ (.inl (by simp)), h.sb.set 3 (.int .i64 f), h.pb.of_block (Below.heap_setCell _ _ _ _ (by simp; omega)), h.wb.of_block (Below.heap_setCell _ _ _ _ (by simp; omega))⟩
theorem WS.pv (h : WS U W q bp t pg u) (E : WE U b s m n S L D q bp A0 A1) : PV W b s m n S L D := by
 have e := E.qp
 have h1 := E.bq
 have h2 := E.pv.sm
 have h3 := E.pv.mb
 exact E.pv.kq h.k (by simp; omega) (by simp; omega) (by simp; omega)
theorem WS.vb (h : WS U W q bp t pg u) (E : WE U b s m n S L D q bp A0 A1) : Blk W q 25 [.pointer (some ⟨b, 0, none⟩)] := E.vb.kq h.k (by have := E.qp; simp; omega)
theorem WS.rb (h : WS U W q bp t pg u) (E : WE U b s m n S L D q bp A0 A1) : Blk W (q + 1) 114 stz.cs := E.rb.kq h.k (by have := E.qp; simp; omega)
theorem WS.tb (h : WS U W q bp t pg u) (E : WE U b s m n S L D q bp A0 A1) : Blk W (bp + 1 + 1) 197 [.int .i64 A0, .pointer (some ⟨q + 2, 4, none⟩), .func (.func 103) #[] #[.pointer (some ⟨bp, 0, none⟩)], .int .i64 A1, .pointer (some ⟨q + 2, 5, none⟩), .func (.func 105) #[] #[.pointer (some ⟨q + 2, 0, none⟩)]] := E.tb.kq h.k (by have := E.qp; simp; omega)
theorem WS.fb (h : WS U W q bp t pg u) (E : WE U b s m n S L D q bp A0 A1) : Blk W (bp + 1 + 1 + 1) 200 [.func (.func 107) #[] #[.pointer (some ⟨q, 0, none⟩), .pointer (some ⟨bp, 0, none⟩), .pointer (some ⟨bp + 1, 0, none⟩)], .func (.func 109) #[] #[.pointer (some ⟨bp, 0, none⟩), .pointer (some ⟨bp + 1, 0, none⟩)]] := E.fb.kq h.k (by have := E.qp; simp; omega)
theorem WS.blk (h : WS U W q bp t pg u) (E : WE U b s m n S L D q bp A0 A1) {x : Nat} {ty : TypeId} {cs : List Value} (hx : U.heap.size ≤ x) (k : Kq [q + 2, bp, bp + 1] W W') (hb : Blk W x ty cs) : Blk W' x ty cs := hb.kq k (by have := E.qp; have := E.sz; simp; omega)

end

end Go.Proofs.YteaincdeoajkeaaGreatDoor.Wa
end
section
/- Package walk: Walk of the program, whatever the tables say. -/
namespace Go.Proofs.YteaincdeoajkeaaGreatDoor.Wa
open Go.RowKit Go.Shelf Ut Oc Vw
set_option maxRecDepth 100000
set_option linter.unusedVariables false
set_option maxHeartbeats 4000000

section
variable {b s m n : Nat} {S : List Int} {L : List Gm.Pl} {D : List Bool}
end
end Go.Proofs.YteaincdeoajkeaaGreatDoor.Wa
end
