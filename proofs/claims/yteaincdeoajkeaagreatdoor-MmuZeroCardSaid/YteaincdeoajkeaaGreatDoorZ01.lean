/- Several texts in one: Ut Vt Om Oa Ob -/
import Derived.Test.YteaincdeoajkeaaGreatDoorProg
import Derived.WalkKit
import Derived.Handy
import Derived.Lib.Hide
import Derived.Laws.BytesArg
import Derived.Maps.AppendAt
import Derived.Laws.OwnMore
import Derived.Deep.OwnRows
import Derived.Deep.Draws
import Derived.Laws.CopyOwn
import Derived.Laws.AppendOwnNone
import Derived.OwnWalk
import Derived.Lib.EndianBits
import Derived.Laws.BitsAllLaws
section
/- Small laws that the walks of several packages share: a slice of bytes of the call's own, made a string; a block below. -/
namespace Go.Proofs.YteaincdeoajkeaaGreatDoor.Ut
open Go.RowKit

theorem strOfNums_nil : strOfNums [] = ByteArray.empty := rfl

/-- string(b), where b is a slice of bytes that the call owns. -/
theorem run_convert_own {P : Program} {w : World} {B src e dst : Nat} {v : Value} {n : Nat} {xs : List Int} (hs : P.underlying src = some (.slice e)) (he : P.underlying e = some (.int .u8)) (hd : P.underlying dst = some .string)
    (hown : w.ownsRow B e 1 v n (xs.map (Value.int .u8))) : (convert src dst v).run P w = .ok (.string (strOfNums xs)) w := by
  have hl : xs.length = n := by have := hown.1; simpa using this
  rcases hown.2 with ⟨rfl, rfl⟩ | ⟨g, cap, cur, rfl, hb, hg, hn, hm, hsz, hcur⟩
  · obtain rfl : xs = [] := List.length_eq_zero_iff.1 hl
    exact run_convert_bytes_nil w src e hs he 0 0 dst hd
  · refine run_convert_bytes_arg w src e hs he g 0 n cap xs hl (fun i hi => ?_) dst hd
    rw [Nat.zero_add, World.ownsRow.cellAt hown i (by omega)]
    simp [List.getD, show i < xs.length by omega]

/-- What the call owns stays owned behind a call that writes nothing that was there. -/
theorem ownsRow_below {w w' : World} {B e n : Nat} {v : Value} {xs : List Value} (h : w.ownsRow B e 1 v n xs) (hb : Below w.heap.size w w') : w'.ownsRow B e 1 v n xs :=
  h.kept (row := none) ⟨hb.os, hb.tape, hb.output, hb.size, fun q hq _ => hb.block q hq⟩ (Classical.em _)
end Go.Proofs.YteaincdeoajkeaaGreatDoor.Ut
end
section
/- Small laws that the walks of several packages share: a slice that came in or was made, as a list of integers of any kind. -/
namespace Go.Proofs.YteaincdeoajkeaaGreatDoor.Ut
open Go.RowKit

theorem block_of_add (a : Addr) (n : Nat) : (a.add n).block = a.block := by unfold Addr.add; split <;> rfl
theorem add_of_add (a : Addr) (i j : Nat) : (a.add i).add j = a.add (i + j) := by
  unfold Addr.add
  by_cases hi : i = 0 <;> by_cases hj : j = 0 <;> simp [hi, hj, Nat.add_assoc]
theorem add_plain (g i : Nat) : (⟨g, 0, none⟩ : Addr).add i = ⟨g, i, none⟩ := by unfold Addr.add; split <;> simp_all

/-- the slice at a of n elements of the integer kind k reads as zs, and lies below block B -/
def RowK (k : IntKind) (w : World) (B : Nat) (a : Option Addr) (n : Nat) (zs : List Int) : Prop :=
  zs.length = n ∧ ∀ i, i < n → ∃ x, a = some x ∧ x.block < B ∧ w.cell? (x.add i) = some (.int k (zs.getD i 0))

theorem RowK.below {k : IntKind} {w w' : World} {B n : Nat} {a : Option Addr} {zs : List Int} (h : RowK k w B a n zs) (hb : Below B w w') : RowK k w' B a n zs :=
  ⟨h.1, fun i hi => by
    obtain ⟨x, e, hx, hc⟩ := h.2 i hi
    exact ⟨x, e, hx, (hb.cell (p := x.add i) (by rw [block_of_add]; exact hx)).trans hc⟩⟩
theorem RowK.more {k : IntKind} {w : World} {B B' n : Nat} {a : Option Addr} {zs : List Int} (h : RowK k w B a n zs) (hB : B ≤ B') : RowK k w B' a n zs :=
  ⟨h.1, fun i hi => by
    obtain ⟨x, e, hx, hc⟩ := h.2 i hi
    exact ⟨x, e, by omega, hc⟩⟩
theorem RowK.drewN {k : IntKind} {w : World} {B n : Nat} {a : Option Addr} {zs : List Int} (h : RowK k w B a n zs) (d : Nat) : RowK k (w.drewN d) B a n zs := h
theorem RowK.nil (k : IntKind) (w : World) (B : Nat) (a : Option Addr) : RowK k w B a 0 [] := ⟨rfl, fun i hi => absurd hi (by omega)⟩

/-- a part of a row -/
theorem RowK.part {k : IntKind} {w : World} {B n : Nat} {x : Addr} {zs : List Int} (h : RowK k w B (some x) n zs) (i m : Nat) (him : i + m ≤ n) :
    RowK k w B (some (x.add i)) m ((zs.drop i).take m) := by
  refine ⟨by simp [h.1]; omega, fun j hj => ?_⟩
  obtain ⟨y, e, hx, hc⟩ := h.2 (i + j) (by omega)
  obtain rfl : x = y := by injection e
  refine ⟨_, rfl, by rw [block_of_add]; exact hx, ?_⟩
  rw [add_of_add, hc]
  simp [List.getD, hj]

/-- what the call owns, as a row -/
theorem RowK.of_own {k : IntKind} {w : World} {B e n : Nat} {v : Value} {xs : List Int} (h : w.ownsRow B e 1 v n (xs.map (Value.int k))) :
    ∃ a cap, v = .slice a n cap ∧ n ≤ cap ∧ cap ≤ maxLen ∧ RowK k w w.heap.size a n xs := by
  have hl : xs.length = n := by have := h.1; simpa using this
  rcases h.2 with ⟨rfl, rfl⟩ | ⟨g, cap, cur, rfl, hb, hg, hnc, hm, hsz, hcur⟩
  · exact ⟨none, 0, rfl, by omega, by unfold maxLen; omega, hl, fun i hi => absurd hi (by omega)⟩
  · refine ⟨some ⟨g, 0, none⟩, cap, rfl, hnc, hm, hl, fun i hi => ⟨_, rfl, (Array.getElem?_eq_some_iff.1 hg).1, ?_⟩⟩
    rw [add_plain, World.ownsRow.cellAt h i (by omega)]
    simp [List.getD, show i < xs.length by omega]

theorem RowK.of_is {k : IntKind} {w : World} {g n : Nat} {t : TypeId} {f : Nat → Value} (h : w.rowIs g t n f) (xs : List Int) (hl : xs.length = n) (hf : ∀ i, i < n → f i = .int k (xs.getD i 0)) :
    RowK k w w.heap.size (some ⟨g, 0, none⟩) n xs :=
  ⟨hl, fun i hi => ⟨_, rfl, h.lt, by rw [add_plain, h.cell hi, hf i hi]⟩⟩

/-- the cells of a row, as 'copy' and 'append' ask for them -/
theorem RowK.cells {k : IntKind} {w : World} {B n : Nat} {a : Option Addr} {zs : List Int} (h : RowK k w B a n zs) (hp : 0 < (zs.map (Value.int k)).length) :
    ∃ ad, a = some ad ∧ ad.block < B ∧ ∀ j v, (zs.map (Value.int k))[j]? = some v → w.cell? (ad.add j) = some v := by
  rw [List.length_map, h.1] at hp
  obtain ⟨x, rfl, hb, _⟩ := h.2 0 hp
  refine ⟨x, rfl, hb, fun j v hj => ?_⟩
  have hjl : j < zs.length := by
    rcases Nat.lt_or_ge j zs.length with h | h
    · exact h
    · simp [List.getElem?_eq_none (show (zs.map (Value.int k)).length ≤ j by simpa using h)] at hj
  obtain ⟨y, e, _, hc⟩ := h.2 j (by rw [← h.1]; exact hjl)
  obtain rfl : x = y := by injection e
  rw [hc]
  simp [List.getElem?_eq_getElem hjl] at hj
  subst hj
  simp [List.getD, List.getElem?_eq_getElem hjl]

/-- what make lays, as a list -/
theorem made_heap (w : World) (z : Value) (n : Nat) (t : TypeId) : (w.alloc (.cells (madeCells #[z] n) t)).heap[w.heap.size]? = some (.cells (List.replicate n z).toArray t (0, 0)) := by
  rw [heap_alloc_new, ← toList_madeCells_one z n]

/-- a block that is a list of numbers, as a row -/
theorem is_of_list {w : World} {g : Nat} {t : TypeId} {k : IntKind} {xs : List Int} (h : w.heap[g]? = some (.cells (xs.map (Value.int k)).toArray t (0, 0))) :
    w.rowIs g t xs.length (fun i => .int k (xs.getD i 0)) :=
  ⟨_, h, by simp, fun i hi => by simp [List.getD, hi]⟩

/-- copy(d, s): s a row no longer than d, d the head of a block that the call made -/
theorem wpList_copy_head {P : Program} {w : World} {ops : Array Oper} {rest : List Oper} {o : Oper} {a : Act} {Q : Exit → Act → World → Prop} (hgd : o.guard = none) (d s : Operand) (dT sT : TypeId)
    (ho : o.op = .call { callee := .builtin .copy, args := #[d, s], argTypes := #[dT, sT] }) (elem : TypeId) (hu : P.underlying dT = some (.slice elem)) (hsz : (P.info? elem).map (·.size) = some 1)
    (g n dcap m cap B : Nat) (k : IntKind) (sa : Option Addr) (zs : List Int) (hd : a.eval d = .slice (some ⟨g, 0, none⟩) n dcap) (hs : a.eval s = .slice sa m cap)
    (cur : List Value) (t : TypeId) (hg : w.heap[g]? = some (.cells cur.toArray t (0, 0))) (hrow : RowK k w B sa m zs) (hm : m ≤ n) (hn : n ≤ cur.length) (b : Nat) (w0 : World) (hb : Below b w0 w) (hB : b ≤ g)
    (h : ∀ w', Hid (w'.heap[g]? = some (.cells (zs.map (Value.int k) ++ cur.drop m).toArray t (0, 0))) → Below b w0 w' → wpList P ops Q rest (a.put o.dst (goInt m)) w') :
    wpList P ops Q (o :: rest) a w := by
  have hl : (zs.map (Value.int k)).length = m := by rw [List.length_map, hrow.1]
  have e : splice cur 0 (zs.map (Value.int k)) = zs.map (Value.int k) ++ cur.drop m := by simp only [splice, List.take_zero, List.nil_append, Nat.zero_add, hl]
  refine wpList_copy_splice hgd d s dT sT ho elem hu hsz (some ⟨g, 0, none⟩) sa n dcap m cap hd hs g 0 cur t hg (zs.map (Value.int k)) (by rw [hl]; exact (Nat.min_eq_left hm).symm)
    (fun hp => ⟨rfl, ?_⟩) (by omega) (ints_oneCell _ _) b w0 hb hB ?_
  · obtain ⟨ad, e, _, hc⟩ := hrow.cells hp
    exact ⟨ad, e, hc⟩
  · rw [hl, e]
    exact h

/-- what the call owns, as a list of numbers of one kind -/
def OwnI (k : IntKind) (w : World) (B : Nat) (e : TypeId) (v : Value) (n : Nat) (xs : List Int) : Prop := w.ownsRow B e 1 v n (xs.map (Value.int k))

section
variable {k : IntKind} {w w' : World} {B n : Nat} {e : TypeId} {v : Value} {xs : List Int}
theorem OwnI.nil (k : IntKind) (w : World) (B : Nat) (e : TypeId) : OwnI k w B e (.slice none 0 0) 0 [] := World.ownsRow_nil _ _ _ _
theorem OwnI.below (h : OwnI k w B e v n xs) (hb : Below w.heap.size w w') : OwnI k w' B e v n xs := ownsRow_below h hb
theorem OwnI.alloc (h : OwnI k w B e v n xs) (o : Obj) : OwnI k (w.alloc o) B e v n xs := World.ownsRow.alloc h o
theorem OwnI.drewN (h : OwnI k w B e v n xs) (d : Nat) : OwnI k (w.drewN d) B e v n xs := h
theorem OwnI.len (h : OwnI k w B e v n xs) : xs.length = n := by have := h.1; simpa using this
theorem OwnI.row (h : OwnI k w B e v n xs) : ∃ a cap, v = .slice a n cap ∧ n ≤ cap ∧ cap ≤ maxLen ∧ RowK k w w.heap.size a n xs := RowK.of_own h
theorem OwnI.made (k : IntKind) (w : World) (B : Nat) (e : TypeId) (hB : B ≤ w.heap.size) : OwnI k (w.alloc (.cells #[] e)) B e (.slice (some ⟨w.heap.size, 0, none⟩) 0 0) 0 [] :=
  World.ownsRow_made w #[] 0 hB (by unfold maxLen; omega) rfl
end

theorem OwnI.store {k : IntKind} {w : World} {B n g cap : Nat} {e : TypeId} {xs : List Int} (h : OwnI k w B e (.slice (some ⟨g, 0, none⟩) n cap) n xs) (j : Nat) (u : Int) :
    OwnI k (w.setCell ⟨g, j, none⟩ (.int k u)) B e (.slice (some ⟨g, 0, none⟩) n cap) n (xs.set j u) := by
  unfold OwnI
  rw [List.map_set]
  exact (World.ownsRow.stored h j (.int k u)).1
theorem OwnI.cellAt {k : IntKind} {w : World} {B n g cap : Nat} {e : TypeId} {xs : List Int} (h : OwnI k w B e (.slice (some ⟨g, 0, none⟩) n cap) n xs) (j : Nat) (hj : j < n) : w.cell? ⟨g, j, none⟩ = some (.int k (xs.getD j 0)) := by
  rw [World.ownsRow.cellAt h j (by omega)]
  simp [List.getD, show j < xs.length by rw [h.len]; exact hj]
theorem OwnI.frozenAt {k : IntKind} {w : World} {B n g cap : Nat} {e : TypeId} {xs : List Int} (h : OwnI k w B e (.slice (some ⟨g, 0, none⟩) n cap) n xs) (j : Nat) : w.frozen? ⟨g, j, none⟩ = false := World.ownsRow.frozenAt h j
/-- what is owned and is not nothing lies in a block -/
theorem OwnI.form {k : IntKind} {w : World} {B n : Nat} {e : TypeId} {v : Value} {xs : List Int} (h : OwnI k w B e v n xs) (hn : 0 < n) : ∃ g cap, v = .slice (some ⟨g, 0, none⟩) n cap ∧ B ≤ g ∧ g < w.heap.size ∧ n ≤ cap ∧ cap ≤ maxLen := by
  rcases h.2 with ⟨_, h0⟩ | ⟨g, cap, cur, hv, hb, hg, hnc, hm, _⟩
  · omega
  · exact ⟨g, cap, hv, hb, (Array.getElem?_eq_some_iff.1 hg).1, hnc, hm⟩

/-- one new cell, as a row -/
theorem RowK.new1 (k : IntKind) (w : World) (x : Int) (t : TypeId) : RowK k (w.alloc (.cells #[.int k x] t)) (w.heap.size + 1) (some ⟨w.heap.size, 0, none⟩) 1 [x] :=
  ⟨rfl, fun i hi => ⟨_, rfl, Nat.lt_succ_self _, by
    obtain rfl : i = 0 := by omega
    simp [Addr.add]⟩⟩

/-- append(s, x...): s the call's own, x any row: nil, empty or not -/
theorem run_append_ints {P : Program} (w : World) (k : IntKind) (base : Nat) (t ty e : TypeId) (bytes : Nat) (ht : P.underlying t = some (.slice e)) (hinfo : (P.info? e).map (fun i => (i.zero, i.size, i.bytes)) = some (some (.int k 0), 1, bytes))
    (v : Value) (n : Nat) (xs : List Int) (hown : OwnI k w base e v n xs) (B : Nat) (a : Option Addr) (m c : Nat) (zs : List Int) (hr : RowK k w B a m zs)
    (h63 : n + m ≤ maxLen) (hbytes : (n + m) * bytes ≤ 140737488355328) (hbase : base ≤ w.heap.size) :
    ∃ v' w', (Builtin.append_ #[t, t] ty #[v, .slice a m c]).run P w = .ok v' w' ∧ OwnI k w' base e v' (n + m) (xs ++ zs) ∧ w.grownBy w' v.ownBlock ∧ (v'.ownBlock = v.ownBlock ∨ v'.ownBlock = some w.heap.size) := by
  obtain ⟨i, hi, hz, hs, hb⟩ := info_parts hinfo
  have hl : (zs.map (Value.int k)).length = m * 1 := by rw [List.length_map, hr.1, Nat.mul_one]
  by_cases h0 : m = 0
  · subst h0
    have hn : zs = [] := List.length_eq_zero_iff.1 hr.1
    subst hn
    have hl0 : ∀ ad : Addr, (loadCells ad 0).run P w = .ok #[] w := fun ad => run_loadCells_list (P := P) w ad [] (by simp)
    refine ⟨v, w, ?_, by simpa using hown, World.grownBy.refl w _, .inl rfl⟩
    rcases hown.2 with ⟨rfl, rfl⟩ | ⟨g, cap, cur, rfl, _, _, hnc, _⟩
    · cases a <;> simp [Builtin.append_, run_underlying ht, sizeOf, typeInfo, hi, Builtin.lenOf, Builtin.firstCells, hl0]
    · cases a <;> simp [Builtin.append_, run_underlying ht, sizeOf, typeInfo, hi, Builtin.lenOf, Builtin.firstCells, hnc, storeCells, hl0]
  · obtain ⟨ad, rfl, _, hc⟩ := hr.cells (by rw [List.length_map, hr.1]; omega)
    obtain ⟨v', w', hrun, h2, h3, _, h5⟩ := run_append_own_at (P := P) w base t ty e i (.int k 0) 1 bytes ht hi hz hs hb rfl (by omega) v n _ hown ad m c _ hl hc (ints_oneCell _ _) h63 hbytes hbase
    exact ⟨v', w', hrun, by unfold OwnI; rw [List.map_append]; exact h2, h3, h5⟩

theorem wp_append_ints {P : Program} {o : Oper} {a : Act} {w : World} {K : Act → World → Prop} {Q : Exit → Act → World → Prop} (s x : Operand) (t : TypeId)
    (ho : o.op = .call { callee := .builtin .append, args := #[s, x], argTypes := #[t, t] })
    (k : IntKind) (base : Nat) (e : TypeId) (bytes : Nat) (ht : P.underlying t = some (.slice e)) (hinfo : (P.info? e).map (fun i => (i.zero, i.size, i.bytes)) = some (some (.int k 0), 1, bytes))
    (v : Value) (n : Nat) (xs : List Int) (hs : a.eval s = v) (hown : OwnI k w base e v n xs) (B : Nat) (sa : Option Addr) (m c : Nat) (zs : List Int) (hx : a.eval x = .slice sa m c) (hr : RowK k w B sa m zs)
    (h63 : n + m ≤ maxLen) (hbytes : (n + m) * bytes ≤ 140737488355328) (hbase : base ≤ w.heap.size)
    (h : ∀ v' w', Hid (OwnI k w' base e v' (n + m) (xs ++ zs)) → Below base w w' → Hid (w.grownBy w' v.ownBlock ∧ (v'.ownBlock = v.ownBlock ∨ v'.ownBlock = some w.heap.size)) → K (a.put o.dst v') w') : o.wp P a w K Q := by
  obtain ⟨v', w', hrun, h2, h3, h4⟩ := run_append_ints (P := P) w k base t o.type e bytes ht hinfo v n xs hown B sa m c zs hr h63 hbytes hbase
  unfold Oper.wp execOp
  simp only [ho, resolve, invoke, builtin, Sem.run_bind, Sem.run_pure, Result.andThen_ok, List.map_toArray, List.map_cons, List.map_nil, hs, hx, hrun]
  exact h v' w' h2 ((Below.refl _ _).grown h3 hbase fun q hq => (World.ownsRow.lt hown q hq).1) ⟨h3, h4⟩

theorem wpList_append_ints {P : Program} {w : World} {ops : Array Oper} {rest : List Oper} {o : Oper} {a : Act} {Q : Exit → Act → World → Prop} (hgd : o.guard = none) (s x : Operand) (t : TypeId)
    (ho : o.op = .call { callee := .builtin .append, args := #[s, x], argTypes := #[t, t] })
    (k : IntKind) (base : Nat) (e : TypeId) (bytes : Nat) (ht : P.underlying t = some (.slice e)) (hinfo : (P.info? e).map (fun i => (i.zero, i.size, i.bytes)) = some (some (.int k 0), 1, bytes))
    (v : Value) (n : Nat) (xs : List Int) (hs : a.eval s = v) (hown : OwnI k w base e v n xs) (B : Nat) (sa : Option Addr) (m c : Nat) (zs : List Int) (hx : a.eval x = .slice sa m c) (hr : RowK k w B sa m zs)
    (h63 : n + m ≤ maxLen) (hbytes : (n + m) * bytes ≤ 140737488355328) (hbase : base ≤ w.heap.size)
    (h : ∀ v' w', Hid (OwnI k w' base e v' (n + m) (xs ++ zs)) → Below base w w' → Hid (w.grownBy w' v.ownBlock ∧ (v'.ownBlock = v.ownBlock ∨ v'.ownBlock = some w.heap.size)) → wpList P ops Q rest (a.put o.dst v') w') : wpList P ops Q (o :: rest) a w :=
  wpList_plain hgd fun _ hK => wp_append_ints s x t ho k base e bytes ht hinfo v n xs hs hown B sa m c zs hx hr h63 hbytes hbase fun v' w' h2 h3 h4 => hK _ _ (h v' w' h2 h3 h4)

theorem step_append_ints {P : Program} {w : World} {ops : Array Oper} {o : Oper} {a : Act} {K : Act → World → Prop} {Q : Exit → Act → World → Prop} {E : Prop} (hgd : o.guard = none) (s x : Operand) (t : TypeId)
    (ho : o.op = .call { callee := .builtin .append, args := #[s, x], argTypes := #[t, t] })
    (k : IntKind) (base : Nat) (e : TypeId) (bytes : Nat) (ht : P.underlying t = some (.slice e)) (hinfo : (P.info? e).map (fun i => (i.zero, i.size, i.bytes)) = some (some (.int k 0), 1, bytes))
    (v : Value) (n : Nat) (xs : List Int) (hs : a.eval s = v) (hown : OwnI k w base e v n xs) (B : Nat) (sa : Option Addr) (m c : Nat) (zs : List Int) (hx : a.eval x = .slice sa m c) (hr : RowK k w B sa m zs)
    (h63 : n + m ≤ maxLen) (hbytes : (n + m) * bytes ≤ 140737488355328) (hbase : base ≤ w.heap.size)
    (h : ∀ v' w', Hid (OwnI k w' base e v' (n + m) (xs ++ zs)) → Below base w w' → Hid (w.grownBy w' v.ownBlock ∧ (v'.ownBlock = v.ownBlock ∨ v'.ownBlock = some w.heap.size)) → K (a.put o.dst v') w') :
    if Region.wanted o (yielded ops a.tmps) = true then Oper.wp P o a w K Q else E := by
  have hw : Region.wanted o (yielded ops a.tmps) = true := by simp [Region.wanted, hgd]
  rw [if_pos hw]
  exact wp_append_ints s x t ho k base e bytes ht hinfo v n xs hs hown B sa m c zs hx hr h63 hbytes hbase h

/-- string(b) of any row of bytes -/
theorem run_convert_row {P : Program} {w : World} {B src e dst n cap : Nat} {a : Option Addr} {xs : List Int} (hs : P.underlying src = some (.slice e)) (he : P.underlying e = some (.int .u8)) (hd : P.underlying dst = some .string)
    (h : RowK .u8 w B a n xs) : (convert src dst (.slice a n cap)).run P w = .ok (.string (strOfNums xs)) w := by
  rw [run_convert_bytes_string w src dst e a n cap hs he hd]
  cases a with
  | none =>
    have hn : n = 0 := by
      rcases Nat.eq_zero_or_pos n with h0 | h0
      · exact h0
      · obtain ⟨x, e, _⟩ := h.2 0 h0; cases e
    subst hn
    obtain rfl : xs = [] := List.length_eq_zero_iff.1 h.1
    simp [Conv.bytesToString]; rfl
  | some x =>
    have hl : (loadCells x n).run P w = .ok (xs.map (Value.int .u8)).toArray w := by
      have := run_loadCells_list (P := P) w x (xs.map (Value.int .u8)) (fun j v hj => by
        have hjl : j < xs.length := by
          rcases Nat.lt_or_ge j xs.length with h | h
          · exact h
          · simp [List.getElem?_eq_none (show (xs.map (Value.int .u8)).length ≤ j by simpa using h)] at hj
        obtain ⟨y, e, _, hc⟩ := h.2 j (by have := h.1; omega)
        obtain rfl : x = y := by injection e
        rw [hc]
        simp [List.getElem?_eq_getElem hjl] at hj
        subst hj
        simp [List.getD, List.getElem?_eq_getElem hjl])
      simpa [h.1] using this
    rw [run_bytesToString w _ n cap xs hl, foldl_push_bytes]
    simp [strOfNums, ByteArray.empty, ByteArray.emptyWithCapacity]
    rfl

/-- a slice of numbers that came in, as a row of its elements -/
theorem RowK.of_arg {k : IntKind} {w : World} {a : Option Addr} {len cap : Nat} {zs : List Int} (h : (a = none ∧ len = 0 ∧ cap = 0 ∧ zs = []) ∨
    ∃ x, a = some x ∧ len ≤ cap ∧ cap ≤ maxLen ∧ zs.length = cap ∧ (∀ i, i < zs.length → w.cell? (x.add i) = some (.int k (zs.getD i 0))) ∧ ∀ n ∈ zs, (Lit.int k n).wf = true) :
    RowK k w w.heap.size a len (zs.take len) ∧ len ≤ cap ∧ ∀ z ∈ zs.take len, (Lit.int k z).wf = true := by
  rcases h with ⟨rfl, rfl, rfl, rfl⟩ | ⟨x, rfl, hl, _, hz, hc, hw⟩
  · exact ⟨RowK.nil _ _ _ _, Nat.le_refl _, fun z hz => by cases hz⟩
  · refine ⟨⟨by simp; omega, fun i hi => ⟨x, rfl, ?_, ?_⟩⟩, hl, fun z hz => hw z (List.mem_of_mem_take hz)⟩
    · have hb := World.block_lt_of_cell? w _ (hc i (by omega))
      rwa [block_of_add] at hb
    · rw [hc i (by omega)]
      simp [List.getD, hi]

theorem wf_u8 {z : Int} (h : (Lit.int .u8 z).wf = true) : 0 ≤ z ∧ z < 256 := by
  simp [Lit.wf, IntKind.min, IntKind.max, IntKind.bits, IntKind.signed] at h; omega
theorem wf_u32 {z : Int} (h : (Lit.int .u32 z).wf = true) : 0 ≤ z ∧ z < 4294967296 := by
  simp [Lit.wf, IntKind.min, IntKind.max, IntKind.bits, IntKind.signed] at h; omega
theorem wf_i64 {z : Int} (h : (Lit.int .i64 z).wf = true) : -9223372036854775808 ≤ z ∧ z < 9223372036854775808 := by
  simp [Lit.wf, IntKind.min, IntKind.max, IntKind.bits, IntKind.signed] at h; omega
end Go.Proofs.YteaincdeoajkeaaGreatDoor.Ut
end
section
/- Plain facts on bytes and the numbers that they are; nothing of the program. -/
namespace Go.Proofs.YteaincdeoajkeaaGreatDoor.Oc
open Go.RowKit

/-- the number that bytes are, the lowest first -/
def num : List Int → Int
  | [] => 0
  | b :: r => b + 256 * num r

/-- byte k of a number -/
def byteN (v : Int) (k : Nat) : Int := v / 2 ^ (8 * k) % 256
/-- the m lowest bytes of a number -/
def bytesN (v : Int) (m : Nat) : List Int := (List.range m).map (byteN v)

/-- all are bytes -/
def AreBytes (zs : List Int) : Prop := ∀ z ∈ zs, 0 ≤ z ∧ z < 256

theorem AreBytes.take {zs : List Int} (h : AreBytes zs) (k : Nat) : AreBytes (zs.take k) := fun z hz => h z (List.mem_of_mem_take hz)
theorem AreBytes.drop {zs : List Int} (h : AreBytes zs) (k : Nat) : AreBytes (zs.drop k) := fun z hz => h z (List.mem_of_mem_drop hz)
theorem AreBytes.append {a b : List Int} (h : AreBytes a) (k : AreBytes b) : AreBytes (a ++ b) := fun z hz => (List.mem_append.1 hz).elim (h z) (k z)
theorem byteN_bd (v : Int) (k : Nat) : 0 ≤ byteN v k ∧ byteN v k < 256 := by unfold byteN; omega
theorem bytesN_bytes (v : Int) (m : Nat) : AreBytes (bytesN v m) := fun z hz => by
  obtain ⟨k, _, rfl⟩ := List.mem_map.1 hz
  exact byteN_bd v k
theorem length_bytesN (v : Int) (m : Nat) : (bytesN v m).length = m := by simp [bytesN]
theorem getD_at (zs : List Int) (k : Nat) (h : k < zs.length) : zs.getD k 0 = zs[k] := by simp [List.getD, h]
theorem AreBytes.at_ {zs : List Int} (h : AreBytes zs) (k : Nat) : 0 ≤ zs.getD k 0 ∧ zs.getD k 0 < 256 := by
  by_cases hk : k < zs.length
  · rw [getD_at _ _ hk]; exact h _ (List.getElem_mem hk)
  · simp [List.getD, List.getElem?_eq_none (Nat.le_of_not_lt hk)]

theorem num_snoc : ∀ (l : List Int) (b : Int), num (l ++ [b]) = num l + 256 ^ l.length * b
  | [], b => by simp [num]
  | c :: r, b => by
    have := num_snoc r b
    simp only [List.cons_append, num, this, List.length_cons]
    rw [Int.pow_succ, Int.mul_add, Int.mul_assoc (256 ^ r.length), Int.mul_left_comm 256, Int.add_assoc]
theorem take_snoc_getD (zs : List Int) (k : Nat) (h : k < zs.length) : zs.take (k + 1) = zs.take k ++ [zs.getD k 0] := by
  rw [List.take_succ_eq_append_getElem h, getD_at _ _ h]
theorem num_take (zs : List Int) (k : Nat) (h : k < zs.length) : num (zs.take (k + 1)) = num (zs.take k) + 256 ^ k * zs.getD k 0 := by
  rw [take_snoc_getD zs k h, num_snoc]
  simp [Nat.min_eq_left (Nat.le_of_lt h)]

theorem num_bd1 (l : List Int) (h : AreBytes l) (hl : l.length ≤ 4) : 0 ≤ num l ∧ num l < 256 ^ l.length := by
  match l, hl with
  | [], _ => simp [num]
  | [a], _ =>
    have := h a (by simp)
    simp [num]; omega
  | [a, b], _ =>
    have := h a (by simp); have := h b (by simp)
    simp [num]; omega
  | [a, b, c], _ =>
    have := h a (by simp); have := h b (by simp); have := h c (by simp)
    simp [num]; omega
  | [a, b, c, d], _ =>
    have := h a (by simp); have := h b (by simp); have := h c (by simp); have := h d (by simp)
    simp [num]; omega
  | _ :: _ :: _ :: _ :: _ :: _, h => simp at h

/-- one byte more, as the program puts it on -/
theorem or_step (zs : List Int) (h : AreBytes zs) (k : Nat) (hk : k < zs.length) (h4 : k < 4) :
    bits .or .u32 (num (zs.take k)) (zs.getD k 0 % 4294967296 * 2 ^ (8 * k) % 4294967296) = num (zs.take (k + 1)) := by
  rw [num_take zs k hk]
  obtain ⟨b0, b1⟩ := h.at_ k
  generalize zs.getD k 0 = b at b0 b1 ⊢
  obtain ⟨n0, n1⟩ := num_bd1 (zs.take k) (h.take k) (by simp; omega)
  rw [show (zs.take k).length = k by simp; omega] at n1
  generalize num (zs.take k) = n at n0 n1 ⊢
  obtain rfl | rfl | rfl | rfl : k = 0 ∨ k = 1 ∨ k = 2 ∨ k = 3 := by omega
  · have : n = 0 := by simp at n1; omega
    subst this
    rw [show b % 4294967296 * 2 ^ (8 * 0) % 4294967296 = b by simp; omega]
    obtain ⟨c, rfl⟩ := Int.eq_ofNat_of_zero_le b0
    have := u32_or_nat 0 c (by omega) (by omega)
    simp at this
    simp [this]
  · rw [show b % 4294967296 * 2 ^ (8 * 1) % 4294967296 = b * 256 by simp; omega]
    rw [u32_or8 _ _ n0 (by simpa using n1) (by omega) (by omega) (by omega)]
    simp; omega
  · rw [show b % 4294967296 * 2 ^ (8 * 2) % 4294967296 = b * 65536 by simp; omega]
    rw [u32_or16 _ _ n0 (by simpa using n1) (by omega) (by omega) (by omega)]
    simp; omega
  · rw [show b % 4294967296 * 2 ^ (8 * 3) % 4294967296 = b * 16777216 by simp; omega]
    rw [u32_or24 _ _ n0 (by simpa using n1) (by omega) (by omega) (by omega)]
    simp; omega

theorem num_bytes4 (v : Int) (h0 : 0 ≤ v) (h1 : v < 4294967296) : num (bytesN v 4) = v := by
  simp [bytesN, List.range_succ, num, byteN]; omega
theorem num_bytes2 (v : Int) : num (bytesN v 2) = v % 65536 := by
  simp [bytesN, List.range_succ, num, byteN]; omega
theorem num_bytes1 (v : Int) : num (bytesN v 1) = v % 256 := by
  simp [bytesN, List.range_succ, num, byteN]
theorem getD_bytesN (v : Int) (m k : Nat) (h : k < m) : (bytesN v m).getD k 0 = byteN v k := by
  simp [bytesN, List.getD, h]

/-- zs with the m lowest bytes of v from i on -/
def putZ (zs : List Int) (i m : Nat) (v : Int) : List Int := zs.take i ++ (bytesN v m ++ zs.drop (i + m))
theorem length_putZ (zs : List Int) (i m : Nat) (v : Int) (h : i + m ≤ zs.length) : (putZ zs i m v).length = zs.length := by
  simp [putZ, length_bytesN]; omega
theorem putZ_bytes {zs : List Int} (h : AreBytes zs) (i m : Nat) (v : Int) : AreBytes (putZ zs i m v) :=
  (h.take i).append ((bytesN_bytes v m).append (h.drop (i + m)))
theorem getD_putZ (zs : List Int) (i m : Nat) (v : Int) (h : i + m ≤ zs.length) (j : Nat) : (putZ zs i m v).getD j 0 = if i ≤ j ∧ j < i + m then byteN v (j - i) else zs.getD j 0 := by
  unfold putZ
  simp only [List.getD, List.getElem?_append, List.length_take, length_bytesN]
  rw [Nat.min_eq_left (by omega)]
  by_cases h1 : j < i
  · rw [if_pos h1, if_neg (by omega), List.getElem?_take, if_pos h1]
  · rw [if_neg h1]
    by_cases h2 : j - i < m
    · rw [if_pos h2, if_pos (by omega)]
      have := getD_bytesN v m (j - i) h2
      simpa [List.getD] using this
    · rw [if_neg h2, if_neg (by omega), List.getElem?_drop, show i + m + (j - i - m) = j by omega]
theorem putZ_part (zs : List Int) (i m : Nat) (v : Int) (h : i + m ≤ zs.length) : ((putZ zs i m v).drop i).take m = bytesN v m := by
  unfold putZ
  rw [List.drop_append_of_le_length (by simp; omega), List.drop_of_length_le (by simp; omega), List.nil_append, List.take_append_of_le_length (by rw [length_bytesN]; omega), List.take_of_length_le (by rw [length_bytesN]; omega)]
theorem ext_getD {a b : List Int} (hl : a.length = b.length) (h : ∀ j, j < a.length → a.getD j 0 = b.getD j 0) : a = b := by
  apply List.ext_getElem hl
  intro j h1 h2
  rw [← getD_at a j h1, ← getD_at b j h2]
  exact h j h1
theorem getD_set (l : List Int) (i j : Nat) (v : Int) (hi : i < l.length) : (l.set i v).getD j 0 = if j = i then v else l.getD j 0 := by
  simp only [List.getD, List.getElem?_set]
  by_cases e : i = j
  · subst e; simp [hi]
  · rw [if_neg e, if_neg (fun h => e h.symm)]
theorem putZ_step (zs : List Int) (i k : Nat) (v : Int) (h : i + k < zs.length) : (putZ zs i k v).set (i + k) (byteN v k) = putZ zs i (k + 1) v := by
  have hl : (putZ zs i k v).length = zs.length := length_putZ zs i k v (by omega)
  refine ext_getD (by rw [List.length_set, hl, length_putZ _ _ _ _ (by omega)]) fun j _ => ?_
  rw [getD_set _ _ _ _ (by omega), getD_putZ _ _ _ _ (by omega), getD_putZ _ _ _ _ (by omega)]
  by_cases e : j = i + k
  · subst e
    rw [if_pos rfl, if_pos (by omega), Nat.add_sub_cancel_left]
  · rw [if_neg e]
    by_cases e2 : i ≤ j ∧ j < i + k
    · rw [if_pos e2, if_pos (by omega)]
    · rw [if_neg e2, if_neg (by omega)]
theorem putZ_none (zs : List Int) (i : Nat) (v : Int) : putZ zs i 0 v = zs := by simp [putZ, bytesN]

/-- one byte more, as the document puts it on -/
theorem add_step (zs : List Int) (h : AreBytes zs) (k : Nat) (hk : k < zs.length) (h4 : k < 4) :
    (num (zs.take k) + zs.getD k 0 % 4294967296 * 2 ^ (8 * k) % 4294967296) % 4294967296 = num (zs.take (k + 1)) := by
  rw [num_take zs k hk]
  obtain ⟨b0, b1⟩ := h.at_ k
  generalize zs.getD k 0 = b at b0 b1 ⊢
  obtain ⟨n0, n1⟩ := num_bd1 (zs.take k) (h.take k) (by simp; omega)
  rw [show (zs.take k).length = k by simp; omega] at n1
  generalize num (zs.take k) = n at n0 n1 ⊢
  obtain rfl | rfl | rfl | rfl : k = 0 ∨ k = 1 ∨ k = 2 ∨ k = 3 := by omega
  all_goals simp at n1 ⊢; omega

/-- the m lowest bytes of v, the highest bit of them in all bits above; v itself of another width -/
def signZ (v m : Int) : Int :=
  if m = 1 then (if 128 ≤ v % 256 then v % 256 + 4294967040 else v % 256)
  else if m = 2 then (if 32768 ≤ v % 65536 then v % 65536 + 4294901760 else v % 65536)
  else v
end Go.Proofs.YteaincdeoajkeaaGreatDoor.Oc
end
section
/- The walks of package octet's small functions (isWidth, holds, cut, number, lay): what each returns, for every argument. -/
namespace Go.Proofs.YteaincdeoajkeaaGreatDoor.Oc
open Go.RowKit Ut
set_option linter.unusedVariables false

/-- the widths that there are -/
def isW (m : Int) : Bool := decide (m = 1) || decide (m = 2) || decide (m = 4)

theorem isWidth_any (m : Int) (w : World) :
    Calls Tryz.prog 149 #[.int .i64 m] w fun e w' => e = .returned (.bool (isW m)) ∧ w = w' := by
  by_cases h1 : m = 1
  · subst h1
    go_enter Tryz.func149, Tryz.ntmps149
    go_wp2
    go_ret
    exact ⟨rfl, rfl⟩
  · by_cases h2 : m = 2
    · subst h2
      go_enter Tryz.func149, Tryz.ntmps149
      go_wp2
      go_ret
      exact ⟨rfl, rfl⟩
    · have b1 : (m == 1) = false := by simpa using h1
      have b2 : (m == 2) = false := by simpa using h2
      go_enter Tryz.func149, Tryz.ntmps149
      go_wp2
      go_ret
      refine ⟨congrArg (fun b => Ending.returned (.bool b)) ?_, rfl⟩
      unfold isW
      simp [h1, h2]
      first | rfl | (rw [Bool.eq_iff_iff]; simp)

/-- can a number of m bytes stand at i in n bytes -/
def hold (n : Nat) (i m : Int) : Bool := isW m && decide (0 ≤ i) && decide (i ≤ n - m)

theorem isW_le {m : Int} (h : isW m = true) : 1 ≤ m ∧ m ≤ 4 := by
  unfold isW at h
  simp at h
  omega

theorem holds_any (a : Option Addr) (n cap : Nat) (i m : Int) (w : World) (hn : n ≤ 9223372036854775807) :
    Calls Tryz.prog 124 #[.slice a n cap, .int .i64 i, .int .i64 m] w fun e w' => e = .returned (.bool (hold n i m)) ∧ w = w' := by
  cases hw : isW m
  · have HW := Lib.hid hw
    go_enter Tryz.func124, Tryz.ntmps124
    go_wp2_with (go_at_call 149; refine (isWidth_any _ _).mono ?_; rintro e w' ⟨rfl, rfl⟩)
    go_ret
    exact ⟨congrArg (fun b => Ending.returned (.bool b)) (by unfold hold; rw [HW.out]; rfl), rfl⟩
  · have HW := Lib.hid hw
    obtain ⟨hm1, hm4⟩ := isW_le hw
    by_cases h0 : 0 ≤ i
    · go_enter Tryz.func124, Tryz.ntmps124
      go_wp2_with (go_at_call 149; refine (isWidth_any _ _).mono ?_; rintro e w' ⟨rfl, rfl⟩)
      go_ret
      refine ⟨congrArg (fun b => Ending.returned (.bool b)) ?_, rfl⟩
      unfold hold; rw [HW.out]; simp [h0]
    · go_enter Tryz.func124, Tryz.ntmps124
      go_wp2_with (go_at_call 149; refine (isWidth_any _ _).mono ?_; rintro e w' ⟨rfl, rfl⟩)
      go_ret
      refine ⟨congrArg (fun b => Ending.returned (.bool b)) ?_, rfl⟩
      unfold hold; rw [HW.out]; simp; omega

theorem cut_any (x : Addr) (n cap i m : Nat) (w : World) (hm : 0 < m) (hi : i + m ≤ n) (hn : n ≤ cap) (hc : cap ≤ 9223372036854775807) :
    Calls Tryz.prog 126 #[.slice (some x) n cap, .int .i64 i, .int .i64 m] w fun e w' => e = .returned (.slice (some (x.add i)) m m) ∧ w = w' := by
  have h1 : (0 : Int) ≤ (i : Int) := by omega
  have h2 : (i : Int) ≤ (i : Int) + (m : Int) := by omega
  have h3 : (i : Int) + (m : Int) ≤ (cap : Int) := by omega
  have h4 : ¬ cap = i := by omega
  have h5 : ¬ i + m - i = 0 := by omega
  go_enter Tryz.func126, Tryz.ntmps126
  go_wp2
  go_ret
  exact ⟨by rw [show Ending.returned (.slice (some (x.add i)) m m) = .returned (.slice (some (x.add i)) (i + m - i) (i + m - i)) from by rw [Nat.add_sub_cancel_left]]; rfl, rfl⟩

theorem number_any (a : Option Addr) (n cap : Nat) (zs : List Int) (B : Nat) (w : World) (h4 : n ≤ 4) (hrow : RowK .u8 w B a n zs) (hz : AreBytes zs) :
    Calls Tryz.prog 125 #[.slice a n cap] w fun e w' => e = .returned (.int .u32 (num zs)) ∧ w = w' := by
  have HR := Lib.hid hrow
  have HZ := Lib.hid hz
  clear hrow hz
  go_enter Tryz.func125, Tryz.ntmps125
  go_wp2
  go_loop [3, 7] (fun v i => ∃ k : Nat, k ≤ n ∧ i = .int .i64 k ∧ v = .int .u32 (num (zs.take k))) (fun _ i => n - (intOf i).toNat)
  case atStart => exact ⟨0, Nat.zero_le _, rfl, rfl⟩
  case round =>
    obtain ⟨k, hk, rfl, rfl⟩ := hrel
    by_cases hlt : k < n
    · obtain ⟨x, rfl, _, hx⟩ := HR.out.2 k hlt
      have HS := Lib.hid (or_step zs HZ.out k (by rw [HR.out.1]; exact hlt) (by omega))
      obtain ⟨s, hs⟩ : ∃ s, zs.getD k 0 = s := ⟨_, rfl⟩
      rw [hs] at hx HS
      clear hs
      go_wp2
      go_round
      case rel => exact ⟨k + 1, by omega, by go_num, congrArg _ HS.out⟩
      case measure => simp [intOf]; omega
    · go_wp2
      go_ret
      exact ⟨by rw [show zs.take k = zs from List.take_of_length_le (by rw [HR.out.1]; omega)]; rfl, rfl⟩

/-- the world behind k bytes of v laid into block g from o on -/
def laid (w : World) (g o : Nat) (v : Int) : Nat → World
  | 0 => w
  | k + 1 => (laid w g o v k).setCell ⟨g, o + k, none⟩ (.int .u8 (byteN v k))

theorem laid_is {w : World} {g n : Nat} {t : TypeId} {f : Nat → Value} (h : w.rowIs g t n f) (o : Nat) (v : Int) : ∀ k, (laid w g o v k).rowIs g t n (fun j => if o ≤ j ∧ j < o + k then .int .u8 (byteN v (j - o)) else f j)
  | 0 => h.congr fun j _ => by rw [if_neg (by omega)]
  | k + 1 => by
    refine ((laid_is h o v k).set (o + k) (.int .u8 (byteN v k))).congr fun j _ => ?_
    by_cases e : j = o + k
    · subst e
      rw [if_pos rfl, if_pos (by omega), Nat.add_sub_cancel_left]
    · rw [if_neg e]
      by_cases e2 : o ≤ j ∧ j < o + k
      · rw [if_pos e2, if_pos (by omega)]
      · rw [if_neg e2, if_neg (by omega)]
theorem laid_below {w w0 : World} {B g : Nat} (h : Below B w0 w) (hB : B ≤ g) (o : Nat) (v : Int) : ∀ k, Below B w0 (laid w g o v k)
  | 0 => h
  | k + 1 => (laid_below h hB o v k).setCell hB _

theorem lay_any (g o n cap N : Nat) (v : Int) (t : TypeId) (f : Nat → Value) (w : World) (h4 : n ≤ 4) (hv0 : 0 ≤ v) (hv1 : v < 4294967296) (hrow : w.rowIs g t N f) (hN : o + n ≤ N) :
    Calls Tryz.prog 134 #[.slice (some ⟨g, o, none⟩) n cap, .int .u32 v] w fun e w' => e = .returned (.tuple #[]) ∧ w' = laid w g o v n := by
  have HR := Lib.hid hrow
  clear hrow
  go_enter Tryz.func134, Tryz.ntmps134
  go_wp2
  go_loopw [7] (fun i wr => ∃ k : Nat, k ≤ n ∧ i = .int .i64 k ∧ wr = laid w g o v k) (fun i _ => n - (intOf i).toNat)
  case atStart => exact ⟨0, Nat.zero_le _, rfl, rfl⟩
  case round =>
    obtain ⟨k, hk, rfl, hwr⟩ := hrel
    have HW := Lib.hid hwr
    have hL := laid_is HR.out o v k
    rw [← hwr] at hL
    clear hwr
    by_cases hlt : k < n
    · have hc := hL.cell (i := o + k) (by omega)
      have hf := hL.frozen (o + k)
      clear hL
      go_wp2
      go_roundw
      case rel => exact ⟨k + 1, by omega, by go_num, by rw [HW.out]; rfl⟩
      case measure => simp [intOf]; omega
    · clear hL
      obtain rfl : n = k := by omega
      go_wp2
      go_end0
      exact ⟨rfl, HW.out⟩
end Go.Proofs.YteaincdeoajkeaaGreatDoor.Oc
end
section
/- The walks of package octet's Get, Put and Sign: what each returns, for every argument. -/
namespace Go.Proofs.YteaincdeoajkeaaGreatDoor.Oc
open Go.RowKit Ut
set_option maxRecDepth 100000
set_option linter.unusedVariables false

theorem info_byte : (Tryz.prog.info? 5).map (fun i => (i.zero, i.size, i.bytes)) = some (some (.int .u8 0), 1, 1) := by kernel_rfl
theorem size_byte : (Tryz.prog.info? 5).map (·.size) = some 1 := by kernel_rfl

theorem hold_nat {n i m : Nat} (hm : isW m = true) (hi : i + m ≤ n) : hold n i m = true := by
  unfold hold; rw [hm]; simp; omega
theorem hold_yes {n : Nat} {i m : Int} (h : hold n i m = true) : ∃ j k : Nat, i = j ∧ m = k ∧ isW (k : Int) = true ∧ j + k ≤ n ∧ 0 < k ∧ k ≤ 4 := by
  unfold hold at h
  simp at h
  obtain ⟨⟨h1, h2⟩, h3⟩ := h
  obtain ⟨m1, m4⟩ := isW_le h1
  obtain ⟨j, rfl⟩ := Int.eq_ofNat_of_zero_le h2
  obtain ⟨k, rfl⟩ := Int.eq_ofNat_of_zero_le (show 0 ≤ m by omega)
  exact ⟨j, k, rfl, rfl, h1, by omega, by omega, by omega⟩

theorem get_no (a : Option Addr) (n cap : Nat) (i m : Int) (w : World) (hn : n ≤ 9223372036854775807) (h : hold n i m = false) :
    Calls Tryz.prog 85 #[.slice a n cap, .int .i64 i, .int .i64 m] w fun e w' => e = .returned (.tuple #[.int .u32 0, .int .i64 1]) ∧ w = w' := by
  go_enter Tryz.func85, Tryz.ntmps85
  go_wp2_with (go_at_call 124; refine (holds_any _ _ _ _ _ _ hn).mono ?_; rintro e w' ⟨rfl, rfl⟩)
  go_ret2
  exact ⟨rfl, rfl⟩

theorem get_yes (a : Option Addr) (n cap i m B : Nat) (zs : List Int) (w : World) (hnc : n ≤ cap) (hc : cap ≤ 9223372036854775807) (hrow : RowK .u8 w B a n zs) (hz : AreBytes zs) (hm : isW m = true) (hi : i + m ≤ n) :
    Calls Tryz.prog 85 #[.slice a n cap, .int .i64 i, .int .i64 m] w fun e w' => e = .returned (.tuple #[.int .u32 (num ((zs.drop i).take m)), .int .i64 0]) ∧ w = w' := by
  have hh := hold_nat hm hi
  obtain ⟨m1, m4⟩ := isW_le hm
  obtain ⟨x, rfl, _⟩ := hrow.2 0 (by omega)
  have HP := Lib.hid (hrow.part i m hi)
  have HZ := Lib.hid ((hz.drop i).take m)
  clear hrow hz
  have hn : n ≤ 9223372036854775807 := by omega
  go_enter Tryz.func85, Tryz.ntmps85
  go_wp2_with (first | (go_at_call 124; refine (holds_any _ _ _ _ _ _ hn).mono ?_; rintro e w' ⟨rfl, rfl⟩) | (go_at_call 126; refine (cut_any x n cap i m _ (by omega) hi hnc hc).mono ?_; rintro e w' ⟨rfl, rfl⟩) | (go_at_call 125; refine (number_any _ _ _ _ _ _ (by omega) HP.out HZ.out).mono ?_; rintro e w' ⟨rfl, rfl⟩))
  go_ret2
  exact ⟨rfl, rfl⟩

theorem put_no (a : Option Addr) (n cap : Nat) (i m v : Int) (w : World) (hn : n ≤ 9223372036854775807) (h : hold n i m = false) :
    Calls Tryz.prog 102 #[.slice a n cap, .int .i64 i, .int .i64 m, .int .u32 v] w fun e w' => e = .returned (.tuple #[.slice none 0 0, .int .i64 1]) ∧ w = w' := by
  go_enter Tryz.func102, Tryz.ntmps102
  go_wp2_with (go_at_call 124; refine (holds_any _ _ _ _ _ _ hn).mono ?_; rintro e w' ⟨rfl, rfl⟩)
  go_ret2
  exact ⟨rfl, rfl⟩

theorem cut_own (g n cap i m : Nat) (w : World) (hm : 0 < m) (hi : i + m ≤ n) (hn : n ≤ cap) (hc : cap ≤ 9223372036854775807) :
    Calls Tryz.prog 126 #[.slice (some ⟨g, 0, none⟩) n cap, .int .i64 i, .int .i64 m] w fun e w' => e = .returned (.slice (some ⟨g, i, none⟩) m m) ∧ w = w' := by
  have := cut_any ⟨g, 0, none⟩ n cap i m w hm hi hn hc
  rwa [add_plain] at this

theorem put_yes (a : Option Addr) (n cap i m : Nat) (v : Int) (zs : List Int) (w : World) (hn : n ≤ 140737488355328) (hrow : RowK .u8 w w.heap.size a n zs) (hm : isW m = true) (hi : i + m ≤ n) (hv0 : 0 ≤ v) (hv1 : v < 4294967296) :
    Calls Tryz.prog 102 #[.slice a n cap, .int .i64 i, .int .i64 m, .int .u32 v] w fun e w' =>
      e = .returned (.tuple #[.slice (some ⟨w.heap.size, 0, none⟩) n n, .int .i64 0]) ∧ RowK .u8 w' w'.heap.size (some ⟨w.heap.size, 0, none⟩) n (putZ zs i m v) ∧ Below w.heap.size w w' := by
  have hh := hold_nat hm hi
  obtain ⟨m1, m4⟩ := isW_le hm
  have HR := Lib.hid hrow
  clear hrow
  have hmk := fun W => run_make_row' (P := Tryz.prog) 70 5 (.int .u8 0) 1 Tryz.underlying70 info_byte rfl .i64 .i64 n (by omega) (by omega) W
  have hn' : n ≤ 9223372036854775807 := by omega
  have HG := Lib.hid (made_heap w (.int .u8 0) n 5)
  have HA : Below w.heap.size w (w.alloc (.cells (madeCells #[.int .u8 0] n) 5)) := (Below.refl _ _).alloc (Nat.le_refl _) _
  have HL : n ≤ (List.replicate n (Value.int .u8 0)).length := by simp
  go_enter Tryz.func102, Tryz.ntmps102
  go_wp2_with (first | (go_at_call 124; refine (holds_any _ _ _ _ _ _ hn').mono ?_; rintro e w' ⟨rfl, rfl⟩) | (refine wpList_copy_head (o := ⟨some 21, _, _, _, _, _⟩) rfl (.tmp 19) (.tmp 20) 70 70 rfl 5 Tryz.underlying70 size_byte w.heap.size n n n cap _ _ _ zs rfl rfl _ 5 HG.out (HR.out.below HA) (Nat.le_refl _) HL w.heap.size w HA (Nat.le_refl _) ?_; intro w2 HG2 hb2))
  have hI : w2.rowIs w.heap.size 5 n (fun i => .int .u8 (zs.getD i 0)) := by
    have h := HG2.out
    rw [List.drop_of_length_le (by simp), List.append_nil] at h
    have := is_of_list h
    rwa [HR.out.1] at this
  clear HG2 HG
  have HI := Lib.hid hI
  have HS := Lib.hid (laid_is hI i v m)
  have HB := laid_below hb2 (Nat.le_refl _) i v m
  have HZ : RowK .u8 (laid w2 w.heap.size i v m) (laid w2 w.heap.size i v m).heap.size (some ⟨w.heap.size, 0, none⟩) n (putZ zs i m v) :=
    RowK.of_is HS.out _ (by rw [length_putZ _ _ _ _ (by rw [HR.out.1]; exact hi), HR.out.1]) fun j _ => by
      rw [getD_putZ _ _ _ _ (by rw [HR.out.1]; exact hi)]
      by_cases e : i ≤ j ∧ j < i + m
      · rw [if_pos e, if_pos e]
      · rw [if_neg e, if_neg e]
  have HZ' := Lib.hid HZ
  clear HZ hI HS
  refine (cut_own _ n n i m _ (by omega) hi (Nat.le_refl _) hn').mono ?_
  rintro e w3 ⟨rfl, rfl⟩
  go_wp2_with fail
  refine (lay_any _ i m m n v _ _ _ (by omega) hv0 hv1 HI.out hi).mono ?_
  rintro e w3 ⟨rfl, rfl⟩
  go_wp2
  go_ret2
  exact ⟨rfl, HZ'.out, HB⟩
end Go.Proofs.YteaincdeoajkeaaGreatDoor.Oc
end
