/- Several texts in one: Ut Vt Wa -/
import Derived.Test.YtniaclhmfmkikaaGreatDoorProg
import Derived.WalkKit
import Derived.Handy
import Derived.Lib.Hide
import Derived.Laws.BytesArg
import Derived.Maps.AppendAt
import Derived.Laws.OwnMore
import Derived.Deep.OwnRows
import Derived.Deep.Draws
import Derived.Laws.CopyOwn
import Derived.Laws.AppendOwnNone
import Derived.OwnWalk
import Derived.Laws.StructEq
import Derived.Great.Walk
import Derived.BigFrame
section
/- Small laws that the walks of several packages share: a slice of bytes of the call's own, made a string; a block below. -/
namespace Go.Proofs.YtniaclhmfmkikaaGreatDoor.Ut
open Go.RowKit

theorem strOfNums_nil : strOfNums [] = ByteArray.empty := rfl

/-- string(b), where b is a slice of bytes that the call owns. -/
theorem run_convert_own {P : Program} {w : World} {B src e dst : Nat} {v : Value} {n : Nat} {xs : List Int} (hs : P.underlying src = some (.slice e)) (he : P.underlying e = some (.int .u8)) (hd : P.underlying dst = some .string)
    (hown : w.ownsRow B e 1 v n (xs.map (Value.int .u8))) : (convert src dst v).run P w = .ok (.string (strOfNums xs)) w := by
  have hl : xs.length = n := by have := hown.1; simpa using this
  rcases hown.2 with ⟨rfl, rfl⟩ | ⟨g, cap, cur, rfl, hb, hg, hn, hm, hsz, hcur⟩
  · obtain rfl : xs = [] := List.length_eq_zero_iff.1 hl
    exact run_convert_bytes_nil w src e hs he 0 0 dst hd
  · refine run_convert_bytes_arg w src e hs he g 0 n cap xs hl (fun i hi => ?_) dst hd
    rw [Nat.zero_add, World.ownsRow.cellAt hown i (by omega)]
    simp [List.getD, show i < xs.length by omega]

/-- What the call owns stays owned behind a call that writes nothing that was there. -/
theorem ownsRow_below {w w' : World} {B e n : Nat} {v : Value} {xs : List Value} (h : w.ownsRow B e 1 v n xs) (hb : Below w.heap.size w w') : w'.ownsRow B e 1 v n xs :=
  h.kept (row := none) ⟨hb.os, hb.tape, hb.output, hb.size, fun q hq _ => hb.block q hq⟩ (Classical.em _)
end Go.Proofs.YtniaclhmfmkikaaGreatDoor.Ut
end
section
/- Small laws that the walks of several packages share: a slice that came in or was made, as a list of integers of any kind. -/
namespace Go.Proofs.YtniaclhmfmkikaaGreatDoor.Ut
open Go.RowKit

theorem block_of_add (a : Addr) (n : Nat) : (a.add n).block = a.block := by unfold Addr.add; split <;> rfl
theorem add_of_add (a : Addr) (i j : Nat) : (a.add i).add j = a.add (i + j) := by
  unfold Addr.add
  by_cases hi : i = 0 <;> by_cases hj : j = 0 <;> simp [hi, hj, Nat.add_assoc]
theorem add_plain (g i : Nat) : (⟨g, 0, none⟩ : Addr).add i = ⟨g, i, none⟩ := by unfold Addr.add; split <;> simp_all

/-- the slice at a of n elements of the integer kind k reads as zs, and lies below block B -/
def RowK (k : IntKind) (w : World) (B : Nat) (a : Option Addr) (n : Nat) (zs : List Int) : Prop :=
  zs.length = n ∧ ∀ i, i < n → ∃ x, a = some x ∧ x.block < B ∧ w.cell? (x.add i) = some (.int k (zs.getD i 0))

theorem RowK.below {k : IntKind} {w w' : World} {B n : Nat} {a : Option Addr} {zs : List Int} (h : RowK k w B a n zs) (hb : Below B w w') : RowK k w' B a n zs :=
  ⟨h.1, fun i hi => by
    obtain ⟨x, e, hx, hc⟩ := h.2 i hi
    exact ⟨x, e, hx, (hb.cell (p := x.add i) (by rw [block_of_add]; exact hx)).trans hc⟩⟩
theorem RowK.more {k : IntKind} {w : World} {B B' n : Nat} {a : Option Addr} {zs : List Int} (h : RowK k w B a n zs) (hB : B ≤ B') : RowK k w B' a n zs :=
  ⟨h.1, fun i hi => by
    obtain ⟨x, e, hx, hc⟩ := h.2 i hi
    exact ⟨x, e, by omega, hc⟩⟩
theorem RowK.drewN {k : IntKind} {w : World} {B n : Nat} {a : Option Addr} {zs : List Int} (h : RowK k w B a n zs) (d : Nat) : RowK k (w.drewN d) B a n zs := h
theorem RowK.nil (k : IntKind) (w : World) (B : Nat) (a : Option Addr) : RowK k w B a 0 [] := ⟨rfl, fun i hi => absurd hi (by omega)⟩

/-- a part of a row -/
theorem RowK.part {k : IntKind} {w : World} {B n : Nat} {x : Addr} {zs : List Int} (h : RowK k w B (some x) n zs) (i m : Nat) (him : i + m ≤ n) :
    RowK k w B (some (x.add i)) m ((zs.drop i).take m) := by
  refine ⟨by simp [h.1]; omega, fun j hj => ?_⟩
  obtain ⟨y, e, hx, hc⟩ := h.2 (i + j) (by omega)
  obtain rfl : x = y := by injection e
  refine ⟨_, rfl, by rw [block_of_add]; exact hx, ?_⟩
  rw [add_of_add, hc]
  simp [List.getD, hj]

/-- what the call owns, as a row -/
theorem RowK.of_own {k : IntKind} {w : World} {B e n : Nat} {v : Value} {xs : List Int} (h : w.ownsRow B e 1 v n (xs.map (Value.int k))) :
    ∃ a cap, v = .slice a n cap ∧ n ≤ cap ∧ cap ≤ maxLen ∧ RowK k w w.heap.size a n xs := by
  have hl : xs.length = n := by have := h.1; simpa using this
  rcases h.2 with ⟨rfl, rfl⟩ | ⟨g, cap, cur, rfl, hb, hg, hnc, hm, hsz, hcur⟩
  · exact ⟨none, 0, rfl, by omega, by unfold maxLen; omega, hl, fun i hi => absurd hi (by omega)⟩
  · refine ⟨some ⟨g, 0, none⟩, cap, rfl, hnc, hm, hl, fun i hi => ⟨_, rfl, (Array.getElem?_eq_some_iff.1 hg).1, ?_⟩⟩
    rw [add_plain, World.ownsRow.cellAt h i (by omega)]
    simp [List.getD, show i < xs.length by omega]

theorem RowK.of_is {k : IntKind} {w : World} {g n : Nat} {t : TypeId} {f : Nat → Value} (h : w.rowIs g t n f) (xs : List Int) (hl : xs.length = n) (hf : ∀ i, i < n → f i = .int k (xs.getD i 0)) :
    RowK k w w.heap.size (some ⟨g, 0, none⟩) n xs :=
  ⟨hl, fun i hi => ⟨_, rfl, h.lt, by rw [add_plain, h.cell hi, hf i hi]⟩⟩

/-- the cells of a row, as 'copy' and 'append' ask for them -/
theorem RowK.cells {k : IntKind} {w : World} {B n : Nat} {a : Option Addr} {zs : List Int} (h : RowK k w B a n zs) (hp : 0 < (zs.map (Value.int k)).length) :
    ∃ ad, a = some ad ∧ ad.block < B ∧ ∀ j v, (zs.map (Value.int k))[j]? = some v → w.cell? (ad.add j) = some v := by
  rw [List.length_map, h.1] at hp
  obtain ⟨x, rfl, hb, _⟩ := h.2 0 hp
  refine ⟨x, rfl, hb, fun j v hj => ?_⟩
  have hjl : j < zs.length := by
    rcases Nat.lt_or_ge j zs.length with h | h
    · exact h
    · simp [List.getElem?_eq_none (show (zs.map (Value.int k)).length ≤ j by simpa using h)] at hj
  obtain ⟨y, e, _, hc⟩ := h.2 j (by rw [← h.1]; exact hjl)
  obtain rfl : x = y := by injection e
  rw [hc]
  simp [List.getElem?_eq_getElem hjl] at hj
  subst hj
  simp [List.getD, List.getElem?_eq_getElem hjl]

/-- what make lays, as a list -/
theorem made_heap (w : World) (z : Value) (n : Nat) (t : TypeId) : (w.alloc (.cells (madeCells #[z] n) t)).heap[w.heap.size]? = some (.cells (List.replicate n z).toArray t (0, 0)) := by
  rw [heap_alloc_new, ← toList_madeCells_one z n]

/-- a block that is a list of numbers, as a row -/
theorem is_of_list {w : World} {g : Nat} {t : TypeId} {k : IntKind} {xs : List Int} (h : w.heap[g]? = some (.cells (xs.map (Value.int k)).toArray t (0, 0))) :
    w.rowIs g t xs.length (fun i => .int k (xs.getD i 0)) :=
  ⟨_, h, by simp, fun i hi => by simp [List.getD, hi]⟩

/-- copy(d, s): s a row no longer than d, d the head of a block that the call made -/
theorem wpList_copy_head {P : Program} {w : World} {ops : Array Oper} {rest : List Oper} {o : Oper} {a : Act} {Q : Exit → Act → World → Prop} (hgd : o.guard = none) (d s : Operand) (dT sT : TypeId)
    (ho : o.op = .call { callee := .builtin .copy, args := #[d, s], argTypes := #[dT, sT] }) (elem : TypeId) (hu : P.underlying dT = some (.slice elem)) (hsz : (P.info? elem).map (·.size) = some 1)
    (g n dcap m cap B : Nat) (k : IntKind) (sa : Option Addr) (zs : List Int) (hd : a.eval d = .slice (some ⟨g, 0, none⟩) n dcap) (hs : a.eval s = .slice sa m cap)
    (cur : List Value) (t : TypeId) (hg : w.heap[g]? = some (.cells cur.toArray t (0, 0))) (hrow : RowK k w B sa m zs) (hm : m ≤ n) (hn : n ≤ cur.length) (b : Nat) (w0 : World) (hb : Below b w0 w) (hB : b ≤ g)
    (h : ∀ w', Hid (w'.heap[g]? = some (.cells (zs.map (Value.int k) ++ cur.drop m).toArray t (0, 0))) → Below b w0 w' → wpList P ops Q rest (a.put o.dst (goInt m)) w') :
    wpList P ops Q (o :: rest) a w := by
  have hl : (zs.map (Value.int k)).length = m := by rw [List.length_map, hrow.1]
  have e : splice cur 0 (zs.map (Value.int k)) = zs.map (Value.int k) ++ cur.drop m := by simp only [splice, List.take_zero, List.nil_append, Nat.zero_add, hl]
  refine wpList_copy_splice hgd d s dT sT ho elem hu hsz (some ⟨g, 0, none⟩) sa n dcap m cap hd hs g 0 cur t hg (zs.map (Value.int k)) (by rw [hl]; exact (Nat.min_eq_left hm).symm)
    (fun hp => ⟨rfl, ?_⟩) (by omega) (ints_oneCell _ _) b w0 hb hB ?_
  · obtain ⟨ad, e, _, hc⟩ := hrow.cells hp
    exact ⟨ad, e, hc⟩
  · rw [hl, e]
    exact h

/-- what the call owns, as a list of numbers of one kind -/
def OwnI (k : IntKind) (w : World) (B : Nat) (e : TypeId) (v : Value) (n : Nat) (xs : List Int) : Prop := w.ownsRow B e 1 v n (xs.map (Value.int k))

section
variable {k : IntKind} {w w' : World} {B n : Nat} {e : TypeId} {v : Value} {xs : List Int}
theorem OwnI.nil (k : IntKind) (w : World) (B : Nat) (e : TypeId) : OwnI k w B e (.slice none 0 0) 0 [] := World.ownsRow_nil _ _ _ _
theorem OwnI.below (h : OwnI k w B e v n xs) (hb : Below w.heap.size w w') : OwnI k w' B e v n xs := ownsRow_below h hb
theorem OwnI.alloc (h : OwnI k w B e v n xs) (o : Obj) : OwnI k (w.alloc o) B e v n xs := World.ownsRow.alloc h o
theorem OwnI.drewN (h : OwnI k w B e v n xs) (d : Nat) : OwnI k (w.drewN d) B e v n xs := h
theorem OwnI.len (h : OwnI k w B e v n xs) : xs.length = n := by have := h.1; simpa using this
theorem OwnI.row (h : OwnI k w B e v n xs) : ∃ a cap, v = .slice a n cap ∧ n ≤ cap ∧ cap ≤ maxLen ∧ RowK k w w.heap.size a n xs := RowK.of_own h
theorem OwnI.made (k : IntKind) (w : World) (B : Nat) (e : TypeId) (hB : B ≤ w.heap.size) : OwnI k (w.alloc (.cells #[] e)) B e (.slice (some ⟨w.heap.size, 0, none⟩) 0 0) 0 [] :=
  World.ownsRow_made w #[] 0 hB (by unfold maxLen; omega) rfl
end

theorem OwnI.store {k : IntKind} {w : World} {B n g cap : Nat} {e : TypeId} {xs : List Int} (h : OwnI k w B e (.slice (some ⟨g, 0, none⟩) n cap) n xs) (j : Nat) (u : Int) :
    OwnI k (w.setCell ⟨g, j, none⟩ (.int k u)) B e (.slice (some ⟨g, 0, none⟩) n cap) n (xs.set j u) := by
  unfold OwnI
  rw [List.map_set]
  exact (World.ownsRow.stored h j (.int k u)).1
theorem OwnI.cellAt {k : IntKind} {w : World} {B n g cap : Nat} {e : TypeId} {xs : List Int} (h : OwnI k w B e (.slice (some ⟨g, 0, none⟩) n cap) n xs) (j : Nat) (hj : j < n) : w.cell? ⟨g, j, none⟩ = some (.int k (xs.getD j 0)) := by
  rw [World.ownsRow.cellAt h j (by omega)]
  simp [List.getD, show j < xs.length by rw [h.len]; exact hj]
theorem OwnI.frozenAt {k : IntKind} {w : World} {B n g cap : Nat} {e : TypeId} {xs : List Int} (h : OwnI k w B e (.slice (some ⟨g, 0, none⟩) n cap) n xs) (j : Nat) : w.frozen? ⟨g, j, none⟩ = false := World.ownsRow.frozenAt h j
/-- what is owned and is not nothing lies in a block -/
theorem OwnI.form {k : IntKind} {w : World} {B n : Nat} {e : TypeId} {v : Value} {xs : List Int} (h : OwnI k w B e v n xs) (hn : 0 < n) : ∃ g cap, v = .slice (some ⟨g, 0, none⟩) n cap ∧ B ≤ g ∧ g < w.heap.size ∧ n ≤ cap ∧ cap ≤ maxLen := by
  rcases h.2 with ⟨_, h0⟩ | ⟨g, cap, cur, hv, hb, hg, hnc, hm, _⟩
  · omega
  · exact ⟨g, cap, hv, hb, (Array.getElem?_eq_some_iff.1 hg).1, hnc, hm⟩

/-- one new cell, as a row -/
theorem RowK.new1 (k : IntKind) (w : World) (x : Int) (t : TypeId) : RowK k (w.alloc (.cells #[.int k x] t)) (w.heap.size + 1) (some ⟨w.heap.size, 0, none⟩) 1 [x] :=
  ⟨rfl, fun i hi => ⟨_, rfl, Nat.lt_succ_self _, by
    obtain rfl : i = 0 := by omega
    simp [Addr.add]⟩⟩

/-- append(s, x...): s the call's own, x any row: nil, empty or not -/
theorem run_append_ints {P : Program} (w : World) (k : IntKind) (base : Nat) (t ty e : TypeId) (bytes : Nat) (ht : P.underlying t = some (.slice e)) (hinfo : (P.info? e).map (fun i => (i.zero, i.size, i.bytes)) = some (some (.int k 0), 1, bytes))
    (v : Value) (n : Nat) (xs : List Int) (hown : OwnI k w base e v n xs) (B : Nat) (a : Option Addr) (m c : Nat) (zs : List Int) (hr : RowK k w B a m zs)
    (h63 : n + m ≤ maxLen) (hbytes : (n + m) * bytes ≤ 140737488355328) (hbase : base ≤ w.heap.size) :
    ∃ v' w', (Builtin.append_ #[t, t] ty #[v, .slice a m c]).run P w = .ok v' w' ∧ OwnI k w' base e v' (n + m) (xs ++ zs) ∧ w.grownBy w' v.ownBlock ∧ (v'.ownBlock = v.ownBlock ∨ v'.ownBlock = some w.heap.size) := by
  obtain ⟨i, hi, hz, hs, hb⟩ := info_parts hinfo
  have hl : (zs.map (Value.int k)).length = m * 1 := by rw [List.length_map, hr.1, Nat.mul_one]
  by_cases h0 : m = 0
  · subst h0
    have hn : zs = [] := List.length_eq_zero_iff.1 hr.1
    subst hn
    have hl0 : ∀ ad : Addr, (loadCells ad 0).run P w = .ok #[] w := fun ad => run_loadCells_list (P := P) w ad [] (by simp)
    refine ⟨v, w, ?_, by simpa using hown, World.grownBy.refl w _, .inl rfl⟩
    rcases hown.2 with ⟨rfl, rfl⟩ | ⟨g, cap, cur, rfl, _, _, hnc, _⟩
    · cases a <;> simp [Builtin.append_, run_underlying ht, sizeOf, typeInfo, hi, Builtin.lenOf, Builtin.firstCells, hl0]
    · cases a <;> simp [Builtin.append_, run_underlying ht, sizeOf, typeInfo, hi, Builtin.lenOf, Builtin.firstCells, hnc, storeCells, hl0]
  · obtain ⟨ad, rfl, _, hc⟩ := hr.cells (by rw [List.length_map, hr.1]; omega)
    obtain ⟨v', w', hrun, h2, h3, _, h5⟩ := run_append_own_at (P := P) w base t ty e i (.int k 0) 1 bytes ht hi hz hs hb rfl (by omega) v n _ hown ad m c _ hl hc (ints_oneCell _ _) h63 hbytes hbase
    exact ⟨v', w', hrun, by unfold OwnI; rw [List.map_append]; exact h2, h3, h5⟩

theorem wp_append_ints {P : Program} {o : Oper} {a : Act} {w : World} {K : Act → World → Prop} {Q : Exit → Act → World → Prop} (s x : Operand) (t : TypeId)
    (ho : o.op = .call { callee := .builtin .append, args := #[s, x], argTypes := #[t, t] })
    (k : IntKind) (base : Nat) (e : TypeId) (bytes : Nat) (ht : P.underlying t = some (.slice e)) (hinfo : (P.info? e).map (fun i => (i.zero, i.size, i.bytes)) = some (some (.int k 0), 1, bytes))
    (v : Value) (n : Nat) (xs : List Int) (hs : a.eval s = v) (hown : OwnI k w base e v n xs) (B : Nat) (sa : Option Addr) (m c : Nat) (zs : List Int) (hx : a.eval x = .slice sa m c) (hr : RowK k w B sa m zs)
    (h63 : n + m ≤ maxLen) (hbytes : (n + m) * bytes ≤ 140737488355328) (hbase : base ≤ w.heap.size)
    (h : ∀ v' w', Hid (OwnI k w' base e v' (n + m) (xs ++ zs)) → Below base w w' → Hid (w.grownBy w' v.ownBlock ∧ (v'.ownBlock = v.ownBlock ∨ v'.ownBlock = some w.heap.size)) → K (a.put o.dst v') w') : o.wp P a w K Q := by
  obtain ⟨v', w', hrun, h2, h3, h4⟩ := run_append_ints (P := P) w k base t o.type e bytes ht hinfo v n xs hown B sa m c zs hr h63 hbytes hbase
  unfold Oper.wp execOp
  simp only [ho, resolve, invoke, builtin, Sem.run_bind, Sem.run_pure, Result.andThen_ok, List.map_toArray, List.map_cons, List.map_nil, hs, hx, hrun]
  exact h v' w' h2 ((Below.refl _ _).grown h3 hbase fun q hq => (World.ownsRow.lt hown q hq).1) ⟨h3, h4⟩

theorem wpList_append_ints {P : Program} {w : World} {ops : Array Oper} {rest : List Oper} {o : Oper} {a : Act} {Q : Exit → Act → World → Prop} (hgd : o.guard = none) (s x : Operand) (t : TypeId)
    (ho : o.op = .call { callee := .builtin .append, args := #[s, x], argTypes := #[t, t] })
    (k : IntKind) (base : Nat) (e : TypeId) (bytes : Nat) (ht : P.underlying t = some (.slice e)) (hinfo : (P.info? e).map (fun i => (i.zero, i.size, i.bytes)) = some (some (.int k 0), 1, bytes))
    (v : Value) (n : Nat) (xs : List Int) (hs : a.eval s = v) (hown : OwnI k w base e v n xs) (B : Nat) (sa : Option Addr) (m c : Nat) (zs : List Int) (hx : a.eval x = .slice sa m c) (hr : RowK k w B sa m zs)
    (h63 : n + m ≤ maxLen) (hbytes : (n + m) * bytes ≤ 140737488355328) (hbase : base ≤ w.heap.size)
    (h : ∀ v' w', Hid (OwnI k w' base e v' (n + m) (xs ++ zs)) → Below base w w' → Hid (w.grownBy w' v.ownBlock ∧ (v'.ownBlock = v.ownBlock ∨ v'.ownBlock = some w.heap.size)) → wpList P ops Q rest (a.put o.dst v') w') : wpList P ops Q (o :: rest) a w :=
  wpList_plain hgd fun _ hK => wp_append_ints s x t ho k base e bytes ht hinfo v n xs hs hown B sa m c zs hx hr h63 hbytes hbase fun v' w' h2 h3 h4 => hK _ _ (h v' w' h2 h3 h4)

theorem step_append_ints {P : Program} {w : World} {ops : Array Oper} {o : Oper} {a : Act} {K : Act → World → Prop} {Q : Exit → Act → World → Prop} {E : Prop} (hgd : o.guard = none) (s x : Operand) (t : TypeId)
    (ho : o.op = .call { callee := .builtin .append, args := #[s, x], argTypes := #[t, t] })
    (k : IntKind) (base : Nat) (e : TypeId) (bytes : Nat) (ht : P.underlying t = some (.slice e)) (hinfo : (P.info? e).map (fun i => (i.zero, i.size, i.bytes)) = some (some (.int k 0), 1, bytes))
    (v : Value) (n : Nat) (xs : List Int) (hs : a.eval s = v) (hown : OwnI k w base e v n xs) (B : Nat) (sa : Option Addr) (m c : Nat) (zs : List Int) (hx : a.eval x = .slice sa m c) (hr : RowK k w B sa m zs)
    (h63 : n + m ≤ maxLen) (hbytes : (n + m) * bytes ≤ 140737488355328) (hbase : base ≤ w.heap.size)
    (h : ∀ v' w', Hid (OwnI k w' base e v' (n + m) (xs ++ zs)) → Below base w w' → Hid (w.grownBy w' v.ownBlock ∧ (v'.ownBlock = v.ownBlock ∨ v'.ownBlock = some w.heap.size)) → K (a.put o.dst v') w') :
    if Region.wanted o (yielded ops a.tmps) = true then Oper.wp P o a w K Q else E := by
  have hw : Region.wanted o (yielded ops a.tmps) = true := by simp [Region.wanted, hgd]
  rw [if_pos hw]
  exact wp_append_ints s x t ho k base e bytes ht hinfo v n xs hs hown B sa m c zs hx hr h63 hbytes hbase h

/-- string(b) of any row of bytes -/
theorem run_convert_row {P : Program} {w : World} {B src e dst n cap : Nat} {a : Option Addr} {xs : List Int} (hs : P.underlying src = some (.slice e)) (he : P.underlying e = some (.int .u8)) (hd : P.underlying dst = some .string)
    (h : RowK .u8 w B a n xs) : (convert src dst (.slice a n cap)).run P w = .ok (.string (strOfNums xs)) w := by
  rw [run_convert_bytes_string w src dst e a n cap hs he hd]
  cases a with
  | none =>
    have hn : n = 0 := by
      rcases Nat.eq_zero_or_pos n with h0 | h0
      · exact h0
      · obtain ⟨x, e, _⟩ := h.2 0 h0; cases e
    subst hn
    obtain rfl : xs = [] := List.length_eq_zero_iff.1 h.1
    simp [Conv.bytesToString]; rfl
  | some x =>
    have hl : (loadCells x n).run P w = .ok (xs.map (Value.int .u8)).toArray w := by
      have := run_loadCells_list (P := P) w x (xs.map (Value.int .u8)) (fun j v hj => by
        have hjl : j < xs.length := by
          rcases Nat.lt_or_ge j xs.length with h | h
          · exact h
          · simp [List.getElem?_eq_none (show (xs.map (Value.int .u8)).length ≤ j by simpa using h)] at hj
        obtain ⟨y, e, _, hc⟩ := h.2 j (by have := h.1; omega)
        obtain rfl : x = y := by injection e
        rw [hc]
        simp [List.getElem?_eq_getElem hjl] at hj
        subst hj
        simp [List.getD, List.getElem?_eq_getElem hjl])
      simpa [h.1] using this
    rw [run_bytesToString w _ n cap xs hl, foldl_push_bytes]
    simp [strOfNums, ByteArray.empty, ByteArray.emptyWithCapacity]
    rfl

/-- a slice of numbers that came in, as a row of its elements -/
theorem RowK.of_arg {k : IntKind} {w : World} {a : Option Addr} {len cap : Nat} {zs : List Int} (h : (a = none ∧ len = 0 ∧ cap = 0 ∧ zs = []) ∨
    ∃ x, a = some x ∧ len ≤ cap ∧ cap ≤ maxLen ∧ zs.length = cap ∧ (∀ i, i < zs.length → w.cell? (x.add i) = some (.int k (zs.getD i 0))) ∧ ∀ n ∈ zs, (Lit.int k n).wf = true) :
    RowK k w w.heap.size a len (zs.take len) ∧ len ≤ cap ∧ ∀ z ∈ zs.take len, (Lit.int k z).wf = true := by
  rcases h with ⟨rfl, rfl, rfl, rfl⟩ | ⟨x, rfl, hl, _, hz, hc, hw⟩
  · exact ⟨RowK.nil _ _ _ _, Nat.le_refl _, fun z hz => by cases hz⟩
  · refine ⟨⟨by simp; omega, fun i hi => ⟨x, rfl, ?_, ?_⟩⟩, hl, fun z hz => hw z (List.mem_of_mem_take hz)⟩
    · have hb := World.block_lt_of_cell? w _ (hc i (by omega))
      rwa [block_of_add] at hb
    · rw [hc i (by omega)]
      simp [List.getD, hi]

theorem wf_u8 {z : Int} (h : (Lit.int .u8 z).wf = true) : 0 ≤ z ∧ z < 256 := by
  simp [Lit.wf, IntKind.min, IntKind.max, IntKind.bits, IntKind.signed] at h; omega
theorem wf_u32 {z : Int} (h : (Lit.int .u32 z).wf = true) : 0 ≤ z ∧ z < 4294967296 := by
  simp [Lit.wf, IntKind.min, IntKind.max, IntKind.bits, IntKind.signed] at h; omega
theorem wf_i64 {z : Int} (h : (Lit.int .i64 z).wf = true) : -9223372036854775808 ≤ z ∧ z < 9223372036854775808 := by
  simp [Lit.wf, IntKind.min, IntKind.max, IntKind.bits, IntKind.signed] at h; omega
end Go.Proofs.YtniaclhmfmkikaaGreatDoor.Ut
end
section
/- Arrays in memory: loaded, stored and compared whole, wherever they lie in a block. Serves all packages. -/
namespace Go.Proofs.YtniaclhmfmkikaaGreatDoor.Ut
open Go.RowKit
section
variable {P : Program}

/-- a struct or an array is loaded whole from wherever its cells lie -/
theorem run_loadVar_cells (w : World) (a : Addr) (ty : TypeId) (cs : List Value) (d : TypeDesc) (hc : ∀ j v, cs[j]? = some v → w.cell? (a.add j) = some v)
    (hu : P.underlying ty = some d) (hd : (match d with | .struct _ | .array _ _ => true | _ => false) = true) (hi : (P.info? ty).map (·.size) = some cs.length) :
    (loadVar ty a).run P w = .ok (.agg cs.toArray) w := by
  have hl := run_loadCells_list (P := P) w a cs hc
  cases hq : P.info? ty with
  | none => simp [hq] at hi
  | some i =>
    have hs : i.size = cs.length := by simpa [hq] using hi
    have hagg : (isAgg ty).run P w = .ok true w := by
      unfold isAgg
      rw [Sem.run_bind, run_underlying hu w]
      cases d <;> simp_all
    simp [loadVar, Sem.run_bind, hagg, sizeOf, typeInfo, hq, hs, hl]

/-- a struct or an array is stored whole into the middle of a block -/
theorem run_storeVar_cells (w : World) (g o : Nat) (t ty : TypeId) (cur cs : List Value) (hg : w.heap[g]? = some (.cells cur.toArray t (0, 0))) (hi : (P.info? ty).map (·.size) = some cs.length)
    (hfit : o + cs.length ≤ cur.length) (h1 : ∀ v ∈ cs, v.oneCell' = true) :
    (storeVar ty ⟨g, o, none⟩ (.agg cs.toArray)).run P w = .ok () (w.setRow g (splice cur o cs).toArray) := by
  have := run_storeCells_at (P := P) g o t cs 0 cur.toArray w hg (by simpa using hfit) h1
  cases hq : P.info? ty with
  | none => simp [hq] at hi
  | some i =>
    have hs : i.size = cs.length := by simpa [hq] using hi
    have e : (storeCells ⟨g, o, none⟩ cs 0).run P w = .ok () (w.setRow g (splice cur o cs).toArray) := by
      rw [this]; simp [splice]
    simp [storeVar, sizeOf, typeInfo, hq, Value.cells, hs, e]

theorem run_part_int (w : World) (e : TypeId) (k k' : IntKind) (hu : P.underlying e = some (.int k)) (xs : List Int) (i : Nat) (hi : i < xs.length) :
    (part e (xs.map (Value.int k')).toArray i).run P w = .ok (.int k' (xs.getD i 0)) w := by
  have hagg : (isAgg e).run P w = .ok false w := by
    unfold isAgg
    rw [Sem.run_bind, run_underlying hu w]
    rfl
  have hx : (xs.map (Value.int k')).toArray[i]? = some (.int k' (xs.getD i 0)) := by simp [List.getD, hi]
  unfold part
  rw [Sem.run_bind, hagg]
  simp only [Result.andThen_ok, Bool.false_eq_true, if_false, hx]
  rfl

theorem all_range_int : ∀ (xs ys : List Int), xs.length = ys.length → ((List.range xs.length).all fun i => xs.getD i 0 == ys.getD i 0) = (xs == ys)
  | [], [], _ => rfl
  | x :: xs, y :: ys, h => by
    have ih := all_range_int xs ys (by simpa using h)
    rw [List.length_cons, List.range_succ_eq_map, List.all_cons, List.all_map]
    simp only [List.getD_cons_zero, Function.comp_def, List.getD_cons_succ, ih]
    simp [List.cons_beq_cons]
  | [], _ :: _, h => by simp at h
  | _ :: _, [], h => by simp at h

/-- two arrays of integers are equal where their numbers are -/
theorem run_equalIn_ints (w : World) (d : Nat) (t e : TypeId) (n : Nat) (k : IntKind) (ht : P.underlying t = some (.array n e)) (he : P.underlying e = some (.int k)) (hsz : ∀ w, (sizeOf e).run P w = .ok 1 w)
    (xs ys : List Int) (hx : xs.length = n) (hy : ys.length = n) :
    (Op.equalIn (d + 2) t (.agg (xs.map (Value.int k)).toArray) (.agg (ys.map (Value.int k)).toArray)).run P w = .ok (xs == ys) w := by
  rw [← all_range_int xs ys (hx.trans hy.symm), hx, List.range_eq_range', Op.equalIn]
  simp only [Sem.run_bind, run_underlying ht, Result.andThen_ok, hsz, Std.Legacy.Range.forIn_eq_forIn_range', Std.Legacy.Range.size, Nat.sub_zero, Nat.add_sub_cancel, Nat.div_one]
  have hl : ∀ i ∈ List.range' 0 n 1, i < n := fun i hi => by simpa using (List.mem_range'_1.1 hi).2
  generalize List.range' 0 n 1 = l at hl ⊢
  induction l with
  | nil => simp
  | cons i l ih =>
    have hi : i < n := hl i (by simp)
    have px : (part e (xs.map (Value.int k)).toArray (i * 1)).run P w = .ok (.int k (xs.getD i 0)) w := by rw [Nat.mul_one]; exact run_part_int w e k k he xs i (by omega)
    have py : (part e (ys.map (Value.int k)).toArray (i * 1)).run P w = .ok (.int k (ys.getD i 0)) w := by rw [Nat.mul_one]; exact run_part_int w e k k he ys i (by omega)
    have pe : (Op.equalIn (d + 1) e (.int k (xs.getD i 0)) (.int k (ys.getD i 0))).run P w = .ok (xs.getD i 0 == ys.getD i 0) w := run_equalIn_int w d e k k _ _ he
    simp only [List.forIn_cons, Sem.run_bind, px, py, pe, Result.andThen_ok, List.all_cons]
    cases hb : (xs.getD i 0 == ys.getD i 0)
    · simp
    · simp only [Bool.not_true, Bool.false_eq_true, if_false, Sem.run_pure, Result.andThen_ok, Bool.true_and]
      exact ih fun j hj => hl j (by simp [hj])

/-- an operation that is wanted (its guard holds, or it has none), what it yields and the world that it leaves said by the caller -/
theorem wpList_runW {ops : Array Oper} {rest : List Oper} {o : Oper} {a : Act} {w : World} {Q : Exit → Act → World → Prop} (hw : Region.wanted o (yielded ops a.tmps) = true) (dst : Option Tmp) (hdst : o.dst = dst)
    (v : Value) (w' : World) (hrun : (execOp a.eval o).run P w = .ok (.value v) w') (h : wpList P ops Q rest (a.put dst v) w') : wpList P ops Q (o :: rest) a w := by
  subst hdst
  refine BigFrame.wpList_want hw fun K hK => ?_
  unfold Oper.wp
  rw [hrun, Oper.upon_value]
  exact hK _ _ h
theorem exec_load_cells {ρ : Operand → Value} {o : Oper} {w : World} (ty : TypeId) (x : Operand) (ho : o.op = .load ty x) (ad : Addr) (hx : ρ x = .pointer (some ad)) (cs : List Value) (d : TypeDesc)
    (hc : ∀ j v, cs[j]? = some v → w.cell? (ad.add j) = some v) (hu : P.underlying ty = some d) (hd : (match d with | .struct _ | .array _ _ => true | _ => false) = true) (hi : (P.info? ty).map (·.size) = some cs.length) :
    (execOp ρ o).run P w = .ok (.value (.agg cs.toArray)) w := by
  simp only [execOp, ho, hx, Instr.loadAt, Instr.sureAddr, Sem.run_bind, Sem.run_pure, Result.andThen_ok, run_loadVar_cells w ad ty cs d hc hu hd hi]
theorem exec_build {ρ : Operand → Value} {o : Oper} {w : World} (t : TypeId) (parts : Array (Nat × Operand)) (ho : o.op = .build t parts) (cells : Array Value) (hf : P.built t (parts.map fun (i, x) => (i, ρ x)).toList = some cells) :
    (execOp ρ o).run P w = .ok (.value (.agg cells)) w := by
  simp only [execOp, ho, Sem.run_bind, run_build w t _ _ hf, Result.andThen_ok, Sem.run_pure]
theorem exec_build0 {ρ : Operand → Value} {o : Oper} {w : World} (t : TypeId) (ho : o.op = .build t #[]) (cells : Array Value) (hf : P.built t [] = some cells) :
    (execOp ρ o).run P w = .ok (.value (.agg cells)) w := exec_build t #[] ho cells (by simpa using hf)
theorem exec_eql_ints {ρ : Operand → Value} {o : Oper} {w : World} (t e rt : TypeId) (x y : Operand) (ho : o.op = .binOp .eql t x y rt) (n : Nat) (k : IntKind) (ht : P.underlying t = some (.array n e)) (he : P.underlying e = some (.int k)) (hsz : ∀ w, (sizeOf e).run P w = .ok 1 w)
    (hm : P.eqGuardType P.depth t = false) (xs ys : List Int) (hx : xs.length = n) (hy : ys.length = n) (ex : ρ x = .agg (xs.map (Value.int k)).toArray) (ey : ρ y = .agg (ys.map (Value.int k)).toArray) :
    (execOp ρ o).run P w = .ok (.value (.bool (xs == ys))) w := by
  simp only [execOp, ho, ex, ey, Sem.run_bind, run_eqGuard_agg w .eql t x y _ _ hm, Result.andThen_ok, run_eql_struct, run_equalIn_ints w 9998 t e n k ht he hsz xs ys hx hy, Sem.run_pure]
theorem wpList_store_cells {ops : Array Oper} {rest : List Oper} {o : Oper} {a : Act} {w : World} {Q : Exit → Act → World → Prop} (hgd : o.guard = none) (ty : TypeId) (x y : Operand) (ho : o.op = .store ty x y)
    (g off : Nat) (t : TypeId) (cur cs : List Value) (hx : a.eval x = .pointer (some ⟨g, off, none⟩)) (hy : a.eval y = .agg cs.toArray)
    (hg : w.heap[g]? = some (.cells cur.toArray t (0, 0))) (hi : (P.info? ty).map (·.size) = some cs.length) (hfit : off + cs.length ≤ cur.length) (h1 : ∀ v ∈ cs, v.oneCell' = true)
    (h : wpList P ops Q rest (a.put o.dst undef) (w.setRow g (splice cur off cs).toArray)) : wpList P ops Q (o :: rest) a w :=
  wpList_plain hgd fun _ hK => by
    unfold Oper.wp execOp
    simp only [ho, hx, hy, Instr.storeAt, Instr.sureAddr, Sem.run_bind, Sem.run_pure, Result.andThen_ok, run_storeVar_cells w g off t ty cur cs hg hi hfit h1]
    exact hK _ _ h
/-- an append whose run is known, as a step of a drawn region -/
theorem step_append_run {w : World} {ops : Array Oper} {o : Oper} {a : Act} {K : Act → World → Prop} {Q : Exit → Act → World → Prop} {E : Prop} (hgd : o.guard = none) (s x : Operand) (t : TypeId)
    (ho : o.op = .call { callee := .builtin .append, args := #[s, x], argTypes := #[t, t] }) (v y : Value) (hv : a.eval s = v) (hx : a.eval x = y) (v' : Value) (w' : World)
    (hrun : (Builtin.append_ #[t, t] o.type #[v, y]).run P w = .ok v' w') (h : K (a.put o.dst v') w') :
    if Region.wanted o (yielded ops a.tmps) = true then Oper.wp P o a w K Q else E := by
  have hw : Region.wanted o (yielded ops a.tmps) = true := by simp [Region.wanted, hgd]
  rw [if_pos hw]
  unfold Oper.wp execOp
  simp only [ho, resolve, invoke, builtin, Sem.run_bind, Sem.run_pure, Result.andThen_ok, List.map_toArray, List.map_cons, List.map_nil, hv, hx, hrun]
  exact h
/-- .. of a region that doesn't draw -/
theorem wpList_append_run {w : World} {ops : Array Oper} {rest : List Oper} {o : Oper} {a : Act} {Q : Exit → Act → World → Prop} (hgd : o.guard = none) (s x : Operand) (t : TypeId)
    (ho : o.op = .call { callee := .builtin .append, args := #[s, x], argTypes := #[t, t] }) (v y : Value) (hv : a.eval s = v) (hx : a.eval x = y) (v' : Value) (w' : World)
    (hrun : (Builtin.append_ #[t, t] o.type #[v, y]).run P w = .ok v' w') (h : wpList P ops Q rest (a.put o.dst v') w') : wpList P ops Q (o :: rest) a w :=
  wpList_plain hgd fun K hK => by
    unfold Oper.wp execOp
    simp only [ho, resolve, invoke, builtin, Sem.run_bind, Sem.run_pure, Result.andThen_ok, List.map_toArray, List.map_cons, List.map_nil, hv, hx, hrun]
    exact hK _ _ h
/-- one element more goes into a row of the call's own: the slice literal's block, then the append -/
theorem own_push (w : World) (B : Nat) (t ty e : TypeId) (z x : Value) (bytes : Nat) (ht : P.underlying t = some (.slice e)) (hinfo : (P.info? e).map (fun i => (i.zero, i.size, i.bytes)) = some (some z, 1, bytes)) (hz : z.cells.size = 1) (hx : x.oneCell' = true)
    (v : Value) (k : Nat) (xs : List Value) (hown : w.ownsRow B e 1 v k xs) (hB : B ≤ w.heap.size) (hk : k + 1 ≤ maxLen) (hby : (k + 1) * bytes ≤ 140737488355328) :
    ∃ v' w', (Builtin.append_ #[t, t] ty #[v, .slice (some ⟨w.heap.size, 0, none⟩) 1 1]).run P (w.alloc (.cells #[x] e)) = .ok v' w' ∧ w'.ownsRow B e 1 v' (k + 1) (xs ++ [x]) ∧ w.grownBy w' v.ownBlock ∧
      (v'.ownBlock = v.ownBlock ∨ ∃ q, v'.ownBlock = some q ∧ w.heap.size ≤ q) ∧ ∃ g c, v' = .slice (some ⟨g, 0, none⟩) (k + 1) c := by
  obtain ⟨i, hi, hz2, hs, hb⟩ := info_parts hinfo
  have hA : Below w.heap.size w (w.alloc (.cells #[x] e)) := (Below.refl _ _).alloc (Nat.le_refl _) _
  have hsz : (w.alloc (.cells #[x] e)).heap.size = w.heap.size + 1 := by simp
  have hnc : ∀ j u, [x][j]? = some u → (w.alloc (.cells #[x] e)).cell? ((⟨w.heap.size, 0, none⟩ : Addr).add j) = some u := by
    intro j u hj
    cases j with
    | succ j => simp at hj
    | zero =>
      simp at hj
      subst hj
      rw [add_plain]
      have e1 := heap_alloc_new w (.cells #[x] e)
      unfold World.cell?
      simp only [e1]
      rfl
  obtain ⟨v', w', hrun, ho, hg, _, hob⟩ := run_append_own_at (P := P) (w.alloc (.cells #[x] e)) B t ty e i z 1 bytes ht hi hz2 hs hb hz (by omega) v k xs (ownsRow_below hown hA) ⟨w.heap.size, 0, none⟩ 1 1 [x] rfl hnc (fun u hu => by simp at hu; subst hu; exact hx) hk hby (by omega)
  refine ⟨v', w', hrun, ho, ⟨hg.os, hg.tape, hg.output, by have := hg.size; omega, fun q hq hne => (hg.block q (by omega) hne).trans (hA.block q hq)⟩, ?_, ?_⟩
  · rcases hob with h | h
    · exact .inl h
    · exact .inr ⟨_, h, by omega⟩
  · rcases ho.2 with ⟨_, h0⟩ | ⟨g, cap, cur, hv, _⟩
    · omega
    · exact ⟨g, cap, hv⟩
end
end Go.Proofs.YtniaclhmfmkikaaGreatDoor.Ut
end
