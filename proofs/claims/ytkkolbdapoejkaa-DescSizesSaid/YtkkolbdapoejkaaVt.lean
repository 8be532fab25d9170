/- Small laws that the walks of several packages share: a slice that came in or was made, as a list of integers of any kind. -/
import Derived.Test.YtkkolbdapoejkaaUt
import Derived.Laws.OwnMore
import Derived.Deep.OwnRows
import Derived.Deep.Draws
import Derived.Laws.CopyOwn
import Derived.Laws.AppendOwnNone
import Derived.OwnWalk
namespace Go.Proofs.Ytkkolbdapoejkaa.Ut
open Go.RowKit

theorem block_of_add (a : Addr) (n : Nat) : (a.add n).block = a.block := by unfold Addr.add; split <;> rfl
theorem add_of_add (a : Addr) (i j : Nat) : (a.add i).add j = a.add (i + j) := by
  unfold Addr.add
  by_cases hi : i = 0 <;> by_cases hj : j = 0 <;> simp [hi, hj, Nat.add_assoc]
theorem add_plain (g i : Nat) : (⟨g, 0, none⟩ : Addr).add i = ⟨g, i, none⟩ := by unfold Addr.add; split <;> simp_all

/-- the slice at a of n elements of the integer kind k reads as zs, and lies below block B -/
def RowK (k : IntKind) (w : World) (B : Nat) (a : Option Addr) (n : Nat) (zs : List Int) : Prop :=
  zs.length = n ∧ ∀ i, i < n → ∃ x, a = some x ∧ x.block < B ∧ w.cell? (x.add i) = some (.int k (zs.getD i 0))

theorem RowK.below {k : IntKind} {w w' : World} {B n : Nat} {a : Option Addr} {zs : List Int} (h : RowK k w B a n zs) (hb : Below B w w') : RowK k w' B a n zs :=
  ⟨h.1, fun i hi => by
    obtain ⟨x, e, hx, hc⟩ := h.2 i hi
    exact ⟨x, e, hx, (hb.cell (p := x.add i) (by rw [block_of_add]; exact hx)).trans hc⟩⟩
theorem RowK.more {k : IntKind} {w : World} {B B' n : Nat} {a : Option Addr} {zs : List Int} (h : RowK k w B a n zs) (hB : B ≤ B') : RowK k w B' a n zs :=
  ⟨h.1, fun i hi => by
    obtain ⟨x, e, hx, hc⟩ := h.2 i hi
    exact ⟨x, e, by omega, hc⟩⟩
theorem RowK.drewN {k : IntKind} {w : World} {B n : Nat} {a : Option Addr} {zs : List Int} (h : RowK k w B a n zs) (d : Nat) : RowK k (w.drewN d) B a n zs := h
theorem RowK.nil (k : IntKind) (w : World) (B : Nat) (a : Option Addr) : RowK k w B a 0 [] := ⟨rfl, fun i hi => absurd hi (by omega)⟩

/-- a part of a row -/
theorem RowK.part {k : IntKind} {w : World} {B n : Nat} {x : Addr} {zs : List Int} (h : RowK k w B (some x) n zs) (i m : Nat) (him : i + m ≤ n) :
    RowK k w B (some (x.add i)) m ((zs.drop i).take m) := by
  refine ⟨by simp [h.1]; omega, fun j hj => ?_⟩
  obtain ⟨y, e, hx, hc⟩ := h.2 (i + j) (by omega)
  obtain rfl : x = y := by injection e
  refine ⟨_, rfl, by rw [block_of_add]; exact hx, ?_⟩
  rw [add_of_add, hc]
  simp [List.getD, hj]

/-- what the call owns, as a row -/
theorem RowK.of_own {k : IntKind} {w : World} {B e n : Nat} {v : Value} {xs : List Int} (h : w.ownsRow B e 1 v n (xs.map (Value.int k))) :
    ∃ a cap, v = .slice a n cap ∧ n ≤ cap ∧ cap ≤ maxLen ∧ RowK k w w.heap.size a n xs := by
  have hl : xs.length = n := by have := h.1; simpa using this
  rcases h.2 with ⟨rfl, rfl⟩ | ⟨g, cap, cur, rfl, hb, hg, hnc, hm, hsz, hcur⟩
  · exact ⟨none, 0, rfl, by omega, by unfold maxLen; omega, hl, fun i hi => absurd hi (by omega)⟩
  · refine ⟨some ⟨g, 0, none⟩, cap, rfl, hnc, hm, hl, fun i hi => ⟨_, rfl, (Array.getElem?_eq_some_iff.1 hg).1, ?_⟩⟩
    rw [add_plain, World.ownsRow.cellAt h i (by omega)]
    simp [List.getD, show i < xs.length by omega]

theorem RowK.of_is {k : IntKind} {w : World} {g n : Nat} {t : TypeId} {f : Nat → Value} (h : w.rowIs g t n f) (xs : List Int) (hl : xs.length = n) (hf : ∀ i, i < n → f i = .int k (xs.getD i 0)) :
    RowK k w w.heap.size (some ⟨g, 0, none⟩) n xs :=
  ⟨hl, fun i hi => ⟨_, rfl, h.lt, by rw [add_plain, h.cell hi, hf i hi]⟩⟩

/-- the cells of a row, as 'copy' and 'append' ask for them -/
theorem RowK.cells {k : IntKind} {w : World} {B n : Nat} {a : Option Addr} {zs : List Int} (h : RowK k w B a n zs) (hp : 0 < (zs.map (Value.int k)).length) :
    ∃ ad, a = some ad ∧ ad.block < B ∧ ∀ j v, (zs.map (Value.int k))[j]? = some v → w.cell? (ad.add j) = some v := by
  rw [List.length_map, h.1] at hp
  obtain ⟨x, rfl, hb, _⟩ := h.2 0 hp
  refine ⟨x, rfl, hb, fun j v hj => ?_⟩
  have hjl : j < zs.length := by
    rcases Nat.lt_or_ge j zs.length with h | h
    · exact h
    · simp [List.getElem?_eq_none (show (zs.map (Value.int k)).length ≤ j by simpa using h)] at hj
  obtain ⟨y, e, _, hc⟩ := h.2 j (by rw [← h.1]; exact hjl)
  obtain rfl : x = y := by injection e
  rw [hc]
  simp [List.getElem?_eq_getElem hjl] at hj
  subst hj
  simp [List.getD, List.getElem?_eq_getElem hjl]

/-- what make lays, as a list -/
theorem made_heap (w : World) (z : Value) (n : Nat) (t : TypeId) : (w.alloc (.cells (madeCells #[z] n) t)).heap[w.heap.size]? = some (.cells (List.replicate n z).toArray t (0, 0)) := by
  rw [heap_alloc_new, ← toList_madeCells_one z n]

/-- a block that is a list of numbers, as a row -/
theorem is_of_list {w : World} {g : Nat} {t : TypeId} {k : IntKind} {xs : List Int} (h : w.heap[g]? = some (.cells (xs.map (Value.int k)).toArray t (0, 0))) :
    w.rowIs g t xs.length (fun i => .int k (xs.getD i 0)) :=
  ⟨_, h, by simp, fun i hi => by simp [List.getD, hi]⟩

/-- copy(d, s): s a row no longer than d, d the head of a block that the call made -/
theorem wpList_copy_head {P : Program} {w : World} {ops : Array Oper} {rest : List Oper} {o : Oper} {a : Act} {Q : Exit → Act → World → Prop} (hgd : o.guard = none) (d s : Operand) (dT sT : TypeId)
    (ho : o.op = .call { callee := .builtin .copy, args := #[d, s], argTypes := #[dT, sT] }) (elem : TypeId) (hu : P.underlying dT = some (.slice elem)) (hsz : (P.info? elem).map (·.size) = some 1)
    (g n dcap m cap B : Nat) (k : IntKind) (sa : Option Addr) (zs : List Int) (hd : a.eval d = .slice (some ⟨g, 0, none⟩) n dcap) (hs : a.eval s = .slice sa m cap)
    (cur : List Value) (t : TypeId) (hg : w.heap[g]? = some (.cells cur.toArray t (0, 0))) (hrow : RowK k w B sa m zs) (hm : m ≤ n) (hn : n ≤ cur.length) (b : Nat) (w0 : World) (hb : Below b w0 w) (hB : b ≤ g)
    (h : ∀ w', Hid (w'.heap[g]? = some (.cells (zs.map (Value.int k) ++ cur.drop m).toArray t (0, 0))) → Below b w0 w' → wpList P ops Q rest (a.put o.dst (goInt m)) w') :
    wpList P ops Q (o :: rest) a w := by
  have hl : (zs.map (Value.int k)).length = m := by rw [List.length_map, hrow.1]
  have e : splice cur 0 (zs.map (Value.int k)) = zs.map (Value.int k) ++ cur.drop m := by simp only [splice, List.take_zero, List.nil_append, Nat.zero_add, hl]
  refine wpList_copy_splice hgd d s dT sT ho elem hu hsz (some ⟨g, 0, none⟩) sa n dcap m cap hd hs g 0 cur t hg (zs.map (Value.int k)) (by rw [hl]; exact (Nat.min_eq_left hm).symm)
    (fun hp => ⟨rfl, ?_⟩) (by omega) (ints_oneCell _ _) b w0 hb hB ?_
  · obtain ⟨ad, e, _, hc⟩ := hrow.cells hp
    exact ⟨ad, e, hc⟩
  · rw [hl, e]
    exact h

/-- what the call owns, as a list of numbers of one kind -/
def OwnI (k : IntKind) (w : World) (B : Nat) (e : TypeId) (v : Value) (n : Nat) (xs : List Int) : Prop := w.ownsRow B e 1 v n (xs.map (Value.int k))

section
variable {k : IntKind} {w w' : World} {B n : Nat} {e : TypeId} {v : Value} {xs : List Int}
theorem OwnI.nil (k : IntKind) (w : World) (B : Nat) (e : TypeId) : OwnI k w B e (.slice none 0 0) 0 [] := World.ownsRow_nil _ _ _ _
theorem OwnI.below (h : OwnI k w B e v n xs) (hb : Below w.heap.size w w') : OwnI k w' B e v n xs := ownsRow_below h hb
theorem OwnI.alloc (h : OwnI k w B e v n xs) (o : Obj) : OwnI k (w.alloc o) B e v n xs := World.ownsRow.alloc h o
theorem OwnI.drewN (h : OwnI k w B e v n xs) (d : Nat) : OwnI k (w.drewN d) B e v n xs := h
theorem OwnI.len (h : OwnI k w B e v n xs) : xs.length = n := by have := h.1; simpa using this
theorem OwnI.row (h : OwnI k w B e v n xs) : ∃ a cap, v = .slice a n cap ∧ n ≤ cap ∧ cap ≤ maxLen ∧ RowK k w w.heap.size a n xs := RowK.of_own h
theorem OwnI.made (k : IntKind) (w : World) (B : Nat) (e : TypeId) (hB : B ≤ w.heap.size) : OwnI k (w.alloc (.cells #[] e)) B e (.slice (some ⟨w.heap.size, 0, none⟩) 0 0) 0 [] :=
  World.ownsRow_made w #[] 0 hB (by unfold maxLen; omega) rfl
end

theorem OwnI.store {k : IntKind} {w : World} {B n g cap : Nat} {e : TypeId} {xs : List Int} (h : OwnI k w B e (.slice (some ⟨g, 0, none⟩) n cap) n xs) (j : Nat) (u : Int) :
    OwnI k (w.setCell ⟨g, j, none⟩ (.int k u)) B e (.slice (some ⟨g, 0, none⟩) n cap) n (xs.set j u) := by
  unfold OwnI
  rw [List.map_set]
  exact (World.ownsRow.stored h j (.int k u)).1
theorem OwnI.cellAt {k : IntKind} {w : World} {B n g cap : Nat} {e : TypeId} {xs : List Int} (h : OwnI k w B e (.slice (some ⟨g, 0, none⟩) n cap) n xs) (j : Nat) (hj : j < n) : w.cell? ⟨g, j, none⟩ = some (.int k (xs.getD j 0)) := by
  rw [World.ownsRow.cellAt h j (by omega)]
  simp [List.getD, show j < xs.length by rw [h.len]; exact hj]
theorem OwnI.frozenAt {k : IntKind} {w : World} {B n g cap : Nat} {e : TypeId} {xs : List Int} (h : OwnI k w B e (.slice (some ⟨g, 0, none⟩) n cap) n xs) (j : Nat) : w.frozen? ⟨g, j, none⟩ = false := World.ownsRow.frozenAt h j
/-- what is owned and is not nothing lies in a block -/
theorem OwnI.form {k : IntKind} {w : World} {B n : Nat} {e : TypeId} {v : Value} {xs : List Int} (h : OwnI k w B e v n xs) (hn : 0 < n) : ∃ g cap, v = .slice (some ⟨g, 0, none⟩) n cap ∧ B ≤ g ∧ g < w.heap.size ∧ n ≤ cap ∧ cap ≤ maxLen := by
  rcases h.2 with ⟨_, h0⟩ | ⟨g, cap, cur, hv, hb, hg, hnc, hm, _⟩
  · omega
  · exact ⟨g, cap, hv, hb, (Array.getElem?_eq_some_iff.1 hg).1, hnc, hm⟩

/-- one new cell, as a row -/
theorem RowK.new1 (k : IntKind) (w : World) (x : Int) (t : TypeId) : RowK k (w.alloc (.cells #[.int k x] t)) (w.heap.size + 1) (some ⟨w.heap.size, 0, none⟩) 1 [x] :=
  ⟨rfl, fun i hi => ⟨_, rfl, Nat.lt_succ_self _, by
    obtain rfl : i = 0 := by omega
    simp [Addr.add]⟩⟩

/-- append(s, x...): s the call's own, x any row: nil, empty or not -/
theorem run_append_ints {P : Program} (w : World) (k : IntKind) (base : Nat) (t ty e : TypeId) (bytes : Nat) (ht : P.underlying t = some (.slice e)) (hinfo : (P.info? e).map (fun i => (i.zero, i.size, i.bytes)) = some (some (.int k 0), 1, bytes))
    (v : Value) (n : Nat) (xs : List Int) (hown : OwnI k w base e v n xs) (B : Nat) (a : Option Addr) (m c : Nat) (zs : List Int) (hr : RowK k w B a m zs)
    (h63 : n + m ≤ maxLen) (hbytes : (n + m) * bytes ≤ 140737488355328) (hbase : base ≤ w.heap.size) :
    ∃ v' w', (Builtin.append_ #[t, t] ty #[v, .slice a m c]).run P w = .ok v' w' ∧ OwnI k w' base e v' (n + m) (xs ++ zs) ∧ w.grownBy w' v.ownBlock ∧ (v'.ownBlock = v.ownBlock ∨ v'.ownBlock = some w.heap.size) := by
  obtain ⟨i, hi, hz, hs, hb⟩ := info_parts hinfo
  have hl : (zs.map (Value.int k)).length = m * 1 := by rw [List.length_map, hr.1, Nat.mul_one]
  by_cases h0 : m = 0
  · subst h0
    have hn : zs = [] := List.length_eq_zero_iff.1 hr.1
    subst hn
    have hl0 : ∀ ad : Addr, (loadCells ad 0).run P w = .ok #[] w := fun ad => run_loadCells_list (P := P) w ad [] (by simp)
    refine ⟨v, w, ?_, by simpa using hown, World.grownBy.refl w _, .inl rfl⟩
    rcases hown.2 with ⟨rfl, rfl⟩ | ⟨g, cap, cur, rfl, _, _, hnc, _⟩
    · cases a <;> simp [Builtin.append_, run_underlying ht, sizeOf, typeInfo, hi, Builtin.lenOf, Builtin.firstCells, hl0]
    · cases a <;> simp [Builtin.append_, run_underlying ht, sizeOf, typeInfo, hi, Builtin.lenOf, Builtin.firstCells, hnc, storeCells, hl0]
  · obtain ⟨ad, rfl, _, hc⟩ := hr.cells (by rw [List.length_map, hr.1]; omega)
    obtain ⟨v', w', hrun, h2, h3, _, h5⟩ := run_append_own_at (P := P) w base t ty e i (.int k 0) 1 bytes ht hi hz hs hb rfl (by omega) v n _ hown ad m c _ hl hc (ints_oneCell _ _) h63 hbytes hbase
    exact ⟨v', w', hrun, by unfold OwnI; rw [List.map_append]; exact h2, h3, h5⟩

theorem wp_append_ints {P : Program} {o : Oper} {a : Act} {w : World} {K : Act → World → Prop} {Q : Exit → Act → World → Prop} (s x : Operand) (t : TypeId)
    (ho : o.op = .call { callee := .builtin .append, args := #[s, x], argTypes := #[t, t] })
    (k : IntKind) (base : Nat) (e : TypeId) (bytes : Nat) (ht : P.underlying t = some (.slice e)) (hinfo : (P.info? e).map (fun i => (i.zero, i.size, i.bytes)) = some (some (.int k 0), 1, bytes))
    (v : Value) (n : Nat) (xs : List Int) (hs : a.eval s = v) (hown : OwnI k w base e v n xs) (B : Nat) (sa : Option Addr) (m c : Nat) (zs : List Int) (hx : a.eval x = .slice sa m c) (hr : RowK k w B sa m zs)
    (h63 : n + m ≤ maxLen) (hbytes : (n + m) * bytes ≤ 140737488355328) (hbase : base ≤ w.heap.size)
    (h : ∀ v' w', Hid (OwnI k w' base e v' (n + m) (xs ++ zs)) → Below base w w' → Hid (w.grownBy w' v.ownBlock ∧ (v'.ownBlock = v.ownBlock ∨ v'.ownBlock = some w.heap.size)) → K (a.put o.dst v') w') : o.wp P a w K Q := by
  obtain ⟨v', w', hrun, h2, h3, h4⟩ := run_append_ints (P := P) w k base t o.type e bytes ht hinfo v n xs hown B sa m c zs hr h63 hbytes hbase
  unfold Oper.wp execOp
  simp only [ho, resolve, invoke, builtin, Sem.run_bind, Sem.run_pure, Result.andThen_ok, List.map_toArray, List.map_cons, List.map_nil, hs, hx, hrun]
  exact h v' w' h2 ((Below.refl _ _).grown h3 hbase fun q hq => (World.ownsRow.lt hown q hq).1) ⟨h3, h4⟩

theorem wpList_append_ints {P : Program} {w : World} {ops : Array Oper} {rest : List Oper} {o : Oper} {a : Act} {Q : Exit → Act → World → Prop} (hgd : o.guard = none) (s x : Operand) (t : TypeId)
    (ho : o.op = .call { callee := .builtin .append, args := #[s, x], argTypes := #[t, t] })
    (k : IntKind) (base : Nat) (e : TypeId) (bytes : Nat) (ht : P.underlying t = some (.slice e)) (hinfo : (P.info? e).map (fun i => (i.zero, i.size, i.bytes)) = some (some (.int k 0), 1, bytes))
    (v : Value) (n : Nat) (xs : List Int) (hs : a.eval s = v) (hown : OwnI k w base e v n xs) (B : Nat) (sa : Option Addr) (m c : Nat) (zs : List Int) (hx : a.eval x = .slice sa m c) (hr : RowK k w B sa m zs)
    (h63 : n + m ≤ maxLen) (hbytes : (n + m) * bytes ≤ 140737488355328) (hbase : base ≤ w.heap.size)
    (h : ∀ v' w', Hid (OwnI k w' base e v' (n + m) (xs ++ zs)) → Below base w w' → Hid (w.grownBy w' v.ownBlock ∧ (v'.ownBlock = v.ownBlock ∨ v'.ownBlock = some w.heap.size)) → wpList P ops Q rest (a.put o.dst v') w') : wpList P ops Q (o :: rest) a w :=
  wpList_plain hgd fun _ hK => wp_append_ints s x t ho k base e bytes ht hinfo v n xs hs hown B sa m c zs hx hr h63 hbytes hbase fun v' w' h2 h3 h4 => hK _ _ (h v' w' h2 h3 h4)

theorem step_append_ints {P : Program} {w : World} {ops : Array Oper} {o : Oper} {a : Act} {K : Act → World → Prop} {Q : Exit → Act → World → Prop} {E : Prop} (hgd : o.guard = none) (s x : Operand) (t : TypeId)
    (ho : o.op = .call { callee := .builtin .append, args := #[s, x], argTypes := #[t, t] })
    (k : IntKind) (base : Nat) (e : TypeId) (bytes : Nat) (ht : P.underlying t = some (.slice e)) (hinfo : (P.info? e).map (fun i => (i.zero, i.size, i.bytes)) = some (some (.int k 0), 1, bytes))
    (v : Value) (n : Nat) (xs : List Int) (hs : a.eval s = v) (hown : OwnI k w base e v n xs) (B : Nat) (sa : Option Addr) (m c : Nat) (zs : List Int) (hx : a.eval x = .slice sa m c) (hr : RowK k w B sa m zs)
    (h63 : n + m ≤ maxLen) (hbytes : (n + m) * bytes ≤ 140737488355328) (hbase : base ≤ w.heap.size)
    (h : ∀ v' w', Hid (OwnI k w' base e v' (n + m) (xs ++ zs)) → Below base w w' → Hid (w.grownBy w' v.ownBlock ∧ (v'.ownBlock = v.ownBlock ∨ v'.ownBlock = some w.heap.size)) → K (a.put o.dst v') w') :
    if Region.wanted o (yielded ops a.tmps) = true then Oper.wp P o a w K Q else E := by
  have hw : Region.wanted o (yielded ops a.tmps) = true := by simp [Region.wanted, hgd]
  rw [if_pos hw]
  exact wp_append_ints s x t ho k base e bytes ht hinfo v n xs hs hown B sa m c zs hx hr h63 hbytes hbase h

/-- string(b) of any row of bytes -/
theorem run_convert_row {P : Program} {w : World} {B src e dst n cap : Nat} {a : Option Addr} {xs : List Int} (hs : P.underlying src = some (.slice e)) (he : P.underlying e = some (.int .u8)) (hd : P.underlying dst = some .string)
    (h : RowK .u8 w B a n xs) : (convert src dst (.slice a n cap)).run P w = .ok (.string (strOfNums xs)) w := by
  rw [run_convert_bytes_string w src dst e a n cap hs he hd]
  cases a with
  | none =>
    have hn : n = 0 := by
      rcases Nat.eq_zero_or_pos n with h0 | h0
      · exact h0
      · obtain ⟨x, e, _⟩ := h.2 0 h0; cases e
    subst hn
    obtain rfl : xs = [] := List.length_eq_zero_iff.1 h.1
    simp [Conv.bytesToString]; rfl
  | some x =>
    have hl : (loadCells x n).run P w = .ok (xs.map (Value.int .u8)).toArray w := by
      have := run_loadCells_list (P := P) w x (xs.map (Value.int .u8)) (fun j v hj => by
        have hjl : j < xs.length := by
          rcases Nat.lt_or_ge j xs.length with h | h
          · exact h
          · simp [List.getElem?_eq_none (show (xs.map (Value.int .u8)).length ≤ j by simpa using h)] at hj
        obtain ⟨y, e, _, hc⟩ := h.2 j (by have := h.1; omega)
        obtain rfl : x = y := by injection e
        rw [hc]
        simp [List.getElem?_eq_getElem hjl] at hj
        subst hj
        simp [List.getD, List.getElem?_eq_getElem hjl])
      simpa [h.1] using this
    rw [run_bytesToString w _ n cap xs hl, foldl_push_bytes]
    simp [strOfNums, ByteArray.empty, ByteArray.emptyWithCapacity]
    rfl

/-- a slice of numbers that came in, as a row of its elements -/
theorem RowK.of_arg {k : IntKind} {w : World} {a : Option Addr} {len cap : Nat} {zs : List Int} (h : (a = none ∧ len = 0 ∧ cap = 0 ∧ zs = []) ∨
    ∃ x, a = some x ∧ len ≤ cap ∧ cap ≤ maxLen ∧ zs.length = cap ∧ (∀ i, i < zs.length → w.cell? (x.add i) = some (.int k (zs.getD i 0))) ∧ ∀ n ∈ zs, (Lit.int k n).wf = true) :
    RowK k w w.heap.size a len (zs.take len) ∧ len ≤ cap ∧ ∀ z ∈ zs.take len, (Lit.int k z).wf = true := by
  rcases h with ⟨rfl, rfl, rfl, rfl⟩ | ⟨x, rfl, hl, _, hz, hc, hw⟩
  · exact ⟨RowK.nil _ _ _ _, Nat.le_refl _, fun z hz => by cases hz⟩
  · refine ⟨⟨by simp; omega, fun i hi => ⟨x, rfl, ?_, ?_⟩⟩, hl, fun z hz => hw z (List.mem_of_mem_take hz)⟩
    · have hb := World.block_lt_of_cell? w _ (hc i (by omega))
      rwa [block_of_add] at hb
    · rw [hc i (by omega)]
      simp [List.getD, hi]

theorem wf_u8 {z : Int} (h : (Lit.int .u8 z).wf = true) : 0 ≤ z ∧ z < 256 := by
  simp [Lit.wf, IntKind.min, IntKind.max, IntKind.bits, IntKind.signed] at h; omega
theorem wf_u32 {z : Int} (h : (Lit.int .u32 z).wf = true) : 0 ≤ z ∧ z < 4294967296 := by
  simp [Lit.wf, IntKind.min, IntKind.max, IntKind.bits, IntKind.signed] at h; omega
theorem wf_i64 {z : Int} (h : (Lit.int .i64 z).wf = true) : -9223372036854775808 ≤ z ∧ z < 9223372036854775808 := by
  simp [Lit.wf, IntKind.min, IntKind.max, IntKind.bits, IntKind.signed] at h; omega
end Go.Proofs.Ytkkolbdapoejkaa.Ut
