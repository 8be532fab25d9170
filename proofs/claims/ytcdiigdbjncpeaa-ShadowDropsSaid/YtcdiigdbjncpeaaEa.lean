/- Rows of texts: a slice of strings that came in or was made. Serves all packages. -/
import Derived.Test.YtcdiigdbjncpeaaVt
import Derived.Lib.OthersKept
namespace Go.Proofs.Ytcdiigdbjncpeaa.Ut
open Go.RowKit

/-- bytes as a text -/
def tb (l : List UInt8) : ByteArray := ⟨l.toArray⟩
theorem tb_list (l : List UInt8) : (tb l).data.toList = l := rfl
theorem tb_of (s : ByteArray) : tb s.data.toList = s := rfl
theorem tb_size (l : List UInt8) : (tb l).size = l.length := by simp [tb, ByteArray.size]
theorem tb_part (s : ByteArray) (a b : Nat) : s.extract a b = tb ((s.data.toList.take b).drop a) := by
  rw [← tb_of s]
  unfold tb
  rw [ByteArray.extract_mk]
  congr 1
  rw [List.drop_take]
def encS (l : List UInt8) : Value := .string (tb l)
/-- the slice at a of n texts reads as ts, and lies below block B -/
def RowS (w : World) (B : Nat) (a : Option Addr) (n : Nat) (ts : List (List UInt8)) : Prop :=
  ts.length = n ∧ ∀ i, i < n → ∃ x, a = some x ∧ x.block < B ∧ w.cell? (x.add i) = some (encS (ts.getD i []))
theorem RowS.below {w w' : World} {B n : Nat} {a : Option Addr} {ts : List (List UInt8)} (h : RowS w B a n ts) (hb : Below B w w') : RowS w' B a n ts :=
  ⟨h.1, fun i hi => by
    obtain ⟨x, e, hx, hc⟩ := h.2 i hi
    exact ⟨x, e, hx, (hb.cell (p := x.add i) (by rw [block_of_add]; exact hx)).trans hc⟩⟩
theorem RowS.more {w : World} {B B' n : Nat} {a : Option Addr} {ts : List (List UInt8)} (h : RowS w B a n ts) (hB : B ≤ B') : RowS w B' a n ts :=
  ⟨h.1, fun i hi => by
    obtain ⟨x, e, hx, hc⟩ := h.2 i hi
    exact ⟨x, e, by omega, hc⟩⟩
theorem RowS.nil (w : World) (B : Nat) (a : Option Addr) : RowS w B a 0 [] := ⟨rfl, fun i hi => absurd hi (by omega)⟩
/-- what lies at place i -/
theorem RowS.at {w : World} {B n : Nat} {a : Option Addr} {ts : List (List UInt8)} (h : RowS w B a n ts) (i : Nat) (hi : i < n) : ∃ x, a = some x ∧ x.block < B ∧ w.cell? (x.add i) = some (.string (tb (ts.getD i []))) := h.2 i hi
/-- what is behind the first ones -/
theorem RowS.drop {w : World} {B n : Nat} {x : Addr} {ts : List (List UInt8)} (h : RowS w B (some x) n ts) (i : Nat) (hi : i ≤ n) : RowS w B (some (x.add i)) (n - i) (ts.drop i) := by
  refine ⟨by simp [h.1], fun j hj => ?_⟩
  obtain ⟨y, e, hx, hc⟩ := h.2 (i + j) (by omega)
  obtain rfl : x = y := by injection e
  refine ⟨_, rfl, by rw [block_of_add]; exact hx, ?_⟩
  rw [add_of_add, hc]
  simp [List.getD]

/-- what the call owns, as a list of texts -/
def OwnS (w : World) (B : Nat) (e : TypeId) (v : Value) (n : Nat) (ts : List (List UInt8)) : Prop := w.ownsRow B e 1 v n (ts.map encS)
section
variable {w w' : World} {B n : Nat} {e : TypeId} {v : Value} {ts : List (List UInt8)}
theorem OwnS.nil (w : World) (B : Nat) (e : TypeId) : OwnS w B e (.slice none 0 0) 0 [] := World.ownsRow_nil _ _ _ _
theorem OwnS.below (h : OwnS w B e v n ts) (hb : Below w.heap.size w w') : OwnS w' B e v n ts := ownsRow_below h hb
theorem OwnS.alloc (h : OwnS w B e v n ts) (o : Obj) : OwnS (w.alloc o) B e v n ts := World.ownsRow.alloc h o
theorem OwnS.len (h : OwnS w B e v n ts) : ts.length = n := by have := h.1; simpa using this
theorem OwnS.row (h : OwnS w B e v n ts) : ∃ a cap, v = .slice a n cap ∧ n ≤ cap ∧ cap ≤ maxLen ∧ RowS w w.heap.size a n ts := by
  have hl := h.len
  rcases h.2 with ⟨rfl, rfl⟩ | ⟨g, cap, cur, rfl, hb, hg, hnc, hm, hsz, hcur⟩
  · exact ⟨none, 0, rfl, by omega, by unfold maxLen; omega, hl, fun i hi => absurd hi (by omega)⟩
  · refine ⟨some ⟨g, 0, none⟩, cap, rfl, hnc, hm, hl, fun i hi => ⟨_, rfl, (Array.getElem?_eq_some_iff.1 hg).1, ?_⟩⟩
    rw [add_plain, World.ownsRow.cellAt h i (by omega)]
    simp [List.getD, show i < ts.length by omega]
end
theorem texts_oneCell (ts : List (List UInt8)) : ∀ u ∈ ts.map encS, u.oneCell' = true := fun u hu => by
  obtain ⟨l, _, rfl⟩ := List.mem_map.1 hu
  rfl
/-- a range's own block is none of a slice's -/
theorem own_ne_iter {w : World} {B n g : Nat} {e : TypeId} {k : Nat} {v : Value} {xs : List Value} {s : ByteArray} {pos : Nat} (h : w.ownsRow B e k v n xs) (hg : w.heap[g]? = some (.stringIter s pos)) : v.ownBlock ≠ some g := by
  rcases h.2 with ⟨rfl, _⟩ | ⟨g', cap, cur, rfl, _, hg', _⟩
  · simp [Value.ownBlock]
  · intro he
    simp [Value.ownBlock] at he
    subst he
    rw [hg] at hg'
    cases hg'
/-- what a range over a text hands over leaves a slice as it was -/
theorem ownsRow_iterAt {w : World} {B n : Nat} {e : TypeId} {k : Nat} {v : Value} {xs : List Value} {g : Nat} {s : ByteArray} {pos : Nat} (h : w.ownsRow B e k v n xs) (hg : w.heap[g]? = some (.stringIter s pos)) (p : Nat) : (w.iterAt g s p).ownsRow B e k v n xs := by
  refine ⟨h.1, ?_⟩
  rcases h.2 with h0 | ⟨g', cap, cur, rfl, hB, hg', r⟩
  · exact .inl h0
  · refine .inr ⟨g', cap, cur, rfl, hB, ?_, r⟩
    rw [Lib.iterAt_other]
    · exact hg'
    · rintro rfl
      rw [hg] at hg'; cases hg'
end Go.Proofs.Ytcdiigdbjncpeaa.Ut
