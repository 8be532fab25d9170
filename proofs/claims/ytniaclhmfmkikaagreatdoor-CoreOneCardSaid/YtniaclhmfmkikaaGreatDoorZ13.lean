/- Several texts in one: Mg Na -/
import Derived.Test.YtniaclhmfmkikaaGreatDoorZ12
import Derived.Test.YtniaclhmfmkikaaGreatDoorZ01
import Derived.Laws.BitsAllLaws
import Derived.Laws.ShiftsVarLaws
section
/- Package alu: the law's do, carried on from the world in which the walk began; awake. -/
namespace Go.Proofs.YtniaclhmfmkikaaGreatDoor.Al
open Go.RowKit Ut
set_option linter.unusedVariables false
set_option maxRecDepth 100000
set_option maxHeartbeats 4000000

/-- Do, carried on -/
theorem do_keep (i : Int) (a b r : Nat) (z : Int) (ha : a < 4294967296) (hb : b < 4294967296) (hr : reckN i a b = r) (hz : reckE i = z) {w0 w : World} (h : Below w0.heap.size w0 w) :
    Calls Tryz.prog 89 #[.int .i64 i, .int .u32 a, .int .u32 b] w fun e w' => e = .returned (.tuple #[.int .u32 r, .int .i64 z]) ∧ Below w0.heap.size w0 w' := by
  subst hr hz
  exact (do_any i a b ha hb w).mono fun _ _ ⟨he, hb⟩ => ⟨he, h.trans (hb.mono h.size)⟩
theorem taken_keep (i : Int) (a b : Nat) (r : Bool) (z : Int) (ha : a < 4294967296) (hb : b < 4294967296) (hr : takeN i a b = r) (hz : takeE i = z) {w0 w : World} (h : Below w0.heap.size w0 w) :
    Calls Tryz.prog 95 #[.int .i64 i, .int .u32 a, .int .u32 b] w fun e w' => e = .returned (.tuple #[.bool r, .int .i64 z]) ∧ Below w0.heap.size w0 w' := by
  subst hr hz
  exact (taken_any i a b ha hb w).mono fun _ _ ⟨he, hb⟩ => ⟨he, h.trans (hb.mono h.size)⟩
theorem sar_told : reckN 8 2147483648 33 = 3221225472 := by decide +kernel
end Go.Proofs.YtniaclhmfmkikaaGreatDoor.Al
end
section
/- Package isa: what operations have (the table, as it lies in its variable), plainly; fits, numbers, Kernel, cut; the document's Has, reg, Kernel. -/
namespace Go.Proofs.YtniaclhmfmkikaaGreatDoor.Is
open Go.RowKit Ut
set_option linter.unusedVariables false
set_option maxRecDepth 100000
set_option maxHeartbeats 4000000

def hasL : List Nat := [0, 7, 7, 7, 7, 7, 7, 7, 7, 7, 7, 7, 7, 7, 11, 11, 11, 11, 19, 19, 19, 11, 9, 11, 11, 11, 14, 14, 14, 14, 14, 14, 9, 11, 0, 0, 0, 33, 34, 0, 0, 0]
def hasN (n : Nat) : Nat := hasL.getD n 0
/-- the table, as it lies in its variable -/
def HasT (w : World) : Prop := ∃ t fr, w.heap[0]? = some (.cells (hasL.map fun n : Nat => Value.int .u8 (n : Int)).toArray t fr)
theorem HasT.lt {w : World} (h : HasT w) : 0 < w.heap.size := by
  obtain ⟨t, fr, h⟩ := h
  exact (Array.getElem?_eq_some_iff.1 h).1
theorem HasT.below {w w' : World} {B : Nat} (h : HasT w) (hb : Below B w w') (hB : 0 < B) : HasT w' := by
  obtain ⟨t, fr, h⟩ := h
  exact ⟨t, fr, (hb.block _ hB).trans h⟩
theorem HasT.more {w w' : World} (h : HasT w) (hb : Below w.heap.size w w') : HasT w' := h.below hb h.lt
theorem HasT.at {w : World} (h : HasT w) (n : Nat) (hn : n < 42) : w.cell? ⟨0, n, none⟩ = some (.int .u8 (hasN n : Nat)) := by
  obtain ⟨t, fr, h⟩ := h
  have hl : hasL.length = 42 := rfl
  simp [World.cell?, h, hasN, List.getD, hl ▸ hn]
theorem has_le (n : Nat) : hasN n < 256 := by
  rcases Nat.lt_or_ge n 42 with h | h
  · have := (List.all_eq_true.1 (show (List.range 42).all (fun n => decide (hasN n < 256)) = true by decide +kernel)) n (List.mem_range.2 h)
    simpa using this
  · unfold hasN
    rw [List.getD_eq_getElem?_getD, List.getElem?_eq_none (by simpa [hasL] using h)]
    decide
/-- may r stand for the register k of operation n? -/
def fitB (n k : Nat) (r : Int) : Bool := if hasN n &&& k = 0 then r == 0 else decide (0 ≤ r) && decide (r < 16)
def loZ (n : Nat) : Int := if hasN n &&& 8 ≠ 0 then -8192 else 0
def hiZ (n : Nat) : Int := if hasN n &&& 8 ≠ 0 then 8191 else if hasN n &&& 16 ≠ 0 then 31 else if hasN n &&& 32 ≠ 0 then 8 else 0
/-- is the instruction right? -/
def validB (o d a b m : Int) : Bool := decide (1 ≤ o) && decide (o ≤ 41) && fitB o.toNat 1 d && fitB o.toNat 2 a && fitB o.toNat 4 b && decide (loZ o.toNat ≤ m) && decide (m ≤ hiZ o.toNat)
def kernB (o : Int) : Bool := o == 35 || o == 36 || o == 37 || o == 38 || o == 39 || o == 40

theorem fits_any (n k : Nat) (r : Int) (t : Bool) (hn : n < 42) (hk : k = 1 ∨ k = 2 ∨ k = 4) (ht : fitB n k r = t) (w : World) (hw : HasT w) :
    Calls Tryz.prog 55 #[.int .i64 n, .int .u8 k, .int .i64 r] w fun e w' => e = .returned (.bool t) ∧ w = w' := by
  subst ht
  have hc := hw.at n hn
  have hb := u8_and_nat (hasN n) k (has_le n) (by omega)
  generalize hz : hasN n = z at hc hb
  have hx : (n : Int) < 42 := by omega
  unfold fitB
  rw [hz]
  by_cases h0 : z &&& k = 0
  · rw [if_pos h0]
    have hb2 : (bits .and .u8 (z : Int) (k : Int) == 0) = true := by rw [hb, h0]; rfl
    clear h0 hz hw hb
    rcases hk with rfl | rfl | rfl
    all_goals first | change (bits .and .u8 (z : Int) 1 == 0) = true at hb2 | change (bits .and .u8 (z : Int) 2 == 0) = true at hb2 | change (bits .and .u8 (z : Int) 4 == 0) = true at hb2
    all_goals
      go_enter Tryz.func55, Tryz.ntmps55
      go_wp2
      go_ret
      exact ⟨rfl, rfl⟩
  · rw [if_neg h0]
    have hb2 : (bits .and .u8 (z : Int) (k : Int) == 0) = false := by rw [hb, beq_eq_false_iff_ne]; omega
    clear h0 hz hw hb
    rcases hk with rfl | rfl | rfl
    all_goals first | change (bits .and .u8 (z : Int) 1 == 0) = false at hb2 | change (bits .and .u8 (z : Int) 2 == 0) = false at hb2 | change (bits .and .u8 (z : Int) 4 == 0) = false at hb2
    all_goals
      by_cases h1 : 0 ≤ r
      all_goals
        go_enter Tryz.func55, Tryz.ntmps55
        go_wp2
        go_ret
        exact ⟨by first | (simp; omega) | (simp; done), rfl⟩
theorem numbers_any (n : Nat) (l h : Int) (hn : n < 42) (hl : loZ n = l) (hh : hiZ n = h) (w : World) (hw : HasT w) :
    Calls Tryz.prog 54 #[.int .i64 n] w fun e w' => e = .returned (.tuple #[.int .i64 l, .int .i64 h]) ∧ w = w' := by
  subst hl hh
  have hc := hw.at n hn
  have b8 := u8_and_nat (hasN n) 8 (has_le n) (by omega)
  have b16 := u8_and_nat (hasN n) 16 (has_le n) (by omega)
  have b32 := u8_and_nat (hasN n) 32 (has_le n) (by omega)
  unfold loZ hiZ
  generalize hz : hasN n = z at hc b8 b16 b32 ⊢
  have hx : (n : Int) < 42 := by omega
  clear hz hw
  by_cases h8 : z &&& 8 = 0
  · rw [if_neg (by simpa using h8), if_neg (by simpa using h8)]
    have c8 : (bits .and .u8 (z : Int) 8 == 0) = true := by rw [show (8 : Int) = ((8 : Nat) : Int) from rfl, b8, h8]; rfl
    clear b8 h8
    by_cases h16 : z &&& 16 = 0
    · rw [if_neg (by simpa using h16)]
      have c16 : (bits .and .u8 (z : Int) 16 == 0) = true := by rw [show (16 : Int) = ((16 : Nat) : Int) from rfl, b16, h16]; rfl
      clear b16 h16
      by_cases h32 : z &&& 32 = 0
      · rw [if_neg (by simpa using h32)]
        have c32 : (bits .and .u8 (z : Int) 32 == 0) = true := by rw [show (32 : Int) = ((32 : Nat) : Int) from rfl, b32, h32]; rfl
        clear b32 h32
        go_enter Tryz.func54, Tryz.ntmps54
        go_wp2
        go_ret2
        exact ⟨rfl, rfl⟩
      · rw [if_pos h32]
        have c32 : (bits .and .u8 (z : Int) 32 == 0) = false := by rw [show (32 : Int) = ((32 : Nat) : Int) from rfl, b32, beq_eq_false_iff_ne]; omega
        clear b32 h32
        go_enter Tryz.func54, Tryz.ntmps54
        go_wp2
        go_ret2
        exact ⟨rfl, rfl⟩
    · rw [if_pos h16]
      have c16 : (bits .and .u8 (z : Int) 16 == 0) = false := by rw [show (16 : Int) = ((16 : Nat) : Int) from rfl, b16, beq_eq_false_iff_ne]; omega
      clear b16 h16 b32
      go_enter Tryz.func54, Tryz.ntmps54
      go_wp2
      go_ret2
      exact ⟨rfl, rfl⟩
  · rw [if_pos h8, if_pos h8]
    have c8 : (bits .and .u8 (z : Int) 8 == 0) = false := by rw [show (8 : Int) = ((8 : Nat) : Int) from rfl, b8, beq_eq_false_iff_ne]; omega
    clear b8 h8 b16 b32
    go_enter Tryz.func54, Tryz.ntmps54
    go_wp2
    go_ret2
    exact ⟨rfl, rfl⟩
end Go.Proofs.YtniaclhmfmkikaaGreatDoor.Is
end
