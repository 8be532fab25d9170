/- Package desc: what the chapter says, the document's side, and what the program is to keep (DescC). -/
import Derived.Test.YtkkolbdapoejkaaOf
import Derived.Test.YtkkolbdapoejkaaTa
import Derived.Great.Walk
namespace Go.Proofs.Ytkkolbdapoejkaa.De
open Go.RowKit Ut Oc
set_option linter.unusedVariables false
set_option maxRecDepth 100000
set_option maxHeartbeats 4000000

/-- a word -/
def R32 (z : Int) : Prop := 0 ≤ z ∧ z < 4294967296
/-- a descriptor; where a queue lies -/
abbrev dV (a l f n : Int) : Value := .agg #[.int .u32 a, .int .u32 l, .int .u32 f, .int .u32 n]
abbrev rV (d a u n : Int) : Value := .agg #[.int .u32 d, .int .u32 a, .int .u32 u, .int .i64 n]
/-- what is wrong with one; how many a queue may have; a part's bytes; where a queue may lie -/
def ckF (l f n k : Int) : Int := if 3 < f then 3 else if 64 < l then 4 else if f % 2 = 1 ∧ k ≤ n then 1 else 0
def szB (n : Int) : Bool := n == 2 || n == 4 || n == 8
def szF (p n : Int) : Int := if szB n = true then (if p = 0 then 16 * n else if p = 1 then 4 + 4 * n else if p = 2 then 4 + 8 * n else 0) else 0
def rtB (d a u n : Int) : Bool := szB n && (d % 4 == 0 && (a % 4 == 0 && u % 4 == 0))
/-- the descriptor of these bytes -/
def gtV (zs : List Int) : Value := if zs.length = 16 then dV ((wordsZ zs).getD 0 0) ((wordsZ zs).getD 1 0) ((wordsZ zs).getD 2 0) ((wordsZ zs).getD 3 0) else dV 0 0 0 0
def gtC (zs : List Int) : Int := if zs.length = 16 then 0 else 6
/-- a slice of bytes that lie below the world's end -/
def Byt (w : World) (v : Value) (zs : List Int) : Prop := ∃ (a : Option Addr) (c : Nat), v = .slice a zs.length c ∧ zs.length ≤ c ∧ c ≤ 9223372036854775807 ∧ RowK .u8 w w.heap.size a zs.length zs
theorem Byt.more {w W : World} {v : Value} {zs : List Int} (h : Byt w v zs) (hb : Below w.heap.size w W) : Byt W v zs := by
  obtain ⟨a, c, h1, h2, h3, h4⟩ := h
  exact ⟨a, c, h1, h2, h3, (h4.below hb).more hb.size⟩

/-- what the program is to keep -/
structure DescC : Prop where
  get : ∀ (a : Option Addr) (n cap : Nat) (zs : List Int) (w : World), n ≤ cap → n ≤ 140737488355328 → cap ≤ 9223372036854775807 → RowK .u8 w w.heap.size a n zs → AreBytes zs → Calls Try.prog 7 #[.slice a n cap] w fun e w' => e = .returned (.tuple #[gtV zs, .int .i64 (gtC zs)]) ∧ Below w.heap.size w w'
  put : ∀ (a l f n : Int) (w : World), R32 a → R32 l → R32 f → R32 n → Calls Try.prog 9 #[dV a l f n] w fun e w' => (∃ v, e = .returned v ∧ Hid (Byt w' v (bytesZ [a, l, f, n]))) ∧ Below w.heap.size w w'
  check : ∀ (a l f n k : Int) (w : World), R32 l → R32 f → R32 n → Calls Try.prog 11 #[dV a l f n, .int .i64 k] w fun e w' => e = .returned (.int .i64 (ckF l f n k)) ∧ Below w.heap.size w w'
  sized : ∀ (n : Int) (w : World), Calls Try.prog 13 #[.int .i64 n] w fun e w' => e = .returned (.bool (szB n)) ∧ Below w.heap.size w w'
  size : ∀ (p n : Int) (w : World), Calls Try.prog 15 #[.int .i64 p, .int .i64 n] w fun e w' => e = .returned (.int .i64 (szF p n)) ∧ Below w.heap.size w w'
  right : ∀ (d a u n : Int) (w : World), R32 d → R32 a → R32 u → Calls Try.prog 17 #[rV d a u n] w fun e w' => e = .returned (.bool (rtB d a u n)) ∧ Below w.heap.size w w'

theorem szB_cases (n : Int) : (n = 2 ∧ szB n = true) ∨ (n = 4 ∧ szB n = true) ∨ (n = 8 ∧ szB n = true) ∨ (¬ n = 2 ∧ ¬ n = 4 ∧ ¬ n = 8 ∧ szB n = false) := by
  unfold szB
  by_cases h2 : n = 2
  · exact .inl ⟨h2, by subst h2; rfl⟩
  by_cases h4 : n = 4
  · exact .inr (.inl ⟨h4, by subst h4; rfl⟩)
  by_cases h8 : n = 8
  · exact .inr (.inr (.inl ⟨h8, by subst h8; rfl⟩))
  exact .inr (.inr (.inr ⟨h2, h4, h8, by simp [h2, h4, h8]⟩))
theorem d_below (a l f n : Int) (w : World) : Below w.heap.size w (w.alloc (.cells #[.int .u32 a, .int .u32 l, .int .u32 f, .int .u32 n] 24)) := (Below.refl _ _).alloc (Nat.le_refl _) _
theorem r_below (d a u n : Int) (w : World) : Below w.heap.size w (w.alloc (.cells #[.int .u32 d, .int .u32 a, .int .u32 u, .int .i64 n] 27)) := (Below.refl _ _).alloc (Nat.le_refl _) _

theorem refSized_any (n : Int) (w : World) : Calls Try.prog 14 #[.int .i64 n] w fun e w' => e = .returned (.bool (szB n)) ∧ Below w.heap.size w w' := by
  rcases szB_cases n with ⟨rfl, h⟩ | ⟨rfl, h⟩ | ⟨rfl, h⟩ | ⟨h2, h4, h8, h⟩
  all_goals
    rw [h]
    clear h
    go_enter Try.func14, Try.ntmps14
    go_wp2
    go_ret
    first
    | exact ⟨rfl, Below.refl _ _⟩
    | exact ⟨congrArg (fun b => Ending.returned (.bool b)) (by simp [h2, h4, h8]), Below.refl _ _⟩
theorem refSize_any (p n : Int) (w : World) : Calls Try.prog 16 #[.int .i64 p, .int .i64 n] w fun e w' => e = .returned (.int .i64 (szF p n)) ∧ Below w.heap.size w w' := by
  have HS := Lib.hid (refSized_any n w)
  unfold szF
  rcases szB_cases n with ⟨rfl, h⟩ | ⟨rfl, h⟩ | ⟨rfl, h⟩ | ⟨h2, h4, h8, h⟩
  all_goals
    rw [h] at HS ⊢
    by_cases p0 : p = 0 <;> by_cases p1 : p = 1 <;> by_cases p2 : p = 2 <;> try subst p0 <;> try subst p1 <;> try subst p2
  all_goals
    first
    | (exfalso; omega)
    | skip
  all_goals
    try simp only [p0, p1, p2, if_true, if_false, Bool.false_eq_true]
    clear h
    go_enter Try.func16, Try.ntmps16
    go_wp2_with fail
    refine HS.out.mono ?_
    rintro e w1 ⟨rfl, hb⟩
    have HB := Lib.hid hb
    clear hb
    go_wp2
    go_ret
    exact ⟨rfl, HB.out⟩
theorem refCheck_any (a l f n k : Int) (w : World) (hl : R32 l) (hf : R32 f) (hn : R32 n) : Calls Try.prog 12 #[dV a l f n, .int .i64 k] w fun e w' => e = .returned (.int .i64 (ckF l f n k)) ∧ Below w.heap.size w w' := by
  have HB := Lib.hid (d_below a l f n w)
  obtain ⟨l0, l1⟩ := hl
  obtain ⟨f0, f1⟩ := hf
  obtain ⟨n0, n1⟩ := hn
  unfold ckF
  by_cases c1 : 3 < f
  · rw [if_pos c1]
    go_enter Try.func12, Try.ntmps12
    go_wp2
    go_ret
    exact ⟨rfl, HB.out⟩
  rw [if_neg c1]
  by_cases c2 : 64 < l
  · rw [if_pos c2]
    go_enter Try.func12, Try.ntmps12
    go_wp2
    go_ret
    exact ⟨rfl, HB.out⟩
  rw [if_neg c2]
  by_cases c3 : f % 2 = 1
  · by_cases c4 : k ≤ n
    · rw [if_pos ⟨c3, c4⟩]
      go_enter Try.func12, Try.ntmps12
      go_wp2
      go_ret
      exact ⟨rfl, HB.out⟩
    · rw [if_neg (fun h => c4 h.2)]
      go_enter Try.func12, Try.ntmps12
      go_wp2
      go_ret
      exact ⟨rfl, HB.out⟩
  · rw [if_neg (fun h => c3 h.1)]
    go_enter Try.func12, Try.ntmps12
    go_wp2
    go_ret
    exact ⟨rfl, HB.out⟩
theorem refRight_any (d a u n : Int) (w : World) (hd : R32 d) (ha : R32 a) (hu : R32 u) : Calls Try.prog 18 #[rV d a u n] w fun e w' => e = .returned (.bool (rtB d a u n)) ∧ Below w.heap.size w w' := by
  obtain ⟨U, hU⟩ : ∃ U, U = w.alloc (.cells #[.int .u32 d, .int .u32 a, .int .u32 u, .int .i64 n] 27) := ⟨_, rfl⟩
  have hB : Below w.heap.size w U := by rw [hU]; exact r_below d a u n w
  have hm : Blk U w.heap.size 27 [.int .u32 d, .int .u32 a, .int .u32 u, .int .i64 n] := by rw [hU]; exact Blk.new w _ _
  have HU := Lib.hid hU
  have HB := Lib.hid hB
  have HM := Lib.hid hm
  have HS := Lib.hid (refSized_any n U)
  unfold rtB
  rw [show d % 4 = d.tmod 4 from (Int.tmod_eq_emod_of_nonneg hd.1).symm, show a % 4 = a.tmod 4 from (Int.tmod_eq_emod_of_nonneg ha.1).symm, show u % 4 = u.tmod 4 from (Int.tmod_eq_emod_of_nonneg hu.1).symm]
  obtain ⟨t, ht⟩ : ∃ t, szB n = t := ⟨_, rfl⟩
  rw [ht] at HS ⊢
  have m3 := hm.cell (j := 3) rfl
  have ml := hm.lt
  clear hU hB hm ht
  cases t
  · go_enter Try.func18, Try.ntmps18
    go_upto_region 1 with fail
    rw [← HU.out]
    clear HU
    go_wp2_with fail
    refine HS.out.mono ?_
    rintro e w1 ⟨rfl, hb⟩
    have HB1 := Lib.hid (HB.out.trans (hb.mono HB.out.size))
    clear hb m3 ml
    go_wp2
    go_ret
    exact ⟨rfl, HB1.out⟩
  · go_enter Try.func18, Try.ntmps18
    go_upto_region 1 with fail
    rw [← HU.out]
    clear HU
    go_wp2_with fail
    refine HS.out.mono ?_
    rintro e w1 ⟨rfl, hb⟩
    have HB1 := Lib.hid (HB.out.trans (hb.mono HB.out.size))
    have hm := HM.out.below hb HM.out.lt
    clear hb m3 ml
    have m0 := hm.cell (j := 0) rfl
    have m1 := hm.cell (j := 1) rfl
    have m2 := hm.cell (j := 2) rfl
    have ml := hm.lt
    clear hm
    by_cases c1 : d.tmod 4 = 0
    · by_cases c2 : a.tmod 4 = 0
      · by_cases c3 : u.tmod 4 = 0
        · go_wp2
          go_ret
          exact ⟨by simp [c1, c2, c3], HB1.out⟩
        · go_wp2
          go_ret
          exact ⟨by simp [c1, c2], HB1.out⟩
      · go_wp2
        go_ret
        exact ⟨by simp [c1, c2], HB1.out⟩
    · go_wp2
      go_ret
      exact ⟨by simp [c1], HB1.out⟩
end Go.Proofs.Ytkkolbdapoejkaa.De
