/- Package asm: signed, (part).read: a word as a number, laid where the part's stands. -/
import Derived.Test.YtfdekfobcohcjaaDoorQa
import Derived.Test.YtfdekfobcohcjaaDoorEf
import Derived.Test.YtfdekfobcohcjaaDoorQd
namespace Go.Proofs.YtfdekfobcohcjaaDoor.As
open Go.RowKit Ut Is Pl
set_option linter.unusedVariables false
set_option maxRecDepth 100000
set_option maxHeartbeats 4000000

theorem numL_lt {l : List UInt8} : (numL l).getD 0 < 1000000000 := by
  unfold numL
  split
  · simp
  · rename_i h
    simp only [Option.getD_some]
    have h1 : l.all isDig = true := by
      cases hx : l.all isDig with
      | true => rfl
      | false => exact absurd (.inr (.inr (.inr hx))) h
    have h2 := valD_lt l h1
    have h3 : l.length ≤ 9 := Nat.le_of_not_lt fun e => h (.inr (.inl e))
    exact Nat.lt_of_lt_of_le h2 (pow9 _ h3)
theorem number_two (r : ByteArray) (N : Nat) (q : Bool) (hN : (numL r.data.toList).getD 0 = N) (hq : (numL r.data.toList).isSome = q) (w : World) :
    Calls Tryd.prog 73 #[.string r] w fun e w' => e = .returned (.tuple #[.int .i64 N, .bool q]) ∧ Below w.heap.size w w' :=
  (number_any r w.heap.size w (Nat.le_refl _)).mono fun e w' ⟨he, hb⟩ => ⟨by rw [he]; unfold numV; rw [hN, hq], hb⟩
theorem some_zero {l : List UInt8} (h : (numL l).isSome = false) : (numL l).getD 0 = 0 := by
  cases hn : numL l with
  | none => rfl
  | some n => rw [hn] at h; cases h
theorem signed_any (s : ByteArray) (z : Int) (t : Bool) (hz : sgZ s.data.toList = z) (ht : sgB s.data.toList = t) (w : World) :
    Calls Tryd.prog 59 #[.string s] w fun e w' => e = .returned (.tuple #[.int .i64 z, .bool t]) ∧ Below w.heap.size w w' := by
  subst hz ht
  obtain ⟨r, hr⟩ : ∃ r, r = tb (Lib.trimPrefix s.data.toList [45]) := ⟨_, rfl⟩
  have hcut := cutPrefix_any s ⟨#[45]⟩ w
  rw [show (⟨#[45]⟩ : ByteArray).data.toList = [45] from rfl, ← hr] at hcut
  have hrl : r.data.toList = Lib.trimPrefix s.data.toList [45] := by rw [hr]; rfl
  obtain ⟨N, hN⟩ : ∃ N, (numL r.data.toList).getD 0 = N := ⟨_, rfl⟩
  obtain ⟨q, hq⟩ : ∃ q, (numL r.data.toList).isSome = q := ⟨_, rfl⟩
  have HC := Lib.hid (fun W => number_two r N q hN hq W)
  have hlt : N < 1000000000 := hN ▸ numL_lt
  have hzero : q = false → N = 0 := fun e => by rw [← hN]; exact some_zero (hq.trans e)
  unfold sgZ sgB
  by_cases hp : Lib.hasPrefix s.data.toList [45] = true
  · rw [if_pos hp, if_pos hp]
    have e : Lib.trimPrefix s.data.toList [45] = s.data.toList.drop 1 := by unfold Lib.trimPrefix; rw [if_pos hp]; rfl
    rw [← e, ← hrl, hN]
    rw [hp] at hcut
    clear hrl hr hN hq hp e
    cases q
    · obtain rfl := hzero rfl
      clear hzero
      go_enter Tryd.func59, Tryd.ntmps59
      go_wp2_with (go_at_call 58; refine hcut.mono ?_; rintro e w1 ⟨rfl, rfl⟩)
      refine (HC.out _).mono ?_
      rintro e w2 ⟨rfl, hb⟩
      go_wp2
      go_ret2
      exact ⟨rfl, hb⟩
    · clear hzero
      by_cases hpos : 0 < N
      · go_enter Tryd.func59, Tryd.ntmps59
        go_wp2_with (go_at_call 58; refine hcut.mono ?_; rintro e w1 ⟨rfl, rfl⟩)
        refine (HC.out _).mono ?_
        rintro e w2 ⟨rfl, hb⟩
        go_wp2
        go_ret2
        exact ⟨by simp [hpos], hb⟩
      · obtain rfl : N = 0 := by omega
        go_enter Tryd.func59, Tryd.ntmps59
        go_wp2_with (go_at_call 58; refine hcut.mono ?_; rintro e w1 ⟨rfl, rfl⟩)
        refine (HC.out _).mono ?_
        rintro e w2 ⟨rfl, hb⟩
        go_wp2
        go_ret2
        exact ⟨rfl, hb⟩
  · rw [if_neg hp, if_neg hp]
    have e : Lib.trimPrefix s.data.toList [45] = s.data.toList := by unfold Lib.trimPrefix; rw [if_neg hp]
    have hp2 : Lib.hasPrefix s.data.toList [45] = false := by simpa using hp
    rw [show numL s.data.toList = numL r.data.toList by rw [hrl, e], hN, hq]
    rw [hp2] at hcut
    clear hrl hr hN hq hp hp2 e hzero
    go_enter Tryd.func59, Tryd.ntmps59
    go_wp2_with (go_at_call 58; refine hcut.mono ?_; rintro e w1 ⟨rfl, rfl⟩)
    refine (HC.out _).mono ?_
    rintro e w2 ⟨rfl, hb⟩
    go_wp2
    go_ret2
    exact ⟨rfl, hb⟩

/-- an instruction's block, its fields by number -/
def InsF (w : World) (b : Nat) (o : Int) (f : Nat → Int) : Prop := InsAt w b o (f 1) (f 2) (f 3) (f 4)
theorem InsF.cellAt {w : World} {b : Nat} {o : Int} {f : Nat → Int} (h : InsF w b o f) (j : Nat) (h1 : 1 ≤ j) (h4 : j ≤ 4) : w.cell? ⟨b, j, none⟩ = some (.int .i64 (f j)) := by
  obtain ⟨_, c1, c2, c3, c4⟩ := h.cells
  rcases (show j = 1 ∨ j = 2 ∨ j = 3 ∨ j = 4 by omega) with rfl | rfl | rfl | rfl
  · exact c1
  · exact c2
  · exact c3
  · exact c4
theorem InsF.set {w : World} {b : Nat} {o : Int} {f : Nat → Int} (h : InsF w b o f) (j : Nat) (h1 : 1 ≤ j) (h4 : j ≤ 4) (z : Int) : InsF (w.setCell ⟨b, j, none⟩ (.int .i64 z)) b o (fun i => if i = j then z else f i) := by
  have hs := set_row (cs := [.int .i64 o, .int .i64 (f 1), .int .i64 (f 2), .int .i64 (f 3), .int .i64 (f 4)]) h j (.int .i64 z)
  unfold InsF InsAt
  rcases (show j = 1 ∨ j = 2 ∨ j = 3 ∨ j = 4 by omega) with rfl | rfl | rfl | rfl
  all_goals exact hs
theorem grown_of_below {w w' : World} (h : Below w.heap.size w w') (row : Option Nat) : w.grownBy w' row := ⟨h.os, h.tape, h.output, h.size, fun k hk _ => h.block k hk⟩
theorem grown_set {w U : World} {b j : Nat} {v : Value} (h : Below w.heap.size w U) : w.grownBy (U.setCell ⟨b, j, none⟩ v) (some b) := by
  have hs : (U.setCell ⟨b, j, none⟩ v).heap.size = U.heap.size := by simp
  refine ⟨h.os, h.tape, h.output, by rw [hs]; exact h.size, fun k hk hne => ?_⟩
  have : (U.setCell ⟨b, j, none⟩ v).heap[k]? = U.heap[k]? := by
    have hk2 : ¬ b = k := fun e => hne (by rw [e])
    simp [World.setCell, Array.getElem?_modify, hk2]
  rw [this]
  exact h.block k hk
/-- the word's number is laid where the part's stands -/
theorem read_any (b j : Nat) (h1 : 1 ≤ j) (h4 : j ≤ 4) (mk : List UInt8) (s : ByteArray) (z : Int) (t : Bool) (hz : rdZ mk s.data.toList = z) (ht : rdB mk s.data.toList = t) (o : Int) (f : Nat → Int) (w : World) (hI : InsF w b o f) :
    Calls Tryd.prog 43 #[.agg #[.pointer (some ⟨b, j, none⟩), .string (tb mk)], .string s] w fun e w' => e = .returned (.bool t) ∧ w.grownBy w' (some b) ∧ InsF w' b o (fun i => if i = j then z else f i) := by
  subst hz ht
  obtain ⟨mt, hmt⟩ : ∃ mt, mt = tb mk := ⟨_, rfl⟩
  obtain ⟨r, hr⟩ : ∃ r, r = tb (Lib.trimPrefix s.data.toList mk) := ⟨_, rfl⟩
  have hcut := fun W => cutPrefix_any s mt W
  rw [show mt.data.toList = mk by rw [hmt]; rfl, ← hr] at hcut
  have hrl : r.data.toList = Lib.trimPrefix s.data.toList mk := by rw [hr]; rfl
  obtain ⟨Z, hZ⟩ : ∃ Z, sgZ r.data.toList = Z := ⟨_, rfl⟩
  obtain ⟨q, hq⟩ : ∃ q, sgB r.data.toList = q := ⟨_, rfl⟩
  have HC := Lib.hid (fun W => signed_any r Z q hZ hq W)
  unfold rdZ rdB
  rw [← hrl, hZ, hq, ← hmt]
  generalize hp : Lib.hasPrefix s.data.toList mk = p at hcut ⊢
  have HCUT := Lib.hid hcut
  have hlt := hI.lt
  obtain ⟨V1, hV1⟩ : ∃ V1, V1 = w.alloc (.cells [Value.pointer (some ⟨b, j, none⟩), .string mt].toArray 53) := ⟨_, rfl⟩
  have hnew : V1.heap[w.heap.size]? = some (.cells [Value.pointer (some ⟨b, j, none⟩), .string mt].toArray 53 (0, 0)) := by rw [hV1]; exact heap_alloc_new _ _
  have hbV : Below w.heap.size w V1 := by rw [hV1]; exact (Below.refl _ _).alloc (Nat.le_refl _) _
  have HV1 := Lib.hid hV1
  have HBV := Lib.hid hbV
  have HNEW := Lib.hid hnew
  have HI := Lib.hid (show InsF V1 b o f from hI.more hbV)
  clear hrl hr hZ hq hp hcut hmt hI hnew hbV hV1
  go_enter Tryd.func43, Tryd.ntmps43
  go_wp2_with fail
  rw [show w.alloc (.cells #[Value.pointer (some ⟨b, j, none⟩), .string mt] 53) = V1 from HV1.out.symm]
  refine (HCUT.out _).mono ?_
  rintro e w1 ⟨rfl, rfl⟩
  go_wp2_with fail
  refine (HC.out _).mono ?_
  rintro e w2 ⟨rfl, hb⟩
  have q0 := cell_of ((hb.block _ (Array.getElem?_eq_some_iff.1 HNEW.out).1).trans HNEW.out) 0 _ rfl
  have hi2 : InsF w2 b o f := InsAt.more HI.out hb
  have q1 := hi2.cellAt j h1 h4
  have q2 := InsAt.frozen hi2 j (by omega)
  have q3 := InsAt.lt hi2
  have hsz2 : w.heap.size < w2.heap.size := Nat.lt_of_lt_of_le (Array.getElem?_eq_some_iff.1 HNEW.out).1 hb.size
  have HS := Lib.hid (hi2.set j h1 h4 Z)
  have HG := Lib.hid (grown_set (b := b) (j := j) (v := .int .i64 Z) (HBV.out.trans (hb.mono HBV.out.size)))
  clear hb hi2
  cases p
  all_goals
    go_wp2
    go_ret
    exact ⟨rfl, HG.out, HS.out⟩
end Go.Proofs.YtfdekfobcohcjaaDoor.As
