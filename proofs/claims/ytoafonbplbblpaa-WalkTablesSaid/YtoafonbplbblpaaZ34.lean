/- Several texts in one: Zi Zg -/
import Derived.Test.YtoafonbplbblpaaZ31
import Derived.Test.YtoafonbplbblpaaZ32
import Derived.Test.YtoafonbplbblpaaZ33
section
/- Package walk: where an access lies, plainly; Find's own blocks. -/
namespace Go.Proofs.Ytoafonbplbblpaa.Wa
open Go.RowKit Go.Shelf Ut Oc Vw
set_option maxRecDepth 100000
set_option linter.unusedVariables false
set_option maxHeartbeats 4000000

/-- where an access lies, and why it can't be -/
def locF (n : Nat) (S : List Int) (L : List Gm.Pl) (on : Bool) (rt : Int) (us : Bool) (z k : Int) : (Int × Int × Int) × Int :=
  if on = false then (hitF n L z 1 k, findF n L z 1 k)
  else if (walkF n S L rt z).f ≠ 0 then ((0, 0, 0), (walkF n S L rt z).f)
  else if Pe.alwB (walkF n S L rt z).o (walkF n S L rt z).r k us = false then ((0, 0, 0), 6)
  else (hitF n L ((walkF n S L rt z).g * 64 + z % 64) 1 k, findF n L ((walkF n S L rt z).g * 64 + z % 64) 1 k)
theorem walkF_zero {n : Nat} {S : List Int} {L : List Gm.Pl} {p z : Int} (h : (walkF n S L p z).f = 0) : ¬ 16384 ≤ z ∧ noneF n L p = 0 ∧ rootF n S L p z = 0 ∧ noneF n L (rootT n S L p z) = 0 ∧ leafE n S L p z = 0 ∧ walkF n S L p z = st4 n S L p z := by
  unfold walkF at h ⊢
  by_cases h0 : 16384 ≤ z
  · rw [if_pos h0] at h; exact absurd h (by decide)
  rw [if_neg h0] at h ⊢
  by_cases h1 : noneF n L p = 0
  · rw [if_neg (fun e => e h1)] at h ⊢
    by_cases h2 : rootF n S L p z = 0
    · rw [if_neg (fun e => e h2)] at h ⊢
      by_cases h3 : noneF n L (rootT n S L p z) = 0
      · rw [if_neg (fun e => e h3)] at h ⊢
        exact ⟨h0, h1, h2, h3, h, rfl⟩
      · rw [if_pos h3] at h; exact absurd h h3
    · rw [if_pos h2] at h; exact absurd h h2
  · rw [if_pos h1] at h; exact absurd h h1
theorem walkF_page {n : Nat} {S : List Int} {L : List Gm.Pl} {p z : Int} (h : (walkF n S L p z).f = 0) : 0 ≤ (walkF n S L p z).g ∧ (walkF n S L p z).g < 32 := by
  obtain ⟨_, _, _, _, h4, e⟩ := walkF_zero h
  rw [e]
  show 0 ≤ Pe.gF (leafE n S L p z) _ ∧ Pe.gF (leafE n S L p z) _ < 32
  unfold Pe.gF Pe.gOf
  rw [if_pos h4]
  omega
/-- Find's own blocks -/
structure FS (w W : World) (on : Bool) (rt : Int) (us : Bool) : Prop where
  b : Below w.heap.size w W
  md : Blk W w.heap.size 25 [.bool on, .int .i64 rt, .bool us]
  ht : Blk W (w.heap.size + 1) 32 (hitC (0, 0, 0))
theorem FS.more {w W W' : World} {on us : Bool} {rt : Int} (h : FS w W on rt us) (hb : Below W.heap.size W W') : FS w W' on rt us := ⟨h.b.trans (hb.mono h.b.size), h.md.more hb, h.ht.more hb⟩
theorem fs_new (w : World) (on : Bool) (rt : Int) (us : Bool) : FS w ((w.alloc (.cells #[.bool on, .int .i64 rt, .bool us] 25)).alloc (.cells #[.int .i64 0, .int .i64 0, .int .i64 0, .bool false] 32)) on rt us := by
  refine ⟨((Below.refl _ _).alloc (Nat.le_refl _) _).alloc (by simp) _, (Blk.new w _ [.bool on, .int .i64 rt, .bool us]).more ((Below.refl _ _).alloc (Nat.le_refl _) _), ?_⟩
  have := Blk.new (w.alloc (.cells #[.bool on, .int .i64 rt, .bool us] 25)) 32 [.int .i64 0, .int .i64 0, .int .i64 0, .bool false]
  rwa [World.size_alloc] at this

end Go.Proofs.Ytoafonbplbblpaa.Wa
end
section
/- Package walk: Find. -/
namespace Go.Proofs.Ytoafonbplbblpaa.Wa
open Go.RowKit Go.Shelf Ut Oc Vw
set_option maxRecDepth 100000
set_option linter.unusedVariables false
set_option maxHeartbeats 4000000

section
variable {b s m n : Nat} {S : List Int} {L : List Gm.Pl} {D : List Bool}
theorem find_off (rt z k c : Int) (us : Bool) (h : Int × Int × Int) (h0 : 0 ≤ z) (h1 : z < 4294967296) (hc : findF n L z 1 k = c) (hh : hitF n L z 1 k = h) (w : World) (hP : PV w b s m n S L D) :
    Calls Try.prog 8 #[.pointer (some ⟨b, 0, none⟩), .agg #[.bool false, .int .i64 rt, .bool us], .int .u32 z, .int .i64 k] w fun e w' => e = .returned (.tuple #[hitV h, .int .i64 c]) ∧ Below w.heap.size w w' := by
  have HS : Hid (FS w ((w.alloc (.cells #[.bool false, .int .i64 rt, .bool us] 25)).alloc (.cells #[.int .i64 0, .int .i64 0, .int .i64 0, .bool false] 32)) false rt us) := Lib.hid (fs_new w false rt us)
  have CF : Hid (∀ W, Below w.heap.size w W → Calls Try.prog 18 #[.pointer (some ⟨b, 0, none⟩), .int .u32 z, .int .i64 1, .int .i64 k] W fun e w' => e = .returned (.tuple #[hitV h, .int .i64 c]) ∧ Below W.heap.size W w') := Lib.hid fun W hW => Vw.find_any z 1 k c h h0 h1 hc hh W (hP.more hW)
  clear hP hc hh
  go_enter Try.func8, Try.ntmps8
  go_wp2_with fail
  refine (CF.out _ HS.out.b).mono ?_
  rintro e w1 ⟨rfl, hb1⟩
  have HS1 := Lib.hid (HS.out.more hb1)
  clear hb1 HS CF
  have q0 := HS1.out.ht
  obtain ⟨r0, r1, r2, r3⟩ := HAt.cells q0
  have f0 := q0.frozen 0
  have f1 := q0.frozen 1
  have f2 := q0.frozen 2
  have f3 := q0.frozen 3
  have hlt := q0.lt
  clear q0
  have HB9 := Lib.hid HS1.out.b
  have HSet : Hid (∀ (X : World) (j : Nat) (v : Value), Below w.heap.size w X → Below w.heap.size w (X.setCell ⟨w.heap.size + 1, j, none⟩ v)) := Lib.hid fun X j v h => h.setCell (p := ⟨w.heap.size + 1, j, none⟩) (by simp) _
  clear HS1
  obtain ⟨ha, hb, hc⟩ := h
  unfold hitV
  go_wp2
  exact bodyPost_ret (v := .tuple #[hitV (ha, hb, hc), .int .i64 c]) (by simp [results, Try.results8, go_sem, r0, r1, r2, r3, hitV]) rfl ⟨rfl, by (repeat (first | refine HSet.out _ _ _ ?_)); exact HB9.out⟩

theorem find_fault (rt z k : Int) (us : Bool) (R : Stp) (h0 : 0 ≤ z) (h1 : z < 4294967296) (hR : walkF n S L rt z = R) (hf : R.f ≠ 0) (w : World) (hP : PV w b s m n S L D) :
    Calls Try.prog 8 #[.pointer (some ⟨b, 0, none⟩), .agg #[.bool true, .int .i64 rt, .bool us], .int .u32 z, .int .i64 k] w fun e w' => e = .returned (.tuple #[hitV (0, 0, 0), .int .i64 R.f]) ∧ Below w.heap.size w w' := by
  have HS : Hid (FS w ((w.alloc (.cells #[.bool true, .int .i64 rt, .bool us] 25)).alloc (.cells #[.int .i64 0, .int .i64 0, .int .i64 0, .bool false] 32)) true rt us) := Lib.hid (fs_new w true rt us)
  have CW : Hid (∀ W, Below w.heap.size w W → Calls Try.prog 10 #[.pointer (some ⟨b, 0, none⟩), .int .i64 rt, .int .u32 z] W fun e w' => e = .returned R.v ∧ Below W.heap.size W w') := Lib.hid fun W hW => walk_any rt z R h0 h1 hR W (hP.more hW)
  clear hP hR
  go_enter Try.func8, Try.ntmps8
  go_wp2_with fail
  refine (CW.out _ HS.out.b).mono ?_
  rintro e w1 ⟨rfl, hb1⟩
  have HS1 := Lib.hid (HS.out.more hb1)
  have HR2 := step_run w1
  have HN1 : Hid (Blk (w1.alloc (.cells stz.cs.toArray 40)) w1.heap.size 40 stz.cs) := Lib.hid (Blk.new w1 _ _)
  clear hb1 HS CW
  go_simp
  rename_i hK
  refine hK _ _ ?_
  clear hK
  refine Great.wpList_allocTo rfl (some 10) rfl (.pointer (some ⟨w1.heap.size, 0, none⟩)) (.cells stz.cs.toArray 40) (HR2.out _ _ rfl _ rfl) ?_
  refine wpList_store_rowTo rfl 40 _ _ rfl rfl w1.heap.size R.cs.toArray (by kernel_rfl) (by kernel_rfl) 40 stz.cs.toArray HN1.out (size_stp _) rfl (one_stp _) ?_
  have hbw := below_setRow ((Below.refl w1.heap.size w1).alloc (Nat.le_refl _) (.cells stz.cs.toArray 40)) (Nat.le_refl w1.heap.size) R.cs.toArray
  have HS2 := Lib.hid (HS1.out.more hbw)
  have HN2 := Lib.hid (HN1.out.row R.cs)
  have HNE : Hid (w.heap.size + 1 < w1.heap.size) := Lib.hid HS1.out.ht.lt
  clear hbw HS1 HN1 HR2
  generalize World.setRow _ w1.heap.size R.cs.toArray = w2 at HS2 HN2 ⊢
  generalize w1.heap.size = sb at HN2 HNE ⊢
  simp only [Act.put, List.setIfInBounds_toArray, List.set_cons_succ, List.set_cons_zero]
  have q0 := HS2.out.ht
  obtain ⟨r0, r1, r2, r3⟩ := HAt.cells q0
  have f0 := q0.frozen 0
  have f1 := q0.frozen 1
  have f2 := q0.frozen 2
  have f3 := q0.frozen 3
  have hlt := q0.lt
  clear q0
  have HB9 := Lib.hid HS2.out.b
  have HSet : Hid (∀ (X : World) (j : Nat) (v : Value), Below w.heap.size w X → Below w.heap.size w (X.setCell ⟨w.heap.size + 1, j, none⟩ v)) := Lib.hid fun X j v h => h.setCell (p := ⟨w.heap.size + 1, j, none⟩) (by simp) _
  have g3 := HN2.out.cell (j := 3) rfl
  have gl := HN2.out.lt
  clear HS2 HN2
  obtain ⟨o, r, g, f, ro, lf⟩ := R
  dsimp only at g3 hf ⊢
  have hf2 : (f != 0) = true := by simp [hf]
  have n1 : ¬ sb = w.heap.size + 1 := by have := HNE.out; omega
  have n2 : ¬ w.heap.size + 1 = sb := by have := HNE.out; omega
  go_wp2
  go_region
  go_wp2
  exact bodyPost_ret (v := .tuple #[hitV (0, 0, 0), .int .i64 f]) (by simp [results, Try.results8, go_sem, r0, r1, r2, r3, hitV]) rfl ⟨rfl, by refine Below.drew ?_; (repeat (first | refine HSet.out _ _ _ ?_)); exact HB9.out⟩

theorem find_perm (rt z k : Int) (us : Bool) (R : Stp) (h0 : 0 ≤ z) (h1 : z < 4294967296) (hR : walkF n S L rt z = R) (hf : R.f = 0) (ha : Pe.alwB R.o R.r k us = false) (w : World) (hP : PV w b s m n S L D) :
    Calls Try.prog 8 #[.pointer (some ⟨b, 0, none⟩), .agg #[.bool true, .int .i64 rt, .bool us], .int .u32 z, .int .i64 k] w fun e w' => e = .returned (.tuple #[hitV (0, 0, 0), .int .i64 6]) ∧ Below w.heap.size w w' := by
  have HS : Hid (FS w ((w.alloc (.cells #[.bool true, .int .i64 rt, .bool us] 25)).alloc (.cells #[.int .i64 0, .int .i64 0, .int .i64 0, .bool false] 32)) true rt us) := Lib.hid (fs_new w true rt us)
  have CW : Hid (∀ W, Below w.heap.size w W → Calls Try.prog 10 #[.pointer (some ⟨b, 0, none⟩), .int .i64 rt, .int .u32 z] W fun e w' => e = .returned R.v ∧ Below W.heap.size W w') := Lib.hid fun W hW => walk_any rt z R h0 h1 hR W (hP.more hW)
  have CA : Hid (∀ W, Calls Try.prog 29 #[Pe.pteV R.o R.r R.g, .int .i64 k, .bool us] W fun e w' => e = .returned (.bool false) ∧ Below W.heap.size W w') := Lib.hid fun W => Pe.allows_any R.o R.r R.g k us false ha W
  clear hP hR ha
  go_enter Try.func8, Try.ntmps8
  go_wp2_with fail
  refine (CW.out _ HS.out.b).mono ?_
  rintro e w1 ⟨rfl, hb1⟩
  have HS1 := Lib.hid (HS.out.more hb1)
  have HR2 := step_run w1
  have HN1 : Hid (Blk (w1.alloc (.cells stz.cs.toArray 40)) w1.heap.size 40 stz.cs) := Lib.hid (Blk.new w1 _ _)
  clear hb1 HS CW
  go_simp
  rename_i hK
  refine hK _ _ ?_
  clear hK
  refine Great.wpList_allocTo rfl (some 10) rfl (.pointer (some ⟨w1.heap.size, 0, none⟩)) (.cells stz.cs.toArray 40) (HR2.out _ _ rfl _ rfl) ?_
  refine wpList_store_rowTo rfl 40 _ _ rfl rfl w1.heap.size R.cs.toArray (by kernel_rfl) (by kernel_rfl) 40 stz.cs.toArray HN1.out (size_stp _) rfl (one_stp _) ?_
  have hbw := below_setRow ((Below.refl w1.heap.size w1).alloc (Nat.le_refl _) (.cells stz.cs.toArray 40)) (Nat.le_refl w1.heap.size) R.cs.toArray
  have HS2 := Lib.hid (HS1.out.more hbw)
  have HN2 := Lib.hid (HN1.out.row R.cs)
  have HNE : Hid (w.heap.size + 1 < w1.heap.size) := Lib.hid HS1.out.ht.lt
  clear hbw HS1 HN1 HR2
  generalize World.setRow _ w1.heap.size R.cs.toArray = w2 at HS2 HN2 ⊢
  generalize w1.heap.size = sb at HN2 HNE ⊢
  simp only [Act.put, List.setIfInBounds_toArray, List.set_cons_succ, List.set_cons_zero]
  have g0 := HN2.out.cell (j := 0) rfl
  have g1 := HN2.out.cell (j := 1) rfl
  have g2 := HN2.out.cell (j := 2) rfl
  have g3 := HN2.out.cell (j := 3) rfl
  have gl := HN2.out.lt
  have m2 := HS2.out.md.cell (j := 2) rfl
  have ml := HS2.out.md.lt
  obtain ⟨o, r, g, f, ro, lf⟩ := R
  dsimp only at g0 g1 g2 g3 hf CA ⊢
  subst hf
  go_wp2_with fail
  refine (CA.out _).mono ?_
  rintro e w3 ⟨rfl, hb3⟩
  have HS3 := Lib.hid (HS2.out.more hb3)
  clear hb3 HS2 HN2 CA g0 g1 g2 g3 gl m2 ml
  have q0 := HS3.out.ht
  obtain ⟨r0, r1, r2, r3⟩ := HAt.cells q0
  have f0 := q0.frozen 0
  have f1 := q0.frozen 1
  have f2 := q0.frozen 2
  have f3 := q0.frozen 3
  have hlt := q0.lt
  clear q0
  have HB9 := Lib.hid HS3.out.b
  have HSet : Hid (∀ (X : World) (j : Nat) (v : Value), Below w.heap.size w X → Below w.heap.size w (X.setCell ⟨w.heap.size + 1, j, none⟩ v)) := Lib.hid fun X j v h => h.setCell (p := ⟨w.heap.size + 1, j, none⟩) (by simp) _
  clear HS3
  go_wp2
  exact bodyPost_ret (v := .tuple #[hitV (0, 0, 0), .int .i64 6]) (by simp [results, Try.results8, go_sem, r0, r1, r2, r3, hitV]) rfl ⟨rfl, by (repeat (first | refine HSet.out _ _ _ ?_)); exact HB9.out⟩

theorem find_found (rt z k c : Int) (us : Bool) (R : Stp) (h : Int × Int × Int) (h0 : 0 ≤ z) (h1 : z < 4294967296) (hR : walkF n S L rt z = R) (hf : R.f = 0) (hg0 : 0 ≤ R.g) (hg1 : R.g < 32) (ha : Pe.alwB R.o R.r k us = true) (hc : findF n L (R.g * 64 + z % 64) 1 k = c) (hh : hitF n L (R.g * 64 + z % 64) 1 k = h) (w : World) (hP : PV w b s m n S L D) :
    Calls Try.prog 8 #[.pointer (some ⟨b, 0, none⟩), .agg #[.bool true, .int .i64 rt, .bool us], .int .u32 z, .int .i64 k] w fun e w' => e = .returned (.tuple #[hitV h, .int .i64 c]) ∧ Below w.heap.size w w' := by
  have HS : Hid (FS w ((w.alloc (.cells #[.bool true, .int .i64 rt, .bool us] 25)).alloc (.cells #[.int .i64 0, .int .i64 0, .int .i64 0, .bool false] 32)) true rt us) := Lib.hid (fs_new w true rt us)
  have CW : Hid (∀ W, Below w.heap.size w W → Calls Try.prog 10 #[.pointer (some ⟨b, 0, none⟩), .int .i64 rt, .int .u32 z] W fun e w' => e = .returned R.v ∧ Below W.heap.size W w') := Lib.hid fun W hW => walk_any rt z R h0 h1 hR W (hP.more hW)
  have CA : Hid (∀ W, Calls Try.prog 29 #[Pe.pteV R.o R.r R.g, .int .i64 k, .bool us] W fun e w' => e = .returned (.bool true) ∧ Below W.heap.size W w') := Lib.hid fun W => Pe.allows_any R.o R.r R.g k us true ha W
  have CF : Hid (∀ W, Below w.heap.size w W → Calls Try.prog 18 #[.pointer (some ⟨b, 0, none⟩), .int .u32 (R.g * 64 + z % 64), .int .i64 1, .int .i64 k] W fun e w' => e = .returned (.tuple #[hitV h, .int .i64 c]) ∧ Below W.heap.size W w') := Lib.hid fun W hW => Vw.find_any (R.g * 64 + z % 64) 1 k c h (by omega) (by omega) hc hh W (hP.more hW)
  clear hP hR ha hc hh
  go_enter Try.func8, Try.ntmps8
  go_wp2_with fail
  refine (CW.out _ HS.out.b).mono ?_
  rintro e w1 ⟨rfl, hb1⟩
  have HS1 := Lib.hid (HS.out.more hb1)
  have HR2 := step_run w1
  have HN1 : Hid (Blk (w1.alloc (.cells stz.cs.toArray 40)) w1.heap.size 40 stz.cs) := Lib.hid (Blk.new w1 _ _)
  clear hb1 HS CW
  go_simp
  rename_i hK
  refine hK _ _ ?_
  clear hK
  refine Great.wpList_allocTo rfl (some 10) rfl (.pointer (some ⟨w1.heap.size, 0, none⟩)) (.cells stz.cs.toArray 40) (HR2.out _ _ rfl _ rfl) ?_
  refine wpList_store_rowTo rfl 40 _ _ rfl rfl w1.heap.size R.cs.toArray (by kernel_rfl) (by kernel_rfl) 40 stz.cs.toArray HN1.out (size_stp _) rfl (one_stp _) ?_
  have hbw := below_setRow ((Below.refl w1.heap.size w1).alloc (Nat.le_refl _) (.cells stz.cs.toArray 40)) (Nat.le_refl w1.heap.size) R.cs.toArray
  have HS2 := Lib.hid (HS1.out.more hbw)
  have HN2 := Lib.hid (HN1.out.row R.cs)
  have HNE : Hid (w.heap.size + 1 < w1.heap.size) := Lib.hid HS1.out.ht.lt
  clear hbw HS1 HN1 HR2
  generalize World.setRow _ w1.heap.size R.cs.toArray = w2 at HS2 HN2 ⊢
  generalize w1.heap.size = sb at HN2 HNE ⊢
  simp only [Act.put, List.setIfInBounds_toArray, List.set_cons_succ, List.set_cons_zero]
  have g0 := HN2.out.cell (j := 0) rfl
  have g1 := HN2.out.cell (j := 1) rfl
  have g2 := HN2.out.cell (j := 2) rfl
  have g3 := HN2.out.cell (j := 3) rfl
  have gl := HN2.out.lt
  have m2 := HS2.out.md.cell (j := 2) rfl
  have ml := HS2.out.md.lt
  obtain ⟨o, r, g, f, ro, lf⟩ := R
  dsimp only at g0 g1 g2 g3 hf hg0 hg1 CA CF ⊢
  subst hf
  go_wp2_with fail
  refine (CA.out _).mono ?_
  rintro e w3 ⟨rfl, hb3⟩
  have HS3 := Lib.hid (HS2.out.more hb3)
  have HN3 := Lib.hid (HN2.out.more hb3)
  clear hb3 HS2 HN2 CA g0 g1 g2 g3 gl m2 ml
  have g2 := HN3.out.cell (j := 2) rfl
  have gl := HN3.out.lt
  dsimp only at g2
  go_wp2_with fail
  refine (CF.out _ HS3.out.b).mono ?_
  rintro e w4 ⟨rfl, hb4⟩
  have HS4 := Lib.hid (HS3.out.more hb4)
  clear hb4 HS3 HN3 CF g2 gl
  have q0 := HS4.out.ht
  obtain ⟨r0, r1, r2, r3⟩ := HAt.cells q0
  have f0 := q0.frozen 0
  have f1 := q0.frozen 1
  have f2 := q0.frozen 2
  have f3 := q0.frozen 3
  have hlt := q0.lt
  clear q0
  have HB9 := Lib.hid HS4.out.b
  have HSet : Hid (∀ (X : World) (j : Nat) (v : Value), Below w.heap.size w X → Below w.heap.size w (X.setCell ⟨w.heap.size + 1, j, none⟩ v)) := Lib.hid fun X j v h => h.setCell (p := ⟨w.heap.size + 1, j, none⟩) (by simp) _
  clear HS4
  obtain ⟨ha, hb, hc⟩ := h
  unfold hitV
  go_wp2
  exact bodyPost_ret (v := .tuple #[hitV (ha, hb, hc), .int .i64 c]) (by simp [results, Try.results8, go_sem, r0, r1, r2, r3, hitV]) rfl ⟨rfl, by (repeat (first | refine HSet.out _ _ _ ?_)); exact HB9.out⟩

theorem find_any (on us : Bool) (rt z k c : Int) (h : Int × Int × Int) (h0 : 0 ≤ z) (h1 : z < 4294967296) (hc : (locF n S L on rt us z k).2 = c) (hh : (locF n S L on rt us z k).1 = h) (w : World) (hP : PV w b s m n S L D) :
    Calls Try.prog 8 #[.pointer (some ⟨b, 0, none⟩), .agg #[.bool on, .int .i64 rt, .bool us], .int .u32 z, .int .i64 k] w fun e w' => e = .returned (.tuple #[hitV h, .int .i64 c]) ∧ Below w.heap.size w w' := by
  subst hc hh
  unfold locF
  cases on
  · exact find_off rt z k _ us _ h0 h1 rfl rfl w hP
  · rw [if_neg (by decide)]
    by_cases hf : (walkF n S L rt z).f = 0
    · rw [if_neg (fun e => e hf)]
      by_cases ha : Pe.alwB (walkF n S L rt z).o (walkF n S L rt z).r k us = true
      · rw [if_neg (by simp [ha])]
        have hg := walkF_page hf
        exact find_found rt z k _ us _ _ h0 h1 rfl hf hg.1 hg.2 ha rfl rfl w hP
      · rw [if_pos (by simpa using ha)]
        exact find_perm rt z k us _ h0 h1 rfl hf (by simpa using ha) w hP
    · rw [if_pos hf]
      exact find_fault rt z k us _ h0 h1 rfl hf w hP
end
end Go.Proofs.Ytoafonbplbblpaa.Wa
end
