/- Package shadow: translations as they lie in the shadow itself; New, there, own; the closures that say which ones go. -/
import Derived.Test.YtcdiigdbjncpeaaJj
import Derived.Test.YtcdiigdbjncpeaaSt
import Derived.Laws.EntriesVeiled
import Derived.Great.Walk
namespace Go.Proofs.Ytcdiigdbjncpeaa.Sw
open Go.RowKit Ut
set_option maxRecDepth 100000
set_option linter.unusedVariables false
set_option maxHeartbeats 4000000

def noL : Ln := ⟨0, 0, 0, 0, 0, 0, 0⟩
/-- what lies ahead of the places: made, the number -/
abbrev hd2 (m : Bool) (n : Int) : List Value := [.bool m, .int .i64 n]
/-- the shadow at g: thirty-two places -/
def RS19 (W : World) (g : Nat) (m : Bool) (n : Int) (L : List Ln) : Prop := L.length = 32 ∧ RecB W g 65 (hd2 m n) 7 (L.map Ln.l)
/-- .. of which the first are l -/
def LS19 (W : World) (g : Nat) (m : Bool) (l : List Ln) : Prop := ∃ z : List Ln, RS19 W g m (l.length : Nat) (l ++ z)
section
variable {W W' : World} {g : Nat} {m : Bool} {n : Int} {l L : List Ln}
theorem RS19.lt (h : RS19 W g m n L) : g < W.heap.size := h.2.lt
theorem RS19.kq {T : List Nat} (h : RS19 W g m n L) (k : Kq T W W') (hb : g ∉ T) : RS19 W' g m n L := ⟨h.1, h.2.kq k hb⟩
theorem RS19.more (h : RS19 W g m n L) (hb : Below W.heap.size W W') : RS19 W' g m n L := ⟨h.1, h.2.more hb⟩
theorem RS19.pre (h : RS19 W g m n L) : W.cell? ⟨g, 0, none⟩ = some (.bool m) ∧ W.cell? ⟨g, 1, none⟩ = some (.int .i64 n) := ⟨h.2.2.cell rfl, h.2.2.cell rfl⟩
theorem RS19.frz (h : RS19 W g m n L) (j : Nat) : W.frozen? ⟨g, j, none⟩ = false := h.2.2.frozen j
theorem RS19.count (h : RS19 W g m n L) (n' : Int) : RS19 (W.setCell ⟨g, 1, none⟩ (.int .i64 n')) g m n' L := ⟨h.1, h.2.1, h.2.2.set 1 (.int .i64 n')⟩
/-- a place's cells as the walk spells them, the shadow asked -/
theorem RS19.cells (h : RS19 W g m n L) {i : Nat} {x : Ln} (hx : L[i]? = some x) : W.cell? ⟨g, 2 + i * 7, none⟩ = some (.int .i64 x.kr) ∧ W.cell? ⟨g, 2 + i * 7 + 1, none⟩ = some (.int .i64 x.kp) ∧ W.cell? ⟨g, 2 + i * 7 + 2, none⟩ = some (.int .i64 x.ep) ∧ W.cell? ⟨g, 2 + i * 7 + 3, none⟩ = some (.int .i64 x.ef) ∧ W.cell? ⟨g, 2 + i * 7 + 4, none⟩ = some (.int .i64 x.er) ∧ W.cell? ⟨g, 2 + i * 7 + 5, none⟩ = some (.int .i64 x.rt) ∧ W.cell? ⟨g, 2 + i * 7 + 6, none⟩ = some (.int .i64 x.lf) := by
  have hl : (L.map Ln.l)[i]? = some x.l := by rw [List.getElem?_map, hx]; rfl
  exact ⟨h.2.get rfl (j := 0) hl rfl, h.2.get rfl (j := 1) hl rfl, h.2.get rfl (j := 2) hl rfl, h.2.get rfl (j := 3) hl rfl, h.2.get rfl (j := 4) hl rfl, h.2.get rfl (j := 5) hl rfl, h.2.get rfl (j := 6) hl rfl⟩
theorem LS19.lt (h : LS19 W g m l) : g < W.heap.size := h.elim fun _ h => h.lt
theorem LS19.kq {T : List Nat} (h : LS19 W g m l) (k : Kq T W W') (hb : g ∉ T) : LS19 W' g m l := h.elim fun z h => ⟨z, h.kq k hb⟩
theorem LS19.more (h : LS19 W g m l) (hb : Below W.heap.size W W') : LS19 W' g m l := h.elim fun z h => ⟨z, h.more hb⟩
theorem LS19.len (h : LS19 W g m l) : l.length ≤ 32 := h.elim fun z h => by have := h.1; rw [List.length_append] at this; omega
theorem LS19.pre (h : LS19 W g m l) : W.cell? ⟨g, 0, none⟩ = some (.bool m) ∧ W.cell? ⟨g, 1, none⟩ = some (.int .i64 (l.length : Nat)) := h.elim fun _ h => h.pre
theorem LS19.row (h : LS19 W g m l) : LnRow W (some ⟨g, 2, none⟩) l := h.elim fun z h => fun i x hx => by
  have hr := h.2.row (o := 2) rfl
  refine hr i x ?_
  rw [List.map_append, List.getElem?_append_left (List.getElem?_eq_some_iff.1 hx).1]
  exact hx
end

/-- what a new one's cells are -/
def newS (m : Bool) : List Value := hd2 m 0 ++ encR ((List.replicate 32 noL).map Ln.l)
theorem newS_at (m : Bool) (w : World) : LS19 (w.alloc (.cells (newS m).toArray 65)) w.heap.size m [] := ⟨List.replicate 32 noL, rfl, (fun x hx => by
  obtain ⟨y, _, rfl⟩ := List.mem_map.1 hx
  rfl), Blk.new w _ (newS m)⟩
theorem shNew_any (w : World) : Calls Try.prog 8 #[] w fun e w' => e = .returned (.pointer (some ⟨w.heap.size, 0, none⟩)) ∧ LS19 w' w.heap.size true [] ∧ Below w.heap.size w w' := by
  have HF := Lib.hid (newS_at true w)
  have HB := Lib.hid ((Below.refl w.heap.size w).alloc (Nat.le_refl _) (.cells (newS true).toArray 65))
  go_enter Try.func8, Try.ntmps8
  go_upto_region 1 with fail
  refine wp_region_lit ?_
  refine wpList_buildTo rfl 65 _ rfl _ rfl (newS true).toArray (by kernel_rfl) ?_
  refine Great.wpList_boxTo rfl 65 _ rfl _ rfl w.heap.size rfl (newS true).toArray rfl ?_
  obtain ⟨V, hV⟩ : ∃ V, V = w.alloc (.cells (newS true).toArray 65) := ⟨_, rfl⟩
  rw [← hV] at HF HB ⊢
  clear hV
  go_wp2
  go_ret
  exact ⟨rfl, HF.out, HB.out⟩
theorem own19_any (p : Int) (w : World) : Calls Try.prog 35 #[.int .i64 p] w fun e w' => e = .returned (.bool (ownP p)) ∧ w = w' := by
  have hc : (ownP p = true ∧ 0 ≤ p ∧ p < 8) ∨ (ownP p = false ∧ ¬ 0 ≤ p) ∨ (ownP p = false ∧ 0 ≤ p ∧ ¬ p < 8) := by
    unfold ownP
    by_cases h1 : 0 ≤ p
    · by_cases h2 : p < 8
      · exact .inl ⟨by simp [h1, h2], h1, h2⟩
      · exact .inr (.inr ⟨by simp [h2], h1, h2⟩)
    · exact .inr (.inl ⟨by simp [h1], h1⟩)
  rcases hc with ⟨ho, h1, h2⟩ | ⟨ho, h1⟩ | ⟨ho, h1, h2⟩
  all_goals
    rw [ho]
    clear ho
    go_enter Try.func35, Try.ntmps35
    go_wp2
    go_ret
    exact ⟨rfl, rfl⟩
section
variable {W W' : World} {g : Nat} {m : Bool} {l : List Ln}
theorem there_nil (W : World) : Calls Try.prog 29 #[.pointer none] W fun e w' => e = .returned (.slice none 0 0) ∧ W = w' := by
  go_enter Try.func29, Try.ntmps29
  go_wp2
  go_ret
  exact ⟨rfl, rfl⟩
theorem there_any (h : LS19 W g m l) : Calls Try.prog 29 #[.pointer (some ⟨g, 0, none⟩)] W fun e w' => e = .returned (.slice (some ⟨g, 2, none⟩) l.length 32) ∧ Below W.heap.size W w' := by
  obtain ⟨n, hn⟩ : ∃ n : Nat, l.length = n := ⟨_, rfl⟩
  have c1 := h.pre.2
  have hlt := h.lt
  have h32 := h.len
  rw [hn] at c1 h32 ⊢
  have b0 : (0 : Int) ≤ (n : Int) := by omega
  have b1 : (n : Int) ≤ 32 := by omega
  have HB := Lib.hid (Below.refl W.heap.size W)
  clear h hn
  go_enter Try.func29, Try.ntmps29
  go_upto_region 3 with fail
  go_quiet (fail)
  go_wp2
  go_ret
  exact ⟨rfl, drewN_below HB.out _⟩
end

/-- a key's closure; a page's -/
theorem hasKey19_any (p q : Int) (w : World) : Calls Try.prog 30 #[.agg #[.int .i64 p, .int .i64 q]] w fun e w' => e = .returned (.func (.func 39) #[] #[.pointer (some ⟨w.heap.size, 0, none⟩)]) ∧ Blk w' w.heap.size 30 [.int .i64 p, .int .i64 q] ∧ Below w.heap.size w w' := by
  have HB := Lib.hid ((Below.refl w.heap.size w).alloc (Nat.le_refl _) (.cells #[.int .i64 p, .int .i64 q] 30))
  have HN := Lib.hid (Blk.new w 30 [.int .i64 p, .int .i64 q])
  go_enter Try.func30, Try.ntmps30
  go_wp2
  go_ret
  exact ⟨rfl, HN.out, HB.out⟩
theorem through_any (p : Int) (w : World) : Calls Try.prog 32 #[.int .i64 p] w fun e w' => e = .returned (.func (.func 40) #[] #[.pointer (some ⟨w.heap.size, 0, none⟩)]) ∧ Blk w' w.heap.size 3 [.int .i64 p] ∧ Below w.heap.size w w' := by
  have HB := Lib.hid ((Below.refl w.heap.size w).alloc (Nat.le_refl _) (.cells #[.int .i64 p] 3))
  have HN := Lib.hid (Blk.new w 3 [.int .i64 p])
  go_enter Try.func32, Try.ntmps32
  go_wp2
  go_ret
  exact ⟨rfl, HN.out, HB.out⟩
theorem hasKey119_any (p q : Int) (k : Nat) (x : Ln) (w : World) (h : Blk w k 30 [.int .i64 p, .int .i64 q]) : Calls Try.prog 39 #[x.v, .pointer (some ⟨k, 0, none⟩)] w fun e w' => e = .returned (.bool (x.is p q)) ∧ Below w.heap.size w w' := by
  have k0 := h.cell (j := 0) rfl
  have k1 := h.cell (j := 1) rfl
  have kl := h.lt
  have hcases := isS_cases x p q
  obtain ⟨kr, kp, ep, ef, er, rt, lf⟩ := x
  have HB := Lib.hid ((Below.refl w.heap.size w).alloc (Nat.le_refl _) (.cells #[.int .i64 kr, .int .i64 kp, .int .i64 ep, .int .i64 ef, .int .i64 er, .int .i64 rt, .int .i64 lf] 62))
  dsimp only at hcases ⊢
  clear h
  rcases hcases with ⟨hy, h1, h2⟩ | ⟨hy, h1⟩ | ⟨hy, h1, h2⟩
  · subst h1 h2
    rw [hy]
    clear hy
    go_enter Try.func39, Try.ntmps39
    go_wp2
    go_ret
    exact ⟨rfl, HB.out⟩
  · rw [hy]
    clear hy
    go_enter Try.func39, Try.ntmps39
    go_wp2
    go_ret
    exact ⟨rfl, HB.out⟩
  · subst h1
    rw [hy]
    clear hy
    go_enter Try.func39, Try.ntmps39
    go_wp2
    go_ret
    exact ⟨rfl, HB.out⟩
theorem through1_any (p : Int) (k : Nat) (x : Ln) (w : World) (h : Blk w k 3 [.int .i64 p]) : Calls Try.prog 40 #[x.v, .pointer (some ⟨k, 0, none⟩)] w fun e w' => e = .returned (.bool (x.by_ p)) ∧ Below w.heap.size w w' := by
  have k0 := h.cell (j := 0) rfl
  have kl := h.lt
  have hcases := by_cases_ x p
  obtain ⟨kr, kp, ep, ef, er, rt, lf⟩ := x
  have HB := Lib.hid ((Below.refl w.heap.size w).alloc (Nat.le_refl _) (.cells #[.int .i64 kr, .int .i64 kp, .int .i64 ep, .int .i64 ef, .int .i64 er, .int .i64 rt, .int .i64 lf] 62))
  dsimp only at hcases ⊢
  clear h
  rcases hcases with ⟨hy, h1⟩ | ⟨hy, h1, h2⟩ | ⟨hy, h1, h2⟩
  all_goals
    rw [hy]
    clear hy
    go_enter Try.func40, Try.ntmps40
    go_wp2
    go_ret
    exact ⟨rfl, HB.out⟩
theorem flush119_any (x : Ln) (w : World) : Calls Try.prog 38 #[x.v] w fun e w' => e = .returned (.bool true) ∧ Below w.heap.size w w' := by
  obtain ⟨kr, kp, ep, ef, er, rt, lf⟩ := x
  have HB := Lib.hid ((Below.refl w.heap.size w).alloc (Nat.le_refl _) (.cells #[.int .i64 kr, .int .i64 kp, .int .i64 ep, .int .i64 ef, .int .i64 er, .int .i64 rt, .int .i64 lf] 62))
  go_enter Try.func38, Try.ntmps38
  go_wp2
  go_ret
  exact ⟨rfl, HB.out⟩
/-- Gone's closure asks another one first -/
theorem gone119_any (p : Int) (k kf kt : Nat) (x : Ln) (w : World) (h : Blk w k 3 [.int .i64 p]) (hf : Blk w kf 72 [.func (.func 40) #[] #[.pointer (some ⟨kt, 0, none⟩)]]) (ht : Blk w kt 3 [.int .i64 p]) :
    Calls Try.prog 34 #[x.v, .pointer (some ⟨kf, 0, none⟩), .pointer (some ⟨k, 0, none⟩)] w fun e w' => e = .returned (.bool (goF p true x)) ∧ Below w.heap.size w w' := by
  obtain ⟨U, hU⟩ : ∃ U, U = w.alloc (.cells #[.int .i64 x.kr, .int .i64 x.kp, .int .i64 x.ep, .int .i64 x.ef, .int .i64 x.er, .int .i64 x.rt, .int .i64 x.lf] 62) := ⟨_, rfl⟩
  have hB : Below w.heap.size w U := by rw [hU]; exact (Below.refl _ _).alloc (Nat.le_refl _) _
  have hN : Blk U w.heap.size 62 (encI x.l) := by rw [hU]; exact Blk.new w _ _
  have hk := h.more hB
  have hkf := hf.more hB
  have HC := Lib.hid (through1_any p kt x U (ht.more hB))
  have HK := Lib.hid hk
  have HN := Lib.hid hN
  have HU := Lib.hid hU
  have HB := Lib.hid hB
  have f0 := hkf.cell (j := 0) rfl
  have fl := hkf.lt
  have x0 := hN.cell (j := 0) rfl
  have x1 := hN.cell (j := 1) rfl
  have x2 := hN.cell (j := 2) rfl
  have x3 := hN.cell (j := 3) rfl
  have x4 := hN.cell (j := 4) rfl
  have x5 := hN.cell (j := 5) rfl
  have x6 := hN.cell (j := 6) rfl
  have xl := hN.lt
  have hg : goF p true x = (x.by_ p || (x.ep == p)) := by unfold goF; rw [Bool.true_and]
  rw [hg]
  generalize x.by_ p = t at HC ⊢
  clear h hf ht hB hN hU hk hkf hg
  obtain ⟨kr, kp, ep, ef, er, rt, lf⟩ := x
  dsimp only [Ln.l] at HU HC x0 x1 x2 x3 x4 x5 x6 HN ⊢
  go_enter Try.func34, Try.ntmps34
  go_upto_region 1 with fail
  rw [← HU.out]
  clear HU
  cases t
  · go_wp2_with fail
    refine HC.out.mono ?_
    rintro e w1 ⟨rfl, hb1⟩
    have HB1 := Lib.hid (HB.out.trans (hb1.mono HB.out.size))
    have hN1 := HN.out.more hb1
    have hK1 := HK.out.more hb1
    have k0 := hK1.cell (j := 0) rfl
    have kl := hK1.lt
    have y2 := hN1.cell (j := 2) rfl
    have yl := hN1.lt
    clear hb1 HC x0 x1 x2 x3 x4 x5 x6 xl f0 fl hN1 hK1
    go_wp2
    go_ret
    exact ⟨rfl, HB1.out⟩
  · go_wp2_with fail
    refine HC.out.mono ?_
    rintro e w1 ⟨rfl, hb1⟩
    have HB1 := Lib.hid (HB.out.trans (hb1.mono HB.out.size))
    clear hb1 HC x0 x1 x2 x3 x4 x5 x6 xl f0 fl
    go_wp2
    go_ret
    exact ⟨rfl, HB1.out⟩
end Go.Proofs.Ytcdiigdbjncpeaa.Sw
