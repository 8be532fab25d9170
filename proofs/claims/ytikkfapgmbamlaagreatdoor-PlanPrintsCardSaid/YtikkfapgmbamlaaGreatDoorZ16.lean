/- Several texts in one: Pf Pg -/
import Derived.Test.YtikkfapgmbamlaaGreatDoorZ15
section
/- (*Table).with: the runs with one in the middle of nobody's. (Laid by wip/tools/gen_with.py.) -/
namespace Go.Proofs.YtikkfapgmbamlaaGreatDoor.Pt
open Go.RowKit Go.Shelf Ut
set_option linter.unusedVariables false
attribute [local go_sem] Oper.semAt_some

/-- one round of with's loop -/
def withStep (g : BR) (rs : List R3) (x : BR) : List R3 :=
  if g.1.f < x.1.f ∨ x.1.f + x.1.n ≤ g.1.f then putL rs x.1
  else putL (putL (putL rs ⟨x.1.f, g.1.f - x.1.f, -1⟩) g.1) ⟨g.1.f + g.1.n, x.1.f + x.1.n - (g.1.f + g.1.n), -1⟩
def withL (g : BR) (xs : List BR) : List R3 := xs.foldl (withStep g) []
theorem withL_snoc (g : BR) (xs : List BR) (x : BR) : withL g (xs ++ [x]) = withStep g (withL g xs) x := by simp [withL]
theorem withStep_length (g : BR) (rs : List R3) (x : BR) : (withStep g rs x).length ≤ rs.length + 3 := by
  unfold withStep
  split
  · have := putL_length rs x.1; omega
  · have h1 := putL_length rs ⟨x.1.f, g.1.f - x.1.f, -1⟩
    have h2 := putL_length (putL rs ⟨x.1.f, g.1.f - x.1.f, -1⟩) g.1
    have h3 := putL_length (putL (putL rs ⟨x.1.f, g.1.f - x.1.f, -1⟩) g.1) ⟨g.1.f + g.1.n, x.1.f + x.1.n - (g.1.f + g.1.n), -1⟩
    omega
theorem withL_length (g : BR) (xs : List BR) : (withL g xs).length ≤ 3 * xs.length := by
  suffices h : ∀ rs, (xs.foldl (withStep g) rs).length ≤ rs.length + 3 * xs.length by have := h []; simpa [withL] using this
  induction xs with
  | nil => intro rs; simp
  | cons x xs ih =>
    intro rs
    have h1 := ih (withStep g rs x)
    have h2 := withStep_length g rs x
    simp only [List.foldl_cons, List.length_cons]
    omega

/-- the runs' box holds v, which owns L; the given run, the loop's run lie in their variables -/
def WS (w : World) (h Bx : Nat) (g x : R3) (Wb W : World) (v : Value) (L : List R3) : Prop :=
  Boxed W (h + 1) 105 v ∧ OwnS W (h + 3) v L ∧ Run3 W h g ∧ Run3 W Bx x ∧ some Bx ≠ v.ownBlock ∧ Below h w W ∧ KeepsFrom (h + 3) Wb W ∧ Below h Wb W ∧ h + 3 ≤ W.heap.size

theorem WS.step {w : World} {h Bx : Nat} {g x : R3} {Wb W W' : World} {v : Value} {L : List R3} (H : WS w h Bx g x Wb W v L) (hb : Below W.heap.size W W') (hk : KeepsFrom (h + 3) W W') : WS w h Bx g x Wb W' v L := by
  obtain ⟨h1, h2, h3, h4, h5, h6, h7, h8, h9⟩ := H
  exact ⟨(hb.block _ h1.lt).trans h1, h2.below hb, h3.below hb h3.lt, h4.below hb h4.lt, h5, h6.trans (hb.mono (by omega)), h7.trans hk, h8.trans (hb.mono (by omega)), by have := hb.size; omega⟩
theorem WS.alloc {w : World} {h Bx : Nat} {g x : R3} {Wb W : World} {v : Value} {L : List R3} (H : WS w h Bx g x Wb W v L) (o : Obj) : WS w h Bx g x Wb (W.alloc o) v L :=
  H.step ((Below.refl _ _).alloc (Nat.le_refl _) _) ((KeepsOthers.alloc _ _).from _)
theorem WS.drew {w : World} {h Bx : Nat} {g x : R3} {Wb W : World} {v : Value} {L : List R3} (H : WS w h Bx g x Wb W v L) : WS w h Bx g x Wb W.drew v L :=
  H.step (Below.refl _ _).drew ((KeepsOthers.drew _).from _)

theorem OwnS.slice {w : World} {B : Nat} {v : Value} {rs : List R3} (h : OwnS w B v rs) : ∃ a n cap, v = .slice a n cap := by
  rcases h.2 with ⟨rfl, _⟩ | ⟨g, cap, cur, rfl, _⟩
  · exact ⟨_, _, _, rfl⟩
  · exact ⟨_, _, _, rfl⟩
theorem OwnS.at_least {w : World} {B : Nat} {v : Value} {rs : List R3} (h : OwnS w B v rs) {q : Nat} (hq : v.ownBlock = some q) : B ≤ q ∧ q < w.heap.size ∧ ∃ o, w.heap[q]? = some o ∧ o.isCells = true := by
  rcases h.2 with ⟨rfl, _⟩ | ⟨g, cap, cur, rfl, hb, hg, _⟩
  · cases hq
  · injection hq with hq
    subst hq
    exact ⟨hb, (Array.getElem?_eq_some_iff.1 hg).1, _, hg, rfl⟩

/-- behind put: what the store of the new row into the box leaves -/
theorem WS.put {w : World} {h Bx : Nat} {g x : R3} {Wb W w1 : World} {v : Value} {L L' : List R3} {e : Ending} (H : WS w h Bx g x Wb W v L) (hBx : h + 1 < Bx) (hp : PutPost W (h + 3) v L' e w1) :
    ∃ ra rn rc, e = .returned (.slice ra rn rc) ∧ w1.cell? ⟨h + 1, 0, none⟩ = some v ∧ w1.frozen? ⟨h + 1, 0, none⟩ = false ∧ WS w h Bx g x Wb (w1.setCell ⟨h + 1, 0, none⟩ (.slice ra rn rc)) (.slice ra rn rc) L' := by
  obtain ⟨h1, h2, h3, h4, h5, h6, h7, h8, h9⟩ := H
  obtain ⟨v1, rfl, hown, hg, hat⟩ := hp
  obtain ⟨ra, rn, rc, hv⟩ := hown.slice
  have hq : ∀ q, v.ownBlock = some q → h + 3 ≤ q ∧ q < W.heap.size := fun q e => ⟨(h2.at_least e).1, (h2.at_least e).2.1⟩
  have hne : ∀ b, b < h + 3 → some b ≠ v.ownBlock := fun b hb e => by have := (hq b e.symm).1; omega
  have b1 : Boxed w1 (h + 1) 105 v := h1.kept hg (hne _ (by omega))
  have hv1 : ∀ b, b < h + 3 → some b ≠ v1.ownBlock := fun b hb e => by have := (hown.at_least e.symm).1; omega
  have hBxl := h4.lt
  subst hv
  refine ⟨ra, rn, rc, rfl, b1.cell, b1.frozen, b1.set _, ?_, ?_, ?_, ?_, ?_, ?_, ?_, ?_⟩
  · exact World.ownsRow.kept hown (grownBy_setCell' w1 (h + 1) _) (.inr fun e => hv1 (h + 1) (by omega) e.symm)
  · exact (h3.kept hg (hne _ (by omega))).other (by omega) _ _
  · exact (h4.kept hg h5).other (by omega) _ _
  · rcases hat with hat | ⟨q, hat, hq1⟩
    · rw [hat]; exact h5
    · rw [hat]; intro e; injection e with e; omega
  · exact (h6.grown hg (by omega) fun q hq' => by have := (hq q hq').1; omega).setCell (p := ⟨h + 1, 0, none⟩) (by simp) _
  · refine (h7.trans ((KeepsOthers.of_grownBy hg fun j o ej hj => ?_).from _)).trans ((KeepsOthers.setCell _ _ _).from _)
    obtain ⟨_, _, o', ho', hc⟩ := h2.at_least ej
    rw [hj] at ho'
    cases ho'
    exact hc
  · exact (h8.grown hg (by omega) fun q hq' => by have := (hq q hq').1; omega).setCell (p := ⟨h + 1, 0, none⟩) (by simp) _
  · have h1 := hg.size
    have h2 : (w1.setCell ⟨h + 1, 0, none⟩ (.slice ra rn rc)).heap.size = w1.heap.size := by simp [World.setCell]
    omega

/-- between two rounds of with's loop -/
def WithI (w : World) (h : Nat) (g : BR) (pre : List BR) (W : World) : Prop :=
  (((∃ v, Boxed W (h + 1) 105 v ∧ W.ownsRow (h + 3) 108 3 v (withL g pre).length (cs3 (withL g pre)) ∧ True) ∧ Run3 W h g.1) ∧ h + 3 ≤ W.heap.size) ∧ Below h w W
theorem withI_own (w : World) (g : BR) (B : Nat) (hB : w.heap.size ≤ B) : OwnFrom B (WithI w w.heap.size g) :=
  OwnFrom.and (OwnFrom.and (OwnFrom.and (Own.from (holdsRow_own _ _ _ _ 3 (fun pre : List BR => (withL g pre).length) (fun pre => cs3 (withL g pre)) (fun _ _ => True)) _) (Own.from (run3_own _ _) _)) (ownFrom_size _ _)) (ownFrom_below (Nat.le_refl _) hB)

set_option maxRecDepth 100000 in
set_option maxHeartbeats 8000000 in
theorem with_any (p : Option Addr) (g : BR) (xs : List BR) (w : World) (hT : Tbl w w.heap.size p xs) (hl : xs.length ≤ 64) :
    Calls Tryz.prog 80 #[.pointer p, .agg #[.int .i64 g.1.f, .int .i64 g.1.n, .int .i64 g.1.w]] w fun e W' => ∃ v, e = .returned v ∧ OwnS W' w.heap.size v (withL g xs) ∧ Below w.heap.size w W' := by
  refine (callsIn_wide (n := 102)).1 ?_
  refine callsIn_of_wp_marks Tryz.func80 rfl trivial ?_ rfl
  simp only [Tryz.ntmps80, List.size_toArray, List.length_cons, List.length_nil, Nat.reduceAdd, Nat.reduceSub, Array.replicate_succ, Array.replicate_zero, List.push_toArray, List.append_toArray, List.nil_append, List.cons_append]
  gi_wp2_with (refine ⟨trivial, ?_⟩; gi_at_call 88; refine (callsIn_wide.2 (each_any _ _)).mono ?_; rintro e w' ⟨rfl, rfl⟩)
  have bG := ((Run3.new w g.1).alloc (.cells #[.slice none 0 0] 105)).alloc (.cells #[.pointer p] 86)
  have bR := (Boxed.new (w.alloc (.cells #[.int .i64 g.1.f, .int .i64 g.1.n, .int .i64 g.1.w] 108)) 105 (.slice none 0 0)).alloc (.cells #[.pointer p] 86)
  have bN := Boxed.new ((w.alloc (.cells #[.int .i64 g.1.f, .int .i64 g.1.n, .int .i64 g.1.w] 108)).alloc (.cells #[.slice none 0 0] 105)) 86 (.pointer p)
  simp only [World.size_alloc] at bR bN
  have hB0 := (((Below.refl w.heap.size w).alloc (Nat.le_refl _) (.cells #[.int .i64 g.1.f, .int .i64 g.1.n, .int .i64 g.1.w] 108)).alloc (by simp) (.cells #[.slice none 0 0] 105)).alloc (by simp; omega) (.cells #[.pointer p] 86)
  have hsz : (((w.alloc (.cells #[.int .i64 g.1.f, .int .i64 g.1.n, .int .i64 g.1.w] 108)).alloc (.cells #[.slice none 0 0] 105)).alloc (.cells #[.pointer p] 86)).heap.size = w.heap.size + 3 := by simp
  obtain ⟨W0, hW0⟩ : ∃ W0, ((w.alloc (.cells #[.int .i64 g.1.f, .int .i64 g.1.n, .int .i64 g.1.w] 108)).alloc (.cells #[.slice none 0 0] 105)).alloc (.cells #[.pointer p] 86) = W0 := ⟨_, rfl⟩
  rw [hW0] at bG bR bN hB0 hsz ⊢
  clear hW0
  have hsz1 : w.heap.size + 3 ≤ W0.heap.size := by omega
  have hsz2 : W0.heap.size ≤ w.heap.size + 3 := by omega
  have HZ := Lib.hid hsz
  clear hsz
  refine wpIn_rangeFunc_ownH rfl (by omega) (gf := 97) (lb := #[.pointer (some ⟨w.heap.size + 1 + 1, 0, none⟩)]) rfl trivial (enters_of Tryz.func97 (by kernel_rfl) rfl)
    (each_stops (w.heap.size + 1 + 1) w.heap.size p xs W0 (by omega) (by omega) bN.cell (hT.below hB0)) belowK_t (belowK_b (by omega)) (Below.refl _ _) (fun _ => rfl)
    (WithI w w.heap.size g) (fun _ _ _ => False) (withI_own w g _ (by omega)) (fun _ _ _ _ _ hs _ _ => hs)
    ⟨⟨⟨⟨_, bR, World.ownsRow_nil _ _ _ _, trivial⟩, bG⟩, hsz1⟩, hB0⟩
    (fun x a' W => ∃ Bx v, w.heap.size + 2 < Bx ∧ (Run3 W Bx x.1 ∧ Boxed W (w.heap.size + 1) 105 v) ∧ some Bx ≠ v.ownBlock ∧ a' = { tmps := #[.pointer p, g.1.v, undef, .pointer (some ⟨w.heap.size, 0, none⟩), .slice none 0 0, .pointer (some ⟨w.heap.size + 1, 0, none⟩), .pointer (some ⟨Bx, 0, none⟩), .pointer p, .func (.func 97) #[] #[.pointer (some ⟨w.heap.size + 1 + 1, 0, none⟩)], x.1.v, undef, undef, undef, undef, undef, undef, undef, undef, undef, undef, undef, undef, undef, undef, undef, undef, undef, undef, undef, undef, undef, undef, undef, undef, undef, undef, undef, undef, undef, undef, undef, undef, undef, undef, undef, undef, undef, undef, undef], defers := [] })
    (fun x a' s X Y row hs hg hr => by
      obtain ⟨Bx, v, h1, h2, h3, h4⟩ := hs
      exact ⟨Bx, v, h1, (OwnFrom.and (B := W0.heap.size) (Own.from (run3_own Bx fun _ => x.1) _) (Own.from (boxed_own _ _ fun _ => v) _)) s X Y row h2 hg hr, h3, h4⟩)
    ?assign ?body ?done ?stop
  case assign =>
    rintro l pre x W K ⟨⟨⟨⟨v, bR1, ho1, _⟩, bG1⟩, hz1⟩, hB1⟩ hK
    dsimp only [enc1, R3.v]
    gi_wp2
    exact hK _ _ ((KeepsOthers.alloc _ _).from _) ((Below.refl _ W).alloc hB1.size _) ⟨⟨⟨⟨v, bR1.alloc _, ho1.alloc _, trivial⟩, bG1.alloc _⟩, by simp; omega⟩, hB1.alloc hB1.size _⟩
      ⟨W.heap.size, v, by omega, ⟨Run3.new W _, bR1.alloc _⟩, fun e => by have := (OwnS.at_least ho1 e.symm).2.1; omega, rfl⟩
  case body =>
    rintro l pre x a' W hl' ⟨r, hr⟩ ⟨⟨⟨⟨v0, bR1, ho1, _⟩, bG1⟩, hz1⟩, hB1⟩ ⟨Bx, v, hBx, ⟨bX, bR2⟩, hne, rfl⟩ hlt
    obtain rfl : v = v0 := by
      have h1 : W.heap[w.heap.size + 1]? = _ := bR1
      have h2 : W.heap[w.heap.size + 1]? = _ := bR2
      rw [h1] at h2
      injection h2 with h2
      injection h2 with h2
      simpa using h2.symm
    have hlen := withL_length g pre
    have HS : WS w w.heap.size Bx g.1 x.1 W W v (withL g pre) := ⟨bR1, ho1, bG1, bX, hne, hB1, KeepsFrom.refl _ _, Below.refl _ _, hz1⟩
    have hmx : Tryz.prog.follows .mixedOrders = true := by kernel_rfl
    have hfin : ∀ (W' : World) (v' : Value), WS w w.heap.size Bx g.1 x.1 W W' v' (withStep g (withL g pre) x) → KeepsFrom W0.heap.size W W' ∧ Below w.heap.size W W' ∧ WithI w w.heap.size g (pre ++ [x]) W' := fun W' v' H => by
      obtain ⟨h1, h2, h3, h4, h5, h6, h7, h8, h9⟩ := H
      refine ⟨by rw [HZ.out]; exact h7, h8, ⟨⟨⟨v', h1, ?_, trivial⟩, h3⟩, h9⟩, h6⟩
      rw [withL_snoc]; exact h2
    have HF := Lib.hid hfin
    have HR := Lib.hid hr
    clear hfin hr hT bG bR bN bR1 bR2 ho1 bG1 bX hne
    obtain ⟨x1, x2, x3, x4, _, _⟩ := x.2
    obtain ⟨g1, g2, g3, g4, _, _⟩ := g.2
    have hsx : wrap64 (x.1.f + x.1.n) = x.1.f + x.1.n := IntWalk.wrap64_in _ ⟨by omega, by omega⟩
    have HSx := Lib.hid hsx
    clear hsx
    have hsg : wrap64 (g.1.f + g.1.n) = g.1.f + g.1.n := IntWalk.wrap64_in _ ⟨by omega, by omega⟩
    have HSg := Lib.hid hsg
    clear hsg
    have hs7 : IntKind.i64.wrap (x.1.f + x.1.n - (g.1.f + g.1.n)) = x.1.f + x.1.n - (g.1.f + g.1.n) := IntWalk.i64_in _ (by omega)
    have HW7 := Lib.hid hs7
    clear hs7
    by_cases c1 : g.1.f < x.1.f
    · have hst : withStep g (withL g pre) x = putL (withL g pre) x.1 := by unfold withStep; rw [if_pos (.inl c1)]
      have HT := Lib.hid hst
      clear hst
      have c1' : decide (g.1.f < x.1.f) = true := by simpa using c1
      gi_wp2
      refine wpIn_region_by (.inr ⟨l, rfl⟩) (by kernel_rfl) (fun ⟨_, _, h⟩ => h) hmx
        (fun y => #[.pointer p, g.1.v, undef, .pointer (some ⟨w.heap.size, 0, none⟩), .slice none 0 0, .pointer (some ⟨w.heap.size + 1, 0, none⟩), .pointer (some ⟨Bx, 0, none⟩), .pointer p, .func (.func 97) #[] #[.pointer (some ⟨w.heap.size + 1 + 1, 0, none⟩)], x.1.v, y 0, y 1, y 2, y 3, y 4, y 5, y 6, y 7, y 8, y 9, y 10, undef, undef, undef, undef, undef, undef, undef, undef, undef, undef, undef, undef, undef, undef, undef, undef, undef, undef, undef, undef, undef, undef, undef, undef, undef, undef, undef, undef])
        (fun j v _ => match j with | 0 => v = .pointer (some ⟨w.heap.size, 0, none⟩) | 1 => v = .int .i64 g.1.f | 2 => v = .pointer (some ⟨Bx, 0, none⟩) | 3 => v = .int .i64 x.1.f | 4 => v = .bool true | 5 => v = .bool true | 6 => v = undef | 7 => v = undef | 8 => v = undef | 9 => v = undef | 10 => v = undef | _ => True)
        (fun _ W' => WS w w.heap.size Bx g.1 x.1 W W' v (withL g pre)) (fun _ _ _ => True) (by kernel_rfl) (by decide) (fun _ _ _ _ _ _ _ _ _ _ _ h => h) (fun _ => undef) rfl (fun _ _ => HS.drew) ?_
      refine steps_op [] (by kernel_rfl) (fun L y w' hL hcl HW hd K hK => ?_) ?_
      · go_simp
        exact hK _ _ _ (by simp [upd]) rfl HW trivial
      refine steps_op [0] (by kernel_rfl) (fun L y w' hL hcl HW hd K hK => ?_) ?_
      · have e0 : y 0 = .pointer (some ⟨w.heap.size, 0, none⟩) := hd 0 (by simp)
        obtain ⟨a1, a2, a3⟩ := HW.2.2.1.cell
        go_simp
        exact hK _ _ _ (by simp [upd, e0]) rfl HW trivial
      refine steps_op [] (by kernel_rfl) (fun L y w' hL hcl HW hd K hK => ?_) ?_
      · go_simp
        exact hK _ _ _ (by simp [upd]) rfl HW trivial
      refine steps_op [2] (by kernel_rfl) (fun L y w' hL hcl HW hd K hK => ?_) ?_
      · have e2 : y 2 = .pointer (some ⟨Bx, 0, none⟩) := hd 2 (by simp)
        obtain ⟨b1, b2, b3⟩ := HW.2.2.2.1.cell
        go_simp
        exact hK _ _ _ (by simp [upd, e2]) rfl HW trivial
      refine steps_op [1, 3] (by kernel_rfl) (fun L y w' hL hcl HW hd K hK => ?_) ?_
      · have e1 : y 1 = .int .i64 g.1.f := hd 1 (by simp)
        have e3 : y 3 = .int .i64 x.1.f := hd 3 (by simp)
        go_simp
        exact hK _ _ _ (by simp [upd, e1, e3]) rfl HW trivial
      refine steps_op [4] (by kernel_rfl) (fun L y w' hL hcl HW hd K hK => ?_) ?_
      · have e4 : y 4 = .bool true := hd 4 (by simp)
        go_simp
        exact hK _ _ _ (by simp [upd, e4]) rfl HW trivial
      refine steps_op [5] (by kernel_rfl) (fun L y w' hL hcl HW hd K hK => ?_) ?_
      · have e5 : y 5 = .bool true := hd 5 (by simp)
        go_simp
        exact hK _ _ _ (by simp [upd, e5]) rfl HW trivial
      refine steps_op [6, 5] (by kernel_rfl) (fun L y w' hL hcl HW hd K hK => ?_) ?_
      · have e5 : y 5 = .bool true := hd 5 (by simp)
        have e6 : y 6 = undef := hd 6 (by simp)
        go_simp
        exact hK _ _ _ (by simp [upd, e5, e6]) rfl HW trivial
      refine steps_op [5] (by kernel_rfl) (fun L y w' hL hcl HW hd K hK => ?_) ?_
      · have e5 : y 5 = .bool true := hd 5 (by simp)
        go_simp
        exact hK _ _ _ (by simp [upd, e5]) rfl HW trivial
      refine steps_op [8, 5, 5] (by kernel_rfl) (fun L y w' hL hcl HW hd K hK => ?_) ?_
      · have e5 : y 5 = .bool true := hd 5 (by simp)
        have e8 : y 8 = undef := hd 8 (by simp)
        go_simp
        exact hK _ _ _ (by simp [upd, e5, e8]) rfl HW trivial
      refine steps_op [7, 9, 5] (by kernel_rfl) (fun L y w' hL hcl HW hd K hK => ?_) ?_
      · have e5 : y 5 = .bool true := hd 5 (by simp)
        have e7 : y 7 = undef := hd 7 (by simp)
        have e9 : y 9 = undef := hd 9 (by simp)
        go_simp
        exact hK _ _ _ (by simp [upd, e5, e7, e9]) rfl HW trivial
      refine steps_last fun L y w' hL hLs HW hd K hK => ?_
      have e0 : y 0 = .pointer (some ⟨w.heap.size, 0, none⟩) := hd 0 (by omega)
      have e1 : y 1 = .int .i64 g.1.f := hd 1 (by omega)
      have e2 : y 2 = .pointer (some ⟨Bx, 0, none⟩) := hd 2 (by omega)
      have e3 : y 3 = .int .i64 x.1.f := hd 3 (by omega)
      have e4 : y 4 = .bool true := hd 4 (by omega)
      have e5 : y 5 = .bool true := hd 5 (by omega)
      have e6 : y 6 = undef := hd 6 (by omega)
      have e7 : y 7 = undef := hd 7 (by omega)
      have e8 : y 8 = undef := hd 8 (by omega)
      have e9 : y 9 = undef := hd 9 (by omega)
      have e10 : y 10 = undef := hd 10 (by omega)
      go_simp
      refine hK _ _ ?_
      replace HW : WS w w.heap.size Bx g.1 x.1 W w' v (withL g pre) := HW

      have q0 := HW.1.cell
      obtain ⟨b1, b2, b3⟩ := HW.2.2.2.1.cell
      clear e0 e1 e2 e3 e4 e5 e6 e7 e8 e9 e10 hd
      gi_wp2_with fail
      refine ⟨trivial, ?_⟩
      gi_at_call 64
      refine (CallsIn.inRound l (callsIn_wide.2 (put_any v (withL g pre) x.1 (w.heap.size + 3) _ HW.2.1 HW.2.2.2.2.2.2.2.2 (by omega)))).mono ?_
      intro e w1 hp
      obtain ⟨ra, rn, rc, rfl, q2, q3, H0⟩ := HW.put (by omega) hp
      have H1 := Lib.hid H0
      clear H0 HW hp
      gi_wp2
      exact HF.out _ _ (by rw [HT.out]; exact H1.out)
    · have c1' : decide (g.1.f < x.1.f) = false := by simpa using c1
      by_cases c2 : x.1.f + x.1.n ≤ g.1.f
      · have hst : withStep g (withL g pre) x = putL (withL g pre) x.1 := by unfold withStep; rw [if_pos (.inr c2)]
        have HT := Lib.hid hst
        clear hst
        have c2' : decide (x.1.f + x.1.n ≤ g.1.f) = true := by simpa using c2
        gi_wp2
        refine wpIn_region_by (.inr ⟨l, rfl⟩) (by kernel_rfl) (fun ⟨_, _, h⟩ => h) hmx
          (fun y => #[.pointer p, g.1.v, undef, .pointer (some ⟨w.heap.size, 0, none⟩), .slice none 0 0, .pointer (some ⟨w.heap.size + 1, 0, none⟩), .pointer (some ⟨Bx, 0, none⟩), .pointer p, .func (.func 97) #[] #[.pointer (some ⟨w.heap.size + 1 + 1, 0, none⟩)], x.1.v, y 0, y 1, y 2, y 3, y 4, y 5, y 6, y 7, y 8, y 9, y 10, undef, undef, undef, undef, undef, undef, undef, undef, undef, undef, undef, undef, undef, undef, undef, undef, undef, undef, undef, undef, undef, undef, undef, undef, undef, undef, undef, undef])
          (fun j v _ => match j with | 0 => v = .pointer (some ⟨w.heap.size, 0, none⟩) | 1 => v = .int .i64 g.1.f | 2 => v = .pointer (some ⟨Bx, 0, none⟩) | 3 => v = .int .i64 x.1.f | 4 => v = .bool false | 5 => v = .bool false | 6 => v = .pointer (some ⟨w.heap.size, 0, none⟩) | 7 => v = .int .i64 g.1.f | 8 => v = .agg #[.int .i64 x.1.f, .int .i64 x.1.n, .int .i64 x.1.w] | 9 => v = .int .i64 (x.1.f + x.1.n) | 10 => v = .bool true | _ => True)
          (fun _ W' => WS w w.heap.size Bx g.1 x.1 W W' v (withL g pre)) (fun _ _ _ => True) (by kernel_rfl) (by decide) (fun _ _ _ _ _ _ _ _ _ _ _ h => h) (fun _ => undef) rfl (fun _ _ => HS.drew) ?_
        refine steps_op [] (by kernel_rfl) (fun L y w' hL hcl HW hd K hK => ?_) ?_
        · go_simp
          exact hK _ _ _ (by simp [upd]) rfl HW trivial
        refine steps_op [0] (by kernel_rfl) (fun L y w' hL hcl HW hd K hK => ?_) ?_
        · have e0 : y 0 = .pointer (some ⟨w.heap.size, 0, none⟩) := hd 0 (by simp)
          obtain ⟨a1, a2, a3⟩ := HW.2.2.1.cell
          go_simp
          exact hK _ _ _ (by simp [upd, e0]) rfl HW trivial
        refine steps_op [] (by kernel_rfl) (fun L y w' hL hcl HW hd K hK => ?_) ?_
        · go_simp
          exact hK _ _ _ (by simp [upd]) rfl HW trivial
        refine steps_op [2] (by kernel_rfl) (fun L y w' hL hcl HW hd K hK => ?_) ?_
        · have e2 : y 2 = .pointer (some ⟨Bx, 0, none⟩) := hd 2 (by simp)
          obtain ⟨b1, b2, b3⟩ := HW.2.2.2.1.cell
          go_simp
          exact hK _ _ _ (by simp [upd, e2]) rfl HW trivial
        refine steps_op [1, 3] (by kernel_rfl) (fun L y w' hL hcl HW hd K hK => ?_) ?_
        · have e1 : y 1 = .int .i64 g.1.f := hd 1 (by simp)
          have e3 : y 3 = .int .i64 x.1.f := hd 3 (by simp)
          go_simp
          exact hK _ _ _ (by simp [upd, e1, e3]) rfl HW trivial
        refine steps_op [4] (by kernel_rfl) (fun L y w' hL hcl HW hd K hK => ?_) ?_
        · have e4 : y 4 = .bool false := hd 4 (by simp)
          go_simp
          exact hK _ _ _ (by simp [upd, e4]) rfl HW trivial
        refine steps_op [5] (by kernel_rfl) (fun L y w' hL hcl HW hd K hK => ?_) ?_
        · have e5 : y 5 = .bool false := hd 5 (by simp)
          go_simp
          exact hK _ _ _ (by simp [upd, e5]) rfl HW trivial
        refine steps_op [6, 5] (by kernel_rfl) (fun L y w' hL hcl HW hd K hK => ?_) ?_
        · have e5 : y 5 = .bool false := hd 5 (by simp)
          have e6 : y 6 = .pointer (some ⟨w.heap.size, 0, none⟩) := hd 6 (by simp)
          obtain ⟨a1, a2, a3⟩ := HW.2.2.1.cell
          go_simp
          exact hK _ _ _ (by simp [upd, e5, e6]) rfl HW trivial
        refine steps_op [5] (by kernel_rfl) (fun L y w' hL hcl HW hd K hK => ?_) ?_
        · have e5 : y 5 = .bool false := hd 5 (by simp)
          obtain ⟨b1, b2, b3⟩ := HW.2.2.2.1.cell
          go_simp
          exact hK _ _ _ (by simp [upd, e5]) rfl HW trivial
        refine steps_op [8, 5, 5] (by kernel_rfl) (fun L y w' hL hcl HW hd K hK => ?_) ?_
        · have e5 : y 5 = .bool false := hd 5 (by simp)
          have e8 : y 8 = .agg #[.int .i64 x.1.f, .int .i64 x.1.n, .int .i64 x.1.w] := hd 8 (by simp)
          go_simp
          refine (end_any x.1 _).mono ?_
          rintro e w1 ⟨rfl, rfl⟩
          exact hK (.int .i64 (x.1.f + x.1.n)) _ _ (by simp [upd, e5, e8, HSx.out]) rfl (HW.alloc _) trivial
        refine steps_op [7, 9, 5] (by kernel_rfl) (fun L y w' hL hcl HW hd K hK => ?_) ?_
        · have e5 : y 5 = .bool false := hd 5 (by simp)
          have e7 : y 7 = .int .i64 g.1.f := hd 7 (by simp)
          have e9 : y 9 = .int .i64 (x.1.f + x.1.n) := hd 9 (by simp)
          go_simp
          exact hK _ _ _ (by simp [upd, e5, e7, e9]) rfl HW trivial
        refine steps_last fun L y w' hL hLs HW hd K hK => ?_
        have e0 : y 0 = .pointer (some ⟨w.heap.size, 0, none⟩) := hd 0 (by omega)
        have e1 : y 1 = .int .i64 g.1.f := hd 1 (by omega)
        have e2 : y 2 = .pointer (some ⟨Bx, 0, none⟩) := hd 2 (by omega)
        have e3 : y 3 = .int .i64 x.1.f := hd 3 (by omega)
        have e4 : y 4 = .bool false := hd 4 (by omega)
        have e5 : y 5 = .bool false := hd 5 (by omega)
        have e6 : y 6 = .pointer (some ⟨w.heap.size, 0, none⟩) := hd 6 (by omega)
        have e7 : y 7 = .int .i64 g.1.f := hd 7 (by omega)
        have e8 : y 8 = .agg #[.int .i64 x.1.f, .int .i64 x.1.n, .int .i64 x.1.w] := hd 8 (by omega)
        have e9 : y 9 = .int .i64 (x.1.f + x.1.n) := hd 9 (by omega)
        have e10 : y 10 = .bool true := hd 10 (by omega)
        go_simp
        refine hK _ _ ?_
        replace HW : WS w w.heap.size Bx g.1 x.1 W w' v (withL g pre) := HW

        have q0 := HW.1.cell
        obtain ⟨b1, b2, b3⟩ := HW.2.2.2.1.cell
        clear e0 e1 e2 e3 e4 e5 e6 e7 e8 e9 e10 hd
        gi_wp2_with fail
        refine ⟨trivial, ?_⟩
        gi_at_call 64
        refine (CallsIn.inRound l (callsIn_wide.2 (put_any v (withL g pre) x.1 (w.heap.size + 3) _ HW.2.1 HW.2.2.2.2.2.2.2.2 (by omega)))).mono ?_
        intro e w1 hp
        obtain ⟨ra, rn, rc, rfl, q2, q3, H0⟩ := HW.put (by omega) hp
        have H1 := Lib.hid H0
        clear H0 HW hp
        gi_wp2
        exact HF.out _ _ (by rw [HT.out]; exact H1.out)
      · have hst : withStep g (withL g pre) x = putL (putL (putL (withL g pre) ⟨x.1.f, g.1.f - x.1.f, -1⟩) g.1) ⟨g.1.f + g.1.n, x.1.f + x.1.n - (g.1.f + g.1.n), -1⟩ := by unfold withStep; rw [if_neg (by omega)]
        have HT := Lib.hid hst
        clear hst
        have c2' : decide (x.1.f + x.1.n ≤ g.1.f) = false := by simpa using c2
        gi_wp2
        refine wpIn_region_by (.inr ⟨l, rfl⟩) (by kernel_rfl) (fun ⟨_, _, h⟩ => h) hmx
          (fun y => #[.pointer p, g.1.v, undef, .pointer (some ⟨w.heap.size, 0, none⟩), .slice none 0 0, .pointer (some ⟨w.heap.size + 1, 0, none⟩), .pointer (some ⟨Bx, 0, none⟩), .pointer p, .func (.func 97) #[] #[.pointer (some ⟨w.heap.size + 1 + 1, 0, none⟩)], x.1.v, y 0, y 1, y 2, y 3, y 4, y 5, y 6, y 7, y 8, y 9, y 10, undef, undef, undef, undef, undef, undef, undef, undef, undef, undef, undef, undef, undef, undef, undef, undef, undef, undef, undef, undef, undef, undef, undef, undef, undef, undef, undef, undef])
          (fun j v _ => match j with | 0 => v = .pointer (some ⟨w.heap.size, 0, none⟩) | 1 => v = .int .i64 g.1.f | 2 => v = .pointer (some ⟨Bx, 0, none⟩) | 3 => v = .int .i64 x.1.f | 4 => v = .bool false | 5 => v = .bool false | 6 => v = .pointer (some ⟨w.heap.size, 0, none⟩) | 7 => v = .int .i64 g.1.f | 8 => v = .agg #[.int .i64 x.1.f, .int .i64 x.1.n, .int .i64 x.1.w] | 9 => v = .int .i64 (x.1.f + x.1.n) | 10 => v = .bool false | _ => True)
          (fun _ W' => WS w w.heap.size Bx g.1 x.1 W W' v (withL g pre)) (fun _ _ _ => True) (by kernel_rfl) (by decide) (fun _ _ _ _ _ _ _ _ _ _ _ h => h) (fun _ => undef) rfl (fun _ _ => HS.drew) ?_
        refine steps_op [] (by kernel_rfl) (fun L y w' hL hcl HW hd K hK => ?_) ?_
        · go_simp
          exact hK _ _ _ (by simp [upd]) rfl HW trivial
        refine steps_op [0] (by kernel_rfl) (fun L y w' hL hcl HW hd K hK => ?_) ?_
        · have e0 : y 0 = .pointer (some ⟨w.heap.size, 0, none⟩) := hd 0 (by simp)
          obtain ⟨a1, a2, a3⟩ := HW.2.2.1.cell
          go_simp
          exact hK _ _ _ (by simp [upd, e0]) rfl HW trivial
        refine steps_op [] (by kernel_rfl) (fun L y w' hL hcl HW hd K hK => ?_) ?_
        · go_simp
          exact hK _ _ _ (by simp [upd]) rfl HW trivial
        refine steps_op [2] (by kernel_rfl) (fun L y w' hL hcl HW hd K hK => ?_) ?_
        · have e2 : y 2 = .pointer (some ⟨Bx, 0, none⟩) := hd 2 (by simp)
          obtain ⟨b1, b2, b3⟩ := HW.2.2.2.1.cell
          go_simp
          exact hK _ _ _ (by simp [upd, e2]) rfl HW trivial
        refine steps_op [1, 3] (by kernel_rfl) (fun L y w' hL hcl HW hd K hK => ?_) ?_
        · have e1 : y 1 = .int .i64 g.1.f := hd 1 (by simp)
          have e3 : y 3 = .int .i64 x.1.f := hd 3 (by simp)
          go_simp
          exact hK _ _ _ (by simp [upd, e1, e3]) rfl HW trivial
        refine steps_op [4] (by kernel_rfl) (fun L y w' hL hcl HW hd K hK => ?_) ?_
        · have e4 : y 4 = .bool false := hd 4 (by simp)
          go_simp
          exact hK _ _ _ (by simp [upd, e4]) rfl HW trivial
        refine steps_op [5] (by kernel_rfl) (fun L y w' hL hcl HW hd K hK => ?_) ?_
        · have e5 : y 5 = .bool false := hd 5 (by simp)
          go_simp
          exact hK _ _ _ (by simp [upd, e5]) rfl HW trivial
        refine steps_op [6, 5] (by kernel_rfl) (fun L y w' hL hcl HW hd K hK => ?_) ?_
        · have e5 : y 5 = .bool false := hd 5 (by simp)
          have e6 : y 6 = .pointer (some ⟨w.heap.size, 0, none⟩) := hd 6 (by simp)
          obtain ⟨a1, a2, a3⟩ := HW.2.2.1.cell
          go_simp
          exact hK _ _ _ (by simp [upd, e5, e6]) rfl HW trivial
        refine steps_op [5] (by kernel_rfl) (fun L y w' hL hcl HW hd K hK => ?_) ?_
        · have e5 : y 5 = .bool false := hd 5 (by simp)
          obtain ⟨b1, b2, b3⟩ := HW.2.2.2.1.cell
          go_simp
          exact hK _ _ _ (by simp [upd, e5]) rfl HW trivial
        refine steps_op [8, 5, 5] (by kernel_rfl) (fun L y w' hL hcl HW hd K hK => ?_) ?_
        · have e5 : y 5 = .bool false := hd 5 (by simp)
          have e8 : y 8 = .agg #[.int .i64 x.1.f, .int .i64 x.1.n, .int .i64 x.1.w] := hd 8 (by simp)
          go_simp
          refine (end_any x.1 _).mono ?_
          rintro e w1 ⟨rfl, rfl⟩
          exact hK (.int .i64 (x.1.f + x.1.n)) _ _ (by simp [upd, e5, e8, HSx.out]) rfl (HW.alloc _) trivial
        refine steps_op [7, 9, 5] (by kernel_rfl) (fun L y w' hL hcl HW hd K hK => ?_) ?_
        · have e5 : y 5 = .bool false := hd 5 (by simp)
          have e7 : y 7 = .int .i64 g.1.f := hd 7 (by simp)
          have e9 : y 9 = .int .i64 (x.1.f + x.1.n) := hd 9 (by simp)
          go_simp
          exact hK _ _ _ (by simp [upd, e5, e7, e9]) rfl HW trivial
        refine steps_last fun L y w' hL hLs HW hd K hK => ?_
        have e0 : y 0 = .pointer (some ⟨w.heap.size, 0, none⟩) := hd 0 (by omega)
        have e1 : y 1 = .int .i64 g.1.f := hd 1 (by omega)
        have e2 : y 2 = .pointer (some ⟨Bx, 0, none⟩) := hd 2 (by omega)
        have e3 : y 3 = .int .i64 x.1.f := hd 3 (by omega)
        have e4 : y 4 = .bool false := hd 4 (by omega)
        have e5 : y 5 = .bool false := hd 5 (by omega)
        have e6 : y 6 = .pointer (some ⟨w.heap.size, 0, none⟩) := hd 6 (by omega)
        have e7 : y 7 = .int .i64 g.1.f := hd 7 (by omega)
        have e8 : y 8 = .agg #[.int .i64 x.1.f, .int .i64 x.1.n, .int .i64 x.1.w] := hd 8 (by omega)
        have e9 : y 9 = .int .i64 (x.1.f + x.1.n) := hd 9 (by omega)
        have e10 : y 10 = .bool false := hd 10 (by omega)
        go_simp
        refine hK _ _ ?_
        replace HW : WS w w.heap.size Bx g.1 x.1 W w' v (withL g pre) := HW

        clear e0 e1 e2 e3 e4 e5 e6 e7 e8 e9 e10 hd
        have hl1 := putL_length (withL g pre) ⟨x.1.f, g.1.f - x.1.f, -1⟩
        have hl2 := putL_length (putL (withL g pre) ⟨x.1.f, g.1.f - x.1.f, -1⟩) g.1
        have q0 := HW.1.cell
        obtain ⟨b1, b2, b3⟩ := HW.2.2.2.1.cell
        obtain ⟨a1, a2, a3⟩ := HW.2.2.1.cell
        gi_wp2_with fail
        refine ⟨trivial, ?_⟩
        gi_at_call 64
        refine (CallsIn.inRound l (callsIn_wide.2 (put_any v (withL g pre) ⟨x.1.f, g.1.f - x.1.f, -1⟩ (w.heap.size + 3) _ HW.2.1 HW.2.2.2.2.2.2.2.2 (by omega)))).mono ?_
        intro e w1 hp
        obtain ⟨ra, rn, rc, rfl, q2, q3, H0⟩ := HW.put (by omega) hp
        have H1 := Lib.hid H0
        clear H0 hp q0 b1 b2 b3 a1 a2 a3
        have q0 := H1.out.1.cell
        obtain ⟨b1, b2, b3⟩ := H1.out.2.2.2.1.cell
        obtain ⟨a1, a2, a3⟩ := H1.out.2.2.1.cell
        gi_wp2_with fail
        refine ⟨trivial, ?_⟩
        gi_at_call 64
        refine (CallsIn.inRound l (callsIn_wide.2 (put_any (.slice ra rn rc) (putL (withL g pre) ⟨x.1.f, g.1.f - x.1.f, -1⟩) g.1 (w.heap.size + 3) _ H1.out.2.1 H1.out.2.2.2.2.2.2.2.2 (by omega)))).mono ?_
        intro e w2 hp
        obtain ⟨sa, sn, sc, rfl, q2', q3', H0⟩ := H1.out.put (by omega) hp
        have H2 := Lib.hid H0
        clear H0 hp q0 b1 b2 b3 a1 a2 a3
        have q0 := H2.out.1.cell
        gi_wp2
        obtain ⟨W2, hW2⟩ : ∃ W2, w2.setCell ⟨w.heap.size + 1, 0, none⟩ (.slice sa sn sc) = W2 := ⟨_, rfl⟩
        rw [hW2] at H2 ⊢
        clear hW2 q0 q2 q3 q2' q3' H1 HW
        refine wpIn_region_by (.inr ⟨l, rfl⟩) (by kernel_rfl) (fun ⟨_, _, h⟩ => h) hmx
          (fun y => #[.pointer p, g.1.v, undef, .pointer (some ⟨w.heap.size, 0, none⟩), .slice none 0 0, .pointer (some ⟨w.heap.size + 1, 0, none⟩), .pointer (some ⟨Bx, 0, none⟩), .pointer p, .func (.func 97) #[] #[.pointer (some ⟨w.heap.size + 1 + 1, 0, none⟩)], x.1.v, .pointer (some ⟨w.heap.size, 0, none⟩), .int .i64 g.1.f, .pointer (some ⟨Bx, 0, none⟩), .int .i64 x.1.f, .bool false, .bool false, .pointer (some ⟨w.heap.size, 0, none⟩), .int .i64 g.1.f, .agg #[.int .i64 x.1.f, .int .i64 x.1.n, .int .i64 x.1.w], .int .i64 (x.1.f + x.1.n), .bool false, .bool false, undef, undef, undef, v, .pointer (some ⟨Bx, 0, none⟩), .int .i64 x.1.f, .pointer (some ⟨w.heap.size, 0, none⟩), .int .i64 g.1.f, .pointer (some ⟨Bx, 0, none⟩), .int .i64 x.1.f, .int .i64 (g.1.f - x.1.f), .agg #[.int .i64 x.1.f, .int .i64 (g.1.f - x.1.f), .int .i64 (-1)], .slice ra rn rc, .slice ra rn rc, .agg #[.int .i64 g.1.f, .int .i64 g.1.n, .int .i64 g.1.w], .slice sa sn sc, y 0, y 1, y 2, y 3, y 4, y 5, y 6, y 7, y 8, y 9, undef])
          (fun j v W' => match j with | 0 => v = .slice sa sn sc | 1 => v = .agg #[.int .i64 g.1.f, .int .i64 g.1.n, .int .i64 g.1.w] | 2 => v = .int .i64 (g.1.f + g.1.n) | 3 => v = .agg #[.int .i64 x.1.f, .int .i64 x.1.n, .int .i64 x.1.w] | 4 => v = .int .i64 (x.1.f + x.1.n) | 5 => v = .agg #[.int .i64 g.1.f, .int .i64 g.1.n, .int .i64 g.1.w] | 6 => v = .int .i64 (g.1.f + g.1.n) | 7 => v = .int .i64 (x.1.f + x.1.n - (g.1.f + g.1.n)) | 8 => v = .agg #[.int .i64 (g.1.f + g.1.n), .int .i64 (x.1.f + x.1.n - (g.1.f + g.1.n)), .int .i64 (-1)] | 9 => ∃ ta tn tc, v = .slice ta tn tc ∧ W'.cell? ⟨w.heap.size + 1, 0, none⟩ = some (.slice sa sn sc) ∧ W'.frozen? ⟨w.heap.size + 1, 0, none⟩ = false ∧ WS w w.heap.size Bx g.1 x.1 W (W'.setCell ⟨w.heap.size + 1, 0, none⟩ (.slice ta tn tc)) (.slice ta tn tc) (putL (putL (putL (withL g pre) ⟨x.1.f, g.1.f - x.1.f, -1⟩) g.1) ⟨g.1.f + g.1.n, x.1.f + x.1.n - (g.1.f + g.1.n), -1⟩) | _ => True)
          (fun L W' => L 9 = false → WS w w.heap.size Bx g.1 x.1 W W' (.slice sa sn sc) (putL (putL (withL g pre) ⟨x.1.f, g.1.f - x.1.f, -1⟩) g.1)) (fun i _ _ => i < 10) (by kernel_rfl) (by decide) (fun i j L v w w' hne hcl hi hj hle hR => by
          by_cases e : j = 9
          · subst e; exact absurd (hcl.all (k := 9) (by kernel_rfl) hj i (by omega)) (by rw [hi]; simp)
          · exact match j, e, hR with | 0, _, h => h | 1, _, h => h | 2, _, h => h | 3, _, h => h | 4, _, h => h | 5, _, h => h | 6, _, h => h | 7, _, h => h | 8, _, h => h | 9, e, _ => absurd rfl e | (_ + 10), _, _ => trivial) (fun _ => undef) rfl (fun _ _ _ => H2.out.drew) ?_
        refine steps_op [] (by kernel_rfl) (fun L y w' hL hcl HW hd K hK => ?_) ?_
        · have HX := HW (hcl.none (k := 9) (by kernel_rfl) (by omega) hL)
          have q0 := HX.1.cell
          go_simp
          exact hK _ _ _ (by simp [upd]) rfl (fun _ => HX) (by omega)
        refine steps_op [] (by kernel_rfl) (fun L y w' hL hcl HW hd K hK => ?_) ?_
        · have HX := HW (hcl.none (k := 9) (by kernel_rfl) (by omega) hL)
          obtain ⟨a1, a2, a3⟩ := HX.2.2.1.cell
          go_simp
          exact hK _ _ _ (by simp [upd]) rfl (fun _ => HX) (by omega)
        refine steps_op [1] (by kernel_rfl) (fun L y w' hL hcl HW hd K hK => ?_) ?_
        · have e1 : y 1 = .agg #[.int .i64 g.1.f, .int .i64 g.1.n, .int .i64 g.1.w] := hd 1 (by simp)
          have HX := HW (hcl.none (k := 9) (by kernel_rfl) (by omega) hL)
          go_simp
          refine (end_any g.1 _).mono ?_
          rintro e w1 ⟨rfl, rfl⟩
          exact hK (.int .i64 (g.1.f + g.1.n)) _ _ (by simp [upd, e1, HSg.out]) rfl (fun _ => HX.alloc _) (by omega)
        refine steps_op [] (by kernel_rfl) (fun L y w' hL hcl HW hd K hK => ?_) ?_
        · have HX := HW (hcl.none (k := 9) (by kernel_rfl) (by omega) hL)
          obtain ⟨b1, b2, b3⟩ := HX.2.2.2.1.cell
          go_simp
          exact hK _ _ _ (by simp [upd]) rfl (fun _ => HX) (by omega)
        refine steps_op [3, 2] (by kernel_rfl) (fun L y w' hL hcl HW hd K hK => ?_) ?_
        · have e2 : y 2 = .int .i64 (g.1.f + g.1.n) := hd 2 (by simp)
          have e3 : y 3 = .agg #[.int .i64 x.1.f, .int .i64 x.1.n, .int .i64 x.1.w] := hd 3 (by simp)
          have HX := HW (hcl.none (k := 9) (by kernel_rfl) (by omega) hL)
          go_simp
          refine (end_any x.1 _).mono ?_
          rintro e w1 ⟨rfl, rfl⟩
          exact hK (.int .i64 (x.1.f + x.1.n)) _ _ (by simp [upd, e2, e3, HSx.out]) rfl (fun _ => HX.alloc _) (by omega)
        refine steps_op [] (by kernel_rfl) (fun L y w' hL hcl HW hd K hK => ?_) ?_
        · have HX := HW (hcl.none (k := 9) (by kernel_rfl) (by omega) hL)
          obtain ⟨a1, a2, a3⟩ := HX.2.2.1.cell
          go_simp
          exact hK _ _ _ (by simp [upd]) rfl (fun _ => HX) (by omega)
        refine steps_op [5, 4] (by kernel_rfl) (fun L y w' hL hcl HW hd K hK => ?_) ?_
        · have e4 : y 4 = .int .i64 (x.1.f + x.1.n) := hd 4 (by simp)
          have e5 : y 5 = .agg #[.int .i64 g.1.f, .int .i64 g.1.n, .int .i64 g.1.w] := hd 5 (by simp)
          have HX := HW (hcl.none (k := 9) (by kernel_rfl) (by omega) hL)
          go_simp
          refine (end_any g.1 _).mono ?_
          rintro e w1 ⟨rfl, rfl⟩
          exact hK (.int .i64 (g.1.f + g.1.n)) _ _ (by simp [upd, e4, e5, HSg.out]) rfl (fun _ => HX.alloc _) (by omega)
        refine steps_op [4, 6] (by kernel_rfl) (fun L y w' hL hcl HW hd K hK => ?_) ?_
        · have e4 : y 4 = .int .i64 (x.1.f + x.1.n) := hd 4 (by simp)
          have e6 : y 6 = .int .i64 (g.1.f + g.1.n) := hd 6 (by simp)
          have HX := HW (hcl.none (k := 9) (by kernel_rfl) (by omega) hL)
          go_simp
          exact hK _ _ _ (by simp [upd, e4, e6, HW7.out]) rfl (fun _ => HX) (by omega)
        refine steps_op [2, 7] (by kernel_rfl) (fun L y w' hL hcl HW hd K hK => ?_) ?_
        · have e2 : y 2 = .int .i64 (g.1.f + g.1.n) := hd 2 (by simp)
          have e7 : y 7 = .int .i64 (x.1.f + x.1.n - (g.1.f + g.1.n)) := hd 7 (by simp)
          have HX := HW (hcl.none (k := 9) (by kernel_rfl) (by omega) hL)
          go_simp
          exact hK _ _ _ (by simp [upd, e2, e7]) rfl (fun _ => HX) (by omega)
        refine steps_op [0, 8, 6] (by kernel_rfl) (fun L y w' hL hcl HW hd K hK => ?_) ?_
        · have e0 : y 0 = .slice sa sn sc := hd 0 (by simp)
          have e6 : y 6 = .int .i64 (g.1.f + g.1.n) := hd 6 (by simp)
          have e8 : y 8 = .agg #[.int .i64 (g.1.f + g.1.n), .int .i64 (x.1.f + x.1.n - (g.1.f + g.1.n)), .int .i64 (-1)] := hd 8 (by simp)
          have HX := HW hL
          go_simp
          refine (put_any (.slice sa sn sc) (putL (putL (withL g pre) ⟨x.1.f, g.1.f - x.1.f, -1⟩) g.1) ⟨g.1.f + g.1.n, x.1.f + x.1.n - (g.1.f + g.1.n), -1⟩ (w.heap.size + 3) _ HX.2.1 HX.2.2.2.2.2.2.2.2 (by omega)).mono ?_
          intro e w1 hp
          obtain ⟨ta, tn, tc, rfl, q2, q3, H3⟩ := HX.put (by omega) hp
          exact hK (.slice ta tn tc) _ _ (by simp [upd, e0, e6, e8]) ⟨ta, tn, tc, rfl, q2, q3, H3⟩ (fun h => by simp at h) (by omega)
        refine steps_last fun L y w' hL hLs HW hd K hK => ?_
        have e0 : y 0 = .slice sa sn sc := hd 0 (by omega)
        have e1 : y 1 = .agg #[.int .i64 g.1.f, .int .i64 g.1.n, .int .i64 g.1.w] := hd 1 (by omega)
        have e2 : y 2 = .int .i64 (g.1.f + g.1.n) := hd 2 (by omega)
        have e3 : y 3 = .agg #[.int .i64 x.1.f, .int .i64 x.1.n, .int .i64 x.1.w] := hd 3 (by omega)
        have e4 : y 4 = .int .i64 (x.1.f + x.1.n) := hd 4 (by omega)
        have e5 : y 5 = .agg #[.int .i64 g.1.f, .int .i64 g.1.n, .int .i64 g.1.w] := hd 5 (by omega)
        have e6 : y 6 = .int .i64 (g.1.f + g.1.n) := hd 6 (by omega)
        have e7 : y 7 = .int .i64 (x.1.f + x.1.n - (g.1.f + g.1.n)) := hd 7 (by omega)
        have e8 : y 8 = .agg #[.int .i64 (g.1.f + g.1.n), .int .i64 (x.1.f + x.1.n - (g.1.f + g.1.n)), .int .i64 (-1)] := hd 8 (by omega)
        obtain ⟨ta, tn, tc, e9, q2, q3, H3⟩ := hd 9 (by omega)
        have H4 := Lib.hid H3
        clear H3 HW hd
        go_simp
        refine hK _ _ ?_
        exact HF.out _ _ (by rw [HT.out]; exact H4.out)

  case done =>
    rintro D zs W hD rfl ⟨⟨⟨⟨v, bR1, ho1, _⟩, bG1⟩, hz1⟩, hB1⟩ hK
    have cS := bR1.cell
    have HO := Lib.hid ho1
    clear bG bR bN hT ho1
    gi_wp2
    refine ⟨by simp, .inl ⟨_, _, rfl, run_takeDeferred hK, ?_⟩⟩
    refine ⟨_, results_tmp rfl _ _ _, v, rfl, ?_, hB1.trans (belowK_b (w := w) (Nat.le_refl _) W D _ _ (by omega) hK rfl rfl)⟩
    have ho := ownsRow_putObj HO.out (.deferred none) hK rfl
    rcases ho.2 with h | ⟨q, cap, cur, h1, h2, h3⟩
    · exact ⟨ho.1, .inl h⟩
    · exact ⟨ho.1, .inr ⟨q, cap, cur, h1, by omega, h3⟩⟩
  case stop =>
    rintro D c pre W _ _ h _
    exact h.elim
end Go.Proofs.YtikkfapgmbamlaaGreatDoor.Pt
end
section
/- (*Table).Who; New; (*Table).Give. -/
namespace Go.Proofs.YtikkfapgmbamlaaGreatDoor.Pt
open Go.RowKit Go.Shelf Ut
set_option linter.unusedVariables false

def whoB (i : Int) (xs : List BR) : Bool := (seek i xs).isSome && !((seekR i xs).w == -1)
def whoW (i : Int) (xs : List BR) : Int := if whoB i xs then (seekR i xs).w else 0

/-- block bt is a table that New made, with the runs xs -/
def Mach (W : World) (bt : Nat) (xs : List R3) : Prop := ∃ v, W.heap[bt]? = some (.cells #[.bool true, v] 110 (0, 0)) ∧ OwnS W 0 v xs
theorem Mach.tbl {W : World} {bt : Nat} {xs : List BR} (h : Mach W bt (xs.map (·.1))) : Tbl W W.heap.size (some ⟨bt, 0, none⟩) xs := by
  obtain ⟨v, h1, h2⟩ := h
  exact .inr ⟨bt, v, rfl, (Array.getElem?_eq_some_iff.1 h1).1, by simp [World.cell?, h1], h2.row⟩
theorem Mach.kept {W W' : World} {bt : Nat} {xs : List R3} {row : Option Nat} (h : Mach W bt xs) (hg : W.grownBy W' row) (hr : ∀ q, row = some q → ∃ c t f, W.heap[q]? = some (.cells c t f) ∧ t ≠ 110 ∧ t ≠ 108) : Mach W' bt xs := by
  obtain ⟨v, h1, h2⟩ := h
  refine ⟨v, (hg.block bt (Array.getElem?_eq_some_iff.1 h1).1 fun e => ?_).trans h1, World.ownsRow.kept h2 hg ?_⟩
  · obtain ⟨c, t, f, hq, ht, _⟩ := hr bt e.symm
    rw [h1] at hq
    injection hq with hq
    injection hq with _ hq
    exact ht hq.symm
  · rcases h2.2 with ⟨rfl, _⟩ | ⟨g, cap, cur, rfl, _, hgb, _⟩
    · exact .inl rfl
    · refine .inr fun e => ?_
      obtain ⟨c, t, f, hq, _, ht⟩ := hr g (by simpa [Value.ownBlock] using e.symm)
      rw [hgb] at hq
      injection hq with hq
      injection hq with _ hq
      exact ht hq.symm
theorem Mach.below {W W' : World} {bt : Nat} {xs : List R3} (h : Mach W bt xs) (hb : Below W.heap.size W W') : Mach W' bt xs :=
  h.kept (row := none) ⟨hb.os, hb.tape, hb.output, hb.size, fun q hq _ => hb.block q hq⟩ (fun q e => by cases e)

theorem new_no (n : Int) (w : World) (h : n < 0 ∨ 64 < n) :
    Calls Tryz.prog 29 #[.int .i64 n] w fun e W' => e = .returned (.tuple #[.pointer none, .int .i64 1]) ∧ w = W' := by
  by_cases h0 : n < 0
  · go_enter Tryz.func29, Tryz.ntmps29
    go_wp2_with fail
    go_ret2
    exact ⟨rfl, rfl⟩
  · have h1 : 64 < n := by omega
    go_enter Tryz.func29, Tryz.ntmps29
    go_wp2_with fail
    go_ret2
    exact ⟨rfl, rfl⟩

/-- the runs of a new table -/
def newL (n : Int) : List R3 := putL [] ⟨0, n, -1⟩

theorem new_yes (n : Int) (w : World) (h0 : 0 ≤ n) (h1 : n ≤ 64) :
    Calls Tryz.prog 29 #[.int .i64 n] w fun e W' => ∃ bt, e = .returned (.tuple #[.pointer (some ⟨bt, 0, none⟩), .int .i64 0]) ∧ Mach W' bt (newL n) ∧ w.heap.size ≤ bt ∧ Below w.heap.size w W' := by
  go_enter Tryz.func29, Tryz.ntmps29
  go_wp2_with fail
  refine (put_any (.slice none 0 0) [] ⟨0, n, -1⟩ w.heap.size _ (World.ownsRow_nil _ _ _ _) (Nat.le_refl _) (by simp)).mono ?_
  rintro e W1 ⟨v, rfl, hown, hg, _⟩
  obtain ⟨a, m, cap, rfl⟩ := hown.slice
  have hb : Below w.heap.size w W1 := ⟨hg.os, hg.tape, hg.output, hg.size, fun q hq => hg.block q hq (by simp [Value.ownBlock])⟩
  have HO := Lib.hid hown
  have HB := Lib.hid hb
  clear hown hg hb
  go_wp2
  go_ret2
  refine ⟨_, rfl, ⟨_, World.alloc_heap_new W1 _, ?_⟩, HB.out.size, HB.out.alloc HB.out.size _⟩
  have h2 := (HO.out).below ((Below.refl W1.heap.size W1).alloc (Nat.le_refl _) (.cells #[.bool true, .slice a m cap] 110))
  rcases h2.2 with h | ⟨q, cap', cur, e1, e2, e3⟩
  · exact ⟨h2.1, .inl h⟩
  · exact ⟨h2.1, .inr ⟨q, cap', cur, e1, by omega, e3⟩⟩
end Go.Proofs.YtikkfapgmbamlaaGreatDoor.Pt
end
