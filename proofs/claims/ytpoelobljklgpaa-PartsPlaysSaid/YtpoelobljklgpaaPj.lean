/- (*Table).Of: whose places, rising. -/
import Derived.Test.YtpoelobljklgpaaPi
namespace Go.Proofs.Ytpoelobljklgpaa.Pt
open Go.RowKit Go.Shelf Ut
set_option linter.unusedVariables false
attribute [local go_sem] Oper.semAt_some

/-- the places of run x, the first k -/
def someOf (x : BR) (k : Nat) : List Int := (List.range k).map fun (j : Nat) => x.1.f + (j : Int)
/-- who's places -/
def ofL (who : Int) (xs : List BR) : List Int := xs.flatMap fun x => if x.1.w = who then someOf x x.1.n.toNat else []
theorem someOf_succ (x : BR) (k : Nat) : someOf x (k + 1) = someOf x k ++ [x.1.f + (k : Int)] := by simp [someOf, List.range_succ]
theorem someOf_length (x : BR) (k : Nat) : (someOf x k).length = k := by simp [someOf]
theorem ofL_snoc (who : Int) (xs : List BR) (x : BR) : ofL who (xs ++ [x]) = ofL who xs ++ if x.1.w = who then someOf x x.1.n.toNat else [] := by simp [ofL]
theorem ofL_length (who : Int) (xs : List BR) : (ofL who xs).length ≤ 64 * xs.length := by
  induction xs with
  | nil => simp [ofL]
  | cons x xs ih =>
    have h := x.2
    unfold Fine at h
    simp only [ofL, List.flatMap_cons, List.length_append, List.length_cons] at ih ⊢
    have : (if x.1.w = who then someOf x x.1.n.toNat else []).length ≤ 64 := by
      split
      · rw [someOf_length]; omega
      · simp
    omega

theorem ownsRow_less {W : World} {B B' e size n : Nat} {v : Value} {xs : List Value} (h : W.ownsRow B e size v n xs) (hB : B' ≤ B) : W.ownsRow B' e size v n xs := by
  rcases h.2 with h2 | ⟨q, cap, cur, h1, h2, h3⟩
  · exact ⟨h.1, .inl h2⟩
  · exact ⟨h.1, .inr ⟨q, cap, cur, h1, by omega, h3⟩⟩

theorem appended2 {W w1 : World} {n₀ N B : Nat} {t e : TypeId} {size : Nat} {v v' : Value} {k m : Nat} {xs ys : List Value} {tmp : Obj}
    (hv : Boxed W B t v) (hte : t ≠ e) (hrow : W.ownsRow N e size v k xs) (hn : n₀ ≤ N) (hn₀ : n₀ ≤ W.heap.size) (hB : n₀ ≤ B)
    (hown' : w1.ownsRow N e size v' m ys) (hgrow : (W.alloc tmp).grownBy w1 v.ownBlock) :
    Boxed w1 B t v ∧ Boxed (w1.setCell ⟨B, 0, none⟩ v') B t v' ∧ (w1.setCell ⟨B, 0, none⟩ v').ownsRow N e size v' m ys ∧ KeepsOthers W (w1.setCell ⟨B, 0, none⟩ v') ∧ Below n₀ W (w1.setCell ⟨B, 0, none⟩ v') := by
  obtain ⟨h1, h2, _, h4, h5⟩ := hv.appended hte (ownsRow_less hrow hn) hn₀ hB (ownsRow_less hown' hn) hgrow
  exact ⟨h1, h2, hown'.kept (grownBy_setCell' w1 B v') (.inr (h1.not_row hte hown').symm), h4, h5⟩

theorem Run3.not_row {W : World} {b : Nat} {r : R3} (h : Run3 W b r) {base e size k : Nat} {v : Value} {xs : List Value} (hr : W.ownsRow base e size v k xs) (he : e ≠ 45) : some b ≠ v.ownBlock := by
  rcases hr.2 with ⟨rfl, _⟩ | ⟨g, cap, cur, rfl, _, hgb, _⟩
  · simp [Value.ownBlock]
  · intro e'
    obtain rfl : b = g := by simpa [Value.ownBlock] using e'
    have := (show W.heap[b]? = _ from h).symm.trans hgb
    injection this with this
    injection this with _ this
    exact he this.symm
theorem ownsRow_ne {W : World} {B e size n q : Nat} {v : Value} {xs : List Value} (h : W.ownsRow B e size v n xs) (hq : q < B) : some q ≠ v.ownBlock := by
  rcases h.2 with ⟨rfl, _⟩ | ⟨g, cap, cur, rfl, hb, _⟩
  · simp [Value.ownBlock]
  · intro e'
    obtain rfl : q = g := by simpa [Value.ownBlock] using e'
    omega

theorem A.info3 : (Try.prog.info? 3).map (fun i => (i.zero, i.size, i.bytes)) = some (some (.int .i64 0), 1, 8) := by kernel_rfl

/-- the box holds who's places so far -/
def OfB (h : Nat) (who : Int) (L : List Int) (W : World) : Prop :=
  (∃ v, Boxed W (h + 1) 22 v ∧ W.ownsRow (h + 3) 3 1 v L.length (L.map (Value.int .i64)) ∧ True) ∧ Boxed W h 3 (.int .i64 who)
/-- between two rounds -/
def OfI (w : World) (h : Nat) (who : Int) (pre : List BR) (W : World) : Prop := (OfB h who (ofL who pre) W ∧ h + 3 ≤ W.heap.size) ∧ Below h w W
/-- between two rounds of the inner loop -/
def OfJ (h Bx : Nat) (who : Int) (L : List Int) (x : R3) (W wr : World) : Prop := (OfB h who L wr ∧ Run3 wr Bx x) ∧ (KeepsFrom (h + 3) W wr ∧ Below h W wr ∧ h + 3 ≤ wr.heap.size)

theorem of_no (p : Option Addr) (who : Int) (w : World) (h : isOwn who = false) :
    Calls Try.prog 18 #[.pointer p, .int .i64 who] w fun e W' => e = .returned (.slice none 0 0) ∧ Below w.heap.size w W' := by
  have hown : ∀ W : World, Calls Try.prog 24 #[.int .i64 who] W fun e w' => e = .returned (.bool false) ∧ W = w' := fun W => by
    have h' := isOwner_any who W
    rwa [h] at h'
  have HOW := Lib.hid hown
  clear hown h
  go_enter Try.func18, Try.ntmps18
  go_wp2_with (go_at_call 24; refine (HOW.out _).mono ?_; rintro e w' ⟨rfl, rfl⟩)
  go_ret
  exact ⟨rfl, (Below.refl _ _).alloc (Nat.le_refl _) _⟩
set_option maxRecDepth 100000 in
set_option maxHeartbeats 4000000 in
theorem of_any (p : Option Addr) (who : Int) (xs : List BR) (w : World) (hT : Tbl w w.heap.size p xs) (hl : xs.length ≤ 64) (h : isOwn who = true) :
    Calls Try.prog 18 #[.pointer p, .int .i64 who] w fun e W' => ∃ v, e = .returned v ∧ OwnI .i64 W' w.heap.size 3 v (ofL who xs).length (ofL who xs) ∧ Below w.heap.size w W' := by
  have hown : ∀ W : World, Calls Try.prog 24 #[.int .i64 who] W fun e w' => e = .returned (.bool true) ∧ W = w' := fun W => by
    have h' := isOwner_any who W
    rwa [h] at h'
  have HOW := Lib.hid hown
  clear hown h
  obtain ⟨i0, hi, hz0, hz1, hz2⟩ := info_parts A.info3
  have HI := Lib.hid hi
  clear hi
  refine (callsIn_wide (n := 102)).1 ?_
  refine callsIn_of_wp_marks Try.func18 rfl trivial ?_ rfl
  simp only [Try.ntmps18, List.size_toArray, List.length_cons, List.length_nil, Nat.reduceAdd, Nat.reduceSub, Array.replicate_succ, Array.replicate_zero, List.push_toArray, List.append_toArray, List.nil_append, List.cons_append]
  gi_wp2_with (first | (refine ⟨trivial, ?_⟩; gi_at_call 24; refine (callsIn_wide.2 (HOW.out _)).mono ?_; rintro e w' ⟨rfl, rfl⟩) | (refine ⟨trivial, ?_⟩; gi_at_call 28; refine (callsIn_wide.2 (each_any _ _)).mono ?_; rintro e w' ⟨rfl, rfl⟩))
  have bW := ((Boxed.new w 3 (.int .i64 who)).alloc (.cells #[.slice none 0 0] 22)).alloc (.cells #[.pointer p] 23)
  have bP := (Boxed.new (w.alloc (.cells #[.int .i64 who] 3)) 22 (.slice none 0 0)).alloc (.cells #[.pointer p] 23)
  have bN := Boxed.new ((w.alloc (.cells #[.int .i64 who] 3)).alloc (.cells #[.slice none 0 0] 22)) 23 (.pointer p)
  simp only [World.size_alloc] at bP bN
  have hB0 := (((Below.refl w.heap.size w).alloc (Nat.le_refl _) (.cells #[.int .i64 who] 3)).alloc (by simp) (.cells #[.slice none 0 0] 22)).alloc (by simp; omega) (.cells #[.pointer p] 23)
  have hsz : (((w.alloc (.cells #[.int .i64 who] 3)).alloc (.cells #[.slice none 0 0] 22)).alloc (.cells #[.pointer p] 23)).heap.size = w.heap.size + 3 := by simp
  obtain ⟨W0, hW0⟩ : ∃ W0, ((w.alloc (.cells #[.int .i64 who] 3)).alloc (.cells #[.slice none 0 0] 22)).alloc (.cells #[.pointer p] 23) = W0 := ⟨_, rfl⟩
  rw [hW0] at bW bP bN hB0 hsz ⊢
  clear hW0
  have hsz1 : w.heap.size + 3 ≤ W0.heap.size := by omega
  have hsz2 : W0.heap.size ≤ w.heap.size + 3 := by omega
  have HZ := Lib.hid hsz
  clear hsz
  refine wpIn_rangeFunc_ownH rfl (by omega) (gf := 30) (lb := #[.pointer (some ⟨w.heap.size + 1 + 1, 0, none⟩)]) rfl trivial (enters_of Try.func30 (by kernel_rfl) rfl)
    (each_stops (w.heap.size + 1 + 1) w.heap.size p xs W0 (by omega) (by omega) bN.cell (hT.below hB0)) belowK_t (belowK_b (by omega)) (Below.refl _ _) (fun _ => rfl)
    (OfI w w.heap.size who)
    (fun _ _ _ => False)
    (OwnFrom.and (OwnFrom.and (OwnFrom.and (Own.from (holdsRow_own _ _ _ _ 1 (fun pre : List BR => (ofL who pre).length) (fun pre => (ofL who pre).map (Value.int .i64)) (fun _ _ => True)) _) (Own.from (boxed_own _ _ _) _)) (ownFrom_size _ _)) (ownFrom_below (Nat.le_refl _) (by omega)))
    (fun _ _ _ _ _ hs _ _ => hs)
    ⟨⟨⟨⟨_, bP, World.ownsRow_nil _ _ _ _, trivial⟩, bW⟩, hsz1⟩, hB0⟩
    (fun x a' W => ∃ Bx, w.heap.size + 2 < Bx ∧ Run3 W Bx x.1 ∧ a' = { tmps := #[.pointer p, .int .i64 who, undef, .pointer (some ⟨w.heap.size, 0, none⟩), .slice none 0 0, .pointer (some ⟨w.heap.size + 1, 0, none⟩), .pointer (some ⟨Bx, 0, none⟩), undef, .int .i64 who, .bool true, .bool false, .pointer p, .func (.func 30) #[] #[.pointer (some ⟨w.heap.size + 1 + 1, 0, none⟩)], x.1.v, undef, undef, undef, undef, undef, undef, undef, undef, undef, undef, undef, undef, undef, undef, undef, undef, undef, undef], defers := [] })
    (fun x a' s X Y row hs hg hr => by
      obtain ⟨Bx, h1, h2, h3⟩ := hs
      exact ⟨Bx, h1, run3_keep Bx x.1 () X Y row h2 hg (fun r e => (hr r e).2), h3⟩)
    ?assign ?body ?done ?stop
  case assign =>
    rintro l pre x W K ⟨⟨⟨⟨v, hv, hrow, _⟩, hw⟩, hz⟩, hB⟩ hK
    dsimp only [enc1, R3.v]
    gi_wp2
    exact hK _ _ ((KeepsOthers.alloc _ _).from _) ((Below.refl _ W).alloc hB.size _) ⟨⟨⟨⟨v, hv.alloc _, hrow.alloc _, trivial⟩, hw.alloc _⟩, by simp; omega⟩, hB.alloc hB.size _⟩ ⟨W.heap.size, by omega, Run3.new W _, rfl⟩
  case body =>
    rintro l pre x a' W hl' ⟨r, hr⟩ ⟨⟨⟨⟨v, hv, hrow, _⟩, hw⟩, hz⟩, hB⟩ ⟨Bx, hBx, bX, rfl⟩ hlt
    have hc' := hv.cell
    have cw := hw.cell
    obtain ⟨b1, b2, b3⟩ := bX.cell
    have hpl := ofL_length who pre
    obtain ⟨x1, x2, x3, x4, _, _⟩ := x.2
    have HR := Lib.hid hr
    clear hr hT bW bP bN
    by_cases hx : x.1.w = who
    · have hof : ofL who (pre ++ [x]) = ofL who pre ++ someOf x x.1.n.toNat := by rw [ofL_snoc, if_pos hx]
      have HOf := Lib.hid hof
      have hx' : (x.1.w != who) = false := by simpa using hx
      clear hof hx
      have hJ0 : OfJ w.heap.size Bx who (ofL who pre ++ someOf x 0) x.1 W W := by
        rw [show someOf x 0 = [] from rfl, List.append_nil]
        exact ⟨⟨⟨⟨v, hv, hrow, trivial⟩, hw⟩, bX⟩, KeepsFrom.refl _ _, Below.refl _ _, hz⟩
      have HJ0 := Lib.hid hJ0
      clear hJ0 hrow hv
      have hszl : (ofL who pre).length ≤ 4096 := by omega
      gi_wp2
      gi_loopw [20] (fun i wr => ∃ k : Nat, (k : Int) ≤ x.1.n ∧ i = .int .i64 k ∧ OfJ w.heap.size Bx who (ofL who pre ++ someOf x k) x.1 W wr) (fun i _ => (x.1.n - intOf i).toNat)
      case atStart => exact ⟨0, x3, rfl, HJ0.out⟩
      case round =>
        obtain ⟨k, hk, rfl, hJ⟩ := hrel
        by_cases hkn : (k : Int) < x.1.n
        · obtain ⟨⟨⟨⟨v, hv, hrow, _⟩, hw2⟩, bX2⟩, hkf, hbl, hzw⟩ := hJ
          have hcv := hv.cell
          obtain ⟨d1, d2, d3⟩ := bX2.cell
          have hls := someOf_length x k
          have HLS := Lib.hid hls
          clear hls
          have hll : (ofL who pre ++ someOf x k).length ≤ 5000 := by rw [List.length_append, HLS.out]; omega
          have hsucc := someOf_succ x k
          have HSU := Lib.hid hsucc
          clear hsucc b1 b2 b3 hc' cw
          obtain ⟨L, hL⟩ : ∃ L, L = ofL who pre ++ someOf x k := ⟨_, rfl⟩
          rw [← hL] at hrow hll
          have HL := Lib.hid hL
          clear hL
          gi_wp2_with (gi_at_builtin; refine wpListIn_append_own _ rfl _ _ _ rfl (w.heap.size + 3) 3 i0 _ 1 8 Try.underlying22 HI.out hz0 hz1 hz2 rfl (by decide) _ _ _ rfl (hrow.alloc _) ⟨wr.heap.size, 0, none⟩ 1 1 [.int .i64 (x.1.f + (k : Int))] rfl rfl (cell_one_new _ _ _) (by simp [Value.oneCell']) (by unfold maxLen; omega) (by omega) (by simp; omega) ?_; intro v' w1 hown' hgrow _; obtain ⟨g', cap', rfl⟩ := ownsRow_succ hown'; obtain ⟨hv1, hv2, hr2, hk2, hb2⟩ := appended2 (n₀ := w.heap.size) hv (by decide) hrow (by omega) (by omega) (by omega) hown' hgrow; have hc1 := hv1.cell; have hf1 := hv1.frozen)
          have e1 := ownsRow_ne hrow (q := w.heap.size) (by omega)
          have e2 := bX2.not_row hrow (by decide)
          have w2 := (Boxed.far ((hw2.alloc (.cells #[.int .i64 (x.1.f + (k : Int))] 3)).kept hgrow e1) (b' := w.heap.size + 1) (by omega) 0 (.slice (some ⟨g', 0, none⟩) (L.length + 1) cap'))
          have x2 := (((bX2.alloc (.cells #[.int .i64 (x.1.f + (k : Int))] 3)).kept hgrow e2).other (b' := w.heap.size + 1) (by omega) 0 (.slice (some ⟨g', 0, none⟩) (L.length + 1) cap'))
          go_roundw
          case rel =>
            refine ⟨k + 1, by omega, by simp, ?_⟩
            rw [HSU.out, ← List.append_assoc, ← HL.out]
            refine ⟨⟨⟨⟨_, hv2, ?_, trivial⟩, w2⟩, x2⟩, hkf.trans (hk2.from _), hbl.trans hb2, Nat.le_trans hzw hk2.size⟩
            rw [List.length_append, List.map_append]
            exact hr2
          case measure => simp [intOf]; omega
        · have hkx : (k : Int) = x.1.n := by omega
          have hk2 : x.1.n.toNat = k := by omega
          have HK2 := Lib.hid hk2
          have HJ := Lib.hid hJ
          clear hk2 hJ hkx
          gi_wp2
          obtain ⟨⟨hof, _⟩, hkf, hbl, hz2⟩ := HJ.out
          refine ⟨by rw [HZ.out]; exact hkf, hbl, ⟨?_, hz2⟩, hB.trans hbl⟩
          rw [HOf.out, HK2.out]
          exact hof
    · have hof : ofL who (pre ++ [x]) = ofL who pre := by rw [ofL_snoc, if_neg hx, List.append_nil]
      have HOf := Lib.hid hof
      have hx' : (x.1.w != who) = true := by simpa using hx
      clear hof hx
      gi_wp2
      refine ⟨KeepsFrom.refl _ _, Below.refl _ _, ?_⟩
      unfold OfI
      rw [HOf.out]
      exact ⟨⟨⟨⟨v, hv, hrow, trivial⟩, hw⟩, hz⟩, hB⟩
  case done =>
    rintro D ys W hD rfl ⟨⟨⟨⟨v, hv, hrow, _⟩, hw⟩, hz⟩, hB⟩ hK
    have hc' := hv.cell
    have HO := Lib.hid hrow
    clear hrow hT
    gi_wp2
    refine ⟨by simp, .inl ⟨_, _, rfl, run_takeDeferred hK, ?_⟩⟩
    refine ⟨_, results_tmp rfl _ _ _, v, rfl, ?_, hB.trans (belowK_b (w := w) (Nat.le_refl _) W D _ _ (by omega) hK rfl rfl)⟩
    exact ownsRow_less (ownsRow_putObj HO.out _ hK rfl) (by omega)
  case stop =>
    rintro D c pre W _ _ h _
    exact h.elim
end Go.Proofs.Ytpoelobljklgpaa.Pt
