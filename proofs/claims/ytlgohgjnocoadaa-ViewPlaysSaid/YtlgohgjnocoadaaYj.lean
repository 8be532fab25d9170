/- Package view: Own of the program: a loop over the parts of a range. -/
import Derived.Test.YtlgohgjnocoadaaYi
namespace Go.Proofs.Ytlgohgjnocoadaa.Vw
open Go.RowKit Go.Shelf Ut Oc
set_option maxRecDepth 100000
set_option linter.unusedVariables false
set_option maxHeartbeats 4000000
attribute [local go_sem] Oper.semAt_some

theorem parts_stops (Bn Ba a K : Nat) (T : List Nat) (w : World) (haK : a + K ≤ 512) (hT : ∀ q ∈ T, q < w.heap.size ∧ q ≠ Bn ∧ q ≠ Ba) (hBn : Boxed w Bn 3 (.int .i64 K)) (hBa : Boxed w Ba 3 (.int .i64 a)) :
    SeqStopsK Fence.wide 101 Try.prog 61 #[.pointer (some ⟨Bn, 0, none⟩), .pointer (some ⟨Ba, 0, none⟩)] encP (Kc T) (fun ys => ys = partsG a K K 0) (fun pre => pre <+: partsG a K K 0) (partsG a K K 0).length w := fun l J Jx W hW hJ _ hY h0 =>
  parts1_any l Bn Ba a K T haK J Jx W hJ hY (fun q hq => ⟨Nat.lt_of_lt_of_le (hT q hq).1 hW.size, (hT q hq).2⟩) ((hW.block Bn hBn.lt).trans hBn) ((hW.block Ba hBa.lt).trans hBa) h0

theorem keepsFrom_kq {T : List Nat} {B : Nat} {X Y : World} (h : Kq T X Y) (hT : ∀ q ∈ T, q < B) : KeepsFrom B X Y :=
  ⟨h.size, fun k o hk ho _ => (h.block k (Array.getElem?_eq_some_iff.1 ho).1 (fun e => by have := hT k e; omega)).trans ho⟩
theorem keepsFrom_kz {T : List Nat} {B : Nat} {X Y : World} (h : Kz T X Y) (hT : ∀ q ∈ T, q < B) : KeepsFrom B X Y :=
  ⟨h.1, fun k o hk ho hc => h.2 k o ho (fun e => by have := hT k e; omega) (noB_other hc)⟩
theorem keepsFrom_below {B : Nat} {X Y : World} (h : Below X.heap.size X Y) : KeepsFrom B X Y := keepsFrom_kq (T := []) (Kq.of_below h) (by simp)
theorem blk_own {β : Type} (B : Nat) (t : TypeId) (f : β → List Value) : Own (fun s W => Blk W B t (f s)) := fun s X Y row hs hg hrow =>
  hs.kept hg (fun e' => by obtain ⟨o, ho, hc⟩ := hrow B e'.symm; rw [show X.heap[B]? = _ from hs] at ho; cases ho; cases hc)

section
variable {b s m n : Nat} {S : List Int} {L : List Gm.Pl} {D : List Bool}
theorem own_un (a : Option Addr) (z k : Int) (w : World) (hM : ∀ W, Below w.heap.size w W → Calls Try.prog 39 #[.pointer a] W fun e w' => e = .returned (.bool false) ∧ W = w') :
    Calls Try.prog 21 #[.pointer a, .int .u32 z, .int .i64 k] w fun e w' => e = .returned (.bool false) ∧ Below w.heap.size w w' := by
  have HM := Lib.hid hM
  have HBB : Hid (∀ o o' : Obj, Below w.heap.size w ((w.alloc o).alloc o')) := Lib.hid fun o o' => ((Below.refl _ _).alloc (Nat.le_refl _) _).alloc (by simp) _
  have HSet : Hid (∀ (W : World) (o : Nat) (v : Value), Below w.heap.size w W → Below w.heap.size w (W.setCell ⟨w.heap.size + 1, o, none⟩ v)) := Lib.hid fun W o v h => h.setCell (p := ⟨w.heap.size + 1, o, none⟩) (by simp) _
  clear hM
  go_enter Try.func21, Try.ntmps21
  go_wp2_with fail
  refine (HM.out _ (HBB.out _ _)).mono ?_
  rintro e w1 ⟨rfl, rfl⟩
  go_wp2
  exact bodyPost_ret (v := .bool false) (by simp [results, Try.results21, go_sem]) rfl ⟨rfl, by first | exact HBB.out _ _ | exact HSet.out _ _ _ (HBB.out _ _)⟩
theorem own_out (z k : Int) (h0 : 0 ≤ z) (h1 : z < 4294967296) (hb : k < 0 ∨ 512 < z ∨ 512 - z < k) (w : World) (hP : PV w b s m n S L D) :
    Calls Try.prog 21 #[.pointer (some ⟨b, 0, none⟩), .int .u32 z, .int .i64 k] w fun e w' => e = .returned (.bool false) ∧ Below w.heap.size w w' := by
  have HM : Hid (∀ W, Below w.heap.size w W → Calls Try.prog 39 #[.pointer (some ⟨b, 0, none⟩)] W fun e w' => e = .returned (.bool true) ∧ W = w') := Lib.hid fun W hW => made_yes b s W (hP.more hW).cell0
  have HBB : Hid (∀ o o' : Obj, Below w.heap.size w ((w.alloc o).alloc o')) := Lib.hid fun o o' => ((Below.refl _ _).alloc (Nat.le_refl _) _).alloc (by simp) _
  have HSet : Hid (∀ (W : World) (o : Nat) (v : Value), Below w.heap.size w W → Below w.heap.size w (W.setCell ⟨w.heap.size + 1, o, none⟩ v)) := Lib.hid fun W o v h => h.setCell (p := ⟨w.heap.size + 1, o, none⟩) (by simp) _
  clear hP
  by_cases c1 : k < 0
  · have d1 : decide (k < 0) = true := by simpa using c1
    clear hb c1
    go_enter Try.func21, Try.ntmps21
    go_wp2_with fail
    refine (HM.out _ (HBB.out _ _)).mono ?_
    rintro e w1 ⟨rfl, rfl⟩
    go_wp2
    exact bodyPost_ret (v := .bool false) (by simp [results, Try.results21, go_sem]) rfl ⟨rfl, by first | exact HBB.out _ _ | exact HSet.out _ _ _ (HBB.out _ _)⟩
  have d1 : decide (k < 0) = false := by simpa using c1
  by_cases c2 : 512 < z
  · have d2 : decide (512 < z) = true := by simpa using c2
    clear hb c1 c2
    go_enter Try.func21, Try.ntmps21
    go_wp2_with fail
    refine (HM.out _ (HBB.out _ _)).mono ?_
    rintro e w1 ⟨rfl, rfl⟩
    go_wp2
    exact bodyPost_ret (v := .bool false) (by simp [results, Try.results21, go_sem]) rfl ⟨rfl, by first | exact HBB.out _ _ | exact HSet.out _ _ _ (HBB.out _ _)⟩
  have d2 : decide (512 < z) = false := by simpa using c2
  have d3 : decide (512 - z < k) = true := by simp; omega
  have hz : z ≤ 512 := by omega
  clear hb c1 c2 h1
  go_enter Try.func21, Try.ntmps21
  go_wp2_with fail
  refine (HM.out _ (HBB.out _ _)).mono ?_
  rintro e w1 ⟨rfl, rfl⟩
  go_wp2
  exact bodyPost_ret (v := .bool false) (by simp [results, Try.results21, go_sem]) rfl ⟨rfl, by first | exact HBB.out _ _ | exact HSet.out _ _ _ (HBB.out _ _)⟩

/-- all pages of the parts are own ones just if all bytes are -/
theorem parts_own (a K : Nat) : (∀ x ∈ partsG a K K 0, okP n (Gm.plN L x.1.page) = true) ↔ ∀ i, i < K → okA n L (a + i) = true := by
  rw [parts_all (fun j => okP n (Gm.plN L j) = true) K 0 (by omega)]
  exact ⟨fun h i hi => h i (Nat.zero_le _) hi, fun h j _ hj => h j hj⟩
theorem plN_page {a K : Nat} (haK : a + K ≤ 512) (x : BP a K) : Gm.atP L (x.1.page : Int) = Gm.plN L x.1.page := Gm.atP_is (by obtain ⟨p, h1, h2, h3, h4⟩ := x; show p.page < 12; omega)

theorem own_in (a K : Nat) (haK : a + K ≤ 512) (t : Bool) (ht : t = true ↔ ∀ i, i < K → okA n L (a + i) = true) (w : World) (hP : PV w b s m n S L D) :
    Calls Try.prog 21 #[.pointer (some ⟨b, 0, none⟩), .int .u32 a, .int .i64 K] w fun e w' => e = .returned (.bool t) ∧ Below w.heap.size w w' := by
  have HM : Hid (∀ W, Below w.heap.size w W → Calls Try.prog 39 #[.pointer (some ⟨b, 0, none⟩)] W fun e w' => e = .returned (.bool true) ∧ W = w') := Lib.hid fun W hW => made_yes b s W (hP.more hW).cell0
  have HPP := Lib.hid hP
  have HT := Lib.hid ht
  rw [← parts_own (n := n) (L := L) a K] at ht
  have HTP := Lib.hid ht
  have HAK := Lib.hid haK
  have d1 : decide ((K : Int) < 0) = false := by simp
  have d2 : decide ((512 : Int) < (a : Int)) = false := by simp; omega
  have d3 : decide ((512 : Int) - (a : Int) < (K : Int)) = false := by simp; omega
  have ha : (a : Int) ≤ 512 := by omega
  have hK : (K : Int) ≤ 512 := by omega
  have HBB : Hid (∀ o o' : Obj, Below w.heap.size w ((w.alloc o).alloc o')) := Lib.hid fun o o' => ((Below.refl _ _).alloc (Nat.le_refl _) _).alloc (by simp) _
  clear hP haK ht
  refine (callsIn_wide (n := 102)).1 ?_
  refine callsIn_of_wp_marks Try.func21 rfl trivial ?_ rfl
  simp only [Try.ntmps21, List.size_toArray, List.length_cons, List.length_nil, Nat.reduceAdd, Nat.reduceSub, Array.replicate_succ, Array.replicate_zero, List.push_toArray, List.append_toArray, List.nil_append, List.cons_append]
  gi_wp2_with (first | (refine ⟨trivial, ?_⟩; gi_at_call 39; refine (callsIn_wide.2 (HM.out _ (HBB.out _ _))).mono ?_; rintro e w' ⟨rfl, rfl⟩) | (refine ⟨trivial, ?_⟩; gi_at_call 48; refine (callsIn_wide.2 (parts_any _ _ _)).mono ?_; rintro e w' ⟨rfl, rfl⟩))
  have bV := (((Boxed.new w 25 (.pointer (some ⟨b, 0, none⟩))).alloc (.cells #[.bool false] 4)).alloc (.cells #[.int .i64 a] 3)).alloc (.cells #[.int .i64 K] 3)
  have bR := ((Boxed.new (w.alloc (.cells #[.pointer (some ⟨b, 0, none⟩)] 25)) 4 (.bool false)).alloc (.cells #[.int .i64 a] 3)).alloc (.cells #[.int .i64 K] 3)
  have bA := (Boxed.new ((w.alloc (.cells #[.pointer (some ⟨b, 0, none⟩)] 25)).alloc (.cells #[.bool false] 4)) 3 (.int .i64 a)).alloc (.cells #[.int .i64 K] 3)
  have bK := Boxed.new (((w.alloc (.cells #[.pointer (some ⟨b, 0, none⟩)] 25)).alloc (.cells #[.bool false] 4)).alloc (.cells #[.int .i64 a] 3)) 3 (.int .i64 K)
  simp only [World.size_alloc] at bR bA bK
  have hB0 : Below w.heap.size w ((((w.alloc (.cells #[.pointer (some ⟨b, 0, none⟩)] 25)).alloc (.cells #[.bool false] 4)).alloc (.cells #[.int .i64 a] 3)).alloc (.cells #[.int .i64 K] 3)) := ((((Below.refl _ w).alloc (Nat.le_refl _) _).alloc (by simp) _).alloc (by simp; omega) _).alloc (by simp; omega) _
  have hsz : ((((w.alloc (.cells #[.pointer (some ⟨b, 0, none⟩)] 25)).alloc (.cells #[.bool false] 4)).alloc (.cells #[.int .i64 a] 3)).alloc (.cells #[.int .i64 K] 3)).heap.size = w.heap.size + 4 := by simp
  obtain ⟨W0, hW0⟩ : ∃ W0, (((w.alloc (.cells #[.pointer (some ⟨b, 0, none⟩)] 25)).alloc (.cells #[.bool false] 4)).alloc (.cells #[.int .i64 a] 3)).alloc (.cells #[.int .i64 K] 3) = W0 := ⟨_, rfl⟩
  rw [hW0] at bV bR bA bK hB0 hsz ⊢
  clear hW0 d1 d2 d3
  refine wpIn_rangeFunc_ownH rfl (by omega) (gf := 61) (lb := #[.pointer (some ⟨w.heap.size + 1 + 1 + 1, 0, none⟩), .pointer (some ⟨w.heap.size + 1 + 1, 0, none⟩)]) rfl trivial (enters_of Try.func61 (by kernel_rfl) rfl)
    (parts_stops (w.heap.size + 1 + 1 + 1) (w.heap.size + 1 + 1) a K [] W0 HAK.out (by simp) bK bA) Kc.trans kc_put (Below.refl _ _) (fun _ => rfl)
    (fun pre W => ((∀ x ∈ pre, okP n (Gm.plN L x.1.page) = true) ∧ Boxed W w.heap.size 25 (.pointer (some ⟨b, 0, none⟩)) ∧ Boxed W (w.heap.size + 1) 4 (.bool false)) ∧ Below w.heap.size w W)
    (fun c pre W => (c = .ret ∧ (∃ x ∈ pre, okP n (Gm.plN L x.1.page) = false) ∧ Boxed W (w.heap.size + 1) 4 (.bool false)) ∧ Below w.heap.size w W)
    (OwnFrom.and (Own.from (fun s X Y row hs hg hr => ⟨hs.1, boxed_own _ _ (fun _ : Unit => _) () X Y row hs.2.1 hg hr, boxed_own _ _ (fun _ : Unit => _) () X Y row hs.2.2 hg hr⟩) _) (ownFrom_below (Nat.le_refl _) (by omega)))
    (fun c => OwnFrom.and (Own.from (fun s X Y row hs hg hr => ⟨hs.1, hs.2.1, boxed_own _ _ (fun _ : Unit => _) () X Y row hs.2.2 hg hr⟩) _) (ownFrom_below (Nat.le_refl _) (by omega)))
    ⟨⟨by simp, bV, bR⟩, hB0⟩
    (fun x a' W => ∃ Bx, w.heap.size + 1 < Bx ∧ Blk W Bx 83 x.1.cs ∧ a' = { tmps := #[.pointer (some ⟨b, 0, none⟩), .int .u32 a, .int .i64 K, .pointer (some ⟨w.heap.size, 0, none⟩), undef, undef, .pointer (some ⟨w.heap.size + 1, 0, none⟩), .pointer (some ⟨Bx, 0, none⟩), undef, undef, .pointer (some ⟨b, 0, none⟩), .bool true, .bool false, .bool false, .int .i64 K, .bool false, .bool false, .bool false, .int .u32 a, .bool false, .bool false, .bool false, .int .i64 K, .int .u32 a, .int .i64 a, .int .i64 (512 - a), .bool false, .bool false, .int .u32 a, .int .i64 a, .int .i64 K, .func (.func 61) #[] #[.pointer (some ⟨w.heap.size + 1 + 1 + 1, 0, none⟩), .pointer (some ⟨w.heap.size + 1 + 1, 0, none⟩)], x.1.v, undef, undef, undef, undef, undef, undef, undef, undef, undef], defers := [] })
    (fun x a' _ X Y row hs hg hr => by obtain ⟨Bx, h1, h2, h3⟩ := hs; exact ⟨Bx, h1, blk_own Bx _ (fun _ : Unit => _) () X Y row h2 hg (fun r e => (hr r e).2), h3⟩)
    ?assign ?body ?done ?stop
  case assign =>
    rintro l pre x W K' ⟨⟨hp, bV1, bR1⟩, hB1⟩ hK
    have hlt := bR1.lt
    dsimp only [encP, Part.v]
    gi_wp2
    exact hK _ _ ((KeepsOthers.alloc _ _).from _) (Kc.of_below ((Below.refl _ W).alloc (Nat.le_refl _) _)) ⟨⟨hp, bV1.alloc _, bR1.alloc _⟩, hB1.alloc hB1.size _⟩ ⟨W.heap.size, by omega, Blk.new W _ _, rfl⟩
  case body =>
    rintro l pre x a' W hl ⟨r, hr⟩ ⟨⟨hp, bV1, bR1⟩, hB1⟩ ⟨Bx, hBx, bX, rfl⟩ hlt
    have cV := bV1.cell
    have x0 : W.cell? ⟨Bx, 0, none⟩ = some (.int .i64 x.1.page) := bX.cell rfl
    have hpg := plN_page (L := L) HAK.out x
    obtain ⟨o, ho⟩ : ∃ o, okP n (Gm.plN L x.1.page) = o := ⟨_, rfl⟩
    have HFR := Lib.hid (fun W hW => frame_any (b := b) (s := s) (m := m) (n := n) (S := S) (L := L) (D := D) (x.1.page : Int) _ o (by rw [hpg]; exact ho) rfl W hW)
    have HP1 := Lib.hid (HPP.out.more hB1)
    have HO := Lib.hid ho
    have HPR := Lib.hid hp
    have bR2 := Lib.hid bR1
    have bV2 := Lib.hid bV1
    have HBW := Lib.hid hB1
    have HHL := Lib.hid hl
    clear hpg ho hp bR1 bV1 hB1 bX hr hlt hl
    generalize frP n (Gm.atP L (x.1.page : Int)) = F at HFR
    cases o
    · gi_wp2_with (refine ⟨trivial, ?_⟩; gi_at_call 41; refine (CallsIn.inRound l (callsIn_wide.2 (HFR.out _ HP1.out))).mono ?_; rintro e w1 ⟨rfl, hb1⟩; have cR : Boxed w1 (w.heap.size + 1) 4 (.bool false) := (hb1.block _ bR2.out.lt).trans bR2.out; have cR1 := cR.cell; have cR2 := cR.frozen)
      exact ⟨(keepsFrom_below hb1).trans ((KeepsOthers.setCell _ _ _).from _), ⟨rfl, ⟨x, by simp, HO.out⟩, cR.set _⟩, (HBW.out.trans (hb1.mono HBW.out.size)).setCell (p := ⟨w.heap.size + 1, 0, none⟩) (by simp) _⟩
    · gi_wp2_with (refine ⟨trivial, ?_⟩; gi_at_call 41; refine (CallsIn.inRound l (callsIn_wide.2 (HFR.out _ HP1.out))).mono ?_; rintro e w1 ⟨rfl, hb1⟩; have cR : Boxed w1 (w.heap.size + 1) 4 (.bool false) := (hb1.block _ bR2.out.lt).trans bR2.out; have cR1 := cR.cell; have cR2 := cR.frozen)
      exact ⟨keepsFrom_below hb1, Kc.of_below hb1, ⟨fun y hy => (List.mem_append.1 hy).elim (HPR.out y) (fun e => by simp at e; subst e; exact HO.out), (hb1.block _ bV2.out.lt).trans bV2.out, cR⟩, HBW.out.trans (hb1.mono HBW.out.size)⟩
  case done =>
    rintro D' zs W hD rfl ⟨⟨hp, bV1, bR1⟩, hB1⟩ hK'
    have cR1 := bR1.cell
    have cR2 := bR1.frozen
    have HTT := Lib.hid (HTP.out.2 hp)
    clear hp
    gi_wp2
    have hK2 := (KeepsOthers.setCell W ⟨w.heap.size + 1, 0, none⟩ (.bool true)).same D' _ hK' rfl
    refine ⟨by simp, .inl ⟨_, _, rfl, run_takeDeferred hK2, ?_⟩⟩
    have hc5 := cell_kept (World.cell?_setCell_same' W ⟨w.heap.size + 1, 0, none⟩ (.bool true) (by rw [cR1]; rfl)) (grownBy_putObj' _ D' (.deferred none)) (fun r e => by cases e; exact ⟨_, hK2, rfl⟩)
    refine ⟨.bool true, ?_, by rw [HTT.out], (hB1.setCell (p := ⟨w.heap.size + 1, 0, none⟩) (by simp) _).trans (belowK_b (w := w) (Nat.le_refl _) _ D' _ _ (by omega) hK2 rfl rfl)⟩
    simp [results, Try.results21, go_sem, hc5]
  case stop =>
    rintro D' c pre W hD hpre ⟨⟨rfl, hex, bR1⟩, hB1⟩ hK'
    have cR1 := bR1.cell
    have HTF : Hid (t = false) := Lib.hid (by
      obtain ⟨x, hx, ho⟩ := hex
      cases t
      · rfl
      · have := HTP.out.1 rfl x (hpre.subset hx)
        rw [ho] at this
        exact absurd this (by decide))
    clear hex
    gi_wp2
    refine ⟨by simp, .inl ⟨_, _, rfl, run_takeDeferred hK', ?_⟩⟩
    have hc5 := cell_kept cR1 (grownBy_putObj' _ D' (.deferred none)) (fun r e => by cases e; exact ⟨_, hK', rfl⟩)
    refine ⟨.bool false, ?_, by rw [HTF.out], hB1.trans (belowK_b (w := w) (Nat.le_refl _) W D' _ _ (by omega) hK' rfl rfl)⟩
    simp [results, Try.results21, go_sem, hc5]
theorem own_any (z k : Int) (t : Bool) (h0 : 0 ≤ z) (h1 : z < 4294967296) (ht : ownB n L z k = t) (w : World) (hP : PV w b s m n S L D) :
    Calls Try.prog 21 #[.pointer (some ⟨b, 0, none⟩), .int .u32 z, .int .i64 k] w fun e w' => e = .returned (.bool t) ∧ Below w.heap.size w w' := by
  rcases own_cases n L z k h0 with ⟨h2, h3⟩ | ⟨a, K, rfl, rfl, h2, h3⟩
  · rw [h2] at ht
    subst ht
    exact own_out z k h0 h1 h3 w hP
  · rw [ht] at h3
    exact own_in a K h2 t h3 w hP
end
end Go.Proofs.Ytlgohgjnocoadaa.Vw
