/- Several texts in one: Yk -/
import Derived.Test.YtoafonbplbblpaaZ19
import Derived.Laws.EntriesVeiled
section
/- Package view: each, over any function that is called with a part and its frame. -/
namespace Go.Proofs.Ytoafonbplbblpaa.Vw
open Go.RowKit Go.Shelf Ut Oc
set_option maxRecDepth 100000
set_option linter.unusedVariables false
set_option maxHeartbeats 4000000
attribute [local go_sem] Oper.semAt_some

section
variable {b s m n : Nat} {S : List Int} {L : List Gm.Pl} {D : List Bool}
theorem each_no (p : Option Addr) (z k : Int) (fv : Value) (w : World) (hO : ∀ W, Below w.heap.size w W → Calls Try.prog 14 #[.pointer p, .int .u32 z, .int .i64 k] W fun e w' => e = .returned (.bool false) ∧ Below W.heap.size W w') (hone : fv.oneCell' = true) (hfv : ∃ f c, fv = .func f #[] c) :
    Calls Try.prog 69 #[.pointer p, .int .u32 z, .int .i64 k, fv] w fun e w' => e = .returned (.bool false) ∧ Below w.heap.size w w' := by
  have HO := Lib.hid hO
  have HBB : Hid (∀ o o' : Obj, Below w.heap.size w ((w.alloc o).alloc o')) := Lib.hid fun o o' => ((Below.refl _ _).alloc (Nat.le_refl _) _).alloc (by simp) _
  obtain ⟨f, c, rfl⟩ := hfv
  clear hO hone
  go_enter Try.func69, Try.ntmps69
  go_wp2_with fail
  refine (HO.out _ (HBB.out _ _)).mono ?_
  rintro e w1 ⟨rfl, hb1⟩
  have HB1 := Lib.hid ((HBB.out _ _).trans (hb1.mono (HBB.out _ _).size))
  clear hb1
  go_wp2
  go_ret
  exact ⟨rfl, HB1.out⟩

theorem fine_ok {a K : Nat} (hall : ∀ i, i < K → okA n L (a + i) = true) (x : BP a K) : okP n (Gm.plN L x.1.page) = true := by
  obtain ⟨p, h1, h2, h3, h4⟩ := x
  have := hall p.from_ (by omega)
  unfold okA at this
  rw [show (a + p.from_) / 64 = p.page by omega] at this
  exact this

theorem ownFrom_kq {β : Type} {T : List Nat} {w0 : World} {B : Nat} (hB : w0.heap.size ≤ B) : OwnFrom B (fun (_ : β) W => Kq T w0 W) := fun _ X Y row hs hg hr =>
  ⟨hg.os.trans hs.os, hg.tape.trans hs.tape, hg.output.trans hs.output, Nat.le_trans hs.size hg.size, fun q hq hn => (hg.block q (Nat.lt_of_lt_of_le hq hs.size) (fun e => by have := (hr q e.symm).1; omega)).trans (hs.block q hq hn)⟩
theorem ownFrom_more {β : Type} {I : β → World → Prop} {B B' : Nat} (h : OwnFrom B I) (hB : B ≤ B') : OwnFrom B' I := fun s X Y row hs hg hr => h s X Y row hs hg (fun r e => ⟨Nat.le_trans hB (hr r e).1, (hr r e).2⟩)
theorem frP_ok (hL : Gm.Okay L) {j : Nat} (h : okP n (Gm.plN L j) = true) : frP n (Gm.plN L j) = ((frN L j : Nat) : Int) := by
  obtain ⟨f, h1, h2, _, _⟩ := ok_frame hL h
  unfold frP
  rw [h, if_pos rfl, h1, h2]
/-- what is done part by part -/
theorem each_yes (a K : Nat) (haK : a + K ≤ 512) (ht : ownB n L a K = true) (hall : ∀ i, i < K → okA n L (a + i) = true) (fn : Nat) (caps : Array Value)
    (hen : ∀ args w, (callFunc fn args).run Try.prog w = .ok (.enter fn args) w) (I : List (BP a K) → World → Prop) (T : List Nat) (w : World) (hP : PV w b s m n S L D)
    (hI : OwnFrom w.heap.size I) (hIP : ∀ pre W, I pre W → ∃ S' D', PV W b s m n S' L D') (hT : ∀ q ∈ T, q < w.heap.size)
    (hdo : ∀ (pre : List (BP a K)) (x : BP a K) W, Kq T w W → I pre W → pre.length < 512 → Calls Try.prog fn (#[x.1.v, .int .i64 (frN L x.1.page : Nat)] ++ caps) W fun e W' => e = .returned (.tuple #[]) ∧ I (pre ++ [x]) W' ∧ Kz T W W' ∧ Kq T w W')
    (h0 : I [] w) :
    Calls Try.prog 69 #[.pointer (some ⟨b, 0, none⟩), .int .u32 a, .int .i64 K, .func (.func fn) #[] caps] w fun e w' => e = .returned (.bool true) ∧ I (partsG a K K 0) w' ∧ Kq T w w' := by
  have HO : Hid (∀ W, Below w.heap.size w W → Calls Try.prog 14 #[.pointer (some ⟨b, 0, none⟩), .int .u32 a, .int .i64 K] W fun e w' => e = .returned (.bool true) ∧ Below W.heap.size W w') := Lib.hid fun W hW => own_any (a : Int) (K : Int) true (by omega) (by omega) ht W (hP.more hW)
  have HI := Lib.hid hI
  have HIP := Lib.hid hIP
  have HT := Lib.hid hT
  have HDO := Lib.hid hdo
  have H0 := Lib.hid h0
  have HALL := Lib.hid hall
  have HAK := Lib.hid haK
  have HBB : Hid (∀ o o' : Obj, Below w.heap.size w ((w.alloc o).alloc o')) := Lib.hid fun o o' => ((Below.refl _ _).alloc (Nat.le_refl _) _).alloc (by simp) _
  have ha : (a : Int) ≤ 512 := by omega
  clear hP hI hIP hT hdo h0 hall haK ht
  refine (callsIn_wide (n := 102)).1 ?_
  refine callsIn_of_wp_marks Try.func69 rfl trivial ?_ rfl
  simp only [Try.ntmps69, List.size_toArray, List.length_cons, List.length_nil, Nat.reduceAdd, Nat.reduceSub, Array.replicate_succ, Array.replicate_zero, List.push_toArray, List.append_toArray, List.nil_append, List.cons_append]
  gi_wp2_with (first | (refine ⟨trivial, ?_⟩; gi_at_call 14; refine (callsIn_wide.2 (HO.out _ (HBB.out _ _))).mono ?_; rintro e w1 ⟨rfl, hb1⟩) | (refine ⟨trivial, ?_⟩; gi_at_call 41; refine (callsIn_wide.2 (parts_any _ _ _)).mono ?_; rintro e w' ⟨rfl, rfl⟩))
  have bV : Boxed ((w1.alloc (.cells #[.int .i64 a] 3)).alloc (.cells #[.int .i64 K] 3)) w.heap.size 27 (.pointer (some ⟨b, 0, none⟩)) := by
    have hx : Boxed w1 w.heap.size 27 (.pointer (some ⟨b, 0, none⟩)) := (hb1.block w.heap.size (by simp; omega)).trans ((Boxed.new w 27 (.pointer (some ⟨b, 0, none⟩))).alloc (.cells #[.func (.func fn) #[] caps] 147))
    exact (hx.alloc _).alloc _
  have bF : Boxed ((w1.alloc (.cells #[.int .i64 a] 3)).alloc (.cells #[.int .i64 K] 3)) (w.heap.size + 1) 147 (.func (.func fn) #[] caps) := by
    have h := Boxed.new (w.alloc (.cells #[.pointer (some ⟨b, 0, none⟩)] 27)) 147 (.func (.func fn) #[] caps)
    rw [World.size_alloc] at h
    have hx : Boxed w1 (w.heap.size + 1) 147 (.func (.func fn) #[] caps) := (hb1.block (w.heap.size + 1) (by simp)).trans h
    exact (hx.alloc _).alloc _
  have bA := (Boxed.new w1 3 (.int .i64 a)).alloc (.cells #[.int .i64 K] 3)
  have bK := Boxed.new (w1.alloc (.cells #[.int .i64 a] 3)) 3 (.int .i64 K)
  rw [World.size_alloc] at bK
  have hW1 : Below w.heap.size w w1 := (HBB.out _ _).trans (hb1.mono (HBB.out _ _).size)
  have hs1 : w.heap.size + 2 ≤ w1.heap.size := by have := hb1.size; simp at this; omega
  have hB0 : Below w.heap.size w ((w1.alloc (.cells #[.int .i64 a] 3)).alloc (.cells #[.int .i64 K] 3)) := (hW1.alloc hW1.size _).alloc (by have := hW1.size; simp; omega) _
  have hsz : ((w1.alloc (.cells #[.int .i64 a] 3)).alloc (.cells #[.int .i64 K] 3)).heap.size = w1.heap.size + 2 := by simp
  obtain ⟨W0, hW0⟩ : ∃ W0, (w1.alloc (.cells #[.int .i64 a] 3)).alloc (.cells #[.int .i64 K] 3) = W0 := ⟨_, rfl⟩
  rw [hW0] at bV bF bA bK hB0 hsz ⊢
  have HI0 : Hid (I [] W0) := Lib.hid (HI.out [] w W0 none H0.out ⟨hB0.os, hB0.tape, hB0.output, hB0.size, fun k hk _ => hB0.block k hk⟩ (fun r e => by cases e))
  clear hW0 hb1 hW1
  refine wpIn_rangeFunc_ownH rfl (by omega) (gf := 62) (lb := #[.pointer (some ⟨w1.heap.size + 1, 0, none⟩), .pointer (some ⟨w1.heap.size, 0, none⟩)]) rfl trivial (enters_of Try.func62 (by kernel_rfl) rfl)
    (parts_stops (w1.heap.size + 1) w1.heap.size a K T W0 HAK.out (fun q hq => by have := HT.out q hq; exact ⟨by omega, by omega, by omega⟩) bK bA) Kc.trans kc_put (Below.refl _ _) (fun _ => rfl)
    (fun pre W => (I pre W ∧ Boxed W w.heap.size 27 (.pointer (some ⟨b, 0, none⟩)) ∧ Boxed W (w.heap.size + 1) 147 (.func (.func fn) #[] caps)) ∧ Kq T w W)
    (fun _ _ _ => False)
    (OwnFrom.and (fun s X Y row hs hg hr => ⟨ownFrom_more HI.out (by omega) s X Y row hs.1 hg hr, boxed_own _ _ (fun _ : Unit => _) () X Y row hs.2.1 hg (fun r e => (hr r e).2), boxed_own _ _ (fun _ : Unit => _) () X Y row hs.2.2 hg (fun r e => (hr r e).2)⟩) (ownFrom_kq (by omega)))
    (fun _ _ _ _ _ hs _ _ => hs)
    ⟨⟨HI0.out, bV, bF⟩, Kq.of_below hB0⟩
    (fun x a' W => ∃ Bx, w.heap.size + 1 < Bx ∧ Blk W Bx 102 x.1.cs ∧ a' = { tmps := #[.pointer (some ⟨b, 0, none⟩), .int .u32 a, .int .i64 K, .func (.func fn) #[] caps, .pointer (some ⟨w.heap.size, 0, none⟩), undef, undef, .pointer (some ⟨w.heap.size + 1, 0, none⟩), .bool false, .pointer (some ⟨Bx, 0, none⟩), undef, undef, .pointer (some ⟨b, 0, none⟩), .int .u32 a, .int .i64 K, .bool true, .bool false, .int .u32 a, .int .i64 a, .int .i64 K, .func (.func 62) #[] #[.pointer (some ⟨w1.heap.size + 1, 0, none⟩), .pointer (some ⟨w1.heap.size, 0, none⟩)], x.1.v, undef, undef, undef, undef, undef, undef, undef, undef, undef, undef, undef], defers := [] })
    (fun x a' _ X Y row hs hg hr => by obtain ⟨Bx, h1, h2, h3⟩ := hs; exact ⟨Bx, h1, blk_own Bx _ (fun _ : Unit => _) () X Y row h2 hg (fun r e => (hr r e).2), h3⟩)
    ?assign ?body ?done ?stop
  case assign =>
    rintro l pre x W K' ⟨⟨hp, bV1, bF1⟩, hB1⟩ hK
    have hlt := bF1.lt
    dsimp only [encP, Part.v]
    gi_wp2
    have hbw : Below W.heap.size W (W.alloc (.cells #[.int .i64 x.1.page, .int .i64 x.1.off, .int .i64 x.1.k, .int .i64 x.1.from_] 102)) := (Below.refl _ W).alloc (Nat.le_refl _) _
    exact hK _ _ ((KeepsOthers.alloc _ _).from _) (Kc.of_below hbw) ⟨⟨HI.out pre W _ none hp ⟨hbw.os, hbw.tape, hbw.output, hbw.size, fun k hk _ => hbw.block k hk⟩ (fun r e => by cases e), bV1.alloc _, bF1.alloc _⟩, hB1.trans (Kq.of_below hbw)⟩ ⟨W.heap.size, by omega, Blk.new W _ _, rfl⟩
  case body =>
    rintro l pre x a' W hl ⟨r, hr⟩ ⟨⟨hp, bV1, bF1⟩, hB1⟩ ⟨Bx, hBx, bX, rfl⟩ hlt
    have cV := bV1.cell
    have cF := bF1.cell
    have x0 : W.cell? ⟨Bx, 0, none⟩ = some (.int .i64 x.1.page) := bX.cell rfl
    have hpg := plN_page (L := L) HAK.out x
    have hok := fine_ok (n := n) (L := L) HALL.out x
    obtain ⟨S', D', hPW⟩ := HIP.out pre W hp
    have hfr := frP_ok hPW.mp.2 hok
    have HFR := Lib.hid (frame_any (b := b) (s := s) (m := m) (n := n) (x.1.page : Int) ((frN L x.1.page : Nat) : Int) true (by rw [hpg]; exact hok) (by rw [hpg]; exact hfr) W hPW)
    have HPR := Lib.hid hp
    have bF2 := Lib.hid bF1
    have bV2 := Lib.hid bV1
    have bX2 := Lib.hid bX
    have HKW := Lib.hid hB1
    have HHL := Lib.hid hl
    have HLEN : Hid (pre.length < 512) := Lib.hid (by have := partsG_len a K K 0; have := HAK.out; omega)
    clear hpg hok hfr hp bF1 bV1 hB1 bX hr hlt hl hPW
    generalize hFN : ((frN L x.1.page : Nat) : Int) = F at HFR
    gi_wp2_with (first | (refine ⟨trivial, ?_⟩; gi_at_call 42; refine (CallsIn.inRound l (callsIn_wide.2 HFR.out)).mono ?_; rintro e w2 ⟨rfl, hb2⟩; have bF3 : Boxed w2 (w.heap.size + 1) 147 (.func (.func fn) #[] caps) := (hb2.block _ bF2.out.lt).trans bF2.out; have cF2 := bF3.cell; have bX3 : Blk w2 Bx 102 x.1.cs := (hb2.block _ bX2.out.lt).trans bX2.out; have y0 : w2.cell? ⟨Bx, 0, none⟩ = some (.int .i64 x.1.page) := bX3.cell rfl; have y1 : w2.cell? ⟨Bx, 1, none⟩ = some (.int .i64 x.1.off) := bX3.cell rfl; have y2 : w2.cell? ⟨Bx, 2, none⟩ = some (.int .i64 x.1.k) := bX3.cell rfl; have y3 : w2.cell? ⟨Bx, 3, none⟩ = some (.int .i64 x.1.from_) := bX3.cell rfl))
    have hk2 : Kq T w w2 := HKW.out.trans (Kq.of_below hb2)
    have hI2 : I pre w2 := HI.out pre W w2 none HPR.out ⟨hb2.os, hb2.tape, hb2.output, hb2.size, fun k hk _ => hb2.block k hk⟩ (fun r e => by cases e)
    have HD := HDO.out pre x w2 hk2 hI2 HLEN.out
    rw [hFN] at HD
    have bV3 : Boxed w2 w.heap.size 27 (.pointer (some ⟨b, 0, none⟩)) := (hb2.block _ bV2.out.lt).trans bV2.out
    refine ⟨trivial, ?_⟩
    refine (CallsIn.inRound l (callsIn_wide.2 HD)).mono ?_
    rintro e w3 ⟨rfl, hI3, hk3, hq3⟩
    have hw : w.heap.size ∉ T := fun e => by have := HT.out _ e; omega
    have hw1 : w.heap.size + 1 ∉ T := fun e => by have := HT.out _ e; omega
    have HF3 := Lib.hid (show KeepsFrom W0.heap.size W w3 from (keepsFrom_below hb2).trans (keepsFrom_kz hk3 (fun q hq => by have := HT.out q hq; omega)))
    have HC3 := Lib.hid ((Kc.of_below (T := T) hb2).trans (Kc.of_kz hk3))
    have HI3 := Lib.hid hI3
    have HV3 := Lib.hid (boxed_kc bV3 (Kc.of_kz hk3) hw (by decide))
    have HB3 := Lib.hid (boxed_kc bF3 (Kc.of_kz hk3) hw1 (by decide))
    have HK3 := Lib.hid hq3
    clear hk2 hI2 HD bV3 hI3 hk3 hq3 hw hw1 bF3 cF2 bX3 y0 y1 y2 y3 hb2
    gi_wp2
    exact ⟨HF3.out, HC3.out, ⟨HI3.out, HV3.out, HB3.out⟩, HK3.out⟩
  case done =>
    rintro D' zs W hD rfl ⟨⟨hp, bV1, bF1⟩, hB1⟩ hK'
    gi_wp2
    refine ⟨by simp, .inl ⟨_, _, rfl, run_takeDeferred hK', ?_⟩⟩
    have hg := grownBy_putObj' W D' (.deferred none)
    refine ⟨_, results_tmp rfl _ _ _, rfl, ownFrom_more (B' := W0.heap.size) HI.out (by omega) _ W _ (some D') hp hg (fun r e => by cases e; exact ⟨by omega, _, hK', rfl⟩), ?_⟩
    exact ownFrom_kq (β := Unit) (T := T) (w0 := w) (B := W0.heap.size) (by omega) () W _ (some D') hB1 hg (fun r e => by cases e; exact ⟨by omega, _, hK', rfl⟩)
  case stop =>
    rintro D' c pre W _ _ h _
    exact h.elim
end
end Go.Proofs.Ytoafonbplbblpaa.Vw
end
