/- Package shadow: Wrote, Gone, Flush. -/
import Derived.Test.YtcdiigdbjncpeaaJv
namespace Go.Proofs.Ytcdiigdbjncpeaa.Sw
open Go.RowKit Ut
set_option maxRecDepth 100000
set_option linter.unusedVariables false
set_option maxHeartbeats 4000000

theorem goF_no (p : Int) : goF p false = fun x => x.by_ p := by
  funext x
  unfold goF
  rw [Bool.false_and, Bool.or_false]
section
variable {W : World} {g : Nat} {m : Bool} {l : List Ln}
/-- forget's contract, carried on from a world ahead of it -/
theorem forget_from {fi : Nat} {caps : Array Value} {P : Ln → Bool} {V : World} (h : LS19 W g m l) (hb : Below W.heap.size W V) (hi : IsL V [g] fi caps P) :
    Calls Try.prog 33 #[.pointer (some ⟨g, 0, none⟩), .func (.func fi) #[] caps] V fun e w' => (∃ v, e = .returned v ∧ Hid (Told 2 W w' v ((l.filter P).map Ln.key))) ∧ Hid (LS19 w' g m (l.filter fun x => !P x)) ∧ Kq [g] W w' :=
  (forget_any (h.more hb) hi).mono fun e w' ⟨⟨v, h1, h2⟩, h3, h4⟩ => ⟨⟨v, h1, Lib.hid (h2.out.from_ hb.size)⟩, h3, (Kq.of_below hb).trans h4⟩
theorem shWrote_any (p : Int) (h : LS19 W g m l) : Calls Try.prog 23 #[.pointer (some ⟨g, 0, none⟩), .int .i64 p] W fun e w' => (∃ v, e = .returned v ∧ Hid (Told 2 W w' v ((goneS l p false).map Ln.key))) ∧ Hid (LS19 w' g m (leftS l p false)) ∧ Kq [g] W w' := by
  have HF : Hid (∀ w1, Blk w1 W.heap.size 3 [.int .i64 p] → Below W.heap.size W w1 → Calls Try.prog 33 #[.pointer (some ⟨g, 0, none⟩), .func (.func 40) #[] #[.pointer (some ⟨W.heap.size, 0, none⟩)]] w1 fun e w' => (∃ v, e = .returned v ∧ Hid (Told 2 W w' v ((goneS l p false).map Ln.key))) ∧ Hid (LS19 w' g m (leftS l p false)) ∧ Kq [g] W w') := Lib.hid fun w1 hk hb => by
    have := forget_from h hb (isL_through (T := [g]) p W.heap.size hk (by have := h.lt; simp; omega))
    unfold goneS leftS
    rw [goF_no]
    exact this
  clear h
  go_enter Try.func23, Try.ntmps23
  go_wp2_with fail
  refine (through_any p W).mono ?_
  rintro e w1 ⟨rfl, hk, hb⟩
  have HG := Lib.hid (HF.out w1 hk hb)
  clear hk hb HF
  go_wp2_with fail
  refine HG.out.mono ?_
  rintro e w2 ⟨⟨v, rfl, HT⟩, HL, hk⟩
  have HK := Lib.hid hk
  clear hk HG
  go_wp2
  go_ret
  exact ⟨⟨v, rfl, HT⟩, HL, HK.out⟩
theorem shWrote_no (p : Int) {v : Value} (h : v = .pointer none ∨ ∃ g m, v = .pointer (some ⟨g, 0, none⟩) ∧ LS19 W g m []) : Calls Try.prog 23 #[v, .int .i64 p] W fun e w' => e = .returned (.slice none 0 0) ∧ Below W.heap.size W w' := by
  have HF : Hid (∀ w1 F, Below W.heap.size W w1 → Calls Try.prog 33 #[v, F] w1 fun e w' => e = .returned (.slice none 0 0) ∧ Below W.heap.size W w') := Lib.hid fun w1 F hb => by
    rcases h with rfl | ⟨g, m, rfl, h⟩
    · exact (forget_nil w1 F).mono fun e w' ⟨h1, h2⟩ => ⟨h1, hb.trans (h2.mono hb.size)⟩
    · exact (forget_empty (h.more hb) F).mono fun e w' ⟨h1, h2⟩ => ⟨h1, hb.trans (h2.mono hb.size)⟩
  clear h
  go_enter Try.func23, Try.ntmps23
  go_wp2_with fail
  refine (through_any p W).mono ?_
  rintro e w1 ⟨rfl, hk, hb⟩
  have HG := Lib.hid (HF.out w1 (.func (.func 40) #[] #[.pointer (some ⟨W.heap.size, 0, none⟩)]) hb)
  clear hk hb HF
  go_wp2_with fail
  refine HG.out.mono ?_
  rintro e w2 ⟨rfl, hb2⟩
  have HB := Lib.hid hb2
  clear hb2 HG
  go_wp2
  go_ret
  exact ⟨rfl, HB.out⟩
/-- the world in which Gone asks forget: the page, through's page, the variable that holds its closure -/
theorem shGone_any (p : Int) (h : LS19 W g m l) : Calls Try.prog 24 #[.pointer (some ⟨g, 0, none⟩), .int .i64 p] W fun e w' => (∃ v, e = .returned v ∧ Hid (Told 2 W w' v ((goneS l p true).map Ln.key))) ∧ Hid (LS19 w' g m (leftS l p true)) ∧ Kq [g] W w' := by
  obtain ⟨U, hU⟩ : ∃ U, U = W.alloc (.cells #[.int .i64 p] 3) := ⟨_, rfl⟩
  have hB : Below W.heap.size W U := by rw [hU]; exact (Below.refl _ _).alloc (Nat.le_refl _) _
  have hN : Blk U W.heap.size 3 [.int .i64 p] := by rw [hU]; exact Blk.new W _ [.int .i64 p]
  have k0 := hN.cell (j := 0) rfl
  have kl := hN.lt
  have hgl := h.lt
  have HU := Lib.hid hU
  have HF : Hid (∀ w1, Blk w1 U.heap.size 3 [.int .i64 p] → Below U.heap.size U w1 → Calls Try.prog 33 #[.pointer (some ⟨g, 0, none⟩), .func (.func 34) #[] #[.pointer (some ⟨w1.heap.size, 0, none⟩), .pointer (some ⟨W.heap.size, 0, none⟩)]] (w1.alloc (.cells #[.func (.func 40) #[] #[.pointer (some ⟨U.heap.size, 0, none⟩)]] 72)) fun e w' => (∃ v, e = .returned v ∧ Hid (Told 2 W w' v ((goneS l p true).map Ln.key))) ∧ Hid (LS19 w' g m (leftS l p true)) ∧ Kq [g] W w') := Lib.hid fun w1 hk hb => by
    have hb1 : Below w1.heap.size w1 (w1.alloc (.cells #[.func (.func 40) #[] #[.pointer (some ⟨U.heap.size, 0, none⟩)]] 72)) := (Below.refl _ _).alloc (Nat.le_refl _) _
    have hf := Blk.new w1 72 [.func (.func 40) #[] #[.pointer (some ⟨U.heap.size, 0, none⟩)]]
    have hbb : Below W.heap.size W w1 := hB.trans (hb.mono hB.size)
    have s1 := hB.size
    have s2 := hb.size
    exact forget_from h (hbb.trans (hb1.mono hbb.size)) ⟨fun _ _ => rfl, fun x w' hw => gone119_any p W.heap.size w1.heap.size U.heap.size x w' (((hN.more hb).more hb1).kq hw (by simp; omega)) (hf.kq hw (by simp; omega)) ((hk.more hb1).kq hw (by simp; omega))⟩
  clear h hB hN hU hgl
  go_enter Try.func24, Try.ntmps24
  go_upto_region 1 with fail
  rw [← HU.out]
  clear HU
  go_wp2_with fail
  refine (through_any p U).mono ?_
  rintro e w1 ⟨rfl, hk, hb⟩
  have HG := Lib.hid (HF.out w1 hk hb)
  clear hk hb HF k0 kl
  go_wp2_with fail
  refine HG.out.mono ?_
  rintro e w2 ⟨⟨v, rfl, HT⟩, HL, hk⟩
  have HK := Lib.hid hk
  clear hk HG
  go_wp2
  go_ret
  exact ⟨⟨v, rfl, HT⟩, HL, HK.out⟩
theorem shGone_no (p : Int) {v : Value} (h : v = .pointer none ∨ ∃ g m, v = .pointer (some ⟨g, 0, none⟩) ∧ LS19 W g m []) : Calls Try.prog 24 #[v, .int .i64 p] W fun e w' => e = .returned (.slice none 0 0) ∧ Below W.heap.size W w' := by
  have HF : Hid (∀ w1 F, Below W.heap.size W w1 → Calls Try.prog 33 #[v, F] w1 fun e w' => e = .returned (.slice none 0 0) ∧ Below W.heap.size W w') := Lib.hid fun w1 F hb => by
    rcases h with rfl | ⟨g, m, rfl, h⟩
    · exact (forget_nil w1 F).mono fun e w' ⟨h1, h2⟩ => ⟨h1, hb.trans (h2.mono hb.size)⟩
    · exact (forget_empty (h.more hb) F).mono fun e w' ⟨h1, h2⟩ => ⟨h1, hb.trans (h2.mono hb.size)⟩
  obtain ⟨U, hU⟩ : ∃ U, U = W.alloc (.cells #[.int .i64 p] 3) := ⟨_, rfl⟩
  have hB : Below W.heap.size W U := by rw [hU]; exact (Below.refl _ _).alloc (Nat.le_refl _) _
  have hN : Blk U W.heap.size 3 [.int .i64 p] := by rw [hU]; exact Blk.new W _ [.int .i64 p]
  have k0 := hN.cell (j := 0) rfl
  have kl := hN.lt
  have HU := Lib.hid hU
  have HB := Lib.hid hB
  have HA : Hid (∀ (V : World) (o : Obj), Below U.heap.size U V → Below W.heap.size W (V.alloc o)) := Lib.hid fun V o hb => by
    have h1 := hB.trans (hb.mono hB.size)
    exact h1.alloc h1.size _
  clear h hU hB hN
  go_enter Try.func24, Try.ntmps24
  go_upto_region 1 with fail
  rw [← HU.out]
  clear HU
  go_wp2_with fail
  refine (through_any p U).mono ?_
  rintro e w1 ⟨rfl, hk, hb⟩
  have HA1 := Lib.hid fun o => HA.out w1 o hb
  clear hk hb HA k0 kl
  go_wp2_with fail
  refine (HF.out _ _ (HA1.out _)).mono ?_
  rintro e w2 ⟨rfl, hb2⟩
  have HB2 := Lib.hid hb2
  clear hb2 HF
  go_wp2
  go_ret
  exact ⟨rfl, HB2.out⟩
theorem shFlush_any (h : LS19 W g m l) : Calls Try.prog 26 #[.pointer (some ⟨g, 0, none⟩)] W fun e w' => e = .returned (.int .i64 l.length) ∧ Hid (LS19 w' g m []) ∧ Kq [g] W w' := by
  have hF := forget_from h (Below.refl _ _) (isL_flush (T := [g]))
  have e1 : ((l.filter fun _ => true).map Ln.key).length = l.length := by simp
  have e2 : (l.filter fun _ => !true) = [] := by simp
  have HF := Lib.hid hF
  have HE := Lib.hid e1
  rw [e2] at HF
  generalize (l.filter fun _ => true).map Ln.key = ks at HF HE
  clear hF h e1 e2
  generalize l.length = n at HE ⊢
  go_enter Try.func26, Try.ntmps26
  go_wp2_with fail
  refine HF.out.mono ?_
  rintro e w2 ⟨⟨v, rfl, HT⟩, HL, hk⟩
  have HK := Lib.hid hk
  obtain ⟨a, c, rfl, _⟩ := HT.out
  rw [HE.out]
  clear hk HF HT HE
  go_wp2
  go_ret
  exact ⟨rfl, HL, HK.out⟩
theorem shFlush_no {v : Value} (h : v = .pointer none ∨ ∃ g m, v = .pointer (some ⟨g, 0, none⟩) ∧ LS19 W g m []) : Calls Try.prog 26 #[v] W fun e w' => e = .returned (.int .i64 0) ∧ Below W.heap.size W w' := by
  have HF : Hid (∀ F, Calls Try.prog 33 #[v, F] W fun e w' => e = .returned (.slice none 0 0) ∧ Below W.heap.size W w') := Lib.hid fun F => by
    rcases h with rfl | ⟨g, m, rfl, h⟩
    · exact forget_nil W F
    · exact forget_empty h F
  clear h
  go_enter Try.func26, Try.ntmps26
  go_wp2_with fail
  refine (HF.out _).mono ?_
  rintro e w2 ⟨rfl, hb2⟩
  have HB2 := Lib.hid hb2
  clear hb2 HF
  go_wp2
  go_ret
  exact ⟨rfl, HB2.out⟩
end
end Go.Proofs.Ytcdiigdbjncpeaa.Sw
