/- Package shadow: what one that nobody made tells (ZeroC). -/
import Derived.Test.YtcdiigdbjncpeaaJz
import Derived.Test.YtcdiigdbjncpeaaJq
namespace Go.Proofs.Ytcdiigdbjncpeaa.Sw
open Go.RowKit Ut
set_option maxRecDepth 100000
set_option linter.unusedVariables false
set_option maxHeartbeats 4000000

def Un19 (W : World) (v : Value) : Prop := v = .pointer none ∨ ∃ g, v = .pointer (some ⟨g, 0, none⟩) ∧ LS19 W g false []
theorem Un19.more {W W' : World} {v : Value} (h : Un19 W v) (hb : Below W.heap.size W W') : Un19 W' v := h.imp_right fun ⟨g, h1, h2⟩ => ⟨g, h1, h2.more hb⟩
theorem Un19.no {W : World} {v : Value} (h : Un19 W v) : v = .pointer none ∨ ∃ g m, v = .pointer (some ⟨g, 0, none⟩) ∧ LS19 W g m [] := h.imp_right fun ⟨g, h1, h2⟩ => ⟨g, _, h1, h2⟩
theorem Un19.th {W : World} {v : Value} (h : Un19 W v) : ThP W v [] := by
  rcases h with rfl | ⟨g, rfl, h⟩
  · exact th_nil W
  · exact h.th
theorem unFill {W : World} {v : Value} (p q ep ef er r f : Int) (h : Un19 W v) : Calls Try.prog 25 #[v, .agg #[.int .i64 p, .int .i64 q], .agg #[.int .i64 ep, .int .i64 ef, .int .i64 er], .int .i64 r, .int .i64 f] W fun e w' => (∃ a c, e = .returned (.tuple #[.slice a 0 c, .int .i64 7])) ∧ Below W.heap.size W w' := by
  obtain ⟨U, hU⟩ : ∃ U, U = (W.alloc (.cells #[.int .i64 p, .int .i64 q] 30)).alloc (.cells #[.int .i64 ep, .int .i64 ef, .int .i64 er] 32) := ⟨_, rfl⟩
  have hB : Below W.heap.size W U := by rw [hU]; exact ((Below.refl _ _).alloc (Nat.le_refl _) _).alloc (by simp) _
  have HB := Lib.hid hB
  have HU := Lib.hid hU
  have hu := h.more hB
  clear h hB hU
  rcases hu with rfl | ⟨g, rfl, h⟩
  · go_enter Try.func25, Try.ntmps25
    go_upto_region 1 with fail
    rw [← HU.out]
    clear HU
    go_wp2
    go_ret2
    exact ⟨⟨_, _, rfl⟩, HB.out⟩
  · have c0 := h.pre.1
    have gl := h.lt
    clear h
    go_enter Try.func25, Try.ntmps25
    go_upto_region 1 with fail
    rw [← HU.out]
    clear HU
    go_wp2
    go_ret2
    exact ⟨⟨_, _, rfl⟩, HB.out⟩
theorem alloc_shadow (w : World) (ρ : Operand → Value) (o : Oper) (ho : o.op = .alloc 65) (n : Nat) (hn : w.heap.size = n) : (execOp ρ o).run Try.prog w = .ok (.value (.pointer (some ⟨n, 0, none⟩))) (w.alloc (.cells (newS false).toArray 65)) := by
  subst hn
  unfold execOp
  rw [ho]
  kernel_rfl
theorem zero19 : ZeroC Un19 (newS false) where
  run w ρ o ho n hn := alloc_shadow w ρ o ho n hn
  made w := .inr ⟨_, rfl, newS_at false w⟩
  nil w := .inl rfl
  more h hb := h.more hb
  fill p q ep ef er r f h := unFill p q ep ef er r f h
  get p q h := shGet_any p q h.th (.inl rfl)
  table p h := shTable_any p h.th
  wrote p h := (shWrote_no p h.no).mono fun e w' ⟨h1, h2⟩ => ⟨⟨_, _, h1⟩, h2⟩
  gone p h := (shGone_no p h.no).mono fun e w' ⟨h1, h2⟩ => ⟨⟨_, _, h1⟩, h2⟩
  flush h := shFlush_no h.no
  size h := shLen_any h.th
  list h := (shList_any h.th).mono fun e w' ⟨⟨v, h1, h2⟩, h3⟩ => by
    obtain ⟨a, c, rfl, _⟩ := h2.out
    exact ⟨⟨a, c, h1⟩, h3⟩
end Go.Proofs.Ytcdiigdbjncpeaa.Sw
