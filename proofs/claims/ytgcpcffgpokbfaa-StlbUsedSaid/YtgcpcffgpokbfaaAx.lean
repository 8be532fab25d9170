/- Package stlb: List: its walk. -/
import Derived.Test.YtgcpcffgpokbfaaAw
namespace Go.Proofs.Ytgcpcffgpokbfaa.Sb
open Go.RowKit Ut Hg
set_option maxRecDepth 100000
set_option linter.unusedVariables false
set_option maxHeartbeats 4000000

def six (w : World) (b : Nat) (u : Us) : World := (((((w.setCell ⟨b, 0, none⟩ (.int .i64 u.1.kr)).setCell ⟨b, 1, none⟩ (.int .i64 u.1.kp)).setCell ⟨b, 2, none⟩ (.int .i64 u.1.ep)).setCell ⟨b, 3, none⟩ (.int .i64 u.1.ef)).setCell ⟨b, 4, none⟩ (.int .i64 u.1.er)).setCell ⟨b, 5, none⟩ (.int .u64 u.2)
section
variable {W wr w5 w6 w7 : World} {lb xb g : Nat} {d l : List Rc} {c c' u : Us} {q : Bool} {us us' : List Us} {L L' : List Rc} {v v' : Value} {room k : Int}
theorem six_blk {w : World} {b : Nat} {t : TypeId} (h : Blk w b t (usC c)) (u : Us) : Blk (six w b u) b t (usC u) := (((((h.set 0 (.int .i64 u.1.kr)).set 1 (.int .i64 u.1.kp)).set 2 (.int .i64 u.1.ep)).set 3 (.int .i64 u.1.ef)).set 4 (.int .i64 u.1.er)).set 5 (.int .u64 u.2)
theorem six_kq (w : World) (b : Nat) (u : Us) : Kq [b] w (six w b u) := ((((((Kq.refl [b] w).setCell b 0 _ (.inl (by simp))).setCell b 1 _ (.inl (by simp))).setCell b 2 _ (.inl (by simp))).setCell b 3 _ (.inl (by simp))).setCell b 4 _ (.inl (by simp))).setCell b 5 _ (.inl (by simp))
/-- one more is told: the row grows (w5), its place is made anew (w6), the next is taken out (w7) and stored -/
theorem LS.next (h : LS W wr lb xb d l c true us L v) (ho : OwnT 5 w5 (lb + 1) 53 v' ((d ++ [c.1]).map Rc.l)) (hg : wr.grownBy w5 v.ownBlock) (hn : ∀ p, v'.ownBlock = some p → v.ownBlock = some p ∨ wr.heap.size < p)
    (h6 : Below w5.heap.size w5 w6) (hx6 : Blk w6 w5.heap.size 57 (usC c)) (h7 : HP w7 lb 60 [] us') (hr : Rel us' L') (hL : L = (if q = true then c'.1 :: L' else [])) (hk : Kq [lb] w6 w7) :
    LS W (six w7 w5.heap.size c') lb w5.heap.size (d ++ [c.1]) l c' q us' L' v' := by
  have hl5 : lb < w5.heap.size := Nat.lt_of_lt_of_le h.h.1.lt hg.size
  have hob : ∀ p, v'.ownBlock = some p → p < w5.heap.size ∧ p ≠ lb := fun p hp => by
    obtain ⟨h1, h2⟩ := World.ownsRow.lt ho.1 p hp
    exact ⟨h2, by omega⟩
  have hvb : ∀ p, v.ownBlock = some p → lb < p := fun p hp => (World.ownsRow.lt h.own.1 p hp).1
  have hs := six_kq w7 w5.heap.size c'
  have hB5 : Below W.heap.size W w5 := h.b.grown hg h.b.size (fun p hp => by have := hvb p hp; have := h.lw; omega)
  refine ⟨?_, six_blk (hx6.kq hk (by simp; omega)) c', ⟨h7.1.kq hs (by simp; omega), h7.2⟩, hr, ?_, fun p hp => by have := (hob p hp).1; omega, hl5, h.lw, ?_⟩
  · refine ownT_kq (ownT_kq (ownT_kq (T := []) ho (Kq.of_below h6) (by simp)) hk (fun p hp => by have := (hob p hp).2; simpa using this)) hs (fun p hp => by have := (hob p hp).1; simp; omega)
  · rw [← hL, List.append_assoc]
    exact h.e
  · have h1 : Below W.heap.size W w6 := hB5.trans (h6.mono hB5.size)
    have h2 : Below W.heap.size w6 w7 := hk.under (fun p hp => by simp at hp; subst hp; exact h.lw) h1.size
    have h3 : Below W.heap.size w7 (six w7 w5.heap.size c') := hs.under (fun p hp => by simp at hp; subst hp; exact hB5.size) (Nat.le_trans h1.size h2.size)
    exact (h1.trans h2).trans h3

theorem list_any {pre : List Value} (h : HP W g 62 pre us) (hp3 : pre.length = 3) (hrel : Rel us l) :
    Calls Try.prog 24 #[.pointer (some ⟨g, 0, none⟩)] W fun e w' => (∃ a cap, e = .returned (.slice a l.length cap) ∧ Hid (RcRow w' a l ∧ ∀ y, a = some y → W.heap.size ≤ y.block)) ∧ Below W.heap.size W w' := by
  have hl5 : l.length ≤ 5 := by rw [← hrel.len]; exact h.1.len
  have HL5 := Lib.hid hl5
  obtain ⟨⟨z, hrb⟩, hheap⟩ := h
  have hgl := hrb.lt
  obtain ⟨X, hX⟩ : ∃ X : List Value, X = .int .i64 (us.length : Nat) :: flatU (us ++ z) := ⟨_, rfl⟩
  have hXl : X.length = 31 := by rw [hX, List.length_cons, length_flatU, hrb.1]
  have HLD : Hid (∀ (ρ : Operand → Value) (oo : Oper), oo.op = .load 60 (.tmp 11) → ρ (.tmp 11) = .pointer (some ⟨g, 3, none⟩) → (execOp ρ oo).run Try.prog W = .ok (.value (.agg X.toArray)) W) := Lib.hid fun ρ oo ho hx =>
    exec_load_blk hrb.2 3 60 (.tmp 11) ho hx X (fun j v hj => by rw [← hX, List.getElem?_append_right (by omega), show 3 + j - pre.length = j by omega]; exact hj) _ Try.underlying60 rfl (by rw [size_lately, hXl])
  have HAL := alloc_lately W
  obtain ⟨V, hV⟩ : ∃ V, V = (W.alloc (.cells zeroL.toArray 60)).setRow W.heap.size X.toArray := ⟨_, rfl⟩
  have hbV : Below W.heap.size W V := by rw [hV]; exact below_setRow ((Below.refl _ _).alloc (Nat.le_refl _) _) (Nat.le_refl _) _
  have hN0 : Blk (W.alloc (.cells zeroL.toArray 60)) W.heap.size 60 zeroL := Blk.new W _ _
  have hNV : Blk V W.heap.size 60 X := by rw [hV]; exact hN0.row X
  have hHV : HP V W.heap.size 60 [] us := ⟨⟨z, hrb.1, by rw [List.nil_append, ← hX]; exact hNV⟩, hheap⟩
  have HX1 : Hid ((X.toArray).all (·.oneCell') = true) := Lib.hid (by
    rw [hX]
    simp only [List.all_toArray, List.all_cons, Value.oneCell', Bool.true_and]
    exact List.all_eq_true.2 (fun v hv => flatU_one _ v hv))
  have HXL := Lib.hid hXl
  have HV := Lib.hid hV
  have HBV := Lib.hid hbV
  have HN0 := Lib.hid hN0
  have HF := Lib.hid (first_any (o := 0) hHV rfl hrel)
  have HHV := Lib.hid hHV
  clear hl5 hrb hheap hrel hp3 hX hXl hV hbV hN0 hNV hHV
  go_enter Try.func24, Try.ntmps24
  go_upto_region 4 with fail
  refine wp_region_lit ?_
  refine Great.wpList_readTo rfl (some 9) rfl (.pointer (some ⟨g, 0, none⟩)) (by kernel_rfl) ?_
  refine Great.wpList_readTo rfl (some 10) rfl (.pointer (some ⟨g, 0, none⟩)) (by kernel_rfl) ?_
  refine Great.wpList_readTo rfl (some 11) rfl (.pointer (some ⟨g, 3, none⟩)) (by kernel_rfl) ?_
  refine Great.wpList_readTo rfl (some 12) rfl (.agg X.toArray) (HLD.out _ _ rfl rfl) ?_
  refine Great.wpList_allocTo rfl (some 4) rfl (.pointer (some ⟨W.heap.size, 0, none⟩)) (.cells zeroL.toArray 60) (HAL.out _ _ rfl) ?_
  refine wpList_store_rowTo rfl 60 _ _ rfl rfl W.heap.size X.toArray (by kernel_rfl) (by kernel_rfl) 60 zeroL.toArray HN0.out (by rw [size_lately, List.size_toArray, HXL.out]) (by rw [List.size_toArray, List.size_toArray, HXL.out]; rfl) HX1.out ?_
  simp only [Act.put, List.setIfInBounds_toArray, List.set_cons_succ, List.set_cons_zero]
  rw [← HV.out]
  clear HV HLD HAL HN0 HX1 HXL
  go_upto_region 5 with fail
  go_wp2_with fail
  refine HF.out.mono ?_
  rintro e w1 ⟨⟨c0, q, us1, L1, rfl, hh1, hr1, hl1⟩, hk1⟩
  have hs1 : HP w1 W.heap.size 60 [] us1 := hh1
  obtain ⟨V1, hV1⟩ : ∃ V1, V1 = w1.alloc (.cells #[.int .i64 c0.1.kr, .int .i64 c0.1.kp, .int .i64 c0.1.ep, .int .i64 c0.1.ef, .int .i64 c0.1.er, .int .u64 c0.2] 57) := ⟨_, rfl⟩
  have hbV1 : Below w1.heap.size w1 V1 := by rw [hV1]; exact (Below.refl _ _).alloc (Nat.le_refl _) _
  have hNV1 : Blk V1 w1.heap.size 57 (usC c0) := by rw [hV1]; exact Blk.new w1 _ (usC c0)
  have HS1 : Hid (LS W V1 W.heap.size w1.heap.size [] l c0 q us1 L1 (.slice none 0 0)) := Lib.hid ⟨OwnT.nil _ _ _ _, hNV1, ⟨hs1.1.more hbV1, hs1.2⟩, hr1, hl1.symm, (fun p hp => by cases hp), hs1.1.lt, Nat.le_refl _,
    (HBV.out.trans (hk1.under (fun p hp => by simp at hp; rw [hp]; exact Nat.le_refl _) HBV.out.size)).trans (hbV1.mono (Nat.le_trans HBV.out.size hk1.size))⟩
  have HV1 := Lib.hid hV1
  clear hh1 hr1 hl1 hk1 hs1 hV1 hbV1 hNV1 HF HHV HBV
  unfold usV
  go_wp2
  rw [← HV1.out]
  clear HV1
  go_loopw [3, 5, 6] (fun v x ok wr => ∃ (d : List Rc) (c : Us) (q : Bool) (us : List Us) (L : List Rc) (a : Option Addr) (cap xb : Nat), v = .slice a d.length cap ∧ x = .pointer (some ⟨xb, 0, none⟩) ∧ ok = .bool q ∧ Hid (LS W wr W.heap.size xb d l c q us L (.slice a d.length cap))) (fun v _ _ _ => l.length - lenOf v)
  case atStart => exact ⟨[], c0, q, us1, L1, none, 0, w1.heap.size, rfl, rfl, rfl, HS1⟩
  case round =>
    clear HS1
    obtain ⟨d, c, q, us, L, a, cap, xb, rfl, rfl, rfl, HS⟩ := hrel
    cases q
    · have hd : d = l := by have := HS.out.e; simpa using this
      subst hd
      have HR : Hid (RcRow wr a d ∧ ∀ y, a = some y → W.heap.size ≤ y.block) := Lib.hid (by
        obtain ⟨a', c', e', hr, _, _, hb, _⟩ := RcRow.own HS.out.own
        injection e' with e1 _ _
        subst e1
        exact ⟨hr, fun y e => by have := hb y e; omega⟩)
      have HB := Lib.hid HS.out.b
      clear HS
      go_wp2
      go_ret
      exact ⟨⟨a, cap, rfl, HR⟩, HB.out⟩
    · have hdl : d.length + 1 ≤ l.length := by have := congrArg List.length HS.out.e; simp at this; omega
      have HDL := Lib.hid hdl
      obtain ⟨a2, cap2, w5, hrun, ho5, hg5, hn5⟩ := push_own HS.out.own c.1 (by have := HL5.out; omega) (Nat.le_trans (by have := HS.out.h.1.lt; omega) (Nat.le_refl _))
      have hx := HS.out.x
      have k0 := hx.cell (j := 0) rfl
      have k1 := hx.cell (j := 1) rfl
      have k2 := hx.cell (j := 2) rfl
      have k3 := hx.cell (j := 3) rfl
      have k4 := hx.cell (j := 4) rfl
      have kl := hx.lt
      have hx5 : Blk w5 xb 57 (usC c) := hx.kept hg5 (fun e => HS.out.ne xb e.symm rfl)
      have HRUN := Lib.hid hrun
      have HO5 := Lib.hid ho5
      have HG5 := Lib.hid hg5
      have HN5 := Lib.hid hn5
      have HX5 := Lib.hid hx5
      have j0 := hx5.cell (j := 0) rfl
      have j1 := hx5.cell (j := 1) rfl
      have j2 := hx5.cell (j := 2) rfl
      have j3 := hx5.cell (j := 3) rfl
      have j4 := hx5.cell (j := 4) rfl
      have j5 := hx5.cell (j := 5) rfl
      have jl := hx5.lt
      obtain ⟨w6, hw6⟩ : ∃ w6, w6 = w5.alloc (.cells #[.int .i64 c.1.kr, .int .i64 c.1.kp, .int .i64 c.1.ep, .int .i64 c.1.ef, .int .i64 c.1.er, .int .u64 c.2] 57) := ⟨_, rfl⟩
      have hb6 : Below w5.heap.size w5 w6 := by rw [hw6]; exact (Below.refl _ _).alloc (Nat.le_refl _) _
      have hN6 : Blk w6 w5.heap.size 57 (usC c) := by rw [hw6]; exact Blk.new w5 _ (usC c)
      have hlb : ∀ p, (Value.slice a d.length cap).ownBlock = some p → W.heap.size < p := fun p hp => (World.ownsRow.lt HS.out.own.1 p hp).1
      have hh5 : HP w5 W.heap.size 60 [] us := ⟨HS.out.h.1.of_block (hg5.block _ HS.out.h.1.lt (fun e => by have := hlb _ e.symm; omega)), HS.out.h.2⟩
      have HF6 := Lib.hid (first_any (o := 0) (⟨hh5.1.more hb6, hh5.2⟩ : HP w6 W.heap.size 60 [] us) rfl HS.out.r)
      have HW6 := Lib.hid hw6
      have HB6 := Lib.hid hb6
      have HN6 := Lib.hid hN6
      have hne6 : W.heap.size ≠ w5.heap.size := by have := hh5.1.lt; omega
      have HNE6 := Lib.hid hne6
      clear hrun ho5 hg5 hn5 hx hx5 hdl hw6 hb6 hN6 hlb hh5 hne6
      go_wp2_with (refine wpList_append_run rfl _ _ 42 rfl _ _ rfl rfl _ _ HRUN.out ?_)
      rw [← HW6.out]
      clear HW6 HRUN k0 k1 k2 k3 k4 kl j0 j1 j2 j3 j4 j5 jl
      go_wp2_with fail
      refine HF6.out.mono ?_
      rintro e w7 ⟨⟨c2, q2, us2, L2, rfl, hh7, hr7, hl7⟩, hk7⟩
      have HS9 := Lib.hid (HS.out.next HO5.out HG5.out HN5.out HB6.out HN6.out hh7 hr7 hl7 hk7)
      have hx7 := HN6.out.kq hk7 (by simpa using HNE6.out.symm)
      have j0 := hx7.cell (j := 0) rfl
      have j1 := hx7.cell (j := 1) rfl
      have j2 := hx7.cell (j := 2) rfl
      have j3 := hx7.cell (j := 3) rfl
      have j4 := hx7.cell (j := 4) rfl
      have j5 := hx7.cell (j := 5) rfl
      have f0 := hx7.frozen 0
      have f1 := hx7.frozen 1
      have f2 := hx7.frozen 2
      have f3 := hx7.frozen 3
      have f4 := hx7.frozen 4
      have f5 := hx7.frozen 5
      have jl := hx7.lt
      clear hx7 hh7 hr7 hl7 hk7 HF6 HS HO5 HG5 HN5 HB6 HN6 HX5
      unfold usV
      unfold six at HS9
      go_wp2
      go_roundw
      case rel => exact ⟨d ++ [c.1], c2, q2, us2, L2, a2, cap2, w5.heap.size, by rw [List.length_append]; rfl, rfl, rfl, by rw [List.length_append]; exact HS9⟩
      case measure => have := HDL.out; simp [lenOf]; omega
theorem ptList_any (h : PT W g room k l) :
    Calls Try.prog 24 #[.pointer (some ⟨g, 0, none⟩)] W fun e w' => (∃ a cap, e = .returned (.slice a l.length cap) ∧ Hid (RcRow w' a l ∧ ∀ y, a = some y → W.heap.size ≤ y.block)) ∧ Below W.heap.size W w' := by
  obtain ⟨us, h1, h2, _⟩ := h
  exact list_any h1 rfl h2
end
end Go.Proofs.Ytgcpcffgpokbfaa.Sb
