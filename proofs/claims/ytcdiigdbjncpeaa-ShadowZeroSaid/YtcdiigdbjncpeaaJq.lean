/- hermitagelaw19: the walk of ShadowZero, over what one that nobody made is to tell (ZeroC: to be shown of the program that lands). -/
import Derived.Test.YtcdiigdbjncpeaaJk
import Derived.Great.Walk
namespace Go.Proofs.Ytcdiigdbjncpeaa.Sw
open Go.RowKit Ut
set_option maxRecDepth 100000
set_option linter.unusedVariables false
set_option maxHeartbeats 4000000

/-- one that nobody made (nil, or a variable of the type: cells zs), and what it tells -/
structure ZeroC (Un : World → Value → Prop) (zs : List Value) : Prop where
  run : ∀ (w : World) (ρ : Operand → Value) (o : Oper), o.op = .alloc 65 → ∀ n, w.heap.size = n → (execOp ρ o).run Try.prog w = .ok (.value (.pointer (some ⟨n, 0, none⟩))) (w.alloc (.cells zs.toArray 65))
  made : ∀ w : World, Un (w.alloc (.cells zs.toArray 65)) (.pointer (some ⟨w.heap.size, 0, none⟩))
  nil : ∀ w, Un w (.pointer none)
  more : ∀ {W W' v}, Un W v → Below W.heap.size W W' → Un W' v
  fill : ∀ {W v} (p q ep ef er r f : Int), Un W v → Calls Try.prog 25 #[v, .agg #[.int .i64 p, .int .i64 q], .agg #[.int .i64 ep, .int .i64 ef, .int .i64 er], .int .i64 r, .int .i64 f] W fun e w' => (∃ a c, e = .returned (.tuple #[.slice a 0 c, .int .i64 7])) ∧ Below W.heap.size W w'
  get : ∀ {W v} (p q : Int), Un W v → Calls Try.prog 14 #[v, .agg #[.int .i64 p, .int .i64 q]] W fun e w' => e = .returned (.tuple #[entW (0, 0, 0), .bool false]) ∧ Below W.heap.size W w'
  table : ∀ {W v} (p : Int), Un W v → Calls Try.prog 20 #[v, .int .i64 p] W fun e w' => e = .returned (.bool false) ∧ Below W.heap.size W w'
  wrote : ∀ {W v} (p : Int), Un W v → Calls Try.prog 23 #[v, .int .i64 p] W fun e w' => (∃ a c, e = .returned (.slice a 0 c)) ∧ Below W.heap.size W w'
  gone : ∀ {W v} (p : Int), Un W v → Calls Try.prog 24 #[v, .int .i64 p] W fun e w' => (∃ a c, e = .returned (.slice a 0 c)) ∧ Below W.heap.size W w'
  flush : ∀ {W v}, Un W v → Calls Try.prog 26 #[v] W fun e w' => e = .returned (.int .i64 0) ∧ Below W.heap.size W w'
  size : ∀ {W v}, Un W v → Calls Try.prog 16 #[v] W fun e w' => e = .returned (.int .i64 0) ∧ Below W.heap.size W w'
  list : ∀ {W v}, Un W v → Calls Try.prog 18 #[v] W fun e w' => (∃ a c, e = .returned (.slice a 0 c)) ∧ Below W.heap.size W w'
/-- the act's block, the one that no call made -/
structure ZQ (Un : World → Value → Prop) (w W : World) (cs : List Value) : Prop where
  act : Blk W w.heap.size 34 cs
  un : Un W (.pointer (some ⟨w.heap.size + 1, 0, none⟩))
  b : Below w.heap.size w W
section
variable {Un : World → Value → Prop} {zs : List Value} (Z : ZeroC Un zs)
include Z
theorem ZQ.more {w W W' : World} {cs : List Value} (h : ZQ Un w W cs) (hb : Below W.heap.size W W') : ZQ Un w W' cs := ⟨h.act.more hb, Z.more h.un hb, h.b.trans (hb.mono h.b.size)⟩
theorem zero19_any (kd kr kp ep ef er rt lf : Int) (W : World) : Calls Try.prog 7 #[.agg #[.int .i64 kd, .int .i64 kr, .int .i64 kp, .int .i64 ep, .int .i64 ef, .int .i64 er, .int .i64 rt, .int .i64 lf]] W fun e w' => e = .returned (.bool true) ∧ Below W.heap.size W w' := by
  obtain ⟨V0, hV0⟩ : ∃ V0, V0 = W.alloc (.cells #[.int .i64 kd, .int .i64 kr, .int .i64 kp, .int .i64 ep, .int .i64 ef, .int .i64 er, .int .i64 rt, .int .i64 lf] 34) := ⟨_, rfl⟩
  have hs0 : V0.heap.size = W.heap.size + 1 := by rw [hV0]; simp
  obtain ⟨U, hU⟩ : ∃ U, U = V0.alloc (.cells zs.toArray 65) := ⟨_, rfl⟩
  have hb0 : Below W.heap.size W V0 := by rw [hV0]; exact (Below.refl _ _).alloc (Nat.le_refl _) _
  have hb1 : Below V0.heap.size V0 U := by rw [hU]; exact (Below.refl _ _).alloc (Nat.le_refl _) _
  have hk : Blk V0 W.heap.size 34 [.int .i64 kd, .int .i64 kr, .int .i64 kp, .int .i64 ep, .int .i64 ef, .int .i64 er, .int .i64 rt, .int .i64 lf] := by rw [hV0]; exact Blk.new W _ [.int .i64 kd, .int .i64 kr, .int .i64 kp, .int .i64 ep, .int .i64 ef, .int .i64 er, .int .i64 rt, .int .i64 lf]
  have hun : Un U (.pointer (some ⟨W.heap.size + 1, 0, none⟩)) := by have := Z.made V0; rw [hs0] at this; rw [hU]; exact this
  have HQ : Hid (ZQ Un W U [.int .i64 kd, .int .i64 kr, .int .i64 kp, .int .i64 ep, .int .i64 ef, .int .i64 er, .int .i64 rt, .int .i64 lf]) := Lib.hid ⟨hk.more hb1, hun, hb0.trans (hb1.mono hb0.size)⟩
  have HAL := Lib.hid (Z.run V0)
  have HV0 := Lib.hid hV0
  have HU := Lib.hid hU
  have HS0 := Lib.hid hs0
  have HZ := Lib.hid Z
  clear hV0 hs0 hU hb0 hb1 hk hun Z
  go_enter Try.func7, Try.ntmps7
  go_upto_region 2 with fail
  rw [← HV0.out]
  refine wp_region_lit ?_
  refine Great.wpList_allocTo rfl (some 4) rfl (.pointer (some ⟨W.heap.size + 1, 0, none⟩)) (.cells zs.toArray 65) (HAL.out _ _ rfl _ HS0.out) ?_
  simp only [Act.put, List.setIfInBounds_toArray, List.set_cons_succ, List.set_cons_zero]
  rw [← HU.out]
  clear HV0 HAL HU HS0
  have a0 := HQ.out.act.cell (j := 0) rfl
  have a1 := HQ.out.act.cell (j := 1) rfl
  have a2 := HQ.out.act.cell (j := 2) rfl
  have a3 := HQ.out.act.cell (j := 3) rfl
  have a4 := HQ.out.act.cell (j := 4) rfl
  have a5 := HQ.out.act.cell (j := 5) rfl
  have a6 := HQ.out.act.cell (j := 6) rfl
  have a7 := HQ.out.act.cell (j := 7) rfl
  have al := HQ.out.act.lt
  go_wp2_with fail
  refine (HZ.out.fill kr kp ep ef er rt lf (HZ.out.nil _)).mono ?_
  rintro e w1 ⟨⟨b1, c1, rfl⟩, hb⟩
  have HQ1 := Lib.hid (HQ.out.more HZ.out hb)
  clear hb HQ a0 a1 a2 a3 a4 a5 a6 a7 al
  have a0 := HQ1.out.act.cell (j := 0) rfl
  have a1 := HQ1.out.act.cell (j := 1) rfl
  have a2 := HQ1.out.act.cell (j := 2) rfl
  have a3 := HQ1.out.act.cell (j := 3) rfl
  have a4 := HQ1.out.act.cell (j := 4) rfl
  have a5 := HQ1.out.act.cell (j := 5) rfl
  have a6 := HQ1.out.act.cell (j := 6) rfl
  have a7 := HQ1.out.act.cell (j := 7) rfl
  have al := HQ1.out.act.lt
  go_wp2_with fail
  refine (HZ.out.fill kr kp ep ef er rt lf HQ1.out.un).mono ?_
  rintro e w2 ⟨⟨b2, c2, rfl⟩, hb⟩
  have HQ2 := Lib.hid (HQ1.out.more HZ.out hb)
  clear hb HQ1 a0 a1 a2 a3 a4 a5 a6 a7 al
  have a0 := HQ2.out.act.cell (j := 0) rfl
  have a1 := HQ2.out.act.cell (j := 1) rfl
  have a2 := HQ2.out.act.cell (j := 2) rfl
  have a3 := HQ2.out.act.cell (j := 3) rfl
  have a4 := HQ2.out.act.cell (j := 4) rfl
  have a5 := HQ2.out.act.cell (j := 5) rfl
  have a6 := HQ2.out.act.cell (j := 6) rfl
  have a7 := HQ2.out.act.cell (j := 7) rfl
  have al := HQ2.out.act.lt
  go_wp2_with fail
  refine (HZ.out.get kr kp (HZ.out.nil _)).mono ?_
  rintro e w3 ⟨rfl, hb⟩
  have HQ3 := Lib.hid (HQ2.out.more HZ.out hb)
  clear hb HQ2 a0 a1 a2 a3 a4 a5 a6 a7 al
  unfold entW
  dsimp only
  have HQ4 := Lib.hid (HQ3.out.more HZ.out ((Below.refl _ w3).alloc (Nat.le_refl _) (.cells #[.int .i64 0, .int .i64 0, .int .i64 0] 32)))
  clear HQ3
  go_upto_region 6 with fail
  generalize w3.alloc (.cells #[.int .i64 0, .int .i64 0, .int .i64 0] 32) = w4 at HQ4 ⊢
  have a0 := HQ4.out.act.cell (j := 0) rfl
  have a1 := HQ4.out.act.cell (j := 1) rfl
  have a2 := HQ4.out.act.cell (j := 2) rfl
  have a3 := HQ4.out.act.cell (j := 3) rfl
  have a4 := HQ4.out.act.cell (j := 4) rfl
  have a5 := HQ4.out.act.cell (j := 5) rfl
  have a6 := HQ4.out.act.cell (j := 6) rfl
  have a7 := HQ4.out.act.cell (j := 7) rfl
  have al := HQ4.out.act.lt
  go_wp2_with fail
  refine (HZ.out.table rt (HZ.out.nil _)).mono ?_
  rintro e w5 ⟨rfl, hb⟩
  have HQ5 := Lib.hid (HQ4.out.more HZ.out hb)
  clear hb HQ4 a0 a1 a2 a3 a4 a5 a6 a7 al
  have a0 := HQ5.out.act.cell (j := 0) rfl
  have a1 := HQ5.out.act.cell (j := 1) rfl
  have a2 := HQ5.out.act.cell (j := 2) rfl
  have a3 := HQ5.out.act.cell (j := 3) rfl
  have a4 := HQ5.out.act.cell (j := 4) rfl
  have a5 := HQ5.out.act.cell (j := 5) rfl
  have a6 := HQ5.out.act.cell (j := 6) rfl
  have a7 := HQ5.out.act.cell (j := 7) rfl
  have al := HQ5.out.act.lt
  go_wp2_with fail
  refine (HZ.out.table rt HQ5.out.un).mono ?_
  rintro e w6 ⟨rfl, hb⟩
  have HQ6 := Lib.hid (HQ5.out.more HZ.out hb)
  clear hb HQ5 a0 a1 a2 a3 a4 a5 a6 a7 al
  have a0 := HQ6.out.act.cell (j := 0) rfl
  have a1 := HQ6.out.act.cell (j := 1) rfl
  have a2 := HQ6.out.act.cell (j := 2) rfl
  have a3 := HQ6.out.act.cell (j := 3) rfl
  have a4 := HQ6.out.act.cell (j := 4) rfl
  have a5 := HQ6.out.act.cell (j := 5) rfl
  have a6 := HQ6.out.act.cell (j := 6) rfl
  have a7 := HQ6.out.act.cell (j := 7) rfl
  have al := HQ6.out.act.lt
  go_wp2_with fail
  refine (HZ.out.wrote 1 (HZ.out.nil _)).mono ?_
  rintro e w7 ⟨⟨b3, c3, rfl⟩, hb⟩
  have HQ7 := Lib.hid (HQ6.out.more HZ.out hb)
  clear hb HQ6 a0 a1 a2 a3 a4 a5 a6 a7 al
  have a0 := HQ7.out.act.cell (j := 0) rfl
  have a1 := HQ7.out.act.cell (j := 1) rfl
  have a2 := HQ7.out.act.cell (j := 2) rfl
  have a3 := HQ7.out.act.cell (j := 3) rfl
  have a4 := HQ7.out.act.cell (j := 4) rfl
  have a5 := HQ7.out.act.cell (j := 5) rfl
  have a6 := HQ7.out.act.cell (j := 6) rfl
  have a7 := HQ7.out.act.cell (j := 7) rfl
  have al := HQ7.out.act.lt
  go_wp2_with fail
  refine (HZ.out.gone 1 HQ7.out.un).mono ?_
  rintro e w8 ⟨⟨b4, c4, rfl⟩, hb⟩
  have HQ8 := Lib.hid (HQ7.out.more HZ.out hb)
  clear hb HQ7 a0 a1 a2 a3 a4 a5 a6 a7 al
  have a0 := HQ8.out.act.cell (j := 0) rfl
  have a1 := HQ8.out.act.cell (j := 1) rfl
  have a2 := HQ8.out.act.cell (j := 2) rfl
  have a3 := HQ8.out.act.cell (j := 3) rfl
  have a4 := HQ8.out.act.cell (j := 4) rfl
  have a5 := HQ8.out.act.cell (j := 5) rfl
  have a6 := HQ8.out.act.cell (j := 6) rfl
  have a7 := HQ8.out.act.cell (j := 7) rfl
  have al := HQ8.out.act.lt
  go_wp2_with fail
  refine (HZ.out.flush (HZ.out.nil _)).mono ?_
  rintro e w9 ⟨rfl, hb⟩
  have HQ9 := Lib.hid (HQ8.out.more HZ.out hb)
  clear hb HQ8 a0 a1 a2 a3 a4 a5 a6 a7 al
  have a0 := HQ9.out.act.cell (j := 0) rfl
  have a1 := HQ9.out.act.cell (j := 1) rfl
  have a2 := HQ9.out.act.cell (j := 2) rfl
  have a3 := HQ9.out.act.cell (j := 3) rfl
  have a4 := HQ9.out.act.cell (j := 4) rfl
  have a5 := HQ9.out.act.cell (j := 5) rfl
  have a6 := HQ9.out.act.cell (j := 6) rfl
  have a7 := HQ9.out.act.cell (j := 7) rfl
  have al := HQ9.out.act.lt
  go_wp2_with fail
  refine (HZ.out.size HQ9.out.un).mono ?_
  rintro e w10 ⟨rfl, hb⟩
  have HQ10 := Lib.hid (HQ9.out.more HZ.out hb)
  clear hb HQ9 a0 a1 a2 a3 a4 a5 a6 a7 al
  have a0 := HQ10.out.act.cell (j := 0) rfl
  have a1 := HQ10.out.act.cell (j := 1) rfl
  have a2 := HQ10.out.act.cell (j := 2) rfl
  have a3 := HQ10.out.act.cell (j := 3) rfl
  have a4 := HQ10.out.act.cell (j := 4) rfl
  have a5 := HQ10.out.act.cell (j := 5) rfl
  have a6 := HQ10.out.act.cell (j := 6) rfl
  have a7 := HQ10.out.act.cell (j := 7) rfl
  have al := HQ10.out.act.lt
  go_wp2_with fail
  refine (HZ.out.list (HZ.out.nil _)).mono ?_
  rintro e w11 ⟨⟨b5, c5, rfl⟩, hb⟩
  have HQ11 := Lib.hid (HQ10.out.more HZ.out hb)
  clear hb HQ10 a0 a1 a2 a3 a4 a5 a6 a7 al
  have a0 := HQ11.out.act.cell (j := 0) rfl
  have a1 := HQ11.out.act.cell (j := 1) rfl
  have a2 := HQ11.out.act.cell (j := 2) rfl
  have a3 := HQ11.out.act.cell (j := 3) rfl
  have a4 := HQ11.out.act.cell (j := 4) rfl
  have a5 := HQ11.out.act.cell (j := 5) rfl
  have a6 := HQ11.out.act.cell (j := 6) rfl
  have a7 := HQ11.out.act.cell (j := 7) rfl
  have al := HQ11.out.act.lt
  go_wp2_with fail
  refine (HZ.out.list HQ11.out.un).mono ?_
  rintro e w12 ⟨⟨b6, c6, rfl⟩, hb⟩
  have HQ12 := Lib.hid (HQ11.out.more HZ.out hb)
  clear hb HQ11 a0 a1 a2 a3 a4 a5 a6 a7 al
  go_wp2
  go_ret
  exact ⟨rfl, HQ12.out.b⟩
end
end Go.Proofs.Ytcdiigdbjncpeaa.Sw
