/- hermitagelaw18: StlbZero. -/
import Derived.Test.YtgcpcffgpokbfaaAy
namespace Go.Proofs.Ytgcpcffgpokbfaa.Sb
open Go.RowKit Ut Hg
set_option maxRecDepth 100000
set_option linter.unusedVariables false
set_option maxHeartbeats 4000000

def zeroT : List Value := [.bool false, .int .i64 0, .int .u64 0] ++ .int .i64 ((0 : Nat) : Int) :: flatU [noU, noU, noU, noU, noU]
theorem alloc_tlb (w : World) : Hid (∀ (ρ : Operand → Value) (o : Oper), o.op = .alloc 62 → ∀ n, w.heap.size = n → (execOp ρ o).run Try.prog w = .ok (.value (.pointer (some ⟨n, 0, none⟩))) (w.alloc (.cells zeroT.toArray 62))) := Lib.hid fun ρ o ho n hn => by
  subst hn
  unfold execOp
  rw [ho]
  kernel_rfl
/-- the law's own blocks: the key, the entry, the one that no call made -/
structure ZW (w0 W : World) (p q a b c : Int) : Prop where
  key : Blk W w0.heap.size 38 [.int .i64 p, .int .i64 q]
  ent : Blk W (w0.heap.size + 1) 34 [.int .i64 a, .int .i64 b, .int .i64 c]
  un : Un18 W (.pointer (some ⟨w0.heap.size + 2, 0, none⟩))
  b : Below w0.heap.size w0 W
theorem ZW.more {w0 W W' : World} {p q a b c : Int} (h : ZW w0 W p q a b c) (hb : Below W.heap.size W W') : ZW w0 W' p q a b c := ⟨h.key.more hb, h.ent.more hb, h.un.more hb, h.b.trans (hb.mono h.b.size)⟩
theorem ZW.nil {w0 W : World} {p q a b c : Int} (h : ZW w0 W p q a b c) : Un18 W (.pointer none) := .inl rfl
theorem zero18_any (p q a b c : Int) (W : World) : Calls Try.prog 7 #[.agg #[.int .i64 p, .int .i64 q], .agg #[.int .i64 a, .int .i64 b, .int .i64 c]] W fun e w' => e = .returned (.bool true) ∧ Below W.heap.size W w' := by
  obtain ⟨V0, hV0⟩ : ∃ V0, V0 = (W.alloc (.cells #[.int .i64 p, .int .i64 q] 38)).alloc (.cells #[.int .i64 a, .int .i64 b, .int .i64 c] 34) := ⟨_, rfl⟩
  have hs0 : V0.heap.size = W.heap.size + 2 := by rw [hV0]; simp
  obtain ⟨U, hU⟩ : ∃ U, U = V0.alloc (.cells zeroT.toArray 62) := ⟨_, rfl⟩
  have hb0 : Below W.heap.size W V0 := by rw [hV0]; exact ((Below.refl _ _).alloc (Nat.le_refl _) _).alloc (by simp) _
  have hb1 : Below V0.heap.size V0 U := by rw [hU]; exact (Below.refl _ _).alloc (Nat.le_refl _) _
  have hk : Blk V0 W.heap.size 38 [.int .i64 p, .int .i64 q] := by rw [hV0]; exact (Blk.new W _ [.int .i64 p, .int .i64 q]).more ((Below.refl _ _).alloc (Nat.le_refl _) _)
  have he : Blk V0 (W.heap.size + 1) 34 [.int .i64 a, .int .i64 b, .int .i64 c] := by
    have := Blk.new (W.alloc (.cells #[.int .i64 p, .int .i64 q] 38)) 34 [.int .i64 a, .int .i64 b, .int .i64 c]
    rw [World.size_alloc] at this
    rw [hV0]
    exact this
  have hz : Blk U (W.heap.size + 2) 62 zeroT := by
    have := Blk.new V0 62 zeroT
    rw [hs0] at this
    rw [hU]
    exact this
  have HZ : Hid (ZW W U p q a b c) := Lib.hid ⟨hk.more hb1, he.more hb1, .inr ⟨_, rfl, ⟨[noU, noU, noU, noU, noU], rfl, hz⟩, nil_heap⟩, hb0.trans (hb1.mono hb0.size)⟩
  have HAL := alloc_tlb V0
  have HV0 := Lib.hid hV0
  have HU := Lib.hid hU
  have HS0 := Lib.hid hs0
  have HA : Hid (∀ (V : World) (o : Obj), ZW W V p q a b c → ZW W (V.alloc o) p q a b c) := Lib.hid fun V o h => h.more ((Below.refl _ _).alloc (Nat.le_refl _) _)
  clear hV0 hs0 hU hb0 hb1 hk he hz
  go_enter Try.func7, Try.ntmps7
  go_upto_region 2 with fail
  rw [← HV0.out]
  refine wp_region_lit ?_
  refine Great.wpList_allocTo rfl (some 6) rfl (.pointer (some ⟨W.heap.size + 2, 0, none⟩)) (.cells zeroT.toArray 62) (HAL.out _ _ rfl _ HS0.out) ?_
  simp only [Act.put, List.setIfInBounds_toArray, List.set_cons_succ, List.set_cons_zero]
  rw [← HU.out]
  clear HV0 HAL HU HS0
  have k0 := HZ.out.key.cell (j := 0) rfl
  have k1 := HZ.out.key.cell (j := 1) rfl
  have kl := HZ.out.key.lt
  have e0 := HZ.out.ent.cell (j := 0) rfl
  have e1 := HZ.out.ent.cell (j := 1) rfl
  have e2 := HZ.out.ent.cell (j := 2) rfl
  have el := HZ.out.ent.lt
  go_wp2_with fail
  refine (unGet p q HZ.out.nil).mono ?_
  rintro e w1 ⟨rfl, hb⟩
  have HZ1 := Lib.hid (HZ.out.more hb)
  clear hb HZ k0 k1 kl e0 e1 e2 el
  have HZ1a := Lib.hid (HA.out w1 (.cells #[.int .i64 0, .int .i64 0, .int .i64 0] 34) HZ1.out)
  unfold entV
  dsimp only
  go_upto_region 4 with fail
  generalize w1.alloc (.cells #[.int .i64 0, .int .i64 0, .int .i64 0] 34) = w1a at HZ1a ⊢
  clear HZ1
  have k0 := HZ1a.out.key.cell (j := 0) rfl
  have k1 := HZ1a.out.key.cell (j := 1) rfl
  have kl := HZ1a.out.key.lt
  have e0 := HZ1a.out.ent.cell (j := 0) rfl
  have e1 := HZ1a.out.ent.cell (j := 1) rfl
  have e2 := HZ1a.out.ent.cell (j := 2) rfl
  have el := HZ1a.out.ent.lt
  go_wp2_with fail
  refine (unGet p q HZ1a.out.un).mono ?_
  rintro e w2 ⟨rfl, hb⟩
  have HZ2 := Lib.hid (HZ1a.out.more hb)
  clear hb HZ1a k0 k1 kl e0 e1 e2 el
  have HZ2a := Lib.hid (HA.out w2 (.cells #[.int .i64 0, .int .i64 0, .int .i64 0] 34) HZ2.out)
  unfold entV
  dsimp only
  go_upto_region 5 with fail
  generalize w2.alloc (.cells #[.int .i64 0, .int .i64 0, .int .i64 0] 34) = w2a at HZ2a ⊢
  clear HZ2
  have k0 := HZ2a.out.key.cell (j := 0) rfl
  have k1 := HZ2a.out.key.cell (j := 1) rfl
  have kl := HZ2a.out.key.lt
  have e0 := HZ2a.out.ent.cell (j := 0) rfl
  have e1 := HZ2a.out.ent.cell (j := 1) rfl
  have e2 := HZ2a.out.ent.cell (j := 2) rfl
  have el := HZ2a.out.ent.lt
  go_wp2_with fail
  refine (unPut p q a b c HZ2a.out.nil).mono ?_
  rintro e w3 ⟨rfl, hb⟩
  have HZ3 := Lib.hid (HZ2a.out.more hb)
  clear hb HZ2a k0 k1 kl e0 e1 e2 el
  have k0 := HZ3.out.key.cell (j := 0) rfl
  have k1 := HZ3.out.key.cell (j := 1) rfl
  have kl := HZ3.out.key.lt
  have e0 := HZ3.out.ent.cell (j := 0) rfl
  have e1 := HZ3.out.ent.cell (j := 1) rfl
  have e2 := HZ3.out.ent.cell (j := 2) rfl
  have el := HZ3.out.ent.lt
  go_wp2_with fail
  refine (unPut p q a b c HZ3.out.un).mono ?_
  rintro e w4 ⟨rfl, hb⟩
  have HZ4 := Lib.hid (HZ3.out.more hb)
  clear hb HZ3 k0 k1 kl e0 e1 e2 el
  have k0 := HZ4.out.key.cell (j := 0) rfl
  have k1 := HZ4.out.key.cell (j := 1) rfl
  have kl := HZ4.out.key.lt
  have e0 := HZ4.out.ent.cell (j := 0) rfl
  have e1 := HZ4.out.ent.cell (j := 1) rfl
  have e2 := HZ4.out.ent.cell (j := 2) rfl
  have el := HZ4.out.ent.lt
  go_wp2_with fail
  refine (unDrop p q HZ4.out.nil).mono ?_
  rintro e w5 ⟨rfl, hb⟩
  have HZ5 := Lib.hid (HZ4.out.more hb)
  clear hb HZ4 k0 k1 kl e0 e1 e2 el
  have k0 := HZ5.out.key.cell (j := 0) rfl
  have k1 := HZ5.out.key.cell (j := 1) rfl
  have kl := HZ5.out.key.lt
  have e0 := HZ5.out.ent.cell (j := 0) rfl
  have e1 := HZ5.out.ent.cell (j := 1) rfl
  have e2 := HZ5.out.ent.cell (j := 2) rfl
  have el := HZ5.out.ent.lt
  go_wp2_with fail
  refine (unDrop p q HZ5.out.un).mono ?_
  rintro e w6 ⟨rfl, hb⟩
  have HZ6 := Lib.hid (HZ5.out.more hb)
  clear hb HZ5 k0 k1 kl e0 e1 e2 el
  have k0 := HZ6.out.key.cell (j := 0) rfl
  have k1 := HZ6.out.key.cell (j := 1) rfl
  have kl := HZ6.out.key.lt
  have e0 := HZ6.out.ent.cell (j := 0) rfl
  have e1 := HZ6.out.ent.cell (j := 1) rfl
  have e2 := HZ6.out.ent.cell (j := 2) rfl
  have el := HZ6.out.ent.lt
  go_wp2_with fail
  refine (unGone 0 HZ6.out.nil).mono ?_
  rintro e w7 ⟨rfl, hb⟩
  have HZ7 := Lib.hid (HZ6.out.more hb)
  clear hb HZ6 k0 k1 kl e0 e1 e2 el
  have k0 := HZ7.out.key.cell (j := 0) rfl
  have k1 := HZ7.out.key.cell (j := 1) rfl
  have kl := HZ7.out.key.lt
  have e0 := HZ7.out.ent.cell (j := 0) rfl
  have e1 := HZ7.out.ent.cell (j := 1) rfl
  have e2 := HZ7.out.ent.cell (j := 2) rfl
  have el := HZ7.out.ent.lt
  go_wp2_with fail
  refine (unNarrow 0 HZ7.out.un).mono ?_
  rintro e w8 ⟨rfl, hb⟩
  have HZ8 := Lib.hid (HZ7.out.more hb)
  clear hb HZ7 k0 k1 kl e0 e1 e2 el
  have k0 := HZ8.out.key.cell (j := 0) rfl
  have k1 := HZ8.out.key.cell (j := 1) rfl
  have kl := HZ8.out.key.lt
  have e0 := HZ8.out.ent.cell (j := 0) rfl
  have e1 := HZ8.out.ent.cell (j := 1) rfl
  have e2 := HZ8.out.ent.cell (j := 2) rfl
  have el := HZ8.out.ent.lt
  go_wp2_with fail
  refine (unFlush HZ8.out.nil).mono ?_
  rintro e w9 ⟨rfl, hb⟩
  have HZ9 := Lib.hid (HZ8.out.more hb)
  clear hb HZ8 k0 k1 kl e0 e1 e2 el
  have k0 := HZ9.out.key.cell (j := 0) rfl
  have k1 := HZ9.out.key.cell (j := 1) rfl
  have kl := HZ9.out.key.lt
  have e0 := HZ9.out.ent.cell (j := 0) rfl
  have e1 := HZ9.out.ent.cell (j := 1) rfl
  have e2 := HZ9.out.ent.cell (j := 2) rfl
  have el := HZ9.out.ent.lt
  go_wp2_with fail
  refine (unLen HZ9.out.un).mono ?_
  rintro e w10 ⟨rfl, rfl⟩
  go_wp2_with fail
  refine (unList HZ9.out.nil).mono ?_
  rintro e w11 ⟨⟨a10, cap10, rfl⟩, hb⟩
  have HZ11 := Lib.hid (HZ9.out.more hb)
  clear hb HZ9 k0 k1 kl e0 e1 e2 el
  have k0 := HZ11.out.key.cell (j := 0) rfl
  have k1 := HZ11.out.key.cell (j := 1) rfl
  have kl := HZ11.out.key.lt
  have e0 := HZ11.out.ent.cell (j := 0) rfl
  have e1 := HZ11.out.ent.cell (j := 1) rfl
  have e2 := HZ11.out.ent.cell (j := 2) rfl
  have el := HZ11.out.ent.lt
  go_wp2_with fail
  refine (unList HZ11.out.un).mono ?_
  rintro e w12 ⟨⟨a11, cap11, rfl⟩, hb⟩
  have HZ12 := Lib.hid (HZ11.out.more hb)
  clear hb HZ11 k0 k1 kl e0 e1 e2 el
  have k0 := HZ12.out.key.cell (j := 0) rfl
  have k1 := HZ12.out.key.cell (j := 1) rfl
  have kl := HZ12.out.key.lt
  have e0 := HZ12.out.ent.cell (j := 0) rfl
  have e1 := HZ12.out.ent.cell (j := 1) rfl
  have e2 := HZ12.out.ent.cell (j := 2) rfl
  have el := HZ12.out.ent.lt
  go_wp2
  go_ret
  exact ⟨rfl, HZ12.out.b⟩
end Go.Proofs.Ytgcpcffgpokbfaa.Sb
