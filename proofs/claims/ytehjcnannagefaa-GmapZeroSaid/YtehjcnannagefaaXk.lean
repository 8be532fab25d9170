/- The walk of hermitagelaw15.GmapZero. -/
import Derived.Test.YtehjcnannagefaaXj
namespace Go.Proofs.Ytehjcnannagefaa.Gm
open Go.RowKit Ut
set_option maxRecDepth 100000
set_option linter.unusedVariables false
set_option maxHeartbeats 4000000

theorem zero_any (n : Int) (p : Pl) (k : Int) (w : World) :
    Calls Try.prog 6 #[.int .i64 n, plV p, .int .i64 k] w fun e w' => e = .returned (.bool true) ∧ Below w.heap.size w w' := by
  obtain ⟨f, r⟩ := p
  show Calls _ _ #[_, .agg #[.int .i64 f, .int .i64 r], _] _ _
  have hn : Blk (w.alloc (.cells #[.int .i64 f, .int .i64 r] 30)) w.heap.size 30 [.int .i64 f, .int .i64 r] := Blk.new w _ _
  have HN := Lib.hid hn
  have HB := Lib.hid (box_below w f r)
  have hun := Blk.new (w.alloc (.cells #[.int .i64 f, .int .i64 r] 30)) 49 unCells
  have hub := (Below.refl (w.alloc (.cells #[.int .i64 f, .int .i64 r] 30)).heap.size (w.alloc (.cells #[.int .i64 f, .int .i64 r] 30))).alloc (Nat.le_refl _) (.cells unCells.toArray 49)
  have HUN := Lib.hid hun
  have HUB := Lib.hid hub
  clear hn hun hub
  have HRUN : Hid (∀ (ρ : Operand → Value) (o : Oper) (w : World), o.op = .alloc 49 → (execOp ρ o).run Try.prog w = .ok (.value (.pointer (some ⟨w.heap.size, 0, none⟩))) (w.alloc (.cells unCells.toArray 49))) := Lib.hid fun ρ o w ho => run_un ρ o ho w
  go_enter Try.func6, Try.ntmps6
  go_upto_region 2 with fail
  generalize w.alloc (.cells #[.int .i64 f, .int .i64 r] 30) = U at HN HB HUN HUB ⊢
  generalize w.heap.size = pb at HN ⊢
  refine wp_region_lit ?_
  refine Great.wpList_allocTo rfl (some 8) rfl (.pointer (some ⟨U.heap.size, 0, none⟩)) (.cells unCells.toArray 49) (HRUN.out _ _ _ rfl) ?_
  have HN2 := Lib.hid (HN.out.below HUB.out HN.out.lt)
  have HB2 := Lib.hid (HB.out.trans (HUB.out.mono HB.out.size))
  generalize U.alloc (.cells unCells.toArray 49) = W at HUN HUB HN2 HB2 ⊢
  generalize U.heap.size = ub at HUN ⊢
  clear HRUN HN HB HUB
  have HA := Lib.hid (unmade_nil W)
  have HU := Lib.hid (unmade_blk HUN.out)
  have HBX : Hid (∀ (V : World) (x y : Int), Below W.heap.size W V → Below W.heap.size W (V.alloc (.cells #[.int .i64 x, .int .i64 y] 30))) := Lib.hid fun V x y h => h.alloc h.size _
  have HBW := Lib.hid (Below.refl W.heap.size W)
  have hpl : ∀ V, Below W.heap.size W V → V.cell? ⟨pb, 0, none⟩ = some (.int .i64 f) ∧ V.cell? ⟨pb, 1, none⟩ = some (.int .i64 r) ∧ pb < V.heap.size := fun V hV => by
    have h := HN2.out.below hV HN2.out.lt
    exact ⟨h.cell rfl, h.cell rfl, h.lt⟩
  have HPL := Lib.hid hpl
  clear hpl HN2 HUN
  go_wp2_with fail
  refine (HA.out.get n _ HBW.out).mono ?_
  rintro e w1 ⟨rfl, hb⟩
  have HB3 := Lib.hid (HBX.out _ 0 0 hb)
  clear hb
  unfold plV
  go_wp2_with fail
  generalize w1.alloc (.cells #[.int .i64 0, .int .i64 0] 30) = V1 at HB3 ⊢
  refine (HU.out.get n V1 HB3.out).mono ?_
  rintro e w2 ⟨rfl, hb⟩
  have HB4 := Lib.hid (HBX.out _ 0 0 hb)
  obtain ⟨n0, n1, n2⟩ := HPL.out w2 hb
  clear hb
  unfold plV
  go_wp2_with fail
  clear n0 n1 n2
  generalize w2.alloc (.cells #[.int .i64 0, .int .i64 0] 30) = V2 at HB4 ⊢
  refine (HA.out.set n (f, r) V2 HB4.out).mono ?_
  rintro e w3 ⟨rfl, hb⟩
  obtain ⟨n0, n1, n2⟩ := HPL.out w3 hb
  have HB5 := Lib.hid hb
  clear hb
  go_wp2_with fail
  refine (HU.out.set n (f, r) w3 HB5.out).mono ?_
  rintro e w4 ⟨rfl, hb⟩
  clear n0 n1 n2
  have HB6 := Lib.hid hb
  clear hb
  go_wp2_with fail
  refine (HA.out.drop n w4 HB6.out).mono ?_
  rintro e w5 ⟨rfl, hb⟩
  have HB7 := Lib.hid hb
  clear hb
  go_wp2_with fail
  refine (HU.out.drop n w5 HB7.out).mono ?_
  rintro e w6 ⟨rfl, hb⟩
  have HB8 := Lib.hid hb
  clear hb
  go_wp2_with fail
  refine (HA.out.pages w6 HB8.out).mono ?_
  rintro e w7 ⟨rfl, hb⟩
  have HB9 := Lib.hid hb
  clear hb
  go_wp2_with fail
  refine (HU.out.pages w7 HB9.out).mono ?_
  rintro e w8 ⟨rfl, hb⟩
  have HB10 := Lib.hid hb
  clear hb
  go_wp2_with fail
  refine (HA.out.allows n k w8 HB10.out).mono ?_
  rintro e w9 ⟨rfl, hb⟩
  have HB11 := Lib.hid hb
  clear hb
  go_wp2_with fail
  refine (HU.out.allows n k w9 HB11.out).mono ?_
  rintro e w10 ⟨rfl, hb⟩
  have HB12 := Lib.hid (HB2.out.trans (hb.mono HB2.out.size))
  clear hb
  go_wp2
  go_ret
  exact ⟨rfl, HB12.out⟩
end Go.Proofs.Ytehjcnannagefaa.Gm
