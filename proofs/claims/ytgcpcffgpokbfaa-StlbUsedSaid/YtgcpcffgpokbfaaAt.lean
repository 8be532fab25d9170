/- Package stlb: first. -/
import Derived.Test.YtgcpcffgpokbfaaAs
import Derived.Laws.Rows
namespace Go.Proofs.Ytgcpcffgpokbfaa.Sb
open Go.RowKit Ut Hg
set_option maxRecDepth 100000
set_option linter.unusedVariables false
set_option maxHeartbeats 4000000

theorem results_cell_slot {P : Program} {fn : Func} {p q : Tmp} {ty : TypeId} (h : fn.results = #[.cell p ty, .tmp q]) (tmps : Array Value) (w : World) (g : Nat) (t : TypeId) (cs : Array Value) (fr : Nat × Nat) (d : TypeDesc)
    (hp : tmps.getD p undef = .pointer (some ⟨g, 0, none⟩)) (v : Value) (hq : tmps.getD q undef = v) (hg : w.heap[g]? = some (.cells cs t fr))
    (hu : P.underlying ty = some d) (hd : (match d with | .struct _ | .array _ _ => true | _ => false) = true) (hi : (P.info? ty).map (·.size) = some cs.size) :
    (results fn tmps).run P w = .ok (.tuple #[.agg cs, v]) w := by
  have hp' : tmps[p]?.getD undef = .pointer (some ⟨g, 0, none⟩) := by simpa using hp
  have hq' : tmps[q]?.getD undef = v := by simpa using hq
  simp [results, h, hp', hq', asAddr, run_loadVar_row w g t ty cs fr d hg hu hd hi]

section
variable {W : World} {b o : Nat} {t : TypeId} {pre : List Value} {l : List Us}
theorem first_no (h : LB W b t pre []) (ho : pre.length = o) :
    Calls Try.prog 38 #[.pointer (some ⟨b, o, none⟩)] W fun e w' => e = .returned (.tuple #[usV noU, .bool false]) ∧ Below W.heap.size W w' := by
  obtain ⟨U, hU⟩ : ∃ U, U = W.alloc (.cells #[.int .i64 0, .int .i64 0, .int .i64 0, .int .i64 0, .int .i64 0, .int .u64 0] 57) := ⟨_, rfl⟩
  have hB : Below W.heap.size W U := by rw [hU]; exact (Below.refl _ _).alloc (Nat.le_refl _) _
  have hN : Blk U W.heap.size 57 (usC noU) := by rw [hU]; exact Blk.new W _ (usC noU)
  have c0 : U.cell? ⟨b, o, none⟩ = some (.int .i64 0) := (h.more hB).cell0 ho
  have bl := (h.more hB).lt
  have HU := Lib.hid hU
  have HB := Lib.hid hB
  have HN := Lib.hid hN
  clear h hU hB hN
  go_enter Try.func38, Try.ntmps38
  go_upto_region 1 with fail
  rw [← HU.out]
  clear HU
  go_upto_region 2 with fail
  refine wp_region_lit ?_
  refine wpList_buildTo rfl 57 _ rfl _ rfl (usC noU).toArray (by kernel_rfl) ?_
  refine wpList_store_rowTo rfl 57 _ _ rfl rfl W.heap.size (usC noU).toArray (by kernel_rfl) (by kernel_rfl) 57 (usC noU).toArray HN.out (by rw [size_used]; rfl) rfl (by kernel_rfl) ?_
  have HN2 : Hid (Blk (U.setRow W.heap.size (usC noU).toArray) W.heap.size 57 (usC noU)) := Lib.hid (HN.out.row _)
  have HB2 := Lib.hid (below_setRow HB.out (Nat.le_refl W.heap.size) (usC noU).toArray)
  generalize U.setRow W.heap.size (usC noU).toArray = V at HN2 HB2 ⊢
  go_wp2
  exact bodyPost_ret (v := .tuple #[usV noU, .bool false]) (results_cell_slot Try.results38 _ _ _ _ _ _ _ rfl _ rfl HN2.out Try.underlying57 rfl (by rw [size_used]; rfl)) rfl ⟨rfl, HB2.out⟩
theorem first_yes (h : HP W b t pre l) (ho : pre.length = o) (hl : 0 < l.length) :
    Calls Try.prog 38 #[.pointer (some ⟨b, o, none⟩)] W fun e w' => (∃ c r, e = .returned (.tuple #[usV c, .bool true]) ∧ Hid (HP w' b t pre r) ∧ Hid ((c :: r).Perm l ∧ ∀ y ∈ l, c.2 ≤ y.2)) ∧ Kq [b] W w' := by
  obtain ⟨U, hU⟩ : ∃ U, U = W.alloc (.cells #[.int .i64 0, .int .i64 0, .int .i64 0, .int .i64 0, .int .i64 0, .int .u64 0] 57) := ⟨_, rfl⟩
  have hB : Below W.heap.size W U := by rw [hU]; exact (Below.refl _ _).alloc (Nat.le_refl _) _
  have hN : Blk U W.heap.size 57 (usC noU) := by rw [hU]; exact Blk.new W _ (usC noU)
  have hbl := h.1.lt
  have hne : W.heap.size ≠ b := by omega
  have hu : HP U b t pre l := ⟨h.1.more hB, h.2⟩
  have c0 := hu.1.cell0 ho
  have bl := hu.1.lt
  have f0 : ((l.length : Int) == 0) = false := beq_eq_false_iff_ne.2 (by omega)
  have HPOP := Lib.hid (hpop18 hu ho hl)
  have HU := Lib.hid hU
  have HB := Lib.hid hB
  have HN := Lib.hid hN
  have HNE := Lib.hid hne
  clear h hU hB hN hu hl hne hbl
  generalize l.length = n at c0 f0
  go_enter Try.func38, Try.ntmps38
  go_upto_region 1 with fail
  rw [← HU.out]
  clear HU
  go_wp2_with fail
  refine HPOP.out.mono ?_
  rintro e w1 ⟨c, r, rfl, hr, hp, hle, hk⟩
  have HR := Lib.hid hr
  have HPL := Lib.hid (And.intro hp hle)
  have HK1 := Lib.hid hk
  have hta := assert_used c w1
  obtain ⟨V, hV⟩ : ∃ V, V = w1.alloc (.cells #[.int .i64 c.1.kr, .int .i64 c.1.kp, .int .i64 c.1.ep, .int .i64 c.1.ef, .int .i64 c.1.er, .int .u64 c.2] 57) := ⟨_, rfl⟩
  have hB1 : Below w1.heap.size w1 V := by rw [hV]; exact (Below.refl _ _).alloc (Nat.le_refl _) _
  have hN1 : Blk V w1.heap.size 57 (usC c) := by rw [hV]; exact Blk.new w1 _ (usC c)
  have HV := Lib.hid hV
  have HB1 := Lib.hid hB1
  have HN1 := Lib.hid hN1
  have HNW : Hid (Blk V W.heap.size 57 (usC noU)) := Lib.hid ((HN.out.kq hk (by simpa using HNE.out)).more hB1)
  have k0 := hN1.cell (j := 0) rfl
  have k1 := hN1.cell (j := 1) rfl
  have k2 := hN1.cell (j := 2) rfl
  have k3 := hN1.cell (j := 3) rfl
  have k4 := hN1.cell (j := 4) rfl
  have k5 := hN1.cell (j := 5) rfl
  have kl := hN1.lt
  clear hr hp hle hk hV hB1 hN1 HPOP c0 bl f0
  unfold usV at hta ⊢
  go_upto_region 4 with fail
  rw [← HV.out]
  clear HV hta
  refine wp_region_lit ?_
  refine wpList_load_row rfl 57 _ rfl w1.heap.size (by kernel_rfl) 57 (usC c).toArray (0, 0) _ HN1.out Try.underlying57 rfl (by rw [size_used]; rfl) ?_
  refine Great.wpList_readTo rfl _ rfl (.bool true) (by kernel_rfl) ?_
  refine wpList_store_rowTo rfl 57 _ _ rfl rfl W.heap.size (usC c).toArray (by kernel_rfl) (by kernel_rfl) 57 (usC noU).toArray HNW.out (by rw [size_used]; rfl) rfl (by kernel_rfl) ?_
  have HN2 : Hid (Blk (V.setRow W.heap.size (usC c).toArray) W.heap.size 57 (usC c)) := Lib.hid (HNW.out.row _)
  have HK2 : Hid (Kq [b] W (V.setRow W.heap.size (usC c).toArray)) := Lib.hid (by
    have h1 := ((Kq.of_below (T := [b]) HB.out).trans HK1.out).trans (Kq.of_below HB1.out)
    exact ⟨h1.os, h1.tape, h1.output, by rw [size_setRow]; exact h1.size, fun q hq hn => (setRow_other _ _ _ _ (by omega)).trans (h1.block q hq hn)⟩)
  have HR2 : Hid (HP (V.setRow W.heap.size (usC c).toArray) b t pre r) := Lib.hid ⟨(HR.out.1.more HB1.out).of_block (setRow_other _ _ _ _ HNE.out.symm), HR.out.2⟩
  generalize V.setRow W.heap.size (usC c).toArray = V2 at HN2 HK2 HR2 ⊢
  clear k0 k1 k2 k3 k4 k5 kl
  go_wp2
  exact bodyPost_ret (v := .tuple #[.agg (usC c).toArray, .bool true]) (results_cell_slot Try.results38 _ _ _ _ _ _ _ rfl _ rfl HN2.out Try.underlying57 rfl (by rw [size_used]; rfl)) rfl ⟨⟨c, r, rfl, HR2, HPL⟩, HK2.out⟩
end
end Go.Proofs.Ytgcpcffgpokbfaa.Sb
