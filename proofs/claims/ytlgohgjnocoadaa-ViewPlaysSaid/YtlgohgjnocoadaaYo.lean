/- hermitagelaw16: awake; what a view that no call made answers. -/
import Derived.Test.YtlgohgjnocoadaaYn
namespace Go.Proofs.Ytlgohgjnocoadaa.Vw
open Go.RowKit Go.Shelf Ut Oc
set_option maxRecDepth 100000
set_option linter.unusedVariables false
set_option maxHeartbeats 4000000

/-- a view that no call made, in any world from w on -/
def Unv (w : World) (a : Option Addr) : Prop := ∀ W, Below w.heap.size w W → Calls Try.prog 39 #[.pointer a] W fun e w' => e = .returned (.bool false) ∧ W = w'
theorem unv_nil (w : World) : Unv w none := fun W _ => made_nil W
def zeroV : List Value := .pointer none :: .pointer none :: noDv
theorem unv_blk {w : World} {b : Nat} (h : Blk w b 60 zeroV) : Unv w (some ⟨b, 0, none⟩) := fun W hW => made_no b W ((h.below hW h.lt).cell rfl)
theorem run_zeroV (ρ : Operand → Value) (o : Oper) (ho : o.op = .alloc 60) (w : World) : (execOp ρ o).run Try.prog w = .ok (.value (.pointer (some ⟨w.heap.size, 0, none⟩))) (w.alloc (.cells zeroV.toArray 60)) := by
  unfold execOp
  rw [ho]
  kernel_rfl
section
variable {w : World} {a : Option Addr}
theorem Unv.more {V : World} (h : Unv w a) (hV : Below w.heap.size w V) : Unv V a := fun W hW => h W (hV.trans (hW.mono hV.size))
theorem fault_un (h : Unv w a) (z q k : Int) : Calls Try.prog 40 #[.pointer a, .int .u32 z, .int .i64 q, .int .i64 k] w fun e w' => e = .returned (.int .i64 7) ∧ w = w' := by
  have HM := Lib.hid (h w (Below.refl _ _))
  clear h
  go_enter Try.func40, Try.ntmps40
  go_wp2_with fail
  refine HM.out.mono ?_
  rintro e w1 ⟨rfl, rfl⟩
  go_wp2
  go_ret
  exact ⟨rfl, rfl⟩
theorem find_un (h : Unv w a) (z q k : Int) : Calls Try.prog 15 #[.pointer a, .int .u32 z, .int .i64 q, .int .i64 k] w fun e w' => e = .returned (.tuple #[hitV (0, 0, 0), .int .i64 7]) ∧ Below w.heap.size w w' := by
  have HB : Hid (Below w.heap.size w (w.alloc (.cells (hitC (0, 0, 0)).toArray 38))) := Lib.hid ((Below.refl w.heap.size w).alloc (Nat.le_refl _) _)
  have HF : Hid (Calls Try.prog 40 #[.pointer a, .int .u32 z, .int .i64 q, .int .i64 k] (w.alloc (.cells (hitC (0, 0, 0)).toArray 38)) fun e w' => e = .returned (.int .i64 7) ∧ Below (w.alloc (.cells (hitC (0, 0, 0)).toArray 38)).heap.size (w.alloc (.cells (hitC (0, 0, 0)).toArray 38)) w') := Lib.hid ((fault_un (h.more HB.out) z q k).mono fun e w' ⟨he, hb⟩ => ⟨he, hb ▸ Below.refl _ _⟩)
  have HN : Hid (Blk (w.alloc (.cells (hitC (0, 0, 0)).toArray 38)) w.heap.size 38 (hitC (0, 0, 0))) := Lib.hid (Blk.new w _ _)
  have HSet : Hid (∀ (W : World) (j : Nat) (v : Value), Below w.heap.size w W → Below w.heap.size w (W.setCell ⟨w.heap.size, j, none⟩ v)) := Lib.hid fun W j v h => h.setCell (p := ⟨w.heap.size, j, none⟩) (by simp) _
  clear h
  go_enter Try.func15, Try.ntmps15
  go_wp2_with fail
  refine HF.out.mono ?_
  rintro e w1 ⟨rfl, hb1⟩
  have HB1 := Lib.hid (HB.out.trans (hb1.mono HB.out.size))
  have hq0 := HN.out.more hb1
  obtain ⟨r0, r1, r2, r3⟩ := HAt.cells hq0
  have f0 := hq0.frozen 0
  have f1 := hq0.frozen 1
  have f2 := hq0.frozen 2
  have f3 := hq0.frozen 3
  have hlt := hq0.lt
  clear hb1 hq0 HF HN HB
  go_wp2
  exact bodyPost_ret (v := .tuple #[hitV (0, 0, 0), .int .i64 7]) (by simp [results, Try.results15, go_sem, r0, r1, r2, r3, hitV]) rfl ⟨rfl, by (repeat (first | refine HSet.out _ _ _ ?_)); exact HB1.out⟩
theorem load_un (h : Unv w a) (z q : Int) : Calls Try.prog 17 #[.pointer a, .int .u32 z, .int .i64 q] w fun e w' => e = .returned (.tuple #[.int .u32 0, .int .i64 7]) ∧ Below w.heap.size w w' := by
  have HF := Lib.hid (find_un h z q 1)
  have HBX : Hid (∀ W, Below w.heap.size w W → Below w.heap.size w (W.alloc (.cells #[.int .i64 0, .int .i64 0, .int .i64 0, .bool false] 38))) := Lib.hid fun W h => h.alloc h.size _
  clear h
  go_enter Try.func17, Try.ntmps17
  go_wp2_with fail
  refine HF.out.mono ?_
  rintro e w1 ⟨rfl, hb1⟩
  have HB1 := Lib.hid (HBX.out _ hb1)
  clear hb1
  unfold hitV
  go_wp2
  go_ret2
  exact ⟨rfl, HB1.out⟩
theorem save_un (h : Unv w a) (z q x : Int) : Calls Try.prog 13 #[.pointer a, .int .u32 z, .int .i64 q, .int .u32 x] w fun e w' => e = .returned (.int .i64 7) ∧ Below w.heap.size w w' := by
  have HF := Lib.hid (find_un h z q 2)
  have HBX : Hid (∀ W, Below w.heap.size w W → Below w.heap.size w (W.alloc (.cells #[.int .i64 0, .int .i64 0, .int .i64 0, .bool false] 38))) := Lib.hid fun W h => h.alloc h.size _
  clear h
  go_enter Try.func13, Try.ntmps13
  go_wp2_with fail
  refine HF.out.mono ?_
  rintro e w1 ⟨rfl, hb1⟩
  have HB1 := Lib.hid (HBX.out _ hb1)
  clear hb1
  unfold hitV
  go_wp2
  go_ret
  exact ⟨rfl, HB1.out⟩
theorem readUn (h : Unv w a) (z k : Int) : Calls Try.prog 19 #[.pointer a, .int .u32 z, .int .i64 k] w fun e w' => e = .returned (.tuple #[.slice none 0 0, .bool false]) ∧ Below w.heap.size w w' :=
  read_no a z k w fun W c hW => each_no a z k _ W (fun V hV => own_un a z k V ((h.more hW).more hV)) rfl ⟨_, _, rfl⟩
theorem writeUn (h : Unv w a) (z : Int) (ba : Option Addr) (K bc : Nat) : Calls Try.prog 8 #[.pointer a, .int .u32 z, .slice ba K bc] w fun e w' => e = .returned (.bool false) ∧ Below w.heap.size w w' :=
  write_no a z ba K bc w fun W c hW => each_no a z K _ W (fun V hV => own_un a z K V ((h.more hW).more hV)) rfl ⟨_, _, rfl⟩
end

/-- the one page of awake's view -/
def awL : List Gm.Pl := Gm.setL Gm.noP 1 (5, 3)
def awS : List Int := saveS 10 Fr.zeros awL 64 4 7
theorem aw_mk : mkL [1] (fun _ => (5, 3)) (cnt 1 1) = awL := rfl
theorem aw_find : findF 10 awL 64 4 2 = 0 := by decide +kernel
theorem aw_load : findF 10 awL 64 4 1 = 0 := by decide +kernel
theorem aw_dirt : saveD 10 awL noD 64 4 = noD.set 1 true := by decide +kernel
theorem aw_list : dirtL (noD.set 1 true) 12 = [1] := by decide +kernel
theorem aw_val : loadF 10 awS awL 64 4 = 7 := by decide +kernel
theorem awake_any (w : World) : Calls Try.prog 23 #[] w fun e w' => e = .returned (.bool true) ∧ Below w.heap.size w w' := by
  have hR := (RowK.new1 .i64 w 1 3).below (((Below.refl (w.heap.size + 1) (w.alloc (.cells #[.int .i64 1] 3))).alloc (by simp) (.cells #[.int .i64 5, .int .i64 3] 66)))
  have hN : Blk ((w.alloc (.cells #[.int .i64 1] 3)).alloc (.cells #[.int .i64 5, .int .i64 3] 66)) (w.alloc (.cells #[.int .i64 1] 3)).heap.size 66 [.int .i64 5, .int .i64 3] := Blk.new _ _ _
  rw [World.size_alloc] at hN
  have hB : Below w.heap.size w ((w.alloc (.cells #[.int .i64 1] 3)).alloc (.cells #[.int .i64 5, .int .i64 3] 66)) := ((Below.refl _ _).alloc (Nat.le_refl _) _).alloc (by simp) _
  have hs : ((w.alloc (.cells #[.int .i64 1] 3)).alloc (.cells #[.int .i64 5, .int .i64 3] 66)).heap.size = w.heap.size + 2 := by simp
  have HMK := Lib.hid (made_any 9 (by omega) (some ⟨w.heap.size, 0, none⟩) (some ⟨w.heap.size + 1, 0, none⟩) 1 1 1 1 (w.heap.size + 2) [1] (fun _ => (5, 3)) ((w.alloc (.cells #[.int .i64 1] 3)).alloc (.cells #[.int .i64 5, .int .i64 3] 66)) (by omega) (by omega) (hR.more (by omega))
    (fun i hi => by
      obtain rfl : i = 0 := by omega
      exact ⟨_, rfl, Nat.lt_succ_self _, hN.cell rfl, hN.cell rfl⟩) (by rw [hs]; exact Nat.le_refl _))
  rw [aw_mk] at HMK
  have HB := Lib.hid hB
  clear hR hN hB hs
  go_enter Try.func23, Try.ntmps23
  go_wp2_with fail
  refine HMK.out.mono ?_
  rintro e w1 ⟨b, s, m, g, bt, B, q, gv, cap, rfl, hmk⟩
  have HP1 := Lib.hid hmk.pv
  have HB1 := Lib.hid (HB.out.trans (hmk.blw.mono HB.out.size))
  have HSB : Hid (∀ y ∈ [s, b], w.heap.size ≤ y) := Lib.hid fun y hy => by
    have h1 := hmk.ws
    have h2 := hmk.pv.sm
    have h3 := hmk.pv.mb
    have h4 := HB.out.size
    rcases List.mem_cons.1 hy with rfl | hy
    · omega
    · have e : y = b := (by simpa using hy)
      omega
  clear hmk HMK HB
  go_wp2_with fail
  refine (save_any (b := b) (s := s) (m := m) 64 4 7 0 awS (noD.set 1 true) (by omega) (by omega) (by omega) (by omega) aw_find rfl aw_dirt w1 HP1.out).mono ?_
  rintro e w2 ⟨rfl, hp2, hk2⟩
  have HP2 := Lib.hid hp2
  have HB2 := Lib.hid (HB1.out.trans (hk2.under HSB.out HB1.out.size))
  clear hp2 hk2 HP1 HB1
  go_wp2_with fail
  refine (dirty_any w2 HP2.out).mono ?_
  rintro e w3 ⟨ra, rn, rc, rfl, HRA, hp3, hk3⟩
  rw [aw_list] at HRA
  have HP3 := Lib.hid hp3
  have HB3 := Lib.hid (HB2.out.trans (hk3.under (fun y hy => HSB.out y (by simp at hy; simp [hy])) HB2.out.size))
  obtain ⟨x, rfl, hxb, hxc⟩ := HRA.out.2 0 (by rw [← HRA.out.1]; decide)
  obtain rfl : 1 = rn := HRA.out.1
  have HX := Lib.hid (And.intro hxb hxc)
  clear hp3 hk3 HP2 HB2 hxb hxc
  go_wp2_with fail
  refine (load_any (b := b) (s := s) (m := m) 64 4 0 7 (by omega) (by omega) aw_load aw_val w3 HP3.out).mono ?_
  rintro e w4 ⟨rfl, hb4⟩
  have HB4 := Lib.hid (HB3.out.trans (hb4.mono HB3.out.size))
  have cx : w4.cell? x = some (.int .i64 1) := (hb4.cell (p := x) HX.out.1).trans HX.out.2
  clear hb4 HB3
  go_wp2
  go_ret
  exact ⟨rfl, HB4.out⟩
end Go.Proofs.Ytlgohgjnocoadaa.Vw
