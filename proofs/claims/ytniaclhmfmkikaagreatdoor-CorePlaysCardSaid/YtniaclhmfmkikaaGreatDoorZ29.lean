/- Several texts in one: Vl -/
import Derived.Test.YtniaclhmfmkikaaGreatDoorZ19
section
/- Package core: way, of an operation with a number in place of a register. -/
namespace Go.Proofs.YtniaclhmfmkikaaGreatDoor.Ex
open Go.RowKit Ut
set_option maxRecDepth 100000
set_option linter.unusedVariables false
set_option maxHeartbeats 4000000

/-- the job with another operation and another number -/
def Job.imm (J : Job) (pl n : Int) : Job := ⟨J.o, J.d, J.a, J.b, J.m, J.clock, pl, J.pc, J.nx, J.va, n⟩
theorem way_imm (j rb cb : Nat) (J : Job) (w : World) (h : JAt w j rb cb J) (ho : J.o = 14 ∨ J.o = 15 ∨ J.o = 16 ∨ J.o = 17 ∨ J.o = 18 ∨ J.o = 19 ∨ J.o = 20 ∨ J.o = 21) (pl : Int) (hpl : Al.plainN J.o = pl) :
    Calls Tryz.prog 31 #[.pointer (some ⟨j, 0, none⟩)] w fun e w' => e = .returned (wayV 59 j) ∧ JAt w' j rb cb (J.imm pl (J.m % 4294967296)) ∧ w.grownBy w' (some j) := by
  have c0 : w.cell? ⟨j, 0, none⟩ = some (.int .i64 J.o) := h.cell 0 _ rfl
  obtain ⟨n, hn⟩ : ∃ n, J.m % 4294967296 = n := ⟨_, rfl⟩
  have HP : Hid (∀ V, Calls Tryz.prog 57 #[.int .i64 J.o] V fun e w' => e = .returned (.tuple #[.int .i64 pl, .bool (pl != 0)]) ∧ Below V.heap.size V w') := Lib.hid fun V => by rw [← hpl]; exact Al.plain_any J.o V
  have HS1 : Hid (∀ V, JAt V j rb cb J → JAt (V.setCell ⟨j, 8, none⟩ (.int .i64 pl)) j rb cb (J.imm pl J.vb)) := Lib.hid fun V hV => Blk.set hV 8 _
  have HS2 : Hid (∀ V, JAt V j rb cb (J.imm pl J.vb) → JAt (V.setCell ⟨j, 12, none⟩ (.int .u32 n)) j rb cb (J.imm pl n)) := Lib.hid fun V hV => Blk.set hV 12 _
  have HNUM : Hid (∀ V, JAt V j rb cb (J.imm pl J.vb) → Calls Tryz.prog 58 #[.pointer (some ⟨j, 0, none⟩)] V fun e w' => e = .returned (.int .u32 n) ∧ V = w') := Lib.hid fun V hV => by
    have := number_any j rb cb (J.imm pl J.vb) V hV
    rw [← hn]
    exact this
  have HJ := Lib.hid h
  have hlt := h.lt
  clear h hpl
  rw [hn]
  clear hn
  rcases ho with ho | ho | ho | ho | ho | ho | ho | ho
  all_goals
    rw [ho] at c0 HP
    clear ho
    go_enter Tryz.func31, Tryz.ntmps31
    go_wp2_with fail
    refine (Is.kernel_any _ false rfl w).mono ?_
    rintro e w1 ⟨rfl, rfl⟩
    go_wp2_with fail
    refine (HP.out w).mono ?_
    rintro e V ⟨rfl, hb⟩
    have HJV := Lib.hid (HJ.out.more hb)
    have HG := Lib.hid (grown_trans (grown_below (row := some j) hb) (grown_setCell V j 8 (.int .i64 pl)))
    have f8 : V.frozen? ⟨j, 8, none⟩ = false := Blk.frozen HJV.out 8
    have c8 : V.cell? ⟨j, 8, none⟩ = some (.int .i64 J.plain) := HJV.out.cell 8 _ rfl
    have hltV := HJV.out.lt
    clear hb c0 hlt HJ HP
    go_wp2_with fail
    have HJ1 := Lib.hid (HS1.out V HJV.out)
    clear f8 c8 hltV HJV HS1
    generalize V.setCell ⟨j, 8, none⟩ (.int .i64 pl) = X at HJ1 HG ⊢
    refine (HNUM.out X HJ1.out).mono ?_
    rintro e w1 ⟨rfl, rfl⟩
    have HJ2 := Lib.hid (HS2.out X HJ1.out)
    have HG2 := Lib.hid (grown_trans HG.out (grown_setCell X j 12 (.int .u32 n)))
    have f12 : X.frozen? ⟨j, 12, none⟩ = false := Blk.frozen HJ1.out 12
    have c12 : X.cell? ⟨j, 12, none⟩ = some (.int .u32 J.vb) := HJ1.out.cell 12 _ rfl
    have hltX := HJ1.out.lt
    go_wp2
    go_ret
    exact ⟨rfl, HJ2.out, HG2.out⟩
end Go.Proofs.YtniaclhmfmkikaaGreatDoor.Ex
end
