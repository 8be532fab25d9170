/- hermitagelaw15: ints, awake; what no call made; both maps side by side. -/
import Derived.Test.YtehjcnannagefaaXe
import Derived.Test.YtehjcnannagefaaXf
import Derived.Test.YtehjcnannagefaaXh
import Derived.Test.YtehjcnannagefaaXi
namespace Go.Proofs.Ytehjcnannagefaa.Gm
open Go.RowKit Ut
set_option maxRecDepth 100000
set_option linter.unusedVariables false
set_option maxHeartbeats 4000000

theorem keep {f : Nat} {args : Array Value} {v : Value} {w0 w : World} (hb : Below w0.heap.size w0 w) (h : Calls Try.prog f args w fun e w' => e = .returned v ∧ Below w.heap.size w w') : Calls Try.prog f args w fun e w' => e = .returned v ∧ Below w0.heap.size w0 w' :=
  h.mono fun e w' ⟨he, hb'⟩ => ⟨he, hb.trans (hb'.mono hb.size)⟩

theorem ints_same (a b : Option Addr) (ca cb n B1 B2 : Nat) (zs : List Int) (w : World) (hl : zs.length ≤ 100000) (hB1 : B1 ≤ w.heap.size) (hB2 : B2 ≤ w.heap.size) (h1 : RowK .i64 w B1 a n zs) (h2 : RowK .i64 w B2 b n zs) :
    Calls Try.prog 14 #[.slice a n ca, .slice b n cb] w fun e W' => e = .returned (.bool true) ∧ Below w.heap.size w W' := by
  have hn : n = zs.length := h1.1.symm
  have H1 := Lib.hid h1
  have H2 := Lib.hid h2
  have hn2 : n ≤ 100000 := by omega
  clear h1 h2 hn
  go_enter Try.func14, Try.ntmps14
  go_wp2
  go_loopw [5] (fun i wr => ∃ k : Nat, k ≤ n ∧ i = .int .i64 k ∧ Below w.heap.size w wr) (fun i _ => n - (intOf i).toNat)
  case atStart => exact ⟨0, Nat.zero_le _, rfl, Below.refl _ _⟩
  case round =>
    obtain ⟨k, hk, rfl, hb⟩ := hrel
    by_cases hlt : k < n
    · obtain ⟨x, rfl, _, hx⟩ := (H1.out.below (hb.mono hB1)).2 k hlt
      obtain ⟨y, rfl, _, hy⟩ := (H2.out.below (hb.mono hB2)).2 k hlt
      obtain ⟨u, hu⟩ : ∃ u, u = zs.getD k 0 := ⟨_, rfl⟩
      rw [← hu] at hx hy
      clear hu
      have b0 : (0 : Int) ≤ (k : Int) := by omega
      have b1 : (k : Int) < (n : Int) := by omega
      go_wp2
      go_quiet (fail)
      go_wp2
      go_roundw
      case rel => exact ⟨k + 1, by omega, by go_num, ⟨hb.os, hb.tape, hb.output, hb.size, hb.block⟩⟩
      case measure => simp [intOf]; omega
    · have hkn : k = n := by omega
      subst hkn
      have b1 : ¬ (k : Int) < (k : Int) := by omega
      go_wp2
      go_ret
      exact ⟨rfl, hb⟩

def L8 : List Pl := setL noP 8 (3, 1)
theorem awake_any (w : World) : Calls Try.prog 19 #[] w fun e w' => e = .returned (.bool true) ∧ Below w.heap.size w w' := by
  have S := Lib.hid (fun (W : World) (h : MAt W w.heap.size noP) => set_any w.heap.size noP L8 8 0 (3, 1) rfl rfl W h)
  have A1 := Lib.hid (fun (W : World) (h : MAt W w.heap.size L8) => allows_any w.heap.size L8 8 1 0 rfl W h)
  have A0 := Lib.hid (fun (W : World) (h : MAt W w.heap.size L8) => allows_any w.heap.size L8 8 0 6 rfl W h)
  go_enter Try.func19, Try.ntmps19
  go_wp2_with fail
  refine (new_any w).mono ?_
  rintro e w1 ⟨rfl, hF, hb⟩
  have HF1 := Lib.hid hF
  have HB1 := Lib.hid hb
  clear hF hb
  go_wp2_with fail
  refine (S.out w1 HF1.out).mono ?_
  rintro e w2 ⟨rfl, hF, hg⟩
  have HF2 := Lib.hid hF
  have HB2 := Lib.hid (below_of_grown HB1.out hg HB1.out.size (Nat.le_refl _))
  clear hF hg
  go_wp2_with fail
  refine (A1.out w2 HF2.out).mono ?_
  rintro e w3 ⟨rfl, hb⟩
  have HF3 := Lib.hid (HF2.out.more hb)
  have HB3 := Lib.hid (HB2.out.trans (hb.mono HB2.out.size))
  clear hb
  go_wp2_with fail
  refine (A0.out w3 HF3.out).mono ?_
  rintro e w4 ⟨rfl, hb⟩
  have HB4 := Lib.hid (HB3.out.trans (hb.mono HB3.out.size))
  clear hb
  go_wp2
  go_ret
  exact ⟨rfl, HB4.out⟩

/-- of what no call made: each method by find's no -/
def NotMade (a : Option Addr) (w : World) : Prop := ∀ n, Calls Try.prog 20 #[.pointer a, .int .i64 n] w fun e w' => e = .returned (.tuple #[.pointer none, .int .i64 7]) ∧ w = w'
/-- .. in all worlds above w -/
def Unmade (w : World) (a : Option Addr) : Prop := ∀ W, Below w.heap.size w W → NotMade a W
section
variable {w : World} {a : Option Addr}
theorem Unmade.up (h : Unmade w a) {W : World} (hW : Below w.heap.size w W) : ∀ V, Below W.heap.size W V → NotMade a V := fun V hV => h V (hW.trans (hV.mono hW.size))
theorem Unmade.get (h : Unmade w a) (n : Int) (W : World) (hW : Below w.heap.size w W) : Calls Try.prog 12 #[.pointer a, .int .i64 n] W fun e w' => e = .returned (.tuple #[plV (0, 0), .bool false]) ∧ Below w.heap.size w w' :=
  keep hW (get_zero a n W fun V hV => h.up hW V hV n)
theorem Unmade.set (h : Unmade w a) (n : Int) (p : Pl) (W : World) (hW : Below w.heap.size w W) : Calls Try.prog 10 #[.pointer a, .int .i64 n, plV p] W fun e w' => e = .returned (.int .i64 7) ∧ Below w.heap.size w w' :=
  keep hW (set_zero a n p W fun V hV => h.up hW V hV n)
theorem Unmade.drop (h : Unmade w a) (n : Int) (W : World) (hW : Below w.heap.size w W) : Calls Try.prog 8 #[.pointer a, .int .i64 n] W fun e w' => e = .returned (.int .i64 7) ∧ Below w.heap.size w w' :=
  (drop_no a n 7 (.inr rfl) W (h W hW n)).mono fun e w' ⟨he, hw⟩ => ⟨he, hw ▸ hW⟩
theorem Unmade.pages (h : Unmade w a) (W : World) (hW : Below w.heap.size w W) : Calls Try.prog 15 #[.pointer a] W fun e w' => e = .returned (.slice none 0 0) ∧ Below w.heap.size w w' :=
  keep hW (pages_zero a W fun n V hV => get_zero a n V fun U hU => h U (hW.trans ((hV.trans (hU.mono hV.size)).mono hW.size)) n)
theorem Unmade.allows (h : Unmade w a) (n k : Int) (W : World) (hW : Below w.heap.size w W) : Calls Try.prog 17 #[.pointer a, .int .i64 n, .int .i64 k] W fun e w' => e = .returned (.int .i64 7) ∧ Below w.heap.size w w' :=
  keep hW (allows_no a n k W (get_zero a n W fun V hV => h.up hW V hV n))
end
theorem unmade_nil (w : World) : Unmade w none := fun W _ n => find_nil n W
/-- the cells of a map that no call made -/
def unCells : List Value := .bool false :: flatP noP
theorem unmade_blk {w : World} {b : Nat} (h : Blk w b 49 unCells) : Unmade w (some ⟨b, 0, none⟩) := fun W hW n => find_unmade b n W ((h.below hW h.lt).cell rfl)
theorem run_un (ρ : Operand → Value) (o : Oper) (ho : o.op = .alloc 49) (w : World) : (execOp ρ o).run Try.prog w = .ok (.value (.pointer (some ⟨w.heap.size, 0, none⟩))) (w.alloc (.cells unCells.toArray 49)) := by
  unfold execOp
  rw [ho]
  kernel_rfl
end Go.Proofs.Ytehjcnannagefaa.Gm
