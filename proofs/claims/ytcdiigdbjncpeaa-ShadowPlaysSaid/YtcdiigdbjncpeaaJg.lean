/- hermitagelaw19: ints, keys, same: two rows that read alike; an act, a slice of acts as arguments. -/
import Derived.Test.YtcdiigdbjncpeaaRh
import Derived.Test.YtcdiigdbjncpeaaJf
import Derived.Test.YtcdiigdbjncpeaaBw
import Derived.Deep.QuietTactic
import Derived.BigQuiet
import Derived.OpenShut
namespace Go.Proofs.Ytcdiigdbjncpeaa.Sw
open Go.ChangeShapes Go.WideShapes Go.Deep Go.RowKit Ut
set_option maxRecDepth 100000
set_option linter.unusedVariables false
set_option maxHeartbeats 4000000

theorem irow_at {k : Nat} {w : World} {a : Option Addr} {xs : List (List Int)} (h : IRow k w a xs) {i : Nat} (hi : i < xs.length) : ∃ x y, xs[i]? = some x ∧ a = some y ∧ y.block < w.heap.size ∧ (y.add (i * k)).block < w.heap.size ∧ (∀ z, x[0]? = some z → w.cell? (y.add (i * k)) = some (.int .i64 z)) ∧ ∀ j z, 0 < j → x[j]? = some z → w.cell? ⟨(y.add (i * k)).block, (y.add (i * k)).off + j, none⟩ = some (.int .i64 z) := by
  obtain ⟨y, e, h1, h2, h3, h4⟩ := h.at_ (List.getElem?_eq_getElem hi)
  exact ⟨_, y, List.getElem?_eq_getElem hi, e, h1, h2, h3, h4⟩

theorem ints19_true (a b : Option Addr) (ca cb n : Nat) (xs : List (List Int)) (w : World) (hk : ∀ x ∈ xs, x.length = 1) (hl : xs.length = n) (hn : n ≤ 100000) (h1 : IRow 1 w a xs) (h2 : IRow 1 w b xs) :
    Calls Try.prog 13 #[.slice a n ca, .slice b n cb] w fun e w' => e = .returned (.bool true) ∧ Below w.heap.size w w' := by
  have H1 := Lib.hid h1
  have H2 := Lib.hid h2
  have HL := Lib.hid hl
  have HX := Lib.hid hk
  have hn0 : (n : Int) ≤ 100000 := by omega
  clear h1 h2 hl hk
  go_enter Try.func13, Try.ntmps13
  go_wp2
  go_loopw [5] (fun i wr => ∃ k : Nat, k ≤ n ∧ i = .int .i64 k ∧ Hid (Below w.heap.size w wr)) (fun i _ => n - (intOf i).toNat)
  case atStart => exact ⟨0, Nat.zero_le _, rfl, Lib.hid (Below.refl _ _)⟩
  case round =>
    obtain ⟨k, hk, rfl, HB⟩ := hrel
    by_cases hlt : k < n
    · obtain ⟨x, y1, hx, rfl, e1, e2, e3, e4⟩ := irow_at (H1.out.more HB.out) (i := k) (by rw [HL.out]; exact hlt)
      obtain ⟨x', y2, hx', rfl, g1, g2, g3, g4⟩ := irow_at (H2.out.more HB.out) (i := k) (by rw [HL.out]; exact hlt)
      obtain rfl : x = x' := by rw [hx] at hx'; injection hx'
      have hxl := HX.out x (List.mem_of_getElem? hx)
      obtain ⟨z0, rfl⟩ : ∃ z0, x = [z0] := by
        match x, hxl with
        | [z0], _ => exact ⟨z0, rfl⟩
      have H3 := Lib.hid hlt
      have b0 : (0 : Int) ≤ (k : Int) := by omega
      have b1 : (k : Int) < (n : Int) := by omega
      have c0 := e3 _ rfl
      have d0 := g3 _ rfl
      rw [Nat.mul_one] at c0 d0 e2 g2
      clear hx hx' hxl hk hlt e3 e4 g3 g4
      go_wp2
      go_quiet (fail)
      go_wp2
      go_roundw
      case rel => exact ⟨k + 1, H3.out, by go_num, Lib.hid (drewN_below HB.out _)⟩
      case measure => have := H3.out; simp [intOf]; omega
    · obtain rfl : k = n := by omega
      have b1 : ¬ (k : Int) < (k : Int) := by omega
      go_wp2
      go_ret
      exact ⟨rfl, HB.out⟩

theorem keys19_true (a b : Option Addr) (ca cb n : Nat) (xs : List (List Int)) (w : World) (hk : ∀ x ∈ xs, x.length = 2) (hl : xs.length = n) (hn : n ≤ 100000) (h1 : IRow 2 w a xs) (h2 : IRow 2 w b xs) :
    Calls Try.prog 10 #[.slice a n ca, .slice b n cb] w fun e w' => e = .returned (.bool true) ∧ Below w.heap.size w w' := by
  have H1 := Lib.hid h1
  have H2 := Lib.hid h2
  have HL := Lib.hid hl
  have HX := Lib.hid hk
  have hn0 : (n : Int) ≤ 100000 := by omega
  clear h1 h2 hl hk
  go_enter Try.func10, Try.ntmps10
  go_wp2
  go_loopw [5] (fun i wr => ∃ k : Nat, k ≤ n ∧ i = .int .i64 k ∧ Hid (Below w.heap.size w wr)) (fun i _ => n - (intOf i).toNat)
  case atStart => exact ⟨0, Nat.zero_le _, rfl, Lib.hid (Below.refl _ _)⟩
  case round =>
    obtain ⟨k, hk, rfl, HB⟩ := hrel
    by_cases hlt : k < n
    · obtain ⟨x, y1, hx, rfl, e1, e2, e3, e4⟩ := irow_at (H1.out.more HB.out) (i := k) (by rw [HL.out]; exact hlt)
      obtain ⟨x', y2, hx', rfl, g1, g2, g3, g4⟩ := irow_at (H2.out.more HB.out) (i := k) (by rw [HL.out]; exact hlt)
      obtain rfl : x = x' := by rw [hx] at hx'; injection hx'
      have hxl := HX.out x (List.mem_of_getElem? hx)
      obtain ⟨z0, z1, rfl⟩ : ∃ z0 z1, x = [z0, z1] := by
        match x, hxl with
        | [z0, z1], _ => exact ⟨z0, z1, rfl⟩
      have H3 := Lib.hid hlt
      have b0 : (0 : Int) ≤ (k : Int) := by omega
      have b1 : (k : Int) < (n : Int) := by omega
      have c0 := e3 _ rfl
      have c1 := e4 1 _ (by decide) rfl
      have d0 := g3 _ rfl
      have d1 := g4 1 _ (by decide) rfl
      clear hx hx' hxl hk hlt e3 e4 g3 g4
      go_wp2
      go_quiet (fail)
      go_wp2
      go_roundw
      case rel => exact ⟨k + 1, H3.out, by go_num, Lib.hid (drewN_below HB.out _)⟩
      case measure => have := H3.out; simp [intOf]; omega
    · obtain rfl : k = n := by omega
      have b1 : ¬ (k : Int) < (k : Int) := by omega
      go_wp2
      go_ret
      exact ⟨rfl, HB.out⟩

theorem same19_true (a b : Option Addr) (ca cb n : Nat) (xs : List (List Int)) (w : World) (hk : ∀ x ∈ xs, x.length = 5) (hl : xs.length = n) (hn : n ≤ 100000) (h1 : IRow 5 w a xs) (h2 : IRow 5 w b xs) :
    Calls Try.prog 17 #[.slice a n ca, .slice b n cb] w fun e w' => e = .returned (.bool true) ∧ Below w.heap.size w w' := by
  have H1 := Lib.hid h1
  have H2 := Lib.hid h2
  have HL := Lib.hid hl
  have HX := Lib.hid hk
  have hn0 : (n : Int) ≤ 100000 := by omega
  clear h1 h2 hl hk
  go_enter Try.func17, Try.ntmps17
  go_wp2
  go_loopw [5] (fun i wr => ∃ k : Nat, k ≤ n ∧ i = .int .i64 k ∧ Hid (Below w.heap.size w wr)) (fun i _ => n - (intOf i).toNat)
  case atStart => exact ⟨0, Nat.zero_le _, rfl, Lib.hid (Below.refl _ _)⟩
  case round =>
    obtain ⟨k, hk, rfl, HB⟩ := hrel
    by_cases hlt : k < n
    · obtain ⟨x, y1, hx, rfl, e1, e2, e3, e4⟩ := irow_at (H1.out.more HB.out) (i := k) (by rw [HL.out]; exact hlt)
      obtain ⟨x', y2, hx', rfl, g1, g2, g3, g4⟩ := irow_at (H2.out.more HB.out) (i := k) (by rw [HL.out]; exact hlt)
      obtain rfl : x = x' := by rw [hx] at hx'; injection hx'
      have hxl := HX.out x (List.mem_of_getElem? hx)
      obtain ⟨z0, z1, z2, z3, z4, rfl⟩ : ∃ z0 z1 z2 z3 z4, x = [z0, z1, z2, z3, z4] := by
        match x, hxl with
        | [z0, z1, z2, z3, z4], _ => exact ⟨z0, z1, z2, z3, z4, rfl⟩
      have H3 := Lib.hid hlt
      have b0 : (0 : Int) ≤ (k : Int) := by omega
      have b1 : (k : Int) < (n : Int) := by omega
      have c0 := e3 _ rfl
      have c1 := e4 1 _ (by decide) rfl
      have c2 := e4 2 _ (by decide) rfl
      have c3 := e4 3 _ (by decide) rfl
      have c4 := e4 4 _ (by decide) rfl
      have d0 := g3 _ rfl
      have d1 := g4 1 _ (by decide) rfl
      have d2 := g4 2 _ (by decide) rfl
      have d3 := g4 3 _ (by decide) rfl
      have d4 := g4 4 _ (by decide) rfl
      clear hx hx' hxl hk hlt e3 e4 g3 g4
      go_wp2
      go_quiet (fail)
      go_wp2
      go_roundw
      case rel => exact ⟨k + 1, H3.out, by go_num, Lib.hid (drewN_below HB.out _)⟩
      case measure => have := H3.out; simp [intOf]; omega
    · obtain rfl : k = n := by omega
      have b1 : ¬ (k : Int) < (k : Int) := by omega
      go_wp2
      go_ret
      exact ⟨rfl, HB.out⟩

/-- an act: its kind, a key's root and page, an entry's page, frame, rights, the root's page, the leaf's -/
structure Ak where
  kd : Int
  kr : Int
  kp : Int
  ep : Int
  ef : Int
  er : Int
  rt : Int
  lf : Int
instance : Inhabited Ak := ⟨⟨0, 0, 0, 0, 0, 0, 0, 0⟩⟩
abbrev Ak.v (x : Ak) : Value := .agg #[.int .i64 x.kd, .int .i64 x.kr, .int .i64 x.kp, .int .i64 x.ep, .int .i64 x.ef, .int .i64 x.er, .int .i64 x.rt, .int .i64 x.lf]
structure AkW (x : Ak) : Prop where
  l0 : -9223372036854775808 ≤ x.kd
  u0 : x.kd < 9223372036854775808
  l1 : -9223372036854775808 ≤ x.kr
  u1 : x.kr < 9223372036854775808
  l2 : -9223372036854775808 ≤ x.kp
  u2 : x.kp < 9223372036854775808
  l3 : -9223372036854775808 ≤ x.ep
  u3 : x.ep < 9223372036854775808
  l4 : -9223372036854775808 ≤ x.ef
  u4 : x.ef < 9223372036854775808
  l5 : -9223372036854775808 ≤ x.er
  u5 : x.er < 9223372036854775808
  l6 : -9223372036854775808 ≤ x.rt
  u6 : x.rt < 9223372036854775808
  l7 : -9223372036854775808 ≤ x.lf
  u7 : x.lf < 9223372036854775808
def AkRow (w : World) (a : Option Addr) (n : Nat) (Z : Nat → Ak) : Prop := ∀ i, i < n → ∃ y, a = some y ∧ y.block < w.heap.size ∧ AkW (Z i) ∧ w.cell? (y.add (i * 8)) = some (.int .i64 (Z i).kd) ∧ w.cell? (y.add (i * 8 + 1)) = some (.int .i64 (Z i).kr) ∧ w.cell? (y.add (i * 8 + 2)) = some (.int .i64 (Z i).kp) ∧ w.cell? (y.add (i * 8 + 3)) = some (.int .i64 (Z i).ep) ∧ w.cell? (y.add (i * 8 + 4)) = some (.int .i64 (Z i).ef) ∧ w.cell? (y.add (i * 8 + 5)) = some (.int .i64 (Z i).er) ∧ w.cell? (y.add (i * 8 + 6)) = some (.int .i64 (Z i).rt) ∧ w.cell? (y.add (i * 8 + 7)) = some (.int .i64 (Z i).lf)
theorem leaves_act (j : Nat) (hj : j < 8) : leafAt Try.prog 4 34 j = some 3 := by
  match j, hj with
  | 0, _ => exact (by kernel_rfl : leafAt Try.prog 4 34 0 = some 3)
  | 1, _ => exact (by kernel_rfl : leafAt Try.prog 4 34 1 = some 3)
  | 2, _ => exact (by kernel_rfl : leafAt Try.prog 4 34 2 = some 3)
  | 3, _ => exact (by kernel_rfl : leafAt Try.prog 4 34 3 = some 3)
  | 4, _ => exact (by kernel_rfl : leafAt Try.prog 4 34 4 = some 3)
  | 5, _ => exact (by kernel_rfl : leafAt Try.prog 4 34 5 = some 3)
  | 6, _ => exact (by kernel_rfl : leafAt Try.prog 4 34 6 = some 3)
  | 7, _ => exact (by kernel_rfl : leafAt Try.prog 4 34 7 = some 3)
theorem cells_act : Try.prog.cellsOf 34 = 8 := by kernel_rfl
section
variable {H : Type} {enc : TypeId × Value → H} {W : World}
theorem act_arg {b0 : Nat} {v : Value} {d : DataW H} {p : List MemPlace} (hv : Value.okWide Try.prog W .any b0 34 v) (h : DataW.Trod enc Try.prog W 0 (fun _ => true) true 34 v d p) : ∃ x : Ak, AkW x ∧ v = x.v := by
  obtain ⟨cs, rfl, hl, hf⟩ := open_flat 4 Try.underlying34 hv h
  rw [cells_act] at hl
  have key : ∀ j, j < 8 → ∃ z, cs[j]? = some (.int .i64 z) ∧ -9223372036854775808 ≤ z ∧ z < 9223372036854775808 := fun j hj => by
    obtain ⟨c, m, q, e, t⟩ := hf j _ (leaves_act j hj)
    obtain ⟨z, q0, _, hw⟩ := DataW.trod_int Try.underlying3 t
    simp only [List.cons.injEq, and_true] at q0
    subst q0
    exact ⟨z, e, Ut.wf_i64 hw⟩
  obtain ⟨z0, e0, l0, u0⟩ := key 0 (by decide)
  obtain ⟨z1, e1, l1, u1⟩ := key 1 (by decide)
  obtain ⟨z2, e2, l2, u2⟩ := key 2 (by decide)
  obtain ⟨z3, e3, l3, u3⟩ := key 3 (by decide)
  obtain ⟨z4, e4, l4, u4⟩ := key 4 (by decide)
  obtain ⟨z5, e5, l5, u5⟩ := key 5 (by decide)
  obtain ⟨z6, e6, l6, u6⟩ := key 6 (by decide)
  obtain ⟨z7, e7, l7, u7⟩ := key 7 (by decide)
  match cs, hl, e0, e1, e2, e3, e4, e5, e6, e7 with
  | [x0, x1, x2, x3, x4, x5, x6, x7], _, e0, e1, e2, e3, e4, e5, e6, e7 =>
    simp only [List.getElem?_cons_zero, List.getElem?_cons_succ, Option.some.injEq] at e0 e1 e2 e3 e4 e5 e6 e7
    subst e0 e1 e2 e3 e4 e5 e6 e7
    exact ⟨⟨z0, z1, z2, z3, z4, z5, z6, z7⟩, ⟨l0, u0, l1, u1, l2, u2, l3, u3, l4, u4, l5, u5, l6, u6, l7, u7⟩, rfl⟩
theorem acts_arg {a : Option Addr} {len cap : Nat} {d : DataW H} {p : List MemPlace} {ts : List TypeId} {ds : List (DataW H)} {j : Nat} (h : DataW.Trod enc Try.prog W 0 (fun _ => true) true 22 (.slice a len cap) d p)
    (hsz : (DataW.weightsEach Try.prog ts ds).all (· ≤ reachBytes) = true) (ht : ts[j]? = some 22) (hd : ds[j]? = some d) : ∃ Z : Nat → Ak, AkRow W a len Z ∧ len ≤ 9223372036854775807 := by
  obtain ⟨fuel, hf⟩ := h
  have hf2 : DataW.trod enc Try.prog W 0 (fun _ => true) true fuel 22 [.slice a len cap] = some (d, p) := hf
  obtain ⟨aa, n, c, hc, hle, hcap, hcell⟩ := open_flats 4 Try.underlying22 hf2
  injection hc with e1 e2 e3
  subst e1 e2 e3
  rw [cells_act] at hcell
  have key : ∀ i, i < len → ∃ Z : Ak, ∃ y, a = some y ∧ y.block < W.heap.size ∧ AkW Z ∧ W.cell? (y.add (i * 8)) = some (.int .i64 Z.kd) ∧ W.cell? (y.add (i * 8 + 1)) = some (.int .i64 Z.kr) ∧ W.cell? (y.add (i * 8 + 2)) = some (.int .i64 Z.kp) ∧ W.cell? (y.add (i * 8 + 3)) = some (.int .i64 Z.ep) ∧ W.cell? (y.add (i * 8 + 4)) = some (.int .i64 Z.ef) ∧ W.cell? (y.add (i * 8 + 5)) = some (.int .i64 Z.er) ∧ W.cell? (y.add (i * 8 + 6)) = some (.int .i64 Z.rt) ∧ W.cell? (y.add (i * 8 + 7)) = some (.int .i64 Z.lf) := fun i hi => by
    obtain ⟨y, e, hy⟩ := hcell i hi
    have one : ∀ j, j < 8 → ∃ z, W.cell? (y.add (i * 8 + j)) = some (.int .i64 z) ∧ -9223372036854775808 ≤ z ∧ z < 9223372036854775808 := fun j hj => by
      obtain ⟨v, m, q, e, t⟩ := hy j _ hj (leaves_act j hj)
      obtain ⟨z, q0, _, hw⟩ := DataW.trod_int Try.underlying3 t
      simp only [List.cons.injEq, and_true] at q0
      subst q0
      exact ⟨z, e, Ut.wf_i64 hw⟩
    obtain ⟨z0, c0, l0, u0⟩ := one 0 (by decide)
    obtain ⟨z1, c1, l1, u1⟩ := one 1 (by decide)
    obtain ⟨z2, c2, l2, u2⟩ := one 2 (by decide)
    obtain ⟨z3, c3, l3, u3⟩ := one 3 (by decide)
    obtain ⟨z4, c4, l4, u4⟩ := one 4 (by decide)
    obtain ⟨z5, c5, l5, u5⟩ := one 5 (by decide)
    obtain ⟨z6, c6, l6, u6⟩ := one 6 (by decide)
    obtain ⟨z7, c7, l7, u7⟩ := one 7 (by decide)
    refine ⟨⟨z0, z1, z2, z3, z4, z5, z6, z7⟩, y, e, ?_, ⟨l0, u0, l1, u1, l2, u2, l3, u3, l4, u4, l5, u5, l6, u6, l7, u7⟩, c0, c1, c2, c3, c4, c5, c6, c7⟩
    have := cell_lt c0
    rwa [block_of_add] at this
  obtain ⟨Z, hZ⟩ := choose_lt (α := Ak) key
  refine ⟨Z, fun i hi => hZ i hi, ?_⟩
  rcases hcap with h0 | ⟨el, sp, he, hl⟩
  · omega
  · have he2 : d = .slice el sp := he
    rw [he2] at hd
    have h1 := sized_slice hsz ht hd Try.underlying22
    rw [show Try.prog.bytesOf 34 = 64 by kernel_rfl] at h1
    unfold reachBytes at h1
    omega
theorem key19_arg_len : Try.prog.cellsOf 30 = 2 := by kernel_rfl
theorem key19_arg_leaf (j : Nat) (hj : j < 2) : leafAt Try.prog 4 30 j = some 3 := by
  match j, hj with
  | 0, _ => exact (by kernel_rfl : leafAt Try.prog 4 30 0 = some 3)
  | 1, _ => exact (by kernel_rfl : leafAt Try.prog 4 30 1 = some 3)
theorem key19_arg {b0 : Nat} {v : Value} {d : DataW H} {p : List MemPlace} (hv : Value.okWide Try.prog W .any b0 30 v) (h : DataW.Trod enc Try.prog W 0 (fun _ => true) true 30 v d p) : ∃ (z0 z1 : Int), (-9223372036854775808 ≤ z0 ∧ z0 < 9223372036854775808 ∧ -9223372036854775808 ≤ z1 ∧ z1 < 9223372036854775808) ∧ v = .agg #[.int .i64 z0, .int .i64 z1] := by
  obtain ⟨cs, rfl, hl, hf⟩ := open_flat 4 Try.underlying30 hv h
  rw [key19_arg_len] at hl
  have key : ∀ j, j < 2 → ∃ z, cs[j]? = some (.int .i64 z) ∧ -9223372036854775808 ≤ z ∧ z < 9223372036854775808 := fun j hj => by
    obtain ⟨c, m, q, e, t⟩ := hf j _ (key19_arg_leaf j hj)
    obtain ⟨z, q0, _, hw⟩ := DataW.trod_int Try.underlying3 t
    simp only [List.cons.injEq, and_true] at q0
    subst q0
    exact ⟨z, e, Ut.wf_i64 hw⟩
  obtain ⟨z0, e0, l0, u0⟩ := key 0 (by decide)
  obtain ⟨z1, e1, l1, u1⟩ := key 1 (by decide)
  match cs, hl, e0, e1 with
  | [x0, x1], _, e0, e1 =>
    simp only [List.getElem?_cons_zero, List.getElem?_cons_succ, Option.some.injEq] at e0 e1
    subst e0 e1
    exact ⟨z0, z1, ⟨l0, u0, l1, u1⟩, rfl⟩
theorem entry19_arg_len : Try.prog.cellsOf 32 = 3 := by kernel_rfl
theorem entry19_arg_leaf (j : Nat) (hj : j < 3) : leafAt Try.prog 4 32 j = some 3 := by
  match j, hj with
  | 0, _ => exact (by kernel_rfl : leafAt Try.prog 4 32 0 = some 3)
  | 1, _ => exact (by kernel_rfl : leafAt Try.prog 4 32 1 = some 3)
  | 2, _ => exact (by kernel_rfl : leafAt Try.prog 4 32 2 = some 3)
theorem entry19_arg {b0 : Nat} {v : Value} {d : DataW H} {p : List MemPlace} (hv : Value.okWide Try.prog W .any b0 32 v) (h : DataW.Trod enc Try.prog W 0 (fun _ => true) true 32 v d p) : ∃ (z0 z1 z2 : Int), (-9223372036854775808 ≤ z0 ∧ z0 < 9223372036854775808 ∧ -9223372036854775808 ≤ z1 ∧ z1 < 9223372036854775808 ∧ -9223372036854775808 ≤ z2 ∧ z2 < 9223372036854775808) ∧ v = .agg #[.int .i64 z0, .int .i64 z1, .int .i64 z2] := by
  obtain ⟨cs, rfl, hl, hf⟩ := open_flat 4 Try.underlying32 hv h
  rw [entry19_arg_len] at hl
  have key : ∀ j, j < 3 → ∃ z, cs[j]? = some (.int .i64 z) ∧ -9223372036854775808 ≤ z ∧ z < 9223372036854775808 := fun j hj => by
    obtain ⟨c, m, q, e, t⟩ := hf j _ (entry19_arg_leaf j hj)
    obtain ⟨z, q0, _, hw⟩ := DataW.trod_int Try.underlying3 t
    simp only [List.cons.injEq, and_true] at q0
    subst q0
    exact ⟨z, e, Ut.wf_i64 hw⟩
  obtain ⟨z0, e0, l0, u0⟩ := key 0 (by decide)
  obtain ⟨z1, e1, l1, u1⟩ := key 1 (by decide)
  obtain ⟨z2, e2, l2, u2⟩ := key 2 (by decide)
  match cs, hl, e0, e1, e2 with
  | [x0, x1, x2], _, e0, e1, e2 =>
    simp only [List.getElem?_cons_zero, List.getElem?_cons_succ, Option.some.injEq] at e0 e1 e2
    subst e0 e1 e2
    exact ⟨z0, z1, z2, ⟨l0, u0, l1, u1, l2, u2⟩, rfl⟩
end
end Go.Proofs.Ytcdiigdbjncpeaa.Sw
