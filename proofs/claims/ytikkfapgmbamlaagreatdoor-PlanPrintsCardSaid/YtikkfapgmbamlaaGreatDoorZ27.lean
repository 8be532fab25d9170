/- Several texts in one: Gc -/
import Derived.Test.YtikkfapgmbamlaaGreatDoorZ12
import Derived.Test.YtikkfapgmbamlaaGreatDoorZ26
section
/- plan: a configuration as records. -/
namespace Go.Proofs.YtikkfapgmbamlaaGreatDoor.Pl
open Go.RowKit Ut
set_option linter.unusedVariables false
set_option maxRecDepth 100000

def pad3 (r : Int) (v : List Int) : List Int := [r, v.getD 0 0, v.getD 1 0, v.getD 2 0]
def pad2 (r : Int) (v : List Int) : List Int := [r, v.getD 0 0, v.getD 1 0, 0]
/-- the records, as they lie in memory -/
def PC.rows (p : PC) : List (List Int) :=
  ((((([[0, p.cats, 0, 0]] ++ p.gs.map (pad3 1)) ++ p.rs.map (pad3 2)) ++ p.ps.map (pad2 3)) ++ p.ns.map (pad2 4)) ++ p.ss.map (pad2 5)) ++ if p.gate = -1 then [] else [[6, p.gate, p.quota, 0]]
theorem map_step {f : List Int → List Int} {xs : List (List Int)} {k : Nat} (hk : k < xs.length) : (xs.take (k + 1)).map f = (xs.take k).map f ++ [f (xs.getD k [])] := by
  rw [List.take_add_one, List.map_append, List.getElem?_eq_getElem hk]
  simp only [List.getD, List.getElem?_eq_getElem hk, Option.getD_some, Option.toList_some, List.map_cons, List.map_nil]
theorem own_new {w : World} {B : Nat} {e : TypeId} (hB : B ≤ w.heap.size) (y : List Int) (k : Nat) (hy : y.length = k) : OwnT k (w.alloc (.cells (encI y).toArray e (0, 0))) B e (.slice (some ⟨w.heap.size, 0, none⟩) 1 1) [y] := by
  refine ⟨⟨by simp [encR, encI, hy], .inr ⟨w.heap.size, 1, (encI y).toArray, rfl, hB, heap_alloc_new _ _, Nat.le_refl _, by unfold maxLen; omega, by simp [encI, hy], ?_⟩⟩, ?_⟩
  · rw [List.take_of_length_le (by simp [encI, hy])]
    simp [encR, encI]
  · intro x hx
    simp at hx
    rw [hx]; exact hy
theorem info_rec : (Tryz.prog.info? 46).map (fun i => (i.zero, i.size, i.bytes)) = some (some (.agg #[.int .i64 0, .int .i64 0, .int .i64 0, .int .i64 0]), 4, 32) := by kernel_rfl
set_option maxHeartbeats 8000000 in
theorem records_any (p : PC) (ga : Option Addr) (gc : Nat) (ra : Option Addr) (rc : Nat) (pa : Option Addr) (qc : Nat) (na : Option Addr) (nc : Nat) (sa : Option Addr) (sc : Nat) (w : World) (h : (p.cfg ga gc ra rc pa qc na nc sa sc).At w w.heap.size) (hsz : p.size ≤ 1000000) :
    Calls Tryz.prog 8 #[.agg #[.int .i64 p.cats, .slice ga p.gs.length gc, .slice ra p.rs.length rc, .slice pa p.ps.length qc, .slice na p.ns.length nc, .slice sa p.ss.length sc, .int .i64 p.gate, .int .i64 p.quota]] w fun e w' => ∃ v, e = .returned v ∧ OwnT 4 w' w.heap.size 46 v p.rows ∧ Below w.heap.size w w' := by
  obtain ⟨i0, hi, hz0, hz1, hz2⟩ := info_parts info_rec
  unfold PC.size at hsz
  have H1 : Hid (Cf.RowT 3 w w.heap.size ga p.gs.length fun i j => (p.gs.getD i []).getD j 0) := Lib.hid h.g
  have H2 : Hid (Cf.RowT 3 w w.heap.size ra p.rs.length fun i j => (p.rs.getD i []).getD j 0) := Lib.hid h.r
  have H3 : Hid (Cf.RowT 2 w w.heap.size pa p.ps.length fun i j => (p.ps.getD i []).getD j 0) := Lib.hid h.p
  have H4 : Hid (Cf.RowT 2 w w.heap.size na p.ns.length fun i j => (p.ns.getD i []).getD j 0) := Lib.hid h.n
  have H5 : Hid (Cf.RowT 2 w w.heap.size sa p.ss.length fun i j => (p.ss.getD i []).getD j 0) := Lib.hid h.s
  clear h
  have HRW : Hid (∀ x1 x2 x3 x4 x5 x6, x1 = [[0, p.cats, 0, 0]] ++ p.gs.map (pad3 1) → x2 = x1 ++ p.rs.map (pad3 2) → x3 = x2 ++ p.ps.map (pad2 3) → x4 = x3 ++ p.ns.map (pad2 4) → x5 = x4 ++ p.ss.map (pad2 5) → (p.gate = -1 → x6 = x5) → (p.gate ≠ -1 → x6 = x5 ++ [[6, p.gate, p.quota, 0]]) → x6 = p.rows) := Lib.hid fun x1 x2 x3 x4 x5 x6 e1 e2 e3 e4 e5 e6 e7 => by
    unfold PC.rows
    rw [← e1, ← e2, ← e3, ← e4, ← e5]
    by_cases hg : p.gate = -1
    · rw [if_pos hg, e6 hg]; simp
    · rw [if_neg hg, e7 hg]
  generalize p.rows = rws at HRW ⊢
  go_enter Tryz.func8, Tryz.ntmps8
  go_upto_region 2 with fail
  obtain ⟨W0, hW0⟩ : ∃ W0, (w.alloc (.cells #[.int .i64 p.cats, .slice ga p.gs.length gc, .slice ra p.rs.length rc, .slice pa p.ps.length qc, .slice na p.ns.length nc, .slice sa p.ss.length sc, .int .i64 p.gate, .int .i64 p.quota] 28 (0, 0))).alloc (.cells (encI [0, p.cats, 0, 0]).toArray 46 (0, 0)) = W0 := ⟨_, rfl⟩
  have hb0 : Below w.heap.size w W0 := hW0 ▸ ((Below.refl _ _).alloc (Nat.le_refl _) _).alloc (by simp) _
  have hx0 : W0.heap[w.heap.size]? = some (.cells #[.int .i64 p.cats, .slice ga p.gs.length gc, .slice ra p.rs.length rc, .slice pa p.ps.length qc, .slice na p.ns.length nc, .slice sa p.ss.length sc, .int .i64 p.gate, .int .i64 p.quota] 28 (0, 0)) := by
    rw [← hW0, Below.heap_alloc _ _ _ (by simp)]; exact heap_alloc_new _ _
  have ho0 : OwnT 4 W0 w.heap.size 46 (.slice (some ⟨w.heap.size + 1, 0, none⟩) 1 1) [[0, p.cats, 0, 0]] := by
    have := own_new (w := w.alloc (.cells #[.int .i64 p.cats, .slice ga p.gs.length gc, .slice ra p.rs.length rc, .slice pa p.ps.length qc, .slice na p.ns.length nc, .slice sa p.ss.length sc, .int .i64 p.gate, .int .i64 p.quota] 28 (0, 0))) (B := w.heap.size) (e := 46) (by simp) [0, p.cats, 0, 0] 4 rfl
    rw [hW0] at this
    simpa using this
  have hWW : (w.alloc (.cells #[.int .i64 p.cats, .slice ga p.gs.length gc, .slice ra p.rs.length rc, .slice pa p.ps.length qc, .slice na p.ns.length nc, .slice sa p.ss.length sc, .int .i64 p.gate, .int .i64 p.quota] 28 (0, 0))).alloc (.cells #[.int .i64 0, .int .i64 p.cats, .int .i64 0, .int .i64 0] 46 (0, 0)) = W0 := hW0
  rw [hWW]
  clear hW0 hWW
  have HX0 := Lib.hid hx0
  have hl0 := (Array.getElem?_eq_some_iff.1 hx0).1
  clear hx0
  have hkp0 : Kept 46 W0 W0 := Kept.refl _ _
  obtain ⟨x0, hx0⟩ : ∃ x0 : List (List Int), [[0, p.cats, 0, 0]] = x0 := ⟨_, rfl⟩
  have hl : x0.length ≤ 1 := by rw [← hx0]; simp
  rw [hx0] at ho0
  have E0 := Lib.hid hx0
  clear hx0
  have f0 := (box_cell (hkp0.2 _ _ _ _ (by decide) HX0.out) 1 _ rfl).1
  go_wp2
  go_loopw [3, 22] (fun l i wr => ∃ k : Nat, k ≤ p.gs.length ∧ i = .int .i64 k ∧ OwnT 4 wr w.heap.size 46 l (x0 ++ (p.gs.take k).map (pad3 1)) ∧ Below w.heap.size w wr ∧ Kept 46 W0 wr) (fun _ i _ => p.gs.length - (intOf i).toNat)
  case atStart => exact ⟨0, Nat.zero_le _, rfl, by simpa using ho0, hb0, hkp0⟩
  case round =>
    clear ho0 hb0 hkp0 f0
    obtain ⟨k, hk, rfl, hown, hbw, hkp⟩ := hrel
    by_cases hlt : k < p.gs.length
    · obtain ⟨x, rfl, hxb, k0, k1, k2⟩ := Cf.RowT.at3 (H1.out.below hbw) k hlt
      have hs := hbw.size
      have hki : (k : Int) < (p.gs.length : Int) := by omega
      have HM : Hid ((p.gs.take (k + 1)).map (pad3 1) = (p.gs.take k).map (pad3 1) ++ [(pad3 1) (p.gs.getD k [])]) := Lib.hid (map_step hlt)
      obtain ⟨z0, hz0'⟩ : ∃ z, (p.gs.getD k []).getD 0 0 = z := ⟨_, rfl⟩
      rw [hz0'] at k0
      obtain ⟨z1, hz1'⟩ : ∃ z, (p.gs.getD k []).getD 1 0 = z := ⟨_, rfl⟩
      rw [hz1'] at k1
      obtain ⟨z2, hz2'⟩ : ∃ z, (p.gs.getD k []).getD 2 0 = z := ⟨_, rfl⟩
      rw [hz2'] at k2
      have HY : Hid ((pad3 1) (p.gs.getD k []) = [1, z0, z1, z2]) := Lib.hid (by unfold pad3; rw [hz0', hz1', hz2'])
      clear hz0' hz1' hz2'
      have hol : (x0 ++ (p.gs.take k).map (pad3 1)).length ≤ 3000000 := by simp; omega
      obtain ⟨xs, hxs⟩ : ∃ xs, x0 ++ (p.gs.take k).map (pad3 1) = xs := ⟨_, rfl⟩
      rw [hxs] at hown hol
      have HXS := Lib.hid hxs
      clear hxs
      go_wp2_with (at_builtin; refine wpList_append_rec rfl (.tmp 26) (.tmp 35) 42 rfl 4 w.heap.size 46 i0 _ 32 Tryz.underlying42 hi hz0 hz1 hz2 rfl (by decide) _ xs rfl ((hown.alloc (.cells #[.int .i64 z0, .int .i64 z1, .int .i64 z2] 59)).alloc (.cells #[.int .i64 1, .int .i64 z0, .int .i64 z1, .int .i64 z2] 46)) ⟨wr.heap.size + 1, 0, none⟩ 1 [1, z0, z1, z2] rfl rfl (fun j u hj => by have h0 := cells_new (wr.alloc (.cells #[.int .i64 z0, .int .i64 z1, .int .i64 z2] 59)) [.int .i64 1, .int .i64 z0, .int .i64 z1, .int .i64 z2] 46 j u hj; simpa using h0) (by omega) (by decide) (by simp; omega) ?_; intro v' w4 hO hG)
      have hal : Below wr.heap.size wr ((wr.alloc (.cells #[.int .i64 z0, .int .i64 z1, .int .i64 z2] 59)).alloc (.cells #[.int .i64 1, .int .i64 z0, .int .i64 z1, .int .i64 z2] 46)) := ((Below.refl _ _).alloc (Nat.le_refl _) _).alloc (by simp) _
      have hb4 : Below w.heap.size w w4 := (hbw.trans (hal.mono hs)).grown hG.out (by simp; omega) (fun q hq => (World.ownsRow.lt hown.1 q hq).1)
      have hk4 : Kept 46 W0 w4 := hkp.trans ((Kept.of_below hal).trans (Kept.grown hG.out (own_tag ((hown.alloc (.cells #[.int .i64 z0, .int .i64 z1, .int .i64 z2] 59)).alloc (.cells #[.int .i64 1, .int .i64 z0, .int .i64 z1, .int .i64 z2] 46)).1)))
      clear hal hown hbw hkp hG
      go_wp2
      go_roundw
      case rel => exact ⟨k + 1, by omega, by go_num, by rw [HM.out, HY.out, ← List.append_assoc, HXS.out]; exact hO.out, hb4, hk4⟩
      case measure => simp [intOf]; omega
    · obtain rfl : k = p.gs.length := by omega
      rw [List.take_length] at hown
      obtain ⟨x1, hx1⟩ : ∃ x1, x0 ++ p.gs.map (pad3 1) = x1 := ⟨_, rfl⟩
      have hl1 : x1.length ≤ 1 + p.gs.length := by rw [← hx1]; simp; omega
      rw [hx1] at hown
      have E1 := Lib.hid hx1
      clear hx1
      have f1 := (box_cell (hkp.2 _ _ _ _ (by decide) HX0.out) 2 _ rfl).1
      go_wp2
      go_loopw [3, 41] (fun l i wr => ∃ k : Nat, k ≤ p.rs.length ∧ i = .int .i64 k ∧ OwnT 4 wr w.heap.size 46 l (x1 ++ (p.rs.take k).map (pad3 2)) ∧ Below w.heap.size w wr ∧ Kept 46 W0 wr) (fun _ i _ => p.rs.length - (intOf i).toNat)
      case atStart => exact ⟨0, Nat.zero_le _, rfl, by simpa using hown, hbw, hkp⟩
      case round =>
        clear hown hbw hkp f1
        obtain ⟨k, hk, rfl, hown, hbw, hkp⟩ := hrel
        by_cases hlt : k < p.rs.length
        · obtain ⟨x, rfl, hxb, k0, k1, k2⟩ := Cf.RowT.at3 (H2.out.below hbw) k hlt
          have hs := hbw.size
          have hki : (k : Int) < (p.rs.length : Int) := by omega
          have HM : Hid ((p.rs.take (k + 1)).map (pad3 2) = (p.rs.take k).map (pad3 2) ++ [(pad3 2) (p.rs.getD k [])]) := Lib.hid (map_step hlt)
          obtain ⟨z0, hz0'⟩ : ∃ z, (p.rs.getD k []).getD 0 0 = z := ⟨_, rfl⟩
          rw [hz0'] at k0
          obtain ⟨z1, hz1'⟩ : ∃ z, (p.rs.getD k []).getD 1 0 = z := ⟨_, rfl⟩
          rw [hz1'] at k1
          obtain ⟨z2, hz2'⟩ : ∃ z, (p.rs.getD k []).getD 2 0 = z := ⟨_, rfl⟩
          rw [hz2'] at k2
          have HY : Hid ((pad3 2) (p.rs.getD k []) = [2, z0, z1, z2]) := Lib.hid (by unfold pad3; rw [hz0', hz1', hz2'])
          clear hz0' hz1' hz2'
          have hol : (x1 ++ (p.rs.take k).map (pad3 2)).length ≤ 3000000 := by simp; omega
          obtain ⟨xs, hxs⟩ : ∃ xs, x1 ++ (p.rs.take k).map (pad3 2) = xs := ⟨_, rfl⟩
          rw [hxs] at hown hol
          have HXS := Lib.hid hxs
          clear hxs
          go_wp2_with (at_builtin; refine wpList_append_rec rfl (.tmp 45) (.tmp 54) 42 rfl 4 w.heap.size 46 i0 _ 32 Tryz.underlying42 hi hz0 hz1 hz2 rfl (by decide) _ xs rfl ((hown.alloc (.cells #[.int .i64 z0, .int .i64 z1, .int .i64 z2] 61)).alloc (.cells #[.int .i64 2, .int .i64 z0, .int .i64 z1, .int .i64 z2] 46)) ⟨wr.heap.size + 1, 0, none⟩ 1 [2, z0, z1, z2] rfl rfl (fun j u hj => by have h0 := cells_new (wr.alloc (.cells #[.int .i64 z0, .int .i64 z1, .int .i64 z2] 61)) [.int .i64 2, .int .i64 z0, .int .i64 z1, .int .i64 z2] 46 j u hj; simpa using h0) (by omega) (by decide) (by simp; omega) ?_; intro v' w4 hO hG)
          have hal : Below wr.heap.size wr ((wr.alloc (.cells #[.int .i64 z0, .int .i64 z1, .int .i64 z2] 61)).alloc (.cells #[.int .i64 2, .int .i64 z0, .int .i64 z1, .int .i64 z2] 46)) := ((Below.refl _ _).alloc (Nat.le_refl _) _).alloc (by simp) _
          have hb4 : Below w.heap.size w w4 := (hbw.trans (hal.mono hs)).grown hG.out (by simp; omega) (fun q hq => (World.ownsRow.lt hown.1 q hq).1)
          have hk4 : Kept 46 W0 w4 := hkp.trans ((Kept.of_below hal).trans (Kept.grown hG.out (own_tag ((hown.alloc (.cells #[.int .i64 z0, .int .i64 z1, .int .i64 z2] 61)).alloc (.cells #[.int .i64 2, .int .i64 z0, .int .i64 z1, .int .i64 z2] 46)).1)))
          clear hal hown hbw hkp hG
          go_wp2
          go_roundw
          case rel => exact ⟨k + 1, by omega, by go_num, by rw [HM.out, HY.out, ← List.append_assoc, HXS.out]; exact hO.out, hb4, hk4⟩
          case measure => simp [intOf]; omega
        · obtain rfl : k = p.rs.length := by omega
          rw [List.take_length] at hown
          obtain ⟨x2, hx2⟩ : ∃ x2, x1 ++ p.rs.map (pad3 2) = x2 := ⟨_, rfl⟩
          have hl2 : x2.length ≤ 1 + p.gs.length + p.rs.length := by rw [← hx2]; simp; omega
          rw [hx2] at hown
          have E2 := Lib.hid hx2
          clear hx2
          have f2 := (box_cell (hkp.2 _ _ _ _ (by decide) HX0.out) 3 _ rfl).1
          go_wp2
          go_loopw [3, 60] (fun l i wr => ∃ k : Nat, k ≤ p.ps.length ∧ i = .int .i64 k ∧ OwnT 4 wr w.heap.size 46 l (x2 ++ (p.ps.take k).map (pad2 3)) ∧ Below w.heap.size w wr ∧ Kept 46 W0 wr) (fun _ i _ => p.ps.length - (intOf i).toNat)
          case atStart => exact ⟨0, Nat.zero_le _, rfl, by simpa using hown, hbw, hkp⟩
          case round =>
            clear hown hbw hkp f2
            obtain ⟨k, hk, rfl, hown, hbw, hkp⟩ := hrel
            by_cases hlt : k < p.ps.length
            · obtain ⟨x, rfl, hxb, k0, k1⟩ := Cf.RowT.at2 (H3.out.below hbw) k hlt
              have hs := hbw.size
              have hki : (k : Int) < (p.ps.length : Int) := by omega
              have HM : Hid ((p.ps.take (k + 1)).map (pad2 3) = (p.ps.take k).map (pad2 3) ++ [(pad2 3) (p.ps.getD k [])]) := Lib.hid (map_step hlt)
              obtain ⟨z0, hz0'⟩ : ∃ z, (p.ps.getD k []).getD 0 0 = z := ⟨_, rfl⟩
              rw [hz0'] at k0
              obtain ⟨z1, hz1'⟩ : ∃ z, (p.ps.getD k []).getD 1 0 = z := ⟨_, rfl⟩
              rw [hz1'] at k1
              have HY : Hid ((pad2 3) (p.ps.getD k []) = [3, z0, z1, 0]) := Lib.hid (by unfold pad2; rw [hz0', hz1'])
              clear hz0' hz1'
              have hol : (x2 ++ (p.ps.take k).map (pad2 3)).length ≤ 3000000 := by simp; omega
              obtain ⟨xs, hxs⟩ : ∃ xs, x2 ++ (p.ps.take k).map (pad2 3) = xs := ⟨_, rfl⟩
              rw [hxs] at hown hol
              have HXS := Lib.hid hxs
              clear hxs
              go_wp2_with (at_builtin; refine wpList_append_rec rfl (.tmp 64) (.tmp 71) 42 rfl 4 w.heap.size 46 i0 _ 32 Tryz.underlying42 hi hz0 hz1 hz2 rfl (by decide) _ xs rfl ((hown.alloc (.cells #[.int .i64 z0, .int .i64 z1] 63)).alloc (.cells #[.int .i64 3, .int .i64 z0, .int .i64 z1, .int .i64 0] 46)) ⟨wr.heap.size + 1, 0, none⟩ 1 [3, z0, z1, 0] rfl rfl (fun j u hj => by have h0 := cells_new (wr.alloc (.cells #[.int .i64 z0, .int .i64 z1] 63)) [.int .i64 3, .int .i64 z0, .int .i64 z1, .int .i64 0] 46 j u hj; simpa using h0) (by omega) (by decide) (by simp; omega) ?_; intro v' w4 hO hG)
              have hal : Below wr.heap.size wr ((wr.alloc (.cells #[.int .i64 z0, .int .i64 z1] 63)).alloc (.cells #[.int .i64 3, .int .i64 z0, .int .i64 z1, .int .i64 0] 46)) := ((Below.refl _ _).alloc (Nat.le_refl _) _).alloc (by simp) _
              have hb4 : Below w.heap.size w w4 := (hbw.trans (hal.mono hs)).grown hG.out (by simp; omega) (fun q hq => (World.ownsRow.lt hown.1 q hq).1)
              have hk4 : Kept 46 W0 w4 := hkp.trans ((Kept.of_below hal).trans (Kept.grown hG.out (own_tag ((hown.alloc (.cells #[.int .i64 z0, .int .i64 z1] 63)).alloc (.cells #[.int .i64 3, .int .i64 z0, .int .i64 z1, .int .i64 0] 46)).1)))
              clear hal hown hbw hkp hG
              go_wp2
              go_roundw
              case rel => exact ⟨k + 1, by omega, by go_num, by rw [HM.out, HY.out, ← List.append_assoc, HXS.out]; exact hO.out, hb4, hk4⟩
              case measure => simp [intOf]; omega
            · obtain rfl : k = p.ps.length := by omega
              rw [List.take_length] at hown
              obtain ⟨x3, hx3⟩ : ∃ x3, x2 ++ p.ps.map (pad2 3) = x3 := ⟨_, rfl⟩
              have hl3 : x3.length ≤ 1 + p.gs.length + p.rs.length + p.ps.length := by rw [← hx3]; simp; omega
              rw [hx3] at hown
              have E3 := Lib.hid hx3
              clear hx3
              have f3 := (box_cell (hkp.2 _ _ _ _ (by decide) HX0.out) 4 _ rfl).1
              go_wp2
              go_loopw [3, 77] (fun l i wr => ∃ k : Nat, k ≤ p.ns.length ∧ i = .int .i64 k ∧ OwnT 4 wr w.heap.size 46 l (x3 ++ (p.ns.take k).map (pad2 4)) ∧ Below w.heap.size w wr ∧ Kept 46 W0 wr) (fun _ i _ => p.ns.length - (intOf i).toNat)
              case atStart => exact ⟨0, Nat.zero_le _, rfl, by simpa using hown, hbw, hkp⟩
              case round =>
                clear hown hbw hkp f3
                obtain ⟨k, hk, rfl, hown, hbw, hkp⟩ := hrel
                by_cases hlt : k < p.ns.length
                · obtain ⟨x, rfl, hxb, k0, k1⟩ := Cf.RowT.at2 (H4.out.below hbw) k hlt
                  have hs := hbw.size
                  have hki : (k : Int) < (p.ns.length : Int) := by omega
                  have HM : Hid ((p.ns.take (k + 1)).map (pad2 4) = (p.ns.take k).map (pad2 4) ++ [(pad2 4) (p.ns.getD k [])]) := Lib.hid (map_step hlt)
                  obtain ⟨z0, hz0'⟩ : ∃ z, (p.ns.getD k []).getD 0 0 = z := ⟨_, rfl⟩
                  rw [hz0'] at k0
                  obtain ⟨z1, hz1'⟩ : ∃ z, (p.ns.getD k []).getD 1 0 = z := ⟨_, rfl⟩
                  rw [hz1'] at k1
                  have HY : Hid ((pad2 4) (p.ns.getD k []) = [4, z0, z1, 0]) := Lib.hid (by unfold pad2; rw [hz0', hz1'])
                  clear hz0' hz1'
                  have hol : (x3 ++ (p.ns.take k).map (pad2 4)).length ≤ 3000000 := by simp; omega
                  obtain ⟨xs, hxs⟩ : ∃ xs, x3 ++ (p.ns.take k).map (pad2 4) = xs := ⟨_, rfl⟩
                  rw [hxs] at hown hol
                  have HXS := Lib.hid hxs
                  clear hxs
                  go_wp2_with (at_builtin; refine wpList_append_rec rfl (.tmp 81) (.tmp 88) 42 rfl 4 w.heap.size 46 i0 _ 32 Tryz.underlying42 hi hz0 hz1 hz2 rfl (by decide) _ xs rfl ((hown.alloc (.cells #[.int .i64 z0, .int .i64 z1] 65)).alloc (.cells #[.int .i64 4, .int .i64 z0, .int .i64 z1, .int .i64 0] 46)) ⟨wr.heap.size + 1, 0, none⟩ 1 [4, z0, z1, 0] rfl rfl (fun j u hj => by have h0 := cells_new (wr.alloc (.cells #[.int .i64 z0, .int .i64 z1] 65)) [.int .i64 4, .int .i64 z0, .int .i64 z1, .int .i64 0] 46 j u hj; simpa using h0) (by omega) (by decide) (by simp; omega) ?_; intro v' w4 hO hG)
                  have hal : Below wr.heap.size wr ((wr.alloc (.cells #[.int .i64 z0, .int .i64 z1] 65)).alloc (.cells #[.int .i64 4, .int .i64 z0, .int .i64 z1, .int .i64 0] 46)) := ((Below.refl _ _).alloc (Nat.le_refl _) _).alloc (by simp) _
                  have hb4 : Below w.heap.size w w4 := (hbw.trans (hal.mono hs)).grown hG.out (by simp; omega) (fun q hq => (World.ownsRow.lt hown.1 q hq).1)
                  have hk4 : Kept 46 W0 w4 := hkp.trans ((Kept.of_below hal).trans (Kept.grown hG.out (own_tag ((hown.alloc (.cells #[.int .i64 z0, .int .i64 z1] 65)).alloc (.cells #[.int .i64 4, .int .i64 z0, .int .i64 z1, .int .i64 0] 46)).1)))
                  clear hal hown hbw hkp hG
                  go_wp2
                  go_roundw
                  case rel => exact ⟨k + 1, by omega, by go_num, by rw [HM.out, HY.out, ← List.append_assoc, HXS.out]; exact hO.out, hb4, hk4⟩
                  case measure => simp [intOf]; omega
                · obtain rfl : k = p.ns.length := by omega
                  rw [List.take_length] at hown
                  obtain ⟨x4, hx4⟩ : ∃ x4, x3 ++ p.ns.map (pad2 4) = x4 := ⟨_, rfl⟩
                  have hl4 : x4.length ≤ 1 + p.gs.length + p.rs.length + p.ps.length + p.ns.length := by rw [← hx4]; simp; omega
                  rw [hx4] at hown
                  have E4 := Lib.hid hx4
                  clear hx4
                  have f4 := (box_cell (hkp.2 _ _ _ _ (by decide) HX0.out) 5 _ rfl).1
                  go_wp2
                  go_loopw [3, 94] (fun l i wr => ∃ k : Nat, k ≤ p.ss.length ∧ i = .int .i64 k ∧ OwnT 4 wr w.heap.size 46 l (x4 ++ (p.ss.take k).map (pad2 5)) ∧ Below w.heap.size w wr ∧ Kept 46 W0 wr) (fun _ i _ => p.ss.length - (intOf i).toNat)
                  case atStart => exact ⟨0, Nat.zero_le _, rfl, by simpa using hown, hbw, hkp⟩
                  case round =>
                    clear hown hbw hkp f4
                    obtain ⟨k, hk, rfl, hown, hbw, hkp⟩ := hrel
                    by_cases hlt : k < p.ss.length
                    · obtain ⟨x, rfl, hxb, k0, k1⟩ := Cf.RowT.at2 (H5.out.below hbw) k hlt
                      have hs := hbw.size
                      have hki : (k : Int) < (p.ss.length : Int) := by omega
                      have HM : Hid ((p.ss.take (k + 1)).map (pad2 5) = (p.ss.take k).map (pad2 5) ++ [(pad2 5) (p.ss.getD k [])]) := Lib.hid (map_step hlt)
                      obtain ⟨z0, hz0'⟩ : ∃ z, (p.ss.getD k []).getD 0 0 = z := ⟨_, rfl⟩
                      rw [hz0'] at k0
                      obtain ⟨z1, hz1'⟩ : ∃ z, (p.ss.getD k []).getD 1 0 = z := ⟨_, rfl⟩
                      rw [hz1'] at k1
                      have HY : Hid ((pad2 5) (p.ss.getD k []) = [5, z0, z1, 0]) := Lib.hid (by unfold pad2; rw [hz0', hz1'])
                      clear hz0' hz1'
                      have hol : (x4 ++ (p.ss.take k).map (pad2 5)).length ≤ 3000000 := by simp; omega
                      obtain ⟨xs, hxs⟩ : ∃ xs, x4 ++ (p.ss.take k).map (pad2 5) = xs := ⟨_, rfl⟩
                      rw [hxs] at hown hol
                      have HXS := Lib.hid hxs
                      clear hxs
                      go_wp2_with (at_builtin; refine wpList_append_rec rfl (.tmp 98) (.tmp 105) 42 rfl 4 w.heap.size 46 i0 _ 32 Tryz.underlying42 hi hz0 hz1 hz2 rfl (by decide) _ xs rfl ((hown.alloc (.cells #[.int .i64 z0, .int .i64 z1] 67)).alloc (.cells #[.int .i64 5, .int .i64 z0, .int .i64 z1, .int .i64 0] 46)) ⟨wr.heap.size + 1, 0, none⟩ 1 [5, z0, z1, 0] rfl rfl (fun j u hj => by have h0 := cells_new (wr.alloc (.cells #[.int .i64 z0, .int .i64 z1] 67)) [.int .i64 5, .int .i64 z0, .int .i64 z1, .int .i64 0] 46 j u hj; simpa using h0) (by omega) (by decide) (by simp; omega) ?_; intro v' w4 hO hG)
                      have hal : Below wr.heap.size wr ((wr.alloc (.cells #[.int .i64 z0, .int .i64 z1] 67)).alloc (.cells #[.int .i64 5, .int .i64 z0, .int .i64 z1, .int .i64 0] 46)) := ((Below.refl _ _).alloc (Nat.le_refl _) _).alloc (by simp) _
                      have hb4 : Below w.heap.size w w4 := (hbw.trans (hal.mono hs)).grown hG.out (by simp; omega) (fun q hq => (World.ownsRow.lt hown.1 q hq).1)
                      have hk4 : Kept 46 W0 w4 := hkp.trans ((Kept.of_below hal).trans (Kept.grown hG.out (own_tag ((hown.alloc (.cells #[.int .i64 z0, .int .i64 z1] 67)).alloc (.cells #[.int .i64 5, .int .i64 z0, .int .i64 z1, .int .i64 0] 46)).1)))
                      clear hal hown hbw hkp hG
                      go_wp2
                      go_roundw
                      case rel => exact ⟨k + 1, by omega, by go_num, by rw [HM.out, HY.out, ← List.append_assoc, HXS.out]; exact hO.out, hb4, hk4⟩
                      case measure => simp [intOf]; omega
                    · obtain rfl : k = p.ss.length := by omega
                      rw [List.take_length] at hown
                      obtain ⟨x5, hx5⟩ : ∃ x5, x4 ++ p.ss.map (pad2 5) = x5 := ⟨_, rfl⟩
                      have hl5 : x5.length ≤ 1 + p.gs.length + p.rs.length + p.ps.length + p.ns.length + p.ss.length := by rw [← hx5]; simp; omega
                      rw [hx5] at hown
                      have E5 := Lib.hid hx5
                      clear hx5
                      have g6 := (box_cell (hkp.2 _ _ _ _ (by decide) HX0.out) 6 _ rfl).1
                      have g7 := (box_cell (hkp.2 _ _ _ _ (by decide) HX0.out) 7 _ rfl).1
                      have hs := hbw.size
                      by_cases hg : p.gate = -1
                      · have HF := Lib.hid (HRW.out x1 x2 x3 x4 x5 x5 (by rw [← E1.out, E0.out]) E2.out.symm E3.out.symm E4.out.symm E5.out.symm (fun _ => rfl) (fun h => absurd hg h))
                        have hgb : (p.gate == -1) = true := by simpa using hg
                        rw [hg] at g6
                        go_wp2
                        go_ret
                        exact ⟨_, rfl, HF.out ▸ hown, hbw⟩
                      · have HF := Lib.hid (HRW.out x1 x2 x3 x4 x5 (x5 ++ [[6, p.gate, p.quota, 0]]) (by rw [← E1.out, E0.out]) E2.out.symm E3.out.symm E4.out.symm E5.out.symm (fun h => absurd h hg) (fun _ => rfl))
                        have hgb : (p.gate == -1) = false := by simpa using hg
                        go_wp2_with (at_builtin; refine wpList_append_rec rfl (.tmp 111) (.tmp 118) 42 rfl 4 w.heap.size 46 i0 _ 32 Tryz.underlying42 hi hz0 hz1 hz2 rfl (by decide) _ x5 rfl (hown.alloc (.cells #[.int .i64 6, .int .i64 p.gate, .int .i64 p.quota, .int .i64 0] 46)) ⟨wr.heap.size, 0, none⟩ 1 [6, p.gate, p.quota, 0] rfl rfl (fun j u hj => cells_new wr [.int .i64 6, .int .i64 p.gate, .int .i64 p.quota, .int .i64 0] 46 j u hj) (by omega) (by decide) (by simp; omega) ?_; intro v' w4 hO hG)
                        have hb4 : Below w.heap.size w w4 := (hbw.alloc hs (.cells #[.int .i64 6, .int .i64 p.gate, .int .i64 p.quota, .int .i64 0] 46)).grown hG.out (by simp; omega) (fun q hq => (World.ownsRow.lt hown.1 q hq).1)
                        go_wp2
                        go_ret
                        exact ⟨_, rfl, HF.out ▸ hO.out, hb4⟩
end Go.Proofs.YtikkfapgmbamlaaGreatDoor.Pl
end
