/- The document's translations: Look. -/
import Derived.Test.YtgcpcffgpokbfaaAa
namespace Go.Proofs.Ytgcpcffgpokbfaa.Sb
open Go.RowKit Ut
set_option maxRecDepth 100000
set_option linter.unusedVariables false
set_option maxHeartbeats 4000000

theorem below_drewN {B : Nat} {w w' : World} (h : Below B w w') (d : Nat) : Below B w (w'.drewN d) := ⟨h.os, h.tape, h.output, h.size, h.block⟩
theorem take_none {l : List Rc} {p q : Int} {i : Nat} {x : Rc} (h : ∀ y ∈ l.take i, y.is p q = false) (hx : l[i]? = some x) (hi : x.is p q = false) : ∀ y ∈ l.take (i + 1), y.is p q = false := fun y hy => by
  rw [List.take_add_one, hx] at hy
  rcases List.mem_append.1 hy with hy | hy
  · exact h y hy
  · simp at hy
    rw [hy]
    exact hi
theorem find_here {l : List Rc} {p q : Int} {i : Nat} {x : Rc} (h : ∀ y ∈ l.take i, y.is p q = false) (hx : l[i]? = some x) (hi : x.is p q = true) : findL l p q = some x := by
  unfold findL
  obtain ⟨hl, e⟩ := List.getElem?_eq_some_iff.1 hx
  rw [List.find?_eq_some_iff_getElem]
  refine ⟨hi, i, hl, e, fun j hj => ?_⟩
  have := h l[j] (by rw [List.mem_take_iff_getElem]; exact ⟨j, by omega, rfl⟩)
  simp [this]
theorem find_none {l : List Rc} {p q : Int} (h : ∀ y ∈ l, y.is p q = false) : findL l p q = none := by
  unfold findL
  rw [List.find?_eq_none]
  intro y hy
  simp [h y hy]

section
variable {g n cap : Nat} {room : Int} {a : Option Addr} {l : List Rc}
theorem refLook_any (p q : Int) (o : Option Rc) (ho : findL l p q = o) (w : World) (h : DT w g room a n cap l) (hn : n ≤ 100000) :
    Calls Try.prog 29 #[.pointer (some ⟨g, 0, none⟩), .agg #[.int .i64 p, .int .i64 q]] w fun e w' => e = .returned (.tuple #[entV (entF o), .bool o.isSome]) ∧ Below w.heap.size w w' := by
  obtain ⟨U, hU⟩ : ∃ U, U = (w.alloc (.cells #[.int .i64 p, .int .i64 q] 38)).alloc (.cells #[.int .i64 0, .int .i64 0, .int .i64 0] 34) := ⟨_, rfl⟩
  have hB : Below w.heap.size w U := by rw [hU]; exact ((Below.refl _ _).alloc (Nat.le_refl _) _).alloc (by simp) _
  have hk : Blk U w.heap.size 38 [.int .i64 p, .int .i64 q] := by rw [hU]; exact (Blk.new w _ [.int .i64 p, .int .i64 q]).more ((Below.refl _ _).alloc (Nat.le_refl _) _)
  have he : Blk U (w.heap.size + 1) 34 (entC (0, 0, 0)) := by
    have := Blk.new (w.alloc (.cells #[.int .i64 p, .int .i64 q] 38)) 34 (entC (0, 0, 0))
    rw [World.size_alloc] at this
    rw [hU]
    exact this
  have HU := Lib.hid hU
  have HB := Lib.hid hB
  have HK := Lib.hid hk
  have HE := Lib.hid he
  have HD := Lib.hid (h.more hB)
  have HO := Lib.hid ho
  have HSet : Hid (∀ (W : World) (j : Nat) (v : Value), Below w.heap.size w W → Below w.heap.size w (W.setCell ⟨w.heap.size + 1, j, none⟩ v)) := Lib.hid fun W j v h => h.setCell (p := ⟨w.heap.size + 1, j, none⟩) (by simp) _
  clear hU hB hk he h ho
  go_enter Try.func29, Try.ntmps29
  go_upto_region 1 with fail
  rw [← HU.out]
  clear HU
  go_wp2
  go_loopw [6] (fun j wr => ∃ i : Nat, i ≤ n ∧ j = .int .i64 i ∧ Hid (∀ y ∈ l.take i, y.is p q = false) ∧ Hid (Below U.heap.size U wr)) (fun j _ => n - (intOf j).toNat)
  case atStart => exact ⟨0, Nat.zero_le _, rfl, Lib.hid (by simp), Lib.hid (Below.refl _ _)⟩
  case round =>
    obtain ⟨i, hi, rfl, HN, HW⟩ := hrel
    have HDW := Lib.hid (HD.out.more HW.out)
    have c0 := HDW.out.cell0
    have cl := HDW.out.blk.lt
    by_cases hin : i < n
    · have f0 : (i : Int) < (n : Int) := by omega
      have f2 : (0 : Int) ≤ (i : Int) := by omega
      have hx : l[i]? = some (l[i]'(by rw [HD.out.len]; exact hin)) := List.getElem?_eq_getElem _
      obtain ⟨x, hxx⟩ : ∃ x, l[i]'(by rw [HD.out.len]; exact hin) = x := ⟨_, rfl⟩
      rw [hxx] at hx
      obtain ⟨y, rfl, hyb, d0, d1, d2, d3, d4⟩ := HDW.out.row.at_ hx
      have q0 := HK.out.more HW.out
      have k0 := q0.cell (j := 0) rfl
      have k1 := q0.cell (j := 1) rfl
      have kl := q0.lt
      have HX := Lib.hid hx
      have H3 := Lib.hid hin
      clear hx hxx q0 hi hin
      have hcases := is_cases x p q
      obtain ⟨kr, kp, ep, ef, er⟩ := x
      dsimp only at hcases d0 d1 d2 d3 d4
      rcases hcases with ⟨hy, h1, h2⟩ | ⟨hno, h1⟩ | ⟨hno, h1, h2⟩
      · subst h1 h2
        have HF := Lib.hid (HO.out.symm.trans (find_here HN.out HX.out hy))
        have HB9 := Lib.hid (HB.out.trans (HW.out.mono HB.out.size))
        have q0 := HE.out.more HW.out
        have r0 := q0.cell (j := 0) rfl
        have r1 := q0.cell (j := 1) rfl
        have r2 := q0.cell (j := 2) rfl
        have f3 := q0.frozen 0
        have f4 := q0.frozen 1
        have f5 := q0.frozen 2
        have hlt := q0.lt
        clear hy q0
        go_upto_region 4 with fail
        go_quiet (fail)
        go_wp2
        exact bodyPost_ret (v := .tuple #[entV (ep, ef, er), .bool true]) (by simp [results, Try.results29, go_sem, r0, r1, r2, entV]) rfl ⟨by rw [HF.out]; rfl, by (repeat (first | refine HSet.out _ _ _ ?_)); exact below_drewN HB9.out _⟩
      · have HN2 := Lib.hid (take_none HN.out HX.out hno)
        clear hno
        go_upto_region 4 with fail
        go_quiet (fail)
        go_wp2
        go_roundw
        case rel => exact ⟨i + 1, H3.out, by go_num, HN2, Lib.hid (below_drewN HW.out _)⟩
        case measure => have := H3.out; simp [intOf]; omega
      · have HN2 := Lib.hid (take_none HN.out HX.out hno)
        clear hno
        subst h1
        go_upto_region 4 with fail
        go_quiet (fail)
        go_wp2
        go_roundw
        case rel => exact ⟨i + 1, H3.out, by go_num, HN2, Lib.hid (below_drewN HW.out _)⟩
        case measure => have := H3.out; simp [intOf]; omega
    · have f0 : ¬ (i : Int) < (n : Int) := by omega
      obtain rfl : i = n := by omega
      have HF : Hid (o = none) := Lib.hid (HO.out.symm.trans (find_none (by have := HN.out; rwa [← HD.out.len, List.take_length] at this)))
      have HB9 := Lib.hid (HB.out.trans (HW.out.mono HB.out.size))
      have q0 := HE.out.more HW.out
      have r0 := q0.cell (j := 0) rfl
      have r1 := q0.cell (j := 1) rfl
      have r2 := q0.cell (j := 2) rfl
      have f3 := q0.frozen 0
      have f4 := q0.frozen 1
      have f5 := q0.frozen 2
      have hlt := q0.lt
      clear hi hin q0
      go_wp2
      exact bodyPost_ret (v := .tuple #[entV (0, 0, 0), .bool false]) (by simp [results, Try.results29, go_sem, r0, r1, r2, entV]) rfl ⟨by rw [HF.out]; rfl, by (repeat (first | refine HSet.out _ _ _ ?_)); exact HB9.out⟩
end
end Go.Proofs.Ytgcpcffgpokbfaa.Sb
