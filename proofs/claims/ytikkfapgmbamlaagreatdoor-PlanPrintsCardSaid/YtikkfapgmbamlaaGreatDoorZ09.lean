/- Several texts in one: Ee Eh -/
import Derived.Test.YtikkfapgmbamlaaGreatDoorZ08
import Derived.BigRegion
import Derived.Test.YtikkfapgmbamlaaGreatDoorZ05
section
/- plan: put, the first word and the last: a number of categories, a gate. -/
namespace Go.Proofs.YtikkfapgmbamlaaGreatDoor.Pl
open Go.RowKit Ut
set_option linter.unusedVariables false

theorem BoxP.keep {W : World} {B b : Nat} {p q : PC} {vg vr vp vn vs : Value} {o : Nat} {u : Value} (h : BoxP W B b p vg vr vp vn vs) (e1 : q.gs = p.gs) (e2 : q.rs = p.rs) (e3 : q.ps = p.ps) (e4 : q.ns = p.ns) (e5 : q.ss = p.ss)
    (hc : (W.setCell ⟨b, o, none⟩ u).heap[b]? = some (.cells #[.int .i64 q.cats, vg, vr, vp, vn, vs, .int .i64 q.gate, .int .i64 q.quota] 28 (0, 0))) : BoxP (W.setCell ⟨b, o, none⟩ u) B b q vg vr vp vn vs := by
  have hb := h.box
  refine ⟨hc, h.hB, ?_, ?_, ?_, ?_, ?_⟩
  · rw [e1]; exact ownT_set h.og hb (by decide)
  · rw [e2]; exact ownT_set h.or hb (by decide)
  · rw [e3]; exact ownT_set h.op hb (by decide)
  · rw [e4]; exact ownT_set h.on hb (by decide)
  · rw [e5]; exact ownT_set h.os hb (by decide)
set_option maxRecDepth 100000 in
theorem put_0 (v0 v1 v2 : Int) (p : PC) (b : Nat) (vg vr vp vn vs : Value) (B : Nat) (w : World) (hB : B ≤ w.heap.size) (h : BoxP w B b p vg vr vp vn vs) :
    Calls Tryz.prog 57 #[.agg #[.int .i64 0, .int .i64 v0, .int .i64 v1, .int .i64 v2], .pointer (some ⟨b, 0, none⟩)] w fun e w' => e = .returned (.tuple #[]) ∧ BoxP w' B b (p.put 0 [v0]) vg vr vp vn vs ∧ Below B w w' ∧ KeptS b w w' := by
  have hlt := (Array.getElem?_eq_some_iff.1 h.box).1
  obtain ⟨cb, fb⟩ := box_cell h.box 0 _ rfl
  go_enter Tryz.func57, Tryz.ntmps57
  go_wp2
  go_end0
  have hs : KeptS b w _ := KeptS.setCell (o := 0) (v := .int .i64 v0)
  have hb := BoxP.keep (q := p.put 0 [v0]) h rfl rfl rfl rfl rfl (box_set h.box 0 _)
  have h2 : Below (w.setCell ⟨b, 0, none⟩ (.int .i64 v0)).heap.size (w.setCell ⟨b, 0, none⟩ (.int .i64 v0)) (((w.setCell ⟨b, 0, none⟩ (.int .i64 v0)).alloc (.cells #[.int .i64 0, .int .i64 v0, .int .i64 v1, .int .i64 v2] 46)).alloc (.cells #[.int .i64 v0, .int .i64 v1, .int .i64 v2] 44)) := ((Below.refl _ _).alloc (Nat.le_refl _) _).alloc (by simp) _
  exact ⟨rfl, hb.below h2, ((Below.refl B w).setCell h.hB _).trans (h2.mono (by simpa using hB)), hs.trans (KeptS.of_below h2)⟩
set_option maxHeartbeats 1000000 in
set_option maxRecDepth 100000 in
theorem put_6 (v0 v1 v2 : Int) (p : PC) (b : Nat) (vg vr vp vn vs : Value) (B : Nat) (w : World) (hB : B ≤ w.heap.size) (h : BoxP w B b p vg vr vp vn vs) :
    Calls Tryz.prog 57 #[.agg #[.int .i64 6, .int .i64 v0, .int .i64 v1, .int .i64 v2], .pointer (some ⟨b, 0, none⟩)] w fun e w' => e = .returned (.tuple #[]) ∧ BoxP w' B b (p.put 6 [v0, v1]) vg vr vp vn vs ∧ Below B w w' ∧ KeptS b w w' := by
  go_enter Tryz.func57, Tryz.ntmps57
  go_wp2
  obtain ⟨W, hW⟩ : ∃ W, ((w.alloc (.cells #[.int .i64 6, .int .i64 v0, .int .i64 v1, .int .i64 v2] 46)).alloc (.cells #[.int .i64 v0, .int .i64 v1, .int .i64 v2] 44)) = W := ⟨_, rfl⟩
  have hbW : Below w.heap.size w W := hW ▸ ((Below.refl _ _).alloc (Nat.le_refl _) _).alloc (by simp) _
  have hk : W.heap[w.heap.size + 1]? = some (.cells [.int .i64 v0, .int .i64 v1, .int .i64 v2].toArray 44 (0, 0)) := hW ▸ heap_alloc2_new _ _ _
  have hP := h.below hbW
  rw [hW]
  clear hW h
  have HX := hP.box
  obtain ⟨c0, f0⟩ := box_cell hk 0 _ rfl
  obtain ⟨c1, f1⟩ := box_cell hk 1 _ rfl
  obtain ⟨cb, fb⟩ := box_cell HX 6 _ rfl
  obtain ⟨cc, fc⟩ := box_cell HX 7 _ rfl
  have HH := Lib.hid hP
  clear hP hk HX
  go_region
  go_wp2
  go_end0
  have h0 := HH.out
  have h1 := BoxP.keep (q := { p with gate := v0 }) h0 rfl rfl rfl rfl rfl (box_set h0.box 6 (.int .i64 v0))
  have h2 := BoxP.keep (q := p.put 6 [v0, v1]) h1 rfl rfl rfl rfl rfl (box_set h1.box 7 (.int .i64 v1))
  exact ⟨rfl, h2.below (Below.refl _ _).drew, ((((hbW.mono hB)).setCell h0.hB _).setCell h0.hB _).drew, (KeptS.of_below hbW).trans (KeptS.setCell.trans (KeptS.setCell.trans (KeptS.of_below (Below.refl _ _).drew)))⟩
/-- a configuration that grows, wherever its lists lie -/
def Box (w : World) (B b : Nat) (p : PC) : Prop := ∃ vg vr vp vn vs, BoxP w B b p vg vr vp vn vs
theorem Box.below {w w' : World} {B b : Nat} {p : PC} (h : Box w B b p) (hb : Below w.heap.size w w') : Box w' B b p := by
  obtain ⟨vg, vr, vp, vn, vs, h⟩ := h
  exact ⟨vg, vr, vp, vn, vs, h.below hb⟩
/-- how many records there are -/
def PC.size (p : PC) : Nat := p.gs.length + p.rs.length + p.ps.length + p.ns.length + p.ss.length
theorem PC.size_put (p : PC) (r : Nat) (v : List Int) : (p.put r v).size ≤ p.size + 1 := by
  unfold PC.put PC.size
  split <;> simp <;> omega
theorem put_any (r : Nat) (hr : r < 7) (v0 v1 v2 : Int) (p : PC) (b : Nat) (B : Nat) (w : World) (hB : B ≤ w.heap.size) (h : Box w B b p) (hn : p.size ≤ 1000000) :
    Calls Tryz.prog 57 #[.agg #[.int .i64 r, .int .i64 v0, .int .i64 v1, .int .i64 v2], .pointer (some ⟨b, 0, none⟩)] w fun e w' => e = .returned (.tuple #[]) ∧ Box w' B b (p.put r ([v0, v1, v2].take (kf r).length)) ∧ Below B w w' ∧ KeptS b w w' := by
  obtain ⟨vg, vr, vp, vn, vs, h⟩ := h
  unfold PC.size at hn
  match r, hr with
  | 0, _ => exact (put_0 v0 v1 v2 p b vg vr vp vn vs B w hB h).mono fun e w' ⟨h1, h2, h3⟩ => ⟨h1, ⟨_, _, _, _, _, h2⟩, h3⟩
  | 1, _ => exact (put_1 v0 v1 v2 p b vg vr vp vn vs B w hB h (by omega)).mono fun e w' ⟨h1, ⟨_, h2⟩, h3⟩ => ⟨h1, ⟨_, _, _, _, _, h2⟩, h3⟩
  | 2, _ => exact (put_2 v0 v1 v2 p b vg vr vp vn vs B w hB h (by omega)).mono fun e w' ⟨h1, ⟨_, h2⟩, h3⟩ => ⟨h1, ⟨_, _, _, _, _, h2⟩, h3⟩
  | 3, _ => exact (put_3 v0 v1 v2 p b vg vr vp vn vs B w hB h (by omega)).mono fun e w' ⟨h1, ⟨_, h2⟩, h3⟩ => ⟨h1, ⟨_, _, _, _, _, h2⟩, h3⟩
  | 4, _ => exact (put_4 v0 v1 v2 p b vg vr vp vn vs B w hB h (by omega)).mono fun e w' ⟨h1, ⟨_, h2⟩, h3⟩ => ⟨h1, ⟨_, _, _, _, _, h2⟩, h3⟩
  | 5, _ => exact (put_5 v0 v1 v2 p b vg vr vp vn vs B w hB h (by omega)).mono fun e w' ⟨h1, ⟨_, h2⟩, h3⟩ => ⟨h1, ⟨_, _, _, _, _, h2⟩, h3⟩
  | 6, _ => exact (put_6 v0 v1 v2 p b vg vr vp vn vs B w hB h).mono fun e w' ⟨h1, h2, h3⟩ => ⟨h1, ⟨_, _, _, _, _, h2⟩, h3⟩
  | r + 7, hr => omega
end Go.Proofs.YtikkfapgmbamlaaGreatDoor.Pl
end
section
/- plan: a word's rank, by the table of kinds. -/
namespace Go.Proofs.YtikkfapgmbamlaaGreatDoor.Pl
open Go.RowKit Ut
set_option linter.unusedVariables false

set_option maxRecDepth 100000 in
theorem idx_kind (k : Nat) (hk : k < 7) : ∀ w : World, (Instr.index 75 (.agg kcells.toArray) (.int .i64 k)).run Tryz.prog w = .ok (.agg #[.string (tb (kw k)), .string (tb (kf k)), .bool (manyL k)]) w := by
  match k, hk with
  | 0, _ => exact fun _ => by kernel_rfl
  | 1, _ => exact fun _ => by kernel_rfl
  | 2, _ => exact fun _ => by kernel_rfl
  | 3, _ => exact fun _ => by kernel_rfl
  | 4, _ => exact fun _ => by kernel_rfl
  | 5, _ => exact fun _ => by kernel_rfl
  | 6, _ => exact fun _ => by kernel_rfl
  | k + 7, h => omega
set_option maxHeartbeats 1000000 in
set_option maxRecDepth 100000 in
theorem rankOf_any (s : ByteArray) (B : Nat) (w : World) (hB : B ≤ w.heap.size) (hK : Kinds w) :
    Calls Tryz.prog 74 #[.string s] w fun e w' => e = .returned (.int .i64 (rankZ s.data.toList)) ∧ Below B w w' := by
  obtain ⟨tt, fr, hg⟩ := hK
  have hsz : (Tryz.prog.info? 75).map (·.size) = some kcells.toArray.size := by kernel_rfl
  have hidx := idx_kind
  generalize kcells.toArray = cs at hg hsz hidx
  go_enter Tryz.func74, Tryz.ntmps74
  go_wp2_with (refine wpList_load_row rfl 75 _ rfl 0 rfl tt _ fr _ hg Tryz.underlying75 rfl hsz ?_)
  clear hg hsz
  go_loopw [6] (fun i wr => ∃ k : Nat, k ≤ 7 ∧ i = .int .i64 k ∧ (∀ j, j < k → kw j ≠ s.data.toList) ∧ Below B w wr) (fun i _ => 7 - (intOf i).toNat)
  case atStart => exact ⟨0, by omega, rfl, fun j h => absurd h (by omega), Below.refl _ _⟩
  case round =>
    obtain ⟨k, hk, rfl, hno, hbel⟩ := hrel
    have hbs := Nat.le_trans hB hbel.size
    have HN := Lib.hid hno
    clear hno
    by_cases hlt : k < 7
    · have hbel2 : Below B w (wr.alloc (.cells #[.string (tb (kw k)), .string (tb (kf k)), .bool (manyL k)] 74)) := hbel.alloc hbs _
      have hix := hidx k hlt
      clear hidx
      by_cases he : kw k = s.data.toList
      · have ht : ((tb (kw k)).toList == s.toList) = true := by rw [word_eq]; simp [he]
        have HE : Hid (rankZ s.data.toList = k) := Lib.hid (by unfold rankZ; rw [rank_hit hlt he HN.out])
        clear he
        generalize tb (kw k) = t1 at ht hix hbel2
        generalize tb (kf k) = t2 at hix hbel2
        generalize manyL k = t3 at hix hbel2
        go_wp2
        go_ret
        exact ⟨HE.out.symm ▸ rfl, hbel2⟩
      · have ht : ((tb (kw k)).toList == s.toList) = false := by rw [word_eq]; simp [he]
        have HE := Lib.hid he
        clear he
        generalize tb (kw k) = t1 at ht hix hbel2
        generalize tb (kf k) = t2 at hix hbel2
        generalize manyL k = t3 at hix hbel2
        go_wp2
        go_roundw
        case rel =>
          refine ⟨k + 1, by omega, by go_num, ?_, hbel2⟩
          intro j hj
          by_cases e : j = k
          · rw [e]; exact HE.out
          · exact HN.out j (by omega)
        case measure => simp [intOf]; omega
    · obtain rfl : k = 7 := by omega
      have HE : Hid (rankZ s.data.toList = -1) := Lib.hid (by unfold rankZ; rw [rank_miss HN.out])
      go_wp2
      go_ret
      exact ⟨HE.out.symm ▸ rfl, hbel⟩
end Go.Proofs.YtikkfapgmbamlaaGreatDoor.Pl
end
