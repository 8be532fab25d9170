/- Under of label and of the document, and 'ints': what each returns, for every list; the walk of hermitagelaw01.LabelPlays. -/
import Derived.Test.YtiocojhkpgdjcaaLj
import Derived.Deep.QuietTactic
import Derived.BigQuiet
namespace Go.Proofs.Ytiocojhkpgdjcaa.La
open Go.RowKit Ut

theorem info_int : (Try.prog.info? 3).map (fun i => (i.zero, i.size, i.bytes)) = some (some (.int .i64 0), 1, 8) := by kernel_rfl

/-- the places of those of the first k that flow to top -/
def underL (top : Int) (zs : List Int) : Nat → List Int
  | 0 => []
  | k + 1 => if flowsZ (zs.getD k 0) top then underL top zs k ++ [(k : Int)] else underL top zs k
theorem underL_le (top : Int) (zs : List Int) : ∀ k, (underL top zs k).length ≤ k
  | 0 => Nat.le_refl _
  | k + 1 => by
    unfold underL
    have := underL_le top zs k
    split <;> simp <;> omega
theorem underL_yes (top : Int) (zs : List Int) (k : Nat) (s : Int) (e : zs.getD k 0 = s) (h : flowsZ s top = true) : underL top zs (k + 1) = underL top zs k ++ [(k : Int)] := by
  rw [underL, e, h]; rfl
theorem underL_no (top : Int) (zs : List Int) (k : Nat) (s : Int) (e : zs.getD k 0 = s) (h : flowsZ s top = false) : underL top zs (k + 1) = underL top zs k := by
  rw [underL, e, h]; rfl

theorem Row.below {B : Nat} {w0 w : World} {a : Option Addr} {len : Nat} {zs : List Int} (h : Row w0 a len zs) (hB : w0.heap.size = B) (hb : Below B w0 w) : Row w a len zs := by
  obtain ⟨h1, h2, h3⟩ := h
  refine ⟨h1, h2, fun i hi => ?_⟩
  obtain ⟨x, hx, hlt, hc⟩ := h3 i hi
  refine ⟨x, hx, Nat.lt_of_lt_of_le hlt hb.size, ?_⟩
  have e : (x.add i).block = x.block := by unfold Addr.add; split <;> rfl
  rw [hb.cell (p := x.add i) (by rw [e]; omega)]
  exact hc

theorem flows_raw' (a b : Int) (w : World) :
    Calls Try.prog 10 #[.int .i64 a, .int .i64 b] w fun e w' => e = .returned (.bool (flowsZ a b)) ∧ Below w.heap.size w w' := flows_any a b _ w (Nat.le_refl _)

set_option maxRecDepth 100000 in
theorem under_any (top : Int) (a : Option Addr) (len cap : Nat) (zs : List Int) (B : Nat) (w : World) (hB : w.heap.size = B) (hrow : Row w a len zs) (hr : len * 8 ≤ 140737488351232) :
    Calls Try.prog 21 #[.int .i64 top, .slice a len cap] w fun e w' => ∃ v, e = .returned v ∧ w'.ownsRow B 3 1 v (underL top zs len).length ((underL top zs len).map (Value.int .i64)) ∧ Below B w w' := by
  obtain ⟨i0, hi, hz0, hz1, hz2⟩ := info_parts info_int
  have HW := Lib.hid hrow
  have HB := Lib.hid hB
  clear hrow hB
  go_enter Try.func21, Try.ntmps21
  go_wp2
  go_loopw [5, 10] (fun v i wr => ∃ k : Nat, k ≤ len ∧ i = .int .i64 k ∧ wr.ownsRow B 3 1 v (underL top zs k).length ((underL top zs k).map (Value.int .i64)) ∧ Below B w wr) (fun _ i _ => len - (intOf i).toNat)
  case atStart => exact ⟨0, Nat.zero_le _, rfl, World.ownsRow_nil _ _ _ _, Below.refl _ _⟩
  case round =>
    obtain ⟨k, hk, rfl, hown, hbel⟩ := hrel
    have hbs : B ≤ wr.heap.size := by have := hbel.size; rw [HB.out] at this; exact this
    have hll := underL_le top zs k
    by_cases hlt : k < len
    · obtain ⟨x, rfl, _, hx⟩ := (HW.out.below HB.out hbel).2.2 k hlt
      obtain ⟨s, hs⟩ : ∃ s, zs.getD k 0 = s := ⟨_, rfl⟩
      rw [hs] at hx
      have HS := Lib.hid hs
      clear hs
      cases hy : flowsZ s top
      · have HN := Lib.hid (underL_no top zs k s HS.out hy)
        go_wp2_with (go_at_call 10; refine (flows_raw' _ _ _).mono ?_; rintro e w1 ⟨rfl, hb1⟩)
        go_roundw
        case rel => exact ⟨k + 1, by omega, by go_num, by rw [HN.out]; exact ownsRow_below hown hb1, hbel.trans (hb1.mono hbs)⟩
        case measure => simp [intOf]; omega
      · have HN := Lib.hid (underL_yes top zs k s HS.out hy)
        go_wp2_with fail
        refine (flows_raw' _ _ _).mono ?_
        rintro e w1 ⟨rfl, hb1⟩
        have ho1 := ownsRow_below hown hb1
        have hbel1 := hbel.trans (hb1.mono hbs)
        have hbs1 := Nat.le_trans hbs hb1.size
        clear hown hbel hb1
        go_wp2_with (at_builtin; refine wpList_append_own _ rfl _ _ 22 rfl B 3 i0 (.int .i64 0) 1 8 Try.underlying22 hi hz0 hz1 hz2 rfl (by decide) _ _ _ rfl (ho1.alloc _) ⟨w1.heap.size, 0, none⟩ 1 1 [.int .i64 k] rfl rfl ?c1 ?c2 ?c3 ?c4 ?c5 ?_)
        case c1 => exact cell_one_new _ _ _
        case c2 => intro u hu; simp at hu; subst hu; rfl
        case c3 => unfold maxLen; omega
        case c4 => omega
        case c5 => simp; omega
        · intro v' w2 hown' hgrow _
          have hb2 : Below B w w2 := (hbel1.alloc hbs1 _).grown hgrow (by simp; omega) (fun q hq => (ho1.lt q hq).1)
          have ho2 : w2.ownsRow B 3 1 v' (underL top zs (k + 1)).length ((underL top zs (k + 1)).map (Value.int .i64)) := by
            rw [HN.out]
            simpa using hown'
          clear hown' hgrow ho1 hbel1
          go_wp2
          go_roundw
          case rel => exact ⟨k + 1, by omega, by go_num, ho2, hb2⟩
          case measure => simp [intOf]; omega
    · obtain rfl : k = len := by omega
      go_wp2
      go_ret
      exact ⟨_, rfl, hown, hbel⟩

set_option maxRecDepth 100000 in
theorem refUnder_any (top : Int) (a : Option Addr) (len cap : Nat) (zs : List Int) (B : Nat) (w : World) (hB : w.heap.size = B) (hrow : Row w a len zs) (hr : len * 8 ≤ 140737488351232) :
    Calls Try.prog 22 #[.int .i64 top, .slice a len cap] w fun e w' => ∃ v, e = .returned v ∧ w'.ownsRow B 3 1 v (underL top zs len).length ((underL top zs len).map (Value.int .i64)) ∧ Below B w w' := by
  obtain ⟨i0, hi, hz0, hz1, hz2⟩ := info_parts info_int
  have HW := Lib.hid hrow
  have HB := Lib.hid hB
  clear hrow hB
  go_enter Try.func22, Try.ntmps22
  go_wp2
  go_loopw [5, 6] (fun v i wr => ∃ k : Nat, k ≤ len ∧ i = .int .i64 k ∧ wr.ownsRow B 3 1 v (underL top zs k).length ((underL top zs k).map (Value.int .i64)) ∧ Below B w wr) (fun _ i _ => len - (intOf i).toNat)
  case atStart => exact ⟨0, Nat.zero_le _, rfl, World.ownsRow_nil _ _ _ _, Below.refl _ _⟩
  case round =>
    obtain ⟨k, hk, rfl, hown, hbel⟩ := hrel
    have hbs : B ≤ wr.heap.size := by have := hbel.size; rw [HB.out] at this; exact this
    have hll := underL_le top zs k
    by_cases hlt : k < len
    · obtain ⟨x, rfl, _, hx⟩ := (HW.out.below HB.out hbel).2.2 k hlt
      obtain ⟨s, hs⟩ : ∃ s, zs.getD k 0 = s := ⟨_, rfl⟩
      rw [hs] at hx
      have HS := Lib.hid hs
      clear hs
      cases hy : flowsZ s top
      · have HN := Lib.hid (underL_no top zs k s HS.out hy)
        go_wp2_with (go_at_call 11; refine (refFlows_any _ _ _).mono ?_; rintro e w1 ⟨rfl, rfl⟩)
        go_roundw
        case rel => exact ⟨k + 1, by omega, by go_num, by rw [HN.out]; exact hown, hbel⟩
        case measure => simp [intOf]; omega
      · have HN := Lib.hid (underL_yes top zs k s HS.out hy)
        go_wp2_with (first | (go_at_call 11; refine (refFlows_any _ _ _).mono ?_; rintro e w1 ⟨rfl, rfl⟩) | (at_builtin; refine wpList_append_own _ rfl _ _ 22 rfl B 3 i0 (.int .i64 0) 1 8 Try.underlying22 hi hz0 hz1 hz2 rfl (by decide) _ _ _ rfl (hown.alloc _) ⟨wr.heap.size, 0, none⟩ 1 1 [.int .i64 k] rfl rfl ?c1 ?c2 ?c3 ?c4 ?c5 ?_))
        case c1 => exact cell_one_new _ _ _
        case c2 => intro u hu; simp at hu; subst hu; rfl
        case c3 => unfold maxLen; omega
        case c4 => omega
        case c5 => simp; omega
        · intro v' w2 hown' hgrow _
          have hb2 : Below B w w2 := (hbel.alloc hbs _).grown hgrow (by simp; omega) (fun q hq => (hown.lt q hq).1)
          have ho2 : w2.ownsRow B 3 1 v' (underL top zs (k + 1)).length ((underL top zs (k + 1)).map (Value.int .i64)) := by
            rw [HN.out]
            simpa using hown'
          clear hown' hgrow hown hbel
          go_wp2
          go_roundw
          case rel => exact ⟨k + 1, by omega, by go_num, ho2, hb2⟩
          case measure => simp [intOf]; omega
    · obtain rfl : k = len := by omega
      go_wp2
      go_ret
      exact ⟨_, rfl, hown, hbel⟩
end Go.Proofs.Ytiocojhkpgdjcaa.La
