/- hermitagelaw19: an act of a slice of acts; the walk of ShadowProtects. -/
import Derived.Test.YtcdiigdbjncpeaaJi
import Derived.Test.YtcdiigdbjncpeaaJj
namespace Go.Proofs.Ytcdiigdbjncpeaa.Sw
open Go.RowKit Ut
set_option maxRecDepth 100000
set_option linter.unusedVariables false
set_option maxHeartbeats 4000000

theorem add_off19 (y : Addr) (m j : Nat) (hj : 0 < j) : y.add (m + j) = ⟨(y.add m).block, (y.add m).off + j, none⟩ := add_past y m j hj
/-- an act that came in, at its place -/
theorem act_on {w : World} {a : Option Addr} {n : Nat} {Z : Nat → Ak} (h : AkRow w a n Z) {k : Nat} (hk : k < n) :
    ∃ y, a = some y ∧ AkW (Z k) ∧ ∀ W, Below w.heap.size w W → y.block < W.heap.size ∧ (y.add (k * 8)).block < W.heap.size ∧ W.cell? (y.add (k * 8)) = some (.int .i64 (Z k).kd) ∧ W.cell? ⟨(y.add (k * 8)).block, (y.add (k * 8)).off + 1, none⟩ = some (.int .i64 (Z k).kr) ∧ W.cell? ⟨(y.add (k * 8)).block, (y.add (k * 8)).off + 2, none⟩ = some (.int .i64 (Z k).kp) ∧ W.cell? ⟨(y.add (k * 8)).block, (y.add (k * 8)).off + 3, none⟩ = some (.int .i64 (Z k).ep) ∧ W.cell? ⟨(y.add (k * 8)).block, (y.add (k * 8)).off + 4, none⟩ = some (.int .i64 (Z k).ef) ∧ W.cell? ⟨(y.add (k * 8)).block, (y.add (k * 8)).off + 5, none⟩ = some (.int .i64 (Z k).er) ∧ W.cell? ⟨(y.add (k * 8)).block, (y.add (k * 8)).off + 6, none⟩ = some (.int .i64 (Z k).rt) ∧ W.cell? ⟨(y.add (k * 8)).block, (y.add (k * 8)).off + 7, none⟩ = some (.int .i64 (Z k).lf) := by
  obtain ⟨y, e, hy, hw, c0, c1, c2, c3, c4, c5, c6, c7⟩ := h k hk
  rw [add_off19 y (k * 8) 1 (by decide)] at c1
  rw [add_off19 y (k * 8) 2 (by decide)] at c2
  rw [add_off19 y (k * 8) 3 (by decide)] at c3
  rw [add_off19 y (k * 8) 4 (by decide)] at c4
  rw [add_off19 y (k * 8) 5 (by decide)] at c5
  rw [add_off19 y (k * 8) 6 (by decide)] at c6
  rw [add_off19 y (k * 8) 7 (by decide)] at c7
  exact ⟨y, e, hw, fun W hb => ⟨Nat.lt_of_lt_of_le hy hb.size, by rw [block_of_add]; exact Nat.lt_of_lt_of_le hy hb.size, (hb.cell (by rw [block_of_add]; exact hy)).trans c0, (hb.cell (by show (y.add (k * 8)).block < _; rw [block_of_add]; exact hy)).trans c1, (hb.cell (by show (y.add (k * 8)).block < _; rw [block_of_add]; exact hy)).trans c2, (hb.cell (by show (y.add (k * 8)).block < _; rw [block_of_add]; exact hy)).trans c3, (hb.cell (by show (y.add (k * 8)).block < _; rw [block_of_add]; exact hy)).trans c4, (hb.cell (by show (y.add (k * 8)).block < _; rw [block_of_add]; exact hy)).trans c5, (hb.cell (by show (y.add (k * 8)).block < _; rw [block_of_add]; exact hy)).trans c6, (hb.cell (by show (y.add (k * 8)).block < _; rw [block_of_add]; exact hy)).trans c7⟩⟩
theorem kept_at {W : World} {a : Option Addr} {l : List Ln} (h : IRow 5 W a (l.map Ln.kept)) {j : Nat} (hj : j < l.length) : ∃ x y, l[j]? = some x ∧ x ∈ l ∧ a = some y ∧ y.block < W.heap.size ∧ (y.add (j * 5)).block < W.heap.size ∧ W.cell? (y.add (j * 5)) = some (.int .i64 x.kr) ∧ W.cell? ⟨(y.add (j * 5)).block, (y.add (j * 5)).off + 1, none⟩ = some (.int .i64 x.kp) ∧ W.cell? ⟨(y.add (j * 5)).block, (y.add (j * 5)).off + 2, none⟩ = some (.int .i64 x.ep) ∧ W.cell? ⟨(y.add (j * 5)).block, (y.add (j * 5)).off + 3, none⟩ = some (.int .i64 x.ef) ∧ W.cell? ⟨(y.add (j * 5)).block, (y.add (j * 5)).off + 4, none⟩ = some (.int .i64 x.er) := by
  have hx : l[j]? = some l[j] := List.getElem?_eq_getElem hj
  obtain ⟨y, e, h1, h2, h3, h4⟩ := h.at_ (i := j) (x := l[j].kept) (by rw [List.getElem?_map, hx]; rfl)
  exact ⟨l[j], y, hx, List.getElem_mem hj, e, h1, h2, h3 _ rfl, h4 1 _ (by decide) rfl, h4 2 _ (by decide) rfl, h4 3 _ (by decide) rfl, h4 4 _ (by decide) rfl⟩

section
variable {PS : World → Nat → List Nat → List Ln → Prop} (C : ProgC PS)
include C
theorem protects_any (a : Option Addr) (len cap : Nat) (Z : Nat → Ak) (w : World) (hlen : len ≤ 9223372036854775807) (hz : AkRow w a len Z) :
    Calls Try.prog 4 #[.slice a len cap] w fun e w' => e = .returned (.bool true) ∧ Below w.heap.size w w' := by
  have HZ := Lib.hid hz
  have HN := Lib.hid (qNew C w)
  have HC := Lib.hid C
  have hlen0 : (len : Int) ≤ 9223372036854775807 := by omega
  clear hz C
  go_enter Try.func4, Try.ntmps4
  go_wp2_with fail
  refine HN.out.mono ?_
  rintro e w1 ⟨g, rfl, HQ1⟩
  clear HN
  go_wp2
  go_loopw [4] (fun j wr => ∃ (k : Nat) (l : List Ln), k ≤ 100 ∧ j = .int .i64 k ∧ Hid (Inv19 l) ∧ Hid (RQ PS w wr g l [])) (fun j _ => 100 - (intOf j).toNat)
  case atStart => exact ⟨0, [], Nat.zero_le _, rfl, Lib.hid Inv19.nil, HQ1⟩
  case round =>
    clear HQ1
    obtain ⟨k, l, hk, rfl, HI, HQ⟩ := hrel
    by_cases hin : k < len ∧ k < 100
    · obtain ⟨h0, h1⟩ := hin
      obtain ⟨y, rfl, hw, hc⟩ := act_on HZ.out h0
      obtain ⟨y1, y2, c0, c1, c2, c3, c4, c5, c6, c7⟩ := hc wr HQ.out.b
      have HW := Lib.hid hw
      have H1 := Lib.hid h1
      generalize Z k = x at HW c0 c1 c2 c3 c4 c5 c6 c7
      have f0 : (k : Int) < (len : Int) := by omega
      have f1 : (k : Int) < 100 := by omega
      have f2 : (0 : Int) ≤ (k : Int) := by omega
      clear hc hk h0 h1 hw
      go_wp2_with fail
      refine (qDoes HC.out x HW.out HQ.out).mono ?_
      rintro e w2 ⟨⟨u0, u1, u2, rfl⟩, HQ2⟩
      have HI2 := Lib.hid (HI.out.act x)
      clear HQ HI HW c0 c1 c2 c3 c4 c5 c6 c7 y1 y2
      generalize actS l x = l2 at HQ2 HI2
      obtain ⟨n, hn⟩ : ∃ n, l2.length = n := ⟨_, rfl⟩
      have hn2 : ¬ (32 : Int) < (n : Int) := by have := HI2.out.n; omega
      have hn3 : (n : Int) ≤ 32 := by omega
      have HLN := Lib.hid hn
      go_wp2_with fail
      refine (qList HC.out n hn HQ2.out).mono ?_
      rintro e w3 ⟨⟨b, c, rfl, HT⟩, hb3⟩
      have HQ3 := Lib.hid HT.out.1
      clear HQ2 HT hb3 hn
      go_wp2
      go_loopw [6] (fun j wx => ∃ i : Nat, i ≤ n ∧ j = .int .i64 i ∧ Hid (RQ PS w wx g l2 [(b, l2.map Ln.kept)])) (fun j _ => n - (intOf j).toNat)
      case atStart => exact ⟨0, Nat.zero_le _, rfl, HQ3⟩
      case round =>
        clear HQ3
        obtain ⟨i, hi, rfl, HQ4⟩ := hrel
        by_cases hlt : i < n
        · obtain ⟨z, yy, hz, hzm, rfl, hy0, hy1, d0, d1, d2, d3, d4⟩ := kept_at (HQ4.out.row (List.mem_singleton.2 rfl)) (j := i) (by rw [HLN.out]; exact hlt)
          obtain ⟨t, ht⟩ : ∃ t, tabL l2 z.ep = t := ⟨_, rfl⟩
          have hpr := HI2.out.p z hzm
          rw [ht] at hpr
          have HTT := Lib.hid ht
          have H3 := Lib.hid hlt
          have g0 : (i : Int) < (n : Int) := by omega
          have g1 : (0 : Int) ≤ (i : Int) := by omega
          obtain ⟨zkr, zkp, zep, zef, zer, zrt, zlf⟩ := z
          dsimp only at d0 d1 d2 d3 d4 hpr HTT
          clear hz hzm ht hlt hi
          go_wp2_with fail
          refine (qTable HC.out zep t HTT.out HQ4.out).mono ?_
          rintro e w5 ⟨rfl, hb5⟩
          have HQ5 := Lib.hid (RQ.more HC.out HQ4.out hb5)
          have dl : (yy.add (i * 5)).block < w5.heap.size := Nat.lt_of_lt_of_le hy1 hb5.size
          have dl0 : yy.block < w5.heap.size := Nat.lt_of_lt_of_le hy0 hb5.size
          have m4 := (hb5.cell (p := ⟨(yy.add (i * 5)).block, (yy.add (i * 5)).off + 4, none⟩) hy1).trans d4
          clear hb5 HQ4 hy0 hy1 d0 d1 d2 d3 d4 HTT
          cases t with
          | true =>
            have hp0 := hpr rfl
            clear hpr
            go_wp2
            go_roundw
            case rel => exact ⟨i + 1, H3.out, by go_num, HQ5⟩
            case measure => have := H3.out; simp [intOf]; omega
          | false =>
            clear hpr
            go_wp2
            go_roundw
            case rel => exact ⟨i + 1, H3.out, by go_num, HQ5⟩
            case measure => have := H3.out; simp [intOf]; omega
        · obtain rfl : i = n := by omega
          have g0 : ¬ (i : Int) < (i : Int) := by omega
          have HQ6 := Lib.hid (HQ4.out.less (R' := []) (by simp))
          clear HQ4
          go_wp2
          go_roundw
          case rel => exact ⟨k + 1, l2, H1.out, by go_num, HI2, HQ6⟩
          case measure => have := H1.out; simp [intOf]; omega
    · have hout : (¬ (k : Int) < (len : Int)) ∨ ((k : Int) < (len : Int) ∧ ¬ (k : Int) < 100) := by omega
      rcases hout with f1 | ⟨f1, f2⟩
      all_goals
        clear hin hk HZ HI
        go_wp2_with fail
        refine (awake19 HC.out _).mono ?_
        rintro e w6 ⟨rfl, hb6⟩
        have HB6 := Lib.hid (HQ.out.b.trans (hb6.mono HQ.out.b.size))
        clear hb6 HQ
        go_wp2
        go_ret
        exact ⟨rfl, HB6.out⟩
end
end Go.Proofs.Ytcdiigdbjncpeaa.Sw
