/- The walk of ShadowDrops. -/
import Derived.Test.YtcdiigdbjncpeaaJk
namespace Go.Proofs.Ytcdiigdbjncpeaa.Sw
open Go.RowKit Ut
set_option maxRecDepth 100000
set_option linter.unusedVariables false
set_option maxHeartbeats 4000000

theorem left_no {l : List Ln} {p : Int} {too : Bool} {x : Ln} (h : x ∈ leftS l p too) : x ∈ l ∧ goF p too x = false := by
  have := List.mem_filter.1 h
  exact ⟨this.1, by simpa using this.2⟩
theorem tab_left (l : List Ln) (p : Int) (too : Bool) : tabL (leftS l p too) p = false := by
  cases h : tabL (leftS l p too) p with
  | false => rfl
  | true =>
    rw [tab_iff] at h
    obtain ⟨x, hx, hp⟩ := h
    have h2 := (left_no hx).2
    unfold goF Ln.by_ at h2
    rcases hp with hp | hp <;> simp [hp] at h2
theorem page_left (l : List Ln) (p : Int) {x : Ln} (h : x ∈ leftS l p true) : (x.ep == p) = false := by
  have h2 := (left_no h).2
  unfold goF at h2
  cases hh : x.ep == p with
  | false => rfl
  | true => rw [hh] at h2; simp at h2
theorem left_again (l : List Ln) (p : Int) : leftS (leftS l p false) p false = leftS l p false ∧ goneS (leftS l p false) p false = [] := by
  constructor
  · unfold leftS
    rw [List.filter_filter]
    congr 1
    funext x
    simp
  · unfold goneS
    rw [List.filter_eq_nil_iff]
    intro x hx
    rw [(left_no hx).2]
    decide
theorem left_gone_len (l : List Ln) (p : Int) : (leftS l p false).length + (goneS l p false).length = l.length := by
  unfold leftS goneS
  induction l with
  | nil => rfl
  | cons x l ih =>
    rw [List.filter_cons, List.filter_cons]
    cases goF p false x <;> simp <;> omega
theorem kept_cases (z x : Ln) : (z.kr = x.kr ∧ z.kp = x.kp ∧ z.ep = x.ep ∧ z.ef = x.ef ∧ z.er = x.er) ∨ (z.kr == x.kr) = false ∨ (z.kr = x.kr ∧ (z.kp == x.kp) = false) ∨ (z.kr = x.kr ∧ z.kp = x.kp ∧ (z.ep == x.ep) = false) ∨ (z.kr = x.kr ∧ z.kp = x.kp ∧ z.ep = x.ep ∧ (z.ef == x.ef) = false) ∨ (z.kr = x.kr ∧ z.kp = x.kp ∧ z.ep = x.ep ∧ z.ef = x.ef ∧ (z.er == x.er) = false) := by
  simp only [beq_eq_false_iff_ne, ne_eq]
  by_cases h1 : z.kr = x.kr
  · by_cases h2 : z.kp = x.kp
    · by_cases h3 : z.ep = x.ep
      · by_cases h4 : z.ef = x.ef
        · by_cases h5 : z.er = x.er
          · exact .inl ⟨h1, h2, h3, h4, h5⟩
          · exact .inr (.inr (.inr (.inr (.inr ⟨h1, h2, h3, h4, h5⟩))))
        · exact .inr (.inr (.inr (.inr (.inl ⟨h1, h2, h3, h4⟩))))
      · exact .inr (.inr (.inr (.inl ⟨h1, h2, h3⟩)))
    · exact .inr (.inr (.inl ⟨h1, h2⟩))
  · exact .inr (.inl h1)
/-- what the search has seen: if it was there, it was found -/
def Seen (l : List Ln) (x : Ln) (j : Nat) (b : Bool) : Prop := ∀ (q : Nat) (z : Ln), q < j → l[q]? = some z → (z.kr = x.kr ∧ z.kp = x.kp ∧ z.ep = x.ep ∧ z.ef = x.ef ∧ z.er = x.er) → b = true
theorem Seen.yes (l : List Ln) (x : Ln) (j : Nat) : Seen l x j true := fun _ _ _ _ _ => rfl
theorem Seen.no {l : List Ln} {x z : Ln} {j : Nat} {b : Bool} (h : Seen l x j b) (hz : l[j]? = some z) (hne : ¬ (z.kr = x.kr ∧ z.kp = x.kp ∧ z.ep = x.ep ∧ z.ef = x.ef ∧ z.er = x.er)) : Seen l x (j + 1) b := fun q y hq hy he => by
  by_cases h2 : q = j
  · subst h2
    rw [hz] at hy
    injection hy with hy
    subst hy
    exact absurd he hne
  · exact h q y (by omega) hy he
theorem Seen.end_ {l : List Ln} {x : Ln} {b : Bool} (h : Seen l x l.length b) (hx : x ∈ l) : b = true := by
  obtain ⟨q, hq⟩ := List.mem_iff_getElem?.1 hx
  exact h q x (List.getElem?_eq_some_iff.1 hq).1 hq ⟨rfl, rfl, rfl, rfl, rfl⟩

section
variable {PS : World → Nat → List Nat → List Ln → Prop} (C : ProgC PS)
include C
theorem drops_any (x : Nat) (hx : x < 256) (a : Option Addr) (len cap : Nat) (Z : Nat → Ak) (w : World) (hlen : len ≤ 9223372036854775807) (hz : AkRow w a len Z) :
    Calls Try.prog 5 #[.slice a len cap, .int .u8 (x : Int)] w fun e w' => e = .returned (.bool true) ∧ Below w.heap.size w w' := by
  obtain ⟨p, hp⟩ : ∃ p : Nat, x % 8 = p := ⟨_, rfl⟩
  have hp8 : (p : Int) < 8 := by omega
  have hp0 : (0 : Int) ≤ (p : Int) := by omega
  have hx0 : (0 : Int) ≤ (x : Int) := by omega
  have hx1 : (x : Int) < 256 := by omega
  have hxp : (x : Int) % 8 = (p : Int) := by omega
  have HZ := Lib.hid hz
  have HN := Lib.hid (qNew C w)
  have HC := Lib.hid C
  have hlen0 : (len : Int) ≤ 9223372036854775807 := by omega
  clear hz C hp hx
  go_enter Try.func5, Try.ntmps5
  go_wp2_with fail
  refine HN.out.mono ?_
  rintro e w1 ⟨g, rfl, HQ1⟩
  clear HN
  go_wp2
  go_loopw [6] (fun j wr => ∃ (k : Nat) (l : List Ln), k ≤ 60 ∧ j = .int .i64 k ∧ Hid (Inv19 l) ∧ Hid (RQ PS w wr g l [])) (fun j _ => 60 - (intOf j).toNat)
  case atStart => exact ⟨0, [], Nat.zero_le _, rfl, Lib.hid Inv19.nil, HQ1⟩
  case round =>
    clear HQ1
    obtain ⟨k, l, hk, rfl, HI, HQ⟩ := hrel
    by_cases hin : k < len ∧ k < 60
    · obtain ⟨h0, h1⟩ := hin
      obtain ⟨y, rfl, hw, hc⟩ := act_on HZ.out h0
      obtain ⟨y1, y2, c0, c1, c2, c3, c4, c5, c6, c7⟩ := hc wr HQ.out.b
      have HW := Lib.hid hw
      have H1 := Lib.hid h1
      generalize Z k = x at HW c0 c1 c2 c3 c4 c5 c6 c7
      have f0 : (k : Int) < (len : Int) := by omega
      have f1 : (k : Int) < 60 := by omega
      have f2 : (0 : Int) ≤ (k : Int) := by omega
      clear hc hk h0 h1 hw
      go_wp2_with fail
      refine (qDoes HC.out x HW.out HQ.out).mono ?_
      rintro e w2 ⟨⟨u0, u1, u2, rfl⟩, HQ2⟩
      have HI2 := Lib.hid (HI.out.act x)
      clear HQ HI HW c0 c1 c2 c3 c4 c5 c6 c7 y1 y2
      go_wp2
      go_roundw
      case rel => exact ⟨k + 1, _, H1.out, by go_num, HI2, HQ2⟩
      case measure => have := H1.out; simp [intOf]; omega
    · have hout : (¬ (k : Int) < (len : Int)) ∨ ((k : Int) < (len : Int) ∧ ¬ (k : Int) < 60) := by omega
      clear hin HZ
      obtain ⟨n0, hn0⟩ : ∃ n0, l.length = n0 := ⟨_, rfl⟩
      obtain ⟨m0, hm0⟩ : ∃ m0, (goneS l p false).length = m0 := ⟨_, rfl⟩
      obtain ⟨n1, hn1⟩ : ∃ n1, (leftS l p false).length = n1 := ⟨_, rfl⟩
      have hsum : (n1 : Int) + (m0 : Int) = (n0 : Int) := by have := left_gone_len l p; omega
      have hb0 : (n0 : Int) ≤ 32 := by have := HI.out.n; omega
      have hb1 : (0 : Int) ≤ (m0 : Int) := by omega
      have hb2 : (0 : Int) ≤ (n1 : Int) := by omega
      have HN0 := Lib.hid hn0
      have HM0 := Lib.hid hm0
      have HN1 := Lib.hid hn1
      clear hn0 hm0 hn1 hk HI
      rcases hout with f1 | ⟨f1, f2⟩
      all_goals
        clear hlen0
        go_wp2_with fail
        refine (qList HC.out n0 HN0.out HQ.out).mono ?_
        rintro e w2 ⟨⟨b, c, rfl, HT⟩, hb3⟩
        have HQ2 := Lib.hid HT.out.1
        clear HT hb3 HQ
        go_wp2_with fail
        refine (qWrote HC.out p m0 HM0.out HQ2.out).mono ?_
        rintro e w3 ⟨⟨kb, kc, rfl⟩, HQ3⟩
        clear HQ2 HM0
        obtain ⟨l1, hl1⟩ : ∃ l1, leftS l p false = l1 := ⟨_, rfl⟩
        have HL1 := Lib.hid hl1
        have HAG : Hid (leftS l1 p false = l1 ∧ (goneS l1 p false).length = 0 ∧ tabL l1 p = false) := Lib.hid (by rw [← hl1]; exact ⟨(left_again l p).1, by rw [(left_again l p).2]; rfl, tab_left _ _ _⟩)
        have HSB : Hid (∀ x ∈ l1, x ∈ l) := Lib.hid (fun x hx => by rw [← hl1] at hx; exact (left_no hx).1)
        rw [hl1] at HQ3 HN1
        clear hl1 HL1
        go_wp2_with fail
        refine (qList HC.out n1 HN1.out HQ3.out).mono ?_
        rintro e w4 ⟨⟨b1, c1, rfl, HT⟩, hb4⟩
        have HQ4 := Lib.hid HT.out.1
        clear HT hb4 HQ3
        go_wp2_with fail
        refine (qTable HC.out p false HAG.out.2.2 HQ4.out).mono ?_
        rintro e w5 ⟨rfl, hb5⟩
        have HQ5 := Lib.hid (RQ.more HC.out HQ4.out hb5)
        clear HQ4 hb5
        go_wp2_with fail
        refine (qWrote HC.out p 0 HAG.out.2.1 HQ5.out).mono ?_
        rintro e w6 ⟨⟨kb2, kc2, rfl⟩, HQ6⟩
        rw [HAG.out.1] at HQ6
        clear HQ5 HAG
        go_wp2
        go_loopw [11] (fun j wx => ∃ i : Nat, i ≤ n1 ∧ j = .int .i64 i ∧ Hid (RQ PS w wx g l1 [(b1, l1.map Ln.kept), (b, l.map Ln.kept)])) (fun j _ => n1 - (intOf j).toNat)
        case atStart => exact ⟨0, Nat.zero_le _, rfl, HQ6⟩
        case round =>
          clear HQ6
          obtain ⟨i, hi, rfl, HQ7⟩ := hrel
          by_cases hlt : i < n1
          · have H3 := Lib.hid hlt
            have hil : i < l1.length := by rw [HN1.out]; exact hlt
            obtain ⟨x1, hx1⟩ : ∃ x1, l1[i]? = some x1 := ⟨_, List.getElem?_eq_getElem hil⟩
            have HX1 := Lib.hid hx1
            have g0 : (i : Int) < (n1 : Int) := by omega
            have g1 : (0 : Int) ≤ (i : Int) := by omega
            clear hx1 hil hlt hi
            go_wp2
            go_loopw [13, 12] (fun j f wx => ∃ (q : Nat) (fb : Bool), q ≤ n0 ∧ j = .int .i64 q ∧ f = .bool fb ∧ Hid (Seen l x1 q fb) ∧ Hid (RQ PS w wx g l1 [(b1, l1.map Ln.kept), (b, l.map Ln.kept)])) (fun j _ _ => n0 - (intOf j).toNat)
            case atStart => exact ⟨0, false, Nat.zero_le _, rfl, rfl, Lib.hid (fun q z hq => absurd hq (by omega)), HQ7⟩
            case round =>
              clear HQ7
              obtain ⟨q, fb, hq, rfl, rfl, HSN, HQ8⟩ := hrel
              by_cases hqt : q < n0
              · have H4 := Lib.hid hqt
                have q0 : (q : Int) < (n0 : Int) := by omega
                have q1 : (0 : Int) ≤ (q : Int) := by omega
                cases fb with
                | true =>
                  clear hqt hq
                  go_wp2
                  go_quiet (fail)
                  go_wp2
                  go_roundw
                  case rel => exact ⟨q + 1, true, H4.out, by go_num, rfl, Lib.hid (Seen.yes _ _ _), Lib.hid (RQ.more HC.out HQ8.out (drewN_below (Below.refl _ _) _))⟩
                  case measure => have := H4.out; simp [intOf]; omega
                | false =>
                  obtain ⟨z, yy, hz, _, rfl, hy0, hy1, d0, d1, d2, d3, d4⟩ := kept_at (HQ8.out.row (a := b) (List.mem_cons_of_mem _ (List.mem_singleton.2 rfl))) (j := q) (by rw [HN0.out]; exact hqt)
                  obtain ⟨x2, yx, hx2, _, rfl, hv0, hv1, v0, v1, v2, v3, v4⟩ := kept_at (HQ8.out.row (a := b1) (List.mem_cons_self ..)) (j := i) (by rw [HN1.out]; exact H3.out)
                  obtain rfl : x1 = x2 := by have := HX1.out; rw [hx2] at this; injection this with this; exact this.symm
                  have HZZ := Lib.hid hz
                  clear hz hx2 hqt hq
                  obtain ⟨xkr, xkp, xep, xef, xer, xrt, xlf⟩ := x1
                  obtain ⟨zkr, zkp, zep, zef, zer, zrt, zlf⟩ := z
                  dsimp only at d0 d1 d2 d3 d4 v0 v1 v2 v3 v4
                  rcases kept_cases (⟨zkr, zkp, zep, zef, zer, zrt, zlf⟩ : Ln) ⟨xkr, xkp, xep, xef, xer, xrt, xlf⟩ with ⟨k1, k2, k3, k4, k5⟩ | k1 | ⟨k1, k2⟩ | ⟨k1, k2, k3⟩ | ⟨k1, k2, k3, k4⟩ | ⟨k1, k2, k3, k4, k5⟩
                  · dsimp only at k1 k2 k3 k4 k5
                    subst k1 k2 k3 k4 k5
                    go_wp2
                    go_quiet (fail)
                    go_wp2
                    go_roundw
                    case rel => exact ⟨q + 1, true, H4.out, by go_num, rfl, Lib.hid (Seen.yes _ _ _), Lib.hid (RQ.more HC.out HQ8.out (drewN_below (Below.refl _ _) _))⟩
                    case measure => have := H4.out; simp [intOf]; omega
                  all_goals
                    dsimp only at k1
                    try dsimp only at k2
                    try dsimp only at k3
                    try dsimp only at k4
                    try dsimp only at k5
                    try subst k1
                    try subst k2
                    try subst k3
                    try subst k4
                    have HSN2 := Lib.hid (HSN.out.no HZZ.out (by rintro ⟨e1, e2, e3, e4, e5⟩; dsimp only at e1 e2 e3 e4 e5; simp_all))
                    go_wp2
                    go_quiet (fail)
                    go_wp2
                    go_roundw
                    case rel => exact ⟨q + 1, false, H4.out, by go_num, rfl, HSN2, Lib.hid (RQ.more HC.out HQ8.out (drewN_below (Below.refl _ _) _))⟩
                    case measure => have := H4.out; simp [intOf]; omega
              · obtain rfl : q = n0 := by omega
                have q0 : ¬ (q : Int) < (q : Int) := by omega
                have hs := HSN.out
                rw [← HN0.out] at hs
                obtain rfl := hs.end_ (HSB.out x1 (List.mem_of_getElem? HX1.out))
                clear hs hq hqt
                go_wp2
                go_roundw
                case rel => exact ⟨i + 1, H3.out, by go_num, HQ8⟩
                case measure => have := H3.out; simp [intOf]; omega
          · obtain rfl : i = n1 := by omega
            have g0 : ¬ (i : Int) < (i : Int) := by omega
            have HQ9 := Lib.hid (HQ7.out.less (R' := []) (by simp))
            clear HQ7 hi hlt
            go_wp2_with fail
            refine (qGone HC.out p HQ9.out).mono ?_
            rintro e w7 ⟨⟨v7, rfl⟩, HQ10⟩
            clear HQ9
            obtain ⟨l3, hl3⟩ : ∃ l3, leftS l1 p true = l3 := ⟨_, rfl⟩
            have HPG : Hid ((∀ x ∈ l3, (x.ep == (p : Int)) = false) ∧ tabL l3 p = false) := Lib.hid (by rw [← hl3]; exact ⟨fun x hx => page_left l1 p hx, tab_left _ _ _⟩)
            rw [hl3] at HQ10
            clear hl3
            obtain ⟨n3, hn3⟩ : ∃ n3, l3.length = n3 := ⟨_, rfl⟩
            have hn32 : (n3 : Int) ≤ 32 := by have := RQ.len HC.out HQ10.out; omega
            have HN3 := Lib.hid hn3
            clear hn3
            go_wp2_with fail
            refine (qList HC.out n3 HN3.out HQ10.out).mono ?_
            rintro e w8 ⟨⟨b3, c3, rfl, HT⟩, hb8⟩
            have HQ11 := Lib.hid HT.out.1
            clear HT hb8 HQ10
            go_wp2
            go_loopw [15] (fun j wx => ∃ i : Nat, i ≤ n3 ∧ j = .int .i64 i ∧ Hid (RQ PS w wx g l3 [(b3, l3.map Ln.kept)])) (fun j _ => n3 - (intOf j).toNat)
            case atStart => exact ⟨0, Nat.zero_le _, rfl, HQ11⟩
            case round =>
              clear HQ11
              obtain ⟨q, hq, rfl, HQ12⟩ := hrel
              by_cases hqt : q < n3
              · have H4 := Lib.hid hqt
                obtain ⟨z, yy, hz, hzm, rfl, hy0, hy1, d0, d1, d2, d3, d4⟩ := kept_at (HQ12.out.row (List.mem_singleton.2 rfl)) (j := q) (by rw [HN3.out]; exact hqt)
                have q0 : (q : Int) < (n3 : Int) := by omega
                have q1 : (0 : Int) ≤ (q : Int) := by omega
                have hep := HPG.out.1 z hzm
                clear hz hzm hqt hq
                go_wp2
                go_roundw
                case rel => exact ⟨q + 1, H4.out, by go_num, HQ12⟩
                case measure => have := H4.out; simp [intOf]; omega
              · obtain rfl : q = n3 := by omega
                have q0 : ¬ (q : Int) < (q : Int) := by omega
                clear hq hqt
                go_wp2_with fail
                refine (qTable HC.out p false HPG.out.2 HQ12.out).mono ?_
                rintro e w9 ⟨rfl, hb9⟩
                have HB9 := Lib.hid (HQ12.out.b.trans (hb9.mono HQ12.out.b.size))
                clear HQ12 hb9
                go_wp2_with fail
                refine (awake19 HC.out _).mono ?_
                rintro e w10 ⟨rfl, hb10⟩
                have HB10 := Lib.hid (HB9.out.trans (hb10.mono HB9.out.size))
                clear hb10 HB9
                go_wp2
                go_ret
                exact ⟨rfl, HB10.out⟩
end
end Go.Proofs.Ytcdiigdbjncpeaa.Sw
