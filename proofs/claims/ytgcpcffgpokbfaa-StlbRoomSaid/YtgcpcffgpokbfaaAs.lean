/- Package stlb: Narrow. -/
import Derived.Test.YtgcpcffgpokbfaaBr
namespace Go.Proofs.Ytgcpcffgpokbfaa.Sb
open Go.RowKit Ut Hg
set_option maxRecDepth 100000
set_option linter.unusedVariables false
set_option maxHeartbeats 4000000

theorem clear_two (x : Nat) (hx : x < 18446744073709551616) : x &&& 18446744073709551613 = 4 * (x / 4) + x % 2 := by
  have h1 : (x &&& 18446744073709551613) % 4 = x % 2 := by
    have := Nat.and_mod_two_pow (a := x) (b := 18446744073709551613) (n := 2)
    rw [show (18446744073709551613 : Nat) % 2 ^ 2 = 2 ^ 1 - 1 from rfl, Nat.and_two_pow_sub_one_eq_mod] at this
    omega
  have h2 : (x &&& 18446744073709551613) / 4 = x / 4 := by
    have := Nat.and_div_two_pow (a := x) (b := 18446744073709551613) (n := 2)
    rw [show (18446744073709551613 : Nat) / 2 ^ 2 = 2 ^ 62 - 1 from rfl, Nat.and_two_pow_sub_one_eq_mod] at this
    omega
  omega
theorem and_two16 : ((List.range 16).all fun r => (r &&& 2) == (if r % 4 < 2 then 0 else 2)) = true := by decide +kernel
theorem low_two (x : Nat) : x &&& 2 = (if x % 4 < 2 then 0 else 2) := by
  have h1 : x &&& 2 < 2 ^ 4 := Nat.and_lt_two_pow _ (by decide)
  have h2 := Nat.and_mod_two_pow (a := x) (b := 2) (n := 4)
  rw [Nat.mod_eq_of_lt h1] at h2
  have h3 := List.all_eq_true.1 and_two16 (x % 16) (by rw [List.mem_range]; omega)
  rw [beq_iff_eq] at h3
  rw [show x % 16 % 4 = x % 4 by omega] at h3
  rw [h2]
  exact h3
theorem two_toNat : (BitVec.ofInt 64 2).toNat = 2 := by decide
/-- RWrite taken off by its bit, or by a subtraction: the same, where it is there -/
theorem narrowed (n : Int) (h : (bits .and .i64 n 2 == 0) = false) : bits .andNot .i64 n 2 = wrap64 (n - 2) := by
  have hx : (n % 18446744073709551616).toNat < 18446744073709551616 := by omega
  have e1 : bits .and .i64 n 2 = IntKind.i64.wrap (((n % 18446744073709551616).toNat &&& 2 : Nat) : Int) := by
    show IntKind.i64.wrap ((BitVec.ofInt 64 n &&& BitVec.ofInt 64 2).toNat : Nat) = _
    rw [BitVec.toNat_and, BitVec.toNat_ofInt, two_toNat]
    rfl
  have e2 : bits .andNot .i64 n 2 = IntKind.i64.wrap (((n % 18446744073709551616).toNat &&& 18446744073709551613 : Nat) : Int) := by
    show IntKind.i64.wrap ((BitVec.ofInt 64 n &&& ~~~ BitVec.ofInt 64 2).toNat : Nat) = _
    rw [BitVec.toNat_and, BitVec.toNat_ofInt, BitVec.toNat_not, two_toNat]
    rfl
  have hge : ¬ (n % 18446744073709551616).toNat % 4 < 2 := fun hlt => by
    rw [e1, low_two, if_pos hlt] at h
    simp [IntKind.wrap_i64] at h
  rw [e2, clear_two _ hx, IntKind.wrap_i64]
  generalize hm : (n % 18446744073709551616).toNat = m at hge hx ⊢
  rw [show ((4 * (m / 4) + m % 2 : Nat) : Int) = (m : Int) - 2 by omega]
  have : ∃ k : Int, n = (m : Int) + k * 18446744073709551616 := ⟨n / 18446744073709551616, by omega⟩
  obtain ⟨k, rfl⟩ := this
  unfold wrap64
  omega
section
variable {W W0 : World} {g : Nat} {room c : Int} {us : List Us} {l : List Rc}
/-- what has been narrowed so far -/
def NarJ (pg : Int) (us0 : List Us) (N : Nat) (us : List Us) (n : Nat) : Prop := (us.map fun u => (narX pg u.1, u.2)) = (us0.map fun u => (narX pg u.1, u.2)) ∧ n + us.countP (fun u => hadB u.1 pg) = N
theorem bits_off (n : Int) : bits .and .i64 (bits .andNot .i64 n 2) 2 = 0 := by
  have e2 : bits .andNot .i64 n 2 = IntKind.i64.wrap (((n % 18446744073709551616).toNat &&& 18446744073709551613 : Nat) : Int) := by
    show IntKind.i64.wrap ((BitVec.ofInt 64 n &&& ~~~ BitVec.ofInt 64 2).toNat : Nat) = _
    rw [BitVec.toNat_and, BitVec.toNat_ofInt, BitVec.toNat_not, two_toNat]
    rfl
  rw [e2, clear_two _ (by omega), IntKind.wrap_i64]
  generalize (n % 18446744073709551616).toNat = m
  generalize hz : (((4 * (m / 4) + m % 2 : Nat) : Int) + 9223372036854775808) % 18446744073709551616 - 9223372036854775808 = z
  have e1 : bits .and .i64 z 2 = IntKind.i64.wrap (((z % 18446744073709551616).toNat &&& 2 : Nat) : Int) := by
    show IntKind.i64.wrap ((BitVec.ofInt 64 z &&& BitVec.ofInt 64 2).toNat : Nat) = _
    rw [BitVec.toNat_and, BitVec.toNat_ofInt, two_toNat]
    rfl
  rw [e1, low_two, if_pos (by omega)]
  simp [IntKind.wrap_i64]
theorem nar_had {x : Rc} {pg : Int} (h : hadB x pg = true) : narX pg x = { x with er := bits .andNot .i64 x.er 2 } ∧ hadB (narX pg x) pg = false := by
  have hw : (bits .and .i64 x.er 2 == 0) = false := by
    unfold hadB at h
    simp at h
    simpa using h.2
  have e : narX pg x = { x with er := bits .andNot .i64 x.er 2 } := by
    unfold narX
    rw [if_pos h, narrowed _ hw]
  refine ⟨e, ?_⟩
  rw [e]
  unfold hadB
  rw [bits_off]
  simp
theorem nar_not {x : Rc} {pg : Int} (h : hadB x pg = false) : narX pg x = x := by
  unfold narX
  rw [if_neg (by rw [h]; decide)]
theorem NarJ.next {pg : Int} {us0 us : List Us} {N n i : Nat} {u : Us} (h : NarJ pg us0 N us n) (hu : us[i]? = some u) (hp : hadB u.1 pg = true) : NarJ pg us0 N (us.set i (narX pg u.1, u.2)) (n + 1) := by
  obtain ⟨hl, e⟩ := List.getElem?_eq_some_iff.1 hu
  obtain ⟨h1, h2⟩ := h
  refine ⟨?_, ?_⟩
  · rw [← h1, List.map_set]
    have e3 : narX pg (narX pg u.1) = narX pg u.1 := nar_not (nar_had hp).2
    dsimp only
    rw [e3]
    apply List.ext_getElem?
    intro k
    rw [List.getElem?_set]
    by_cases hk : i = k
    · subst hk
      rw [if_pos rfl, List.getElem?_map, hu, if_pos (by simpa using hl)]
      rfl
    · rw [if_neg hk]
  · rw [List.countP_set hl]
    have h3 : 0 < us.countP fun u => hadB u.1 pg := List.countP_pos_iff.2 ⟨u, List.mem_of_getElem? hu, hp⟩
    dsimp only
    rw [(nar_had hp).2, e, hp]
    simp
    omega
theorem nar_heap {pg : Int} {us0 us : List Us} {N n : Nat} (h : NarJ pg us0 N us n) (hh : HeapL usK us0 us0.length) : HeapL usK us us.length := by
  have h1 := h.1
  have hl : us.length = us0.length := by have := congrArg List.length h1; simpa using this
  have hv : ∀ k, vl usK us k = vl usK us0 k := fun k => by
    unfold vl usK
    have e : (us.map fun u => (narX pg u.1, u.2))[k]? = (us0.map fun u => (narX pg u.1, u.2))[k]? := by rw [h1]
    rw [List.getElem?_map, List.getElem?_map] at e
    rw [List.getD_eq_getElem?_getD, List.getD_eq_getElem?_getD]
    cases e1 : us[k]? with
    | none =>
      cases e2 : us0[k]? with
      | none => rfl
      | some y => rw [e1, e2] at e; cases e
    | some x =>
      cases e2 : us0[k]? with
      | none => rw [e1, e2] at e; cases e
      | some y =>
        rw [e1, e2] at e
        simp only [Option.map_some, Option.some.injEq, Prod.mk.injEq] at e
        simpa using e.2
  intro k h0 hk
  rw [hv, hv]
  exact hh k h0 (by omega)
theorem narrow2_any (pg : Int) (k i : Nat) (us0 : List Us) (N n : Nat) (u : Us) (hJ : NarJ pg us0 N us n) (h : LB W g 62 (hd3 room c) us) (hk : Blk W k 25 [.pointer (some ⟨g, 0, none⟩)]) (hkg : k ≠ g) (hu : us[i]? = some u) (hp : hadB u.1 pg = true) :
    Calls Try.prog 35 #[.int .i64 i, .pointer (some ⟨k, 0, none⟩)] W fun e w' => e = .returned (.tuple #[]) ∧ (∃ us', Hid (NarJ pg us0 N us' (n + 1)) ∧ Hid (LB w' g 62 (hd3 room c) us')) ∧ Kq [g] W w' := by
  have hil := (List.getElem?_eq_some_iff.1 hu).1
  have hl5 := h.len
  have HJ := Lib.hid (hJ.next hu hp)
  have d1 : (0 : Int) ≤ (i : Int) ∧ (i : Int) < 5 := by omega
  obtain ⟨c0, c1, c2, c3, c4, c5⟩ := h.cells (o := 3) rfl i u hu
  have hgl := h.lt
  have f4 := h.frz (3 + 1 + i * 6 + 4)
  have k0 := hk.cell (j := 0) rfl
  have kl := hk.lt
  have HL : Hid (LB (W.setCell ⟨g, 3 + 1 + i * 6 + 4, none⟩ (.int .i64 (bits .andNot .i64 u.1.er 2))) g 62 (hd3 room c) (us.set i (narX pg u.1, u.2))) := Lib.hid (by
    obtain ⟨z, h5, hb⟩ := h
    refine ⟨z, by simpa using h5, ?_⟩
    have h6 := hb.set (3 + 1 + i * 6 + 4) (.int .i64 (bits .andNot .i64 u.1.er 2))
    have e : (hd3 room c ++ .int .i64 (us.length : Nat) :: flatU (us ++ z)).set (3 + 1 + i * 6 + 4) (.int .i64 (bits .andNot .i64 u.1.er 2)) = hd3 room c ++ .int .i64 ((us.set i (narX pg u.1, u.2)).length : Nat) :: flatU (us.set i (narX pg u.1, u.2) ++ z) := by
      rw [(nar_had hp).1, List.length_set, List.set_append_right _ _ (by first | (simp; done) | (simp; omega)), show 3 + 1 + i * 6 + 4 - (hd3 room c).length = i * 6 + 4 + 1 by simp; omega, List.set_cons_succ, ← List.set_append_left _ _ hil]
      congr 2
      rw [flatU_set _ _ _ (by rw [List.length_append]; omega)]
      have hx : (us ++ z)[i]? = some u := by rw [List.getElem?_append_left hil]; exact hu
      obtain ⟨g0, g1, g2, g3, g4, g5⟩ := flatU_get _ i u hx
      have keep : ∀ (X : List Value) (j : Nat) (v : Value), X[j]? = some v → X.set j v = X := fun X j v hv => by
        apply List.ext_getElem?
        intro m
        rw [List.getElem?_set]
        by_cases hm : j = m
        · subst hm
          rw [if_pos rfl, if_pos (List.getElem?_eq_some_iff.1 hv).1, hv]
        · rw [if_neg hm]
      dsimp only
      rw [keep _ _ _ g0, keep _ _ _ g1, keep _ _ _ g2, keep _ _ _ g3]
      rw [keep _ (i * 6 + 5) _ (by rw [List.getElem?_set_ne (by omega)]; exact g5)]
    rw [e] at h6
    exact h6)
  have HK := Lib.hid (kq_drew ((Kq.refl [g] W).setCell g (3 + 1 + i * 6 + 4) (.int .i64 (bits .andNot .i64 u.1.er 2)) (.inl (by simp))))
  have HL : Hid (LB (W.setCell ⟨g, 3 + 1 + i * 6 + 4, none⟩ (.int .i64 (bits .andNot .i64 u.1.er 2))).drew g 62 (hd3 room c) (us.set i (narX pg u.1, u.2))) := Lib.hid (HL.out.of_block rfl)
  have e9 : 3 + 1 + i * 6 + 4 = 4 + i * 6 + 2 + 2 := by omega
  rw [e9] at HL HK c4 f4
  generalize us.set i (narX pg u.1, u.2) = us' at HJ HL
  generalize u.1.er = er at c4 HL HK
  clear h hJ hk hu hil hp hl5 c0 c1 c2 c3 c5 e9
  go_enter Try.func35, Try.ntmps35
  go_region
  go_wp2
  go_end0
  exact ⟨rfl, ⟨us', HJ, HL⟩, HK.out⟩
theorem ptNarrow_any (pg : Int) (h : PT W g room c l) :
    Calls Try.prog 17 #[.pointer (some ⟨g, 0, none⟩), .int .i64 pg] W fun e w' => e = .returned (.int .i64 (narN l pg : Nat)) ∧ PT w' g room c (narL l pg) ∧ Kq [g] W w' := by
  obtain ⟨us, h1, h2, h3, h4⟩ := h
  obtain ⟨U, hU⟩ : ∃ U, U = (W.alloc (.cells #[.pointer (some ⟨g, 0, none⟩)] 25)).alloc (.cells #[.int .i64 pg] 3) := ⟨_, rfl⟩
  have hB : Below W.heap.size W U := by rw [hU]; exact ((Below.refl _ _).alloc (Nat.le_refl _) _).alloc (by simp) _
  have hN : Blk U W.heap.size 25 [.pointer (some ⟨g, 0, none⟩)] := by rw [hU]; exact (Blk.new W _ [.pointer (some ⟨g, 0, none⟩)]).more ((Below.refl _ _).alloc (Nat.le_refl _) _)
  have hM : Blk U (W.heap.size + 1) 3 [.int .i64 pg] := by
    have := Blk.new (W.alloc (.cells #[.pointer (some ⟨g, 0, none⟩)] 25)) 3 [.int .i64 pg]
    rw [World.size_alloc] at this
    rw [hU]
    exact this
  have hgl := h1.1.lt
  have hcn : (us.countP fun u => hadB u.1 pg) = narN l pg := h2.count (fun x => hadB x pg)
  have h5 := h1.1.len
  have HE := Lib.hid (each_any (P := fun x => hadB x pg) (narN l pg) (NarJ pg us (narN l pg)) (fun _ _ h => h.2) (by have := List.countP_le_length (p := fun u : Us => hadB u.1 pg) (l := us); omega) (h1.1.more hB) ⟨rfl, by omega⟩
    (fi := 33) (caps := #[.pointer (some ⟨W.heap.size + 1, 0, none⟩)]) ⟨fun _ _ => rfl, fun x w' hk => wide_any pg (W.heap.size + 1) x w' (hM.kq hk (by simp; omega))⟩
    (fd := 35) (capd := #[.pointer (some ⟨W.heap.size, 0, none⟩)]) ⟨fun _ _ => rfl, fun us' n i u w hJ hl hk hu hp => narrow2_any pg W.heap.size i us _ n u hJ hl (hN.kq hk (by simp; omega)) (by omega) hu hp⟩)
  have k0 := hN.cell (j := 0) rfl
  have kl := hN.lt
  have HU := Lib.hid hU
  have HB := Lib.hid hB
  have HR := Lib.hid h2
  have HH := Lib.hid h1.2
  have HC := Lib.hid h3
  have HC0 := Lib.hid h4
  clear h1 h2 h3 h4 hB hN hM hU hgl h5 hcn
  generalize narN l pg = N at HE ⊢
  go_enter Try.func17, Try.ntmps17
  go_upto_region 1 with fail
  rw [← HU.out]
  clear HU
  go_wp2_with fail
  refine HE.out.mono ?_
  rintro e w2 ⟨rfl, ⟨us', HJ, HL, HA⟩, hk⟩
  have HK := Lib.hid ((Kq.of_below HB.out).trans hk)
  have HP : Hid (PT w2 g room c (narL l pg)) := Lib.hid (by
    have e1 : us' = us.map fun u => (narX pg u.1, u.2) := by
      rw [← HJ.out.1]
      conv => lhs; rw [← List.map_id us']
      exact List.map_congr_left fun u hu => by rw [nar_not (HA.out u hu)]; rfl
    refine ⟨us', ⟨HL.out, nar_heap HJ.out HH.out⟩, ?_, fun u hu => ?_, HC0.out⟩
    · rw [e1]
      exact HR.out.map (narX pg) fun x => by unfold narX; split <;> exact ⟨rfl, rfl⟩
    · rw [e1] at hu
      obtain ⟨v, hv, rfl⟩ := List.mem_map.1 hu
      exact HC.out v hv)
  clear hk HE k0 kl
  go_wp2
  go_ret
  exact ⟨rfl, HP.out, HK.out⟩
end
end Go.Proofs.Ytgcpcffgpokbfaa.Sb
