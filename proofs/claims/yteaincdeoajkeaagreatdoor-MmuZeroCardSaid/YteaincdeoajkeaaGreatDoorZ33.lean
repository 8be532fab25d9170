/- Several texts in one: Br As At Au -/
import Derived.Test.YteaincdeoajkeaaGreatDoorZ32
import Derived.Laws.Rows
section
/- Package stlb: what it remembers, told by the document's list; Len, Drop, Gone, Flush. -/
namespace Go.Proofs.YteaincdeoajkeaaGreatDoor.Sb
open Go.RowKit Ut Hg
set_option maxRecDepth 100000
set_option linter.unusedVariables false
set_option maxHeartbeats 4000000

/-- the program's translations at g: those of l, whose last use is longest ago first; c is the number of the last use -/
def PT (W : World) (g : Nat) (room c : Int) (l : List Rc) : Prop := ∃ us, HP W g 175 (hd3 room c) us ∧ Rel us l ∧ (∀ u ∈ us, u.2 ≤ c) ∧ 0 ≤ c
theorem Rel.count {us : List Us} {l : List Rc} (h : Rel us l) (P : Rc → Bool) : (us.countP fun u => P u.1) = l.countP P := by
  obtain ⟨_, o, h1, _, rfl⟩ := h
  rw [List.countP_map, ← h1.countP_eq]
  rfl
theorem count_find (l : List Rc) (p q : Int) : decide (0 < (l.countP fun x => x.is p q)) = (findL l p q).isSome := by
  unfold findL
  cases h : l.find? (fun x => x.is p q) with
  | none =>
    rw [List.countP_eq_zero.2 (fun x hx => by simpa using List.find?_eq_none.1 h x hx)]
    rfl
  | some x =>
    have h1 : 0 < l.countP fun x => x.is p q := List.countP_pos_iff.2 ⟨x, List.mem_of_find?_eq_some h, by simpa using List.find?_some h⟩
    simp only [h1]
    rfl
theorem gone_count (l : List Rc) (pg : Int) : ((l.countP fun x => x.ep == pg : Nat) : Int) = (l.length : Int) - ((goneL l pg).length : Int) := by
  have h := List.length_eq_countP_add_countP (fun x : Rc => x.ep == pg) (l := l)
  have e : (goneL l pg).length = l.countP fun x => !(x.ep == pg) := by unfold goneL; rw [List.countP_eq_length_filter]
  have e2 : (l.countP fun x : Rc => decide (¬ (x.ep == pg) = true)) = l.countP fun x => !(x.ep == pg) := by
    congr 1
    funext x
    cases x.ep == pg <;> rfl
  rw [e2] at h
  omega

section
variable {W W0 : World} {g : Nat} {room c : Int} {l : List Rc}
theorem PT.lt (h : PT W g room c l) : g < W.heap.size := h.elim fun _ h => h.1.1.lt
theorem PT.kq {T : List Nat} {W' : World} (h : PT W g room c l) (k : Kq T W W') (hg : g ∉ T) : PT W' g room c l := by
  obtain ⟨us, h1, h2⟩ := h
  exact ⟨us, ⟨h1.1.kq k hg, h1.2⟩, h2⟩
theorem PT.more {W' : World} (h : PT W g room c l) (hb : Below W.heap.size W W') : PT W' g room c l := h.kq (T := []) (Kq.of_below hb) (by simp)
theorem PT.len (h : PT W g room c l) : l.length ≤ 5 := by
  obtain ⟨us, h1, h2, _⟩ := h
  rw [← h2.len]
  exact h1.1.len
theorem PT.made {W' : World} (h : HP W g 175 (hd3 room 0) []) : PT W g room 0 [] := ⟨[], h, Rel.nil, (fun u hu => absurd hu List.not_mem_nil), Int.le_refl _⟩
theorem ptLen_any (h : PT W g room c l) : Calls Tryz.prog 137 #[.pointer (some ⟨g, 0, none⟩)] W fun e w' => e = .returned (.int .i64 (l.length : Nat)) ∧ W = w' := by
  obtain ⟨us, h1, h2, _⟩ := h
  rw [← h2.len]
  exact tlbLen_any h1.1
/-- what forget does, told by the list -/
theorem ptForget_any {fi : Nat} {caps : Array Value} {P : Rc → Bool} (h : PT W g room c l) (hi : ∀ w, Below W.heap.size W w → IsC w g fi caps P) :
    Calls Tryz.prog 97 #[.pointer (some ⟨g, 0, none⟩), .func (.func fi) #[] caps] W fun e w' => e = .returned (.int .i64 (l.countP P : Nat)) ∧ PT w' g room c (l.filter fun x => !P x) ∧ Kq [g] W w' := by
  obtain ⟨us, h1, h2, h3, h4⟩ := h
  refine (forget_any h1 hi).mono ?_
  rintro e w' ⟨rfl, ⟨us', hh⟩, hk⟩
  rw [h2.count P]
  refine ⟨rfl, ⟨us', hh.out.1, (h2.filter fun x => !P x).perm hh.out.2.symm, fun u hu => h3 u ?_, h4⟩, hk⟩
  exact (List.mem_filter.1 (hh.out.2.mem_iff.1 hu)).1
theorem isC_key (p q : Int) (k : Nat) (w : World) (hk : Blk w k 48 [.int .i64 p, .int .i64 q]) (hg : k ≠ g) : IsC w g 138 #[.pointer (some ⟨k, 0, none⟩)] (fun x => x.is p q) :=
  ⟨fun _ _ => rfl, fun x w' hw => hasKey1_any p q k x w' (hk.kq hw (by simpa using hg))⟩
theorem ptDrop_any (p q : Int) (h : PT W g room c l) :
    Calls Tryz.prog 94 #[.pointer (some ⟨g, 0, none⟩), .agg #[.int .i64 p, .int .i64 q]] W fun e w' => e = .returned (.bool (findL l p q).isSome) ∧ PT w' g room c (withoutL l p q) ∧ Kq [g] W w' := by
  obtain ⟨U, hU⟩ : ∃ U, U = W.alloc (.cells #[.int .i64 p, .int .i64 q] 48) := ⟨_, rfl⟩
  have hB : Below W.heap.size W U := by rw [hU]; exact (Below.refl _ _).alloc (Nat.le_refl _) _
  have hN : Blk U W.heap.size 48 [.int .i64 p, .int .i64 q] := by rw [hU]; exact Blk.new W _ [.int .i64 p, .int .i64 q]
  have k0 := hN.cell (j := 0) rfl
  have k1 := hN.cell (j := 1) rfl
  have kl := hN.lt
  have HU := Lib.hid hU
  have HB := Lib.hid hB
  have HP := Lib.hid (h.more hB)
  have HE := Lib.hid (count_find l p q)
  clear h hB hN hU
  generalize (findL l p q).isSome = t at HE ⊢
  go_enter Tryz.func94, Tryz.ntmps94
  go_upto_region 1 with fail
  rw [← HU.out]
  clear HU
  go_wp2_with fail
  refine (hasKey_any p q U).mono ?_
  rintro e w1 ⟨rfl, hk, hb1⟩
  have HF := Lib.hid (ptForget_any (HP.out.more hb1) (fun w hw => isC_key p q U.heap.size w (hk.more hw) (fun e => by have := HP.out.lt; omega)))
  have HB1 := Lib.hid (HB.out.trans (hb1.mono HB.out.size))
  clear k0 k1 kl hk hb1
  go_wp2_with fail
  refine HF.out.mono ?_
  rintro e w2 ⟨rfl, hp, hk⟩
  have HP2 : Hid (PT w2 g room c (withoutL l p q)) := Lib.hid hp
  have HK2 := Lib.hid ((Kq.of_below HB1.out).trans hk)
  clear hp hk HF
  generalize (l.countP fun x => x.is p q) = n at HE ⊢
  go_wp2
  go_ret
  exact ⟨by rw [← HE.out]; rfl, HP2.out, HK2.out⟩
theorem ptFlush_any (h : PT W g room c l) :
    Calls Tryz.prog 60 #[.pointer (some ⟨g, 0, none⟩)] W fun e w' => e = .returned (.int .i64 (l.length : Nat)) ∧ PT w' g room c [] ∧ Kq [g] W w' := by
  have hF := ptForget_any (P := fun _ => true) (fi := 98) (caps := #[]) h (fun w hw => ⟨fun _ _ => rfl, fun x w' hk => by rw [Array.append_empty]; exact flush1_any x w'⟩)
  have e1 : (l.countP fun _ => true) = l.length := by simp
  have e2 : (l.filter fun _ => !true) = [] := by simp
  rw [e1, e2] at hF
  have HF := Lib.hid hF
  clear hF h e1 e2
  generalize l.length = n at HF ⊢
  go_enter Tryz.func60, Tryz.ntmps60
  go_wp2_with fail
  refine HF.out.mono ?_
  rintro e w2 ⟨rfl, hp, hk⟩
  have HP2 := Lib.hid hp
  have HK2 := Lib.hid hk
  clear hp hk HF
  go_wp2
  go_ret
  exact ⟨rfl, HP2.out, HK2.out⟩
end
end Go.Proofs.YteaincdeoajkeaaGreatDoor.Sb
end
section
/- Package stlb: Narrow. -/
namespace Go.Proofs.YteaincdeoajkeaaGreatDoor.Sb
open Go.RowKit Ut Hg
set_option maxRecDepth 100000
set_option linter.unusedVariables false
set_option maxHeartbeats 4000000

theorem clear_two (x : Nat) (hx : x < 18446744073709551616) : x &&& 18446744073709551613 = 4 * (x / 4) + x % 2 := by
  have h1 : (x &&& 18446744073709551613) % 4 = x % 2 := by
    have := Nat.and_mod_two_pow (a := x) (b := 18446744073709551613) (n := 2)
    rw [show (18446744073709551613 : Nat) % 2 ^ 2 = 2 ^ 1 - 1 from rfl, Nat.and_two_pow_sub_one_eq_mod] at this
    omega
  have h2 : (x &&& 18446744073709551613) / 4 = x / 4 := by
    have := Nat.and_div_two_pow (a := x) (b := 18446744073709551613) (n := 2)
    rw [show (18446744073709551613 : Nat) / 2 ^ 2 = 2 ^ 62 - 1 from rfl, Nat.and_two_pow_sub_one_eq_mod] at this
    omega
  omega
theorem and_two16 : ((List.range 16).all fun r => (r &&& 2) == (if r % 4 < 2 then 0 else 2)) = true := by decide +kernel
theorem low_two (x : Nat) : x &&& 2 = (if x % 4 < 2 then 0 else 2) := by
  have h1 : x &&& 2 < 2 ^ 4 := Nat.and_lt_two_pow _ (by decide)
  have h2 := Nat.and_mod_two_pow (a := x) (b := 2) (n := 4)
  rw [Nat.mod_eq_of_lt h1] at h2
  have h3 := List.all_eq_true.1 and_two16 (x % 16) (by rw [List.mem_range]; omega)
  rw [beq_iff_eq] at h3
  rw [show x % 16 % 4 = x % 4 by omega] at h3
  rw [h2]
  exact h3
theorem two_toNat : (BitVec.ofInt 64 2).toNat = 2 := by decide
/-- RWrite taken off by its bit, or by a subtraction: the same, where it is there -/
theorem narrowed (n : Int) (h : (bits .and .i64 n 2 == 0) = false) : bits .andNot .i64 n 2 = wrap64 (n - 2) := by
  have hx : (n % 18446744073709551616).toNat < 18446744073709551616 := by omega
  have e1 : bits .and .i64 n 2 = IntKind.i64.wrap (((n % 18446744073709551616).toNat &&& 2 : Nat) : Int) := by
    show IntKind.i64.wrap ((BitVec.ofInt 64 n &&& BitVec.ofInt 64 2).toNat : Nat) = _
    rw [BitVec.toNat_and, BitVec.toNat_ofInt, two_toNat]
    rfl
  have e2 : bits .andNot .i64 n 2 = IntKind.i64.wrap (((n % 18446744073709551616).toNat &&& 18446744073709551613 : Nat) : Int) := by
    show IntKind.i64.wrap ((BitVec.ofInt 64 n &&& ~~~ BitVec.ofInt 64 2).toNat : Nat) = _
    rw [BitVec.toNat_and, BitVec.toNat_ofInt, BitVec.toNat_not, two_toNat]
    rfl
  have hge : ¬ (n % 18446744073709551616).toNat % 4 < 2 := fun hlt => by
    rw [e1, low_two, if_pos hlt] at h
    simp [IntKind.wrap_i64] at h
  rw [e2, clear_two _ hx, IntKind.wrap_i64]
  generalize hm : (n % 18446744073709551616).toNat = m at hge hx ⊢
  rw [show ((4 * (m / 4) + m % 2 : Nat) : Int) = (m : Int) - 2 by omega]
  have : ∃ k : Int, n = (m : Int) + k * 18446744073709551616 := ⟨n / 18446744073709551616, by omega⟩
  obtain ⟨k, rfl⟩ := this
  unfold wrap64
  omega
section
variable {W W0 : World} {g : Nat} {room c : Int} {us : List Us} {l : List Rc}
/-- what has been narrowed so far -/
def NarJ (pg : Int) (us0 : List Us) (N : Nat) (us : List Us) (n : Nat) : Prop := (us.map fun u => (narX pg u.1, u.2)) = (us0.map fun u => (narX pg u.1, u.2)) ∧ n + us.countP (fun u => hadB u.1 pg) = N
theorem bits_off (n : Int) : bits .and .i64 (bits .andNot .i64 n 2) 2 = 0 := by
  have e2 : bits .andNot .i64 n 2 = IntKind.i64.wrap (((n % 18446744073709551616).toNat &&& 18446744073709551613 : Nat) : Int) := by
    show IntKind.i64.wrap ((BitVec.ofInt 64 n &&& ~~~ BitVec.ofInt 64 2).toNat : Nat) = _
    rw [BitVec.toNat_and, BitVec.toNat_ofInt, BitVec.toNat_not, two_toNat]
    rfl
  rw [e2, clear_two _ (by omega), IntKind.wrap_i64]
  generalize (n % 18446744073709551616).toNat = m
  generalize hz : (((4 * (m / 4) + m % 2 : Nat) : Int) + 9223372036854775808) % 18446744073709551616 - 9223372036854775808 = z
  have e1 : bits .and .i64 z 2 = IntKind.i64.wrap (((z % 18446744073709551616).toNat &&& 2 : Nat) : Int) := by
    show IntKind.i64.wrap ((BitVec.ofInt 64 z &&& BitVec.ofInt 64 2).toNat : Nat) = _
    rw [BitVec.toNat_and, BitVec.toNat_ofInt, two_toNat]
    rfl
  rw [e1, low_two, if_pos (by omega)]
  simp [IntKind.wrap_i64]
theorem nar_had {x : Rc} {pg : Int} (h : hadB x pg = true) : narX pg x = { x with er := bits .andNot .i64 x.er 2 } ∧ hadB (narX pg x) pg = false := by
  have hw : (bits .and .i64 x.er 2 == 0) = false := by
    unfold hadB at h
    simp at h
    simpa using h.2
  have e : narX pg x = { x with er := bits .andNot .i64 x.er 2 } := by
    unfold narX
    rw [if_pos h, narrowed _ hw]
  refine ⟨e, ?_⟩
  rw [e]
  unfold hadB
  rw [bits_off]
  simp
theorem nar_not {x : Rc} {pg : Int} (h : hadB x pg = false) : narX pg x = x := by
  unfold narX
  rw [if_neg (by rw [h]; decide)]
theorem NarJ.next {pg : Int} {us0 us : List Us} {N n i : Nat} {u : Us} (h : NarJ pg us0 N us n) (hu : us[i]? = some u) (hp : hadB u.1 pg = true) : NarJ pg us0 N (us.set i (narX pg u.1, u.2)) (n + 1) := by
  obtain ⟨hl, e⟩ := List.getElem?_eq_some_iff.1 hu
  obtain ⟨h1, h2⟩ := h
  refine ⟨?_, ?_⟩
  · rw [← h1, List.map_set]
    have e3 : narX pg (narX pg u.1) = narX pg u.1 := nar_not (nar_had hp).2
    dsimp only
    rw [e3]
    apply List.ext_getElem?
    intro k
    rw [List.getElem?_set]
    by_cases hk : i = k
    · subst hk
      rw [if_pos rfl, List.getElem?_map, hu, if_pos (by simpa using hl)]
      rfl
    · rw [if_neg hk]
  · rw [List.countP_set hl]
    have h3 : 0 < us.countP fun u => hadB u.1 pg := List.countP_pos_iff.2 ⟨u, List.mem_of_getElem? hu, hp⟩
    dsimp only
    rw [(nar_had hp).2, e, hp]
    simp
    omega
theorem nar_heap {pg : Int} {us0 us : List Us} {N n : Nat} (h : NarJ pg us0 N us n) (hh : HeapL usK us0 us0.length) : HeapL usK us us.length := by
  have h1 := h.1
  have hl : us.length = us0.length := by have := congrArg List.length h1; simpa using this
  have hv : ∀ k, vl usK us k = vl usK us0 k := fun k => by
    unfold vl usK
    have e : (us.map fun u => (narX pg u.1, u.2))[k]? = (us0.map fun u => (narX pg u.1, u.2))[k]? := by rw [h1]
    rw [List.getElem?_map, List.getElem?_map] at e
    rw [List.getD_eq_getElem?_getD, List.getD_eq_getElem?_getD]
    cases e1 : us[k]? with
    | none =>
      cases e2 : us0[k]? with
      | none => rfl
      | some y => rw [e1, e2] at e; cases e
    | some x =>
      cases e2 : us0[k]? with
      | none => rw [e1, e2] at e; cases e
      | some y =>
        rw [e1, e2] at e
        simp only [Option.map_some, Option.some.injEq, Prod.mk.injEq] at e
        simpa using e.2
  intro k h0 hk
  rw [hv, hv]
  exact hh k h0 (by omega)
theorem narrow2_any (pg : Int) (k i : Nat) (us0 : List Us) (N n : Nat) (u : Us) (hJ : NarJ pg us0 N us n) (h : LB W g 175 (hd3 room c) us) (hk : Blk W k 76 [.pointer (some ⟨g, 0, none⟩)]) (hkg : k ≠ g) (hu : us[i]? = some u) (hp : hadB u.1 pg = true) :
    Calls Tryz.prog 146 #[.int .i64 i, .pointer (some ⟨k, 0, none⟩)] W fun e w' => e = .returned (.tuple #[]) ∧ (∃ us', Hid (NarJ pg us0 N us' (n + 1)) ∧ Hid (LB w' g 175 (hd3 room c) us')) ∧ Kq [g] W w' := by
  have hil := (List.getElem?_eq_some_iff.1 hu).1
  have hl5 := h.len
  have HJ := Lib.hid (hJ.next hu hp)
  have d1 : (0 : Int) ≤ (i : Int) ∧ (i : Int) < 5 := by omega
  obtain ⟨c0, c1, c2, c3, c4, c5⟩ := h.cells (o := 3) rfl i u hu
  have hgl := h.lt
  have f4 := h.frz (3 + 1 + i * 6 + 4)
  have k0 := hk.cell (j := 0) rfl
  have kl := hk.lt
  have HL : Hid (LB (W.setCell ⟨g, 3 + 1 + i * 6 + 4, none⟩ (.int .i64 (bits .andNot .i64 u.1.er 2))) g 175 (hd3 room c) (us.set i (narX pg u.1, u.2))) := Lib.hid (by
    obtain ⟨z, h5, hb⟩ := h
    refine ⟨z, by simpa using h5, ?_⟩
    have h6 := hb.set (3 + 1 + i * 6 + 4) (.int .i64 (bits .andNot .i64 u.1.er 2))
    have e : (hd3 room c ++ .int .i64 (us.length : Nat) :: flatU (us ++ z)).set (3 + 1 + i * 6 + 4) (.int .i64 (bits .andNot .i64 u.1.er 2)) = hd3 room c ++ .int .i64 ((us.set i (narX pg u.1, u.2)).length : Nat) :: flatU (us.set i (narX pg u.1, u.2) ++ z) := by
      rw [(nar_had hp).1, List.length_set, List.set_append_right _ _ (by first | (simp; done) | (simp; omega)), show 3 + 1 + i * 6 + 4 - (hd3 room c).length = i * 6 + 4 + 1 by simp; omega, List.set_cons_succ, ← List.set_append_left _ _ hil]
      congr 2
      rw [flatU_set _ _ _ (by rw [List.length_append]; omega)]
      have hx : (us ++ z)[i]? = some u := by rw [List.getElem?_append_left hil]; exact hu
      obtain ⟨g0, g1, g2, g3, g4, g5⟩ := flatU_get _ i u hx
      have keep : ∀ (X : List Value) (j : Nat) (v : Value), X[j]? = some v → X.set j v = X := fun X j v hv => by
        apply List.ext_getElem?
        intro m
        rw [List.getElem?_set]
        by_cases hm : j = m
        · subst hm
          rw [if_pos rfl, if_pos (List.getElem?_eq_some_iff.1 hv).1, hv]
        · rw [if_neg hm]
      dsimp only
      rw [keep _ _ _ g0, keep _ _ _ g1, keep _ _ _ g2, keep _ _ _ g3]
      rw [keep _ (i * 6 + 5) _ (by rw [List.getElem?_set_ne (by omega)]; exact g5)]
    rw [e] at h6
    exact h6)
  have HK := Lib.hid (kq_drew ((Kq.refl [g] W).setCell g (3 + 1 + i * 6 + 4) (.int .i64 (bits .andNot .i64 u.1.er 2)) (.inl (by simp))))
  have HL : Hid (LB (W.setCell ⟨g, 3 + 1 + i * 6 + 4, none⟩ (.int .i64 (bits .andNot .i64 u.1.er 2))).drew g 175 (hd3 room c) (us.set i (narX pg u.1, u.2))) := Lib.hid (HL.out.of_block rfl)
  have e9 : 3 + 1 + i * 6 + 4 = 4 + i * 6 + 2 + 2 := by omega
  rw [e9] at HL HK c4 f4
  generalize us.set i (narX pg u.1, u.2) = us' at HJ HL
  generalize u.1.er = er at c4 HL HK
  clear h hJ hk hu hil hp hl5 c0 c1 c2 c3 c5 e9
  go_enter Tryz.func146, Tryz.ntmps146
  go_region
  go_wp2
  go_end0
  exact ⟨rfl, ⟨us', HJ, HL⟩, HK.out⟩
theorem ptNarrow_any (pg : Int) (h : PT W g room c l) :
    Calls Tryz.prog 120 #[.pointer (some ⟨g, 0, none⟩), .int .i64 pg] W fun e w' => e = .returned (.int .i64 (narN l pg : Nat)) ∧ PT w' g room c (narL l pg) ∧ Kq [g] W w' := by
  obtain ⟨us, h1, h2, h3, h4⟩ := h
  obtain ⟨U, hU⟩ : ∃ U, U = (W.alloc (.cells #[.pointer (some ⟨g, 0, none⟩)] 76)).alloc (.cells #[.int .i64 pg] 3) := ⟨_, rfl⟩
  have hB : Below W.heap.size W U := by rw [hU]; exact ((Below.refl _ _).alloc (Nat.le_refl _) _).alloc (by simp) _
  have hN : Blk U W.heap.size 76 [.pointer (some ⟨g, 0, none⟩)] := by rw [hU]; exact (Blk.new W _ [.pointer (some ⟨g, 0, none⟩)]).more ((Below.refl _ _).alloc (Nat.le_refl _) _)
  have hM : Blk U (W.heap.size + 1) 3 [.int .i64 pg] := by
    have := Blk.new (W.alloc (.cells #[.pointer (some ⟨g, 0, none⟩)] 76)) 3 [.int .i64 pg]
    rw [World.size_alloc] at this
    rw [hU]
    exact this
  have hgl := h1.1.lt
  have hcn : (us.countP fun u => hadB u.1 pg) = narN l pg := h2.count (fun x => hadB x pg)
  have h5 := h1.1.len
  have HE := Lib.hid (each_any (P := fun x => hadB x pg) (narN l pg) (NarJ pg us (narN l pg)) (fun _ _ h => h.2) (by have := List.countP_le_length (p := fun u : Us => hadB u.1 pg) (l := us); omega) (h1.1.more hB) ⟨rfl, by omega⟩
    (fi := 145) (caps := #[.pointer (some ⟨W.heap.size + 1, 0, none⟩)]) ⟨fun _ _ => rfl, fun x w' hk => wide_any pg (W.heap.size + 1) x w' (hM.kq hk (by simp; omega))⟩
    (fd := 146) (capd := #[.pointer (some ⟨W.heap.size, 0, none⟩)]) ⟨fun _ _ => rfl, fun us' n i u w hJ hl hk hu hp => narrow2_any pg W.heap.size i us _ n u hJ hl (hN.kq hk (by simp; omega)) (by omega) hu hp⟩)
  have k0 := hN.cell (j := 0) rfl
  have kl := hN.lt
  have HU := Lib.hid hU
  have HB := Lib.hid hB
  have HR := Lib.hid h2
  have HH := Lib.hid h1.2
  have HC := Lib.hid h3
  have HC0 := Lib.hid h4
  clear h1 h2 h3 h4 hB hN hM hU hgl h5 hcn
  generalize narN l pg = N at HE ⊢
  go_enter Tryz.func120, Tryz.ntmps120
  go_upto_region 1 with fail
  rw [← HU.out]
  clear HU
  go_wp2_with fail
  refine HE.out.mono ?_
  rintro e w2 ⟨rfl, ⟨us', HJ, HL, HA⟩, hk⟩
  have HK := Lib.hid ((Kq.of_below HB.out).trans hk)
  have HP : Hid (PT w2 g room c (narL l pg)) := Lib.hid (by
    have e1 : us' = us.map fun u => (narX pg u.1, u.2) := by
      rw [← HJ.out.1]
      conv => lhs; rw [← List.map_id us']
      exact List.map_congr_left fun u hu => by rw [nar_not (HA.out u hu)]; rfl
    refine ⟨us', ⟨HL.out, nar_heap HJ.out HH.out⟩, ?_, fun u hu => ?_, HC0.out⟩
    · rw [e1]
      exact HR.out.map (narX pg) fun x => by unfold narX; split <;> exact ⟨rfl, rfl⟩
    · rw [e1] at hu
      obtain ⟨v, hv, rfl⟩ := List.mem_map.1 hu
      exact HC.out v hv)
  clear hk HE k0 kl
  go_wp2
  go_ret
  exact ⟨rfl, HP.out, HK.out⟩
end
end Go.Proofs.YteaincdeoajkeaaGreatDoor.Sb
end
section
/- Package stlb: first. -/
namespace Go.Proofs.YteaincdeoajkeaaGreatDoor.Sb
open Go.RowKit Ut Hg
set_option maxRecDepth 100000
set_option linter.unusedVariables false
set_option maxHeartbeats 4000000

theorem results_cell_slot {P : Program} {fn : Func} {p q : Tmp} {ty : TypeId} (h : fn.results = #[.cell p ty, .tmp q]) (tmps : Array Value) (w : World) (g : Nat) (t : TypeId) (cs : Array Value) (fr : Nat × Nat) (d : TypeDesc)
    (hp : tmps.getD p undef = .pointer (some ⟨g, 0, none⟩)) (v : Value) (hq : tmps.getD q undef = v) (hg : w.heap[g]? = some (.cells cs t fr))
    (hu : P.underlying ty = some d) (hd : (match d with | .struct _ | .array _ _ => true | _ => false) = true) (hi : (P.info? ty).map (·.size) = some cs.size) :
    (results fn tmps).run P w = .ok (.tuple #[.agg cs, v]) w := by
  have hp' : tmps[p]?.getD undef = .pointer (some ⟨g, 0, none⟩) := by simpa using hp
  have hq' : tmps[q]?.getD undef = v := by simpa using hq
  simp [results, h, hp', hq', asAddr, run_loadVar_row w g t ty cs fr d hg hu hd hi]

section
variable {W : World} {b o : Nat} {t : TypeId} {pre : List Value} {l : List Us}
theorem first_no (h : LB W b t pre []) (ho : pre.length = o) :
    Calls Tryz.prog 88 #[.pointer (some ⟨b, o, none⟩)] W fun e w' => e = .returned (.tuple #[usV noU, .bool false]) ∧ Below W.heap.size W w' := by
  obtain ⟨U, hU⟩ : ∃ U, U = W.alloc (.cells #[.int .i64 0, .int .i64 0, .int .i64 0, .int .i64 0, .int .i64 0, .int .u64 0] 170) := ⟨_, rfl⟩
  have hB : Below W.heap.size W U := by rw [hU]; exact (Below.refl _ _).alloc (Nat.le_refl _) _
  have hN : Blk U W.heap.size 170 (usC noU) := by rw [hU]; exact Blk.new W _ (usC noU)
  have c0 : U.cell? ⟨b, o, none⟩ = some (.int .i64 0) := (h.more hB).cell0 ho
  have bl := (h.more hB).lt
  have HU := Lib.hid hU
  have HB := Lib.hid hB
  have HN := Lib.hid hN
  clear h hU hB hN
  go_enter Tryz.func88, Tryz.ntmps88
  go_upto_region 1 with fail
  rw [← HU.out]
  clear HU
  go_upto_region 2 with fail
  refine wp_region_lit ?_
  refine wpList_buildTo rfl 170 _ rfl _ rfl (usC noU).toArray (by kernel_rfl) ?_
  refine wpList_store_rowTo rfl 170 _ _ rfl rfl W.heap.size (usC noU).toArray (by kernel_rfl) (by kernel_rfl) 170 (usC noU).toArray HN.out (by rw [size_used]; rfl) rfl (by kernel_rfl) ?_
  have HN2 : Hid (Blk (U.setRow W.heap.size (usC noU).toArray) W.heap.size 170 (usC noU)) := Lib.hid (HN.out.row _)
  have HB2 := Lib.hid (below_setRow HB.out (Nat.le_refl W.heap.size) (usC noU).toArray)
  generalize U.setRow W.heap.size (usC noU).toArray = V at HN2 HB2 ⊢
  go_wp2
  exact bodyPost_ret (v := .tuple #[usV noU, .bool false]) (results_cell_slot Tryz.results88 _ _ _ _ _ _ _ rfl _ rfl HN2.out Tryz.underlying170 rfl (by rw [size_used]; rfl)) rfl ⟨rfl, HB2.out⟩
theorem first_yes (h : HP W b t pre l) (ho : pre.length = o) (hl : 0 < l.length) :
    Calls Tryz.prog 88 #[.pointer (some ⟨b, o, none⟩)] W fun e w' => (∃ c r, e = .returned (.tuple #[usV c, .bool true]) ∧ Hid (HP w' b t pre r) ∧ Hid ((c :: r).Perm l ∧ ∀ y ∈ l, c.2 ≤ y.2)) ∧ Kq [b] W w' := by
  obtain ⟨U, hU⟩ : ∃ U, U = W.alloc (.cells #[.int .i64 0, .int .i64 0, .int .i64 0, .int .i64 0, .int .i64 0, .int .u64 0] 170) := ⟨_, rfl⟩
  have hB : Below W.heap.size W U := by rw [hU]; exact (Below.refl _ _).alloc (Nat.le_refl _) _
  have hN : Blk U W.heap.size 170 (usC noU) := by rw [hU]; exact Blk.new W _ (usC noU)
  have hbl := h.1.lt
  have hne : W.heap.size ≠ b := by omega
  have hu : HP U b t pre l := ⟨h.1.more hB, h.2⟩
  have c0 := hu.1.cell0 ho
  have bl := hu.1.lt
  have f0 : ((l.length : Int) == 0) = false := beq_eq_false_iff_ne.2 (by omega)
  have HPOP := Lib.hid (hpop18 hu ho hl)
  have HU := Lib.hid hU
  have HB := Lib.hid hB
  have HN := Lib.hid hN
  have HNE := Lib.hid hne
  clear h hU hB hN hu hl hne hbl
  generalize l.length = n at c0 f0
  go_enter Tryz.func88, Tryz.ntmps88
  go_upto_region 1 with fail
  rw [← HU.out]
  clear HU
  go_wp2_with fail
  refine HPOP.out.mono ?_
  rintro e w1 ⟨c, r, rfl, hr, hp, hle, hk⟩
  have HR := Lib.hid hr
  have HPL := Lib.hid (And.intro hp hle)
  have HK1 := Lib.hid hk
  have hta := assert_used c w1
  obtain ⟨V, hV⟩ : ∃ V, V = w1.alloc (.cells #[.int .i64 c.1.kr, .int .i64 c.1.kp, .int .i64 c.1.ep, .int .i64 c.1.ef, .int .i64 c.1.er, .int .u64 c.2] 170) := ⟨_, rfl⟩
  have hB1 : Below w1.heap.size w1 V := by rw [hV]; exact (Below.refl _ _).alloc (Nat.le_refl _) _
  have hN1 : Blk V w1.heap.size 170 (usC c) := by rw [hV]; exact Blk.new w1 _ (usC c)
  have HV := Lib.hid hV
  have HB1 := Lib.hid hB1
  have HN1 := Lib.hid hN1
  have HNW : Hid (Blk V W.heap.size 170 (usC noU)) := Lib.hid ((HN.out.kq hk (by simpa using HNE.out)).more hB1)
  have k0 := hN1.cell (j := 0) rfl
  have k1 := hN1.cell (j := 1) rfl
  have k2 := hN1.cell (j := 2) rfl
  have k3 := hN1.cell (j := 3) rfl
  have k4 := hN1.cell (j := 4) rfl
  have k5 := hN1.cell (j := 5) rfl
  have kl := hN1.lt
  clear hr hp hle hk hV hB1 hN1 HPOP c0 bl f0
  unfold usV at hta ⊢
  go_upto_region 4 with fail
  rw [← HV.out]
  clear HV hta
  refine wp_region_lit ?_
  refine wpList_load_row rfl 170 _ rfl w1.heap.size (by kernel_rfl) 170 (usC c).toArray (0, 0) _ HN1.out Tryz.underlying170 rfl (by rw [size_used]; rfl) ?_
  refine Great.wpList_readTo rfl _ rfl (.bool true) (by kernel_rfl) ?_
  refine wpList_store_rowTo rfl 170 _ _ rfl rfl W.heap.size (usC c).toArray (by kernel_rfl) (by kernel_rfl) 170 (usC noU).toArray HNW.out (by rw [size_used]; rfl) rfl (by kernel_rfl) ?_
  have HN2 : Hid (Blk (V.setRow W.heap.size (usC c).toArray) W.heap.size 170 (usC c)) := Lib.hid (HNW.out.row _)
  have HK2 : Hid (Kq [b] W (V.setRow W.heap.size (usC c).toArray)) := Lib.hid (by
    have h1 := ((Kq.of_below (T := [b]) HB.out).trans HK1.out).trans (Kq.of_below HB1.out)
    exact ⟨h1.os, h1.tape, h1.output, by rw [size_setRow]; exact h1.size, fun q hq hn => (setRow_other _ _ _ _ (by omega)).trans (h1.block q hq hn)⟩)
  have HR2 : Hid (HP (V.setRow W.heap.size (usC c).toArray) b t pre r) := Lib.hid ⟨(HR.out.1.more HB1.out).of_block (setRow_other _ _ _ _ HNE.out.symm), HR.out.2⟩
  generalize V.setRow W.heap.size (usC c).toArray = V2 at HN2 HK2 HR2 ⊢
  clear k0 k1 k2 k3 k4 k5 kl
  go_wp2
  exact bodyPost_ret (v := .tuple #[.agg (usC c).toArray, .bool true]) (results_cell_slot Tryz.results88 _ _ _ _ _ _ _ rfl _ rfl HN2.out Tryz.underlying170 rfl (by rw [size_used]; rfl)) rfl ⟨⟨c, r, rfl, HR2, HPL⟩, HK2.out⟩
end
end Go.Proofs.YteaincdeoajkeaaGreatDoor.Sb
end
section
/- Package stlb: Put. -/
namespace Go.Proofs.YteaincdeoajkeaaGreatDoor.Sb
open Go.RowKit Ut Hg
set_option maxRecDepth 100000
set_option linter.unusedVariables false
set_option maxHeartbeats 4000000

theorem built_used (x : Rc) (s : Int) : Tryz.prog.built 170 [(0, x.v), (1, .int .u64 s)] = some (usC (x, s)).toArray := by kernel_rfl
theorem built_kept (kr kp ep ef er : Int) : Tryz.prog.built 52 [(0, .agg #[.int .i64 kr, .int .i64 kp]), (1, .agg #[.int .i64 ep, .int .i64 ef, .int .i64 er])] = some #[.int .i64 kr, .int .i64 kp, .int .i64 ep, .int .i64 ef, .int .i64 er] := by kernel_rfl
section
variable {W : World} {g : Nat} {room c : Int} {l : List Rc}
theorem HP.drewN {b : Nat} {t : TypeId} {pre : List Value} {us : List Us} (h : HP W b t pre us) (n : Nat) : HP (W.drewN n) b t pre us := ⟨h.1.of_block rfl, h.2⟩
theorem kq_drewN {T : List Nat} {W' : World} (h : Kq T W W') (n : Nat) : Kq T W (W'.drewN n) := ⟨h.os, h.tape, h.output, h.size, h.block⟩
theorem without_none {x : Rc} {p q : Int} (h : x ∈ withoutL l p q) : ¬ (x.kr = p ∧ x.kp = q) := fun e => by
  have := (List.mem_filter.1 h).2
  rw [is_iff.2 e] at this
  cases this
/-- what is put now -/
theorem Rel.put {us us2 : List Us} {x : Rc} (h : Rel us (withoutL l x.kr x.kp)) (hc : ∀ u ∈ us, u.2 ≤ c) (hp : us2.Perm ((x, c + 1) :: us)) : Rel us2 (withoutL l x.kr x.kp ++ [x]) ∧ ∀ u ∈ us2, u.2 ≤ c + 1 := by
  refine ⟨(h.add x (c + 1) (fun u hu => by have := hc u hu; omega) (fun u hu => without_none (h.mem.2 ⟨u.2, hu⟩))).perm hp.symm, fun u hu => ?_⟩
  rcases List.mem_cons.1 (hp.mem_iff.1 hu) with rfl | hu
  · exact Int.le_refl _
  · have := hc u hu; omega

theorem ptPut_any (x : Rc) (h : PT W g room c l) (hl : (l.length : Int) ≤ room) (hr : room ≤ 4) (hc : c ≤ 1000000) :
    Calls Tryz.prog 75 #[.pointer (some ⟨g, 0, none⟩), .agg #[.int .i64 x.kr, .int .i64 x.kp], .agg #[.int .i64 x.ep, .int .i64 x.ef, .int .i64 x.er]] W fun e w' => e = .returned (.int .i64 0) ∧ PT w' g room (c + 1) (putL room l x) ∧ Kq [g] W w' := by
  obtain ⟨U, hU⟩ : ∃ U, U = (W.alloc (.cells #[.int .i64 x.kr, .int .i64 x.kp] 48)).alloc (.cells #[.int .i64 x.ep, .int .i64 x.ef, .int .i64 x.er] 50) := ⟨_, rfl⟩
  have hB : Below W.heap.size W U := by rw [hU]; exact ((Below.refl _ _).alloc (Nat.le_refl _) _).alloc (by simp) _
  have hk : Blk U W.heap.size 48 [.int .i64 x.kr, .int .i64 x.kp] := by rw [hU]; exact (Blk.new W _ [.int .i64 x.kr, .int .i64 x.kp]).more ((Below.refl _ _).alloc (Nat.le_refl _) _)
  have he : Blk U (W.heap.size + 1) 50 [.int .i64 x.ep, .int .i64 x.ef, .int .i64 x.er] := by
    have := Blk.new (W.alloc (.cells #[.int .i64 x.kr, .int .i64 x.kp] 48)) 50 [.int .i64 x.ep, .int .i64 x.ef, .int .i64 x.er]
    rw [World.size_alloc] at this
    rw [hU]
    exact this
  have hg := h.lt
  have hu := h.more hB
  obtain ⟨us0, h01, _⟩ := id hu
  have c0 := h01.1.pre.1
  have hgl := h01.1.lt
  clear h01
  have HD := Lib.hid (ptDrop_any x.kr x.kp hu)
  have HU := Lib.hid hU
  have HB := Lib.hid hB
  have HK := Lib.hid hk
  have HE := Lib.hid he
  have HGW := Lib.hid hg
  have HLE : Hid ((withoutL l x.kr x.kp).length < 5) := Lib.hid (by have := without_len l x.kr x.kp; omega)
  have HC := Lib.hid hc
  have HPL : Hid (putL room l x = if (room : Int) < ((withoutL l x.kr x.kp).length + 1 : Nat) then (withoutL l x.kr x.kp ++ [x]).drop 1 else withoutL l x.kr x.kp ++ [x]) := Lib.hid rfl
  generalize putL room l x = PL at HPL ⊢
  have k0 := hk.cell (j := 0) rfl
  have k1 := hk.cell (j := 1) rfl
  have kl := hk.lt
  clear hU hB hk he h hu hl hr hc
  go_enter Tryz.func75, Tryz.ntmps75
  go_upto_region 1 with fail
  rw [← HU.out]
  clear HU
  go_wp2_with fail
  refine HD.out.mono ?_
  rintro e w1 ⟨rfl, hp1, hk1⟩
  obtain ⟨us, hh, hrel, hcs, hc0⟩ := hp1
  have HH := Lib.hid hh
  have HREL := Lib.hid hrel
  have HCS := Lib.hid hcs
  have HC0 := Lib.hid hc0
  have HU5 : Hid (us.length < 5) := Lib.hid (by rw [hrel.len]; exact HLE.out)
  have HK1 := Lib.hid ((Kq.of_below HB.out).trans hk1)
  have hk9 := HK.out.kq hk1 (by have := HGW.out; simp; omega)
  have he9 := HE.out.kq hk1 (by have := HGW.out; simp; omega)
  have HBK : Hid (W.heap.size ∉ [g] ∧ W.heap.size + 1 ∉ [g]) := Lib.hid (by have := HGW.out; simp; omega)
  have k0 := hk9.cell (j := 0) rfl
  have k1 := hk9.cell (j := 1) rfl
  have kl := hk9.lt
  have e0 := he9.cell (j := 0) rfl
  have e1 := he9.cell (j := 1) rfl
  have e2 := he9.cell (j := 2) rfl
  have el := he9.lt
  clear hh hrel hcs hc0 hk1 hk9 he9 c0 hgl HD hg
  obtain ⟨kr, kp, ep, ef, er⟩ := x
  dsimp only at k0 k1 e0 e1 e2 HPL HREL HLE ⊢
  go_upto_region 4 with fail
  apply wp_region_autoL [19, 20, 21, 22, 23, 24, 25, 26, 27, 28, 29] [_, _, _, _, _, _, _, _, _, _, _] (fun L' W' => Kq [g] w1 W' ∧ HP W' g 175 (hd3 room (cond (L' 8) (c + 1) c)) us)
  case hm => kernel_rfl
  case hT => intro y; simp only [setAll, List.setIfInBounds_toArray, List.set_cons_succ, List.set_cons_zero]; exact rfl
  case hok => kernel_rfl
  case hn => decide
  case hw => exact (fun L' h0 => ⟨kq_drew (Kq.refl _ _), by rw [h0 8 (by decide)]; exact ⟨HH.out.1.of_block rfl, HH.out.2⟩⟩)
  case hs =>
    refine autoC_op 19 [] (by kernel_rfl) (fun L y w' hL hC HW hd K hK => ?_) ?_
    · go_simp
      refine hK _ _ ?_ ?_ HW
      · simp [upd]
      · exact rfl
    refine autoC_op 20 [0] (by kernel_rfl) (fun L y w' hL hC HW hd K hK => ?_) ?_
    · have e0 := hd_nth (hd 0 (by simp)) rfl
      go_simp
      refine hK _ _ ?_ ?_ HW
      · simp [upd, e0]
      · exact rfl
    refine autoC_op 21 [1] (by kernel_rfl) (fun L y w' hL hC HW hd K hK => ?_) ?_
    · have e1 := hd_nth (hd 1 (by simp)) rfl
      go_simp
      refine hK _ _ ?_ ?_ HW
      · simp [upd, e1]
      · exact rfl
    refine autoC_op 22 [2] (by kernel_rfl) (fun L y w' hL hC HW hd K hK => ?_) ?_
    · have e2 := hd_nth (hd 2 (by simp)) rfl
      go_simp
      refine hK _ _ ?_ ?_ HW
      · simp [upd, e2]
      · exact rfl
    refine autoC_op 23 [] (by kernel_rfl) (fun L y w' hL hC HW hd K hK => ?_) ?_
    · have m0 := (HW.1.cell (p := ⟨W.heap.size, 0, none⟩) kl HBK.out.1).trans k0
      have m1 := (HW.1.cell (p := ⟨W.heap.size, 1, none⟩) kl HBK.out.1).trans k1
      go_simp
      refine hK _ _ ?_ ?_ HW
      · simp [upd]
      · exact rfl
    refine autoC_op 24 [] (by kernel_rfl) (fun L y w' hL hC HW hd K hK => ?_) ?_
    · have m0 := (HW.1.cell (p := ⟨W.heap.size + 1, 0, none⟩) el HBK.out.2).trans e0
      have m1 := (HW.1.cell (p := ⟨W.heap.size + 1, 1, none⟩) el HBK.out.2).trans e1
      have m2 := (HW.1.cell (p := ⟨W.heap.size + 1, 2, none⟩) el HBK.out.2).trans e2
      go_simp
      refine hK _ _ ?_ ?_ HW
      · simp [upd]
      · exact rfl
    refine autoC_op 25 [4, 5] (by kernel_rfl) (fun L y w' hL hC HW hd K hK => ?_) ?_
    · have e4 := hd_nth (hd 4 (by simp)) rfl
      have e5 := hd_nth (hd 5 (by simp)) rfl
      go_simp
      refine hK _ _ ?_ ?_ HW
      · simp [upd, e4, e5]
      · exact rfl
    refine autoC_op 26 [] (by kernel_rfl) (fun L y w' hL hC HW hd K hK => ?_) ?_
    · go_simp
      refine hK _ _ ?_ ?_ HW
      · simp [upd]
      · exact rfl
    refine autoC_op 27 [7] (by kernel_rfl) (fun L y w' hL hC HW hd K hK => ?_) ?_
    · have e7 := hd_nth (hd 7 (by simp)) rfl
      have hq : HP w' g 175 (hd3 room c) us := by have q := HW.2; rw [hL] at q; exact q
      go_simp
      refine (next_any hq.1 HC0.out HC.out).mono ?_
      rintro e w5 ⟨rfl, hl5, hk5⟩
      refine hK _ _ ?_ ?_ ⟨HW.1.trans hk5, hl5, HW.2.2⟩
      · simp [upd, e7]
      · exact rfl
    refine autoC_op 28 [6, 8] (by kernel_rfl) (fun L y w' hL hC HW hd K hK => ?_) ?_
    · have e6 := hd_nth (hd 6 (by simp)) rfl
      have e8 := hd_nth (hd 8 (by simp)) rfl
      go_simp
      refine hK _ _ ?_ ?_ HW
      · simp [upd, e6, e8]
      · exact rfl
    refine autoC_op 29 [9] (by kernel_rfl) (fun L y w' hL hC HW hd K hK => ?_) ?_
    · have e9 := hd_nth (hd 9 (by simp)) rfl
      go_simp
      refine hK _ _ ?_ ?_ HW
      · simp [upd, e9]
      · exact rfl
    refine autoL_last fun L y w' hLs HW hd K hK => ?_
    have e0 := hd_nth (hd 0 (by omega)) rfl
    have e1 := hd_nth (hd 1 (by omega)) rfl
    have e2 := hd_nth (hd 2 (by omega)) rfl
    have e3 := hd_nth (hd 3 (by omega)) rfl
    have e4 := hd_nth (hd 4 (by omega)) rfl
    have e5 := hd_nth (hd 5 (by omega)) rfl
    have e6 := hd_nth (hd 6 (by omega)) rfl
    have e7 := hd_nth (hd 7 (by omega)) rfl
    have e8 := hd_nth (hd 8 (by omega)) rfl
    have e9 := hd_nth (hd 9 (by omega)) rfl
    have e10 := hd_nth (hd 10 (by omega)) rfl
    have hq : HP w' g 175 (hd3 room (c + 1)) us := by
      have q := HW.2
      rw [hLs 8 (by decide)] at q
      exact q
    have HK2 := Lib.hid (HK1.out.trans HW.1)
    go_simp
    refine (hpush18 (o := 3) hq rfl (⟨kr, kp, ep, ef, er⟩, c + 1) HU5.out).mono ?_
    rintro e w3 ⟨rfl, ⟨us2, hh2, hp2⟩, hk3⟩
    refine hK _ _ ?_
    clear hd hK K
    obtain ⟨hr2, hc2⟩ := HREL.out.put (x := ⟨kr, kp, ep, ef, er⟩) HCS.out hp2
    have HH2 := Lib.hid hh2
    have HR2 := Lib.hid hr2
    have HC2 := Lib.hid hc2
    have HK3 := Lib.hid (HK2.out.trans hk3)
    have hn2 : us2.length = (withoutL l kr kp).length + 1 := by rw [hr2.len, List.length_append]; rfl
    have HC3 : Hid (0 ≤ c + 1) := Lib.hid (by have := HC0.out; omega)
    have c3 := hh2.1.cell0 (o := 3) rfl
    have c1 := hh2.1.pre.2.1
    have gl := hh2.1.lt
    rw [hn2] at c3
    have HN2 := Lib.hid hn2
    generalize (withoutL l kr kp).length = n at HPL c3 HN2
    clear hh2 hr2 hc2 hk3 hn2 hp2 hq HW
    by_cases hroom : room < ((n + 1 : Nat) : Int)
    · have HE9 : Hid (PL = (withoutL l kr kp ++ [(⟨kr, kp, ep, ef, er⟩ : Rc)]).drop 1) := Lib.hid (HPL.out.trans (if_pos hroom))
      clear HPL
      go_upto_region 5 with fail
      go_quiet (fail)
      have HF := Lib.hid (first_yes (o := 3) (HH2.out.drewN nq) rfl (by have := HN2.out; omega))
      have HK4 := Lib.hid (kq_drewN HK3.out nq)
      generalize w3.drewN nq = w4 at HF HK4 ⊢
      clear c3 c1 gl
      go_wp2_with fail
      refine HF.out.mono ?_
      rintro e w5 ⟨⟨c', r, rfl, HH5, HL5⟩, hk5⟩
      have HK5 := Lib.hid (HK4.out.trans hk5)
      have HP9 : Hid (PT w5 g room (c + 1) PL) := Lib.hid (by
        obtain ⟨hp, hle⟩ := HL5.out
        have hr := (HR2.out.perm hp.symm).least (fun v hv => hle v (hp.mem_iff.1 (List.mem_cons_of_mem _ hv)))
        rw [HE9.out]
        exact ⟨r, HH5.out, hr.2, fun u hu => HC2.out u (hp.mem_iff.1 (List.mem_cons_of_mem _ hu)), HC3.out⟩)
      clear hk5 HF
      go_wp2
      go_ret
      exact ⟨rfl, HP9.out, HK5.out⟩
    · have HE9 : Hid (PL = withoutL l kr kp ++ [(⟨kr, kp, ep, ef, er⟩ : Rc)]) := Lib.hid (HPL.out.trans (if_neg hroom))
      clear HPL
      go_upto_region 5 with fail
      go_quiet (fail)
      go_wp2
      go_ret
      exact ⟨rfl, ⟨us2, HH2.out.drewN _, by rw [HE9.out]; exact HR2.out, HC2.out, HC3.out⟩, kq_drewN HK3.out _⟩
end
end Go.Proofs.YteaincdeoajkeaaGreatDoor.Sb
end
