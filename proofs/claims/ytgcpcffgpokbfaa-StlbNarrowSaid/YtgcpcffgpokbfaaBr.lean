/- Package stlb: what it remembers, told by the document's list; Len, Drop, Gone, Flush. -/
import Derived.Test.YtgcpcffgpokbfaaBq
namespace Go.Proofs.Ytgcpcffgpokbfaa.Sb
open Go.RowKit Ut Hg
set_option maxRecDepth 100000
set_option linter.unusedVariables false
set_option maxHeartbeats 4000000

/-- the program's translations at g: those of l, whose last use is longest ago first; c is the number of the last use -/
def PT (W : World) (g : Nat) (room c : Int) (l : List Rc) : Prop := ∃ us, HP W g 62 (hd3 room c) us ∧ Rel us l ∧ (∀ u ∈ us, u.2 ≤ c) ∧ 0 ≤ c
theorem Rel.count {us : List Us} {l : List Rc} (h : Rel us l) (P : Rc → Bool) : (us.countP fun u => P u.1) = l.countP P := by
  obtain ⟨_, o, h1, _, rfl⟩ := h
  rw [List.countP_map, ← h1.countP_eq]
  rfl
theorem count_find (l : List Rc) (p q : Int) : decide (0 < (l.countP fun x => x.is p q)) = (findL l p q).isSome := by
  unfold findL
  cases h : l.find? (fun x => x.is p q) with
  | none =>
    rw [List.countP_eq_zero.2 (fun x hx => by simpa using List.find?_eq_none.1 h x hx)]
    rfl
  | some x =>
    have h1 : 0 < l.countP fun x => x.is p q := List.countP_pos_iff.2 ⟨x, List.mem_of_find?_eq_some h, by simpa using List.find?_some h⟩
    simp only [h1]
    rfl
theorem gone_count (l : List Rc) (pg : Int) : ((l.countP fun x => x.ep == pg : Nat) : Int) = (l.length : Int) - ((goneL l pg).length : Int) := by
  have h := List.length_eq_countP_add_countP (fun x : Rc => x.ep == pg) (l := l)
  have e : (goneL l pg).length = l.countP fun x => !(x.ep == pg) := by unfold goneL; rw [List.countP_eq_length_filter]
  have e2 : (l.countP fun x : Rc => decide (¬ (x.ep == pg) = true)) = l.countP fun x => !(x.ep == pg) := by
    congr 1
    funext x
    cases x.ep == pg <;> rfl
  rw [e2] at h
  omega

section
variable {W W0 : World} {g : Nat} {room c : Int} {l : List Rc}
theorem PT.lt (h : PT W g room c l) : g < W.heap.size := h.elim fun _ h => h.1.1.lt
theorem PT.kq {T : List Nat} {W' : World} (h : PT W g room c l) (k : Kq T W W') (hg : g ∉ T) : PT W' g room c l := by
  obtain ⟨us, h1, h2⟩ := h
  exact ⟨us, ⟨h1.1.kq k hg, h1.2⟩, h2⟩
theorem PT.more {W' : World} (h : PT W g room c l) (hb : Below W.heap.size W W') : PT W' g room c l := h.kq (T := []) (Kq.of_below hb) (by simp)
theorem PT.len (h : PT W g room c l) : l.length ≤ 5 := by
  obtain ⟨us, h1, h2, _⟩ := h
  rw [← h2.len]
  exact h1.1.len
theorem PT.made {W' : World} (h : HP W g 62 (hd3 room 0) []) : PT W g room 0 [] := ⟨[], h, Rel.nil, (fun u hu => absurd hu List.not_mem_nil), Int.le_refl _⟩
theorem ptLen_any (h : PT W g room c l) : Calls Try.prog 22 #[.pointer (some ⟨g, 0, none⟩)] W fun e w' => e = .returned (.int .i64 (l.length : Nat)) ∧ W = w' := by
  obtain ⟨us, h1, h2, _⟩ := h
  rw [← h2.len]
  exact tlbLen_any h1.1
/-- what forget does, told by the list -/
theorem ptForget_any {fi : Nat} {caps : Array Value} {P : Rc → Bool} (h : PT W g room c l) (hi : ∀ w, Below W.heap.size W w → IsC w g fi caps P) :
    Calls Try.prog 31 #[.pointer (some ⟨g, 0, none⟩), .func (.func fi) #[] caps] W fun e w' => e = .returned (.int .i64 (l.countP P : Nat)) ∧ PT w' g room c (l.filter fun x => !P x) ∧ Kq [g] W w' := by
  obtain ⟨us, h1, h2, h3, h4⟩ := h
  refine (forget_any h1 hi).mono ?_
  rintro e w' ⟨rfl, ⟨us', hh⟩, hk⟩
  rw [h2.count P]
  refine ⟨rfl, ⟨us', hh.out.1, (h2.filter fun x => !P x).perm hh.out.2.symm, fun u hu => h3 u ?_, h4⟩, hk⟩
  exact (List.mem_filter.1 (hh.out.2.mem_iff.1 hu)).1
theorem isC_key (p q : Int) (k : Nat) (w : World) (hk : Blk w k 38 [.int .i64 p, .int .i64 q]) (hg : k ≠ g) : IsC w g 39 #[.pointer (some ⟨k, 0, none⟩)] (fun x => x.is p q) :=
  ⟨fun _ _ => rfl, fun x w' hw => hasKey1_any p q k x w' (hk.kq hw (by simpa using hg))⟩
theorem ptDrop_any (p q : Int) (h : PT W g room c l) :
    Calls Try.prog 13 #[.pointer (some ⟨g, 0, none⟩), .agg #[.int .i64 p, .int .i64 q]] W fun e w' => e = .returned (.bool (findL l p q).isSome) ∧ PT w' g room c (withoutL l p q) ∧ Kq [g] W w' := by
  obtain ⟨U, hU⟩ : ∃ U, U = W.alloc (.cells #[.int .i64 p, .int .i64 q] 38) := ⟨_, rfl⟩
  have hB : Below W.heap.size W U := by rw [hU]; exact (Below.refl _ _).alloc (Nat.le_refl _) _
  have hN : Blk U W.heap.size 38 [.int .i64 p, .int .i64 q] := by rw [hU]; exact Blk.new W _ [.int .i64 p, .int .i64 q]
  have k0 := hN.cell (j := 0) rfl
  have k1 := hN.cell (j := 1) rfl
  have kl := hN.lt
  have HU := Lib.hid hU
  have HB := Lib.hid hB
  have HP := Lib.hid (h.more hB)
  have HE := Lib.hid (count_find l p q)
  clear h hB hN hU
  generalize (findL l p q).isSome = t at HE ⊢
  go_enter Try.func13, Try.ntmps13
  go_upto_region 1 with fail
  rw [← HU.out]
  clear HU
  go_wp2_with fail
  refine (hasKey_any p q U).mono ?_
  rintro e w1 ⟨rfl, hk, hb1⟩
  have HF := Lib.hid (ptForget_any (HP.out.more hb1) (fun w hw => isC_key p q U.heap.size w (hk.more hw) (fun e => by have := HP.out.lt; omega)))
  have HB1 := Lib.hid (HB.out.trans (hb1.mono HB.out.size))
  clear k0 k1 kl hk hb1
  go_wp2_with fail
  refine HF.out.mono ?_
  rintro e w2 ⟨rfl, hp, hk⟩
  have HP2 : Hid (PT w2 g room c (withoutL l p q)) := Lib.hid hp
  have HK2 := Lib.hid ((Kq.of_below HB1.out).trans hk)
  clear hp hk HF
  generalize (l.countP fun x => x.is p q) = n at HE ⊢
  go_wp2
  go_ret
  exact ⟨by rw [← HE.out]; rfl, HP2.out, HK2.out⟩
theorem ptGone_any (pg : Int) (h : PT W g room c l) :
    Calls Try.prog 15 #[.pointer (some ⟨g, 0, none⟩), .int .i64 pg] W fun e w' => e = .returned (.int .i64 ((l.length : Int) - ((goneL l pg).length : Int))) ∧ PT w' g room c (goneL l pg) ∧ Kq [g] W w' := by
  obtain ⟨U, hU⟩ : ∃ U, U = W.alloc (.cells #[.int .i64 pg] 3) := ⟨_, rfl⟩
  have hB : Below W.heap.size W U := by rw [hU]; exact (Below.refl _ _).alloc (Nat.le_refl _) _
  have hN : Blk U W.heap.size 3 [.int .i64 pg] := by rw [hU]; exact Blk.new W _ [.int .i64 pg]
  have HU := Lib.hid hU
  have HB := Lib.hid hB
  have HF := Lib.hid (ptForget_any (P := fun x => x.ep == pg) (fi := 32) (caps := #[.pointer (some ⟨W.heap.size, 0, none⟩)]) (h.more hB) (fun w hw => ⟨fun _ _ => rfl, fun x w' hk => gone1_any pg W.heap.size x w' ((hN.more hw).kq hk (by have := h.lt; simp; omega))⟩))
  rw [gone_count] at HF
  clear h hB hN hU
  generalize ((l.length : Int) - ((goneL l pg).length : Int)) = n at HF ⊢
  go_enter Try.func15, Try.ntmps15
  go_upto_region 1 with fail
  rw [← HU.out]
  clear HU
  go_wp2_with fail
  refine HF.out.mono ?_
  rintro e w2 ⟨rfl, hp, hk⟩
  have HP2 : Hid (PT w2 g room c (goneL l pg)) := Lib.hid hp
  have HK2 := Lib.hid ((Kq.of_below HB.out).trans hk)
  clear hp hk HF
  go_wp2
  go_ret
  exact ⟨rfl, HP2.out, HK2.out⟩
theorem ptFlush_any (h : PT W g room c l) :
    Calls Try.prog 19 #[.pointer (some ⟨g, 0, none⟩)] W fun e w' => e = .returned (.int .i64 (l.length : Nat)) ∧ PT w' g room c [] ∧ Kq [g] W w' := by
  have hF := ptForget_any (P := fun _ => true) (fi := 36) (caps := #[]) h (fun w hw => ⟨fun _ _ => rfl, fun x w' hk => by rw [Array.append_empty]; exact flush1_any x w'⟩)
  have e1 : (l.countP fun _ => true) = l.length := by simp
  have e2 : (l.filter fun _ => !true) = [] := by simp
  rw [e1, e2] at hF
  have HF := Lib.hid hF
  clear hF h e1 e2
  generalize l.length = n at HF ⊢
  go_enter Try.func19, Try.ntmps19
  go_wp2_with fail
  refine HF.out.mono ?_
  rintro e w2 ⟨rfl, hp, hk⟩
  have HP2 := Lib.hid hp
  have HK2 := Lib.hid hk
  clear hp hk HF
  go_wp2
  go_ret
  exact ⟨rfl, HP2.out, HK2.out⟩
end
end Go.Proofs.Ytgcpcffgpokbfaa.Sb
