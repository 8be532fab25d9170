/- Package shadow: slices.IndexFunc, slices.ContainsFunc over its translations, Table, Len. -/
import Derived.Test.YtcdiigdbjncpeaaJs
namespace Go.Proofs.Ytcdiigdbjncpeaa.Sw
open Go.RowKit Ut
set_option maxRecDepth 100000
set_option linter.unusedVariables false
set_option maxHeartbeats 4000000

/-- a closure that says which ones are meant, in all worlds in which nothing but T has turned since W0 -/
def IsL (W0 : World) (T : List Nat) (fi : Nat) (caps : Array Value) (P : Ln → Bool) : Prop :=
  (∀ args w, (callFunc fi args).run Try.prog w = .ok (.enter fi args) w) ∧ ∀ (x : Ln) (w : World), Kq T W0 w → Calls Try.prog fi (#[x.v] ++ caps) w fun e w' => e = .returned (.bool (P x)) ∧ Below w.heap.size w w'
/-- what IndexFunc answers -/
def IdxP (P : Ln → Bool) (l : List Ln) (z : Int) : Prop := (∃ (i : Nat) (x : Ln), z = (i : Nat) ∧ l[i]? = some x ∧ P x = true ∧ ∀ y ∈ l.take i, P y = false) ∨ (z = -1 ∧ ∀ y ∈ l, P y = false)
theorem isL_key {W : World} {T : List Nat} (p q : Int) (k : Nat) (hk : Blk W k 30 [.int .i64 p, .int .i64 q]) (hT : k ∉ T) : IsL W T 39 #[.pointer (some ⟨k, 0, none⟩)] (fun x => x.is p q) :=
  ⟨fun _ _ => rfl, fun x w' hw => hasKey119_any p q k x w' (hk.kq hw hT)⟩
theorem isL_through {W : World} {T : List Nat} (p : Int) (k : Nat) (hk : Blk W k 3 [.int .i64 p]) (hT : k ∉ T) : IsL W T 40 #[.pointer (some ⟨k, 0, none⟩)] (fun x => x.by_ p) :=
  ⟨fun _ _ => rfl, fun x w' hw => through1_any p k x w' (hk.kq hw hT)⟩
theorem isL_flush {W : World} {T : List Nat} : IsL W T 38 #[] (fun _ => true) :=
  ⟨fun _ _ => rfl, fun x w' hw => by rw [Array.append_empty]; exact flush119_any x w'⟩
section
variable {W W' : World} {g fi : Nat} {m : Bool} {l : List Ln} {caps : Array Value} {P : Ln → Bool}
theorem indexFunc19 (a : Option Addr) (c : Nat) (h : LnRow W a l) (hl : l.length ≤ 1000) (hi : IsL W [] fi caps P) :
    Calls Try.prog 28 #[.slice a l.length c, .func (.func fi) #[] caps] W fun e w' => (∃ z, e = .returned (.int .i64 z) ∧ IdxP P l z) ∧ Below W.heap.size W w' := by
  obtain ⟨hen, hc⟩ := hi
  have HR := Lib.hid h
  have HC := Lib.hid hc
  obtain ⟨n, hn⟩ : ∃ n : Nat, l.length = n := ⟨_, rfl⟩
  rw [hn] at hl ⊢
  have HLN := Lib.hid hn
  have hn0 : (n : Int) ≤ 1000 := by omega
  clear h hc hn hl
  go_enter Try.func28, Try.ntmps28
  go_wp2
  go_loopw [8] (fun j wr => ∃ k : Nat, k ≤ n ∧ j = .int .i64 k ∧ Hid (∀ u ∈ l.take k, P u = false) ∧ Hid (Below W.heap.size W wr)) (fun j _ => n - (intOf j).toNat)
  case atStart => exact ⟨0, Nat.zero_le _, rfl, Lib.hid (by simp), Lib.hid (Below.refl _ _)⟩
  case round =>
    obtain ⟨k, hk, rfl, HNO, HB⟩ := hrel
    by_cases hlt : k < n
    · have hx : l[k]? = some (l[k]'(by rw [HLN.out]; exact hlt)) := List.getElem?_eq_getElem _
      obtain ⟨u, hu⟩ : ∃ u, l[k]'(by rw [HLN.out]; exact hlt) = u := ⟨_, rfl⟩
      rw [hu] at hx
      obtain ⟨y, rfl, hyb, hyb2, c0, c1, c2, c3, c4, c5, c6⟩ := LnRow.at_ (IRow.more HR.out HB.out) hx
      have b0 : (0 : Int) ≤ (k : Int) := by omega
      have b1 : (k : Int) < (n : Int) := by omega
      have HX := Lib.hid hx
      have H3 := Lib.hid hlt
      obtain ⟨t, ht⟩ : ∃ t, P u = t := ⟨_, rfl⟩
      have HCU := Lib.hid (HC.out u wr (Kq.of_below HB.out))
      rw [ht] at HCU
      have HT := Lib.hid ht
      clear hx hu hk hlt ht
      obtain ⟨kr, kp, ep, ef, er, rt, lf⟩ := u
      dsimp only [Ln.v] at c0 c1 c2 c3 c4 c5 c6 HCU
      cases t
      · have HN2 := Lib.hid (noneS HNO.out HX.out HT.out)
        go_wp2_with fail
        refine HCU.out.mono ?_
        rintro e w2 ⟨rfl, hb2⟩
        have HB2 := Lib.hid (HB.out.trans (hb2.mono HB.out.size))
        clear hb2 HCU c0 c1 c2 c3 c4 c5 c6
        go_wp2
        go_roundw
        case rel => exact ⟨k + 1, H3.out, by go_num, HN2, HB2⟩
        case measure => have := H3.out; simp [intOf]; omega
      · go_wp2_with fail
        refine HCU.out.mono ?_
        rintro e w2 ⟨rfl, hb2⟩
        have HB2 := Lib.hid (HB.out.trans (hb2.mono HB.out.size))
        clear hb2 HCU c0 c1 c2 c3 c4 c5 c6
        go_wp2
        go_ret
        exact ⟨⟨_, rfl, .inl ⟨k, _, rfl, HX.out, HT.out, HNO.out⟩⟩, HB2.out⟩
    · obtain rfl : k = n := by omega
      have b1 : ¬ (k : Int) < (k : Int) := by omega
      have HF : Hid (IdxP P l (-1)) := Lib.hid (.inr ⟨rfl, by have := HNO.out; rwa [← HLN.out, List.take_length] at this⟩)
      go_wp2
      go_ret
      exact ⟨⟨_, rfl, HF.out⟩, HB.out⟩
theorem containsFunc19 (a : Option Addr) (c : Nat) (h : LnRow W a l) (hl : l.length ≤ 1000) (hi : IsL W [] fi caps P) :
    Calls Try.prog 31 #[.slice a l.length c, .func (.func fi) #[] caps] W fun e w' => e = .returned (.bool (l.any P)) ∧ Below W.heap.size W w' := by
  have HI := Lib.hid (indexFunc19 a c h hl hi)
  clear h hi
  generalize l.length = n at HI hl ⊢
  go_enter Try.func31, Try.ntmps31
  go_wp2_with fail
  refine HI.out.mono ?_
  rintro e w1 ⟨⟨z, rfl, hz⟩, hb⟩
  have HB := Lib.hid hb
  rcases hz with ⟨i, x, rfl, hx, hp, _⟩ | ⟨rfl, hno⟩
  · have HT : Hid (l.any P = true) := Lib.hid (List.any_eq_true.2 ⟨x, List.mem_of_getElem? hx, hp⟩)
    have t0 : (0 : Int) ≤ (i : Int) := by omega
    clear hx hp HI hb
    go_wp2
    go_ret
    exact ⟨by rw [HT.out]; rfl, HB.out⟩
  · have HT : Hid (l.any P = false) := Lib.hid (List.any_eq_false.2 (fun y hy => by rw [hno y hy]; decide))
    clear hno HI hb
    go_wp2
    go_ret
    exact ⟨by rw [HT.out]; rfl, HB.out⟩
theorem idx_ex (P : Ln → Bool) : ∀ l : List Ln, ∃ z, IdxP P l z := fun l => by
  cases h : l.findIdx? P with
  | none => exact ⟨-1, .inr ⟨rfl, fun y hy => by have := List.findIdx?_eq_none_iff.1 h y hy; exact this⟩⟩
  | some i =>
    obtain ⟨hi, h1, h2⟩ := List.findIdx?_eq_some_iff_getElem.1 h
    exact ⟨i, .inl ⟨i, l[i], rfl, List.getElem?_eq_getElem hi, h1, fun y hy => by
      obtain ⟨j, hj, rfl⟩ := List.mem_take_iff_getElem.1 hy
      have := h2 j (by omega)
      simpa using this⟩⟩
theorem idx_one {z z' : Int} (h : IdxP P l z) (h' : IdxP P l z') : z = z' := by
  rcases h with ⟨i, x, rfl, hx, hp, hn⟩ | ⟨rfl, hn⟩ <;> rcases h' with ⟨j, y, rfl, hy, hq, hm⟩ | ⟨rfl, hm⟩
  · rcases Nat.lt_trichotomy i j with hij | rfl | hij
    · have := hm x (List.mem_take_iff_getElem.2 ⟨i, by have := (List.getElem?_eq_some_iff.1 hx).1; omega, (List.getElem?_eq_some_iff.1 hx).2⟩)
      rw [hp] at this
      cases this
    · rfl
    · have := hn y (List.mem_take_iff_getElem.2 ⟨j, by have := (List.getElem?_eq_some_iff.1 hy).1; omega, (List.getElem?_eq_some_iff.1 hy).2⟩)
      rw [hq] at this
      cases this
  · have := hm x (List.mem_of_getElem? hx)
    rw [hp] at this
    cases this
  · have := hn y (List.mem_of_getElem? hy)
    rw [hq] at this
    cases this
  · rfl
/-- what there answers: v is the shadow, or nil (then nothing is there) -/
def ThP (W : World) (v : Value) (l : List Ln) : Prop := l.length ≤ 32 ∧ ∃ (a : Option Addr) (c : Nat), (∀ V, Below W.heap.size W V → Calls Try.prog 29 #[v] V fun e w' => e = .returned (.slice a l.length c) ∧ Below V.heap.size V w') ∧ LnRow W a l
theorem LS19.th (h : LS19 W g m l) : ThP W (.pointer (some ⟨g, 0, none⟩)) l := ⟨h.len, _, 32, fun V hb => there_any (h.more hb), h.row⟩
theorem th_nil (W : World) : ThP W (.pointer none) [] := ⟨by simp, none, 0, fun V _ => (there_nil V).mono fun e w' ⟨h1, h2⟩ => ⟨h1, by rw [← h2]; exact Below.refl _ _⟩, IRow.nil _ _ _⟩
theorem ThP.more {v : Value} (h : ThP W v l) (hb : Below W.heap.size W W') : ThP W' v l := by
  obtain ⟨h1, a, c, h2, h3⟩ := h
  exact ⟨h1, a, c, fun V hV => h2 V (hb.trans (hV.mono hb.size)), IRow.more h3 hb⟩
theorem shLen_any {v : Value} (h : ThP W v l) : Calls Try.prog 16 #[v] W fun e w' => e = .returned (.int .i64 l.length) ∧ Below W.heap.size W w' := by
  obtain ⟨_, a, c, hc, _⟩ := h
  have HC := Lib.hid (hc W (Below.refl _ _))
  clear hc
  generalize l.length = n at HC ⊢
  go_enter Try.func16, Try.ntmps16
  go_wp2_with fail
  refine HC.out.mono ?_
  rintro e w1 ⟨rfl, hb⟩
  have HB := Lib.hid hb
  clear hb HC
  go_wp2
  go_ret
  exact ⟨rfl, HB.out⟩
theorem shTable_any {v : Value} (p : Int) (h : ThP W v l) : Calls Try.prog 20 #[v, .int .i64 p] W fun e w' => e = .returned (.bool (tabL l p)) ∧ Below W.heap.size W w' := by
  obtain ⟨h32, a, c, hc, hr⟩ := h
  have HC := Lib.hid (hc W (Below.refl _ _))
  have HR := Lib.hid hr
  have HF : Hid (∀ (w w1 : World), Below W.heap.size W w → Blk w1 w.heap.size 3 [.int .i64 p] → Below w.heap.size w w1 → Calls Try.prog 31 #[.slice a l.length c, .func (.func 40) #[] #[.pointer (some ⟨w.heap.size, 0, none⟩)]] w1 fun e w' => e = .returned (.bool (tabL l p)) ∧ Below W.heap.size W w') := Lib.hid fun w w1 hb hk hb1 =>
    have hbb : Below W.heap.size W w1 := hb.trans (hb1.mono hb.size)
    (containsFunc19 a c (IRow.more hr hbb) (by omega) (isL_through p w.heap.size hk (by simp))).mono fun e w' ⟨h1, h2⟩ => ⟨h1, hbb.trans (h2.mono hbb.size)⟩
  clear hc hr h32
  generalize l.length = n at HC HF
  generalize tabL l p = t at HF ⊢
  go_enter Try.func20, Try.ntmps20
  go_wp2_with fail
  refine HC.out.mono ?_
  rintro e w1 ⟨rfl, hb⟩
  have HB := Lib.hid hb
  clear hb HC
  go_wp2_with fail
  refine (through_any p w1).mono ?_
  rintro e w2 ⟨rfl, hk, hb2⟩
  have HF2 := Lib.hid (HF.out w1 w2 HB.out hk hb2)
  clear hk hb2 HF
  go_wp2_with fail
  refine HF2.out.mono ?_
  rintro e w3 ⟨rfl, hb3⟩
  have HB3 := Lib.hid hb3
  clear hb3
  go_wp2
  go_ret
  exact ⟨rfl, HB3.out⟩
end
end Go.Proofs.Ytcdiigdbjncpeaa.Sw
