/- Several texts in one: Ph Pi Pj -/
import Derived.Test.YtikkfapgmbamlaaGreatDoorZ16
import Derived.Test.YtikkfapgmbamlaaGreatDoorZ15
import Derived.Maps.OwnIn
section
/- (*Table).Give. (Laid by wip/tools/gen_give.py.) -/
namespace Go.Proofs.YtikkfapgmbamlaaGreatDoor.Pt
open Go.RowKit Go.Shelf Ut
set_option linter.unusedVariables false

theorem seekR_fine (i : Int) (xs : List BR) : 0 ≤ (seekR i xs).f ∧ (seekR i xs).f ≤ 64 ∧ 0 ≤ (seekR i xs).n ∧ (seekR i xs).n ≤ 64 := by
  unfold seekR
  cases seek i xs with
  | none => simp [R3.zero]
  | some x => have h := x.2; unfold Fine at h; exact ⟨h.1, h.2.1, h.2.2.1, h.2.2.2.1⟩

/-- Give's arguments can't be -/
def badArg (f n who : Int) (xs : List BR) : Prop := f < 0 ∨ n < 1 ∨ sumN xs - n < f ∨ isOwn who = false

theorem give_nil (f n who : Int) (w : World) :
    Calls Tryz.prog 66 #[.pointer none, .int .i64 f, .int .i64 n, .int .i64 who] w fun e W' => e = .returned (.int .i64 7) ∧ w = W' := by
  go_enter Tryz.func66, Tryz.ntmps66
  go_wp2_with fail
  go_ret
  exact ⟨rfl, rfl⟩
theorem give_unmade (bt : Nat) (f n who : Int) (w : World) (hc : w.cell? ⟨bt, 0, none⟩ = some (.bool false)) :
    Calls Tryz.prog 66 #[.pointer (some ⟨bt, 0, none⟩), .int .i64 f, .int .i64 n, .int .i64 who] w fun e W' => e = .returned (.int .i64 7) ∧ w = W' := by
  go_enter Tryz.func66, Tryz.ntmps66
  go_wp2_with fail
  go_ret
  exact ⟨rfl, rfl⟩

theorem give_arg (bt : Nat) (f n who : Int) (xs : List BR) (w : World) (hM : Mach w bt (xs.map (·.1))) (hl : xs.length ≤ 64) (hn : -9223372036854775808 ≤ n ∧ n < 9223372036854775808) (hbad : badArg f n who xs) :
    Calls Tryz.prog 66 #[.pointer (some ⟨bt, 0, none⟩), .int .i64 f, .int .i64 n, .int .i64 who] w fun e W' => e = .returned (.int .i64 1) ∧ Below w.heap.size w W' := by
  have hT := hM.tbl
  obtain ⟨v, hv, _⟩ := hM
  have c0 : w.cell? ⟨bt, 0, none⟩ = some (.bool true) := by simp [World.cell?, hv]
  have hs := sumN_bd xs
  have HV := Lib.hid hv
  clear hv
  have hb0 := Below.refl w.heap.size w
  by_cases h1 : f < 0
  · go_enter Tryz.func66, Tryz.ntmps66
    go_wp2_with fail
    go_ret
    exact ⟨rfl, hb0⟩
  · by_cases h2 : n < 1
    · go_enter Tryz.func66, Tryz.ntmps66
      go_wp2_with fail
      go_ret
      exact ⟨rfl, hb0⟩
    · by_cases h3 : sumN xs - n < f
      · go_enter Tryz.func66, Tryz.ntmps66
        go_wp2_with (go_at_call 76; refine (len_any _ xs _ hT hl).mono ?_; rintro e w1 ⟨rfl, hb1⟩)
        go_ret
        exact ⟨rfl, hb1⟩
      · have h4 : isOwn who = false := by
          unfold badArg at hbad
          rcases hbad with h | h | h | h
          · omega
          · omega
          · omega
          · exact h
        have H4 := Lib.hid h4
        have hown : ∀ W : World, Calls Tryz.prog 77 #[.int .i64 who] W fun e w' => e = .returned (.bool false) ∧ W = w' := fun W => by
          have h := isOwner_any who W
          rwa [H4.out] at h
        have HOW := Lib.hid hown
        clear h4 hbad hown
        go_enter Tryz.func66, Tryz.ntmps66
        go_wp2_with (first | (go_at_call 76; refine (len_any _ xs _ hT hl).mono ?_; rintro e w1 ⟨rfl, hb1⟩) | (go_at_call 77; refine (HOW.out _).mono ?_; rintro e w2 ⟨rfl, rfl⟩))
        go_ret
        exact ⟨rfl, hb1⟩

/-- where Give's arguments can be: the run that is given -/
theorem fine_arg {f n who : Int} {xs : List BR} (h : ¬ badArg f n who xs) (hN : sumN xs ≤ 64) : Fine ⟨f, n, who⟩ := by
  unfold badArg at h
  have h4 : isOwn who = true := by
    cases e : isOwn who with
    | true => rfl
    | false => exact absurd (.inr (.inr (.inr e))) h
  unfold isOwn at h4
  simp at h4
  unfold Fine
  simp only
  omega

set_option maxRecDepth 100000 in
set_option maxHeartbeats 4000000 in
theorem give_pre (bt : Nat) (f n who : Int) (xs : List BR) (w : World) (hM : Mach w bt (xs.map (·.1))) (hl : xs.length ≤ 64) (hN : sumN xs ≤ 64) (hgood : ¬ badArg f n who xs) (hused : (seekR f xs).w ≠ -1 ∨ (seekR f xs).f + (seekR f xs).n < f + n) :
    Calls Tryz.prog 66 #[.pointer (some ⟨bt, 0, none⟩), .int .i64 f, .int .i64 n, .int .i64 who] w fun e W' => e = .returned (.int .i64 5) ∧ Below w.heap.size w W' := by
  have hF := fine_arg hgood hN
  have hT := hM.tbl
  have hfi := seekR_fine f xs
  have h4 : isOwn who = true := by
    cases e : isOwn who with
    | true => rfl
    | false => exact absurd (.inr (.inr (.inr e))) hgood
  have hown : ∀ W : World, Calls Tryz.prog 77 #[.int .i64 who] W fun e w' => e = .returned (.bool true) ∧ W = w' := fun W => by
    have h := isOwner_any who W
    rwa [h4] at h
  have HOW := Lib.hid hown
  obtain ⟨v, hv, _⟩ := hM
  have c0 : w.cell? ⟨bt, 0, none⟩ = some (.bool true) := by simp [World.cell?, hv]
  have hs := sumN_bd xs
  have HV := Lib.hid hv
  unfold badArg at hgood
  have k1 : ¬ f < 0 := by omega
  have k2 : ¬ n < 1 := by omega
  have k3 : ¬ sumN xs - n < f := by omega
  obtain ⟨f1, f2, f3, f4, f5, f6⟩ := hF
  simp only at f1 f2 f3 f4 f5 f6
  have HT := Lib.hid hT
  have hA : ∀ W, Below w.heap.size w W → Calls Tryz.prog 78 #[.pointer (some ⟨bt, 0, none⟩), .int .i64 f] W fun e W' => e = .returned (.tuple #[.agg #[.int .i64 (seekR f xs).f, .int .i64 (seekR f xs).n, .int .i64 (seekR f xs).w], .bool (seek f xs).isSome]) ∧ Below W.heap.size W W' := fun W hb => by
    have h := at_any (some ⟨bt, 0, none⟩) f xs W ((hT.below hb).more hb.size)
    exact h
  have HA := Lib.hid hA
  obtain ⟨H, hH⟩ : ∃ H, H = seekR f xs := ⟨_, rfl⟩
  rw [← hH] at HA hfi hused
  have k3' : decide (sumN xs - n < f) = false := by simpa using k3
  have hsg : wrap64 (f + n) = f + n := IntWalk.wrap64_in _ ⟨by omega, by omega⟩
  have HSg := Lib.hid hsg
  have hsh : wrap64 (H.f + H.n) = H.f + H.n := IntWalk.wrap64_in _ ⟨by omega, by omega⟩
  have HSh := Lib.hid hsh
  clear hv h4 hown hT hA hH hgood hsg hsh
  go_enter Tryz.func66, Tryz.ntmps66
  go_wp2_with (first | (go_at_call 76; refine (len_any _ xs _ HT.out hl).mono ?_; rintro e w1 ⟨rfl, hb1⟩) | (go_at_call 77; refine (HOW.out _).mono ?_; rintro e w2 ⟨rfl, rfl⟩))
  have hbA := hb1.alloc hb1.size (.cells #[.int .i64 f, .int .i64 n, .int .i64 who] 108)
  have bG := Run3.new w1 ⟨f, n, who⟩
  have HbG := Lib.hid bG
  clear bG
  refine (HA.out _ hbA).mono ?_
  rintro e w2 ⟨rfl, hb2⟩
  have bG3 := (HbG.out.below hb2 HbG.out.lt).alloc (.cells #[.int .i64 H.f, .int .i64 H.n, .int .i64 H.w] 108)
  have bH3 := Run3.new w2 H
  have hb3 := (hbA.trans (hb2.mono hbA.size)).alloc (hbA.trans (hb2.mono hbA.size)).size (.cells #[.int .i64 H.f, .int .i64 H.n, .int .i64 H.w] 108)
  go_wp2
  obtain ⟨w3, hw3⟩ : ∃ w3, w2.alloc (.cells #[.int .i64 H.f, .int .i64 H.n, .int .i64 H.w] 108) = w3 := ⟨_, rfl⟩
  rw [hw3] at bG3 bH3 hb3 ⊢
  clear hw3
  have bG4 : Run3 w3.drew w1.heap.size ⟨f, n, who⟩ := bG3
  replace bG3 := bG4
  have bH4 : Run3 w3.drew w2.heap.size H := bH3
  replace bH3 := bH4
  by_cases hw : H.w = -1
  · have hw' : (H.w != -1) = false := by simpa using hw
    have hw2 : (H.w == -1) = true := by simpa using hw
    have he : H.f + H.n < f + n := by rcases hused with h | h; exact absurd hw h; exact h
    have he' : decide (H.f + H.n < f + n) = true := by simpa using he
    clear hw hused
    refine wp_region_by (by kernel_rfl)
      (fun y => #[.pointer (some ⟨bt, 0, none⟩), .int .i64 f, .int .i64 n, .int .i64 who, undef, undef, undef, undef, .int .i64 0, .pointer (some ⟨w1.heap.size, 0, none⟩), .pointer (some ⟨w2.heap.size, 0, none⟩), .bool (seek f xs).isSome, .pointer (some ⟨bt, 0, none⟩), .bool false, .bool false, .pointer (some ⟨bt, 0, none⟩), .pointer (some ⟨bt, 0, none⟩), .pointer (some ⟨bt, 0, none⟩), .bool true, .bool false, .bool false, .int .i64 f, .bool false, .bool false, .int .i64 n, .bool false, .bool false, .bool false, .int .i64 f, .pointer (some ⟨bt, 0, none⟩), .int .i64 (sumN xs), .int .i64 n, .int .i64 (sumN xs - n), .bool false, .bool false, .bool false, .int .i64 who, .bool true, .bool false, .bool false, .int .i64 f, .int .i64 n, .int .i64 who, .agg #[.int .i64 f, .int .i64 n, .int .i64 who], .tuple #[.agg #[.int .i64 H.f, .int .i64 H.n, .int .i64 H.w], .bool (seek f xs).isSome], .pointer (some ⟨bt, 0, none⟩), .int .i64 f, .tuple #[.agg #[.int .i64 H.f, .int .i64 H.n, .int .i64 H.w], .bool (seek f xs).isSome], .agg #[.int .i64 H.f, .int .i64 H.n, .int .i64 H.w], .bool (seek f xs).isSome, y 0, y 1, y 2, y 3, y 4, y 5, y 6, y 7, y 8, undef, undef, undef, undef, undef, undef, undef])
      (fun j v _ => match j with | 0 => v = .pointer (some ⟨w2.heap.size, 2, none⟩) | 1 => v = .int .i64 H.w | 2 => v = .bool false | 3 => v = .bool false | 4 => v = .agg #[.int .i64 f, .int .i64 n, .int .i64 who] | 5 => v = .int .i64 (f + n) | 6 => v = .agg #[.int .i64 H.f, .int .i64 H.n, .int .i64 H.w] | 7 => v = .int .i64 (H.f + H.n) | 8 => v = .bool true | _ => True)
      (fun _ W' => Run3 W' w1.heap.size ⟨f, n, who⟩ ∧ Run3 W' w2.heap.size H ∧ Below w3.heap.size w3 W') (fun _ _ _ => True) (by kernel_rfl) (by decide) (fun _ _ _ _ _ _ _ _ _ _ _ h => h) (fun _ => undef) rfl (fun _ _ => ⟨bG3, bH3, (Below.refl _ _).drew⟩) ?_
    refine steps_op [] (by kernel_rfl) (fun L y w' hL hcl HW hd K hK => ?_) ?_
    · go_simp
      exact hK _ _ _ (by simp [upd]) rfl HW trivial
    refine steps_op [0] (by kernel_rfl) (fun L y w' hL hcl HW hd K hK => ?_) ?_
    · have e0 : y 0 = .pointer (some ⟨w2.heap.size, 2, none⟩) := hd 0 (by simp)
      obtain ⟨b1, b2, b3⟩ := HW.2.1.cell
      go_simp
      exact hK _ _ _ (by simp [upd, e0]) rfl HW trivial
    refine steps_op [1] (by kernel_rfl) (fun L y w' hL hcl HW hd K hK => ?_) ?_
    · have e1 : y 1 = .int .i64 H.w := hd 1 (by simp)
      go_simp
      exact hK _ _ _ (by simp [upd, e1]) rfl HW trivial
    refine steps_op [2] (by kernel_rfl) (fun L y w' hL hcl HW hd K hK => ?_) ?_
    · have e2 : y 2 = .bool false := hd 2 (by simp)
      go_simp
      exact hK _ _ _ (by simp [upd, e2]) rfl HW trivial
    refine steps_op [3] (by kernel_rfl) (fun L y w' hL hcl HW hd K hK => ?_) ?_
    · have e3 : y 3 = .bool false := hd 3 (by simp)
      obtain ⟨a1, a2, a3⟩ := HW.1.cell
      go_simp
      exact hK _ _ _ (by simp [upd, e3]) rfl HW trivial
    refine steps_op [4, 3, 3] (by kernel_rfl) (fun L y w' hL hcl HW hd K hK => ?_) ?_
    · have e3 : y 3 = .bool false := hd 3 (by simp)
      have e4 : y 4 = .agg #[.int .i64 f, .int .i64 n, .int .i64 who] := hd 4 (by simp)
      go_simp
      refine (end_any ⟨f, n, who⟩ _).mono ?_
      rintro e w4 ⟨rfl, rfl⟩
      exact hK (.int .i64 (f + n)) _ _ (by simp [upd, e3, e4, HSg.out]) rfl ⟨HW.1.alloc _, HW.2.1.alloc _, HW.2.2.alloc HW.2.2.size _⟩ trivial
    refine steps_op [3] (by kernel_rfl) (fun L y w' hL hcl HW hd K hK => ?_) ?_
    · have e3 : y 3 = .bool false := hd 3 (by simp)
      obtain ⟨b1, b2, b3⟩ := HW.2.1.cell
      go_simp
      exact hK _ _ _ (by simp [upd, e3]) rfl HW trivial
    refine steps_op [6, 5, 3] (by kernel_rfl) (fun L y w' hL hcl HW hd K hK => ?_) ?_
    · have e3 : y 3 = .bool false := hd 3 (by simp)
      have e5 : y 5 = .int .i64 (f + n) := hd 5 (by simp)
      have e6 : y 6 = .agg #[.int .i64 H.f, .int .i64 H.n, .int .i64 H.w] := hd 6 (by simp)
      go_simp
      refine (end_any H _).mono ?_
      rintro e w4 ⟨rfl, rfl⟩
      exact hK (.int .i64 (H.f + H.n)) _ _ (by simp [upd, e3, e5, e6, HSh.out]) rfl ⟨HW.1.alloc _, HW.2.1.alloc _, HW.2.2.alloc HW.2.2.size _⟩ trivial
    refine steps_op [5, 7, 3] (by kernel_rfl) (fun L y w' hL hcl HW hd K hK => ?_) ?_
    · have e3 : y 3 = .bool false := hd 3 (by simp)
      have e5 : y 5 = .int .i64 (f + n) := hd 5 (by simp)
      have e7 : y 7 = .int .i64 (H.f + H.n) := hd 7 (by simp)
      go_simp
      exact hK _ _ _ (by simp [upd, e3, e5, e7]) rfl HW trivial
    refine steps_last fun L y w' hL hLs HW hd K hK => ?_
    have e0 : y 0 = .pointer (some ⟨w2.heap.size, 2, none⟩) := hd 0 (by omega)
    have e1 : y 1 = .int .i64 H.w := hd 1 (by omega)
    have e2 : y 2 = .bool false := hd 2 (by omega)
    have e3 : y 3 = .bool false := hd 3 (by omega)
    have e4 : y 4 = .agg #[.int .i64 f, .int .i64 n, .int .i64 who] := hd 4 (by omega)
    have e5 : y 5 = .int .i64 (f + n) := hd 5 (by omega)
    have e6 : y 6 = .agg #[.int .i64 H.f, .int .i64 H.n, .int .i64 H.w] := hd 6 (by omega)
    have e7 : y 7 = .int .i64 (H.f + H.n) := hd 7 (by omega)
    have e8 : y 8 = .bool true := hd 8 (by omega)
    go_simp
    refine hK _ _ ?_
    clear e0 e1 e2 e3 e4 e5 e6 e7 e8 hd
    have hb9 := hb3.trans (HW.2.2.mono hb3.size)
    go_wp2
    go_ret
    exact ⟨rfl, hb9⟩

  · have hw' : (H.w != -1) = true := by simpa using hw
    clear hw hused
    refine wp_region_by (by kernel_rfl)
      (fun y => #[.pointer (some ⟨bt, 0, none⟩), .int .i64 f, .int .i64 n, .int .i64 who, undef, undef, undef, undef, .int .i64 0, .pointer (some ⟨w1.heap.size, 0, none⟩), .pointer (some ⟨w2.heap.size, 0, none⟩), .bool (seek f xs).isSome, .pointer (some ⟨bt, 0, none⟩), .bool false, .bool false, .pointer (some ⟨bt, 0, none⟩), .pointer (some ⟨bt, 0, none⟩), .pointer (some ⟨bt, 0, none⟩), .bool true, .bool false, .bool false, .int .i64 f, .bool false, .bool false, .int .i64 n, .bool false, .bool false, .bool false, .int .i64 f, .pointer (some ⟨bt, 0, none⟩), .int .i64 (sumN xs), .int .i64 n, .int .i64 (sumN xs - n), .bool false, .bool false, .bool false, .int .i64 who, .bool true, .bool false, .bool false, .int .i64 f, .int .i64 n, .int .i64 who, .agg #[.int .i64 f, .int .i64 n, .int .i64 who], .tuple #[.agg #[.int .i64 H.f, .int .i64 H.n, .int .i64 H.w], .bool (seek f xs).isSome], .pointer (some ⟨bt, 0, none⟩), .int .i64 f, .tuple #[.agg #[.int .i64 H.f, .int .i64 H.n, .int .i64 H.w], .bool (seek f xs).isSome], .agg #[.int .i64 H.f, .int .i64 H.n, .int .i64 H.w], .bool (seek f xs).isSome, y 0, y 1, y 2, y 3, y 4, y 5, y 6, y 7, y 8, undef, undef, undef, undef, undef, undef, undef])
      (fun j v _ => match j with | 0 => v = .pointer (some ⟨w2.heap.size, 2, none⟩) | 1 => v = .int .i64 H.w | 2 => v = .bool true | 3 => v = .bool true | 4 => v = undef | 5 => v = undef | 6 => v = undef | 7 => v = undef | 8 => v = undef | _ => True)
      (fun _ W' => Run3 W' w1.heap.size ⟨f, n, who⟩ ∧ Run3 W' w2.heap.size H ∧ Below w3.heap.size w3 W') (fun _ _ _ => True) (by kernel_rfl) (by decide) (fun _ _ _ _ _ _ _ _ _ _ _ h => h) (fun _ => undef) rfl (fun _ _ => ⟨bG3, bH3, (Below.refl _ _).drew⟩) ?_
    refine steps_op [] (by kernel_rfl) (fun L y w' hL hcl HW hd K hK => ?_) ?_
    · go_simp
      exact hK _ _ _ (by simp [upd]) rfl HW trivial
    refine steps_op [0] (by kernel_rfl) (fun L y w' hL hcl HW hd K hK => ?_) ?_
    · have e0 : y 0 = .pointer (some ⟨w2.heap.size, 2, none⟩) := hd 0 (by simp)
      obtain ⟨b1, b2, b3⟩ := HW.2.1.cell
      go_simp
      exact hK _ _ _ (by simp [upd, e0]) rfl HW trivial
    refine steps_op [1] (by kernel_rfl) (fun L y w' hL hcl HW hd K hK => ?_) ?_
    · have e1 : y 1 = .int .i64 H.w := hd 1 (by simp)
      go_simp
      exact hK _ _ _ (by simp [upd, e1]) rfl HW trivial
    refine steps_op [2] (by kernel_rfl) (fun L y w' hL hcl HW hd K hK => ?_) ?_
    · have e2 : y 2 = .bool true := hd 2 (by simp)
      go_simp
      exact hK _ _ _ (by simp [upd, e2]) rfl HW trivial
    refine steps_op [3] (by kernel_rfl) (fun L y w' hL hcl HW hd K hK => ?_) ?_
    · have e3 : y 3 = .bool true := hd 3 (by simp)
      go_simp
      exact hK _ _ _ (by simp [upd, e3]) rfl HW trivial
    refine steps_op [4, 3, 3] (by kernel_rfl) (fun L y w' hL hcl HW hd K hK => ?_) ?_
    · have e3 : y 3 = .bool true := hd 3 (by simp)
      have e4 : y 4 = undef := hd 4 (by simp)
      go_simp
      exact hK _ _ _ (by simp [upd, e3, e4]) rfl HW trivial
    refine steps_op [3] (by kernel_rfl) (fun L y w' hL hcl HW hd K hK => ?_) ?_
    · have e3 : y 3 = .bool true := hd 3 (by simp)
      go_simp
      exact hK _ _ _ (by simp [upd, e3]) rfl HW trivial
    refine steps_op [6, 5, 3] (by kernel_rfl) (fun L y w' hL hcl HW hd K hK => ?_) ?_
    · have e3 : y 3 = .bool true := hd 3 (by simp)
      have e5 : y 5 = undef := hd 5 (by simp)
      have e6 : y 6 = undef := hd 6 (by simp)
      go_simp
      exact hK _ _ _ (by simp [upd, e3, e5, e6]) rfl HW trivial
    refine steps_op [5, 7, 3] (by kernel_rfl) (fun L y w' hL hcl HW hd K hK => ?_) ?_
    · have e3 : y 3 = .bool true := hd 3 (by simp)
      have e5 : y 5 = undef := hd 5 (by simp)
      have e7 : y 7 = undef := hd 7 (by simp)
      go_simp
      exact hK _ _ _ (by simp [upd, e3, e5, e7]) rfl HW trivial
    refine steps_last fun L y w' hL hLs HW hd K hK => ?_
    have e0 : y 0 = .pointer (some ⟨w2.heap.size, 2, none⟩) := hd 0 (by omega)
    have e1 : y 1 = .int .i64 H.w := hd 1 (by omega)
    have e2 : y 2 = .bool true := hd 2 (by omega)
    have e3 : y 3 = .bool true := hd 3 (by omega)
    have e4 : y 4 = undef := hd 4 (by omega)
    have e5 : y 5 = undef := hd 5 (by omega)
    have e6 : y 6 = undef := hd 6 (by omega)
    have e7 : y 7 = undef := hd 7 (by omega)
    have e8 : y 8 = undef := hd 8 (by omega)
    go_simp
    refine hK _ _ ?_
    clear e0 e1 e2 e3 e4 e5 e6 e7 e8 hd
    have hb9 := hb3.trans (HW.2.2.mono hb3.size)
    go_wp2
    go_ret
    exact ⟨rfl, hb9⟩

theorem grownBy_set1 (W : World) (b j : Nat) (v : Value) : W.grownBy (W.setCell ⟨b, j, none⟩ v) (some b) :=
  ⟨rfl, rfl, rfl, (KeepsWalks.setCell W _ v).size, fun k _ hk => Below.heap_setCell _ _ _ k (fun e => hk (by rw [e]))⟩

set_option maxRecDepth 100000 in
set_option maxHeartbeats 4000000 in
theorem give_ok (bt : Nat) (f n who : Int) (xs : List BR) (w : World) (hM : Mach w bt (xs.map (·.1))) (hl : xs.length ≤ 64) (hN : sumN xs ≤ 64) (hgood : ¬ badArg f n who xs) (hfree : (seekR f xs).w = -1 ∧ f + n ≤ (seekR f xs).f + (seekR f xs).n) :
    Calls Tryz.prog 66 #[.pointer (some ⟨bt, 0, none⟩), .int .i64 f, .int .i64 n, .int .i64 who] w fun e W' => e = .returned (.int .i64 0) ∧ Mach W' bt (withL ⟨⟨f, n, who⟩, fine_arg hgood hN⟩ xs) ∧ w.grownBy W' (some bt) := by
  have hF := fine_arg hgood hN
  obtain ⟨g, hg⟩ : ∃ g : BR, g = ⟨⟨f, n, who⟩, hF⟩ := ⟨_, rfl⟩
  have hg1 : g.1 = ⟨f, n, who⟩ := by rw [hg]
  rw [show (⟨⟨f, n, who⟩, fine_arg hgood hN⟩ : BR) = g from hg.symm]
  clear hg
  have hT := hM.tbl
  have hfi := seekR_fine f xs
  have h4 : isOwn who = true := by
    cases e : isOwn who with
    | true => rfl
    | false => exact absurd (.inr (.inr (.inr e))) hgood
  have hown : ∀ W : World, Calls Tryz.prog 77 #[.int .i64 who] W fun e w' => e = .returned (.bool true) ∧ W = w' := fun W => by
    have h := isOwner_any who W
    rwa [h4] at h
  have HOW := Lib.hid hown
  obtain ⟨v, hv, _⟩ := hM
  have c0 : w.cell? ⟨bt, 0, none⟩ = some (.bool true) := by simp [World.cell?, hv]
  have hs := sumN_bd xs
  have HV := Lib.hid hv
  unfold badArg at hgood
  have k1 : ¬ f < 0 := by omega
  have k2 : ¬ n < 1 := by omega
  have k3 : ¬ sumN xs - n < f := by omega
  obtain ⟨f1, f2, f3, f4, f5, f6⟩ := hF
  simp only at f1 f2 f3 f4 f5 f6
  have HT := Lib.hid hT
  have hA : ∀ W, Below w.heap.size w W → Calls Tryz.prog 78 #[.pointer (some ⟨bt, 0, none⟩), .int .i64 f] W fun e W' => e = .returned (.tuple #[.agg #[.int .i64 (seekR f xs).f, .int .i64 (seekR f xs).n, .int .i64 (seekR f xs).w], .bool (seek f xs).isSome]) ∧ Below W.heap.size W W' := fun W hb => by
    have h := at_any (some ⟨bt, 0, none⟩) f xs W ((hT.below hb).more hb.size)
    exact h
  have HA := Lib.hid hA
  have hWi : ∀ W, Below w.heap.size w W → Calls Tryz.prog 80 #[.pointer (some ⟨bt, 0, none⟩), .agg #[.int .i64 f, .int .i64 n, .int .i64 who]] W fun e W' => ∃ v, e = .returned v ∧ OwnS W' W.heap.size v (withL g xs) ∧ Below W.heap.size W W' := fun W hb => by
    have h := with_any (some ⟨bt, 0, none⟩) g xs W ((hT.below hb).more hb.size) hl
    rw [hg1] at h
    exact h
  have HWi := Lib.hid hWi
  clear hWi hg1
  obtain ⟨H, hH⟩ : ∃ H, H = seekR f xs := ⟨_, rfl⟩
  rw [← hH] at HA hfi hfree
  have HFr := Lib.hid hfree
  have k3' : decide (sumN xs - n < f) = false := by simpa using k3
  have hsg : wrap64 (f + n) = f + n := IntWalk.wrap64_in _ ⟨by omega, by omega⟩
  have HSg := Lib.hid hsg
  have hsh : wrap64 (H.f + H.n) = H.f + H.n := IntWalk.wrap64_in _ ⟨by omega, by omega⟩
  have HSh := Lib.hid hsh
  clear hv h4 hown hT hA hH hgood hsg hsh hfree
  go_enter Tryz.func66, Tryz.ntmps66
  go_wp2_with (first | (go_at_call 76; refine (len_any _ xs _ HT.out hl).mono ?_; rintro e w1 ⟨rfl, hb1⟩) | (go_at_call 77; refine (HOW.out _).mono ?_; rintro e w2 ⟨rfl, rfl⟩))
  have hbA := hb1.alloc hb1.size (.cells #[.int .i64 f, .int .i64 n, .int .i64 who] 108)
  have bG := Run3.new w1 ⟨f, n, who⟩
  have HbG := Lib.hid bG
  clear bG
  refine (HA.out _ hbA).mono ?_
  rintro e w2 ⟨rfl, hb2⟩
  have bG3 := (HbG.out.below hb2 HbG.out.lt).alloc (.cells #[.int .i64 H.f, .int .i64 H.n, .int .i64 H.w] 108)
  have bH3 := Run3.new w2 H
  have hb3 := (hbA.trans (hb2.mono hbA.size)).alloc (hbA.trans (hb2.mono hbA.size)).size (.cells #[.int .i64 H.f, .int .i64 H.n, .int .i64 H.w] 108)
  go_wp2
  obtain ⟨w3, hw3⟩ : ∃ w3, w2.alloc (.cells #[.int .i64 H.f, .int .i64 H.n, .int .i64 H.w] 108) = w3 := ⟨_, rfl⟩
  rw [hw3] at bG3 bH3 hb3 ⊢
  clear hw3
  have bG4 : Run3 w3.drew w1.heap.size ⟨f, n, who⟩ := bG3
  replace bG3 := bG4
  have bH4 : Run3 w3.drew w2.heap.size H := bH3
  replace bH3 := bH4
  have hw' : (H.w != -1) = false := by simpa using HFr.out.1
  have hw2 : (H.w == -1) = true := by simpa using HFr.out.1
  have he' : decide (H.f + H.n < f + n) = false := by simpa using HFr.out.2
  refine wp_region_by (by kernel_rfl)
    (fun y => #[.pointer (some ⟨bt, 0, none⟩), .int .i64 f, .int .i64 n, .int .i64 who, undef, undef, undef, undef, .int .i64 0, .pointer (some ⟨w1.heap.size, 0, none⟩), .pointer (some ⟨w2.heap.size, 0, none⟩), .bool (seek f xs).isSome, .pointer (some ⟨bt, 0, none⟩), .bool false, .bool false, .pointer (some ⟨bt, 0, none⟩), .pointer (some ⟨bt, 0, none⟩), .pointer (some ⟨bt, 0, none⟩), .bool true, .bool false, .bool false, .int .i64 f, .bool false, .bool false, .int .i64 n, .bool false, .bool false, .bool false, .int .i64 f, .pointer (some ⟨bt, 0, none⟩), .int .i64 (sumN xs), .int .i64 n, .int .i64 (sumN xs - n), .bool false, .bool false, .bool false, .int .i64 who, .bool true, .bool false, .bool false, .int .i64 f, .int .i64 n, .int .i64 who, .agg #[.int .i64 f, .int .i64 n, .int .i64 who], .tuple #[.agg #[.int .i64 H.f, .int .i64 H.n, .int .i64 H.w], .bool (seek f xs).isSome], .pointer (some ⟨bt, 0, none⟩), .int .i64 f, .tuple #[.agg #[.int .i64 H.f, .int .i64 H.n, .int .i64 H.w], .bool (seek f xs).isSome], .agg #[.int .i64 H.f, .int .i64 H.n, .int .i64 H.w], .bool (seek f xs).isSome, y 0, y 1, y 2, y 3, y 4, y 5, y 6, y 7, y 8, undef, undef, undef, undef, undef, undef, undef])
    (fun j v _ => match j with | 0 => v = .pointer (some ⟨w2.heap.size, 2, none⟩) | 1 => v = .int .i64 H.w | 2 => v = .bool false | 3 => v = .bool false | 4 => v = .agg #[.int .i64 f, .int .i64 n, .int .i64 who] | 5 => v = .int .i64 (f + n) | 6 => v = .agg #[.int .i64 H.f, .int .i64 H.n, .int .i64 H.w] | 7 => v = .int .i64 (H.f + H.n) | 8 => v = .bool false | _ => True)
    (fun _ W' => Run3 W' w1.heap.size ⟨f, n, who⟩ ∧ Run3 W' w2.heap.size H ∧ Below w3.heap.size w3 W') (fun _ _ _ => True) (by kernel_rfl) (by decide) (fun _ _ _ _ _ _ _ _ _ _ _ h => h) (fun _ => undef) rfl (fun _ _ => ⟨bG3, bH3, (Below.refl _ _).drew⟩) ?_
  refine steps_op [] (by kernel_rfl) (fun L y w' hL hcl HW hd K hK => ?_) ?_
  · go_simp
    exact hK _ _ _ (by simp [upd]) rfl HW trivial
  refine steps_op [0] (by kernel_rfl) (fun L y w' hL hcl HW hd K hK => ?_) ?_
  · have e0 : y 0 = .pointer (some ⟨w2.heap.size, 2, none⟩) := hd 0 (by simp)
    obtain ⟨b1, b2, b3⟩ := HW.2.1.cell
    go_simp
    exact hK _ _ _ (by simp [upd, e0]) rfl HW trivial
  refine steps_op [1] (by kernel_rfl) (fun L y w' hL hcl HW hd K hK => ?_) ?_
  · have e1 : y 1 = .int .i64 H.w := hd 1 (by simp)
    go_simp
    exact hK _ _ _ (by simp [upd, e1]) rfl HW trivial
  refine steps_op [2] (by kernel_rfl) (fun L y w' hL hcl HW hd K hK => ?_) ?_
  · have e2 : y 2 = .bool false := hd 2 (by simp)
    go_simp
    exact hK _ _ _ (by simp [upd, e2]) rfl HW trivial
  refine steps_op [3] (by kernel_rfl) (fun L y w' hL hcl HW hd K hK => ?_) ?_
  · have e3 : y 3 = .bool false := hd 3 (by simp)
    obtain ⟨a1, a2, a3⟩ := HW.1.cell
    go_simp
    exact hK _ _ _ (by simp [upd, e3]) rfl HW trivial
  refine steps_op [4, 3, 3] (by kernel_rfl) (fun L y w' hL hcl HW hd K hK => ?_) ?_
  · have e3 : y 3 = .bool false := hd 3 (by simp)
    have e4 : y 4 = .agg #[.int .i64 f, .int .i64 n, .int .i64 who] := hd 4 (by simp)
    go_simp
    refine (end_any ⟨f, n, who⟩ _).mono ?_
    rintro e w4 ⟨rfl, rfl⟩
    exact hK (.int .i64 (f + n)) _ _ (by simp [upd, e3, e4, HSg.out]) rfl ⟨HW.1.alloc _, HW.2.1.alloc _, HW.2.2.alloc HW.2.2.size _⟩ trivial
  refine steps_op [3] (by kernel_rfl) (fun L y w' hL hcl HW hd K hK => ?_) ?_
  · have e3 : y 3 = .bool false := hd 3 (by simp)
    obtain ⟨b1, b2, b3⟩ := HW.2.1.cell
    go_simp
    exact hK _ _ _ (by simp [upd, e3]) rfl HW trivial
  refine steps_op [6, 5, 3] (by kernel_rfl) (fun L y w' hL hcl HW hd K hK => ?_) ?_
  · have e3 : y 3 = .bool false := hd 3 (by simp)
    have e5 : y 5 = .int .i64 (f + n) := hd 5 (by simp)
    have e6 : y 6 = .agg #[.int .i64 H.f, .int .i64 H.n, .int .i64 H.w] := hd 6 (by simp)
    go_simp
    refine (end_any H _).mono ?_
    rintro e w4 ⟨rfl, rfl⟩
    exact hK (.int .i64 (H.f + H.n)) _ _ (by simp [upd, e3, e5, e6, HSh.out]) rfl ⟨HW.1.alloc _, HW.2.1.alloc _, HW.2.2.alloc HW.2.2.size _⟩ trivial
  refine steps_op [5, 7, 3] (by kernel_rfl) (fun L y w' hL hcl HW hd K hK => ?_) ?_
  · have e3 : y 3 = .bool false := hd 3 (by simp)
    have e5 : y 5 = .int .i64 (f + n) := hd 5 (by simp)
    have e7 : y 7 = .int .i64 (H.f + H.n) := hd 7 (by simp)
    go_simp
    exact hK _ _ _ (by simp [upd, e3, e5, e7]) rfl HW trivial
  refine steps_last fun L y w' hL hLs HW hd K hK => ?_
  have e0 : y 0 = .pointer (some ⟨w2.heap.size, 2, none⟩) := hd 0 (by omega)
  have e1 : y 1 = .int .i64 H.w := hd 1 (by omega)
  have e2 : y 2 = .bool false := hd 2 (by omega)
  have e3 : y 3 = .bool false := hd 3 (by omega)
  have e4 : y 4 = .agg #[.int .i64 f, .int .i64 n, .int .i64 who] := hd 4 (by omega)
  have e5 : y 5 = .int .i64 (f + n) := hd 5 (by omega)
  have e6 : y 6 = .agg #[.int .i64 H.f, .int .i64 H.n, .int .i64 H.w] := hd 6 (by omega)
  have e7 : y 7 = .int .i64 (H.f + H.n) := hd 7 (by omega)
  have e8 : y 8 = .bool false := hd 8 (by omega)
  go_simp
  refine hK _ _ ?_
  clear e0 e1 e2 e3 e4 e5 e6 e7 e8 hd

  obtain ⟨a1, a2, a3⟩ := HW.1.cell
  have hb5 := hb3.trans (HW.2.2.mono hb3.size)
  go_wp2_with fail
  refine (HWi.out _ hb5).mono ?_
  rintro e w5 ⟨v', rfl, hown, hb6⟩
  obtain ⟨sa, sn, sc, rfl⟩ := hown.slice
  have hb7 := hb5.trans (hb6.mono hb5.size)
  have hV5 : w5.heap[bt]? = some (.cells #[.bool true, v] 110 (0, 0)) := (hb7.block bt (Array.getElem?_eq_some_iff.1 HV.out).1).trans HV.out
  have d1 : w5.cell? ⟨bt, 1, none⟩ = some v := by simp [World.cell?, hV5]
  have d2 : w5.frozen? ⟨bt, 1, none⟩ = false := by simp [World.frozen?, hV5]
  have HV5 := Lib.hid hV5
  have HO := Lib.hid hown
  clear hV5 hown a1 a2 a3
  go_wp2
  go_ret
  refine ⟨rfl, ⟨_, heap_set HV5.out 1 _, ?_⟩, ?_⟩
  · have hne : (Value.slice sa sn sc).ownBlock = none ∨ some bt ≠ (Value.slice sa sn sc).ownBlock := by
      rcases HO.out.2 with ⟨h, _⟩ | ⟨q, cap, cur, h, _, hq, _⟩
      · rw [h]; exact .inl rfl
      · rw [h]
        refine .inr fun e => ?_
        simp only [Value.ownBlock, Option.some.injEq] at e
        subst e
        rw [HV5.out] at hq
        injection hq with hq
        injection hq with _ hq
        cases hq
    have ho := World.ownsRow.kept HO.out (w' := w5.setCell ⟨bt, 1, none⟩ (.slice sa sn sc)) (row := some bt) (grownBy_set1 _ _ _ _) (hne.imp id fun h => h.symm)
    rcases ho.2 with h | ⟨q, cap, cur, h1, h2, h3⟩
    · exact ⟨ho.1, .inl h⟩
    · exact ⟨ho.1, .inr ⟨q, cap, cur, h1, Nat.zero_le _, h3⟩⟩
  · exact grownBy_trans (grownBy_of_below _ hb7) (grownBy_set1 _ _ _ _)
end Go.Proofs.YtikkfapgmbamlaaGreatDoor.Pt
end
section
/- slices.Collect of a table's runs; (*Table).Runs. -/
namespace Go.Proofs.YtikkfapgmbamlaaGreatDoor.Pt
open Go.RowKit Go.Shelf Ut
set_option linter.unusedVariables false
attribute [local go_sem] Oper.semAt_some

theorem cs3_snoc (xs : List BR) (x : BR) : cs3 ((xs ++ [x]).map (·.1)) = cs3 (xs.map (·.1)) ++ cs3 [x.1] := by simp [cs3]

/-- between two rounds of AppendSeq's loop -/
def CollI (w : World) (h : Nat) (pre : List BR) (W : World) : Prop := (∃ v, Boxed W h 105 v ∧ W.ownsRow h 108 3 v pre.length (cs3 (pre.map (·.1))) ∧ True) ∧ Below h w W

end Go.Proofs.YtikkfapgmbamlaaGreatDoor.Pt
end
section
/- (*Table).Of: whose places, rising. -/
namespace Go.Proofs.YtikkfapgmbamlaaGreatDoor.Pt
open Go.RowKit Go.Shelf Ut
set_option linter.unusedVariables false
attribute [local go_sem] Oper.semAt_some

/-- the places of run x, the first k -/
def someOf (x : BR) (k : Nat) : List Int := (List.range k).map fun (j : Nat) => x.1.f + (j : Int)
/-- who's places -/
def ofL (who : Int) (xs : List BR) : List Int := xs.flatMap fun x => if x.1.w = who then someOf x x.1.n.toNat else []
theorem someOf_succ (x : BR) (k : Nat) : someOf x (k + 1) = someOf x k ++ [x.1.f + (k : Int)] := by simp [someOf, List.range_succ]
theorem someOf_length (x : BR) (k : Nat) : (someOf x k).length = k := by simp [someOf]
theorem ofL_snoc (who : Int) (xs : List BR) (x : BR) : ofL who (xs ++ [x]) = ofL who xs ++ if x.1.w = who then someOf x x.1.n.toNat else [] := by simp [ofL]
theorem ofL_length (who : Int) (xs : List BR) : (ofL who xs).length ≤ 64 * xs.length := by
  induction xs with
  | nil => simp [ofL]
  | cons x xs ih =>
    have h := x.2
    unfold Fine at h
    simp only [ofL, List.flatMap_cons, List.length_append, List.length_cons] at ih ⊢
    have : (if x.1.w = who then someOf x x.1.n.toNat else []).length ≤ 64 := by
      split
      · rw [someOf_length]; omega
      · simp
    omega

theorem ownsRow_less {W : World} {B B' e size n : Nat} {v : Value} {xs : List Value} (h : W.ownsRow B e size v n xs) (hB : B' ≤ B) : W.ownsRow B' e size v n xs := by
  rcases h.2 with h2 | ⟨q, cap, cur, h1, h2, h3⟩
  · exact ⟨h.1, .inl h2⟩
  · exact ⟨h.1, .inr ⟨q, cap, cur, h1, by omega, h3⟩⟩

theorem appended2 {W w1 : World} {n₀ N B : Nat} {t e : TypeId} {size : Nat} {v v' : Value} {k m : Nat} {xs ys : List Value} {tmp : Obj}
    (hv : Boxed W B t v) (hte : t ≠ e) (hrow : W.ownsRow N e size v k xs) (hn : n₀ ≤ N) (hn₀ : n₀ ≤ W.heap.size) (hB : n₀ ≤ B)
    (hown' : w1.ownsRow N e size v' m ys) (hgrow : (W.alloc tmp).grownBy w1 v.ownBlock) :
    Boxed w1 B t v ∧ Boxed (w1.setCell ⟨B, 0, none⟩ v') B t v' ∧ (w1.setCell ⟨B, 0, none⟩ v').ownsRow N e size v' m ys ∧ KeepsOthers W (w1.setCell ⟨B, 0, none⟩ v') ∧ Below n₀ W (w1.setCell ⟨B, 0, none⟩ v') := by
  obtain ⟨h1, h2, _, h4, h5⟩ := hv.appended hte (ownsRow_less hrow hn) hn₀ hB (ownsRow_less hown' hn) hgrow
  exact ⟨h1, h2, hown'.kept (grownBy_setCell' w1 B v') (.inr (h1.not_row hte hown').symm), h4, h5⟩

theorem Run3.not_row {W : World} {b : Nat} {r : R3} (h : Run3 W b r) {base e size k : Nat} {v : Value} {xs : List Value} (hr : W.ownsRow base e size v k xs) (he : e ≠ 108) : some b ≠ v.ownBlock := by
  rcases hr.2 with ⟨rfl, _⟩ | ⟨g, cap, cur, rfl, _, hgb, _⟩
  · simp [Value.ownBlock]
  · intro e'
    obtain rfl : b = g := by simpa [Value.ownBlock] using e'
    have := (show W.heap[b]? = _ from h).symm.trans hgb
    injection this with this
    injection this with _ this
    exact he this.symm
theorem ownsRow_ne {W : World} {B e size n q : Nat} {v : Value} {xs : List Value} (h : W.ownsRow B e size v n xs) (hq : q < B) : some q ≠ v.ownBlock := by
  rcases h.2 with ⟨rfl, _⟩ | ⟨g, cap, cur, rfl, hb, _⟩
  · simp [Value.ownBlock]
  · intro e'
    obtain rfl : q = g := by simpa [Value.ownBlock] using e'
    omega

theorem A.info3 : (Tryz.prog.info? 3).map (fun i => (i.zero, i.size, i.bytes)) = some (some (.int .i64 0), 1, 8) := by kernel_rfl

/-- the box holds who's places so far -/
def OfB (h : Nat) (who : Int) (L : List Int) (W : World) : Prop :=
  (∃ v, Boxed W (h + 1) 119 v ∧ W.ownsRow (h + 3) 3 1 v L.length (L.map (Value.int .i64)) ∧ True) ∧ Boxed W h 3 (.int .i64 who)
/-- between two rounds -/
def OfI (w : World) (h : Nat) (who : Int) (pre : List BR) (W : World) : Prop := (OfB h who (ofL who pre) W ∧ h + 3 ≤ W.heap.size) ∧ Below h w W
/-- between two rounds of the inner loop -/
def OfJ (h Bx : Nat) (who : Int) (L : List Int) (x : R3) (W wr : World) : Prop := (OfB h who L wr ∧ Run3 wr Bx x) ∧ (KeepsFrom (h + 3) W wr ∧ Below h W wr ∧ h + 3 ≤ wr.heap.size)

end Go.Proofs.YtikkfapgmbamlaaGreatDoor.Pt
end
