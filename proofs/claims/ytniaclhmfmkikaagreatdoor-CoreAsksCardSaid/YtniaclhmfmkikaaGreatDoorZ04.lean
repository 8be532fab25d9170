/- Several texts in one: Rd Uc -/
import Derived.Test.YtniaclhmfmkikaaGreatDoorZ03
section
/- Drawn regions with neither the frame nor the operations' values written out, whose invariant looks at which operations are done (calls that write among them). Serves all packages. -/
namespace Go.Proofs.YtniaclhmfmkikaaGreatDoor.Ut
open Go.RowKit
set_option linter.unusedVariables false

section
variable {P : Program} {ops : Array Oper} {Q : Exit → Act → World → Prop} {T : (Nat → Value) → Array Value} {d : List Deferred} {WI : (Nat → Bool) → World → Prop} {vals : List Value}

/-- what the operations from number k on are asked -/
def AutoLFrom (P : Program) (ops : Array Oper) (Q : Exit → Act → World → Prop) (T : (Nat → Value) → Array Value) (d : List Deferred) (vals : List Value) (WI : (Nat → Bool) → World → Prop) (k : Nat) (l : List Oper) : Prop :=
  StepsFrom P ops Q T d (RV vals) WI (fun _ _ _ => True) k l
theorem autoL_op {k : Nat} {o o' : Oper} {l : List Oper} (s : Nat) (ds : List Nat) (hd : depsOf o = ds)
    (h : ∀ (L : Nat → Bool) (x : Nat → Value) (w : World), L k = false → WI L w → (∀ j ∈ ds, RV vals j (x j) w) → ∀ K : Act → World → Prop, (∀ tm w', tm = T (upd x k (tm.getD s undef)) → tm.getD s undef = nth vals k → WI (fun j => if j = k then true else L j) w' → K { tmps := tm, defers := d } w') →
      if Region.wanted o (yielded ops (T x)) = true then Oper.wp P o { tmps := T x, defers := d } w K Q else K (Act.put { tmps := T x, defers := d } o.dst undef) w)
    (hs : AutoLFrom P ops Q T d vals WI (k + 1) (o' :: l)) : AutoLFrom P ops Q T d vals WI k (o :: o' :: l) := by
  refine steps_op ds hd (fun L x w hL _ hw hR K hK => h L x w hL hw hR K fun tm w' ht hv hw' => ?_) hs
  exact hK _ w' tm ht hv hw' trivial
theorem autoL_last {k : Nat} {o : Oper}
    (h : ∀ (L : Nat → Bool) (x : Nat → Value) (w : World), (∀ j, j < k → L j = true) → WI L w → (∀ j, j < k → RV vals j (x j) w) → ∀ K : Act → World → Prop, (∀ a' w', Q .normal a' w' → K a' w') →
      if Region.wanted o (yielded ops (T x)) = true then Oper.wp P o { tmps := T x, defers := d } w K Q else K (Act.put { tmps := T x, defers := d } o.dst undef) w) : AutoLFrom P ops Q T d vals WI k [o] :=
  steps_last fun L x w _ hall hw hR K hK => h L x w hall hw hR K hK

/-- THE REGION: apply it; T and the values come by unification -/
theorem wp_region_autoL {id : Nat} {a : Act} {w : World} (slots : List Nat) (vals : List Value) (WI : (Nat → Bool) → World → Prop) (hm : P.follows .mixedOrders = true) (hT : ∀ y, setAll a.tmps slots 0 y = T y) (hok : goodOrder ops = true) (hn : 0 < ops.size)
    (hw : ∀ L : Nat → Bool, (∀ j, j < ops.size → L j = false) → WI L w.drew)
    (hs : AutoLFrom P ops Q T a.defers vals WI 0 ops.toList) : (Code.region id ops true).wp P Q a w := by
  refine wp_region_by hm T (RV vals) WI (fun _ _ _ => True) hok hn (fun _ _ _ _ _ _ _ _ _ _ _ h => h) (fun j => a.tmps.getD (slots.getD j 0) undef) ?_ hw hs
  rw [← hT, setAll_self]
  intro j s hj
  simp [List.getD, hj]
end
end Go.Proofs.YtniaclhmfmkikaaGreatDoor.Ut
end
section
/- Package csr: refusal, Read, Write, Reset, Handles, Open of a file that was made. -/
namespace Go.Proofs.YtniaclhmfmkikaaGreatDoor.Cs
open Go.RowKit Ut
set_option maxRecDepth 100000
set_option linter.unusedVariables false

/-- the status -/
abbrev st (R : List Nat) : Nat := R.getD 5 0
/-- why register n can't be had, of which there are c -/
def errZ (R : List Nat) (n c : Int) : Int := if hasB (st R) 4 = true then (if 0 ≤ n ∧ n < c then 0 else 1) else 4
def rdZ (R : List Nat) (i : Nat) (n clock : Int) : Int := if errZ R n 9 = 0 then (if n = 7 then clock % 4294967296 else if n = 8 then (i : Int) else ((R.getD n.toNat 0 : Nat) : Int)) else 0
def wrR (R : List Nat) (n : Int) (v : Nat) : List Nat := if errZ R n 7 = 0 then R.set n.toNat (v &&& maskN n.toNat) else R
def hndB (R : List Nat) : Bool := R.getD 1 0 != 0
def opnB (R : List Nat) : Bool := hndB R && hasB (st R) 1

theorem errZ_cases (R : List Nat) (n c : Int) : (hasB (st R) 4 = false ∧ errZ R n c = 4) ∨ (hasB (st R) 4 = true ∧ n < 0 ∧ errZ R n c = 1) ∨ (hasB (st R) 4 = true ∧ 0 ≤ n ∧ c ≤ n ∧ errZ R n c = 1) ∨ (hasB (st R) 4 = true ∧ 0 ≤ n ∧ n < c ∧ errZ R n c = 0) := by
  unfold errZ
  cases h : hasB (st R) 4
  · exact .inl ⟨rfl, by simp⟩
  · by_cases h0 : n < 0
    · exact .inr (.inl ⟨rfl, h0, by simp; omega⟩)
    · by_cases h1 : c ≤ n
      · exact .inr (.inr (.inl ⟨rfl, by omega, h1, by simp; omega⟩))
      · exact .inr (.inr (.inr ⟨rfl, by omega, by omega, by simp; omega⟩))
theorem wrR_ok {R : List Nat} (h : Ok R) (n : Int) (v : Nat) (hv : v < 4294967296) : Ok (wrR R n v) := by
  unfold wrR
  split
  · refine h.set (mask_lt _ _ hv) (fun e => ?_)
    rw [e]
    exact mask_five v
  · exact h

theorem refusal_any (b i : Nat) (n c : Int) (R : List Nat) (w : World) (h : FAt w b i R) :
    Calls Tryz.prog 50 #[.pointer (some ⟨b, 0, none⟩), .int .i64 n, .int .i64 c] w fun e w' => e = .returned (.int .i64 (errZ R n c)) ∧ Below w.heap.size w w' := by
  have HF := Lib.hid h
  have hlt := h.1.lt
  have HIS : Hid (∀ W g, Below w.heap.size w W → Var W g b → Calls Tryz.prog 103 #[.int .u32 4, .pointer (some ⟨g, 0, none⟩)] W fun e w' => e = .returned (.bool (hasB (st R) 4)) ∧ W = w') := Lib.hid fun W g hW hg => is_any b g i 4 R W (h.below hW hlt) hg (by decide)
  clear h
  rcases errZ_cases R n c with ⟨h1, h2⟩ | ⟨h1, h0, h2⟩ | ⟨h1, h0, h3, h2⟩ | ⟨h1, h0, h3, h2⟩
  · rw [h2]
    rw [h1] at HIS
    clear h1 h2
    go_enter Tryz.func50, Tryz.ntmps50
    go_wp2_with fail
    refine (made_is b true w HF.out.cell0).mono ?_
    rintro e w' ⟨rfl, rfl⟩
    go_wp2_with fail
    refine (asker_any b i R w HF.out).mono ?_
    rintro e w1 ⟨rfl, hV, hb⟩
    have HV := Lib.hid hV
    have HB := Lib.hid hb
    clear hV hb
    go_wp2_with fail
    refine (HIS.out w1 w.heap.size HB.out HV.out).mono ?_
    rintro e w2 ⟨rfl, rfl⟩
    go_wp2
    go_ret
    exact ⟨rfl, HB.out⟩
  all_goals
    rw [h2]
    rw [h1] at HIS
    clear h1 h2
    try have hd : decide (n < 0) = true := by simpa using h0
    try have hd : decide (n < 0) = false := by simpa using h0
    try have hd2 : decide (c ≤ n) = true := by simpa using h3
    try have hd2 : decide (c ≤ n) = false := by simpa using h3
    go_enter Tryz.func50, Tryz.ntmps50
    go_wp2_with fail
    refine (made_is b true w HF.out.cell0).mono ?_
    rintro e w' ⟨rfl, rfl⟩
    go_wp2_with fail
    refine (asker_any b i R w HF.out).mono ?_
    rintro e w1 ⟨rfl, hV, hb⟩
    have HV := Lib.hid hV
    have HB := Lib.hid hb
    clear hV hb
    go_wp2_with fail
    refine (HIS.out w1 w.heap.size HB.out HV.out).mono ?_
    rintro e w2 ⟨rfl, rfl⟩
    go_wp2
    go_ret
    exact ⟨rfl, HB.out⟩

theorem allowed_any (k : Nat) (w : World) (hk : k < 7) : Calls Tryz.prog 51 #[.int .i64 (k : Int)] w fun e w' => e = .returned (.int .u32 ((maskN k : Nat) : Int)) ∧ w = w' := by
  by_cases h0 : k = 0
  · subst h0
    go_enter Tryz.func51, Tryz.ntmps51
    go_wp2
    go_ret
    exact ⟨rfl, rfl⟩
  · by_cases h5 : k = 5
    · subst h5
      go_enter Tryz.func51, Tryz.ntmps51
      go_wp2
      go_ret
      exact ⟨rfl, rfl⟩
    · have e : maskN k = 4294967295 := by unfold maskN; rw [if_neg h0, if_neg h5]
      rw [e]
      have d0 : ((k : Int) == 0) = false := by simp; omega
      have d5 : ((k : Int) == 5) = false := by simp; omega
      clear h0 h5 e hk
      go_enter Tryz.func51, Tryz.ntmps51
      go_wp2
      go_ret
      exact ⟨rfl, rfl⟩

theorem errZ_eq0 {R : List Nat} {n c : Int} (h1 : hasB (st R) 4 = true) (h0 : 0 ≤ n) (h3 : n < c) : errZ R n c = 0 := by
  unfold errZ
  rw [h1]
  simp
  omega
theorem read_any (b i : Nat) (n clock : Int) (R : List Nat) (w : World) (h : FAt w b i R) :
    Calls Tryz.prog 53 #[.pointer (some ⟨b, 0, none⟩), .int .i64 n, .int .i64 clock] w fun e w' => e = .returned (.tuple #[.int .u32 (rdZ R i n clock), .int .i64 (errZ R n 9)]) ∧ Below w.heap.size w w' := by
  have HR := Lib.hid (refusal_any b i n 9 R w h)
  have HF := Lib.hid h
  have hlt := h.1.lt
  have hi := h.2.2
  clear h
  by_cases he : errZ R n 9 = 0
  · have hn : 0 ≤ n ∧ n < 9 := by
      rcases errZ_cases R n 9 with ⟨_, e⟩ | ⟨_, _, e⟩ | ⟨_, _, _, e⟩ | ⟨_, a, b, _⟩
      · omega
      · omega
      · omega
      · exact ⟨a, b⟩
    have hr : rdZ R i n clock = if n = 7 then clock % 4294967296 else if n = 8 then (i : Int) else ((R.getD n.toNat 0 : Nat) : Int) := if_pos he
    rw [hr]
    clear hr
    rw [he] at HR ⊢
    obtain ⟨k, rfl⟩ : ∃ k : Nat, n = (k : Int) := ⟨n.toNat, by omega⟩
    clear he
    have hk : k < 9 := by omega
    clear hn
    by_cases h7 : k = 7
    · subst h7
      clear hk hi
      go_enter Tryz.func53, Tryz.ntmps53
      go_wp2_with fail
      refine HR.out.mono ?_
      rintro e w1 ⟨rfl, hb⟩
      have HB := Lib.hid hb
      clear hb
      go_wp2
      go_ret2
      exact ⟨rfl, HB.out⟩
    · by_cases h8 : k = 8
      · subst h8
        clear hk h7
        go_enter Tryz.func53, Tryz.ntmps53
        go_wp2_with fail
        refine HR.out.mono ?_
        rintro e w1 ⟨rfl, hb⟩
        have HB := Lib.hid hb
        have c1 := (HF.out.below hb hlt).cell1
        clear hb
        go_wp2
        go_ret2
        exact ⟨rfl, HB.out⟩
      · have d7 : ((k : Int) == 7) = false := by simp; omega
        have d8 : ((k : Int) == 8) = false := by simp; omega
        rw [if_neg (by omega), if_neg (by omega), Int.toNat_natCast]
        have hk7 : k < 7 := by omega
        clear hk h7 h8 hi
        generalize hz : R.getD k 0 = z
        have HZ := Lib.hid hz
        clear hz
        go_enter Tryz.func53, Tryz.ntmps53
        go_wp2_with fail
        refine HR.out.mono ?_
        rintro e w1 ⟨rfl, hb⟩
        have HB := Lib.hid hb
        have c1 := (HF.out.below hb hlt).reg k hk7
        rw [HZ.out] at c1
        clear hb
        go_wp2
        go_ret2
        exact ⟨rfl, HB.out⟩
  · have hr : rdZ R i n clock = 0 := if_neg he
    rw [hr]
    clear hr hi
    generalize errZ R n 9 = e at HR he ⊢
    have hd : (e != 0) = true := by simpa using he
    clear he
    go_enter Tryz.func53, Tryz.ntmps53
    go_wp2_with fail
    refine HR.out.mono ?_
    rintro e w1 ⟨rfl, hb⟩
    have HB := Lib.hid hb
    clear hb
    go_wp2
    go_ret2
    exact ⟨rfl, HB.out⟩

theorem bne_cast (x : Nat) : (((x : Nat) : Int) != 0) = (x != 0) := by
  rw [Bool.eq_iff_iff]
  simp
end Go.Proofs.YtniaclhmfmkikaaGreatDoor.Cs
end
