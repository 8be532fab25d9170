/- Several texts in one: Rc Ha -/
import Derived.Test.YtikkfapgmbamlaaGreatDoorZ05
import Derived.Test.YtikkfapgmbamlaaGreatDoorZ01
import Derived.Test.YtikkfapgmbamlaaGreatDoorZ04
import Derived.BigQuiet
section
/- Drawn regions in which one slice is built, whose place in memory depends on the order drawn. Serves all packages. -/
namespace Go.Proofs.YtikkfapgmbamlaaGreatDoor.Ut
open Go.RowKit
set_option linter.unusedVariables false

section
variable {P : Program} {ops : Array Oper} {Q : Exit → Act → World → Prop} {T : (Nat → Value) → Array Value} {d : List Deferred}
/-- what each operation yields: number b makes a slice of n cells that hold cells -/
def BsR (W : World) (n : Nat) (cells : List Value) (vals : List Value) (b : Nat) (j : Nat) (v : Value) (w : World) : Prop :=
  if j = b then ∃ g, v = .slice (some ⟨g, 0, none⟩) n n ∧ W.heap.size ≤ g ∧ g < w.heap.size ∧ ∀ i u, cells[i]? = some u → w.cell? ⟨g, i, none⟩ = some u
  else v = nth vals j
variable {W : World} {n : Nat} {cells vals : List Value} {b : Nat}
def BsFrom (P : Program) (ops : Array Oper) (Q : Exit → Act → World → Prop) (T : (Nat → Value) → Array Value) (d : List Deferred) (W : World) (n : Nat) (cells vals : List Value) (b : Nat) (k : Nat) (l : List Oper) : Prop :=
  StepsFrom P ops Q T d (BsR W n cells vals b) (fun _ w => Below W.heap.size W w) (fun _ w w' => Below w.heap.size w w') k l
theorem bsR_nth {j : Nat} {v u : Value} {w : World} (h : BsR W n cells vals b j v w) (hb : j ≠ b) (hu : vals[j]? = some u) : v = u := by
  unfold BsR at h
  rw [if_neg hb] at h
  exact hd_nth' h hu
theorem bsR_slice {v : Value} {w : World} (h : BsR W n cells vals b b v w) : ∃ g, v = .slice (some ⟨g, 0, none⟩) n n ∧ W.heap.size ≤ g ∧ g < w.heap.size ∧ ∀ i u, cells[i]? = some u → w.cell? ⟨g, i, none⟩ = some u := by
  unfold BsR at h
  rwa [if_pos rfl] at h
/-- an operation that yields a value known ahead, a call among them -/
theorem bs_op {k : Nat} {o o' : Oper} {l : List Oper} (s : Nat) (ds : List Nat) (hd : depsOf o = ds) (kb : k ≠ b)
    (h : ∀ (x : Nat → Value) (w : World), Below W.heap.size W w → (∀ j ∈ ds, BsR W n cells vals b j (x j) w) → ∀ K : Act → World → Prop, (∀ tm w', tm = T (upd x k (tm.getD s undef)) → tm.getD s undef = nth vals k → Below w.heap.size w w' → K { tmps := tm, defers := d } w') →
      if Region.wanted o (yielded ops (T x)) = true then Oper.wp P o { tmps := T x, defers := d } w K Q else K (Act.put { tmps := T x, defers := d } o.dst undef) w)
    (hs : BsFrom P ops Q T d W n cells vals b (k + 1) (o' :: l)) : BsFrom P ops Q T d W n cells vals b k (o :: o' :: l) := by
  refine steps_op ds hd (fun L x w _ _ hw hR K hK => h x w hw hR K fun tm w' ht hv hb => ?_) hs
  refine hK _ w' tm ht ?_ (hw.trans (hb.mono hw.size)) hb
  unfold BsR; rw [if_neg kb]; exact hv
/-- the slice is built -/
theorem bs_build {k : Nat} {o o' : Oper} {l : List Oper} (s : Nat) (ds : List Nat) (hd : depsOf o = ds) (kb : k = b) (ty : TypeId)
    (h : ∀ (x : Nat → Value) (w : World), Below W.heap.size W w → (∀ j ∈ ds, BsR W n cells vals b j (x j) w) → ∀ K : Act → World → Prop, (∀ tm, tm = T (upd x k (tm.getD s undef)) → tm.getD s undef = .slice (some ⟨w.heap.size, 0, none⟩) n n → K { tmps := tm, defers := d } (w.alloc (.cells cells.toArray ty (0, 0)))) →
      if Region.wanted o (yielded ops (T x)) = true then Oper.wp P o { tmps := T x, defers := d } w K Q else K (Act.put { tmps := T x, defers := d } o.dst undef) w)
    (hs : BsFrom P ops Q T d W n cells vals b (k + 1) (o' :: l)) : BsFrom P ops Q T d W n cells vals b k (o :: o' :: l) := by
  refine steps_op ds hd (fun L x w _ _ hw hR K hK => h x w hw hR K fun tm ht hv => ?_) hs
  refine hK _ _ tm ht ?_ (hw.alloc hw.size _) ((Below.refl _ _).alloc (Nat.le_refl _) _)
  unfold BsR; rw [if_pos kb]
  refine ⟨_, hv, hw.size, by simp, fun i u hi => ?_⟩
  have := cells_new w cells ty i u hi
  rwa [add_plain] at this
theorem bs_last {k : Nat} {o : Oper}
    (h : ∀ (x : Nat → Value) (w : World), Below W.heap.size W w → (∀ j, j < k → BsR W n cells vals b j (x j) w) → ∀ K : Act → World → Prop, (∀ a' w', Q .normal a' w' → K a' w') →
      if Region.wanted o (yielded ops (T x)) = true then Oper.wp P o { tmps := T x, defers := d } w K Q else K (Act.put { tmps := T x, defers := d } o.dst undef) w) : BsFrom P ops Q T d W n cells vals b k [o] :=
  steps_last fun L x w _ _ hw hR K hK => h x w hw hR K hK
/-- THE REGION: apply it; T, the values and the slice's cells come by unification -/
theorem wp_region_bs {id : Nat} {act : Act} {w : World} (slots : List Nat) (vals : List Value) (n : Nat) (cells : List Value) (b : Nat) (hm : P.follows .mixedOrders = true) (hT : ∀ y, setAll act.tmps slots 0 y = T y) (hok : goodOrder ops = true) (hn : 0 < ops.size)
    (hs : BsFrom P ops Q T act.defers w n cells vals b 0 ops.toList) : (Code.region id ops true).wp P Q act w := by
  refine wp_region_by hm T (BsR w n cells vals b) (fun _ v => Below w.heap.size w v) (fun _ v v' => Below v.heap.size v v') hok hn ?_ (fun j => act.tmps.getD (slots.getD j 0) undef) ?_ (fun _ _ => (Below.refl _ _).drew) hs
  · intro i j L v u u' _ _ _ _ hle hR
    unfold BsR at hR ⊢
    split at hR
    · rename_i hj
      rw [if_pos hj]
      obtain ⟨g, e1, e2, e3, e4⟩ := hR
      exact ⟨g, e1, e2, Nat.lt_of_lt_of_le e3 hle.size, fun i u hu => (hle.cell (p := ⟨g, i, none⟩) e3).trans (e4 i u hu)⟩
    · rename_i hj
      rw [if_neg hj]; exact hR
  · rw [← hT, setAll_self]
    intro j s hj
    simp [List.getD, hj]
end
end Go.Proofs.YtikkfapgmbamlaaGreatDoor.Ut
end
section
/- The document's Digits, text, line of layer 5. -/
namespace Go.Proofs.YtikkfapgmbamlaaGreatDoor.Pl
open Go.RowKit Ut
set_option linter.unusedVariables false
set_option maxRecDepth 100000

theorem tb_app5 (a b : List UInt8) : tb a ++ tb b = tb (a ++ b) := by
  apply ByteArray.ext
  simp [tb, ByteArray.data_append]
theorem one_all : (List.range 10).all (fun n => decide ((strOfNums [48 + (n : Int)]).data.toList = [UInt8.ofNat (48 + n)])) = true := by decide +kernel
theorem one_digit (n : Nat) (h : n < 10) : strOfNums [48 + (n : Int)] = tb [UInt8.ofNat (48 + n)] := by
  have h1 := of_decide_eq_true (List.all_eq_true.1 one_all n (List.mem_range.2 h))
  rw [← h1, tb_of]
theorem conv_at {W : World} {g : Nat} {x : Int} (hg : g < W.heap.size) (hc : ∀ i u, ([.int .u8 x] : List Value)[i]? = some u → W.cell? ⟨g, i, none⟩ = some u) : (convert 39 9 (.slice (some ⟨g, 0, none⟩) 1 1)).run Tryz.prog W = .ok (.string (strOfNums [x])) W :=
  run_convert_row (P := Tryz.prog) (cap := 1) (dst := 9) (B := W.heap.size) Tryz.underlying39 Tryz.underlying5 Tryz.underlying9 ⟨rfl, fun i hi => by
    obtain rfl : i = 0 := by omega
    exact ⟨_, rfl, hg, by rw [add_plain]; exact hc 0 _ rfl⟩⟩
theorem conv_new (W : World) (x : Int) : (convert 39 9 (.slice (some ⟨W.heap.size, 0, none⟩) 1 1)).run Tryz.prog (W.alloc (.cells #[.int .u8 x] 5 (0, 0))) = .ok (.string (strOfNums [x])) (W.alloc (.cells #[.int .u8 x] 5 (0, 0))) :=
  run_convert_row (P := Tryz.prog) (cap := 1) (dst := 9) Tryz.underlying39 Tryz.underlying5 Tryz.underlying9 (RowK.new1 .u8 W x 5)
theorem digits_one (n : Nat) (h : n < 10) (w : World) :
    Calls Tryz.prog 15 #[.int .i64 n] w fun e w' => e = .returned (.string (tb (Lib.decDigits n))) ∧ Below w.heap.size w w' := by
  have HD : Hid (tb (Lib.decDigits n) = strOfNums [48 + (n : Int)]) := Lib.hid (by rw [one_digit n h, Lib.decDigits, dif_pos h])
  have hcv := conv_new w (48 + (n : Int))
  have hb0 : Below w.heap.size w (w.alloc (.cells #[.int .u8 (48 + (n : Int))] 5 (0, 0))) := (Below.refl _ _).alloc (Nat.le_refl _) _
  generalize strOfNums [48 + (n : Int)] = tx at hcv HD
  go_enter Tryz.func15, Tryz.ntmps15
  go_wp2
  go_ret
  exact ⟨by rw [HD.out]; rfl, hb0⟩
set_option maxHeartbeats 4000000 in
theorem digits_any (n : Nat) (h : n < 100) (w : World) :
    Calls Tryz.prog 15 #[.int .i64 n] w fun e w' => e = .returned (.string (tb (Lib.decDigits n))) ∧ Below w.heap.size w w' := by
  by_cases h1 : n < 10
  · exact digits_one n h1 w
  · obtain ⟨q, hq⟩ : ∃ q, n / 10 = q := ⟨_, rfl⟩
    obtain ⟨r, hr⟩ : ∃ r, n % 10 = r := ⟨_, rfl⟩
    have hq10 : q < 10 := by omega
    have hr10 : r < 10 := by omega
    have HQ := Lib.hid (digits_one q hq10)
    have HD : Hid (tb (Lib.decDigits n) = tb (Lib.decDigits q) ++ strOfNums [48 + (r : Int)]) := Lib.hid (by
      rw [one_digit r hr10, tb_app5, ← hq, ← hr]
      congr 1
      rw [Lib.decDigits, dif_neg h1])
    have t1 : Int.tdiv (n : Int) 10 = (q : Int) := by rw [← hq]; rfl
    have t2 : Int.tmod (n : Int) 10 = (r : Int) := by rw [← hr]; rfl
    have t3 : (n : Int) / 10 = (q : Int) := by omega
    have t4 : (n : Int) % 10 = (r : Int) := by omega
    have HS : Hid ((tb (Lib.decDigits q)).size ≤ 2) := Lib.hid (by rw [tb_size, Lib.decDigits, dif_pos hq10]; simp)
    generalize tb (Lib.decDigits q) = tq at HQ HD HS
    clear hq hr
    go_enter Tryz.func15, Tryz.ntmps15
    have HCA := Lib.hid (fun (W : World) (g : Nat) (hg : g < W.heap.size) (hc : ∀ i u, ([.int .u8 (48 + (r : Int))] : List Value)[i]? = some u → W.cell? ⟨g, i, none⟩ = some u) => conv_at hg hc)
    have hts : (strOfNums [48 + (r : Int)]).size = 1 := by rw [one_digit r hr10]; rfl
    generalize strOfNums [48 + (r : Int)] = ts at HCA HD hts
    have hc1 : ¬ 9223372036854775807 < tq.size + ts.size := by have := HS.out; omega
    have hc2 : ¬ 9223372036854775807 < tq.size + 1 := by have := HS.out; omega
    have w1 : IntKind.i64.wrap (q : Int) = q := IntWalk.i64_in _ (by omega)
    have w2 : IntKind.i64.wrap (r : Int) = r := IntWalk.i64_in _ (by omega)
    have w3 : IntKind.i64.wrap (48 + (r : Int)) = 48 + (r : Int) := IntWalk.i64_in _ (by omega)
    have w4 : IntKind.u8.wrap (48 + (r : Int)) = 48 + (r : Int) := IntWalk.u8_in _ (by omega)
    go_wp2
    apply wp_region_bs [10, 11, 12, 13, 14, 15, 16, 17, 18, 19] [_, _, _, _, _, _, _, undef, _, _] 1 [.int .u8 (48 + (r : Int))] 7
    case hm => kernel_rfl
    case hT => intro y; simp only [setAll, List.setIfInBounds_toArray, List.set_cons_succ, List.set_cons_zero]; exact rfl
    case hok => kernel_rfl
    case hn => decide
    case hs =>
      refine bs_op 10 [] (by kernel_rfl) (by decide) (fun y w' HW hd K hK => ?_) ?_
      · go_simp
        refine hK _ _ ?_ ?_ (Below.refl _ _)
        · simp [upd]
        · exact rfl
      refine bs_op 11 [0] (by kernel_rfl) (by decide) (fun y w' HW hd K hK => ?_) ?_
      · have e0 := bsR_nth (hd 0 (by simp)) (by decide) rfl
        go_simp
        refine hK _ _ ?_ ?_ (Below.refl _ _)
        · simp [upd, e0]
        · exact rfl
      refine bs_op 12 [1] (by kernel_rfl) (by decide) (fun y w' HW hd K hK => ?_) ?_
      · have e1 := bsR_nth (hd 1 (by simp)) (by decide) rfl
        go_simp
        refine (HQ.out _).mono ?_
        rintro e w3 ⟨rfl, hb3⟩
        refine hK _ _ ?_ ?_ hb3
        · simp [upd, e1]
        · exact rfl
      refine bs_op 13 [] (by kernel_rfl) (by decide) (fun y w' HW hd K hK => ?_) ?_
      · go_simp
        refine hK _ _ ?_ ?_ (Below.refl _ _)
        · simp [upd]
        · exact rfl
      refine bs_op 14 [3] (by kernel_rfl) (by decide) (fun y w' HW hd K hK => ?_) ?_
      · have e3 := bsR_nth (hd 3 (by simp)) (by decide) rfl
        go_simp
        refine hK _ _ ?_ ?_ (Below.refl _ _)
        · simp [upd, e3]
        · exact rfl
      refine bs_op 15 [4] (by kernel_rfl) (by decide) (fun y w' HW hd K hK => ?_) ?_
      · have e4 := bsR_nth (hd 4 (by simp)) (by decide) rfl
        go_simp
        refine hK _ _ ?_ ?_ (Below.refl _ _)
        · simp [upd, e4]
        · exact rfl
      refine bs_op 16 [5] (by kernel_rfl) (by decide) (fun y w' HW hd K hK => ?_) ?_
      · have e5 := bsR_nth (hd 5 (by simp)) (by decide) rfl
        go_simp
        refine hK _ _ ?_ ?_ (Below.refl _ _)
        · simp [upd, e5]
        · exact rfl
      refine bs_build 17 [6] (by kernel_rfl) rfl 5 (fun y w' HW hd K hK => ?_) ?_
      · have e6 := bsR_nth (hd 6 (by simp)) (by decide) rfl
        go_simp
        refine hK _ ?_ ?_
        · simp [upd, e6]
        · exact rfl
      refine bs_op 18 [7] (by kernel_rfl) (by decide) (fun y w' HW hd K hK => ?_) ?_
      · obtain ⟨g, eb, hg0, hg1, hgc⟩ := bsR_slice (hd 7 (by simp))
        have hcv := HCA.out w' g hg1 hgc
        go_simp
        refine hK _ _ ?_ ?_ (Below.refl _ _)
        · simp [upd, eb]
        · exact rfl
      refine bs_op 19 [2, 8] (by kernel_rfl) (by decide) (fun y w' HW hd K hK => ?_) ?_
      · have e2 := bsR_nth (hd 2 (by simp)) (by decide) rfl
        have e8 := bsR_nth (hd 8 (by simp)) (by decide) rfl
        go_simp
        refine hK _ _ ?_ ?_ (Below.refl _ _)
        · simp [upd, e2, e8]
        · exact rfl
      refine bs_last fun y w' HW hd K hK => ?_
      have e0 := bsR_nth (hd 0 (by omega)) (by decide) rfl
      have e1 := bsR_nth (hd 1 (by omega)) (by decide) rfl
      have e2 := bsR_nth (hd 2 (by omega)) (by decide) rfl
      have e3 := bsR_nth (hd 3 (by omega)) (by decide) rfl
      have e4 := bsR_nth (hd 4 (by omega)) (by decide) rfl
      have e5 := bsR_nth (hd 5 (by omega)) (by decide) rfl
      have e6 := bsR_nth (hd 6 (by omega)) (by decide) rfl
      have e8 := bsR_nth (hd 8 (by omega)) (by decide) rfl
      have e9 := bsR_nth (hd 9 (by omega)) (by decide) rfl
      go_simp
      refine hK _ _ ?_
      clear hd hK K e0 e1 e2 e3 e4 e5 e6 e8 e9
      go_wp2
      go_ret
      exact ⟨by rw [HD.out]; rfl, HW⟩
theorem refLabText_any (l : Int) (h : La.isL l = true) (w : World) :
    Calls Tryz.prog 16 #[.int .i64 l] w fun e w' => e = .returned (.string (La.textB l)) ∧ Below w.heap.size w w' := by
  have hx := La.refText_any l h (B := w.heap.size) (w0 := w) (w := w) (Nat.le_refl _) (Below.refl _ _)
  generalize La.textB l = tx at hx
  go_enter Tryz.func16, Tryz.ntmps16
  go_wp2_with (go_at_call 28; refine hx.mono ?_; rintro e w1 ⟨rfl, hb1⟩)
  go_ret
  exact ⟨rfl, hb1⟩
/-- words as a line -/
def joinL : List (List UInt8) → List UInt8
  | [] => []
  | x :: xs => x ++ (xs.map (32 :: ·)).flatten
theorem join_snoc (x : List UInt8) (xs : List (List UInt8)) (k : Nat) (hk : k < xs.length) : joinL (x :: xs.take (k + 1)) = joinL (x :: xs.take k) ++ (32 :: xs.getD k []) := by
  show x ++ ((xs.take (k + 1)).map (32 :: ·)).flatten = (x ++ ((xs.take k).map (32 :: ·)).flatten) ++ (32 :: xs.getD k [])
  rw [List.take_add_one, List.map_append, List.flatten_append, List.getElem?_eq_getElem hk, List.append_assoc]
  simp [List.getD, hk]
set_option maxHeartbeats 1000000 in
/-- a line of words -/
theorem refLine_any (g n : Nat) (x : List UInt8) (xs : List (List UInt8)) (hn : n = xs.length + 1) (hn9 : n ≤ 9) (hx : ∀ k, ((x :: xs).getD k []).length ≤ 10) (w : World) (hg : g < w.heap.size)
    (hc : ∀ i u, ((x :: xs).map encS)[i]? = some u → w.cell? ⟨g, i, none⟩ = some u) :
    Calls Tryz.prog 14 #[.slice (some ⟨g, 0, none⟩) n n] w fun e w' => e = .returned (.string (tb (joinL (x :: xs) ++ [10]))) ∧ Below w.heap.size w w' := by
  have hcc : ∀ k, k < n → w.cell? ⟨g, k, none⟩ = some (.string (tb ((x :: xs).getD k []))) := fun k hk => by
    refine hc k _ ?_
    have hk2 : k < (x :: xs).length := by simp; omega
    rw [List.getElem?_map, List.getElem?_eq_getElem hk2, List.getD_eq_getElem?_getD, List.getElem?_eq_getElem hk2]
    rfl
  have c0 := hcc 0 (by omega)
  simp only [List.getD_cons_zero] at c0
  have HC := Lib.hid hcc
  have HX := Lib.hid hx
  have HR : Hid (tb (joinL (x :: xs) ++ [10]) = tb (joinL (x :: xs.take (n - 1))) ++ ⟨#[10]⟩) := Lib.hid (by
    have e : xs.take (n - 1) = xs := List.take_of_length_le (by omega)
    rw [e, ← tb_app5]; rfl)
  have HS := Lib.hid (join_snoc x xs)
  have hx0 : (tb x).size ≤ 10 := by rw [tb_size]; exact hx 0
  have h0 : tb (joinL (x :: xs.take 0)) = tb x := by simp [joinL]
  have HN := Lib.hid hn
  have hnp : 0 < n := by omega
  clear hc hcc hx hn
  have H0 := Lib.hid h0
  clear h0
  go_enter Tryz.func14, Tryz.ntmps14
  go_wp2
  go_loop [3, 4] (fun t i => ∃ k : Nat, 1 ≤ k ∧ k ≤ n ∧ i = .int .i64 k ∧ t = .string (tb (joinL (x :: xs.take (k - 1)))) ∧ (joinL (x :: xs.take (k - 1))).length ≤ 11 * k) (fun _ i => n - (intOf i).toNat)
  case atStart => exact ⟨1, Nat.le_refl _, by omega, rfl, by rw [H0.out], by simp [joinL]; have := HX.out 0; simp at this; omega⟩
  case round =>
    obtain ⟨k, hk1, hk, rfl, rfl, hlen⟩ := hrel
    by_cases hlt : k < n
    · have ck := HC.out k hlt
      obtain ⟨j, rfl⟩ : ∃ j, k = j + 1 := ⟨k - 1, by omega⟩
      have hst := HS.out j (by have := HN.out; omega)
      have hwl := HX.out (j + 1)
      simp only [List.getD_cons_succ] at ck hwl
      simp only [Nat.add_sub_cancel] at hlen ⊢
      obtain ⟨y, hy⟩ : ∃ y, xs.getD j [] = y := ⟨_, rfl⟩
      rw [hy] at ck hst hwl
      obtain ⟨U, hU⟩ : ∃ U, joinL (x :: xs.take j) = U := ⟨_, rfl⟩
      rw [hU] at hst hlen ⊢
      have HST := Lib.hid hst
      have HLN := Lib.hid hlen
      have HWL := Lib.hid hwl
      have hus : (tb U).size ≤ 200 := by rw [tb_size]; omega
      have hys : (tb y).size ≤ 10 := by rw [tb_size]; omega
      clear hst hlen hwl hy hU
      have hki : ((j + 1 : Nat) : Int) < (n : Int) := by omega
      generalize hut : tb U = ut at hus ⊢
      generalize hyt : tb y = yt at hys ck
      have HU := Lib.hid hut
      have HY := Lib.hid hyt
      clear hut hyt
      have hc1 : ¬ 9223372036854775807 < ut.size + 1 := by omega
      have hc2 : ¬ 9223372036854775807 < ut.size + 1 + yt.size := by omega
      have hc3 : ¬ 9223372036854775807 < (ut ++ ({ data := #[32] } : ByteArray)).size + yt.size := by rw [ByteArray.size_append]; exact hc2
      go_wp2
      go_round
      case rel =>
        refine ⟨j + 2, by omega, by omega, by go_num, ?_, ?_⟩
        · rw [show j + 2 - 1 = j + 1 by omega, HST.out, ← tb_app5, HU.out, ← HY.out, ByteArray.append_assoc]; rfl
        · rw [show j + 2 - 1 = j + 1 by omega, HST.out, List.length_append, List.length_cons]
          have h1 := HLN.out
          have h2 := HWL.out
          omega
      case measure => simp [intOf]; omega
    · obtain rfl : k = n := by omega
      have hus : (tb (joinL (x :: xs.take (k - 1)))).size ≤ 200 := by rw [tb_size]; omega
      clear hlen
      generalize tb (joinL (x :: xs.take (k - 1))) = ut at hus HR ⊢
      have hc1 : ¬ 9223372036854775807 < ut.size + 1 := by omega
      go_wp2
      go_ret
      exact ⟨by rw [HR.out]; rfl, Below.refl _ _⟩
end Go.Proofs.YtikkfapgmbamlaaGreatDoor.Pl
end
