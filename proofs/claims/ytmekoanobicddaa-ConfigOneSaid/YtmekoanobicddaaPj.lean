/- (*Table).Of: whose places, rising. -/
import Derived.Test.YtmekoanobicddaaPi
namespace Go.Proofs.Ytmekoanobicddaa.Pt
open Go.RowKit Go.Shelf Ut
set_option linter.unusedVariables false
attribute [local go_sem] Oper.semAt_some

/-- the places of run x, the first k -/
def someOf (x : BR) (k : Nat) : List Int := (List.range k).map fun (j : Nat) => x.1.f + (j : Int)
/-- who's places -/
def ofL (who : Int) (xs : List BR) : List Int := xs.flatMap fun x => if x.1.w = who then someOf x x.1.n.toNat else []
theorem someOf_succ (x : BR) (k : Nat) : someOf x (k + 1) = someOf x k ++ [x.1.f + (k : Int)] := by simp [someOf, List.range_succ]
theorem someOf_length (x : BR) (k : Nat) : (someOf x k).length = k := by simp [someOf]
theorem ofL_snoc (who : Int) (xs : List BR) (x : BR) : ofL who (xs ++ [x]) = ofL who xs ++ if x.1.w = who then someOf x x.1.n.toNat else [] := by simp [ofL]
theorem ofL_length (who : Int) (xs : List BR) : (ofL who xs).length ≤ 64 * xs.length := by
  induction xs with
  | nil => simp [ofL]
  | cons x xs ih =>
    have h := x.2
    unfold Fine at h
    simp only [ofL, List.flatMap_cons, List.length_append, List.length_cons] at ih ⊢
    have : (if x.1.w = who then someOf x x.1.n.toNat else []).length ≤ 64 := by
      split
      · rw [someOf_length]; omega
      · simp
    omega

theorem ownsRow_less {W : World} {B B' e size n : Nat} {v : Value} {xs : List Value} (h : W.ownsRow B e size v n xs) (hB : B' ≤ B) : W.ownsRow B' e size v n xs := by
  rcases h.2 with h2 | ⟨q, cap, cur, h1, h2, h3⟩
  · exact ⟨h.1, .inl h2⟩
  · exact ⟨h.1, .inr ⟨q, cap, cur, h1, by omega, h3⟩⟩

theorem appended2 {W w1 : World} {n₀ N B : Nat} {t e : TypeId} {size : Nat} {v v' : Value} {k m : Nat} {xs ys : List Value} {tmp : Obj}
    (hv : Boxed W B t v) (hte : t ≠ e) (hrow : W.ownsRow N e size v k xs) (hn : n₀ ≤ N) (hn₀ : n₀ ≤ W.heap.size) (hB : n₀ ≤ B)
    (hown' : w1.ownsRow N e size v' m ys) (hgrow : (W.alloc tmp).grownBy w1 v.ownBlock) :
    Boxed w1 B t v ∧ Boxed (w1.setCell ⟨B, 0, none⟩ v') B t v' ∧ (w1.setCell ⟨B, 0, none⟩ v').ownsRow N e size v' m ys ∧ KeepsOthers W (w1.setCell ⟨B, 0, none⟩ v') ∧ Below n₀ W (w1.setCell ⟨B, 0, none⟩ v') := by
  obtain ⟨h1, h2, _, h4, h5⟩ := hv.appended hte (ownsRow_less hrow hn) hn₀ hB (ownsRow_less hown' hn) hgrow
  exact ⟨h1, h2, hown'.kept (grownBy_setCell' w1 B v') (.inr (h1.not_row hte hown').symm), h4, h5⟩

theorem Run3.not_row {W : World} {b : Nat} {r : R3} (h : Run3 W b r) {base e size k : Nat} {v : Value} {xs : List Value} (hr : W.ownsRow base e size v k xs) (he : e ≠ 33) : some b ≠ v.ownBlock := by
  rcases hr.2 with ⟨rfl, _⟩ | ⟨g, cap, cur, rfl, _, hgb, _⟩
  · simp [Value.ownBlock]
  · intro e'
    obtain rfl : b = g := by simpa [Value.ownBlock] using e'
    have := (show W.heap[b]? = _ from h).symm.trans hgb
    injection this with this
    injection this with _ this
    exact he this.symm
theorem ownsRow_ne {W : World} {B e size n q : Nat} {v : Value} {xs : List Value} (h : W.ownsRow B e size v n xs) (hq : q < B) : some q ≠ v.ownBlock := by
  rcases h.2 with ⟨rfl, _⟩ | ⟨g, cap, cur, rfl, hb, _⟩
  · simp [Value.ownBlock]
  · intro e'
    obtain rfl : q = g := by simpa [Value.ownBlock] using e'
    omega

theorem A.info3 : (Try.prog.info? 3).map (fun i => (i.zero, i.size, i.bytes)) = some (some (.int .i64 0), 1, 8) := by kernel_rfl

/-- the box holds who's places so far -/
def OfB (h : Nat) (who : Int) (L : List Int) (W : World) : Prop :=
  (∃ v, Boxed W (h + 1) 22 v ∧ W.ownsRow (h + 3) 3 1 v L.length (L.map (Value.int .i64)) ∧ True) ∧ Boxed W h 3 (.int .i64 who)
/-- between two rounds -/
def OfI (w : World) (h : Nat) (who : Int) (pre : List BR) (W : World) : Prop := (OfB h who (ofL who pre) W ∧ h + 3 ≤ W.heap.size) ∧ Below h w W
/-- between two rounds of the inner loop -/
def OfJ (h Bx : Nat) (who : Int) (L : List Int) (x : R3) (W wr : World) : Prop := (OfB h who L wr ∧ Run3 wr Bx x) ∧ (KeepsFrom (h + 3) W wr ∧ Below h W wr ∧ h + 3 ≤ wr.heap.size)

end Go.Proofs.Ytmekoanobicddaa.Pt
