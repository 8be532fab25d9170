/- Several texts in one: Es Fa Ec -/
import Derived.Test.YtikkfapgmbamlaaGreatDoorZ02
import Derived.Test.YtikkfapgmbamlaaGreatDoorZ06
import Derived.Test.YtikkfapgmbamlaaGreatDoorZ05
import Derived.BigQuiet
import Derived.Test.YtikkfapgmbamlaaGreatDoorZ04
section
/- The document's Number of layer 5. -/
namespace Go.Proofs.YtikkfapgmbamlaaGreatDoor.Pl
open Go.RowKit Ut
set_option linter.unusedVariables false

end Go.Proofs.YtikkfapgmbamlaaGreatDoor.Pl
end
section
/- The document's rank, numbers, labelled of layer 5. -/
namespace Go.Proofs.YtikkfapgmbamlaaGreatDoor.Pl
open Go.RowKit Ut
set_option linter.unusedVariables false
set_option maxRecDepth 100000

/-- how many words a line has with that first word; 0 if it can't be one -/
def cntZ (w : List UInt8) : Int := match rankL w with | some r => ((kf r).length : Int) + 1 | none => 0
theorem ref_word (s : ByteArray) (l : List UInt8) : (s.toList == l) = decide (s.data.toList = l) := by
  rw [ByteArray.toList_eq]
  cases h : decide (s.data.toList = l)
  · simpa using h
  · simpa using h
/-- words as numbers -/
def numsL : List (List UInt8) → Option (List Int)
  | [] => some []
  | t :: ts => match numL t with
    | none => none
    | some n => match numsL ts with
      | none => none
      | some l => some ((n : Int) :: l)
theorem numsL_step {ts : List (List UInt8)} {k : Nat} (hk : k < ts.length) : numsL (ts.drop k) = match numL (ts.getD k []) with
    | none => none
    | some n => match numsL (ts.drop (k + 1)) with
      | none => none
      | some l => some ((n : Int) :: l) := by
  rw [List.drop_eq_getElem_cons hk, numsL]
  simp only [List.getD, List.getElem?_eq_getElem hk, Option.getD_some]
theorem numL_lt {l : List UInt8} {n : Nat} (hn : numL l = some n) : n < 1000000000 := by
  unfold numL at hn
  split at hn
  · cases hn
  · rename_i hc
    injection hn with hn
    subst hn
    have hall : l.all isDig = true := by simpa using fun e => hc (.inr (.inr (.inr e)))
    have hl : l.length ≤ 9 := Nat.le_of_not_lt fun e => hc (.inr (.inl e))
    have h1 := valD_lt l hall
    have h2 := pow9 l.length hl
    omega
theorem info_int5 : (Tryz.prog.info? 3).map (fun i => (i.zero, i.size, i.bytes)) = some (some (.int .i64 0), 1, 8) := by kernel_rfl
theorem lab_split (x y z : List UInt8) : valsL [108, 110, 110] [x, y, z] = if (La.parseF x).2 = 0 then (numsL [y, z]).map ((La.parseF x).1 :: ·) else none := by
  have hn : ∀ w, valL 110 w = (numL w).map Int.ofNat := fun w => by
    unfold valL
    rw [if_neg (by decide), if_neg (by rintro ⟨h, _⟩; revert h; decide)]
  have hl : valL 108 x = if (La.parseF x).2 = 0 then some (La.parseF x).1 else none := by unfold valL; rw [if_pos rfl]
  simp only [valsL, hn, hl, numsL]
  by_cases h : (La.parseF x).2 = 0
  · rw [if_pos h, if_pos h]
    cases numL y <;> cases numL z <;> rfl
  · rw [if_neg h, if_neg h]
theorem below_dn {B : Nat} {w W : World} (h : Below B w W) (n : Nat) : Below B w (W.drewN n) := h.trans ⟨rfl, rfl, rfl, Nat.le_refl _, fun _ _ => rfl⟩
theorem add_pos (ad : Addr) (k : Nat) (hk : 0 < k) : ad.add k = ⟨ad.block, ad.off + k, none⟩ := by
  unfold Addr.add
  rw [if_neg (by omega)]
theorem results_tmp4 {fn : Func} {t u v x : Tmp} (h : fn.results = #[.tmp t, .tmp u, .tmp v, .tmp x]) (tmps : Array Value) (P : Program) (w : World) :
    (results fn tmps).run P w = .ok (.tuple #[tmps.getD t undef, tmps.getD u undef, tmps.getD v undef, tmps.getD x undef]) w := by
  simp [results, h]
end Go.Proofs.YtikkfapgmbamlaaGreatDoor.Pl
end
section
/- plan: a configuration that grows in memory. -/
namespace Go.Proofs.YtikkfapgmbamlaaGreatDoor.Pl
open Go.RowKit Ut
set_option linter.unusedVariables false

/-- every block of texts is as it was, and every configuration's but b -/
def KeptS (b : Nat) (w w' : World) : Prop := w.heap.size ≤ w'.heap.size ∧ ∀ (g : Nat) (cs : Array Value) (t : TypeId) (f : Nat × Nat), g ≠ b → (t = 9 ∨ t = 28 ∨ t = 46) → w.heap[g]? = some (Obj.cells cs t f) → w'.heap[g]? = some (Obj.cells cs t f)
theorem KeptS.refl (b : Nat) (w : World) : KeptS b w w := ⟨Nat.le_refl _, fun _ _ _ _ _ _ h => h⟩
theorem KeptS.trans {q : Nat} {a b c : World} (h : KeptS q a b) (k : KeptS q b c) : KeptS q a c := ⟨Nat.le_trans h.1 k.1, fun g cs t f hg ht e => k.2 g cs t f hg ht (h.2 g cs t f hg ht e)⟩
theorem KeptS.of_below {b : Nat} {w w' : World} (h : Below w.heap.size w w') : KeptS b w w' := ⟨h.size, fun g cs t f _ _ e => (h.block g (Array.getElem?_eq_some_iff.1 e).1).trans e⟩
theorem KeptS.of_kept {b : Nat} {e : TypeId} {w w' : World} (h : Kept e w w') (hne : 9 ≠ e ∧ 28 ≠ e ∧ 46 ≠ e) : KeptS b w w' := ⟨h.1, fun g cs t f _ ht hc => h.2 g cs _ f (ht.elim (fun q => q ▸ hne.1) (fun q => q.elim (fun q => q ▸ hne.2.1) (fun q => q ▸ hne.2.2))) hc⟩
theorem KeptS.setCell {w : World} {b o : Nat} {v : Value} : KeptS b w (w.setCell ⟨b, o, none⟩ v) :=
  ⟨by simp, fun g cs' t' f' hg _ hc => by rw [Below.heap_setCell _ _ _ _ hg]; exact hc⟩
theorem KeptS.ownS {b : Nat} {w w' : World} {B n : Nat} {v : Value} {ts : List (List UInt8)} (h : OwnS w B 9 v n ts) (hk : KeptS b w w') (hb : ∀ cs f, w.heap[b]? ≠ some (Obj.cells cs 9 f)) : OwnS w' B 9 v n ts := by
  refine ⟨h.1, ?_⟩
  rcases h.2 with h0 | ⟨g, cap, cur, rfl, hB, hg', r⟩
  · exact .inl h0
  · exact .inr ⟨g, cap, cur, rfl, hB, hk.2 _ _ _ _ (by rintro rfl; exact hb _ _ hg') (.inl rfl) hg', r⟩

/-- integers of the kind -/
def In64 (x : List Int) : Prop := ∀ z ∈ x, -9223372036854775808 ≤ z ∧ z < 9223372036854775808
/-- a configuration that grows in block b -/
structure BoxP (w : World) (B b : Nat) (p : PC) (vg vr vp vn vs : Value) : Prop where
  box : w.heap[b]? = some (.cells #[.int .i64 p.cats, vg, vr, vp, vn, vs, .int .i64 p.gate, .int .i64 p.quota] 28 (0, 0))
  hB : B ≤ b
  og : OwnT 3 w B 59 vg p.gs
  or : OwnT 3 w B 61 vr p.rs
  op : OwnT 2 w B 63 vp p.ps
  on : OwnT 2 w B 65 vn p.ns
  os : OwnT 2 w B 67 vs p.ss
theorem BoxP.below {w w' : World} {B b : Nat} {p : PC} {vg vr vp vn vs : Value} (h : BoxP w B b p vg vr vp vn vs) (hb : Below w.heap.size w w') : BoxP w' B b p vg vr vp vn vs :=
  ⟨(hb.block b (Array.getElem?_eq_some_iff.1 h.box).1).trans h.box, h.hB, h.og.below hb, h.or.below hb, h.op.below hb, h.on.below hb, h.os.below hb⟩

theorem box_set {w : World} {b : Nat} {cs : List Value} {t : TypeId} (h : w.heap[b]? = some (.cells cs.toArray t (0, 0))) (i : Nat) (u : Value) : (w.setCell ⟨b, i, none⟩ u).heap[b]? = some (.cells (cs.set i u).toArray t (0, 0)) := by
  have hlt := (Array.getElem?_eq_some_iff.1 h).1
  simp [World.setCell, Array.getElem?_modify, h]
theorem ownT_set {k : Nat} {w : World} {B b o : Nat} {e t : TypeId} {v u : Value} {xs : List (List Int)} {cs : Array Value} {f : Nat × Nat} (h : OwnT k w B e v xs) (hb : w.heap[b]? = some (Obj.cells cs t f)) (hne : e ≠ t) : OwnT k (w.setCell ⟨b, o, none⟩ u) B e v xs :=
  ⟨ownsRow_setCell_other h.1 (own_ne_box h.1 hb hne) u, h.2⟩
theorem BoxP.set1 {W w' : World} {B b : Nat} {p : PC} {vg vr vp vn vs vg' : Value} {y : List Int} (h : BoxP W B b p vg vr vp vn vs) (hK : Kept 59 W w') (hA : OwnT 3 w' B 59 vg' (p.gs ++ [y])) : BoxP (w'.setCell ⟨b, 1, none⟩ vg') B b (p.put 1 y) vg' vr vp vn vs := by
  have hb := hK.2 _ _ _ _ (by decide) h.box
  exact ⟨box_set hb 1 vg', h.hB, ownT_set hA hb (by decide), ownT_set (hK.ownT h.or (by decide)) hb (by decide), ownT_set (hK.ownT h.op (by decide)) hb (by decide), ownT_set (hK.ownT h.on (by decide)) hb (by decide), ownT_set (hK.ownT h.os (by decide)) hb (by decide)⟩
theorem BoxP.set2 {W w' : World} {B b : Nat} {p : PC} {vg vr vp vn vs vr' : Value} {y : List Int} (h : BoxP W B b p vg vr vp vn vs) (hK : Kept 61 W w') (hA : OwnT 3 w' B 61 vr' (p.rs ++ [y])) : BoxP (w'.setCell ⟨b, 2, none⟩ vr') B b (p.put 2 y) vg vr' vp vn vs := by
  have hb := hK.2 _ _ _ _ (by decide) h.box
  exact ⟨box_set hb 2 vr', h.hB, ownT_set (hK.ownT h.og (by decide)) hb (by decide), ownT_set hA hb (by decide), ownT_set (hK.ownT h.op (by decide)) hb (by decide), ownT_set (hK.ownT h.on (by decide)) hb (by decide), ownT_set (hK.ownT h.os (by decide)) hb (by decide)⟩
theorem BoxP.set3 {W w' : World} {B b : Nat} {p : PC} {vg vr vp vn vs vp' : Value} {y : List Int} (h : BoxP W B b p vg vr vp vn vs) (hK : Kept 63 W w') (hA : OwnT 2 w' B 63 vp' (p.ps ++ [y])) : BoxP (w'.setCell ⟨b, 3, none⟩ vp') B b (p.put 3 y) vg vr vp' vn vs := by
  have hb := hK.2 _ _ _ _ (by decide) h.box
  exact ⟨box_set hb 3 vp', h.hB, ownT_set (hK.ownT h.og (by decide)) hb (by decide), ownT_set (hK.ownT h.or (by decide)) hb (by decide), ownT_set hA hb (by decide), ownT_set (hK.ownT h.on (by decide)) hb (by decide), ownT_set (hK.ownT h.os (by decide)) hb (by decide)⟩
theorem BoxP.set4 {W w' : World} {B b : Nat} {p : PC} {vg vr vp vn vs vn' : Value} {y : List Int} (h : BoxP W B b p vg vr vp vn vs) (hK : Kept 65 W w') (hA : OwnT 2 w' B 65 vn' (p.ns ++ [y])) : BoxP (w'.setCell ⟨b, 4, none⟩ vn') B b (p.put 4 y) vg vr vp vn' vs := by
  have hb := hK.2 _ _ _ _ (by decide) h.box
  exact ⟨box_set hb 4 vn', h.hB, ownT_set (hK.ownT h.og (by decide)) hb (by decide), ownT_set (hK.ownT h.or (by decide)) hb (by decide), ownT_set (hK.ownT h.op (by decide)) hb (by decide), ownT_set hA hb (by decide), ownT_set (hK.ownT h.os (by decide)) hb (by decide)⟩
theorem BoxP.set5 {W w' : World} {B b : Nat} {p : PC} {vg vr vp vn vs vs' : Value} {y : List Int} (h : BoxP W B b p vg vr vp vn vs) (hK : Kept 67 W w') (hA : OwnT 2 w' B 67 vs' (p.ss ++ [y])) : BoxP (w'.setCell ⟨b, 5, none⟩ vs') B b (p.put 5 y) vg vr vp vn vs' := by
  have hb := hK.2 _ _ _ _ (by decide) h.box
  exact ⟨box_set hb 5 vs', h.hB, ownT_set (hK.ownT h.og (by decide)) hb (by decide), ownT_set (hK.ownT h.or (by decide)) hb (by decide), ownT_set (hK.ownT h.op (by decide)) hb (by decide), ownT_set (hK.ownT h.on (by decide)) hb (by decide), ownT_set hA hb (by decide)⟩
end Go.Proofs.YtikkfapgmbamlaaGreatDoor.Pl
end
