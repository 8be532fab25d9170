/- Several texts in one: En Ec -/
import Derived.Test.YtikkfapgmbamlaaDoorZ02
import Derived.Test.YtikkfapgmbamlaaDoorZ04
import Derived.Test.YtikkfapgmbamlaaDoorZ01
section
/- Plan: a configuration's text, plainly: what lines say, how they are read and printed; there and back. -/
namespace Go.Proofs.YtikkfapgmbamlaaDoor.Pl
open Go.RowKit Ut

/-- the ranks' words, and what stands behind them -/
def kw : Nat → List UInt8
  | 0 => [99, 97, 116, 115]
  | 1 => [103, 117, 101, 115, 116]
  | 2 => [114, 97, 110, 103, 101]
  | 3 => [112, 111, 114, 116]
  | 4 => [114, 105, 110, 103]
  | 5 => [115, 108, 111, 116]
  | 6 => [103, 97, 116, 101]
  | _ => []
def kf : Nat → List UInt8
  | 0 => [110]
  | 1 => [108, 110, 110]
  | 2 => [108, 110, 110]
  | 3 => [108, 112]
  | 4 => [110, 110]
  | 5 => [110, 110]
  | 6 => [110, 110]
  | _ => []
def rankL (w : List UInt8) : Option Nat := (List.range 7).find? fun r => kw r == w
/-- what a word says in a field: a label, out, a number -/
def valL (f : UInt8) (w : List UInt8) : Option Int :=
  if f = 108 then (if (La.parseF w).2 = 0 then some (La.parseF w).1 else none)
  else if f = 112 ∧ w = [111, 117, 116] then some (-1) else (numL w).map Int.ofNat
def valsL : List UInt8 → List (List UInt8) → Option (List Int)
  | [], [] => some []
  | f :: fs, w :: ws => match valL f w, valsL fs ws with
    | some v, some vs => some (v :: vs)
    | _, _ => none
  | _, _ => none
/-- a line as its rank and its values -/
def recL (line : List UInt8) : Option (Nat × List Int) := match wordsL line with
  | some (w :: ws) => match rankL w with
    | some r => match valsL (kf r) ws with
      | some vs => some (r, vs)
      | none => none
    | none => none
  | _ => none
/-- a configuration, plainly -/
structure PC where
  cats : Int
  gs : List (List Int)
  rs : List (List Int)
  ps : List (List Int)
  ns : List (List Int)
  ss : List (List Int)
  gate : Int
  quota : Int
def PC.put (c : PC) (r : Nat) (v : List Int) : PC := match r with
  | 0 => { c with cats := v.getD 0 0 }
  | 1 => { c with gs := c.gs ++ [v] }
  | 2 => { c with rs := c.rs ++ [v] }
  | 3 => { c with ps := c.ps ++ [v] }
  | 4 => { c with ns := c.ns ++ [v] }
  | 5 => { c with ss := c.ss ++ [v] }
  | 6 => { c with gate := v.getD 0 0, quota := v.getD 1 0 }
  | _ => c
def pc0 : PC := ⟨0, [], [], [], [], [], -1, 0⟩
def manyL (r : Nat) : Bool := decide (1 ≤ r) && decide (r ≤ 5)
/-- may a line of rank r stand behind one of the last rank -/
def folL (r : Nat) (last : Int) : Bool := if last = -1 then r == 0 else if (r : Int) = last then manyL r else decide (last < r)
/-- the lines read on: the first that can't be, or the configuration -/
def runL : List (List UInt8) → PC → Int → Nat → Nat ⊕ PC
  | [], c, _, _ => .inr c
  | l :: ls, c, last, i => match recL l with
    | some (r, v) => if folL r last = true then runL ls (c.put r v) r (i + 1) else .inl (i + 1)
    | none => .inl (i + 1)
/-- what a text says: the first line that can't be, or a configuration, right or not -/
def readL (s : List UInt8) : Nat ⊕ PC := match runL (cutL 10 s).1 pc0 (-1) 0 with
  | .inl n => .inl n
  | .inr c => if (cutL 10 s).2 = [] ∧ (cutL 10 s).1 ≠ [] then .inr c else .inl ((cutL 10 s).1.length + 1)

def wordL (f : UInt8) (v : Int) : List UInt8 := if f = 108 then (La.textB v).data.toList else if f = 112 ∧ v = -1 then [111, 117, 116] else Lib.decDigits v.toNat
def tailL : List UInt8 → List Int → List UInt8
  | f :: fs, v :: vs => 32 :: wordL f v ++ tailL fs vs
  | _, _ => []
/-- the record's line, without its end -/
def bodyL (q : Nat × List Int) : List UInt8 := kw q.1 ++ tailL (kf q.1) q.2
def lineL (q : Nat × List Int) : List UInt8 := bodyL q ++ [10]
def PC.recs (p : PC) : List (Nat × List Int) :=
  (0, [p.cats]) :: (p.gs.map (Prod.mk 1) ++ (p.rs.map (Prod.mk 2) ++ (p.ps.map (Prod.mk 3) ++ (p.ns.map (Prod.mk 4) ++ (p.ss.map (Prod.mk 5) ++ if p.gate = -1 then [] else [(6, [p.gate, p.quota])])))))
def PC.text (p : PC) : List UInt8 := (p.recs.map lineL).flatten

/-! ### a line that is read is printed as it stands -/
theorem parseF_back {w : List UInt8} (h : (La.parseF w).2 = 0) : (La.textB (La.parseF w).1).data.toList = w := by
  rcases La.parseF_text w with e | ⟨n, hn, e⟩
  · rw [e] at h; cases h
  · rw [← e, La.parse_text n hn]
theorem val_back {f : UInt8} {w : List UInt8} {v : Int} (h : valL f w = some v) : wordL f v = w := by
  unfold valL at h
  unfold wordL
  split at h
  · rename_i e
    rw [if_pos e]
    split at h
    · rename_i e2
      injection h with h
      subst h
      exact parseF_back e2
    · cases h
  · rename_i e
    rw [if_neg e]
    split at h
    · rename_i e2
      injection h with h
      subst h
      rw [if_pos ⟨e2.1, rfl⟩]; exact e2.2.symm
    · cases hn : numL w with
      | none => rw [hn] at h; cases h
      | some n =>
        rw [hn] at h
        simp only [Option.map_some] at h
        injection h with h
        subst h
        rw [if_neg (by rintro ⟨_, h⟩; cases h)]
        exact numL_text hn
theorem vals_back : ∀ (fs : List UInt8) (ws : List (List UInt8)) (vs : List Int), valsL fs ws = some vs → tailL fs vs = (ws.map (32 :: ·)).flatten ∧ vs.length = fs.length
  | [], [], vs, h => by
    simp only [valsL, Option.some.injEq] at h
    subst h; exact ⟨rfl, rfl⟩
  | [], w :: ws, vs, h => by simp [valsL] at h
  | f :: fs, [], vs, h => by simp [valsL] at h
  | f :: fs, w :: ws, vs, h => by
    unfold valsL at h
    cases h1 : valL f w with
    | none => rw [h1] at h; cases h
    | some v =>
      cases h2 : valsL fs ws with
      | none => rw [h1, h2] at h; cases h
      | some us =>
        rw [h1, h2] at h
        injection h with h
        subst h
        obtain ⟨k1, k2⟩ := vals_back fs ws us h2
        exact ⟨by simp [tailL, val_back h1, k1], by simp [k2]⟩
theorem rank_back {w : List UInt8} {r : Nat} (h : rankL w = some r) : kw r = w ∧ r < 7 := by
  unfold rankL at h
  have h1 := List.find?_some h
  have h2 := List.mem_of_find?_eq_some h
  exact ⟨by simpa using h1, by simpa using h2⟩
theorem words_back {l : List UInt8} {w : List UInt8} {ws : List (List UInt8)} (h : wordsL l = some (w :: ws)) : l = w ++ (ws.map (32 :: ·)).flatten := by
  unfold wordsL at h
  split at h
  · cases h
  · injection h with h
    have hj := cutL_join 32 l
    have key : ∀ (ps : List (List UInt8)) (q : List UInt8) (w : List UInt8) (ws : List (List UInt8)), ps ++ [q] = w :: ws → (ps.map (· ++ [32])).flatten ++ q = w ++ (ws.map (32 :: ·)).flatten := by
      intro ps
      induction ps with
      | nil => intro q w ws h; simp at h; obtain ⟨rfl, rfl⟩ := h; simp
      | cons p ps ih =>
        intro q w ws h
        simp only [List.cons_append] at h
        injection h with e1 e2
        subst e1
        cases ws with
        | nil => simp at e2
        | cons x xs =>
          have := ih q x xs e2
          simp only [List.map_cons, List.flatten_cons, List.append_assoc, List.cons_append, List.nil_append] at this ⊢
          rw [this]
    rw [hj]
    exact key _ _ _ _ h
theorem rec_back {l : List UInt8} {r : Nat} {vs : List Int} (h : recL l = some (r, vs)) : bodyL (r, vs) = l ∧ r < 7 ∧ vs.length = (kf r).length := by
  unfold recL at h
  split at h
  · rename_i w ws hw
    split at h
    · rename_i r' hr
      split at h
      · rename_i vs' hv
        injection h with h
        injection h with h1 h2
        subst h1; subst h2
        obtain ⟨k1, k2⟩ := rank_back hr
        obtain ⟨k3, k4⟩ := vals_back _ _ _ hv
        refine ⟨?_, k2, k4⟩
        unfold bodyL
        simp only [k1, k3]
        exact (words_back hw).symm
      · cases h
    · cases h
  · cases h
/-! ### the lines come in the order in which they are printed -/
/-- nothing lies behind the last rank -/
def UpTo (c : PC) (last : Int) : Prop := 0 ≤ last ∧ (last < 1 → c.gs = []) ∧ (last < 2 → c.rs = []) ∧ (last < 3 → c.ps = []) ∧ (last < 4 → c.ns = []) ∧ (last < 5 → c.ss = []) ∧ (last < 6 → c.gate = -1)
theorem vals_num {f : UInt8} {w : List UInt8} {v : Int} (h : valL f w = some v) (hf : f = 110) : 0 ≤ v := by
  subst hf
  unfold valL at h
  rw [if_neg (by decide), if_neg (by rintro ⟨h, _⟩; revert h; decide)] at h
  cases hn : numL w with
  | none => rw [hn] at h; cases h
  | some n => rw [hn] at h; simp only [Option.map_some] at h; injection h with h; subst h; exact Int.natCast_nonneg n
theorem rec_gate {l : List UInt8} {vs : List Int} (h : recL l = some (6, vs)) : ∃ a b, vs = [a, b] ∧ 0 ≤ a ∧ 0 ≤ b := by
  unfold recL at h
  split at h
  · rename_i w ws hw
    split at h
    · rename_i r' hr
      split at h
      · rename_i vs' hv
        injection h with h
        injection h with h1 h2
        subst h1; subst h2
        match ws, hv with
        | [], hv => simp [kf, valsL] at hv
        | [x], hv => simp [kf, valsL] at hv
        | [x, y], hv =>
          simp only [kf, valsL] at hv
          cases e1 : valL 110 x with
          | none => rw [e1] at hv; cases hv
          | some a =>
            cases e2 : valL 110 y with
            | none => rw [e1, e2] at hv; cases hv
            | some b =>
              rw [e1, e2] at hv
              injection hv with hv
              exact ⟨a, b, hv.symm, vals_num e1 rfl, vals_num e2 rfl⟩
        | x :: y :: z :: r, hv =>
          simp only [kf, valsL] at hv
          cases e1 : valL 110 x <;> cases e2 : valL 110 y <;> rw [e1, e2] at hv <;> cases hv
      · cases h
    · cases h
  · cases h
theorem put_recs {c : PC} {last : Int} {r : Nat} {l : List UInt8} {v : List Int} (hc : UpTo c last) (hr : recL l = some (r, v)) (hf : folL r last = true) : (c.put r v).recs = c.recs ++ [(r, v)] ∧ UpTo (c.put r v) r := by
  obtain ⟨h0, h1, h2, h3, h4, h5, h6⟩ := hc
  obtain ⟨_, hr7, hl⟩ := rec_back hr
  unfold folL at hf
  rw [if_neg (by omega)] at hf
  have hlast : (r : Int) = last ∧ 1 ≤ r ∧ r ≤ 5 ∨ last < r := by
    split at hf
    · rename_i e
      refine .inl ⟨e, ?_⟩
      simpa [manyL] using hf
    · exact .inr (by simpa using hf)
  have hg6 : r ≤ 5 → c.gate = -1 := fun hr5 => h6 (by omega)
  match r, hr7 with
  | 0, _ => omega
  | 1, _ =>
    have e2 := h2 (by omega); have e3 := h3 (by omega); have e4 := h4 (by omega); have e5 := h5 (by omega); have e6 := h6 (by omega)
    exact ⟨by simp [PC.put, PC.recs, e2, e3, e4, e5, e6], by simp [UpTo, PC.put, e2, e3, e4, e5, e6]⟩
  | 2, _ =>
    have e3 := h3 (by omega); have e4 := h4 (by omega); have e5 := h5 (by omega); have e6 := h6 (by omega)
    exact ⟨by simp [PC.put, PC.recs, e3, e4, e5, e6], by simp [UpTo, PC.put, e3, e4, e5, e6]⟩
  | 3, _ =>
    have e4 := h4 (by omega); have e5 := h5 (by omega); have e6 := h6 (by omega)
    exact ⟨by simp [PC.put, PC.recs, e4, e5, e6], by simp [UpTo, PC.put, e4, e5, e6]⟩
  | 4, _ =>
    have e5 := h5 (by omega); have e6 := h6 (by omega)
    exact ⟨by simp [PC.put, PC.recs, e5, e6], by simp [UpTo, PC.put, e5, e6]⟩
  | 5, _ =>
    have e6 := h6 (by omega)
    exact ⟨by simp [PC.put, PC.recs, e6], by simp [UpTo, PC.put, e6]⟩
  | 6, _ =>
    have e6 := h6 (by omega)
    obtain ⟨a, b, rfl, ha, hb⟩ := rec_gate hr
    have hne : ¬ a = -1 := by omega
    exact ⟨by simp [PC.put, PC.recs, e6, hne], by simp [UpTo, PC.put]⟩
  | r + 7, h => omega
theorem run_text : ∀ (ls : List (List UInt8)) (c : PC) (last : Int) (i : Nat) (p : PC), UpTo c last → runL ls c last i = .inr p → p.text = c.text ++ (ls.map (· ++ [10])).flatten
  | [], c, last, i, p, _, h => by
    simp only [runL] at h
    injection h with h
    subst h; simp
  | l :: ls, c, last, i, p, hc, h => by
    unfold runL at h
    split at h
    · rename_i r v hr
      split at h
      · rename_i hf
        obtain ⟨k1, k2⟩ := put_recs hc hr hf
        rw [run_text ls _ _ _ p k2 h]
        have hb := (rec_back hr).1
        simp only [PC.text, k1, List.map_append, List.flatten_append, List.map_cons, List.map_nil, List.flatten_cons, List.flatten_nil, lineL, hb, List.append_assoc, List.append_nil]
      · cases h
    · cases h
/-- a text that is read is printed as it stands -/
theorem read_text {s : List UInt8} {p : PC} (h : readL s = .inr p) : p.text = s := by
  unfold readL at h
  split at h
  · cases h
  · rename_i c hr
    split at h
    · rename_i hq
      injection h with h
      subst h
      have hj := cutL_join 10 s
      rw [hq.1, List.append_nil] at hj
      rw [hj]
      generalize (cutL 10 s).1 = ls at hr hq
      match ls, hq.2 with
      | l :: ls, _ =>
        unfold runL at hr
        split at hr
        · rename_i r v hrec
          split at hr
          · rename_i hf
            unfold folL at hf
            rw [if_pos rfl] at hf
            obtain rfl : r = 0 := by simpa using hf
            obtain ⟨hb, _, hl⟩ := rec_back hrec
            obtain ⟨a, rfl⟩ : ∃ a, v = [a] := by
              match v, hl with
              | [a], _ => exact ⟨a, rfl⟩
              | [], hl => simp [kf] at hl
              | _ :: _ :: _, hl => simp [kf] at hl
            rw [run_text ls _ _ _ _ (by simp [UpTo, PC.put, pc0]) hr]
            simp [PC.text, PC.recs, PC.put, pc0, lineL, hb]
          · cases hr
        · cases hr
    · cases h
/-! ### what is printed is read as it was -/
/-- a value that a field can be -/
def OkV (f : UInt8) (v : Int) : Prop := (f = 108 ∧ 0 ≤ v ∧ v < 256) ∨ (f = 112 ∧ -1 ≤ v ∧ v < 100) ∨ (f = 110 ∧ 0 ≤ v ∧ v < 100)
theorem lab_all : (List.range 256).all (fun n => !(La.textB n).data.toList.contains 32 && !(La.textB n).data.toList.contains 10 && !(La.textB n).data.toList.isEmpty) = true := by decide +kernel
theorem val_word {f : UInt8} {v : Int} (h : OkV f v) : valL f (wordL f v) = some v ∧ 32 ∉ wordL f v ∧ 10 ∉ wordL f v ∧ wordL f v ≠ [] := by
  have num : ∀ n : Nat, n < 100 → (numL (Lib.decDigits n)).map Int.ofNat = some (n : Int) ∧ 32 ∉ Lib.decDigits n ∧ 10 ∉ Lib.decDigits n ∧ Lib.decDigits n ≠ [] ∧ Lib.decDigits n ≠ [111, 117, 116] := fun n hn => by
    rw [dec_dd n hn]
    obtain ⟨k1, k2, k3, k4, k5⟩ := dd_good n hn
    exact ⟨by rw [k1]; rfl, k2, k3, k4, k5⟩
  rcases h with ⟨rfl, h0, h1⟩ | ⟨rfl, h0, h1⟩ | ⟨rfl, h0, h1⟩
  · obtain ⟨n, rfl⟩ : ∃ n : Nat, v = n := ⟨v.toNat, by omega⟩
    have hn : n < 256 := by omega
    have := List.all_eq_true.1 lab_all n (List.mem_range.2 hn)
    simp only [wordL, valL, if_true, La.parse_text n hn]
    generalize (La.textB (n : Int)).data.toList = tx at this ⊢
    simp at this
    exact ⟨trivial, this.1.1, this.1.2, this.2⟩
  · have e : ¬ (112 : UInt8) = 108 := by decide
    simp only [wordL, valL, if_neg e, true_and]
    by_cases hv : v = -1
    · subst hv
      refine ⟨rfl, by decide, by decide, by decide⟩
    · obtain ⟨n, rfl⟩ : ∃ n : Nat, v = n := ⟨v.toNat, by omega⟩
      obtain ⟨k1, k2, k3, k4, k5⟩ := num n (by omega)
      rw [if_neg hv]
      simp only [Int.toNat_natCast]
      exact ⟨by rw [if_neg k5]; exact k1, k2, k3, k4⟩
  · have e : ¬ (110 : UInt8) = 108 := by decide
    have e2 : ∀ P : Prop, ¬ ((110 : UInt8) = 112 ∧ P) := fun P h => by have := h.1; revert this; decide
    obtain ⟨n, rfl⟩ : ∃ n : Nat, v = n := ⟨v.toNat, by omega⟩
    obtain ⟨k1, k2, k3, k4, k5⟩ := num n (by omega)
    simp only [wordL, valL, if_neg e, if_neg (e2 _), Int.toNat_natCast]
    exact ⟨k1, k2, k3, k4⟩
/-- values that fit the fields -/
def OkVs : List UInt8 → List Int → Prop
  | [], [] => True
  | f :: fs, v :: vs => OkV f v ∧ OkVs fs vs
  | _, _ => False
def wordsOf : List UInt8 → List Int → List (List UInt8)
  | f :: fs, v :: vs => wordL f v :: wordsOf fs vs
  | _, _ => []
theorem vals_words : ∀ (fs : List UInt8) (vs : List Int), OkVs fs vs → valsL fs (wordsOf fs vs) = some vs ∧ (∀ w ∈ wordsOf fs vs, 32 ∉ w ∧ 10 ∉ w ∧ w ≠ []) ∧ tailL fs vs = ((wordsOf fs vs).map (32 :: ·)).flatten
  | [], [], _ => ⟨rfl, fun w h => absurd h (by simp [wordsOf]), rfl⟩
  | [], _ :: _, h => h.elim
  | _ :: _, [], h => h.elim
  | f :: fs, v :: vs, h => by
    obtain ⟨k1, k2, k3, k4⟩ := val_word h.1
    obtain ⟨j1, j2, j3⟩ := vals_words fs vs h.2
    refine ⟨by simp [wordsOf, valsL, k1, j1], fun w hw => ?_, by simp [wordsOf, tailL, j3]⟩
    rcases List.mem_cons.1 hw with rfl | hw
    · exact ⟨k2, k3, k4⟩
    · exact j2 w hw
theorem kw_all : (List.range 7).all (fun r => rankL (kw r) == some r && !(kw r).contains 32 && !(kw r).contains 10 && !(kw r).isEmpty) = true := by decide +kernel
theorem words_of (w : List UInt8) (ws : List (List UInt8)) (h : ∀ x ∈ w :: ws, 32 ∉ x ∧ x ≠ []) : wordsL (w ++ (ws.map (32 :: ·)).flatten) = some (w :: ws) := by
  have key : ∀ (w : List UInt8) (ws : List (List UInt8)), (∀ x ∈ w :: ws, 32 ∉ x) → ∃ ps q, ps ++ [q] = w :: ws ∧ cutL 32 (w ++ (ws.map (32 :: ·)).flatten) = (ps, q) := by
    intro w ws hx
    have hne : (w :: ws) ≠ [] := by simp
    refine ⟨(w :: ws).dropLast, (w :: ws).getLast hne, List.dropLast_concat_getLast hne, ?_⟩
    have e : ∀ (ws : List (List UInt8)) (w : List UInt8), w ++ (ws.map (32 :: ·)).flatten = (((w :: ws).dropLast).map (· ++ [32])).flatten ++ (w :: ws).getLast (by simp) := by
      intro ws
      induction ws with
      | nil => intro w; simp
      | cons x xs ih =>
        intro w
        have := ih x
        simp only [List.map_cons, List.flatten_cons, List.dropLast_cons_cons, List.append_assoc, List.cons_append, List.nil_append] at this ⊢
        rw [this]
        simp
    rw [e ws w]
    exact cutL_of 32 _ _ (fun p hp => hx p (List.dropLast_subset _ hp)) (hx _ (List.getLast_mem hne))
  obtain ⟨ps, q, e1, e2⟩ := key w ws fun x hx => (h x hx).1
  unfold wordsL
  rw [e2]
  simp only [e1]
  rw [if_neg fun hm => (h _ hm).2 rfl]
theorem rec_of {r : Nat} {vs : List Int} (hr : r < 7) (h : OkVs (kf r) vs) : recL (bodyL (r, vs)) = some (r, vs) ∧ 10 ∉ bodyL (r, vs) := by
  obtain ⟨j1, j2, j3⟩ := vals_words _ _ h
  have := List.all_eq_true.1 kw_all r (List.mem_range.2 hr)
  simp at this
  obtain ⟨⟨⟨a1, a2⟩, a3⟩, a4⟩ := this
  have hw : wordsL (bodyL (r, vs)) = some (kw r :: wordsOf (kf r) vs) := by
    unfold bodyL
    simp only [j3]
    refine words_of _ _ fun x hx => ?_
    rcases List.mem_cons.1 hx with rfl | hx
    · exact ⟨a2, a4⟩
    · exact ⟨(j2 x hx).1, (j2 x hx).2.2⟩
  refine ⟨?_, ?_⟩
  · unfold recL
    rw [hw]
    simp only [a1, j1]
  · unfold bodyL
    simp only [j3]
    intro hm
    rcases List.mem_append.1 hm with hm | hm
    · exact a3 hm
    · obtain ⟨l, hl, hm⟩ := List.mem_flatten.1 hm
      obtain ⟨w, hw, rfl⟩ := List.mem_map.1 hl
      rcases List.mem_cons.1 hm with hm | hm
      · revert hm; decide
      · exact (j2 w hw).2.1 hm
/-- a configuration whose values fit -/
structure OkP (p : PC) : Prop where
  cats : OkVs (kf 0) [p.cats]
  gs : ∀ v ∈ p.gs, OkVs (kf 1) v
  rs : ∀ v ∈ p.rs, OkVs (kf 2) v
  ps : ∀ v ∈ p.ps, OkVs (kf 3) v
  ns : ∀ v ∈ p.ns, OkVs (kf 4) v
  ss : ∀ v ∈ p.ss, OkVs (kf 5) v
  gate : p.gate = -1 ∧ p.quota = 0 ∨ p.gate ≠ -1 ∧ OkVs (kf 6) [p.gate, p.quota]
def putAll (c : PC) (k : Nat) (xs : List (List Int)) : PC := xs.foldl (fun c v => c.put k v) c
theorem run_many (k : Nat) (h1 : 1 ≤ k) (h5 : k ≤ 5) : ∀ (xs : List (List Int)) (rest : List (List UInt8)) (c : PC) (last : Int) (i : Nat), (∀ v ∈ xs, OkVs (kf k) v) → 0 ≤ last → last ≤ k →
    ∃ (last' : Int) (i' : Nat), 0 ≤ last' ∧ last' ≤ k ∧ runL ((xs.map fun v => bodyL (k, v)) ++ rest) c last i = runL rest (putAll c k xs) last' i'
  | [], rest, c, last, i, _, h0, hl => ⟨last, i, h0, hl, rfl⟩
  | v :: xs, rest, c, last, i, hv, h0, hl => by
    obtain ⟨l', i', k1, k2, k3⟩ := run_many k h1 h5 xs rest (c.put k v) k (i + 1) (fun u hu => hv u (by simp [hu])) (by omega) (by omega)
    refine ⟨l', i', k1, k2, ?_⟩
    rw [List.map_cons, List.cons_append, runL, (rec_of (by omega) (hv v (by simp))).1]
    have hf : folL k last = true := by
      unfold folL manyL
      rw [if_neg (by omega)]
      split <;> simp <;> omega
    simp only [hf, if_true]
    exact k3
theorem put1 (xs : List (List Int)) (c : PC) : putAll c 1 xs = { c with gs := c.gs ++ xs } := by
  induction xs generalizing c with
  | nil => simp [putAll]
  | cons v xs ih => show putAll (c.put 1 v) 1 xs = _; rw [ih]; simp [PC.put]
theorem put2 (xs : List (List Int)) (c : PC) : putAll c 2 xs = { c with rs := c.rs ++ xs } := by
  induction xs generalizing c with
  | nil => simp [putAll]
  | cons v xs ih => show putAll (c.put 2 v) 2 xs = _; rw [ih]; simp [PC.put]
theorem put3 (xs : List (List Int)) (c : PC) : putAll c 3 xs = { c with ps := c.ps ++ xs } := by
  induction xs generalizing c with
  | nil => simp [putAll]
  | cons v xs ih => show putAll (c.put 3 v) 3 xs = _; rw [ih]; simp [PC.put]
theorem put4 (xs : List (List Int)) (c : PC) : putAll c 4 xs = { c with ns := c.ns ++ xs } := by
  induction xs generalizing c with
  | nil => simp [putAll]
  | cons v xs ih => show putAll (c.put 4 v) 4 xs = _; rw [ih]; simp [PC.put]
theorem put5 (xs : List (List Int)) (c : PC) : putAll c 5 xs = { c with ss := c.ss ++ xs } := by
  induction xs generalizing c with
  | nil => simp [putAll]
  | cons v xs ih => show putAll (c.put 5 v) 5 xs = _; rw [ih]; simp [PC.put]
/-- what is printed is read as it was -/
theorem text_read {p : PC} (h : OkP p) : readL p.text = .inr p := by
  have hok : ∀ q ∈ p.recs, recL (bodyL q) = some q ∧ 10 ∉ bodyL q := by
    intro q hq
    simp only [PC.recs, List.mem_cons, List.mem_append, List.mem_map] at hq
    rcases hq with rfl | ⟨v, hv, rfl⟩ | ⟨v, hv, rfl⟩ | ⟨v, hv, rfl⟩ | ⟨v, hv, rfl⟩ | ⟨v, hv, rfl⟩ | hq
    · exact rec_of (by omega) h.cats
    · exact rec_of (by omega) (h.gs v hv)
    · exact rec_of (by omega) (h.rs v hv)
    · exact rec_of (by omega) (h.ps v hv)
    · exact rec_of (by omega) (h.ns v hv)
    · exact rec_of (by omega) (h.ss v hv)
    · split at hq
      · cases hq
      · rename_i hg
        simp at hq
        subst hq
        rcases h.gate with ⟨e, _⟩ | ⟨_, e⟩
        · exact absurd e hg
        · exact rec_of (by omega) e
  have hcut : cutL 10 p.text = (p.recs.map bodyL, []) := by
    have := cutL_of 10 (p.recs.map bodyL) [] (fun l hl => by
      obtain ⟨q, hq, rfl⟩ := List.mem_map.1 hl
      exact (hok q hq).2) (by simp)
    rw [List.append_nil, List.map_map] at this
    exact this
  unfold readL
  rw [hcut]
  have hrun : runL (p.recs.map bodyL) pc0 (-1) 0 = .inr p := by
    unfold PC.recs
    simp only [List.map_cons, List.map_append, List.map_map]
    rw [runL, (rec_of (by omega) h.cats).1]
    simp only [show folL 0 (-1) = true from rfl, if_true]
    obtain ⟨l1, i1, a1, b1, e1⟩ := run_many 1 (by omega) (by omega) p.gs (p.rs.map (fun v => bodyL (2, v)) ++ (p.ps.map (fun v => bodyL (3, v)) ++ (p.ns.map (fun v => bodyL (4, v)) ++ (p.ss.map (fun v => bodyL (5, v)) ++ (if p.gate = -1 then [] else [(6, [p.gate, p.quota])] : List (Nat × List Int)).map bodyL)))) (pc0.put 0 [p.cats]) 0 1 h.gs (by omega) (by omega)
    obtain ⟨l2, i2, a2, b2, e2⟩ := run_many 2 (by omega) (by omega) p.rs (p.ps.map (fun v => bodyL (3, v)) ++ (p.ns.map (fun v => bodyL (4, v)) ++ (p.ss.map (fun v => bodyL (5, v)) ++ (if p.gate = -1 then [] else [(6, [p.gate, p.quota])] : List (Nat × List Int)).map bodyL))) (putAll (pc0.put 0 [p.cats]) 1 p.gs) l1 i1 h.rs a1 (by omega)
    obtain ⟨l3, i3, a3, b3, e3⟩ := run_many 3 (by omega) (by omega) p.ps (p.ns.map (fun v => bodyL (4, v)) ++ (p.ss.map (fun v => bodyL (5, v)) ++ (if p.gate = -1 then [] else [(6, [p.gate, p.quota])] : List (Nat × List Int)).map bodyL)) (putAll (putAll (pc0.put 0 [p.cats]) 1 p.gs) 2 p.rs) l2 i2 h.ps a2 (by omega)
    obtain ⟨l4, i4, a4, b4, e4⟩ := run_many 4 (by omega) (by omega) p.ns (p.ss.map (fun v => bodyL (5, v)) ++ (if p.gate = -1 then [] else [(6, [p.gate, p.quota])] : List (Nat × List Int)).map bodyL) (putAll (putAll (putAll (pc0.put 0 [p.cats]) 1 p.gs) 2 p.rs) 3 p.ps) l3 i3 h.ns a3 (by omega)
    obtain ⟨l5, i5, a5, b5, e5⟩ := run_many 5 (by omega) (by omega) p.ss ((if p.gate = -1 then [] else [(6, [p.gate, p.quota])] : List (Nat × List Int)).map bodyL) (putAll (putAll (putAll (putAll (pc0.put 0 [p.cats]) 1 p.gs) 2 p.rs) 3 p.ps) 4 p.ns) l4 i4 h.ss a4 (by omega)
    have ee := ((((e1.trans e2).trans e3).trans e4).trans e5)
    refine Eq.trans ee ?_
    rw [put1, put2, put3, put4, put5]
    rcases h.gate with ⟨g1, g2⟩ | ⟨g1, g2⟩
    · rw [if_pos g1]
      simp only [List.map_nil, runL, pc0, PC.put, List.nil_append]
      congr 1
      cases p
      simp_all
    · rw [if_neg g1]
      simp only [List.map_cons, List.map_nil, runL, (rec_of (by omega) g2).1]
      have hf : folL 6 l5 = true := by
        unfold folL manyL
        rw [if_neg (by omega), if_neg (by omega)]
        simp; omega
      rw [if_pos hf]
      congr 1
  rw [hrun]
  simp [PC.recs]
end Go.Proofs.YtikkfapgmbamlaaDoor.Pl
end
section
/- plan: a configuration that grows in memory. -/
namespace Go.Proofs.YtikkfapgmbamlaaDoor.Pl
open Go.RowKit Ut
set_option linter.unusedVariables false

/-- every block of texts is as it was, and every configuration's but b -/
def KeptS (b : Nat) (w w' : World) : Prop := w.heap.size ≤ w'.heap.size ∧ ∀ (g : Nat) (cs : Array Value) (t : TypeId) (f : Nat × Nat), g ≠ b → (t = 9 ∨ t = 36 ∨ t = 74) → w.heap[g]? = some (Obj.cells cs t f) → w'.heap[g]? = some (Obj.cells cs t f)
theorem KeptS.refl (b : Nat) (w : World) : KeptS b w w := ⟨Nat.le_refl _, fun _ _ _ _ _ _ h => h⟩
theorem KeptS.trans {q : Nat} {a b c : World} (h : KeptS q a b) (k : KeptS q b c) : KeptS q a c := ⟨Nat.le_trans h.1 k.1, fun g cs t f hg ht e => k.2 g cs t f hg ht (h.2 g cs t f hg ht e)⟩
theorem KeptS.of_below {b : Nat} {w w' : World} (h : Below w.heap.size w w') : KeptS b w w' := ⟨h.size, fun g cs t f _ _ e => (h.block g (Array.getElem?_eq_some_iff.1 e).1).trans e⟩
theorem KeptS.of_kept {b : Nat} {e : TypeId} {w w' : World} (h : Kept e w w') (hne : 9 ≠ e ∧ 36 ≠ e ∧ 74 ≠ e) : KeptS b w w' := ⟨h.1, fun g cs t f _ ht hc => h.2 g cs _ f (ht.elim (fun q => q ▸ hne.1) (fun q => q.elim (fun q => q ▸ hne.2.1) (fun q => q ▸ hne.2.2))) hc⟩
theorem KeptS.setCell {w : World} {b o : Nat} {v : Value} : KeptS b w (w.setCell ⟨b, o, none⟩ v) :=
  ⟨by simp, fun g cs' t' f' hg _ hc => by rw [Below.heap_setCell _ _ _ _ hg]; exact hc⟩
theorem KeptS.ownS {b : Nat} {w w' : World} {B n : Nat} {v : Value} {ts : List (List UInt8)} (h : OwnS w B 9 v n ts) (hk : KeptS b w w') (hb : ∀ cs f, w.heap[b]? ≠ some (Obj.cells cs 9 f)) : OwnS w' B 9 v n ts := by
  refine ⟨h.1, ?_⟩
  rcases h.2 with h0 | ⟨g, cap, cur, rfl, hB, hg', r⟩
  · exact .inl h0
  · exact .inr ⟨g, cap, cur, rfl, hB, hk.2 _ _ _ _ (by rintro rfl; exact hb _ _ hg') (.inl rfl) hg', r⟩

/-- integers of the kind -/
def In64 (x : List Int) : Prop := ∀ z ∈ x, -9223372036854775808 ≤ z ∧ z < 9223372036854775808
/-- a configuration that grows in block b -/
structure BoxP (w : World) (B b : Nat) (p : PC) (vg vr vp vn vs : Value) : Prop where
  box : w.heap[b]? = some (.cells #[.int .i64 p.cats, vg, vr, vp, vn, vs, .int .i64 p.gate, .int .i64 p.quota] 36 (0, 0))
  hB : B ≤ b
  og : OwnT 3 w B 58 vg p.gs
  or : OwnT 3 w B 60 vr p.rs
  op : OwnT 2 w B 62 vp p.ps
  on : OwnT 2 w B 64 vn p.ns
  os : OwnT 2 w B 66 vs p.ss
theorem BoxP.below {w w' : World} {B b : Nat} {p : PC} {vg vr vp vn vs : Value} (h : BoxP w B b p vg vr vp vn vs) (hb : Below w.heap.size w w') : BoxP w' B b p vg vr vp vn vs :=
  ⟨(hb.block b (Array.getElem?_eq_some_iff.1 h.box).1).trans h.box, h.hB, h.og.below hb, h.or.below hb, h.op.below hb, h.on.below hb, h.os.below hb⟩

theorem box_set {w : World} {b : Nat} {cs : List Value} {t : TypeId} (h : w.heap[b]? = some (.cells cs.toArray t (0, 0))) (i : Nat) (u : Value) : (w.setCell ⟨b, i, none⟩ u).heap[b]? = some (.cells (cs.set i u).toArray t (0, 0)) := by
  have hlt := (Array.getElem?_eq_some_iff.1 h).1
  simp [World.setCell, Array.getElem?_modify, h]
theorem ownT_set {k : Nat} {w : World} {B b o : Nat} {e t : TypeId} {v u : Value} {xs : List (List Int)} {cs : Array Value} {f : Nat × Nat} (h : OwnT k w B e v xs) (hb : w.heap[b]? = some (Obj.cells cs t f)) (hne : e ≠ t) : OwnT k (w.setCell ⟨b, o, none⟩ u) B e v xs :=
  ⟨ownsRow_setCell_other h.1 (own_ne_box h.1 hb hne) u, h.2⟩
theorem BoxP.set1 {W w' : World} {B b : Nat} {p : PC} {vg vr vp vn vs vg' : Value} {y : List Int} (h : BoxP W B b p vg vr vp vn vs) (hK : Kept 58 W w') (hA : OwnT 3 w' B 58 vg' (p.gs ++ [y])) : BoxP (w'.setCell ⟨b, 1, none⟩ vg') B b (p.put 1 y) vg' vr vp vn vs := by
  have hb := hK.2 _ _ _ _ (by decide) h.box
  exact ⟨box_set hb 1 vg', h.hB, ownT_set hA hb (by decide), ownT_set (hK.ownT h.or (by decide)) hb (by decide), ownT_set (hK.ownT h.op (by decide)) hb (by decide), ownT_set (hK.ownT h.on (by decide)) hb (by decide), ownT_set (hK.ownT h.os (by decide)) hb (by decide)⟩
theorem BoxP.set2 {W w' : World} {B b : Nat} {p : PC} {vg vr vp vn vs vr' : Value} {y : List Int} (h : BoxP W B b p vg vr vp vn vs) (hK : Kept 60 W w') (hA : OwnT 3 w' B 60 vr' (p.rs ++ [y])) : BoxP (w'.setCell ⟨b, 2, none⟩ vr') B b (p.put 2 y) vg vr' vp vn vs := by
  have hb := hK.2 _ _ _ _ (by decide) h.box
  exact ⟨box_set hb 2 vr', h.hB, ownT_set (hK.ownT h.og (by decide)) hb (by decide), ownT_set hA hb (by decide), ownT_set (hK.ownT h.op (by decide)) hb (by decide), ownT_set (hK.ownT h.on (by decide)) hb (by decide), ownT_set (hK.ownT h.os (by decide)) hb (by decide)⟩
theorem BoxP.set3 {W w' : World} {B b : Nat} {p : PC} {vg vr vp vn vs vp' : Value} {y : List Int} (h : BoxP W B b p vg vr vp vn vs) (hK : Kept 62 W w') (hA : OwnT 2 w' B 62 vp' (p.ps ++ [y])) : BoxP (w'.setCell ⟨b, 3, none⟩ vp') B b (p.put 3 y) vg vr vp' vn vs := by
  have hb := hK.2 _ _ _ _ (by decide) h.box
  exact ⟨box_set hb 3 vp', h.hB, ownT_set (hK.ownT h.og (by decide)) hb (by decide), ownT_set (hK.ownT h.or (by decide)) hb (by decide), ownT_set hA hb (by decide), ownT_set (hK.ownT h.on (by decide)) hb (by decide), ownT_set (hK.ownT h.os (by decide)) hb (by decide)⟩
theorem BoxP.set4 {W w' : World} {B b : Nat} {p : PC} {vg vr vp vn vs vn' : Value} {y : List Int} (h : BoxP W B b p vg vr vp vn vs) (hK : Kept 64 W w') (hA : OwnT 2 w' B 64 vn' (p.ns ++ [y])) : BoxP (w'.setCell ⟨b, 4, none⟩ vn') B b (p.put 4 y) vg vr vp vn' vs := by
  have hb := hK.2 _ _ _ _ (by decide) h.box
  exact ⟨box_set hb 4 vn', h.hB, ownT_set (hK.ownT h.og (by decide)) hb (by decide), ownT_set (hK.ownT h.or (by decide)) hb (by decide), ownT_set (hK.ownT h.op (by decide)) hb (by decide), ownT_set hA hb (by decide), ownT_set (hK.ownT h.os (by decide)) hb (by decide)⟩
theorem BoxP.set5 {W w' : World} {B b : Nat} {p : PC} {vg vr vp vn vs vs' : Value} {y : List Int} (h : BoxP W B b p vg vr vp vn vs) (hK : Kept 66 W w') (hA : OwnT 2 w' B 66 vs' (p.ss ++ [y])) : BoxP (w'.setCell ⟨b, 5, none⟩ vs') B b (p.put 5 y) vg vr vp vn vs' := by
  have hb := hK.2 _ _ _ _ (by decide) h.box
  exact ⟨box_set hb 5 vs', h.hB, ownT_set (hK.ownT h.og (by decide)) hb (by decide), ownT_set (hK.ownT h.or (by decide)) hb (by decide), ownT_set (hK.ownT h.op (by decide)) hb (by decide), ownT_set (hK.ownT h.on (by decide)) hb (by decide), ownT_set hA hb (by decide)⟩
end Go.Proofs.YtikkfapgmbamlaaDoor.Pl
end
