/- The document's tables in the shadow (hermitageref19): rows of seven integers; what its acts leave, plainly; Table, own, Get. -/
import Derived.Test.YtcdiigdbjncpeaaRh
import Derived.Test.YtcdiigdbjncpeaaWa
import Derived.Deep.QuietTactic
import Derived.BigQuiet
namespace Go.Proofs.Ytcdiigdbjncpeaa.Sw
open Go.RowKit Ut
set_option maxRecDepth 100000
set_option linter.unusedVariables false
set_option maxHeartbeats 4000000

/-- a translation and the pages that it was filled through -/
structure Ln where
  kr : Int
  kp : Int
  ep : Int
  ef : Int
  er : Int
  rt : Int
  lf : Int
deriving DecidableEq
instance : Inhabited Ln := ⟨⟨0, 0, 0, 0, 0, 0, 0⟩⟩
def Ln.l (x : Ln) : List Int := [x.kr, x.kp, x.ep, x.ef, x.er, x.rt, x.lf]
abbrev Ln.v (x : Ln) : Value := .agg #[.int .i64 x.kr, .int .i64 x.kp, .int .i64 x.ep, .int .i64 x.ef, .int .i64 x.er, .int .i64 x.rt, .int .i64 x.lf]
/-- it is that key's; it was filled through that page; it is to be told as a key, as what is kept -/
def Ln.is (x : Ln) (p q : Int) : Bool := x.kr == p && x.kp == q
def Ln.by_ (x : Ln) (p : Int) : Bool := x.rt == p || x.lf == p
def Ln.key (x : Ln) : List Int := [x.kr, x.kp]
def Ln.kept (x : Ln) : List Int := [x.kr, x.kp, x.ep, x.ef, x.er]
/-- a row of them lies at a -/
def LnRow (w : World) (a : Option Addr) (l : List Ln) : Prop := IRow 7 w a (l.map Ln.l)
theorem LnRow.at_ {w : World} {a : Option Addr} {l : List Ln} (h : LnRow w a l) {i : Nat} {x : Ln} (hx : l[i]? = some x) : ∃ y, a = some y ∧ y.block < w.heap.size ∧ (y.add (i * 7)).block < w.heap.size ∧ w.cell? (y.add (i * 7)) = some (.int .i64 x.kr) ∧ w.cell? ⟨(y.add (i * 7)).block, (y.add (i * 7)).off + 1, none⟩ = some (.int .i64 x.kp) ∧ w.cell? ⟨(y.add (i * 7)).block, (y.add (i * 7)).off + 2, none⟩ = some (.int .i64 x.ep) ∧ w.cell? ⟨(y.add (i * 7)).block, (y.add (i * 7)).off + 3, none⟩ = some (.int .i64 x.ef) ∧ w.cell? ⟨(y.add (i * 7)).block, (y.add (i * 7)).off + 4, none⟩ = some (.int .i64 x.er) ∧ w.cell? ⟨(y.add (i * 7)).block, (y.add (i * 7)).off + 5, none⟩ = some (.int .i64 x.rt) ∧ w.cell? ⟨(y.add (i * 7)).block, (y.add (i * 7)).off + 6, none⟩ = some (.int .i64 x.lf) := by
  obtain ⟨y, e, hy, hy2, h0, hj⟩ := IRow.at_ (x := x.l) h (by rw [List.getElem?_map, hx]; rfl)
  exact ⟨y, e, hy, hy2, h0 _ rfl, hj 1 _ (by decide) rfl, hj 2 _ (by decide) rfl, hj 3 _ (by decide) rfl, hj 4 _ (by decide) rfl, hj 5 _ (by decide) rfl, hj 6 _ (by decide) rfl⟩
/-- the document's at d -/
structure DS (w : World) (d : Nat) (a : Option Addr) (n cap : Nat) (l : List Ln) : Prop where
  blk : Blk w d 28 [.slice a n cap]
  len : l.length = n
  row : LnRow w a l
  ng : ∀ y, a = some y → y.block ≠ d
section
variable {w w' : World} {d n cap : Nat} {a : Option Addr} {l : List Ln}
theorem DS.more (h : DS w d a n cap l) (hb : Below w.heap.size w w') : DS w' d a n cap l := ⟨h.blk.more hb, h.len, IRow.more h.row hb, h.ng⟩
theorem DS.kq {T : List Nat} (h : DS w d a n cap l) (k : Kq T w w') (hd : d ∉ T) (hT : ∀ y, a = some y → y.block ∉ T) : DS w' d a n cap l := ⟨h.blk.kq k hd, h.len, IRow.kq h.row k hT, h.ng⟩
theorem DS.cell0 (h : DS w d a n cap l) : w.cell? ⟨d, 0, none⟩ = some (.slice a n cap) := h.blk.cell rfl
end
/-- what is told plainly: is a page a table; a key's; those that stay -/
def tabL (l : List Ln) (p : Int) : Bool := l.any fun x => x.by_ p
def findS (l : List Ln) (p q : Int) : Option Ln := l.find? (·.is p q)
def entS (o : Option Ln) : Int × Int × Int := match o with | some x => (x.ep, x.ef, x.er) | none => (0, 0, 0)
def entW (e : Int × Int × Int) : Value := .agg #[.int .i64 e.1, .int .i64 e.2.1, .int .i64 e.2.2]
def entD (e : Int × Int × Int) : List Value := [.int .i64 e.1, .int .i64 e.2.1, .int .i64 e.2.2]
def ownP (p : Int) : Bool := decide (0 ≤ p) && decide (p < 8)
theorem drewN_below {B : Nat} {w w' : World} (h : Below B w w') (d : Nat) : Below B w (w'.drewN d) := ⟨h.os, h.tape, h.output, h.size, h.block⟩
theorem by_cases_ (x : Ln) (p : Int) : (x.by_ p = true ∧ (x.rt == p) = true) ∨ (x.by_ p = true ∧ (x.rt == p) = false ∧ (x.lf == p) = true) ∨ (x.by_ p = false ∧ (x.rt == p) = false ∧ (x.lf == p) = false) := by
  unfold Ln.by_
  cases x.rt == p <;> cases x.lf == p <;> simp
theorem isS_cases (x : Ln) (p q : Int) : (x.is p q = true ∧ x.kr = p ∧ x.kp = q) ∨ (x.is p q = false ∧ (x.kr == p) = false) ∨ (x.is p q = false ∧ x.kr = p ∧ (x.kp == q) = false) := by
  unfold Ln.is
  by_cases h1 : x.kr = p
  · by_cases h2 : x.kp = q
    · exact .inl ⟨by simp [h1, h2], h1, h2⟩
    · exact .inr (.inr ⟨by simp [h2], h1, by simp [h2]⟩)
  · exact .inr (.inl ⟨by simp [h1], by simp [h1]⟩)
theorem noneS {f : Ln → Bool} {l : List Ln} {i : Nat} {x : Ln} (h : ∀ y ∈ l.take i, f y = false) (hx : l[i]? = some x) (hi : f x = false) : ∀ y ∈ l.take (i + 1), f y = false := fun y hy => by
  rw [List.take_add_one, hx] at hy
  rcases List.mem_append.1 hy with hy | hy
  · exact h y hy
  · simp at hy
    rw [hy]
    exact hi
theorem foundS {l : List Ln} {p q : Int} {i : Nat} {x : Ln} (h : ∀ y ∈ l.take i, y.is p q = false) (hx : l[i]? = some x) (hi : x.is p q = true) : findS l p q = some x := by
  unfold findS
  obtain ⟨hl, e⟩ := List.getElem?_eq_some_iff.1 hx
  rw [List.find?_eq_some_iff_getElem]
  refine ⟨hi, i, hl, e, fun j hj => ?_⟩
  have := h l[j] (by rw [List.mem_take_iff_getElem]; exact ⟨j, by omega, rfl⟩)
  simp [this]
theorem absentS {l : List Ln} {p q : Int} (h : ∀ y ∈ l, y.is p q = false) : findS l p q = none := by
  unfold findS
  rw [List.find?_eq_none]
  intro y hy
  simp [h y hy]

theorem refOwn_any (p : Int) (w : World) : Calls Try.prog 27 #[.int .i64 p] w fun e w' => e = .returned (.bool (ownP p)) ∧ w = w' := by
  have hc : (ownP p = true ∧ 0 ≤ p ∧ p < 8) ∨ (ownP p = false ∧ ¬ 0 ≤ p) ∨ (ownP p = false ∧ 0 ≤ p ∧ ¬ p < 8) := by
    unfold ownP
    by_cases h1 : 0 ≤ p
    · by_cases h2 : p < 8
      · exact .inl ⟨by simp [h1, h2], h1, h2⟩
      · exact .inr (.inr ⟨by simp [h2], h1, h2⟩)
    · exact .inr (.inl ⟨by simp [h1], h1⟩)
  rcases hc with ⟨ho, h1, h2⟩ | ⟨ho, h1⟩ | ⟨ho, h1, h2⟩
  all_goals
    rw [ho]
    clear ho
    go_enter Try.func27, Try.ntmps27
    go_wp2
    go_ret
    exact ⟨rfl, rfl⟩
section
variable {d n cap : Nat} {a : Option Addr} {l : List Ln}
theorem refTable_any (p : Int) (t : Bool) (ht : tabL l p = t) (w : World) (h : DS w d a n cap l) (hn : n ≤ 100000) :
    Calls Try.prog 21 #[.pointer (some ⟨d, 0, none⟩), .int .i64 p] w fun e w' => e = .returned (.bool t) ∧ Below w.heap.size w w' := by
  have HD := Lib.hid h
  have HT := Lib.hid ht
  have hn0 : (n : Int) ≤ 100000 := by omega
  clear h ht
  go_enter Try.func21, Try.ntmps21
  go_wp2
  go_loopw [5] (fun j wr => ∃ i : Nat, i ≤ n ∧ j = .int .i64 i ∧ Hid (∀ y ∈ l.take i, y.by_ p = false) ∧ Hid (Below w.heap.size w wr)) (fun j _ => n - (intOf j).toNat)
  case atStart => exact ⟨0, Nat.zero_le _, rfl, Lib.hid (by simp), Lib.hid (Below.refl _ _)⟩
  case round =>
    obtain ⟨i, hi, rfl, HN, HW⟩ := hrel
    have HDW := Lib.hid (HD.out.more HW.out)
    have c0 := HDW.out.cell0
    have cl := HDW.out.blk.lt
    by_cases hin : i < n
    · have f0 : (i : Int) < (n : Int) := by omega
      have f2 : (0 : Int) ≤ (i : Int) := by omega
      have hx : l[i]? = some (l[i]'(by rw [HD.out.len]; exact hin)) := List.getElem?_eq_getElem _
      obtain ⟨x, hxx⟩ : ∃ x, l[i]'(by rw [HD.out.len]; exact hin) = x := ⟨_, rfl⟩
      rw [hxx] at hx
      obtain ⟨y, rfl, hyb, hyb2, d0, d1, d2, d3, d4, d5, d6⟩ := HDW.out.row.at_ hx
      have HX := Lib.hid hx
      have H3 := Lib.hid hin
      clear hx hxx hi hin d0 d1 d2 d3 d4
      have hcases := by_cases_ x p
      obtain ⟨kr, kp, ep, ef, er, rt, lf⟩ := x
      dsimp only at hcases d5 d6
      rcases hcases with ⟨hy, h1⟩ | ⟨hy, h1, h2⟩ | ⟨hy, h1, h2⟩
      · clear d6
        have HF : Hid (t = true) := Lib.hid (HT.out.symm.trans (List.any_eq_true.2 ⟨_, List.mem_of_getElem? HX.out, hy⟩))
        clear hy
        go_wp2
        go_ret
        exact ⟨by rw [HF.out]; rfl, HW.out⟩
      · have HF : Hid (t = true) := Lib.hid (HT.out.symm.trans (List.any_eq_true.2 ⟨_, List.mem_of_getElem? HX.out, hy⟩))
        clear hy
        go_wp2
        go_ret
        exact ⟨by rw [HF.out]; rfl, HW.out⟩
      · have HN2 := Lib.hid (noneS HN.out HX.out hy)
        clear hy
        go_wp2
        go_roundw
        case rel => exact ⟨i + 1, H3.out, by go_num, HN2, HW⟩
        case measure => have := H3.out; simp [intOf]; omega
    · have f0 : ¬ (i : Int) < (n : Int) := by omega
      obtain rfl : i = n := by omega
      have HF : Hid (t = false) := Lib.hid (HT.out.symm.trans (by
        have h1 := HN.out
        rw [← HD.out.len, List.take_length] at h1
        exact List.any_eq_false.2 (fun y hy => by rw [h1 y hy]; decide)))
      clear hi hin
      go_wp2
      go_ret
      exact ⟨by rw [HF.out]; rfl, HW.out⟩
end
end Go.Proofs.Ytcdiigdbjncpeaa.Sw
