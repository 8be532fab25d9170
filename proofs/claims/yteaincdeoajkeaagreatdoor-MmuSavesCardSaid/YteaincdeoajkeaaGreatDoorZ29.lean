/- Several texts in one: Ip Iq Ir Is It -/
import Derived.Test.YteaincdeoajkeaaGreatDoorZ24
import Derived.Test.YteaincdeoajkeaaGreatDoorZ11
import Derived.Test.YteaincdeoajkeaaGreatDoorZ25
import Derived.Test.YteaincdeoajkeaaGreatDoorZ27
import Derived.Test.YteaincdeoajkeaaGreatDoorZ28
import Derived.Deep.DeepCutAuto
section
/- Stage 20: what each call of either side answers and leaves, both sides in one world (MZ). -/
namespace Go.Proofs.YteaincdeoajkeaaGreatDoor.Mm
open Go.RowKit Go.Shelf Ut Oc Vw Wa
set_option maxRecDepth 100000
set_option linter.unusedVariables false
set_option maxHeartbeats 4000000

theorem place20_any (p : Int) (h0 : 0 ≤ p) (h1 : p < 12) (w : World) : Calls Tryz.prog 29 #[.int .i64 p] w fun e w' => e = .returned (Gm.plV (placeP p)) ∧ Below w.heap.size w w' := by
 have HB : Hid (Below w.heap.size w (w.alloc (.cells #[.int .i64 (11 - p), .int .i64 (3 - 2 * (p / 9))] 54))) := Lib.hid ((Below.refl _ _).alloc (Nat.le_refl _) _)
 unfold placeP Gm.plV
 go_enter Tryz.func29, Tryz.ntmps29
 go_wp2
 exact bodyPost_ret (v := .agg #[.int .i64 (11 - p), .int .i64 (3 - 2 * (p / 9))]) (by simp [results, Tryz.results29, go_sem]) rfl ⟨rfl, HB.out⟩

/-- a slice's block, where something lies in it -/
def blkOf (a : Option Addr) (n : Nat) : List Nat := match a with | some y => if 0 < n then [y.block] else [] | none => []
/-- the document's map turned -/
theorem dv_mapped {w w' : World} {g bt B q n gv cap : Nat} {S : List Int} {L L' : List Gm.Pl} {D : List Bool} (h : DV w g bt B q n gv cap S L D) (hm : Gm.RAt w' q L') (hg : w.grownBy w' (some q)) : DV w' g bt B q n gv cap S L' D := by
 obtain ⟨vs, hs⟩ := h.st
 have k : Kq [q] w w' := Kq.of_grown hg (by simp)
 refine ⟨h.blk.kq k (by have := h.qg; simp; omega), ⟨vs, rt_kq hs h.pos k (fun x hx => ?_)⟩, hm, h.len, h.pos, h.s0, h.s1, h.n32, h.bq, h.qg⟩
 obtain rfl : x = q := by simpa using hx
 exact .inr (.inr (RAt_c0 h.mp))

section
variable {PM : PMt} (C : MmuC PM) {V U w0 w w' : World} {X Y T T' : List Nat} {K : BK} {κ : List (List Int)} {tb : Int → Bool} {Sp Sp' Sd Sd' : List Int} {Lp Lp' Ld Ld' : List Gm.Pl}
/-- a step of the program's: whichever of its blocks turned -/
theorem mz_core (o : BKo w0.heap.size K) (hnb : PM.nb ≤ w0.heap.size) (hT : ∀ t ∈ T, K.g < t ∧ t ∉ X) (hd : ∃ D, DV w K.g K.bt K.B K.q 12 K.gv K.cap Sd Ld D) (hst : ∀ x ∈ X, K.g < x ∧ x < w.heap.size ∧ w.heap[x]? = V.heap[x]?) (hb : Below w0.heap.size w0 w)
  (htag : ∀ x ∈ T, ∃ v, w.cell? ⟨x, 0, none⟩ = some v ∧ notRow v) (hc0 : ∃ v, w.cell? ⟨K.b, 0, none⟩ = some v ∧ notRow v) {κ' : List (List Int)} {tb' : Int → Bool} (hp : PM.P w' K.u T' K.b K.s K.m Sp' Lp' κ' tb') (hT' : ∀ x ∈ T', x ∈ T ∨ w.heap.size ≤ x)
  (hk : Kq Y w w') (hY : ∀ y ∈ Y, y = K.b ∨ y = K.s ∨ y = K.m ∨ y ∈ T) : MZT PM V X w0 w' K T' κ' tb' Sp' Lp' Sd Ld := by
 have h1 := o.ws
 have h2 := o.sm
 have h3 := o.mB
 have h4 := o.Bq
 have h5 := o.qb
 have h6 := o.bg
 obtain ⟨D, hd⟩ := hd
 have hgl := hd.lt
 have hno : ∀ x, x ≠ K.b → x ≠ K.s → x ≠ K.m → x ∉ T → x ∉ Y := fun x a1 a2 a3 a4 hm => by
  rcases hY x hm with h | h | h | h
  ·exact a1 h
  ·exact a2 h
  ·exact a3 h
  ·exact a4 h
 refine ⟨hp, fun t ht => ?_, ⟨D, dv_kqN hd hk (hno _ (by omega) (by omega) (by omega) (fun hm => by have := (hT _ hm).1; omega)) (hno _ (by omega) (by omega) (by omega) (fun hm => by have := (hT _ hm).1; omega)) fun x hx => ?_⟩, o, hnb, fun x hx => ?_, hb.trans (hk.under (fun y hy => ?_) hb.size)⟩
 ·rcases hT' t ht with h7 | h7
  ·exact hT t h7
  ·exact ⟨by omega, fun hm => by have := (hst t hm).2.1; omega⟩
 ·rcases hY x hx with rfl | rfl | rfl | hx
  ·exact .inr hc0
  ·exact .inl (by omega)
  ·exact .inl h3
  ·exact .inr (htag x hx)
 ·obtain ⟨s1, s2, s3⟩ := hst x hx
  exact ⟨s1, Nat.lt_of_lt_of_le s2 hk.size, (hk.block x s2 (hno x (by omega) (by omega) (by omega) (fun hm => (hT x hm).2 hx))).trans s3⟩
 ·rcases hY y hy with rfl | rfl | rfl | hy
  ·omega
  ·omega
  ·omega
  ·have := (hT y hy).1
   omega
include C
theorem MZT.c0 (h : MZT PM V X w0 w K T κ tb Sp Lp Sd Ld) : ∃ v, w.cell? ⟨K.b, 0, none⟩ = some v ∧ notRow v := (C.pv h.pm).elim fun D hd => ⟨_, hd.cell0, trivial⟩
theorem mzFind (h : MZ PM V X w0 w K Sp Lp Sd Ld) (on us : Bool) (rt z k : Int) (h0 : 0 ≤ z) (h1 : z < 4294967296) :
  Calls Tryz.prog 9 #[.pointer (some ⟨K.u, 0, none⟩), modeV on rt us, .int .u32 z, .int .i64 k] w fun e w' => (∃ fast, e = .returned (.tuple #[hitX (locF 12 Sp Lp on rt us z k).1 fast, .int .i64 (locF 12 Sp Lp on rt us z k).2]) ∧ (fast = true → on = true ∧ (locF 12 Sp Lp on rt us z k).2 = 0)) ∧ Hid (MZ PM V X w0 w' K Sp Lp Sd Ld) := by
 obtain ⟨T, κ, tb, h⟩ := h
 exact (C.find on us rt z k h.pm h0 h1).mono fun e w' ⟨h2, h3⟩ => ⟨h2, Lib.hid (h.stepM C h3.out)⟩
theorem mzLoad (h : MZ PM V X w0 w K Sp Lp Sd Ld) (on us : Bool) (rt z wd k : Int) (h0 : 0 ≤ z) (h1 : z < 4294967296) :
  Calls Tryz.prog 11 #[.pointer (some ⟨K.u, 0, none⟩), modeV on rt us, .int .u32 z, .int .i64 wd, .int .i64 k] w fun e w' => e = .returned (.tuple #[.int .u32 (ld20 12 Sp Lp on rt us z wd k).1, .int .i64 (ld20 12 Sp Lp on rt us z wd k).2]) ∧ Hid (MZ PM V X w0 w' K Sp Lp Sd Ld) := by
 obtain ⟨T, κ, tb, h⟩ := h
 exact (C.load on us rt z wd k h.pm h0 h1).mono fun e w' ⟨h2, h3⟩ => ⟨h2, Lib.hid (h.stepM C h3.out)⟩
theorem mzSave (h : MZ PM V X w0 w K Sp Lp Sd Ld) (on us : Bool) (rt z wd x : Int) (h0 : 0 ≤ z) (h1 : z < 4294967296) (h2 : 0 ≤ x) (h3 : x < 4294967296) :
  Calls Tryz.prog 18 #[.pointer (some ⟨K.u, 0, none⟩), modeV on rt us, .int .u32 z, .int .i64 wd, .int .u32 x] w fun e w' => e = .returned (.int .i64 (sc20 12 Sp Lp on rt us z wd)) ∧ Hid (MZ PM V X w0 w' K (ss20 12 Sp Lp on rt us z wd x) Lp Sd Ld) := by
 obtain ⟨T, κ, tb, h⟩ := h
 exact (C.save on us rt z wd x h.pm h0 h1 h2 h3).mono fun e w' ⟨h4, h5⟩ => ⟨h4, Lib.hid (h.stepM C h5.out)⟩
theorem mzFlush (h : MZ PM V X w0 w K Sp Lp Sd Ld) : Calls Tryz.prog 24 #[.pointer (some ⟨K.u, 0, none⟩)] w fun e w' => (∃ n, e = .returned (.int .i64 n)) ∧ Hid (MZ PM V X w0 w' K Sp Lp Sd Ld) := by
 obtain ⟨T, κ, tb, h⟩ := h
 exact (C.flush h.pm).mono fun e w' ⟨h4, h5⟩ => ⟨h4, Lib.hid (h.stepM C h5.out)⟩
theorem mzVSave (h : MZ PM V X w0 w K Sp Lp Sd Ld) (z wd x : Int) (h0 : 0 ≤ z) (h1 : z < 4294967296) (h2 : 0 ≤ x) (h3 : x < 4294967296) :
  Calls Tryz.prog 32 #[.pointer (some ⟨K.b, 0, none⟩), .int .u32 z, .int .i64 wd, .int .u32 x] w fun e w' => e = .returned (.int .i64 (findF 12 Lp z wd 2)) ∧ Hid (MZ PM V X w0 w' K (saveS 12 Sp Lp z wd x) Lp Sd Ld) := by
 obtain ⟨T, κ, tb, h⟩ := h
 obtain ⟨D, hp⟩ := C.pv h.pm
 exact (save_any z wd x _ _ _ h0 h1 h2 h3 rfl rfl rfl w hp).mono fun e w' ⟨h4, h5, h6⟩ => ⟨h4, Lib.hid ⟨T, κ, tb, h.step C (C.vsave z wd x h.pm hp h0 rfl h5 h6) (fun x hx => .inl hx) (h6.more fun q hq => by
  simp only [List.mem_cons, List.not_mem_nil, or_false] at hq ⊢
  rcases hq with rfl | rfl
  ·exact .inr (.inl rfl)
  ·exact .inl rfl)⟩⟩
theorem mzMap (h : MZ PM V X w0 w K Sp Lp Sd Ld) : Calls Tryz.prog 15 #[.pointer (some ⟨K.b, 0, none⟩)] w fun e w' => e = .returned (.pointer (some ⟨K.m, 0, none⟩)) ∧ w = w' := by
 obtain ⟨T, κ, tb, h⟩ := h
 obtain ⟨D, hp⟩ := C.pv h.pm
 exact map_any w hp
theorem mzStore (h : MZ PM V X w0 w K Sp Lp Sd Ld) : Calls Tryz.prog 20 #[.pointer (some ⟨K.b, 0, none⟩)] w fun e w' => e = .returned (.pointer (some ⟨K.s, 0, none⟩)) ∧ w = w' := by
 obtain ⟨T, κ, tb, h⟩ := h
 obtain ⟨D, hp⟩ := C.pv h.pm
 exact store_any w hp
theorem mzGet (h : MZ PM V X w0 w K Sp Lp Sd Ld) (p : Int) (pl : Gm.Pl) (t : Bool) (hp : Gm.atP Lp p = pl) (ht : Gm.thB pl = t) : Calls Tryz.prog 16 #[.pointer (some ⟨K.m, 0, none⟩), .int .i64 p] w fun e w' => e = .returned (.tuple #[Gm.plV pl, .bool t]) ∧ Below w.heap.size w w' := by
 obtain ⟨T, κ, tb, h⟩ := h
 obtain ⟨D, hpv⟩ := C.pv h.pm
 exact Gm.get_any K.m Lp p pl t hp ht w hpv.mp
omit C in
theorem blkOf_in {a : Option Addr} {n x : Nat} (h : x ∈ blkOf a n) : 0 < n ∧ ∃ y, a = some y ∧ x = y.block := by
 unfold blkOf at h
 cases a with
 | none => simp at h
 | some y =>
  by_cases h0 : 0 < n
  ·simp [h0] at h
   exact ⟨h0, y, rfl, h⟩
  ·simp [h0] at h
theorem mzKept (h : MZ PM V [] w0 w K Sp Lp Sd Ld) : Calls Tryz.prog 14 #[.pointer (some ⟨K.u, 0, none⟩)] w fun e w' => ∃ v, e = .returned v ∧ Hid (∃ (κ : List (List Int)) (tb : Int → Bool) (a : Option Addr) (c : Nat) (Y : List Nat), v = .slice a κ.length c ∧ IRow 5 w' a κ ∧ κ.length ≤ 1000 ∧ HeldP Lp tb κ ∧ (∀ y, a = some y → 0 < κ.length → y.block ∈ Y) ∧ MZB PM w' Y w0 w' K tb Sp Lp Sd Ld) := by
 obtain ⟨T, κ, tb, h⟩ := h
 exact (C.kept h.pm).mono fun e w' ⟨⟨v, h2, h3⟩, h4⟩ => ⟨v, h2, by
  obtain ⟨T', κ', tb', hp, ⟨a, c, e1, hr, hge⟩, hl, hno, hT⟩ := h3.out
  have hz := h.step C hp hT h4
  refine Lib.hid ⟨κ', tb', a, c, blkOf a κ'.length, e1, hr, hl, C.held hp, fun y e h0 => ?_, T', κ', hz.pm, fun t ht => ⟨(hz.tT t ht).1, fun hm => ?_⟩, hz.dv, hz.o, hz.nb, fun x hx => ?_, hz.b⟩
  ·subst e
   unfold blkOf
   simp [h0]
  ·obtain ⟨h0, y, rfl, rfl⟩ := blkOf_in hm
   exact hno y _ _ e1 ht
  ·obtain ⟨h0, y, rfl, rfl⟩ := blkOf_in hx
   have h5 := hge y rfl
   have h6 := h.glt
   obtain ⟨y', e', hlt, _⟩ := hr 0 _ (List.getElem?_eq_getElem h0)
   injection e' with e'
   subst e'
   exact ⟨by omega, hlt, rfl⟩⟩
theorem mzTable (h : MZB PM V X w0 w K tb Sp Lp Sd Ld) (p : Int) : Calls Tryz.prog 17 #[.pointer (some ⟨K.u, 0, none⟩), .int .i64 p] w fun e w' => ∃ t, e = .returned (.bool t) ∧ (t = true → tb p = true) ∧ Hid (∃ tb', (∀ p, tb' p = true → tb p = true) ∧ MZB PM V X w0 w' K tb' Sp Lp Sd Ld) := by
 obtain ⟨T, κ, h⟩ := h
 exact (C.table p h.pm).mono fun e w' ⟨⟨t, h2, h3⟩, h4, h5⟩ => ⟨t, h2, h3, by
  obtain ⟨T', κ', tb', hp, ht, hT⟩ := h4.out
  exact Lib.hid ⟨tb', ht, T', κ', h.step C hp hT h5⟩⟩
theorem mzDrop (h : MZ PM V X w0 w K Sp Lp Sd Ld) (p : Int) : Calls Tryz.prog 34 #[.pointer (some ⟨K.m, 0, none⟩), .int .i64 p] w fun e w' => e = .returned (.int .i64 (Gm.drE Lp p)) ∧ Hid (MZd PM V X w0 w' K p Sp Lp Sd Ld) := by
 obtain ⟨T, κ, tb, h⟩ := h
 obtain ⟨D, hpv⟩ := C.pv h.pm
 refine (Gm.drop_any K.m Lp _ p _ rfl rfl w hpv.mp).mono fun e w' ⟨h2, h3, h4⟩ => ⟨h2, Lib.hid ?_⟩
 have hk : Kq [K.m] w w' := Kq.of_grown h4 (by simp)
 have hz := mz_core (Y := [K.m]) (T' := T) (κ' := κ) (tb' := tb) (Sp' := Sp) (Lp' := Lp) (PM := ⟨PM.nb, PM.G, fun _ _ _ _ _ _ _ _ _ _ => True⟩) h.o h.nb h.tT h.dv h.st h.b (C.tag h.pm) (h.c0 C) trivial (fun x hx => .inl hx) hk (fun y hy => by
  simp only [List.mem_cons, List.not_mem_nil, or_false] at hy
  exact .inr (.inr (.inl hy)))
 exact ⟨⟨w, T, κ, tb, h.pm, h.tT, hk.more (fun q hq => by simp at hq; simp [hq])⟩, h3, hz.dv, h.o, h.nb, hz.st, hz.b⟩
theorem mzGone (p : Int) (hp0 : 0 ≤ p) (hp1 : p < 12) (h : MZd PM V X w0 w K p Sp Lp Sd Ld) : Calls Tryz.prog 23 #[.pointer (some ⟨K.u, 0, none⟩), .int .i64 p] w fun e w' => e = .returned (.int .i64 0) ∧ Hid (MZ PM V X w0 w' K Sp (Gm.drL Lp p) Sd Ld) := by
 obtain ⟨W, T, κ, tb, hp, hT, hk⟩ := h.ex
 have o := h.o
 have h1 := o.ws
 have h2 := o.sm
 have h3 := o.mB
 have h4 := o.Bq
 have h5 := o.qb
 have h6 := o.bg
 have hno : ∀ x ∈ K.b :: K.s :: T, x ∉ [K.m, K.q] := fun x hx => by
  simp only [List.mem_cons, List.not_mem_nil, or_false, not_or]
  rcases List.mem_cons.1 hx with rfl | hx
  ·omega
  rcases List.mem_cons.1 hx with rfl | hx
  ·omega
  ·have := (hT x hx).1
   omega
 obtain ⟨D, hpv⟩ := C.pv hp
 refine (C.gone p hp hk hno (fun x hx => by
  have := h.nb
  simp only [List.mem_cons, List.not_mem_nil, or_false] at hx
  omega) h.mp hp0 hp1).mono fun e w' ⟨h7, h8⟩ => ⟨h7, Lib.hid ?_⟩
 obtain ⟨T', κ', tb', hp', hT'⟩ := h8.out.ex
 refine ⟨T', κ', tb', mz_core (T := T) h.o h.nb hT h.dv h.st h.b (fun x hx => ?_) ⟨_, ((hk.cell (p := ⟨K.b, 0, none⟩) hpv.lt (hno _ (by simp))).trans hpv.cell0), trivial⟩ hp' hT' h8.out.kq (fun y hy => ?_)⟩
 ·obtain ⟨v, hv, hn⟩ := C.tag hp x hx
  exact ⟨v, (hk.cell (p := ⟨x, 0, none⟩) (C.lt hp x hx) (hno _ (by simp [hx]))).trans hv, hn⟩
 ·simp only [List.mem_cons] at hy
  rcases hy with h | h | h
  ·exact .inl h
  ·exact .inr (.inl h)
  ·exact .inr (.inr (.inr h))
theorem mzSet (h : MZ PM V X w0 w K Sp Lp Sd Ld) (p : Int) (hp0 : 0 ≤ p) (hp1 : p < 12) : Calls Tryz.prog 28 #[.pointer (some ⟨K.m, 0, none⟩), .int .i64 p, Gm.plV (placeP p)] w fun e w' => e = .returned (.int .i64 (Gm.setE Lp p (placeP p))) ∧ Hid (MZ PM V X w0 w' K Sp (Gm.setL Lp p (placeP p)) Sd Ld) := by
 obtain ⟨T, κ, tb, h⟩ := h
 obtain ⟨D, hpv⟩ := C.pv h.pm
 have o := h.o
 have h1 := o.sm
 have h3 := o.mB
 have h4 := o.Bq
 have h5 := o.qb
 have h6 := o.bg
 refine (Gm.set_any K.m Lp _ p _ (placeP p) rfl rfl w hpv.mp).mono fun e w' ⟨h2, h3, h4⟩ => ⟨h2, Lib.hid ?_⟩
 have hk : Kq [K.m] w w' := Kq.of_grown h4 (by simp)
 obtain ⟨κ', tb', hp⟩ := C.set p h.pm hk (fun x hx => by
  simp only [List.mem_cons, List.not_mem_nil, or_false]
  rcases List.mem_cons.1 hx with rfl | hx
  ·omega
  rcases List.mem_cons.1 hx with rfl | hx
  ·omega
  ·have := (h.tT x hx).1
   omega) (fun x hx => by
   have := h.nb
   have := o.ws
   simp only [List.mem_cons, List.not_mem_nil, or_false] at hx
   omega) h3 hp0 hp1
 exact ⟨T, κ', tb', mz_core (Y := [K.m]) h.o h.nb h.tT h.dv h.st h.b (C.tag h.pm) (h.c0 C) hp (fun x hx => .inl hx) hk (fun y hy => by
  simp only [List.mem_cons, List.not_mem_nil, or_false] at hy
  exact .inr (.inr (.inl hy)))⟩
theorem MZB.enter (h : MZB PM V X w0 w K tb Sp Lp Sd Ld) (hb : Below w.heap.size w U) (Y : List Nat) (hY : ∀ y ∈ Y, w.heap.size ≤ y ∧ y < U.heap.size) : MZB PM U (Y ++ X) w0 U K tb Sp Lp Sd Ld := by
 obtain ⟨T, κ, h⟩ := h
 have h1 := h.more C hb
 have hgl := h.glt
 refine ⟨T, κ, h1.pm, fun t ht => ⟨(h1.tT t ht).1, fun hm => ?_⟩, h1.dv, h1.o, h1.nb, fun x hx => ?_, h1.b⟩
 ·rcases List.mem_append.1 hm with hm | hm
  ·have := (hY t hm).1
   have := C.lt h.pm t ht
   omega
  ·exact (h1.tT t ht).2 hm
 ·rcases List.mem_append.1 hx with hx | hx
  ·have := hY x hx
   exact ⟨by omega, this.2, rfl⟩
  ·obtain ⟨s1, s2, s3⟩ := h1.st x hx
   exact ⟨s1, s2, rfl⟩
omit C in
theorem MZB.st (h : MZB PM V X w0 w K tb Sp Lp Sd Ld) : ∀ x ∈ X, K.g < x ∧ x < w.heap.size ∧ w.heap[x]? = V.heap[x]? := h.mz.st
omit C in
theorem MZB.blk (h : MZB PM V X w0 w K tb Sp Lp Sd Ld) {x : Nat} {t : TypeId} {cs : List Value} (hx : x ∈ X) (hb : Blk V x t cs) : Blk w x t cs := hb.of_block (h.st x hx).2.2
omit C in
theorem MZB.leave {tb' : Int → Bool} (h : MZB PM V X w0 w K tb Sp Lp Sd Ld) (hb : Below w.heap.size w U) (h' : MZB PM U (Y ++ X) w0 w' K tb' Sp' Lp' Sd' Ld') : MZB PM V X w0 w' K tb' Sp' Lp' Sd' Ld' := by
 have hst := h.st
 obtain ⟨T, κ, h'⟩ := h'
 refine ⟨T, κ, h'.pm, fun t ht => ⟨(h'.tT t ht).1, fun hm => (h'.tT t ht).2 (List.mem_append_right _ hm)⟩, h'.dv, h'.o, h'.nb, fun x hx => ?_, h'.b⟩
 obtain ⟨s1, s2, s3⟩ := h'.st x (List.mem_append_right _ hx)
 obtain ⟨t1, t2, t3⟩ := hst x hx
 exact ⟨s1, s2, s3.trans ((hb.block x t2).trans t3)⟩
omit C in
theorem MZB.none {V' : World} (h : MZB PM V X w0 w K tb Sp Lp Sd Ld) : MZ PM V' [] w0 w K Sp Lp Sd Ld := by
 obtain ⟨T, κ, h⟩ := h
 exact ⟨T, κ, tb, h.pm, fun t ht => ⟨(h.tT t ht).1, by simp⟩, h.dv, h.o, h.nb, fun x hx => absurd hx (by simp), h.b⟩
omit C in
/-- a slice that was kept reads as it did -/
theorem MZB.irow {k : Nat} {a : Option Addr} {xs : List (List Int)} (h : MZB PM V X w0 w K tb Sp Lp Sd Ld) (hr : IRow k V a xs) (ha : ∀ y, a = some y → 0 < xs.length → y.block ∈ X) : IRow k w a xs := fun i x hx => by
 obtain ⟨y, e, hy, hc⟩ := hr i x hx
 have hm := ha y e (by have := (List.getElem?_eq_some_iff.1 hx).1; omega)
 obtain ⟨_, h2, h3⟩ := h.st _ hm
 refine ⟨y, e, h2, fun j z hz => ?_⟩
 rw [World.cell?_of_block (w := V)]
 ·exact hc j z hz
 ·rw [block_of_add]
  exact h3
omit C in
/-- the document's -/
theorem dFind (h : MZ PM V X w0 w K Sp Lp Sd Ld) (on us : Bool) (rt z k : Int) (h0 : 0 ≤ z) (h1 : z < 4294967296) :
  Calls Tryz.prog 10 #[.pointer (some ⟨K.g, 0, none⟩), modeV on rt us, .int .u32 z, .int .i64 k] w fun e w' => e = .returned (.tuple #[hitX (locF 12 Sd Ld on rt us z k).1 false, .int .i64 (locF 12 Sd Ld on rt us z k).2]) ∧ Below w.heap.size w w' := by
 obtain ⟨D, hd⟩ := h.dv
 exact Wa.refFind_any on us rt z k _ _ h0 h1 rfl rfl w hd
omit C in
theorem dLoad (h : MZ PM V X w0 w K Sp Lp Sd Ld) (on us : Bool) (rt z wd k : Int) (h0 : 0 ≤ z) (h1 : z < 4294967296) :
  Calls Tryz.prog 12 #[.pointer (some ⟨K.g, 0, none⟩), modeV on rt us, .int .u32 z, .int .i64 wd, .int .i64 k] w fun e w' => e = .returned (.tuple #[.int .u32 (ld20 12 Sd Ld on rt us z wd k).1, .int .i64 (ld20 12 Sd Ld on rt us z wd k).2]) ∧ Below w.heap.size w w' := by
 obtain ⟨D, hd⟩ := h.dv
 exact refLoad20_any on us rt z wd k _ _ h0 h1 rfl w hd
theorem dSave (h : MZ PM V X w0 w K Sp Lp Sd Ld) (on us : Bool) (rt z wd x : Int) (h0 : 0 ≤ z) (h1 : z < 4294967296) (h2 : 0 ≤ x) (h3 : x < 4294967296) :
  Calls Tryz.prog 19 #[.pointer (some ⟨K.g, 0, none⟩), modeV on rt us, .int .u32 z, .int .i64 wd, .int .u32 x] w fun e w' => e = .returned (.int .i64 (sc20 12 Sd Ld on rt us z wd)) ∧ Hid (MZ PM V X w0 w' K Sp Lp (ss20 12 Sd Ld on rt us z wd x) Ld) := by
 obtain ⟨D, hd⟩ := h.dv
 exact (refSave20_any on us rt z wd x _ _ h0 h1 h2 h3 rfl rfl w hd).mono fun e w' ⟨h4, h5, h6⟩ => ⟨h4, Lib.hid (h.doc C ⟨D, h5⟩ (h6.more fun q hq => by simp at hq; simp [hq]))⟩
theorem dVSave (h : MZ PM V X w0 w K Sp Lp Sd Ld) (z wd x : Int) (h0 : 0 ≤ z) (h1 : z < 4294967296) (h2 : 0 ≤ x) (h3 : x < 4294967296) :
  Calls Tryz.prog 33 #[.pointer (some ⟨K.g, 0, none⟩), .int .u32 z, .int .i64 wd, .int .u32 x] w fun e w' => e = .returned (.int .i64 (findF 12 Ld z wd 2)) ∧ Hid (MZ PM V X w0 w' K Sp Lp (saveS 12 Sd Ld z wd x) Ld) := by
 obtain ⟨D, hd⟩ := h.dv
 exact (Vw.refSave_any z wd x _ _ _ h0 h1 h2 h3 rfl rfl rfl w hd).mono fun e w' ⟨h4, h5, h6⟩ => ⟨h4, Lib.hid (h.doc C ⟨_, h5⟩ (h6.more fun q hq => by
  simp only [List.mem_cons, List.not_mem_nil, or_false] at hq ⊢
  rcases hq with h | h
  ·exact .inl h
  ·exact .inr (.inl h)))⟩
theorem dSet (h : MZ PM V X w0 w K Sp Lp Sd Ld) (p : Int) (pl : Gm.Pl) : Calls Tryz.prog 30 #[.pointer (some ⟨K.q, 0, none⟩), .int .i64 p, Gm.plV pl] w fun e w' => e = .returned (.int .i64 (Gm.setE Ld p pl)) ∧ Hid (MZ PM V X w0 w' K Sp Lp Sd (Gm.setL Ld p pl)) := by
 obtain ⟨D, hd⟩ := h.dv
 exact (Gm.refSet_any K.q Ld _ p _ pl rfl rfl w hd.mp).mono fun e w' ⟨h4, h5, h6⟩ => ⟨h4, Lib.hid (h.doc C ⟨D, dv_mapped hd h5 h6⟩ (Kq.of_grown h6 (by simp)))⟩
omit C in
theorem dDrop (p : Int) (h : MZd PM V X w0 w K p Sp Lp Sd Ld) : Calls Tryz.prog 35 #[.pointer (some ⟨K.q, 0, none⟩), .int .i64 p] w fun e w' => e = .returned (.int .i64 (Gm.drE Ld p)) ∧ Hid (MZd PM V X w0 w' K p Sp Lp Sd (Gm.drL Ld p)) := by
 obtain ⟨D, hd⟩ := h.dv
 refine (Gm.refDrop_any K.q Ld _ p _ rfl rfl w hd.mp).mono fun e w' ⟨h4, h5, h6⟩ => ⟨h4, Lib.hid ?_⟩
 have hk : Kq [K.q] w w' := Kq.of_grown h6 (by simp)
 have o := h.o
 have h1 := o.ws
 have h2 := o.sm
 have h3 := o.mB
 have h7 := o.Bq
 have h8 := o.qb
 have h9 := o.bg
 obtain ⟨W, T, κ, tb, hp, hT, hk0⟩ := h.ex
 refine ⟨⟨W, T, κ, tb, hp, hT, hk0.trans (hk.more fun q hq => by simp at hq; simp [hq])⟩, ⟨h.mp.1.kq hk (by simp; omega), h.mp.2⟩, ⟨D, dv_mapped hd h5 h6⟩, o, h.nb, fun x hx => ?_, h.b.trans (hk.under (fun y hy => by simp at hy; omega) h.b.size)⟩
 obtain ⟨s1, s2, s3⟩ := h.st x hx
 exact ⟨s1, Nat.lt_of_lt_of_le s2 hk.size, (hk.block x s2 (by simp; omega)).trans s3⟩
end
end Go.Proofs.YteaincdeoajkeaaGreatDoor.Mm
end
section
/- hermitagelaw20: made: a guest's memory of both sides, the words that stand in it, and the Mmu over it. -/
namespace Go.Proofs.YteaincdeoajkeaaGreatDoor.Mm
open Go.RowKit Go.Shelf Ut Oc Vw Wa
set_option maxRecDepth 100000
set_option linter.unusedVariables false
set_option maxHeartbeats 4000000

def all10 (_ : Nat) : Bool := true
/-- the map behind made -/
def map20 : List Gm.Pl := mkG all10 10
theorem map20_lay : Lay map20 := by
 refine ⟨⟨by decide +kernel, fun p hp => ?_⟩, fun i hi => ?_⟩
 ·have h : ∀ p ∈ map20, p = (0, 0) ∨ Gm.okB p = true := by decide +kernel
  exact h p hp
 ·have h : ∀ i : Fin 12, Gm.plN map20 i = (0, 0) ∨ Gm.plN map20 i = placeP ((i : Nat) : Int) := by decide +kernel
  exact h ⟨i, hi⟩
def cnt20 (n : Nat) : Nat := min n 100
theorem made20_any {PM : PMt} (C : MmuC PM) (room : Int) (hr0 : 0 ≤ room) (hr1 : room ≤ 4) (ai : Option Addr) (li ci B0 : Nat) (Z : Nat → Int × Int) (w : World) (hli : li ≤ 9223372036854775807) (hi : PutRow w B0 ai li Z) (hB0 : B0 ≤ w.heap.size) (hG : PM.G w) (hnb : PM.nb ≤ w.heap.size) :
  Calls Tryz.prog 7 #[.int .i64 room, .slice ai li ci] w fun e w' => ∃ u b g, e = .returned (.tuple #[.pointer (some ⟨u, 0, none⟩), .pointer (some ⟨b, 0, none⟩), .pointer (some ⟨g, 0, none⟩)]) ∧ Hid (∃ K T tb, K.u = u ∧ K.b = b ∧ K.g = g ∧ MZT PM w' [] w w' K T [] tb (putS map20 Z (cnt20 li)) map20 (putS map20 Z (cnt20 li)) map20) := by
 have HC := Lib.hid C
 have HI := Lib.hid hi
 have HB0 := Lib.hid hB0
 have HR := Lib.hid (And.intro hr0 hr1)
 have HGW : Hid (∀ W, Below w.heap.size w W → PM.G W) := Lib.hid fun W hb => C.gb hG (hb.mono hnb)
 have HNB := Lib.hid hnb
 have HN : Hid (Calls Tryz.prog 25 #[.int .i64 12] w fun e w' => e = .returned (.tuple #[.pointer (some ⟨w.heap.size, 0, none⟩), .int .i64 0]) ∧ Fr.St w' w.heap.size 12 Fr.zeros ∧ Below w.heap.size w w') := Lib.hid (Fr.new_ok 12 w (by omega))
 have HRN : Hid (∀ W, Calls Tryz.prog 27 #[.int .i64 12] W fun e w' => e = .returned (.tuple #[.pointer (some ⟨W.heap.size, 0, none⟩), .int .i64 0]) ∧ (∃ v vs, Fr.RT w' W.heap.size W.heap.size 12 (List.replicate 12 Fr.zer) v vs) ∧ Below W.heap.size W w') := Lib.hid fun W => Fr.refNew_ok 12 W (by omega)
 clear hi hB0 C hr0 hr1 hG hnb
 go_enter Tryz.func7, Tryz.ntmps7
 go_wp2_with fail
 refine HN.out.mono ?_
 rintro e w1 ⟨rfl, hs1, hb1⟩
 have HS1 := Lib.hid hs1
 have HB1 := Lib.hid hb1
 clear hs1 hb1 HN
 go_wp2_with fail
 refine (Gm.new_any w1).mono ?_
 rintro e w2 ⟨rfl, hm2, hb2⟩
 have HS2 := Lib.hid (HS1.out.below hb2 HS1.out.lt)
 have HM2 := Lib.hid hm2
 have HB2 := Lib.hid (HB1.out.trans (hb2.mono HB1.out.size))
 have HSM := Lib.hid HS1.out.lt
 clear hm2 hb2 HS1 HB1
 generalize w1.heap.size = m at HM2 HSM ⊢
 go_wp2_with fail
 refine (HRN.out w2).mono ?_
 rintro e w3 ⟨rfl, ⟨tv, tvs, ht3⟩, hb3⟩
 obtain ⟨gv, cap, rfl, hgB, _⟩ := ht3.form (by omega)
 have HT3 := Lib.hid ht3
 have HGV := Lib.hid (ht3.own.lt gv rfl).2
 have HS3 := Lib.hid (HS2.out.below hb3 HS2.out.lt)
 have HM3 := Lib.hid (HM2.out.below hb3 HM2.out.lt)
 have HB3 := Lib.hid (HB2.out.trans (hb3.mono HB2.out.size))
 have HMB := Lib.hid HM2.out.lt
 clear hb3 ht3 hgB HS2 HM2 HB2 HRN
 generalize w2.heap.size = B at HT3 HMB ⊢
 go_upto_region 4 with fail
 refine wp_region_lit ?_
 refine wpList_buildTo rfl 93 _ rfl _ rfl (Gm.rCells Gm.noP).toArray (by kernel_rfl) ?_
 refine Great.wpList_boxTo rfl 93 _ rfl _ rfl w3.heap.size rfl (Gm.rCells Gm.noP).toArray rfl ?_
 have HA := (Below.refl w3.heap.size w3).alloc (Nat.le_refl _) (.cells (Gm.rCells Gm.noP).toArray 93)
 have HR4 : Hid (Gm.RAt (w3.alloc (.cells (Gm.rCells Gm.noP).toArray 93)) w3.heap.size Gm.noP) := Lib.hid ⟨Blk.new w3 _ _, Gm.noP_ok⟩
 have HT4 := Lib.hid (HT3.out.below HA)
 have HS4 := Lib.hid (HS3.out.below HA HS3.out.lt)
 have HM4 := Lib.hid (HM3.out.below HA HM3.out.lt)
 have HB4 := Lib.hid (HB3.out.trans (HA.mono HB3.out.size))
 have HQ := Lib.hid (show B < w3.heap.size from HT3.out.lt)
 generalize w3.alloc (.cells (Gm.rCells Gm.noP).toArray 93) = w4 at HR4 HT4 HS4 HM4 HB4 ⊢
 generalize w3.heap.size = q at HR4 HQ HGV ⊢
 clear HA HT3 HS3 HM3 HB3
 simp only [Act.put, List.setIfInBounds_toArray, List.set_cons_succ, List.set_cons_zero]
 go_wp2
 go_loopw [13] (fun j wr => ∃ k : Nat, k ≤ 10 ∧ j = .int .i64 k ∧ Hid (Gm.MAt wr m (mkG all10 k)) ∧ Hid (Gm.RAt wr q (mkG all10 k)) ∧ Hid (Kq [m, q] w4 wr)) (fun j _ => 10 - (intOf j).toNat)
 case atStart => exact ⟨0, Nat.zero_le _, rfl, HM4, HR4, Kq.refl _ _⟩
 case round =>
  obtain ⟨k, hk, rfl, HM, HRQ, HK⟩ := hrel
  have hTq : ∀ y ∈ [m, q], w.heap.size ≤ y := fun y hy => by
   have h1 := HSM.out
   have h2 := HMB.out
   have h3 := HQ.out
   rcases List.mem_cons.1 hy with rfl | hy
   ·omega
   ·have e : y = q := (by simpa using hy)
    omega
  by_cases h3 : k < 10
  ·have f2 : (k : Int) < 10 := by omega
   have f3 : (0 : Int) ≤ (k : Int) := by omega
   have H3 := Lib.hid h3
   have HLL : Hid (mkG all10 (k + 1) = Gm.setL (mkG all10 k) k (zk k)) := Lib.hid rfl
   have HPL : Hid (∀ W, Calls Tryz.prog 29 #[.int .i64 k] W fun e w' => e = .returned (Gm.plV (zk k)) ∧ Below W.heap.size W w') := Lib.hid fun W => place20_any k (by omega) (by omega) W
   clear h3 hk
   obtain ⟨L2, hl2⟩ : ∃ L2, Gm.setL (mkG all10 k) k (zk k) = L2 := ⟨_, rfl⟩
   obtain ⟨ez, hez⟩ : ∃ ez, Gm.setE (mkG all10 k) k (zk k) = ez := ⟨_, rfl⟩
   have HPM := Lib.hid (fun W h => Gm.set_any m (mkG all10 k) L2 k ez (zk k) hez hl2 W h)
   have HPR := Lib.hid (fun W h => Gm.refSet_any q (mkG all10 k) L2 k ez (zk k) hez hl2 W h)
   rw [hl2] at HLL
   clear hl2 hez
   generalize mkG all10 k = L1 at HM HRQ HPM HPR
   unfold Gm.plV at HPL HPM HPR
   generalize (zk k).1 = pf at HPL HPM HPR
   generalize (zk k).2 = pr at HPL HPM HPR
   go_wp2_with fail
   refine (HPL.out wr).mono ?_
   rintro e X ⟨rfl, hbX⟩
   have HM9 := Lib.hid (HM.out.more hbX)
   have HR9 := Lib.hid (HRQ.out.more hbX)
   have HK9 : Hid (Kq [m, q] w4 X) := Lib.hid (HK.out.trans (Kq.of_below hbX))
   clear hbX HM HRQ HK
   go_wp2_with fail
   refine (HPM.out X HM9.out).mono ?_
   rintro e X1 ⟨rfl, hm, hg⟩
   have HMQ := Lib.hid (Nat.lt_trans HMB.out HQ.out)
   have HMA := Lib.hid hm
   have HRA := Lib.hid (HR9.out.kept hg (fun e => by have := HMQ.out; injection e; omega))
   have HKA : Hid (Kq [m, q] w4 X1) := Lib.hid (HK9.out.trans (Kq.of_grown hg (by simp)))
   clear hm hg HM9 HR9 HK9 HPM
   go_wp2_with fail
   refine (HPL.out X1).mono ?_
   rintro e X2 ⟨rfl, hbX⟩
   have HM8 := Lib.hid (HMA.out.more hbX)
   have HR8 := Lib.hid (HRA.out.more hbX)
   have HK8 : Hid (Kq [m, q] w4 X2) := Lib.hid (HKA.out.trans (Kq.of_below hbX))
   clear hbX HMA HRA HKA HPL
   go_wp2_with fail
   refine (HPR.out X2 HR8.out).mono ?_
   rintro e X3 ⟨rfl, hr, hg⟩
   have HM5 := Lib.hid (HM8.out.kept hg (fun e => by have := HMQ.out; injection e; omega))
   have HR5 := Lib.hid hr
   have HK5 : Hid (Kq [m, q] w4 X3) := Lib.hid (HK8.out.trans (Kq.of_grown hg (by simp)))
   clear hr hg HM8 HR8 HK8 HPR
   rw [← HLL.out] at HM5 HR5
   go_wp2
   go_roundw
   case rel => exact ⟨k + 1, H3.out, by go_num, HM5, HR5, HK5⟩
   case measure => have := H3.out; simp [intOf]; omega
  ·obtain rfl : k = 10 := by omega
   have hm0 := HM.out
   have hq0 := HRQ.out
   have hns : w.heap.size ∉ [m, q] := by
    have h1 := HSM.out
    have h2 := HMB.out
    have h3 := HQ.out
    simp
    omega
   have hst : Fr.St wr w.heap.size 12 Fr.zeros := HS4.out.of_block (HK.out.block _ HS4.out.lt hns)
   have hrt := rt_kq HT4.out (by omega) HK.out (fun y hy => by
    have h2 := HMB.out
    rcases List.mem_cons.1 hy with rfl | hy
    ·exact .inl h2
    ·have e : y = q := (by simpa using hy)
     rw [e]
     exact .inr (.inr (RAt_c0 HR4.out)))
   have hbw : Below w.heap.size w wr := HB4.out.trans (HK.out.under hTq HB4.out.size)
   have HR6 := Lib.hid hq0
   have HT6 := Lib.hid hrt
   have HB6 := Lib.hid hbw
   have HNEW := Lib.hid (new_ok w.heap.size m 12 Fr.zeros (mkG all10 10) wr hst (by omega) hm0 HSM.out)
   clear hm0 hq0 hst hrt hbw hns hTq HM HRQ HS4 HM4 HR4 HT4 HK h3 hk
   generalize hLM : mkG all10 10 = LM at HNEW HR6
   have HLM : Hid (map20 = LM) := Lib.hid hLM
   clear hLM
   go_wp2_with fail
   refine HNEW.out.mono ?_
   rintro e w7 ⟨rfl, hp7, hb7⟩
   have HP7 := Lib.hid hp7
   have HR7 := Lib.hid (HR6.out.more hb7)
   have HT7 := Lib.hid (HT6.out.below hb7)
   have HB7 := Lib.hid (HB6.out.trans (hb7.mono HB6.out.size))
   have HQL := Lib.hid HR6.out.lt
   have HBL := Lib.hid (show wr.heap.size < w7.heap.size from hp7.lt)
   clear hp7 hb7
   generalize wr.heap.size = b at HP7 HQL HBL ⊢
   go_upto_region 13 with fail
   refine wp_region_lit ?_
   refine Great.wpList_readTo rfl _ rfl (.pointer (some ⟨B, 0, none⟩)) (by kernel_rfl) ?_
   refine Great.wpList_readTo rfl _ rfl (.pointer (some ⟨q, 0, none⟩)) (by kernel_rfl) ?_
   refine wpList_buildTo rfl 69 _ rfl _ rfl (vCells B q noD).toArray (by kernel_rfl) ?_
   refine Great.wpList_boxTo rfl 69 _ rfl _ rfl w7.heap.size rfl (vCells B q noD).toArray rfl ?_
   have HA := (Below.refl w7.heap.size w7).alloc (Nat.le_refl _) (.cells (vCells B q noD).toArray 69)
   have HMD : Hid (Md w (w7.alloc (.cells (vCells B q noD).toArray 69)) b w.heap.size m w7.heap.size B B q gv cap Fr.zeros LM noD) := Lib.hid ⟨HP7.out.more HA, ⟨Blk.new w7 _ _, ⟨tvs, by rw [Fr.fr_zeros _ (by omega)]; exact HT7.out.below HA⟩, HR7.out.more HA, rfl, by omega, Fr.zeros_len, Fr.zeros_bytes, by omega, by have := HQ.out; omega, by have := HQL.out; have := HBL.out; omega⟩, Nat.le_refl _, HMB.out, HQL.out, HBL.out, HB7.out.trans (HA.mono HB7.out.size)⟩
   have HGG : Hid (gv < w7.heap.size) := Lib.hid (by have := HGV.out; have := HQL.out; have := HBL.out; omega)
   generalize w7.alloc (.cells (vCells B q noD).toArray 69) = w8 at HMD ⊢
   generalize w7.heap.size = g at HMD HGG ⊢
   clear HA HP7 HR7 HT7 HB7 HQL HBL HNEW HR6 HT6 HB6
   simp only [Act.put, List.setIfInBounds_toArray, List.set_cons_succ, List.set_cons_zero]
   go_wp2
   have hli2 := hli
   go_loopw [17] (fun j wr => ∃ i : Nat, i ≤ cnt20 li ∧ j = .int .i64 i ∧ Hid (Md w wr b w.heap.size m g B B q gv cap (putS LM Z i) LM (putD LM Z i))) (fun j _ => cnt20 li - (intOf j).toNat)
   case atStart => exact ⟨0, Nat.zero_le _, rfl, HMD⟩
   case round =>
    clear HMD
    obtain ⟨i, hic, rfl, HM⟩ := hrel
    by_cases hin : i < li ∧ i < 100
    ·obtain ⟨h1, h2⟩ := hin
     obtain ⟨y, rfl, hyb, hy0, hy1, a0, a1, u0, u1⟩ := HI.out i h1
     have HBW : Hid (Below B0 w wr) := Lib.hid (HM.out.blw.mono HB0.out)
     obtain ⟨d0, d1⟩ := put_cells HBW.out hyb ⟨hy0, hy1⟩
     have HCC := Lib.hid (And.intro hyb (And.intro hy0 hy1))
     have f0 : (i : Int) < (li : Int) := by omega
     have f1 : (i : Int) < 100 := by omega
     have f2 : (0 : Int) ≤ (i : Int) := by omega
     have H3 : Hid (i + 1 ≤ cnt20 li) := Lib.hid (by unfold cnt20; omega)
     have HS1 : Hid (putS LM Z (i + 1) = saveS 12 (putS LM Z i) LM (Z i).1 4 (Z i).2) := Lib.hid rfl
     have HS2 : Hid (putD LM Z (i + 1) = saveD 12 LM (putD LM Z i) (Z i).1 4) := Lib.hid rfl
     generalize (Z i).1 = pa at d0 a0 a1 hy0 HCC HS1 HS2
     generalize (Z i).2 = pu at d1 u0 u1 hy1 HCC HS1 HS2
     obtain ⟨c, hc⟩ : ∃ c, findF 12 LM pa 4 2 = c := ⟨_, rfl⟩
     obtain ⟨S2, hS2⟩ : ∃ S2, saveS 12 (putS LM Z i) LM pa 4 pu = S2 := ⟨_, rfl⟩
     obtain ⟨D2, hD2⟩ : ∃ D2, saveD 12 LM (putD LM Z i) pa 4 = D2 := ⟨_, rfl⟩
     have HSP := Lib.hid (fun W h => save_any (b := b) (s := w.heap.size) (m := m) pa 4 pu c S2 D2 a0 a1 u0 u1 hc hS2 hD2 W h)
     have HSD := Lib.hid (fun W h => Vw.refSave_any (g := g) (bt := B) (B := B) (q := q) (gv := gv) (cap := cap) pa 4 pu c S2 D2 a0 a1 u0 u1 hc hS2 hD2 W h)
     rw [hS2] at HS1
     rw [hD2] at HS2
     have hlt := HM.out
     clear hc hS2 hD2 hic h1 h2 hyb hy0 hy1
     generalize putS LM Z i = S1 at HM HSP HSD hlt
     generalize putD LM Z i = D1 at HM HSP HSD hlt
     clear hlt
     go_upto_region 17 with fail
     go_still_tail 11, (by kernel_rfl)
     change wpList _ _ _ _ _ wr.drew
     have HM1 : Hid (Md w wr.drew b w.heap.size m g B B q gv cap S1 LM D1) := Lib.hid (HM.out.more (Below.refl _ _).drew)
     clear d0 d1 HM
     generalize wr.drew = V1 at HM1 ⊢
     go_wp2_with fail
     refine (HSP.out V1 HM1.out.pv).mono ?_
     rintro e V2 ⟨rfl, hp, hk⟩
     have HP2 := Lib.hid hp
     obtain ⟨hd2, hb2⟩ := HM1.out.both hp hk
     have HD2 := Lib.hid hd2
     have HB2 := Lib.hid hb2
     have HO : Hid (w.heap.size ≤ w.heap.size ∧ m < B ∧ q < b ∧ b < g) := Lib.hid ⟨HM1.out.ws, HM1.out.mB, HM1.out.qb, HM1.out.bg⟩
     clear hp hk hd2 HSP HM1
     obtain ⟨d0, d1⟩ := put_cells (p := (pa, pu)) (hb2.mono HB0.out) HCC.out.1 HCC.out.2
     dsimp only at d0 d1
     clear hb2
     go_upto_region 18 with fail
     go_still_tail 11, (by kernel_rfl)
     change wpList _ _ _ _ _ V2.drew
     have HP3 := Lib.hid (HP2.out.more (Below.refl V2.heap.size V2).drew)
     have HD3 := Lib.hid (HD2.out.more (Below.refl V2.heap.size V2).drew)
     have HB3' := Lib.hid (HB2.out.trans ((Below.refl V2.heap.size V2).drew.mono HB2.out.size))
     clear d0 d1 HP2 HD2 HB2
     generalize V2.drew = V3 at HP3 HD3 HB3' ⊢
     go_wp2_with fail
     refine (HSD.out V3 HD3.out).mono ?_
     rintro e V4 ⟨rfl, hd, hk⟩
     have HM4 := Lib.hid (Md.doc HP3.out HB3'.out HO.out HD3.out hd hk)
     clear hd hk HSD HP3 HD3 HB3'
     rw [← HS1.out, ← HS2.out] at HM4
     go_wp2
     go_roundw
     case rel => exact ⟨i + 1, H3.out, by go_num, HM4⟩
     case measure => have := H3.out; simp [intOf]; omega
    ·have hc : i = cnt20 li := by unfold cnt20 at *; omega
     have hm0 := HM.out
     rw [hc] at hm0
     have HF := Lib.hid hm0
     have HNW := Lib.hid (HC.out.new room (HGW.out wr hm0.blw) (Nat.le_trans HNB.out hm0.ws) (HLM.out ▸ map20_lay) hm0.pv HR.out.1 HR.out.2)
     have hout : (¬ (i : Int) < (li : Int)) ∨ ((i : Int) < (li : Int) ∧ ¬ (i : Int) < 100) := by omega
     have HEND : Hid (∀ (u : Nat) (w' : World), (∃ T tb, PM.P w' u T b w.heap.size m (putS LM Z (cnt20 li)) LM [] tb ∧ ∀ x ∈ T, wr.heap.size ≤ x) → Kq [b] wr w' → ∃ K T tb, K.u = u ∧ K.b = b ∧ K.g = g ∧ MZT PM w' [] w w' K T [] tb (putS map20 Z (cnt20 li)) map20 (putS map20 Z (cnt20 li)) map20) := Lib.hid fun u w' ⟨T, tb, hp, hT⟩ hk => by
      have h1 := hm0.pv.sm
      have h2 := hm0.pv.mb
      have h3 := hm0.mB
      have h4 := hm0.dv.bq
      have h5 := hm0.qb
      have h6 := hm0.bg
      have h7 := hm0.dv.gvB
      have h8 := hm0.dv.lt
      rw [HLM.out]
      refine ⟨⟨u, b, w.heap.size, m, g, B, B, q, gv, cap⟩, T, tb, rfl, rfl, rfl, hp, fun t ht => ⟨by have := hT t ht; show g < t; omega, by simp⟩, ⟨_, dv_kqN hm0.dv hk (by simp; omega) (by simp; omega) (fun x hx => ?_)⟩, ⟨hm0.ws, h1, h3, h4, h5, h6, h7.1, HGG.out, hm0.dv.gv_ne (.inl ⟨_, hm0.pv.cell0⟩)⟩, HNB.out, fun x hx => absurd hx (by simp), hm0.blw.trans (hk.under (fun y hy => ?_) hm0.blw.size)⟩
      ·obtain rfl : x = b := by simpa using hx
       exact .inr ⟨_, hm0.pv.cell0, trivial⟩
      ·obtain rfl : y = b := by simpa using hy
       omega
     clear hm0 hin hc HM hic HF
     rcases hout with f1 | ⟨f1, f2⟩
     all_goals
      go_wp2_with fail
      refine HNW.out.mono ?_
      rintro e w9 ⟨⟨u, rfl, hp⟩, hk⟩
      have HE := Lib.hid (HEND.out u w9 hp.out hk)
      clear hp hk HNW HEND
      go_wp2
      go_ret3
      exact ⟨u, b, g, rfl, HE⟩
end Go.Proofs.YteaincdeoajkeaaGreatDoor.Mm
end
section
/- hermitagelaw20: awake. -/
namespace Go.Proofs.YteaincdeoajkeaaGreatDoor.Mm
open Go.RowKit Go.Shelf Ut Oc Vw Wa
set_option maxRecDepth 100000
set_option linter.unusedVariables false
set_option maxHeartbeats 4000000

def awZ20 (i : Nat) : Int × Int := if i = 0 then (64, 513) else (128, 771)
theorem aw_loc20 : locF 12 (putS map20 awZ20 (cnt20 2)) map20 true 1 false 5 1 = ((3, 8, 5), 0) := by decide +kernel
theorem awake20_any {PM : PMt} (C : MmuC PM) (w : World) (hG : PM.G w) (hnb : PM.nb ≤ w.heap.size) : Calls Tryz.prog 13 #[] w fun e w' => e = .returned (.bool true) ∧ Below w.heap.size w w' := by
 have hN : Blk (w.alloc (.cells #[.int .u32 64, .int .u32 513, .int .u32 128, .int .u32 771] 101)) w.heap.size 101 [.int .u32 64, .int .u32 513, .int .u32 128, .int .u32 771] := Blk.new _ _ _
 have hB : Below w.heap.size w (w.alloc (.cells #[.int .u32 64, .int .u32 513, .int .u32 128, .int .u32 771] 101)) := (Below.refl _ _).alloc (Nat.le_refl _) _
 have HMK := Lib.hid (made20_any C 2 (by decide) (by decide) (some ⟨w.heap.size, 0, none⟩) 2 2 (w.heap.size + 1) awZ20 (w.alloc (.cells #[.int .u32 64, .int .u32 513, .int .u32 128, .int .u32 771] 101)) (by decide) (fun i hi => by
  rcases (show i = 0 ∨ i = 1 by omega) with rfl | rfl
  ·exact ⟨_, rfl, Nat.lt_succ_self _, hN.cell rfl, hN.cell rfl, by decide, by decide, by decide, by decide⟩
  ·exact ⟨_, rfl, Nat.lt_succ_self _, hN.cell (j := 2) rfl, hN.cell (j := 3) rfl, by decide, by decide, by decide, by decide⟩) (by simp) (C.gb hG (hB.mono hnb)) (Nat.le_trans hnb hB.size))
 have HB := Lib.hid hB
 have HC := Lib.hid C
 clear hN hB C hG hnb
 go_enter Tryz.func13, Tryz.ntmps13
 go_wp2_with fail
 refine HMK.out.mono ?_
 rintro e w1 ⟨u, b, g, rfl, hmd⟩
 obtain ⟨K, T, tb, rfl, rfl, rfl, hz⟩ := hmd.out
 have HB1 := Lib.hid (HB.out.trans (hz.b.mono HB.out.size))
 have HLO : Hid (∀ y ∈ K.b :: K.s :: T, w.heap.size ≤ y) := Lib.hid fun y hy => by
  have o := hz.o
  have h1 := o.ws
  have h2 := o.sm
  have h3 := o.mB
  have h4 := o.Bq
  have h5 := o.qb
  have h6 := o.bg
  have h7 := HB.out.size
  rcases List.mem_cons.1 hy with rfl | hy
  ·omega
  rcases List.mem_cons.1 hy with rfl | hy
  ·omega
  ·have := (hz.tT y hy).1
   omega
 have HLT : Hid (∀ y ∈ K.b :: K.s :: T, y < w1.heap.size) := Lib.hid fun y hy => by
  have o := hz.o
  have h2 := o.sm
  have h3 := o.mB
  have h4 := o.Bq
  have h5 := o.qb
  have h6 := o.bg
  have hg := hz.glt
  rcases List.mem_cons.1 hy with rfl | hy
  ·omega
  rcases List.mem_cons.1 hy with rfl | hy
  ·omega
  ·exact HC.out.lt hz.pm y hy
 obtain ⟨V1, hV1⟩ : ∃ V1, V1 = w1.alloc (.cells #[.bool true, .int .i64 1, .bool false] 30) := ⟨_, rfl⟩
 have hb1 : Below w1.heap.size w1 V1 := by rw [hV1]; exact (Below.refl _ _).alloc (Nat.le_refl _) _
 have hn1 : Blk V1 w1.heap.size 30 [.bool true, .int .i64 1, .bool false] := by rw [hV1]; exact Blk.new w1 _ _
 have hpm := HC.out.kq hz.pm (X := []) (Kq.of_below hb1) (fun _ _ => by simp) (fun _ hx => absurd hx (by simp))
 have htw := HC.out.twice 1 5 false hpm (by decide) (by decide) (by rw [aw_loc20])
 rw [aw_loc20] at htw
 have HTW := Lib.hid htw
 have HV1 := Lib.hid hV1
 have HN1 := Lib.hid hn1
 have HBV := Lib.hid (HB1.out.trans (hb1.mono HB1.out.size))
 have HS1 := Lib.hid hb1.size
 have HML := Lib.hid (show w1.heap.size < V1.heap.size from hn1.lt)
 clear hz hmd HMK HB hV1 hb1 hn1 hpm htw HC HB1
 dsimp only [hitX, modeV] at HTW
 go_upto_region 5 with fail
 rw [← HV1.out]
 clear HV1
 generalize w1.heap.size = mb at HN1 HML HLT HS1 ⊢
 have m0 := HN1.out.cell (j := 0) rfl
 have m1 := HN1.out.cell (j := 1) rfl
 have m2 := HN1.out.cell (j := 2) rfl
 have ml := HN1.out.lt
 go_wp2_with fail
 refine HTW.out.mono ?_
 rintro e w2 ⟨rfl, hnext, hk2⟩
 have HNX := Lib.hid hnext.out
 have HMN : Hid (mb ∉ K.b :: K.s :: T) := Lib.hid fun hm => by have := HLT.out _ hm; omega
 have HN2 := Lib.hid (HN1.out.kq hk2 HMN.out)
 have HB2 := Lib.hid (HBV.out.trans (hk2.under HLO.out HBV.out.size))
 have HSZ2 := Lib.hid hk2.size
 obtain ⟨V2, hV2⟩ : ∃ V2, V2 = w2.alloc (.cells #[.int .i64 3, .int .i64 8, .int .i64 5, .bool false] 36) := ⟨_, rfl⟩
 have hb2 : Below w2.heap.size w2 V2 := by rw [hV2]; exact (Below.refl _ _).alloc (Nat.le_refl _) _
 have HH2 : Hid (Blk V2 w2.heap.size 36 [.int .i64 3, .int .i64 8, .int .i64 5, .bool false]) := Lib.hid (by rw [hV2]; exact Blk.new w2 _ _)
 have HF2 := Lib.hid (HNX.out V2 hb2)
 have HN3 := Lib.hid (HN2.out.more hb2)
 have HB3 := Lib.hid (HB2.out.trans (hb2.mono HB2.out.size))
 have HV2 := Lib.hid hV2
 clear hnext hk2 HTW HNX hb2 hV2 HN1 HN2 HB2 m0 m1 m2 ml HBV
 go_upto_region 6 with fail
 rw [← HV2.out]
 clear HV2
 have m0 := HN3.out.cell (j := 0) rfl
 have m1 := HN3.out.cell (j := 1) rfl
 have m2 := HN3.out.cell (j := 2) rfl
 have ml := HN3.out.lt
 go_wp2_with fail
 refine HF2.out.mono ?_
 rintro e w3 ⟨rfl, Y, hk3, hY⟩
 have hhn : w2.heap.size ∉ Y := fun hm => by
  rcases hY _ hm with h | ⟨_, h⟩
  ·have := HLT.out _ h
   have := HSZ2.out
   have := HS1.out
   omega
  ·omega
 have hh3 := HH2.out.kq hk3 hhn
 have HH3 := Lib.hid hh3
 have HB4 := Lib.hid (HB3.out.trans (hk3.under (fun y hy => by
  rcases hY y hy with h | ⟨h, _⟩
  ·exact HLO.out y h
  ·have := HB3.out.size
   have := HLO.out K.b (by simp)
   have := HLT.out K.b (by simp)
   have := HS1.out
   omega) HB3.out.size))
 clear hk3 hY hhn hh3 HF2 HH2 HB3 m0 m1 m2 ml
 have r0 := HH3.out.cell (j := 0) rfl
 have r3 := HH3.out.cell (j := 3) rfl
 have rl := HH3.out.lt
 have HB5 : Hid (Below w.heap.size w (w3.alloc (.cells #[.int .i64 3, .int .i64 8, .int .i64 5, .bool true] 36))) := Lib.hid (HB4.out.alloc HB4.out.size _)
 generalize w2.heap.size = hb at r0 r3 rl ⊢
 go_wp2
 go_ret
 exact ⟨rfl, HB5.out⟩
end Go.Proofs.YteaincdeoajkeaaGreatDoor.Mm
end
section
/- hermitagelaw20: do: an act on both sides. -/
namespace Go.Proofs.YteaincdeoajkeaaGreatDoor.Mm
open Go.RowKit Go.Shelf Ut Oc Vw Wa
set_option maxRecDepth 100000
set_option linter.unusedVariables false
set_option maxHeartbeats 8000000

section
variable {PM : PMt} (C : MmuC PM) {V w0 : World} {X : List Nat} {J : BK} {S : List Int} {LM : List Gm.Pl}
include C
theorem do_save20 (rt va wd kn x : Int) (on us : Bool) (z0 : 0 ≤ va) (z1 : va < 4294967296) (x0 : 0 ≤ x) (x1 : x < 4294967296) (w : World) (h : MZ PM V X w0 w J S LM S LM) :
  Calls Tryz.prog 8 #[.pointer (some ⟨J.u, 0, none⟩), .pointer (some ⟨J.b, 0, none⟩), .pointer (some ⟨J.g, 0, none⟩), .agg #[.int .i64 0, .bool on, .int .i64 rt, .bool us, .int .u32 va, .int .i64 wd, .int .i64 kn, .int .u32 x]] w fun e w' => e = .returned (.bool true) ∧ Hid (MZ PM V X w0 w' J (ss20 12 S LM on rt us va wd x) LM (ss20 12 S LM on rt us va wd x) LM) := by
 obtain ⟨U, hU⟩ : ∃ U, U = w.alloc (.cells #[.int .i64 0, .bool on, .int .i64 rt, .bool us, .int .u32 va, .int .i64 wd, .int .i64 kn, .int .u32 x] 33) := ⟨_, rfl⟩
 have hB : Below w.heap.size w U := by rw [hU]; exact (Below.refl _ _).alloc (Nat.le_refl _) _
 have hA : Blk U w.heap.size 33 [.int .i64 0, .bool on, .int .i64 rt, .bool us, .int .u32 va, .int .i64 wd, .int .i64 kn, .int .u32 x] := by rw [hU]; exact Blk.new w _ _
 have HE := Lib.hid (h.enter C hB [w.heap.size] (fun y hy => by simp at hy; subst hy; exact ⟨Nat.le_refl _, hA.lt⟩))
 have HV : Hid (∀ (w' : World) (S1 : List Int) (L1 : List Gm.Pl), MZ PM U ([w.heap.size] ++ X) w0 w' J S1 L1 S1 L1 → MZ PM V X w0 w' J S1 L1 S1 L1) := Lib.hid fun w' S1 L1 h' => h.leave hB h'
 have HC := Lib.hid C
 have HU := Lib.hid hU
 have HA := Lib.hid hA
 clear hU hB hA h C
 go_enter Tryz.func8, Tryz.ntmps8
 go_upto_region 1 with fail
 rw [← HU.out]
 clear HU
 generalize w.heap.size = ab at HE HV HA ⊢
 have a0 := HA.out.cell (j := 0) rfl
 have a4 := HA.out.cell (j := 4) rfl
 have al := HA.out.lt
 obtain ⟨S2, hS2⟩ : ∃ S2, ss20 12 S LM on rt us va wd x = S2 := ⟨_, rfl⟩
 obtain ⟨c, hc⟩ : ∃ c, sc20 12 S LM on rt us va wd = c := ⟨_, rfl⟩
 have HSP : Hid (∀ (Sd : List Int) (W : World), MZ PM U ([ab] ++ X) w0 W J S LM Sd LM → Calls Tryz.prog 18 #[.pointer (some ⟨J.u, 0, none⟩), .agg #[.bool on, .int .i64 rt, .bool us], .int .u32 va, .int .i64 wd, .int .u32 x] W fun e w' => e = .returned (.int .i64 c) ∧ Hid (MZ PM U ([ab] ++ X) w0 w' J S2 LM Sd LM)) := Lib.hid fun Sd W hW => by
  have := mzSave HC.out hW on us rt va wd x z0 z1 x0 x1
  rw [hS2, hc] at this
  exact this
 have HSD : Hid (∀ (Sp : List Int) (W : World), MZ PM U ([ab] ++ X) w0 W J Sp LM S LM → Calls Tryz.prog 19 #[.pointer (some ⟨J.g, 0, none⟩), .agg #[.bool on, .int .i64 rt, .bool us], .int .u32 va, .int .i64 wd, .int .u32 x] W fun e w' => e = .returned (.int .i64 c) ∧ Hid (MZ PM U ([ab] ++ X) w0 w' J Sp LM S2 LM)) := Lib.hid fun Sp W hW => by
  have := dSave HC.out hW on us rt va wd x z0 z1 x0 x1
  rw [hS2, hc] at this
  exact this
 have HS2 := Lib.hid hS2
 clear hS2 hc
 go_upto_region 4 with fail
 clear a0 a4 al
 apply wp_region_autoL [20, 21, 22, 23, 24, 25, 26, 27, 28, 29, 30, 31, 32, 33, 34, 35, 36, 37, 38, 39, 40] [_, _, _, _, _, _, _, _, _, _, _, _, _, _, _, _, _, _, _, _, _] (fun L_ W' => MZ PM U ([ab] ++ X) w0 W' J (cond (L_ 9) S2 S) LM (cond (L_ 19) S2 S) LM)
 case hm => kernel_rfl
 case hT => intro y; simp only [setAll, List.setIfInBounds_toArray, List.set_cons_succ, List.set_cons_zero]; exact rfl
 case hok => kernel_rfl
 case hn => decide
 case hw => exact (fun L_ h0 => by simp only [h0 9 (by decide), h0 19 (by decide)]; exact HE.out.more HC.out ((Below.refl _ _).drew))
 case hs =>
  refine autoC_op 20 [] (by kernel_rfl) (fun L y w' hL hC HW hd K hK => ?_) ?_
  ·go_simp
   refine hK _ _ ?_ ?_ HW
   ·simp [upd]
   ·exact rfl
  refine autoC_op 21 [] (by kernel_rfl) (fun L y w' hL hC HW hd K hK => ?_) ?_
  ·go_simp
   refine hK _ _ ?_ ?_ HW
   ·simp [upd]
   ·exact rfl
  refine autoC_op 22 [1] (by kernel_rfl) (fun L y w' hL hC HW hd K hK => ?_) ?_
  ·have e1 := hd_nth (hd 1 (by simp)) rfl
   have xb := HW.blk (x := ab) (by simp) HA.out
   have xl := xb.lt
   have a1 := xb.cell (j := 1) rfl
   have a2 := xb.cell (j := 2) rfl
   have a3 := xb.cell (j := 3) rfl
   go_simp
   refine hK _ _ ?_ ?_ HW
   ·simp [upd, e1]
   ·exact rfl
  refine autoC_op 23 [] (by kernel_rfl) (fun L y w' hL hC HW hd K hK => ?_) ?_
  ·go_simp
   refine hK _ _ ?_ ?_ HW
   ·simp [upd]
   ·exact rfl
  refine autoC_op 24 [3] (by kernel_rfl) (fun L y w' hL hC HW hd K hK => ?_) ?_
  ·have e3 := hd_nth (hd 3 (by simp)) rfl
   have xb := HW.blk (x := ab) (by simp) HA.out
   have xl := xb.lt
   have a4 := xb.cell (j := 4) rfl
   go_simp
   refine hK _ _ ?_ ?_ HW
   ·simp [upd, e3]
   ·exact rfl
  refine autoC_op 25 [] (by kernel_rfl) (fun L y w' hL hC HW hd K hK => ?_) ?_
  ·go_simp
   refine hK _ _ ?_ ?_ HW
   ·simp [upd]
   ·exact rfl
  refine autoC_op 26 [5] (by kernel_rfl) (fun L y w' hL hC HW hd K hK => ?_) ?_
  ·have e5 := hd_nth (hd 5 (by simp)) rfl
   have xb := HW.blk (x := ab) (by simp) HA.out
   have xl := xb.lt
   have a5 := xb.cell (j := 5) rfl
   go_simp
   refine hK _ _ ?_ ?_ HW
   ·simp [upd, e5]
   ·exact rfl
  refine autoC_op 27 [] (by kernel_rfl) (fun L y w' hL hC HW hd K hK => ?_) ?_
  ·go_simp
   refine hK _ _ ?_ ?_ HW
   ·simp [upd]
   ·exact rfl
  refine autoC_op 28 [7] (by kernel_rfl) (fun L y w' hL hC HW hd K hK => ?_) ?_
  ·have e7 := hd_nth (hd 7 (by simp)) rfl
   have xb := HW.blk (x := ab) (by simp) HA.out
   have xl := xb.lt
   have a7 := xb.cell (j := 7) rfl
   go_simp
   refine hK _ _ ?_ ?_ HW
   ·simp [upd, e7]
   ·exact rfl
  refine autoC_op 29 [0, 2, 4, 6, 8] (by kernel_rfl) (fun L y w' hL hC HW hd K hK => ?_) ?_
  ·have e0 := hd_nth (hd 0 (by simp)) rfl
   have e2 := hd_nth (hd 2 (by simp)) rfl
   have e4 := hd_nth (hd 4 (by simp)) rfl
   have e6 := hd_nth (hd 6 (by simp)) rfl
   have e8 := hd_nth (hd 8 (by simp)) rfl
   go_simp
   have HW0 : MZ PM U ([ab] ++ X) w0 w' J S LM (cond (L 19) S2 S) LM := by have h := HW; simp only [hL] at h; exact h
   refine (HSP.out _ _ HW0).mono ?_
   rintro e w3 ⟨rfl, hz3⟩
   refine hK _ _ ?_ ?_ hz3.out
   ·simp [upd, e0, e2, e4, e6, e8]
   ·exact rfl
  refine autoC_op 30 [] (by kernel_rfl) (fun L y w' hL hC HW hd K hK => ?_) ?_
  ·go_simp
   refine hK _ _ ?_ ?_ HW
   ·simp [upd]
   ·exact rfl
  refine autoC_op 31 [] (by kernel_rfl) (fun L y w' hL hC HW hd K hK => ?_) ?_
  ·go_simp
   refine hK _ _ ?_ ?_ HW
   ·simp [upd]
   ·exact rfl
  refine autoC_op 32 [11] (by kernel_rfl) (fun L y w' hL hC HW hd K hK => ?_) ?_
  ·have e11 := hd_nth (hd 11 (by simp)) rfl
   have xb := HW.blk (x := ab) (by simp) HA.out
   have xl := xb.lt
   have a1 := xb.cell (j := 1) rfl
   have a2 := xb.cell (j := 2) rfl
   have a3 := xb.cell (j := 3) rfl
   go_simp
   refine hK _ _ ?_ ?_ HW
   ·simp [upd, e11]
   ·exact rfl
  refine autoC_op 33 [] (by kernel_rfl) (fun L y w' hL hC HW hd K hK => ?_) ?_
  ·go_simp
   refine hK _ _ ?_ ?_ HW
   ·simp [upd]
   ·exact rfl
  refine autoC_op 34 [13] (by kernel_rfl) (fun L y w' hL hC HW hd K hK => ?_) ?_
  ·have e13 := hd_nth (hd 13 (by simp)) rfl
   have xb := HW.blk (x := ab) (by simp) HA.out
   have xl := xb.lt
   have a4 := xb.cell (j := 4) rfl
   go_simp
   refine hK _ _ ?_ ?_ HW
   ·simp [upd, e13]
   ·exact rfl
  refine autoC_op 35 [] (by kernel_rfl) (fun L y w' hL hC HW hd K hK => ?_) ?_
  ·go_simp
   refine hK _ _ ?_ ?_ HW
   ·simp [upd]
   ·exact rfl
  refine autoC_op 36 [15] (by kernel_rfl) (fun L y w' hL hC HW hd K hK => ?_) ?_
  ·have e15 := hd_nth (hd 15 (by simp)) rfl
   have xb := HW.blk (x := ab) (by simp) HA.out
   have xl := xb.lt
   have a5 := xb.cell (j := 5) rfl
   go_simp
   refine hK _ _ ?_ ?_ HW
   ·simp [upd, e15]
   ·exact rfl
  refine autoC_op 37 [] (by kernel_rfl) (fun L y w' hL hC HW hd K hK => ?_) ?_
  ·go_simp
   refine hK _ _ ?_ ?_ HW
   ·simp [upd]
   ·exact rfl
  refine autoC_op 38 [17] (by kernel_rfl) (fun L y w' hL hC HW hd K hK => ?_) ?_
  ·have e17 := hd_nth (hd 17 (by simp)) rfl
   have xb := HW.blk (x := ab) (by simp) HA.out
   have xl := xb.lt
   have a7 := xb.cell (j := 7) rfl
   go_simp
   refine hK _ _ ?_ ?_ HW
   ·simp [upd, e17]
   ·exact rfl
  refine autoC_op 39 [10, 12, 14, 16, 18, 9] (by kernel_rfl) (fun L y w' hL hC HW hd K hK => ?_) ?_
  ·have e9 := hd_nth (hd 9 (by simp)) rfl
   have e10 := hd_nth (hd 10 (by simp)) rfl
   have e12 := hd_nth (hd 12 (by simp)) rfl
   have e14 := hd_nth (hd 14 (by simp)) rfl
   have e16 := hd_nth (hd 16 (by simp)) rfl
   have e18 := hd_nth (hd 18 (by simp)) rfl
   go_simp
   have HW0 : MZ PM U ([ab] ++ X) w0 w' J (cond (L 9) S2 S) LM S LM := by have h := HW; simp only [hL] at h; exact h
   refine (HSD.out _ _ HW0).mono ?_
   rintro e w3 ⟨rfl, hz3⟩
   refine hK _ _ ?_ ?_ hz3.out
   ·simp [upd, e9, e10, e12, e14, e16, e18]
   ·exact rfl
  refine autoC_op 40 [9, 19] (by kernel_rfl) (fun L y w' hL hC HW hd K hK => ?_) ?_
  ·have e9 := hd_nth (hd 9 (by simp)) rfl
   have e19 := hd_nth (hd 19 (by simp)) rfl
   go_simp
   refine hK _ _ ?_ ?_ HW
   ·simp [upd, e9, e19]
   ·exact rfl
  refine autoL_last fun L y w' hLs HW hd K hK => ?_
  have e0 := hd_nth (hd 0 (by omega)) rfl
  have e1 := hd_nth (hd 1 (by omega)) rfl
  have e2 := hd_nth (hd 2 (by omega)) rfl
  have e3 := hd_nth (hd 3 (by omega)) rfl
  have e4 := hd_nth (hd 4 (by omega)) rfl
  have e5 := hd_nth (hd 5 (by omega)) rfl
  have e6 := hd_nth (hd 6 (by omega)) rfl
  have e7 := hd_nth (hd 7 (by omega)) rfl
  have e8 := hd_nth (hd 8 (by omega)) rfl
  have e9 := hd_nth (hd 9 (by omega)) rfl
  have e10 := hd_nth (hd 10 (by omega)) rfl
  have e11 := hd_nth (hd 11 (by omega)) rfl
  have e12 := hd_nth (hd 12 (by omega)) rfl
  have e13 := hd_nth (hd 13 (by omega)) rfl
  have e14 := hd_nth (hd 14 (by omega)) rfl
  have e15 := hd_nth (hd 15 (by omega)) rfl
  have e16 := hd_nth (hd 16 (by omega)) rfl
  have e17 := hd_nth (hd 17 (by omega)) rfl
  have e18 := hd_nth (hd 18 (by omega)) rfl
  have e19 := hd_nth (hd 19 (by omega)) rfl
  have e20 := hd_nth (hd 20 (by omega)) rfl
  have HWF := Lib.hid (show MZ PM U ([ab] ++ X) w0 w' J S2 LM S2 LM by have h := HW; simp only [hLs 9 (by omega), hLs 19 (by omega)] at h; exact h)
  go_simp
  refine hK _ _ ?_
  clear hd hK K hLs HW
  clear HE HSP HSD
  go_wp2
  go_ret
  exact ⟨rfl, Lib.hid (by rw [HS2.out]; exact HV.out _ _ _ HWF.out)⟩
theorem do_vsave20 (rt va wd kn x : Int) (on us : Bool) (z0 : 0 ≤ va) (z1 : va < 4294967296) (x0 : 0 ≤ x) (x1 : x < 4294967296) (w : World) (h : MZ PM V X w0 w J S LM S LM) :
  Calls Tryz.prog 8 #[.pointer (some ⟨J.u, 0, none⟩), .pointer (some ⟨J.b, 0, none⟩), .pointer (some ⟨J.g, 0, none⟩), .agg #[.int .i64 1, .bool on, .int .i64 rt, .bool us, .int .u32 va, .int .i64 wd, .int .i64 kn, .int .u32 x]] w fun e w' => e = .returned (.bool true) ∧ Hid (MZ PM V X w0 w' J (saveS 12 S LM va wd x) LM (saveS 12 S LM va wd x) LM) := by
 obtain ⟨U, hU⟩ : ∃ U, U = w.alloc (.cells #[.int .i64 1, .bool on, .int .i64 rt, .bool us, .int .u32 va, .int .i64 wd, .int .i64 kn, .int .u32 x] 33) := ⟨_, rfl⟩
 have hB : Below w.heap.size w U := by rw [hU]; exact (Below.refl _ _).alloc (Nat.le_refl _) _
 have hA : Blk U w.heap.size 33 [.int .i64 1, .bool on, .int .i64 rt, .bool us, .int .u32 va, .int .i64 wd, .int .i64 kn, .int .u32 x] := by rw [hU]; exact Blk.new w _ _
 have HE := Lib.hid (h.enter C hB [w.heap.size] (fun y hy => by simp at hy; subst hy; exact ⟨Nat.le_refl _, hA.lt⟩))
 have HV : Hid (∀ (w' : World) (S1 : List Int) (L1 : List Gm.Pl), MZ PM U ([w.heap.size] ++ X) w0 w' J S1 L1 S1 L1 → MZ PM V X w0 w' J S1 L1 S1 L1) := Lib.hid fun w' S1 L1 h' => h.leave hB h'
 have HC := Lib.hid C
 have HU := Lib.hid hU
 have HA := Lib.hid hA
 clear hU hB hA h C
 go_enter Tryz.func8, Tryz.ntmps8
 go_upto_region 1 with fail
 rw [← HU.out]
 clear HU
 generalize w.heap.size = ab at HE HV HA ⊢
 have a0 := HA.out.cell (j := 0) rfl
 have a4 := HA.out.cell (j := 4) rfl
 have al := HA.out.lt
 obtain ⟨S2, hS2⟩ : ∃ S2, saveS 12 S LM va wd x = S2 := ⟨_, rfl⟩
 obtain ⟨c, hc⟩ : ∃ c, findF 12 LM va wd 2 = c := ⟨_, rfl⟩
 have HSP : Hid (∀ (Sd : List Int) (W : World), MZ PM U ([ab] ++ X) w0 W J S LM Sd LM → Calls Tryz.prog 32 #[.pointer (some ⟨J.b, 0, none⟩), .int .u32 va, .int .i64 wd, .int .u32 x] W fun e w' => e = .returned (.int .i64 c) ∧ Hid (MZ PM U ([ab] ++ X) w0 w' J S2 LM Sd LM)) := Lib.hid fun Sd W hW => by
  have := mzVSave HC.out hW va wd x z0 z1 x0 x1
  rw [hS2, hc] at this
  exact this
 have HSD : Hid (∀ (Sp : List Int) (W : World), MZ PM U ([ab] ++ X) w0 W J Sp LM S LM → Calls Tryz.prog 33 #[.pointer (some ⟨J.g, 0, none⟩), .int .u32 va, .int .i64 wd, .int .u32 x] W fun e w' => e = .returned (.int .i64 c) ∧ Hid (MZ PM U ([ab] ++ X) w0 w' J Sp LM S2 LM)) := Lib.hid fun Sp W hW => by
  have := dVSave HC.out hW va wd x z0 z1 x0 x1
  rw [hS2, hc] at this
  exact this
 have HS2 := Lib.hid hS2
 clear hS2 hc
 go_upto_region 6 with fail
 clear a0 a4 al
 apply wp_region_autoL [43, 44, 45, 46, 47, 48, 49, 50, 51, 52, 53, 54, 55, 56, 57, 58, 59] [_, _, _, _, _, _, _, _, _, _, _, _, _, _, _, _, _] (fun L_ W' => MZ PM U ([ab] ++ X) w0 W' J (cond (L_ 7) S2 S) LM (cond (L_ 15) S2 S) LM)
 case hm => kernel_rfl
 case hT => intro y; simp only [setAll, List.setIfInBounds_toArray, List.set_cons_succ, List.set_cons_zero]; exact rfl
 case hok => kernel_rfl
 case hn => decide
 case hw => exact (fun L_ h0 => by simp only [h0 7 (by decide), h0 15 (by decide)]; exact HE.out.more HC.out ((Below.refl _ _).drew))
 case hs =>
  refine autoC_op 43 [] (by kernel_rfl) (fun L y w' hL hC HW hd K hK => ?_) ?_
  ·go_simp
   refine hK _ _ ?_ ?_ HW
   ·simp [upd]
   ·exact rfl
  refine autoC_op 44 [] (by kernel_rfl) (fun L y w' hL hC HW hd K hK => ?_) ?_
  ·go_simp
   refine hK _ _ ?_ ?_ HW
   ·simp [upd]
   ·exact rfl
  refine autoC_op 45 [1] (by kernel_rfl) (fun L y w' hL hC HW hd K hK => ?_) ?_
  ·have e1 := hd_nth (hd 1 (by simp)) rfl
   have xb := HW.blk (x := ab) (by simp) HA.out
   have xl := xb.lt
   have a4 := xb.cell (j := 4) rfl
   go_simp
   refine hK _ _ ?_ ?_ HW
   ·simp [upd, e1]
   ·exact rfl
  refine autoC_op 46 [] (by kernel_rfl) (fun L y w' hL hC HW hd K hK => ?_) ?_
  ·go_simp
   refine hK _ _ ?_ ?_ HW
   ·simp [upd]
   ·exact rfl
  refine autoC_op 47 [3] (by kernel_rfl) (fun L y w' hL hC HW hd K hK => ?_) ?_
  ·have e3 := hd_nth (hd 3 (by simp)) rfl
   have xb := HW.blk (x := ab) (by simp) HA.out
   have xl := xb.lt
   have a5 := xb.cell (j := 5) rfl
   go_simp
   refine hK _ _ ?_ ?_ HW
   ·simp [upd, e3]
   ·exact rfl
  refine autoC_op 48 [] (by kernel_rfl) (fun L y w' hL hC HW hd K hK => ?_) ?_
  ·go_simp
   refine hK _ _ ?_ ?_ HW
   ·simp [upd]
   ·exact rfl
  refine autoC_op 49 [5] (by kernel_rfl) (fun L y w' hL hC HW hd K hK => ?_) ?_
  ·have e5 := hd_nth (hd 5 (by simp)) rfl
   have xb := HW.blk (x := ab) (by simp) HA.out
   have xl := xb.lt
   have a7 := xb.cell (j := 7) rfl
   go_simp
   refine hK _ _ ?_ ?_ HW
   ·simp [upd, e5]
   ·exact rfl
  refine autoC_op 50 [0, 2, 4, 6] (by kernel_rfl) (fun L y w' hL hC HW hd K hK => ?_) ?_
  ·have e0 := hd_nth (hd 0 (by simp)) rfl
   have e2 := hd_nth (hd 2 (by simp)) rfl
   have e4 := hd_nth (hd 4 (by simp)) rfl
   have e6 := hd_nth (hd 6 (by simp)) rfl
   go_simp
   have HW0 : MZ PM U ([ab] ++ X) w0 w' J S LM (cond (L 15) S2 S) LM := by have h := HW; simp only [hL] at h; exact h
   refine (HSP.out _ _ HW0).mono ?_
   rintro e w3 ⟨rfl, hz3⟩
   refine hK _ _ ?_ ?_ hz3.out
   ·simp [upd, e0, e2, e4, e6]
   ·exact rfl
  refine autoC_op 51 [] (by kernel_rfl) (fun L y w' hL hC HW hd K hK => ?_) ?_
  ·go_simp
   refine hK _ _ ?_ ?_ HW
   ·simp [upd]
   ·exact rfl
  refine autoC_op 52 [] (by kernel_rfl) (fun L y w' hL hC HW hd K hK => ?_) ?_
  ·go_simp
   refine hK _ _ ?_ ?_ HW
   ·simp [upd]
   ·exact rfl
  refine autoC_op 53 [9] (by kernel_rfl) (fun L y w' hL hC HW hd K hK => ?_) ?_
  ·have e9 := hd_nth (hd 9 (by simp)) rfl
   have xb := HW.blk (x := ab) (by simp) HA.out
   have xl := xb.lt
   have a4 := xb.cell (j := 4) rfl
   go_simp
   refine hK _ _ ?_ ?_ HW
   ·simp [upd, e9]
   ·exact rfl
  refine autoC_op 54 [] (by kernel_rfl) (fun L y w' hL hC HW hd K hK => ?_) ?_
  ·go_simp
   refine hK _ _ ?_ ?_ HW
   ·simp [upd]
   ·exact rfl
  refine autoC_op 55 [11] (by kernel_rfl) (fun L y w' hL hC HW hd K hK => ?_) ?_
  ·have e11 := hd_nth (hd 11 (by simp)) rfl
   have xb := HW.blk (x := ab) (by simp) HA.out
   have xl := xb.lt
   have a5 := xb.cell (j := 5) rfl
   go_simp
   refine hK _ _ ?_ ?_ HW
   ·simp [upd, e11]
   ·exact rfl
  refine autoC_op 56 [] (by kernel_rfl) (fun L y w' hL hC HW hd K hK => ?_) ?_
  ·go_simp
   refine hK _ _ ?_ ?_ HW
   ·simp [upd]
   ·exact rfl
  refine autoC_op 57 [13] (by kernel_rfl) (fun L y w' hL hC HW hd K hK => ?_) ?_
  ·have e13 := hd_nth (hd 13 (by simp)) rfl
   have xb := HW.blk (x := ab) (by simp) HA.out
   have xl := xb.lt
   have a7 := xb.cell (j := 7) rfl
   go_simp
   refine hK _ _ ?_ ?_ HW
   ·simp [upd, e13]
   ·exact rfl
  refine autoC_op 58 [8, 10, 12, 14, 7] (by kernel_rfl) (fun L y w' hL hC HW hd K hK => ?_) ?_
  ·have e7 := hd_nth (hd 7 (by simp)) rfl
   have e8 := hd_nth (hd 8 (by simp)) rfl
   have e10 := hd_nth (hd 10 (by simp)) rfl
   have e12 := hd_nth (hd 12 (by simp)) rfl
   have e14 := hd_nth (hd 14 (by simp)) rfl
   go_simp
   have HW0 : MZ PM U ([ab] ++ X) w0 w' J (cond (L 7) S2 S) LM S LM := by have h := HW; simp only [hL] at h; exact h
   refine (HSD.out _ _ HW0).mono ?_
   rintro e w3 ⟨rfl, hz3⟩
   refine hK _ _ ?_ ?_ hz3.out
   ·simp [upd, e7, e8, e10, e12, e14]
   ·exact rfl
  refine autoC_op 59 [7, 15] (by kernel_rfl) (fun L y w' hL hC HW hd K hK => ?_) ?_
  ·have e7 := hd_nth (hd 7 (by simp)) rfl
   have e15 := hd_nth (hd 15 (by simp)) rfl
   go_simp
   refine hK _ _ ?_ ?_ HW
   ·simp [upd, e7, e15]
   ·exact rfl
  refine autoL_last fun L y w' hLs HW hd K hK => ?_
  have e0 := hd_nth (hd 0 (by omega)) rfl
  have e1 := hd_nth (hd 1 (by omega)) rfl
  have e2 := hd_nth (hd 2 (by omega)) rfl
  have e3 := hd_nth (hd 3 (by omega)) rfl
  have e4 := hd_nth (hd 4 (by omega)) rfl
  have e5 := hd_nth (hd 5 (by omega)) rfl
  have e6 := hd_nth (hd 6 (by omega)) rfl
  have e7 := hd_nth (hd 7 (by omega)) rfl
  have e8 := hd_nth (hd 8 (by omega)) rfl
  have e9 := hd_nth (hd 9 (by omega)) rfl
  have e10 := hd_nth (hd 10 (by omega)) rfl
  have e11 := hd_nth (hd 11 (by omega)) rfl
  have e12 := hd_nth (hd 12 (by omega)) rfl
  have e13 := hd_nth (hd 13 (by omega)) rfl
  have e14 := hd_nth (hd 14 (by omega)) rfl
  have e15 := hd_nth (hd 15 (by omega)) rfl
  have e16 := hd_nth (hd 16 (by omega)) rfl
  have HWF := Lib.hid (show MZ PM U ([ab] ++ X) w0 w' J S2 LM S2 LM by have h := HW; simp only [hLs 7 (by omega), hLs 15 (by omega)] at h; exact h)
  go_simp
  refine hK _ _ ?_
  clear hd hK K hLs HW
  clear HE HSP HSD
  go_wp2
  go_ret
  exact ⟨rfl, Lib.hid (by rw [HS2.out]; exact HV.out _ _ _ HWF.out)⟩
theorem do_drop20 (rt va wd kn x : Int) (on us : Bool) (z0 : 0 ≤ va) (z1 : va < 4294967296) (x0 : 0 ≤ x) (x1 : x < 4294967296) (w : World) (h : MZ PM V X w0 w J S LM S LM) :
  Calls Tryz.prog 8 #[.pointer (some ⟨J.u, 0, none⟩), .pointer (some ⟨J.b, 0, none⟩), .pointer (some ⟨J.g, 0, none⟩), .agg #[.int .i64 2, .bool on, .int .i64 rt, .bool us, .int .u32 va, .int .i64 wd, .int .i64 kn, .int .u32 x]] w fun e w' => e = .returned (.bool true) ∧ Hid (MZ PM V X w0 w' J S (Gm.drL LM (va / 64 % 12)) S (Gm.drL LM (va / 64 % 12))) := by
 obtain ⟨U, hU⟩ : ∃ U, U = w.alloc (.cells #[.int .i64 2, .bool on, .int .i64 rt, .bool us, .int .u32 va, .int .i64 wd, .int .i64 kn, .int .u32 x] 33) := ⟨_, rfl⟩
 have hB : Below w.heap.size w U := by rw [hU]; exact (Below.refl _ _).alloc (Nat.le_refl _) _
 have hA : Blk U w.heap.size 33 [.int .i64 2, .bool on, .int .i64 rt, .bool us, .int .u32 va, .int .i64 wd, .int .i64 kn, .int .u32 x] := by rw [hU]; exact Blk.new w _ _
 have HE := Lib.hid (h.enter C hB [w.heap.size] (fun y hy => by simp at hy; subst hy; exact ⟨Nat.le_refl _, hA.lt⟩))
 have HV : Hid (∀ (w' : World) (S1 : List Int) (L1 : List Gm.Pl), MZ PM U ([w.heap.size] ++ X) w0 w' J S1 L1 S1 L1 → MZ PM V X w0 w' J S1 L1 S1 L1) := Lib.hid fun w' S1 L1 h' => h.leave hB h'
 have HC := Lib.hid C
 have HU := Lib.hid hU
 have HA := Lib.hid hA
 clear hU hB hA h C
 go_enter Tryz.func8, Tryz.ntmps8
 go_upto_region 1 with fail
 rw [← HU.out]
 clear HU
 generalize w.heap.size = ab at HE HV HA ⊢
 have a0 := HA.out.cell (j := 0) rfl
 have a4 := HA.out.cell (j := 4) rfl
 have al := HA.out.lt
 have p0 : 0 ≤ va / 64 % 12 := by omega
 have p1 : va / 64 % 12 < 12 := by omega
 obtain ⟨p, hp⟩ : ∃ p, va / 64 % 12 = p := ⟨_, rfl⟩
 rw [hp] at p0 p1
 have HPE := Lib.hid hp
 clear hp
 go_upto_region 8 with fail
 clear a0 a4 al
 rw [HPE.out]
 go_wp2_with fail
 refine (mzMap HC.out HE.out).mono ?_
 rintro e w1 ⟨rfl, rfl⟩
 go_wp2_with fail
 refine (mzDrop HC.out HE.out p).mono ?_
 rintro e w2 ⟨rfl, hd2⟩
 have c1 := hd2.out.dv.elim fun D hd => hd.cell1
 have b1 := hd2.out.dv.elim fun D hd => hd.lt
 go_wp2_with fail
 refine (dDrop p hd2.out).mono ?_
 rintro e w3 ⟨rfl, hd3⟩
 clear c1 b1
 have t1 : (Gm.drE LM p == Gm.drE LM p) = true := by simp
 go_wp2_with fail
 refine (mzGone HC.out p p0 p1 hd3.out).mono ?_
 rintro e w4 ⟨rfl, hz4⟩
 go_wp2
 go_ret
 exact ⟨rfl, Lib.hid (by rw [HPE.out]; exact HV.out _ _ _ hz4.out)⟩
theorem do_set20 (rt va wd kn x : Int) (on us : Bool) (z0 : 0 ≤ va) (z1 : va < 4294967296) (x0 : 0 ≤ x) (x1 : x < 4294967296) (w : World) (h : MZ PM V X w0 w J S LM S LM) :
  Calls Tryz.prog 8 #[.pointer (some ⟨J.u, 0, none⟩), .pointer (some ⟨J.b, 0, none⟩), .pointer (some ⟨J.g, 0, none⟩), .agg #[.int .i64 3, .bool on, .int .i64 rt, .bool us, .int .u32 va, .int .i64 wd, .int .i64 kn, .int .u32 x]] w fun e w' => e = .returned (.bool true) ∧ Hid (MZ PM V X w0 w' J S (Gm.setL LM (va / 64 % 12) (placeP (va / 64 % 12))) S (Gm.setL LM (va / 64 % 12) (placeP (va / 64 % 12)))) := by
 obtain ⟨U, hU⟩ : ∃ U, U = w.alloc (.cells #[.int .i64 3, .bool on, .int .i64 rt, .bool us, .int .u32 va, .int .i64 wd, .int .i64 kn, .int .u32 x] 33) := ⟨_, rfl⟩
 have hB : Below w.heap.size w U := by rw [hU]; exact (Below.refl _ _).alloc (Nat.le_refl _) _
 have hA : Blk U w.heap.size 33 [.int .i64 3, .bool on, .int .i64 rt, .bool us, .int .u32 va, .int .i64 wd, .int .i64 kn, .int .u32 x] := by rw [hU]; exact Blk.new w _ _
 have HE := Lib.hid (h.enter C hB [w.heap.size] (fun y hy => by simp at hy; subst hy; exact ⟨Nat.le_refl _, hA.lt⟩))
 have HV : Hid (∀ (w' : World) (S1 : List Int) (L1 : List Gm.Pl), MZ PM U ([w.heap.size] ++ X) w0 w' J S1 L1 S1 L1 → MZ PM V X w0 w' J S1 L1 S1 L1) := Lib.hid fun w' S1 L1 h' => h.leave hB h'
 have HC := Lib.hid C
 have HU := Lib.hid hU
 have HA := Lib.hid hA
 clear hU hB hA h C
 go_enter Tryz.func8, Tryz.ntmps8
 go_upto_region 1 with fail
 rw [← HU.out]
 clear HU
 generalize w.heap.size = ab at HE HV HA ⊢
 have a0 := HA.out.cell (j := 0) rfl
 have a4 := HA.out.cell (j := 4) rfl
 have al := HA.out.lt
 have p0 : 0 ≤ va / 64 % 12 := by omega
 have p1 : va / 64 % 12 < 12 := by omega
 obtain ⟨p, hp⟩ : ∃ p, va / 64 % 12 = p := ⟨_, rfl⟩
 rw [hp] at p0 p1
 have HPE := Lib.hid hp
 clear hp
 go_upto_region 11 with fail
 clear a0 a4 al
 rw [HPE.out]
 obtain ⟨L2, hL2⟩ : ∃ L2, Gm.setL LM p (placeP p) = L2 := ⟨_, rfl⟩
 obtain ⟨c, hc⟩ : ∃ c, Gm.setE LM p (placeP p) = c := ⟨_, rfl⟩
 have HPL : Hid (∀ W, Calls Tryz.prog 29 #[.int .i64 p] W fun e w' => e = .returned (Gm.plV (placeP p)) ∧ Below W.heap.size W w') := Lib.hid fun W => place20_any p p0 p1 W
 have HSP : Hid (∀ (Ld : List Gm.Pl) (W : World), MZ PM U ([ab] ++ X) w0 W J S LM S Ld → Calls Tryz.prog 28 #[.pointer (some ⟨J.m, 0, none⟩), .int .i64 p, Gm.plV (placeP p)] W fun e w' => e = .returned (.int .i64 c) ∧ Hid (MZ PM U ([ab] ++ X) w0 w' J S L2 S Ld)) := Lib.hid fun Ld W hW => by
  have := mzSet HC.out hW p p0 p1
  rw [hL2, hc] at this
  exact this
 have HSD : Hid (∀ (Lp : List Gm.Pl) (W : World), MZ PM U ([ab] ++ X) w0 W J S Lp S LM → Calls Tryz.prog 30 #[.pointer (some ⟨J.q, 0, none⟩), .int .i64 p, Gm.plV (placeP p)] W fun e w' => e = .returned (.int .i64 c) ∧ Hid (MZ PM U ([ab] ++ X) w0 w' J S Lp S L2)) := Lib.hid fun Lp W hW => by
  have := dSet HC.out hW p (placeP p)
  rw [hL2, hc] at this
  exact this
 have HL2 := Lib.hid hL2
 unfold Gm.plV at HPL HSP HSD
 generalize (placeP p).1 = pf at HPL HSP HSD
 generalize (placeP p).2 = pr at HPL HSP HSD
 clear hL2 hc
 apply wp_region_autoL [82, 83, 84, 85, 86, 87, 88, 89, 90, 91, 92, 93, 94, 95, 96] [_, _, _, _, _, _, _, _, _, _, _, _, _, _, _] (fun L_ W' => MZ PM U ([ab] ++ X) w0 W' J S (cond (L_ 5) L2 LM) S (cond (L_ 13) L2 LM))
 case hm => kernel_rfl
 case hT => intro y; simp only [setAll, List.setIfInBounds_toArray, List.set_cons_succ, List.set_cons_zero]; exact rfl
 case hok => kernel_rfl
 case hn => decide
 case hw => exact (fun L_ h0 => by simp only [h0 5 (by decide), h0 13 (by decide)]; exact HE.out.more HC.out ((Below.refl _ _).drew))
 case hs =>
  refine autoC_op 82 [] (by kernel_rfl) (fun L y w' hL hC HW hd K hK => ?_) ?_
  ·go_simp
   refine hK _ _ ?_ ?_ HW
   ·simp [upd]
   ·exact rfl
  refine autoC_op 83 [0] (by kernel_rfl) (fun L y w' hL hC HW hd K hK => ?_) ?_
  ·have e0 := hd_nth (hd 0 (by simp)) rfl
   go_simp
   refine (mzMap HC.out HW).mono ?_
   rintro e w3 ⟨rfl, rfl⟩
   refine hK _ _ ?_ ?_ HW
   ·simp [upd, e0]
   ·exact rfl
  refine autoC_op 84 [] (by kernel_rfl) (fun L y w' hL hC HW hd K hK => ?_) ?_
  ·go_simp
   refine hK _ _ ?_ ?_ HW
   ·simp [upd]
   ·exact rfl
  refine autoC_op 85 [] (by kernel_rfl) (fun L y w' hL hC HW hd K hK => ?_) ?_
  ·go_simp
   refine hK _ _ ?_ ?_ HW
   ·simp [upd]
   ·exact rfl
  refine autoC_op 86 [3, 1] (by kernel_rfl) (fun L y w' hL hC HW hd K hK => ?_) ?_
  ·have e1 := hd_nth (hd 1 (by simp)) rfl
   have e3 := hd_nth (hd 3 (by simp)) rfl
   go_simp
   refine (HPL.out _).mono ?_
   rintro e w3 ⟨rfl, hb3⟩
   refine hK _ _ ?_ ?_ (HW.more HC.out hb3)
   ·simp [upd, e1, e3]
   ·exact rfl
  refine autoC_op 87 [1, 2, 4, 4] (by kernel_rfl) (fun L y w' hL hC HW hd K hK => ?_) ?_
  ·have e1 := hd_nth (hd 1 (by simp)) rfl
   have e2 := hd_nth (hd 2 (by simp)) rfl
   have e4 := hd_nth (hd 4 (by simp)) rfl
   go_simp
   have HW0 : MZ PM U ([ab] ++ X) w0 w' J S LM S (cond (L 13) L2 LM) := by have h := HW; simp only [hL] at h; exact h
   refine (HSP.out _ _ HW0).mono ?_
   rintro e w3 ⟨rfl, hz3⟩
   refine hK _ _ ?_ ?_ hz3.out
   ·simp [upd, e1, e2, e4]
   ·exact rfl
  refine autoC_op 88 [] (by kernel_rfl) (fun L y w' hL hC HW hd K hK => ?_) ?_
  ·go_simp
   refine hK _ _ ?_ ?_ HW
   ·simp [upd]
   ·exact rfl
  refine autoC_op 89 [6] (by kernel_rfl) (fun L y w' hL hC HW hd K hK => ?_) ?_
  ·have e6 := hd_nth (hd 6 (by simp)) rfl
   go_simp
   refine hK _ _ ?_ ?_ HW
   ·simp [upd, e6]
   ·exact rfl
  refine autoC_op 90 [7] (by kernel_rfl) (fun L y w' hL hC HW hd K hK => ?_) ?_
  ·have e7 := hd_nth (hd 7 (by simp)) rfl
   go_simp
   refine hK _ _ ?_ ?_ HW
   ·simp [upd, e7]
   ·exact rfl
  refine autoC_op 91 [8] (by kernel_rfl) (fun L y w' hL hC HW hd K hK => ?_) ?_
  ·have e8 := hd_nth (hd 8 (by simp)) rfl
   have c1 := HW.dv.elim fun D hd => hd.cell1
   have b1 := HW.dv.elim fun D hd => hd.lt
   go_simp
   refine hK _ _ ?_ ?_ HW
   ·simp [upd, e8]
   ·exact rfl
  refine autoC_op 92 [] (by kernel_rfl) (fun L y w' hL hC HW hd K hK => ?_) ?_
  ·go_simp
   refine hK _ _ ?_ ?_ HW
   ·simp [upd]
   ·exact rfl
  refine autoC_op 93 [] (by kernel_rfl) (fun L y w' hL hC HW hd K hK => ?_) ?_
  ·go_simp
   refine hK _ _ ?_ ?_ HW
   ·simp [upd]
   ·exact rfl
  refine autoC_op 94 [11, 5] (by kernel_rfl) (fun L y w' hL hC HW hd K hK => ?_) ?_
  ·have e5 := hd_nth (hd 5 (by simp)) rfl
   have e11 := hd_nth (hd 11 (by simp)) rfl
   go_simp
   refine (HPL.out _).mono ?_
   rintro e w3 ⟨rfl, hb3⟩
   refine hK _ _ ?_ ?_ (HW.more HC.out hb3)
   ·simp [upd, e5, e11]
   ·exact rfl
  refine autoC_op 95 [9, 10, 12, 12] (by kernel_rfl) (fun L y w' hL hC HW hd K hK => ?_) ?_
  ·have e9 := hd_nth (hd 9 (by simp)) rfl
   have e10 := hd_nth (hd 10 (by simp)) rfl
   have e12 := hd_nth (hd 12 (by simp)) rfl
   go_simp
   have HW0 : MZ PM U ([ab] ++ X) w0 w' J S (cond (L 5) L2 LM) S LM := by have h := HW; simp only [hL] at h; exact h
   refine (HSD.out _ _ HW0).mono ?_
   rintro e w3 ⟨rfl, hz3⟩
   refine hK _ _ ?_ ?_ hz3.out
   ·simp [upd, e9, e10, e12]
   ·exact rfl
  refine autoC_op 96 [5, 13] (by kernel_rfl) (fun L y w' hL hC HW hd K hK => ?_) ?_
  ·have e5 := hd_nth (hd 5 (by simp)) rfl
   have e13 := hd_nth (hd 13 (by simp)) rfl
   go_simp
   refine hK _ _ ?_ ?_ HW
   ·simp [upd, e5, e13]
   ·exact rfl
  refine autoL_last fun L y w' hLs HW hd K hK => ?_
  have e0 := hd_nth (hd 0 (by omega)) rfl
  have e1 := hd_nth (hd 1 (by omega)) rfl
  have e2 := hd_nth (hd 2 (by omega)) rfl
  have e3 := hd_nth (hd 3 (by omega)) rfl
  have e4 := hd_nth (hd 4 (by omega)) rfl
  have e5 := hd_nth (hd 5 (by omega)) rfl
  have e6 := hd_nth (hd 6 (by omega)) rfl
  have e7 := hd_nth (hd 7 (by omega)) rfl
  have e8 := hd_nth (hd 8 (by omega)) rfl
  have e9 := hd_nth (hd 9 (by omega)) rfl
  have e10 := hd_nth (hd 10 (by omega)) rfl
  have e11 := hd_nth (hd 11 (by omega)) rfl
  have e12 := hd_nth (hd 12 (by omega)) rfl
  have e13 := hd_nth (hd 13 (by omega)) rfl
  have e14 := hd_nth (hd 14 (by omega)) rfl
  have HWF := Lib.hid (show MZ PM U ([ab] ++ X) w0 w' J S L2 S L2 by have h := HW; simp only [hLs 5 (by omega), hLs 13 (by omega)] at h; exact h)
  go_simp
  refine hK _ _ ?_
  clear hd hK K hLs HW
  clear HE HSP HSD HPL
  go_wp2
  go_ret
  exact ⟨rfl, Lib.hid (by rw [HPE.out, HL2.out]; exact HV.out _ _ _ HWF.out)⟩
theorem do_flush20 (rt va wd kn x : Int) (on us : Bool) (z0 : 0 ≤ va) (z1 : va < 4294967296) (x0 : 0 ≤ x) (x1 : x < 4294967296) (w : World) (h : MZ PM V X w0 w J S LM S LM) :
  Calls Tryz.prog 8 #[.pointer (some ⟨J.u, 0, none⟩), .pointer (some ⟨J.b, 0, none⟩), .pointer (some ⟨J.g, 0, none⟩), .agg #[.int .i64 4, .bool on, .int .i64 rt, .bool us, .int .u32 va, .int .i64 wd, .int .i64 kn, .int .u32 x]] w fun e w' => e = .returned (.bool true) ∧ Hid (MZ PM V X w0 w' J S LM S LM) := by
 obtain ⟨U, hU⟩ : ∃ U, U = w.alloc (.cells #[.int .i64 4, .bool on, .int .i64 rt, .bool us, .int .u32 va, .int .i64 wd, .int .i64 kn, .int .u32 x] 33) := ⟨_, rfl⟩
 have hB : Below w.heap.size w U := by rw [hU]; exact (Below.refl _ _).alloc (Nat.le_refl _) _
 have hA : Blk U w.heap.size 33 [.int .i64 4, .bool on, .int .i64 rt, .bool us, .int .u32 va, .int .i64 wd, .int .i64 kn, .int .u32 x] := by rw [hU]; exact Blk.new w _ _
 have HE := Lib.hid (h.enter C hB [w.heap.size] (fun y hy => by simp at hy; subst hy; exact ⟨Nat.le_refl _, hA.lt⟩))
 have HV : Hid (∀ (w' : World) (S1 : List Int) (L1 : List Gm.Pl), MZ PM U ([w.heap.size] ++ X) w0 w' J S1 L1 S1 L1 → MZ PM V X w0 w' J S1 L1 S1 L1) := Lib.hid fun w' S1 L1 h' => h.leave hB h'
 have HC := Lib.hid C
 have HU := Lib.hid hU
 have HA := Lib.hid hA
 clear hU hB hA h C
 go_enter Tryz.func8, Tryz.ntmps8
 go_upto_region 1 with fail
 rw [← HU.out]
 clear HU
 generalize w.heap.size = ab at HE HV HA ⊢
 have a0 := HA.out.cell (j := 0) rfl
 have a4 := HA.out.cell (j := 4) rfl
 have al := HA.out.lt
 go_wp2_with fail
 refine (mzFlush HC.out HE.out).mono ?_
 rintro e w2 ⟨⟨n, rfl⟩, hz2⟩
 clear a0 a4 al
 go_wp2
 go_ret
 exact ⟨rfl, Lib.hid (HV.out _ _ _ hz2.out)⟩
theorem do_none20 (kd rt va wd kn x : Int) (on us : Bool) (hk : kd ≠ 0 ∧ kd ≠ 1 ∧ kd ≠ 2 ∧ kd ≠ 3 ∧ kd ≠ 4) (z0 : 0 ≤ va) (z1 : va < 4294967296) (x0 : 0 ≤ x) (x1 : x < 4294967296) (w : World) (h : MZ PM V X w0 w J S LM S LM) :
  Calls Tryz.prog 8 #[.pointer (some ⟨J.u, 0, none⟩), .pointer (some ⟨J.b, 0, none⟩), .pointer (some ⟨J.g, 0, none⟩), .agg #[.int .i64 kd, .bool on, .int .i64 rt, .bool us, .int .u32 va, .int .i64 wd, .int .i64 kn, .int .u32 x]] w fun e w' => e = .returned (.bool true) ∧ Hid (MZ PM V X w0 w' J S LM S LM) := by
 obtain ⟨U, hU⟩ : ∃ U, U = w.alloc (.cells #[.int .i64 kd, .bool on, .int .i64 rt, .bool us, .int .u32 va, .int .i64 wd, .int .i64 kn, .int .u32 x] 33) := ⟨_, rfl⟩
 have hB : Below w.heap.size w U := by rw [hU]; exact (Below.refl _ _).alloc (Nat.le_refl _) _
 have hA : Blk U w.heap.size 33 [.int .i64 kd, .bool on, .int .i64 rt, .bool us, .int .u32 va, .int .i64 wd, .int .i64 kn, .int .u32 x] := by rw [hU]; exact Blk.new w _ _
 have HE := Lib.hid (h.enter C hB [w.heap.size] (fun y hy => by simp at hy; subst hy; exact ⟨Nat.le_refl _, hA.lt⟩))
 have HV : Hid (∀ (w' : World) (S1 : List Int) (L1 : List Gm.Pl), MZ PM U ([w.heap.size] ++ X) w0 w' J S1 L1 S1 L1 → MZ PM V X w0 w' J S1 L1 S1 L1) := Lib.hid fun w' S1 L1 h' => h.leave hB h'
 have HC := Lib.hid C
 have HU := Lib.hid hU
 have HA := Lib.hid hA
 clear hU hB hA h C
 go_enter Tryz.func8, Tryz.ntmps8
 go_upto_region 1 with fail
 rw [← HU.out]
 clear HU
 generalize w.heap.size = ab at HE HV HA ⊢
 have a0 := HA.out.cell (j := 0) rfl
 have a4 := HA.out.cell (j := 4) rfl
 have al := HA.out.lt
 have k0 : (kd == 0) = false := by simpa using hk.1
 have k1 : (kd == 1) = false := by simpa using hk.2.1
 have k2 : (kd == 2) = false := by simpa using hk.2.2.1
 have k3 : (kd == 3) = false := by simpa using hk.2.2.2.1
 have k4 : (kd == 4) = false := by simpa using hk.2.2.2.2
 clear hk
 go_wp2
 go_ret
 exact ⟨rfl, Lib.hid (HV.out _ _ _ HE.out)⟩
/-- what an act leaves -/
def actS20 (S : List Int) (L : List Gm.Pl) (a : Am) : List Int := if a.kd = 0 then ss20 12 S L a.on a.rt a.us a.va a.wd a.x else if a.kd = 1 then saveS 12 S L a.va a.wd a.x else S
def actL20 (L : List Gm.Pl) (a : Am) : List Gm.Pl := if a.kd = 2 then Gm.drL L (a.va / 64 % 12) else if a.kd = 3 then Gm.setL L (a.va / 64 % 12) (placeP (a.va / 64 % 12)) else L
theorem do20_any (a : Am) (ha : AmW a) (w : World) (h : MZ PM V X w0 w J S LM S LM) :
  Calls Tryz.prog 8 #[.pointer (some ⟨J.u, 0, none⟩), .pointer (some ⟨J.b, 0, none⟩), .pointer (some ⟨J.g, 0, none⟩), a.v] w fun e w' => e = .returned (.bool true) ∧ Hid (MZ PM V X w0 w' J (actS20 S LM a) (actL20 LM a) (actS20 S LM a) (actL20 LM a)) := by
 have z0 := ha.l4
 have z1 := ha.u4
 have x0 := ha.l7
 have x1 := ha.u7
 obtain ⟨kd, on, rt, us, va, wd, kn, x⟩ := a
 unfold actS20 actL20
 dsimp only at z0 z1 x0 x1 ⊢
 by_cases h0 : kd = 0
 ·subst h0
  exact do_save20 C rt va wd kn x on us z0 z1 x0 x1 w h
 by_cases h1 : kd = 1
 ·subst h1
  exact do_vsave20 C rt va wd kn x on us z0 z1 x0 x1 w h
 by_cases h2 : kd = 2
 ·subst h2
  exact do_drop20 C rt va wd kn x on us z0 z1 x0 x1 w h
 by_cases h3 : kd = 3
 ·subst h3
  exact do_set20 C rt va wd kn x on us z0 z1 x0 x1 w h
 rw [if_neg h0, if_neg h1, if_neg h2, if_neg h3]
 by_cases h4 : kd = 4
 ·subst h4
  exact do_flush20 C rt va wd kn x on us z0 z1 x0 x1 w h
 ·exact do_none20 C kd rt va wd kn x on us ⟨h0, h1, h2, h3, h4⟩ z0 z1 x0 x1 w h
end
end Go.Proofs.YteaincdeoajkeaaGreatDoor.Mm
end
section
/- hermitagelaw20: the walk of MmuFinds, over what the program is to keep. -/
namespace Go.Proofs.YteaincdeoajkeaaGreatDoor.Mm
open Go.RowKit Go.Shelf Ut Oc Vw Wa
set_option maxRecDepth 100000
set_option linter.unusedVariables false
set_option maxHeartbeats 8000000

/-- an act's cells as the walk spells them -/
theorem AmRow.at_ {w W : World} {B : Nat} {a : Option Addr} {n : Nat} {Z : Nat → Am} (h : AmRow w B a n Z) (hb : Below B w W) (hB : B ≤ w.heap.size) {i : Nat} (hi : i < n) : ∃ y, a = some y ∧ (y.add (i * 8)).block < W.heap.size ∧ AmW (Z i) ∧ W.cell? (y.add (i * 8)) = some (.int .i64 (Z i).kd) ∧ W.cell? ⟨(y.add (i * 8)).block, (y.add (i * 8)).off + 1, none⟩ = some (.bool (Z i).on) ∧ W.cell? ⟨(y.add (i * 8)).block, (y.add (i * 8)).off + 2, none⟩ = some (.int .i64 (Z i).rt) ∧ W.cell? ⟨(y.add (i * 8)).block, (y.add (i * 8)).off + 3, none⟩ = some (.bool (Z i).us) ∧ W.cell? ⟨(y.add (i * 8)).block, (y.add (i * 8)).off + 4, none⟩ = some (.int .u32 (Z i).va) ∧ W.cell? ⟨(y.add (i * 8)).block, (y.add (i * 8)).off + 5, none⟩ = some (.int .i64 (Z i).wd) ∧ W.cell? ⟨(y.add (i * 8)).block, (y.add (i * 8)).off + 6, none⟩ = some (.int .i64 (Z i).kn) ∧ W.cell? ⟨(y.add (i * 8)).block, (y.add (i * 8)).off + 7, none⟩ = some (.int .u32 (Z i).x) := by
 obtain ⟨y, e, hy, hw, c0, c1, c2, c3, c4, c5, c6, c7⟩ := h.more hb i hi
 refine ⟨y, e, ?_, hw, c0, ?_, ?_, ?_, ?_, ?_, ?_, ?_⟩
 ·rw [block_of_add]
  have := hb.size
  omega
 ·rw [← add_past y (i * 8) 1 (by decide)]; exact c1
 ·rw [← add_past y (i * 8) 2 (by decide)]; exact c2
 ·rw [← add_past y (i * 8) 3 (by decide)]; exact c3
 ·rw [← add_past y (i * 8) 4 (by decide)]; exact c4
 ·rw [← add_past y (i * 8) 5 (by decide)]; exact c5
 ·rw [← add_past y (i * 8) 6 (by decide)]; exact c6
 ·rw [← add_past y (i * 8) 7 (by decide)]; exact c7
def cntB (n m : Nat) : Nat := min n m
theorem cntB_in {n m k : Nat} (h1 : k < n) (h2 : k < m) : k + 1 ≤ cntB n m := by unfold cntB; omega

theorem finds20_any {PM : PMt} (C : MmuC PM) (room : Nat) (hroom : room < 256) (al aa : Option Addr) (ll cl la ca : Nat) (Zp : Nat → Int × Int) (Z : Nat → Am) (w : World) (hll : ll ≤ 9223372036854775807) (hla : la ≤ 9223372036854775807) (hl : PutRow w w.heap.size al ll Zp) (ha : AmRow w w.heap.size aa la Z) (hG : PM.G w) (hnb : PM.nb ≤ w.heap.size) :
  Calls Tryz.prog 3 #[.int .u8 room, .slice al ll cl, .slice aa la ca] w fun e w' => e = .returned (.bool true) ∧ Below w.heap.size w w' := by
 have HMK := Lib.hid (fun r h0 h1 => made20_any C r h0 h1 al ll cl w.heap.size Zp w hll hl (Nat.le_refl _) hG hnb)
 have HGW : Hid (∀ W, Below w.heap.size w W → PM.G W ∧ PM.nb ≤ W.heap.size) := Lib.hid fun W hb => ⟨C.gb hG (hb.mono hnb), Nat.le_trans hnb hb.size⟩
 have HC := Lib.hid C
 have HAR := Lib.hid ha
 have r0 : (0 : Int) ≤ (room : Int) := by omega
 have r1 : (room : Int) < 256 := by omega
 clear C hl ha hroom hG hnb
 go_enter Tryz.func3, Tryz.ntmps3
 go_wp2_with fail
 refine (HMK.out _ (by omega) (by omega)).mono ?_
 rintro e w1 ⟨u, b, g, rfl, hmd⟩
 have hmz : ∃ J : BK, J.u = u ∧ J.b = b ∧ J.g = g ∧ ∃ S L, MZ PM w1 [] w w1 J S L S L := by
  obtain ⟨J, T, tb, e1, e2, e3, h⟩ := hmd.out
  exact ⟨J, e1, e2, e3, _, _, T, [], tb, h⟩
 obtain ⟨J, rfl, rfl, rfl, S0, L0, hz⟩ := hmz
 have HZ0 := Lib.hid hz
 clear hmd hz HMK
 go_wp2
 go_loopw [10] (fun j wr => ∃ (k : Nat) (S : List Int) (L : List Gm.Pl), k ≤ cntB la 60 ∧ j = .int .i64 k ∧ Hid (MZ PM w1 [] w wr J S L S L)) (fun j _ => cntB la 60 - (intOf j).toNat)
 case atStart => exact ⟨0, S0, L0, Nat.zero_le _, rfl, HZ0⟩
 case round =>
  clear HZ0
  obtain ⟨k, S, L, hk, rfl, HZ⟩ := hrel
  by_cases hin : k < la ∧ k < 60
  ·have f1 : (k : Int) < (la : Int) := by omega
   have f2 : (k : Int) < 60 := by omega
   have f0 : (0 : Int) ≤ (k : Int) := by omega
   have H1 := Lib.hid (cntB_in hin.1 hin.2)
   obtain ⟨y, rfl, hyb, hx, c0, c1, c2, c3, c4, c5, c6, c7⟩ := HAR.out.at_ HZ.out.b (Nat.le_refl _) hin.1
   generalize Z k = a at hx c0 c1 c2 c3 c4 c5 c6 c7
   obtain ⟨U, hU⟩ : ∃ U, U = wr.alloc (.cells #[.int .i64 a.kd, .bool a.on, .int .i64 a.rt, .bool a.us, .int .u32 a.va, .int .i64 a.wd, .int .i64 a.kn, .int .u32 a.x] 33) := ⟨_, rfl⟩
   have hB : Below wr.heap.size wr U := by rw [hU]; exact (Below.refl _ _).alloc (Nat.le_refl _) _
   have hA : Blk U wr.heap.size 33 [.int .i64 a.kd, .bool a.on, .int .i64 a.rt, .bool a.us, .int .u32 a.va, .int .i64 a.wd, .int .i64 a.kn, .int .u32 a.x] := by rw [hU]; exact Blk.new wr _ _
   have hE := HZ.out.enter HC.out hB [wr.heap.size] (fun y hy => by simp at hy; subst hy; exact ⟨Nat.le_refl _, hA.lt⟩)
   have HV : Hid (∀ (w' : World) (S1 : List Int) (L1 : List Gm.Pl), MZ PM U ([wr.heap.size] ++ []) w w' J S1 L1 S1 L1 → MZ PM w1 [] w w' J S1 L1 S1 L1) := Lib.hid fun w' S1 L1 h' => HZ.out.leave hB h'
   have HDO := Lib.hid (do20_any HC.out a hx U hE)
   have HA := Lib.hid hA
   have HU := Lib.hid hU
   have HW := Lib.hid hx
   clear hU hB hA hE hx hin hk HZ
   obtain ⟨kd, on, rt, us, va, wd, kn, x⟩ := a
   dsimp only at HU HA HDO c0 c1 c2 c3 c4 c5 c6 c7
   have z0 : 0 ≤ va := HW.out.l4
   have z1 : va < 4294967296 := HW.out.u4
   generalize actS20 S L ⟨kd, on, rt, us, va, wd, kn, x⟩ = S2 at HDO
   generalize actL20 L ⟨kd, on, rt, us, va, wd, kn, x⟩ = L2 at HDO
   obtain ⟨lc, hlc⟩ : ∃ lc, locF 12 S2 L2 on rt us va kn = lc := ⟨_, rfl⟩
   obtain ⟨ld, hld⟩ : ∃ ld, ld20 12 S2 L2 on rt us va wd kn = ld := ⟨_, rfl⟩
   have HFP : Hid (∀ W, MZ PM U ([wr.heap.size] ++ []) w W J S2 L2 S2 L2 → Calls Tryz.prog 9 #[.pointer (some ⟨J.u, 0, none⟩), .agg #[.bool on, .int .i64 rt, .bool us], .int .u32 va, .int .i64 kn] W fun e w' => (∃ fast, e = .returned (.tuple #[hitX lc.1 fast, .int .i64 lc.2]) ∧ (fast = true → on = true ∧ lc.2 = 0)) ∧ Hid (MZ PM U ([wr.heap.size] ++ []) w w' J S2 L2 S2 L2)) := Lib.hid fun W hW => by
    have := mzFind HC.out hW on us rt va kn z0 z1
    rw [hlc] at this
    exact this
   have HFD : Hid (∀ W, MZ PM U ([wr.heap.size] ++ []) w W J S2 L2 S2 L2 → Calls Tryz.prog 10 #[.pointer (some ⟨J.g, 0, none⟩), .agg #[.bool on, .int .i64 rt, .bool us], .int .u32 va, .int .i64 kn] W fun e w' => e = .returned (.tuple #[hitX lc.1 false, .int .i64 lc.2]) ∧ Below W.heap.size W w') := Lib.hid fun W hW => by
    have := dFind hW on us rt va kn z0 z1
    rw [hlc] at this
    exact this
   have HLP : Hid (∀ W, MZ PM U ([wr.heap.size] ++ []) w W J S2 L2 S2 L2 → Calls Tryz.prog 11 #[.pointer (some ⟨J.u, 0, none⟩), .agg #[.bool on, .int .i64 rt, .bool us], .int .u32 va, .int .i64 wd, .int .i64 kn] W fun e w' => e = .returned (.tuple #[.int .u32 ld.1, .int .i64 ld.2]) ∧ Hid (MZ PM U ([wr.heap.size] ++ []) w w' J S2 L2 S2 L2)) := Lib.hid fun W hW => by
    have := mzLoad HC.out hW on us rt va wd kn z0 z1
    rw [hld] at this
    exact this
   have HLD : Hid (∀ W, MZ PM U ([wr.heap.size] ++ []) w W J S2 L2 S2 L2 → Calls Tryz.prog 12 #[.pointer (some ⟨J.g, 0, none⟩), .agg #[.bool on, .int .i64 rt, .bool us], .int .u32 va, .int .i64 wd, .int .i64 kn] W fun e w' => e = .returned (.tuple #[.int .u32 ld.1, .int .i64 ld.2]) ∧ Below W.heap.size W w') := Lib.hid fun W hW => by
    have := dLoad hW on us rt va wd kn z0 z1
    rw [hld] at this
    exact this
   clear hlc hld
   obtain ⟨⟨ha, hb, hd⟩, c⟩ := lc
   obtain ⟨lu, lc⟩ := ld
   dsimp only [hitX] at HFP HFD HLP HLD
   go_upto_region 8 with fail
   rw [← HU.out]
   clear HU c0 c1 c2 c3 c4 c5 c6 c7 hyb
   generalize wr.heap.size = ab at HA HV HDO HFP HFD HLP HLD ⊢
   have a0 := HA.out.cell (j := 0) rfl
   have a1 := HA.out.cell (j := 1) rfl
   have a2 := HA.out.cell (j := 2) rfl
   have a3 := HA.out.cell (j := 3) rfl
   have a4 := HA.out.cell (j := 4) rfl
   have a5 := HA.out.cell (j := 5) rfl
   have a6 := HA.out.cell (j := 6) rfl
   have a7 := HA.out.cell (j := 7) rfl
   have al := HA.out.lt
   go_wp2_with fail
   refine HDO.out.mono ?_
   rintro e w2 ⟨rfl, HZ2⟩
   clear a0 a1 a2 a3 a4 a5 a6 a7 al HDO
   have q0 := HZ2.out.blk (x := ab) (by simp) HA.out
   have a1 := q0.cell (j := 1) rfl
   have a2 := q0.cell (j := 2) rfl
   have a3 := q0.cell (j := 3) rfl
   have a4 := q0.cell (j := 4) rfl
   have a6 := q0.cell (j := 6) rfl
   have al := q0.lt
   clear q0
   go_wp2_with fail
   refine (HFP.out w2 HZ2.out).mono ?_
   rintro e w3 ⟨⟨fast, rfl, hfast⟩, HZ3⟩
   have HFA := Lib.hid hfast
   clear hfast HFP HZ2 a1 a2 a3 a4 a6 al
   have hb3 : Below w3.heap.size w3 (w3.alloc (.cells #[.int .i64 ha, .int .i64 hb, .int .i64 hd, .bool fast] 36)) := (Below.refl _ _).alloc (Nat.le_refl _) _
   have HZ4 := Lib.hid (HZ3.out.more HC.out hb3)
   have HH : Hid (Blk (w3.alloc (.cells #[.int .i64 ha, .int .i64 hb, .int .i64 hd, .bool fast] 36)) w3.heap.size 36 [.int .i64 ha, .int .i64 hb, .int .i64 hd, .bool fast]) := Lib.hid (Blk.new w3 _ _)
   clear hb3 HZ3
   go_upto_region 11 with fail
   generalize w3.alloc (.cells #[.int .i64 ha, .int .i64 hb, .int .i64 hd, .bool fast] 36) = V4 at HZ4 HH ⊢
   generalize w3.heap.size = hh at HH ⊢
   have q0 := HZ4.out.blk (x := ab) (by simp) HA.out
   have a1 := q0.cell (j := 1) rfl
   have a2 := q0.cell (j := 2) rfl
   have a3 := q0.cell (j := 3) rfl
   have a4 := q0.cell (j := 4) rfl
   have a6 := q0.cell (j := 6) rfl
   have al := q0.lt
   clear q0
   go_wp2_with fail
   refine (HFD.out V4 HZ4.out).mono ?_
   rintro e w5 ⟨rfl, hb5⟩
   have HZ5 := Lib.hid (HZ4.out.more HC.out hb5)
   have HH5 := Lib.hid (HH.out.more hb5)
   clear hb5 HFD HZ4 HH a1 a2 a3 a4 a6 al
   have hb6 : Below w5.heap.size w5 (w5.alloc (.cells #[.int .i64 ha, .int .i64 hb, .int .i64 hd, .bool false] 36)) := (Below.refl _ _).alloc (Nat.le_refl _) _
   have HZ6 := Lib.hid (HZ5.out.more HC.out hb6)
   have HH6 := Lib.hid (HH5.out.more hb6)
   have HG6 : Hid (Blk (w5.alloc (.cells #[.int .i64 ha, .int .i64 hb, .int .i64 hd, .bool false] 36)) w5.heap.size 36 [.int .i64 ha, .int .i64 hb, .int .i64 hd, .bool false]) := Lib.hid (Blk.new w5 _ _)
   clear hb6 HZ5 HH5
   go_upto_region 12 with fail
   generalize w5.alloc (.cells #[.int .i64 ha, .int .i64 hb, .int .i64 hd, .bool false] 36) = V6 at HZ6 HH6 HG6 ⊢
   generalize w5.heap.size = hg at HG6 ⊢
   have h0 := HH6.out.cell (j := 0) rfl
   have h1 := HH6.out.cell (j := 1) rfl
   have h2 := HH6.out.cell (j := 2) rfl
   have h3 := HH6.out.cell (j := 3) rfl
   have hl := HH6.out.lt
   have g0 := HG6.out.cell (j := 0) rfl
   have g1 := HG6.out.cell (j := 1) rfl
   have g2 := HG6.out.cell (j := 2) rfl
   have gl := HG6.out.lt
   have q0 := HZ6.out.blk (x := ab) (by simp) HA.out
   have a1 := q0.cell (j := 1) rfl
   have a2 := q0.cell (j := 2) rfl
   have a3 := q0.cell (j := 3) rfl
   have a4 := q0.cell (j := 4) rfl
   have a5 := q0.cell (j := 5) rfl
   have a6 := q0.cell (j := 6) rfl
   have al := q0.lt
   clear q0
   cases fast
   ·clear HFA
    go_wp2_with fail
    refine (HLP.out V6 HZ6.out).mono ?_
    rintro e w7 ⟨rfl, HZ7⟩
    clear HLP HZ6 HH6 HG6 h0 h1 h2 h3 hl g0 g1 g2 gl a1 a2 a3 a4 a5 a6 al
    have q0 := HZ7.out.blk (x := ab) (by simp) HA.out
    have a1 := q0.cell (j := 1) rfl
    have a2 := q0.cell (j := 2) rfl
    have a3 := q0.cell (j := 3) rfl
    have a4 := q0.cell (j := 4) rfl
    have a5 := q0.cell (j := 5) rfl
    have a6 := q0.cell (j := 6) rfl
    have al := q0.lt
    clear q0
    go_wp2_with fail
    refine (HLD.out w7 HZ7.out).mono ?_
    rintro e w8 ⟨rfl, hb8⟩
    have HZ8 := Lib.hid (HV.out _ _ _ (HZ7.out.more HC.out hb8))
    clear hb8 HLD HZ7 HV a1 a2 a3 a4 a5 a6 al
    go_wp2
    go_roundw
    case rel => exact ⟨k + 1, S2, L2, H1.out, by go_num, HZ8⟩
    case measure => have := H1.out; simp [intOf]; omega
   ·obtain ⟨rfl, rfl⟩ := HFA.out rfl
    clear HFA
    go_wp2_with fail
    refine (HLP.out V6 HZ6.out).mono ?_
    rintro e w7 ⟨rfl, HZ7⟩
    clear HLP HZ6 HH6 HG6 h0 h1 h2 h3 hl g0 g1 g2 gl a1 a2 a3 a4 a5 a6 al
    have q0 := HZ7.out.blk (x := ab) (by simp) HA.out
    have a1 := q0.cell (j := 1) rfl
    have a2 := q0.cell (j := 2) rfl
    have a3 := q0.cell (j := 3) rfl
    have a4 := q0.cell (j := 4) rfl
    have a5 := q0.cell (j := 5) rfl
    have a6 := q0.cell (j := 6) rfl
    have al := q0.lt
    clear q0
    go_wp2_with fail
    refine (HLD.out w7 HZ7.out).mono ?_
    rintro e w8 ⟨rfl, hb8⟩
    have HZ8 := Lib.hid (HV.out _ _ _ (HZ7.out.more HC.out hb8))
    clear hb8 HLD HZ7 HV a1 a2 a3 a4 a5 a6 al
    go_wp2
    go_roundw
    case rel => exact ⟨k + 1, S2, L2, H1.out, by go_num, HZ8⟩
    case measure => have := H1.out; simp [intOf]; omega
  ·have hout : (¬ (k : Int) < (la : Int)) ∨ ((k : Int) < (la : Int) ∧ ¬ (k : Int) < 60) := by omega
   clear hin hk
   rcases hout with f1 | ⟨f1, f2⟩
   all_goals
    go_wp2_with fail
    refine (awake20_any HC.out _ (HGW.out _ HZ.out.b).1 (HGW.out _ HZ.out.b).2).mono ?_
    rintro e w6 ⟨rfl, hb6⟩
    have HB6 := Lib.hid (HZ.out.b.trans (hb6.mono HZ.out.b.size))
    clear hb6 HZ
    go_wp2
    go_ret
    exact ⟨rfl, HB6.out⟩
end Go.Proofs.YteaincdeoajkeaaGreatDoor.Mm
end
