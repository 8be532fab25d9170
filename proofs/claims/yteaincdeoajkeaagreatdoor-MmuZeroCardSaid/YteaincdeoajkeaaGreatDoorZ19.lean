/- Several texts in one: Ip Zj Iq -/
import Derived.Test.YteaincdeoajkeaaGreatDoorZ18
import Derived.Test.YteaincdeoajkeaaGreatDoorZ07
import Derived.Test.YteaincdeoajkeaaGreatDoorZ14
import Derived.Test.YteaincdeoajkeaaGreatDoorZ13
section
/- Stage 20: what each call of either side answers and leaves, both sides in one world (MZ). -/
namespace Go.Proofs.YteaincdeoajkeaaGreatDoor.Mm
open Go.RowKit Go.Shelf Ut Oc Vw Wa
set_option maxRecDepth 100000
set_option linter.unusedVariables false
set_option maxHeartbeats 4000000

theorem placeP_ok (p : Int) (h0 : 0 ≤ p) (h1 : p < 12) : Gm.okB (placeP p) = true := by
  unfold Gm.okB placeP
  simp only [Bool.and_eq_true, decide_eq_true_eq]
  omega
theorem place20_any (p : Int) (h0 : 0 ≤ p) (h1 : p < 12) (w : World) : Calls Tryz.prog 29 #[.int .i64 p] w fun e w' => e = .returned (Gm.plV (placeP p)) ∧ Below w.heap.size w w' := by
  have HB : Hid (Below w.heap.size w (w.alloc (.cells #[.int .i64 (11 - p), .int .i64 (3 - 2 * (p / 9))] 54))) := Lib.hid ((Below.refl _ _).alloc (Nat.le_refl _) _)
  unfold placeP Gm.plV
  go_enter Tryz.func29, Tryz.ntmps29
  go_wp2
  exact bodyPost_ret (v := .agg #[.int .i64 (11 - p), .int .i64 (3 - 2 * (p / 9))]) (by simp [results, Tryz.results29, go_sem]) rfl ⟨rfl, HB.out⟩

/-- a slice's block, where something lies in it -/
def blkOf (a : Option Addr) (n : Nat) : List Nat := match a with | some y => if 0 < n then [y.block] else [] | none => []
/-- the document's map turned -/
theorem dv_mapped {w w' : World} {g bt B q n gv cap : Nat} {S : List Int} {L L' : List Gm.Pl} {D : List Bool} (h : DV w g bt B q n gv cap S L D) (hm : Gm.RAt w' q L') (hg : w.grownBy w' (some q)) : DV w' g bt B q n gv cap S L' D := by
  obtain ⟨vs, hs⟩ := h.st
  have k : Kq [q] w w' := Kq.of_grown hg (by simp)
  refine ⟨h.blk.kq k (by have := h.qg; simp; omega), ⟨vs, rt_kq hs h.pos k (fun x hx => ?_)⟩, hm, h.len, h.pos, h.s0, h.s1, h.n32, h.bq, h.qg⟩
  obtain rfl : x = q := by simpa using hx
  exact .inr (.inr (RAt_c0 h.mp))

section
variable {PM : PMt} (C : MmuC PM) {V U w0 w w' : World} {X Y T T' : List Nat} {K : BK} {κ : List (List Int)} {tb : Int → Bool} {Sp Sp' Sd Sd' : List Int} {Lp Lp' Ld Ld' : List Gm.Pl}
/-- a step of the program's: whichever of its blocks turned -/
theorem mz_core (o : BKo w0.heap.size K) (hnb : PM.nb ≤ w0.heap.size) (hT : ∀ t ∈ T, K.g < t ∧ t ∉ X) (hd : ∃ D, DV w K.g K.bt K.B K.q 12 K.gv K.cap Sd Ld D) (hst : ∀ x ∈ X, K.g < x ∧ x < w.heap.size ∧ w.heap[x]? = V.heap[x]?) (hb : Below w0.heap.size w0 w)
    (htag : ∀ x ∈ T, ∃ v, w.cell? ⟨x, 0, none⟩ = some v ∧ notRow v) (hc0 : ∃ v, w.cell? ⟨K.b, 0, none⟩ = some v ∧ notRow v) {κ' : List (List Int)} {tb' : Int → Bool} (hp : PM.P w' K.u T' K.b K.s K.m Sp' Lp' κ' tb') (hT' : ∀ x ∈ T', x ∈ T ∨ w.heap.size ≤ x)
    (hk : Kq Y w w') (hY : ∀ y ∈ Y, y = K.b ∨ y = K.s ∨ y = K.m ∨ y ∈ T) : MZT PM V X w0 w' K T' κ' tb' Sp' Lp' Sd Ld := by
  have h1 := o.ws
  have h2 := o.sm
  have h3 := o.mB
  have h4 := o.Bq
  have h5 := o.qb
  have h6 := o.bg
  obtain ⟨D, hd⟩ := hd
  have hgl := hd.lt
  have hno : ∀ x, x ≠ K.b → x ≠ K.s → x ≠ K.m → x ∉ T → x ∉ Y := fun x a1 a2 a3 a4 hm => by
    rcases hY x hm with h | h | h | h
    · exact a1 h
    · exact a2 h
    · exact a3 h
    · exact a4 h
  refine ⟨hp, fun t ht => ?_, ⟨D, dv_kqN hd hk (hno _ (by omega) (by omega) (by omega) (fun hm => by have := (hT _ hm).1; omega)) (hno _ (by omega) (by omega) (by omega) (fun hm => by have := (hT _ hm).1; omega)) fun x hx => ?_⟩, o, hnb, fun x hx => ?_, hb.trans (hk.under (fun y hy => ?_) hb.size)⟩
  · rcases hT' t ht with h7 | h7
    · exact hT t h7
    · exact ⟨by omega, fun hm => by have := (hst t hm).2.1; omega⟩
  · rcases hY x hx with rfl | rfl | rfl | hx
    · exact .inr hc0
    · exact .inl (by omega)
    · exact .inl h3
    · exact .inr (htag x hx)
  · obtain ⟨s1, s2, s3⟩ := hst x hx
    exact ⟨s1, Nat.lt_of_lt_of_le s2 hk.size, (hk.block x s2 (hno x (by omega) (by omega) (by omega) (fun hm => (hT x hm).2 hx))).trans s3⟩
  · rcases hY y hy with rfl | rfl | rfl | hy
    · omega
    · omega
    · omega
    · have := (hT y hy).1
      omega
include C
theorem MZT.c0 (h : MZT PM V X w0 w K T κ tb Sp Lp Sd Ld) : ∃ v, w.cell? ⟨K.b, 0, none⟩ = some v ∧ notRow v := (C.pv h.pm).elim fun D hd => ⟨_, hd.cell0, trivial⟩
theorem mzFind (h : MZ PM V X w0 w K Sp Lp Sd Ld) (on us : Bool) (rt z k : Int) (h0 : 0 ≤ z) (h1 : z < 4294967296) :
    Calls Tryz.prog 9 #[.pointer (some ⟨K.u, 0, none⟩), modeV on rt us, .int .u32 z, .int .i64 k] w fun e w' => (∃ fast, e = .returned (.tuple #[hitX (locF 12 Sp Lp on rt us z k).1 fast, .int .i64 (locF 12 Sp Lp on rt us z k).2]) ∧ (fast = true → on = true ∧ (locF 12 Sp Lp on rt us z k).2 = 0)) ∧ Hid (MZ PM V X w0 w' K Sp Lp Sd Ld) := by
  obtain ⟨T, κ, tb, h⟩ := h
  exact (C.find on us rt z k h.pm h0 h1).mono fun e w' ⟨h2, h3⟩ => ⟨h2, Lib.hid (h.stepM C h3.out)⟩
theorem mzLoad (h : MZ PM V X w0 w K Sp Lp Sd Ld) (on us : Bool) (rt z wd k : Int) (h0 : 0 ≤ z) (h1 : z < 4294967296) :
    Calls Tryz.prog 11 #[.pointer (some ⟨K.u, 0, none⟩), modeV on rt us, .int .u32 z, .int .i64 wd, .int .i64 k] w fun e w' => e = .returned (.tuple #[.int .u32 (ld20 12 Sp Lp on rt us z wd k).1, .int .i64 (ld20 12 Sp Lp on rt us z wd k).2]) ∧ Hid (MZ PM V X w0 w' K Sp Lp Sd Ld) := by
  obtain ⟨T, κ, tb, h⟩ := h
  exact (C.load on us rt z wd k h.pm h0 h1).mono fun e w' ⟨h2, h3⟩ => ⟨h2, Lib.hid (h.stepM C h3.out)⟩
theorem mzSave (h : MZ PM V X w0 w K Sp Lp Sd Ld) (on us : Bool) (rt z wd x : Int) (h0 : 0 ≤ z) (h1 : z < 4294967296) (h2 : 0 ≤ x) (h3 : x < 4294967296) :
    Calls Tryz.prog 18 #[.pointer (some ⟨K.u, 0, none⟩), modeV on rt us, .int .u32 z, .int .i64 wd, .int .u32 x] w fun e w' => e = .returned (.int .i64 (sc20 12 Sp Lp on rt us z wd)) ∧ Hid (MZ PM V X w0 w' K (ss20 12 Sp Lp on rt us z wd x) Lp Sd Ld) := by
  obtain ⟨T, κ, tb, h⟩ := h
  exact (C.save on us rt z wd x h.pm h0 h1 h2 h3).mono fun e w' ⟨h4, h5⟩ => ⟨h4, Lib.hid (h.stepM C h5.out)⟩
theorem mzFlush (h : MZ PM V X w0 w K Sp Lp Sd Ld) : Calls Tryz.prog 24 #[.pointer (some ⟨K.u, 0, none⟩)] w fun e w' => (∃ n, e = .returned (.int .i64 n)) ∧ Hid (MZ PM V X w0 w' K Sp Lp Sd Ld) := by
  obtain ⟨T, κ, tb, h⟩ := h
  exact (C.flush h.pm).mono fun e w' ⟨h4, h5⟩ => ⟨h4, Lib.hid (h.stepM C h5.out)⟩
theorem mzVSave (h : MZ PM V X w0 w K Sp Lp Sd Ld) (z wd x : Int) (h0 : 0 ≤ z) (h1 : z < 4294967296) (h2 : 0 ≤ x) (h3 : x < 4294967296) :
    Calls Tryz.prog 32 #[.pointer (some ⟨K.b, 0, none⟩), .int .u32 z, .int .i64 wd, .int .u32 x] w fun e w' => e = .returned (.int .i64 (findF 12 Lp z wd 2)) ∧ Hid (MZ PM V X w0 w' K (saveS 12 Sp Lp z wd x) Lp Sd Ld) := by
  obtain ⟨T, κ, tb, h⟩ := h
  obtain ⟨D, hp⟩ := C.pv h.pm
  exact (save_any z wd x _ _ _ h0 h1 h2 h3 rfl rfl rfl w hp).mono fun e w' ⟨h4, h5, h6⟩ => ⟨h4, Lib.hid ⟨T, κ, tb, h.step C (C.vsave z wd x h.pm hp h0 rfl h5 h6) (fun x hx => .inl hx) (h6.more fun q hq => by
    simp only [List.mem_cons, List.not_mem_nil, or_false] at hq ⊢
    rcases hq with rfl | rfl
    · exact .inr (.inl rfl)
    · exact .inl rfl)⟩⟩
theorem mzMap (h : MZ PM V X w0 w K Sp Lp Sd Ld) : Calls Tryz.prog 15 #[.pointer (some ⟨K.b, 0, none⟩)] w fun e w' => e = .returned (.pointer (some ⟨K.m, 0, none⟩)) ∧ w = w' := by
  obtain ⟨T, κ, tb, h⟩ := h
  obtain ⟨D, hp⟩ := C.pv h.pm
  exact map_any w hp
theorem mzStore (h : MZ PM V X w0 w K Sp Lp Sd Ld) : Calls Tryz.prog 20 #[.pointer (some ⟨K.b, 0, none⟩)] w fun e w' => e = .returned (.pointer (some ⟨K.s, 0, none⟩)) ∧ w = w' := by
  obtain ⟨T, κ, tb, h⟩ := h
  obtain ⟨D, hp⟩ := C.pv h.pm
  exact store_any w hp
theorem mzGet (h : MZ PM V X w0 w K Sp Lp Sd Ld) (p : Int) (pl : Gm.Pl) (t : Bool) (hp : Gm.atP Lp p = pl) (ht : Gm.thB pl = t) : Calls Tryz.prog 16 #[.pointer (some ⟨K.m, 0, none⟩), .int .i64 p] w fun e w' => e = .returned (.tuple #[Gm.plV pl, .bool t]) ∧ Below w.heap.size w w' := by
  obtain ⟨T, κ, tb, h⟩ := h
  obtain ⟨D, hpv⟩ := C.pv h.pm
  exact Gm.get_any K.m Lp p pl t hp ht w hpv.mp
omit C in
theorem blkOf_in {a : Option Addr} {n x : Nat} (h : x ∈ blkOf a n) : 0 < n ∧ ∃ y, a = some y ∧ x = y.block := by
  unfold blkOf at h
  cases a with
  | none => simp at h
  | some y =>
    by_cases h0 : 0 < n
    · simp [h0] at h
      exact ⟨h0, y, rfl, h⟩
    · simp [h0] at h
theorem mzKept (h : MZ PM V [] w0 w K Sp Lp Sd Ld) : Calls Tryz.prog 14 #[.pointer (some ⟨K.u, 0, none⟩)] w fun e w' => ∃ v, e = .returned v ∧ Hid (∃ (κ : List (List Int)) (tb : Int → Bool) (a : Option Addr) (c : Nat) (Y : List Nat), v = .slice a κ.length c ∧ IRow 5 w' a κ ∧ κ.length ≤ 1000 ∧ HeldP Lp tb κ ∧ (∀ y, a = some y → 0 < κ.length → y.block ∈ Y) ∧ MZB PM w' Y w0 w' K tb Sp Lp Sd Ld) := by
  obtain ⟨T, κ, tb, h⟩ := h
  exact (C.kept h.pm).mono fun e w' ⟨⟨v, h2, h3⟩, h4⟩ => ⟨v, h2, by
    obtain ⟨T', κ', tb', hp, ⟨a, c, e1, hr, hge⟩, hl, hno, hT⟩ := h3.out
    have hz := h.step C hp hT h4
    refine Lib.hid ⟨κ', tb', a, c, blkOf a κ'.length, e1, hr, hl, C.held hp, fun y e h0 => ?_, T', κ', hz.pm, fun t ht => ⟨(hz.tT t ht).1, fun hm => ?_⟩, hz.dv, hz.o, hz.nb, fun x hx => ?_, hz.b⟩
    · subst e
      unfold blkOf
      simp [h0]
    · obtain ⟨h0, y, rfl, rfl⟩ := blkOf_in hm
      exact hno y _ _ e1 ht
    · obtain ⟨h0, y, rfl, rfl⟩ := blkOf_in hx
      have h5 := hge y rfl
      have h6 := h.glt
      obtain ⟨y', e', hlt, _⟩ := hr 0 _ (List.getElem?_eq_getElem h0)
      injection e' with e'
      subst e'
      exact ⟨by omega, hlt, rfl⟩⟩
theorem mzTable (h : MZB PM V X w0 w K tb Sp Lp Sd Ld) (p : Int) : Calls Tryz.prog 17 #[.pointer (some ⟨K.u, 0, none⟩), .int .i64 p] w fun e w' => ∃ t, e = .returned (.bool t) ∧ (t = true → tb p = true) ∧ Hid (∃ tb', (∀ p, tb' p = true → tb p = true) ∧ MZB PM V X w0 w' K tb' Sp Lp Sd Ld) := by
  obtain ⟨T, κ, h⟩ := h
  exact (C.table p h.pm).mono fun e w' ⟨⟨t, h2, h3⟩, h4, h5⟩ => ⟨t, h2, h3, by
    obtain ⟨T', κ', tb', hp, ht, hT⟩ := h4.out
    exact Lib.hid ⟨tb', ht, T', κ', h.step C hp hT h5⟩⟩
theorem mzDrop (h : MZ PM V X w0 w K Sp Lp Sd Ld) (p : Int) : Calls Tryz.prog 34 #[.pointer (some ⟨K.m, 0, none⟩), .int .i64 p] w fun e w' => e = .returned (.int .i64 (Gm.drE Lp p)) ∧ Hid (MZd PM V X w0 w' K p Sp Lp Sd Ld) := by
  obtain ⟨T, κ, tb, h⟩ := h
  obtain ⟨D, hpv⟩ := C.pv h.pm
  refine (Gm.drop_any K.m Lp _ p _ rfl rfl w hpv.mp).mono fun e w' ⟨h2, h3, h4⟩ => ⟨h2, Lib.hid ?_⟩
  have hk : Kq [K.m] w w' := Kq.of_grown h4 (by simp)
  have hz := mz_core (Y := [K.m]) (T' := T) (κ' := κ) (tb' := tb) (Sp' := Sp) (Lp' := Lp) (PM := ⟨PM.nb, PM.G, fun _ _ _ _ _ _ _ _ _ _ => True⟩) h.o h.nb h.tT h.dv h.st h.b (C.tag h.pm) (h.c0 C) trivial (fun x hx => .inl hx) hk (fun y hy => by
    simp only [List.mem_cons, List.not_mem_nil, or_false] at hy
    exact .inr (.inr (.inl hy)))
  exact ⟨⟨w, T, κ, tb, h.pm, h.tT, hk.more (fun q hq => by simp at hq; simp [hq])⟩, h3, hz.dv, h.o, h.nb, hz.st, hz.b⟩
theorem mzGone (p : Int) (hp0 : 0 ≤ p) (hp1 : p < 12) (h : MZd PM V X w0 w K p Sp Lp Sd Ld) : Calls Tryz.prog 23 #[.pointer (some ⟨K.u, 0, none⟩), .int .i64 p] w fun e w' => e = .returned (.int .i64 0) ∧ Hid (MZ PM V X w0 w' K Sp (Gm.drL Lp p) Sd Ld) := by
  obtain ⟨W, T, κ, tb, hp, hT, hk⟩ := h.ex
  have o := h.o
  have h1 := o.ws
  have h2 := o.sm
  have h3 := o.mB
  have h4 := o.Bq
  have h5 := o.qb
  have h6 := o.bg
  have hno : ∀ x ∈ K.b :: K.s :: T, x ∉ [K.m, K.q] := fun x hx => by
    simp only [List.mem_cons, List.not_mem_nil, or_false, not_or]
    rcases List.mem_cons.1 hx with rfl | hx
    · omega
    rcases List.mem_cons.1 hx with rfl | hx
    · omega
    · have := (hT x hx).1
      omega
  obtain ⟨D, hpv⟩ := C.pv hp
  refine (C.gone p hp hk hno (fun x hx => by
    have := h.nb
    simp only [List.mem_cons, List.not_mem_nil, or_false] at hx
    omega) h.mp hp0 hp1).mono fun e w' ⟨h7, h8⟩ => ⟨h7, Lib.hid ?_⟩
  obtain ⟨T', κ', tb', hp', hT'⟩ := h8.out.ex
  refine ⟨T', κ', tb', mz_core (T := T) h.o h.nb hT h.dv h.st h.b (fun x hx => ?_) ⟨_, ((hk.cell (p := ⟨K.b, 0, none⟩) hpv.lt (hno _ (by simp))).trans hpv.cell0), trivial⟩ hp' hT' h8.out.kq (fun y hy => ?_)⟩
  · obtain ⟨v, hv, hn⟩ := C.tag hp x hx
    exact ⟨v, (hk.cell (p := ⟨x, 0, none⟩) (C.lt hp x hx) (hno _ (by simp [hx]))).trans hv, hn⟩
  · simp only [List.mem_cons] at hy
    rcases hy with h | h | h
    · exact .inl h
    · exact .inr (.inl h)
    · exact .inr (.inr (.inr h))
theorem mzSet (h : MZ PM V X w0 w K Sp Lp Sd Ld) (p : Int) (hp0 : 0 ≤ p) (hp1 : p < 12) : Calls Tryz.prog 28 #[.pointer (some ⟨K.m, 0, none⟩), .int .i64 p, Gm.plV (placeP p)] w fun e w' => e = .returned (.int .i64 (Gm.setE Lp p (placeP p))) ∧ Hid (MZ PM V X w0 w' K Sp (Gm.setL Lp p (placeP p)) Sd Ld) := by
  obtain ⟨T, κ, tb, h⟩ := h
  obtain ⟨D, hpv⟩ := C.pv h.pm
  have o := h.o
  have h1 := o.sm
  have h3 := o.mB
  have h4 := o.Bq
  have h5 := o.qb
  have h6 := o.bg
  refine (Gm.set_any K.m Lp _ p _ (placeP p) rfl rfl w hpv.mp).mono fun e w' ⟨h2, h3, h4⟩ => ⟨h2, Lib.hid ?_⟩
  have hk : Kq [K.m] w w' := Kq.of_grown h4 (by simp)
  obtain ⟨κ', tb', hp⟩ := C.set p h.pm hk (fun x hx => by
    simp only [List.mem_cons, List.not_mem_nil, or_false]
    rcases List.mem_cons.1 hx with rfl | hx
    · omega
    rcases List.mem_cons.1 hx with rfl | hx
    · omega
    · have := (h.tT x hx).1
      omega) (fun x hx => by
      have := h.nb
      have := o.ws
      simp only [List.mem_cons, List.not_mem_nil, or_false] at hx
      omega) h3 hp0 hp1
  exact ⟨T, κ', tb', mz_core (Y := [K.m]) h.o h.nb h.tT h.dv h.st h.b (C.tag h.pm) (h.c0 C) hp (fun x hx => .inl hx) hk (fun y hy => by
    simp only [List.mem_cons, List.not_mem_nil, or_false] at hy
    exact .inr (.inr (.inl hy)))⟩
theorem MZB.enter (h : MZB PM V X w0 w K tb Sp Lp Sd Ld) (hb : Below w.heap.size w U) (Y : List Nat) (hY : ∀ y ∈ Y, w.heap.size ≤ y ∧ y < U.heap.size) : MZB PM U (Y ++ X) w0 U K tb Sp Lp Sd Ld := by
  obtain ⟨T, κ, h⟩ := h
  have h1 := h.more C hb
  have hgl := h.glt
  refine ⟨T, κ, h1.pm, fun t ht => ⟨(h1.tT t ht).1, fun hm => ?_⟩, h1.dv, h1.o, h1.nb, fun x hx => ?_, h1.b⟩
  · rcases List.mem_append.1 hm with hm | hm
    · have := (hY t hm).1
      have := C.lt h.pm t ht
      omega
    · exact (h1.tT t ht).2 hm
  · rcases List.mem_append.1 hx with hx | hx
    · have := hY x hx
      exact ⟨by omega, this.2, rfl⟩
    · obtain ⟨s1, s2, s3⟩ := h1.st x hx
      exact ⟨s1, s2, rfl⟩
omit C in
theorem MZB.st (h : MZB PM V X w0 w K tb Sp Lp Sd Ld) : ∀ x ∈ X, K.g < x ∧ x < w.heap.size ∧ w.heap[x]? = V.heap[x]? := h.mz.st
omit C in
theorem MZB.blk (h : MZB PM V X w0 w K tb Sp Lp Sd Ld) {x : Nat} {t : TypeId} {cs : List Value} (hx : x ∈ X) (hb : Blk V x t cs) : Blk w x t cs := hb.of_block (h.st x hx).2.2
omit C in
theorem MZB.leave {tb' : Int → Bool} (h : MZB PM V X w0 w K tb Sp Lp Sd Ld) (hb : Below w.heap.size w U) (h' : MZB PM U (Y ++ X) w0 w' K tb' Sp' Lp' Sd' Ld') : MZB PM V X w0 w' K tb' Sp' Lp' Sd' Ld' := by
  have hst := h.st
  obtain ⟨T, κ, h'⟩ := h'
  refine ⟨T, κ, h'.pm, fun t ht => ⟨(h'.tT t ht).1, fun hm => (h'.tT t ht).2 (List.mem_append_right _ hm)⟩, h'.dv, h'.o, h'.nb, fun x hx => ?_, h'.b⟩
  obtain ⟨s1, s2, s3⟩ := h'.st x (List.mem_append_right _ hx)
  obtain ⟨t1, t2, t3⟩ := hst x hx
  exact ⟨s1, s2, s3.trans ((hb.block x t2).trans t3)⟩
omit C in
theorem MZB.none {V' : World} (h : MZB PM V X w0 w K tb Sp Lp Sd Ld) : MZ PM V' [] w0 w K Sp Lp Sd Ld := by
  obtain ⟨T, κ, h⟩ := h
  exact ⟨T, κ, tb, h.pm, fun t ht => ⟨(h.tT t ht).1, by simp⟩, h.dv, h.o, h.nb, fun x hx => absurd hx (by simp), h.b⟩
omit C in
/-- a slice that was kept reads as it did -/
theorem MZB.irow {k : Nat} {a : Option Addr} {xs : List (List Int)} (h : MZB PM V X w0 w K tb Sp Lp Sd Ld) (hr : IRow k V a xs) (ha : ∀ y, a = some y → 0 < xs.length → y.block ∈ X) : IRow k w a xs := fun i x hx => by
  obtain ⟨y, e, hy, hc⟩ := hr i x hx
  have hm := ha y e (by have := (List.getElem?_eq_some_iff.1 hx).1; omega)
  obtain ⟨_, h2, h3⟩ := h.st _ hm
  refine ⟨y, e, h2, fun j z hz => ?_⟩
  rw [World.cell?_of_block (w := V)]
  · exact hc j z hz
  · rw [block_of_add]
    exact h3
omit C in
/-- the document's -/
theorem dFind (h : MZ PM V X w0 w K Sp Lp Sd Ld) (on us : Bool) (rt z k : Int) (h0 : 0 ≤ z) (h1 : z < 4294967296) :
    Calls Tryz.prog 10 #[.pointer (some ⟨K.g, 0, none⟩), modeV on rt us, .int .u32 z, .int .i64 k] w fun e w' => e = .returned (.tuple #[hitX (locF 12 Sd Ld on rt us z k).1 false, .int .i64 (locF 12 Sd Ld on rt us z k).2]) ∧ Below w.heap.size w w' := by
  obtain ⟨D, hd⟩ := h.dv
  exact Wa.refFind_any on us rt z k _ _ h0 h1 rfl rfl w hd
omit C in
theorem dLoad (h : MZ PM V X w0 w K Sp Lp Sd Ld) (on us : Bool) (rt z wd k : Int) (h0 : 0 ≤ z) (h1 : z < 4294967296) :
    Calls Tryz.prog 12 #[.pointer (some ⟨K.g, 0, none⟩), modeV on rt us, .int .u32 z, .int .i64 wd, .int .i64 k] w fun e w' => e = .returned (.tuple #[.int .u32 (ld20 12 Sd Ld on rt us z wd k).1, .int .i64 (ld20 12 Sd Ld on rt us z wd k).2]) ∧ Below w.heap.size w w' := by
  obtain ⟨D, hd⟩ := h.dv
  exact refLoad20_any on us rt z wd k _ _ h0 h1 rfl w hd
theorem dSave (h : MZ PM V X w0 w K Sp Lp Sd Ld) (on us : Bool) (rt z wd x : Int) (h0 : 0 ≤ z) (h1 : z < 4294967296) (h2 : 0 ≤ x) (h3 : x < 4294967296) :
    Calls Tryz.prog 19 #[.pointer (some ⟨K.g, 0, none⟩), modeV on rt us, .int .u32 z, .int .i64 wd, .int .u32 x] w fun e w' => e = .returned (.int .i64 (sc20 12 Sd Ld on rt us z wd)) ∧ Hid (MZ PM V X w0 w' K Sp Lp (ss20 12 Sd Ld on rt us z wd x) Ld) := by
  obtain ⟨D, hd⟩ := h.dv
  exact (refSave20_any on us rt z wd x _ _ h0 h1 h2 h3 rfl rfl w hd).mono fun e w' ⟨h4, h5, h6⟩ => ⟨h4, Lib.hid (h.doc C ⟨D, h5⟩ (h6.more fun q hq => by simp at hq; simp [hq]))⟩
theorem dVSave (h : MZ PM V X w0 w K Sp Lp Sd Ld) (z wd x : Int) (h0 : 0 ≤ z) (h1 : z < 4294967296) (h2 : 0 ≤ x) (h3 : x < 4294967296) :
    Calls Tryz.prog 33 #[.pointer (some ⟨K.g, 0, none⟩), .int .u32 z, .int .i64 wd, .int .u32 x] w fun e w' => e = .returned (.int .i64 (findF 12 Ld z wd 2)) ∧ Hid (MZ PM V X w0 w' K Sp Lp (saveS 12 Sd Ld z wd x) Ld) := by
  obtain ⟨D, hd⟩ := h.dv
  exact (Vw.refSave_any z wd x _ _ _ h0 h1 h2 h3 rfl rfl rfl w hd).mono fun e w' ⟨h4, h5, h6⟩ => ⟨h4, Lib.hid (h.doc C ⟨_, h5⟩ (h6.more fun q hq => by
    simp only [List.mem_cons, List.not_mem_nil, or_false] at hq ⊢
    rcases hq with h | h
    · exact .inl h
    · exact .inr (.inl h)))⟩
theorem dSet (h : MZ PM V X w0 w K Sp Lp Sd Ld) (p : Int) (pl : Gm.Pl) : Calls Tryz.prog 30 #[.pointer (some ⟨K.q, 0, none⟩), .int .i64 p, Gm.plV pl] w fun e w' => e = .returned (.int .i64 (Gm.setE Ld p pl)) ∧ Hid (MZ PM V X w0 w' K Sp Lp Sd (Gm.setL Ld p pl)) := by
  obtain ⟨D, hd⟩ := h.dv
  exact (Gm.refSet_any K.q Ld _ p _ pl rfl rfl w hd.mp).mono fun e w' ⟨h4, h5, h6⟩ => ⟨h4, Lib.hid (h.doc C ⟨D, dv_mapped hd h5 h6⟩ (Kq.of_grown h6 (by simp)))⟩
omit C in
theorem dDrop (p : Int) (h : MZd PM V X w0 w K p Sp Lp Sd Ld) : Calls Tryz.prog 35 #[.pointer (some ⟨K.q, 0, none⟩), .int .i64 p] w fun e w' => e = .returned (.int .i64 (Gm.drE Ld p)) ∧ Hid (MZd PM V X w0 w' K p Sp Lp Sd (Gm.drL Ld p)) := by
  obtain ⟨D, hd⟩ := h.dv
  refine (Gm.refDrop_any K.q Ld _ p _ rfl rfl w hd.mp).mono fun e w' ⟨h4, h5, h6⟩ => ⟨h4, Lib.hid ?_⟩
  have hk : Kq [K.q] w w' := Kq.of_grown h6 (by simp)
  have o := h.o
  have h1 := o.ws
  have h2 := o.sm
  have h3 := o.mB
  have h7 := o.Bq
  have h8 := o.qb
  have h9 := o.bg
  obtain ⟨W, T, κ, tb, hp, hT, hk0⟩ := h.ex
  refine ⟨⟨W, T, κ, tb, hp, hT, hk0.trans (hk.more fun q hq => by simp at hq; simp [hq])⟩, ⟨h.mp.1.kq hk (by simp; omega), h.mp.2⟩, ⟨D, dv_mapped hd h5 h6⟩, o, h.nb, fun x hx => ?_, h.b.trans (hk.under (fun y hy => by simp at hy; omega) h.b.size)⟩
  obtain ⟨s1, s2, s3⟩ := h.st x hx
  exact ⟨s1, Nat.lt_of_lt_of_le s2 hk.size, (hk.block x s2 (by simp; omega)).trans s3⟩
end
end Go.Proofs.YteaincdeoajkeaaGreatDoor.Mm
end
section
/- hermitagelaw17: made: a guest's memory of both sides, and the words that stand in it. -/
namespace Go.Proofs.YteaincdeoajkeaaGreatDoor.Wa
open Go.RowKit Go.Shelf Ut Oc Vw
set_option maxRecDepth 100000
set_option linter.unusedVariables false
set_option maxHeartbeats 4000000

/-- is page k there -/
def hereB (x k : Nat) : Bool := bits .and .u16 ((x : Int) / 2 ^ k) 1 == 0
def zk (k : Nat) : Gm.Pl := (11 - (k : Int), 3 - 2 * ((k : Int) / 9))
/-- the map behind the first k pages -/
def mkG (T : Nat → Bool) : Nat → List Gm.Pl
  | 0 => Gm.noP
  | k + 1 => if T k = true then Gm.setL (mkG T k) k (zk k) else mkG T k
abbrev mapG (x : Nat) : List Gm.Pl := mkG (hereB x) 10
/-- words that stand somewhere -/
def PutRow (w : World) (B : Nat) (a : Option Addr) (n : Nat) (Z : Nat → Int × Int) : Prop := ∀ i, i < n → ∃ x, a = some x ∧ x.block < B ∧ w.cell? (x.add (i * 2)) = some (.int .u32 (Z i).1) ∧ w.cell? (x.add (i * 2 + 1)) = some (.int .u32 (Z i).2) ∧ 0 ≤ (Z i).1 ∧ (Z i).1 < 4294967296 ∧ 0 ≤ (Z i).2 ∧ (Z i).2 < 4294967296
def putS (L : List Gm.Pl) (Z : Nat → Int × Int) : Nat → List Int
  | 0 => Fr.zeros
  | i + 1 => saveS 12 (putS L Z i) L (Z i).1 4 (Z i).2
def putD (L : List Gm.Pl) (Z : Nat → Int × Int) : Nat → List Bool
  | 0 => noD
  | i + 1 => saveD 12 L (putD L Z i) (Z i).1 4
def cnt2 (n : Nat) : Nat := min n 200
theorem put_cells {w W : World} {x : Addr} {k B : Nat} {p : Int × Int} (hb : Below B w W) (hx : x.block < B) (h : w.cell? (x.add (k * 2)) = some (.int .u32 p.1) ∧ w.cell? (x.add (k * 2 + 1)) = some (.int .u32 p.2)) :
    W.cell? (x.add (k * 2)) = some (.int .u32 p.1) ∧ W.cell? ⟨(x.add (k * 2)).block, (x.add (k * 2)).off + 1, none⟩ = some (.int .u32 p.2) := by
  have g : ∀ j, W.cell? (x.add (k * 2 + j)) = w.cell? (x.add (k * 2 + j)) := fun j => hb.cell (p := x.add (k * 2 + j)) (by rw [block_of_add]; exact hx)
  refine ⟨(g 0).trans h.1, ?_⟩
  rw [← Gm.add_some2 x _ 1 (by decide)]
  exact (g 1).trans h.2

/-- what made makes -/
structure Md (w0 w : World) (b s m g bt B q gv cap : Nat) (S : List Int) (L : List Gm.Pl) (D : List Bool) : Prop where
  pv : PV w b s m 12 S L D
  dv : DV w g bt B q 12 gv cap S L D
  ws : w0.heap.size ≤ s
  mB : m < B
  qb : q < b
  bg : b < g
  blw : Below w0.heap.size w0 w
section
variable {w0 w w' : World} {b s m g bt B q gv cap : Nat} {S S' : List Int} {L : List Gm.Pl} {D D' : List Bool}
theorem Md.more (h : Md w0 w b s m g bt B q gv cap S L D) (hb : Below w.heap.size w w') : Md w0 w' b s m g bt B q gv cap S L D :=
  ⟨h.pv.more hb, h.dv.more hb, h.ws, h.mB, h.qb, h.bg, h.blw.trans (hb.mono h.blw.size)⟩
/-- both sides wrote -/
theorem Md.both {w1 : World} (h : Md w0 w b s m g bt B q gv cap S L D) (hP : PV w1 b s m 12 S' L D') (hk : Kq [s, b] w w1) : DV w1 g bt B q 12 gv cap S L D ∧ Below w0.heap.size w0 w1 := by
  have h1 := h.pv.sm
  have h2 := h.pv.mb
  have h3 := h.mB
  have h4 := h.dv.bq
  have h5 := h.dv.qg
  have h6 := h.qb
  have h7 := h.bg
  have h8 := h.ws
  refine ⟨h.dv.kq hk (by simp; omega) (by simp; omega) (fun x hx => ?_), h.blw.trans (hk.under (fun y hy => ?_) h.blw.size)⟩
  · rcases List.mem_cons.1 hx with rfl | hx
    · exact .inl (by omega)
    · have e : x = b := by simpa using hx
      rw [e]
      exact .inr (.inl ⟨_, h.pv.cell0⟩)
  · rcases List.mem_cons.1 hy with rfl | hy
    · omega
    · have e : y = b := by simpa using hy
      omega
theorem Md.doc {w1 : World} (hP : PV w b s m 12 S' L D') (hb : Below w0.heap.size w0 w) (ho : w0.heap.size ≤ s ∧ m < B ∧ q < b ∧ b < g) (hg : DV w g bt B q 12 gv cap S L D) (hD : DV w1 g bt B q 12 gv cap S' L D') (hk : Kq [gv, g] w w1) : Md w0 w1 b s m g bt B q gv cap S' L D' := by
  have h1 := hP.sm
  have h2 := hP.mb
  have h4 := hg.bq
  have h5 := hg.qg
  have h6 := hg.gvB.1
  have hb' : b ≠ gv := hg.gv_ne (.inl ⟨_, hP.cell0⟩)
  obtain ⟨o1, o2, o3, o4⟩ := ho
  exact ⟨hP.kq hk (by simp; omega) (by simp; omega) (by simp; omega), hD, o1, o2, o3, o4, hb.trans (hk.under (fun y hy => by
    rcases List.mem_cons.1 hy with rfl | hy
    · omega
    · have e : y = g := by simpa using hy
      omega) hb.size)⟩
end

end Go.Proofs.YteaincdeoajkeaaGreatDoor.Wa
end
section
/- hermitagelaw20: made: a guest's memory of both sides, the words that stand in it, and the Mmu over it. -/
namespace Go.Proofs.YteaincdeoajkeaaGreatDoor.Mm
open Go.RowKit Go.Shelf Ut Oc Vw Wa
set_option maxRecDepth 100000
set_option linter.unusedVariables false
set_option maxHeartbeats 4000000

def all10 (_ : Nat) : Bool := true
/-- the map behind made -/
def map20 : List Gm.Pl := mkG all10 10
theorem map20_lay : Lay map20 := by
  refine ⟨⟨by decide +kernel, fun p hp => ?_⟩, fun i hi => ?_⟩
  · have h : ∀ p ∈ map20, p = (0, 0) ∨ Gm.okB p = true := by decide +kernel
    exact h p hp
  · have h : ∀ i : Fin 12, Gm.plN map20 i = (0, 0) ∨ Gm.plN map20 i = placeP ((i : Nat) : Int) := by decide +kernel
    exact h ⟨i, hi⟩
def cnt20 (n : Nat) : Nat := min n 100
theorem made20_any {PM : PMt} (C : MmuC PM) (room : Int) (hr0 : 0 ≤ room) (hr1 : room ≤ 4) (ai : Option Addr) (li ci B0 : Nat) (Z : Nat → Int × Int) (w : World) (hli : li ≤ 9223372036854775807) (hi : PutRow w B0 ai li Z) (hB0 : B0 ≤ w.heap.size) (hG : PM.G w) (hnb : PM.nb ≤ w.heap.size) :
    Calls Tryz.prog 7 #[.int .i64 room, .slice ai li ci] w fun e w' => ∃ u b g, e = .returned (.tuple #[.pointer (some ⟨u, 0, none⟩), .pointer (some ⟨b, 0, none⟩), .pointer (some ⟨g, 0, none⟩)]) ∧ Hid (∃ K T tb, K.u = u ∧ K.b = b ∧ K.g = g ∧ MZT PM w' [] w w' K T [] tb (putS map20 Z (cnt20 li)) map20 (putS map20 Z (cnt20 li)) map20) := by
  have HC := Lib.hid C
  have HI := Lib.hid hi
  have HB0 := Lib.hid hB0
  have HR := Lib.hid (And.intro hr0 hr1)
  have HGW : Hid (∀ W, Below w.heap.size w W → PM.G W) := Lib.hid fun W hb => C.gb hG (hb.mono hnb)
  have HNB := Lib.hid hnb
  have HN : Hid (Calls Tryz.prog 25 #[.int .i64 12] w fun e w' => e = .returned (.tuple #[.pointer (some ⟨w.heap.size, 0, none⟩), .int .i64 0]) ∧ Fr.St w' w.heap.size 12 Fr.zeros ∧ Below w.heap.size w w') := Lib.hid (Fr.new_ok 12 w (by omega))
  have HRN : Hid (∀ W, Calls Tryz.prog 27 #[.int .i64 12] W fun e w' => e = .returned (.tuple #[.pointer (some ⟨W.heap.size, 0, none⟩), .int .i64 0]) ∧ (∃ v vs, Fr.RT w' W.heap.size W.heap.size 12 (List.replicate 12 Fr.zer) v vs) ∧ Below W.heap.size W w') := Lib.hid fun W => Fr.refNew_ok 12 W (by omega)
  clear hi hB0 C hr0 hr1 hG hnb
  go_enter Tryz.func7, Tryz.ntmps7
  go_wp2_with fail
  refine HN.out.mono ?_
  rintro e w1 ⟨rfl, hs1, hb1⟩
  have HS1 := Lib.hid hs1
  have HB1 := Lib.hid hb1
  clear hs1 hb1 HN
  go_wp2_with fail
  refine (Gm.new_any w1).mono ?_
  rintro e w2 ⟨rfl, hm2, hb2⟩
  have HS2 := Lib.hid (HS1.out.below hb2 HS1.out.lt)
  have HM2 := Lib.hid hm2
  have HB2 := Lib.hid (HB1.out.trans (hb2.mono HB1.out.size))
  have HSM := Lib.hid HS1.out.lt
  clear hm2 hb2 HS1 HB1
  generalize w1.heap.size = m at HM2 HSM ⊢
  go_wp2_with fail
  refine (HRN.out w2).mono ?_
  rintro e w3 ⟨rfl, ⟨tv, tvs, ht3⟩, hb3⟩
  obtain ⟨gv, cap, rfl, hgB, _⟩ := ht3.form (by omega)
  have HT3 := Lib.hid ht3
  have HGV := Lib.hid (ht3.own.lt gv rfl).2
  have HS3 := Lib.hid (HS2.out.below hb3 HS2.out.lt)
  have HM3 := Lib.hid (HM2.out.below hb3 HM2.out.lt)
  have HB3 := Lib.hid (HB2.out.trans (hb3.mono HB2.out.size))
  have HMB := Lib.hid HM2.out.lt
  clear hb3 ht3 hgB HS2 HM2 HB2 HRN
  generalize w2.heap.size = B at HT3 HMB ⊢
  go_upto_region 4 with fail
  refine wp_region_lit ?_
  refine wpList_buildTo rfl 93 _ rfl _ rfl (Gm.rCells Gm.noP).toArray (by kernel_rfl) ?_
  refine Great.wpList_boxTo rfl 93 _ rfl _ rfl w3.heap.size rfl (Gm.rCells Gm.noP).toArray rfl ?_
  have HA := (Below.refl w3.heap.size w3).alloc (Nat.le_refl _) (.cells (Gm.rCells Gm.noP).toArray 93)
  have HR4 : Hid (Gm.RAt (w3.alloc (.cells (Gm.rCells Gm.noP).toArray 93)) w3.heap.size Gm.noP) := Lib.hid ⟨Blk.new w3 _ _, Gm.noP_ok⟩
  have HT4 := Lib.hid (HT3.out.below HA)
  have HS4 := Lib.hid (HS3.out.below HA HS3.out.lt)
  have HM4 := Lib.hid (HM3.out.below HA HM3.out.lt)
  have HB4 := Lib.hid (HB3.out.trans (HA.mono HB3.out.size))
  have HQ := Lib.hid (show B < w3.heap.size from HT3.out.lt)
  generalize w3.alloc (.cells (Gm.rCells Gm.noP).toArray 93) = w4 at HR4 HT4 HS4 HM4 HB4 ⊢
  generalize w3.heap.size = q at HR4 HQ HGV ⊢
  clear HA HT3 HS3 HM3 HB3
  simp only [Act.put, List.setIfInBounds_toArray, List.set_cons_succ, List.set_cons_zero]
  go_wp2
  go_loopw [13] (fun j wr => ∃ k : Nat, k ≤ 10 ∧ j = .int .i64 k ∧ Hid (Gm.MAt wr m (mkG all10 k)) ∧ Hid (Gm.RAt wr q (mkG all10 k)) ∧ Hid (Kq [m, q] w4 wr)) (fun j _ => 10 - (intOf j).toNat)
  case atStart => exact ⟨0, Nat.zero_le _, rfl, HM4, HR4, Kq.refl _ _⟩
  case round =>
    obtain ⟨k, hk, rfl, HM, HRQ, HK⟩ := hrel
    have hTq : ∀ y ∈ [m, q], w.heap.size ≤ y := fun y hy => by
      have h1 := HSM.out
      have h2 := HMB.out
      have h3 := HQ.out
      rcases List.mem_cons.1 hy with rfl | hy
      · omega
      · have e : y = q := (by simpa using hy)
        omega
    by_cases h3 : k < 10
    · have f2 : (k : Int) < 10 := by omega
      have f3 : (0 : Int) ≤ (k : Int) := by omega
      have H3 := Lib.hid h3
      have HLL : Hid (mkG all10 (k + 1) = Gm.setL (mkG all10 k) k (zk k)) := Lib.hid rfl
      have HPL : Hid (∀ W, Calls Tryz.prog 29 #[.int .i64 k] W fun e w' => e = .returned (Gm.plV (zk k)) ∧ Below W.heap.size W w') := Lib.hid fun W => place20_any k (by omega) (by omega) W
      clear h3 hk
      obtain ⟨L2, hl2⟩ : ∃ L2, Gm.setL (mkG all10 k) k (zk k) = L2 := ⟨_, rfl⟩
      obtain ⟨ez, hez⟩ : ∃ ez, Gm.setE (mkG all10 k) k (zk k) = ez := ⟨_, rfl⟩
      have HPM := Lib.hid (fun W h => Gm.set_any m (mkG all10 k) L2 k ez (zk k) hez hl2 W h)
      have HPR := Lib.hid (fun W h => Gm.refSet_any q (mkG all10 k) L2 k ez (zk k) hez hl2 W h)
      rw [hl2] at HLL
      clear hl2 hez
      generalize mkG all10 k = L1 at HM HRQ HPM HPR
      unfold Gm.plV at HPL HPM HPR
      generalize (zk k).1 = pf at HPL HPM HPR
      generalize (zk k).2 = pr at HPL HPM HPR
      go_wp2_with fail
      refine (HPL.out wr).mono ?_
      rintro e X ⟨rfl, hbX⟩
      have HM9 := Lib.hid (HM.out.more hbX)
      have HR9 := Lib.hid (HRQ.out.more hbX)
      have HK9 : Hid (Kq [m, q] w4 X) := Lib.hid (HK.out.trans (Kq.of_below hbX))
      clear hbX HM HRQ HK
      go_wp2_with fail
      refine (HPM.out X HM9.out).mono ?_
      rintro e X1 ⟨rfl, hm, hg⟩
      have HMQ := Lib.hid (Nat.lt_trans HMB.out HQ.out)
      have HMA := Lib.hid hm
      have HRA := Lib.hid (HR9.out.kept hg (fun e => by have := HMQ.out; injection e; omega))
      have HKA : Hid (Kq [m, q] w4 X1) := Lib.hid (HK9.out.trans (Kq.of_grown hg (by simp)))
      clear hm hg HM9 HR9 HK9 HPM
      go_wp2_with fail
      refine (HPL.out X1).mono ?_
      rintro e X2 ⟨rfl, hbX⟩
      have HM8 := Lib.hid (HMA.out.more hbX)
      have HR8 := Lib.hid (HRA.out.more hbX)
      have HK8 : Hid (Kq [m, q] w4 X2) := Lib.hid (HKA.out.trans (Kq.of_below hbX))
      clear hbX HMA HRA HKA HPL
      go_wp2_with fail
      refine (HPR.out X2 HR8.out).mono ?_
      rintro e X3 ⟨rfl, hr, hg⟩
      have HM5 := Lib.hid (HM8.out.kept hg (fun e => by have := HMQ.out; injection e; omega))
      have HR5 := Lib.hid hr
      have HK5 : Hid (Kq [m, q] w4 X3) := Lib.hid (HK8.out.trans (Kq.of_grown hg (by simp)))
      clear hr hg HM8 HR8 HK8 HPR
      rw [← HLL.out] at HM5 HR5
      go_wp2
      go_roundw
      case rel => exact ⟨k + 1, H3.out, by go_num, HM5, HR5, HK5⟩
      case measure => have := H3.out; simp [intOf]; omega
    · obtain rfl : k = 10 := by omega
      have hm0 := HM.out
      have hq0 := HRQ.out
      have hns : w.heap.size ∉ [m, q] := by
        have h1 := HSM.out
        have h2 := HMB.out
        have h3 := HQ.out
        simp
        omega
      have hst : Fr.St wr w.heap.size 12 Fr.zeros := HS4.out.of_block (HK.out.block _ HS4.out.lt hns)
      have hrt := rt_kq HT4.out (by omega) HK.out (fun y hy => by
        have h2 := HMB.out
        rcases List.mem_cons.1 hy with rfl | hy
        · exact .inl h2
        · have e : y = q := (by simpa using hy)
          rw [e]
          exact .inr (.inr (RAt_c0 HR4.out)))
      have hbw : Below w.heap.size w wr := HB4.out.trans (HK.out.under hTq HB4.out.size)
      have HR6 := Lib.hid hq0
      have HT6 := Lib.hid hrt
      have HB6 := Lib.hid hbw
      have HNEW := Lib.hid (new_ok w.heap.size m 12 Fr.zeros (mkG all10 10) wr hst (by omega) hm0 HSM.out)
      clear hm0 hq0 hst hrt hbw hns hTq HM HRQ HS4 HM4 HR4 HT4 HK h3 hk
      generalize hLM : mkG all10 10 = LM at HNEW HR6
      have HLM : Hid (map20 = LM) := Lib.hid hLM
      clear hLM
      go_wp2_with fail
      refine HNEW.out.mono ?_
      rintro e w7 ⟨rfl, hp7, hb7⟩
      have HP7 := Lib.hid hp7
      have HR7 := Lib.hid (HR6.out.more hb7)
      have HT7 := Lib.hid (HT6.out.below hb7)
      have HB7 := Lib.hid (HB6.out.trans (hb7.mono HB6.out.size))
      have HQL := Lib.hid HR6.out.lt
      have HBL := Lib.hid (show wr.heap.size < w7.heap.size from hp7.lt)
      clear hp7 hb7
      generalize wr.heap.size = b at HP7 HQL HBL ⊢
      go_upto_region 13 with fail
      refine wp_region_lit ?_
      refine Great.wpList_readTo rfl _ rfl (.pointer (some ⟨B, 0, none⟩)) (by kernel_rfl) ?_
      refine Great.wpList_readTo rfl _ rfl (.pointer (some ⟨q, 0, none⟩)) (by kernel_rfl) ?_
      refine wpList_buildTo rfl 69 _ rfl _ rfl (vCells B q noD).toArray (by kernel_rfl) ?_
      refine Great.wpList_boxTo rfl 69 _ rfl _ rfl w7.heap.size rfl (vCells B q noD).toArray rfl ?_
      have HA := (Below.refl w7.heap.size w7).alloc (Nat.le_refl _) (.cells (vCells B q noD).toArray 69)
      have HMD : Hid (Md w (w7.alloc (.cells (vCells B q noD).toArray 69)) b w.heap.size m w7.heap.size B B q gv cap Fr.zeros LM noD) := Lib.hid ⟨HP7.out.more HA, ⟨Blk.new w7 _ _, ⟨tvs, by rw [Fr.fr_zeros _ (by omega)]; exact HT7.out.below HA⟩, HR7.out.more HA, rfl, by omega, Fr.zeros_len, Fr.zeros_bytes, by omega, by have := HQ.out; omega, by have := HQL.out; have := HBL.out; omega⟩, Nat.le_refl _, HMB.out, HQL.out, HBL.out, HB7.out.trans (HA.mono HB7.out.size)⟩
      have HGG : Hid (gv < w7.heap.size) := Lib.hid (by have := HGV.out; have := HQL.out; have := HBL.out; omega)
      generalize w7.alloc (.cells (vCells B q noD).toArray 69) = w8 at HMD ⊢
      generalize w7.heap.size = g at HMD HGG ⊢
      clear HA HP7 HR7 HT7 HB7 HQL HBL HNEW HR6 HT6 HB6
      simp only [Act.put, List.setIfInBounds_toArray, List.set_cons_succ, List.set_cons_zero]
      go_wp2
      have hli2 := hli
      go_loopw [17] (fun j wr => ∃ i : Nat, i ≤ cnt20 li ∧ j = .int .i64 i ∧ Hid (Md w wr b w.heap.size m g B B q gv cap (putS LM Z i) LM (putD LM Z i))) (fun j _ => cnt20 li - (intOf j).toNat)
      case atStart => exact ⟨0, Nat.zero_le _, rfl, HMD⟩
      case round =>
        clear HMD
        obtain ⟨i, hic, rfl, HM⟩ := hrel
        by_cases hin : i < li ∧ i < 100
        · obtain ⟨h1, h2⟩ := hin
          obtain ⟨y, rfl, hyb, hy0, hy1, a0, a1, u0, u1⟩ := HI.out i h1
          have HBW : Hid (Below B0 w wr) := Lib.hid (HM.out.blw.mono HB0.out)
          obtain ⟨d0, d1⟩ := put_cells HBW.out hyb ⟨hy0, hy1⟩
          have HCC := Lib.hid (And.intro hyb (And.intro hy0 hy1))
          have f0 : (i : Int) < (li : Int) := by omega
          have f1 : (i : Int) < 100 := by omega
          have f2 : (0 : Int) ≤ (i : Int) := by omega
          have H3 : Hid (i + 1 ≤ cnt20 li) := Lib.hid (by unfold cnt20; omega)
          have HS1 : Hid (putS LM Z (i + 1) = saveS 12 (putS LM Z i) LM (Z i).1 4 (Z i).2) := Lib.hid rfl
          have HS2 : Hid (putD LM Z (i + 1) = saveD 12 LM (putD LM Z i) (Z i).1 4) := Lib.hid rfl
          generalize (Z i).1 = pa at d0 a0 a1 hy0 HCC HS1 HS2
          generalize (Z i).2 = pu at d1 u0 u1 hy1 HCC HS1 HS2
          obtain ⟨c, hc⟩ : ∃ c, findF 12 LM pa 4 2 = c := ⟨_, rfl⟩
          obtain ⟨S2, hS2⟩ : ∃ S2, saveS 12 (putS LM Z i) LM pa 4 pu = S2 := ⟨_, rfl⟩
          obtain ⟨D2, hD2⟩ : ∃ D2, saveD 12 LM (putD LM Z i) pa 4 = D2 := ⟨_, rfl⟩
          have HSP := Lib.hid (fun W h => save_any (b := b) (s := w.heap.size) (m := m) pa 4 pu c S2 D2 a0 a1 u0 u1 hc hS2 hD2 W h)
          have HSD := Lib.hid (fun W h => Vw.refSave_any (g := g) (bt := B) (B := B) (q := q) (gv := gv) (cap := cap) pa 4 pu c S2 D2 a0 a1 u0 u1 hc hS2 hD2 W h)
          rw [hS2] at HS1
          rw [hD2] at HS2
          have hlt := HM.out
          clear hc hS2 hD2 hic h1 h2 hyb hy0 hy1
          generalize putS LM Z i = S1 at HM HSP HSD hlt
          generalize putD LM Z i = D1 at HM HSP HSD hlt
          clear hlt
          go_upto_region 17 with fail
          go_still_tail 11, (by kernel_rfl)
          change wpList _ _ _ _ _ wr.drew
          have HM1 : Hid (Md w wr.drew b w.heap.size m g B B q gv cap S1 LM D1) := Lib.hid (HM.out.more (Below.refl _ _).drew)
          clear d0 d1 HM
          generalize wr.drew = V1 at HM1 ⊢
          go_wp2_with fail
          refine (HSP.out V1 HM1.out.pv).mono ?_
          rintro e V2 ⟨rfl, hp, hk⟩
          have HP2 := Lib.hid hp
          obtain ⟨hd2, hb2⟩ := HM1.out.both hp hk
          have HD2 := Lib.hid hd2
          have HB2 := Lib.hid hb2
          have HO : Hid (w.heap.size ≤ w.heap.size ∧ m < B ∧ q < b ∧ b < g) := Lib.hid ⟨HM1.out.ws, HM1.out.mB, HM1.out.qb, HM1.out.bg⟩
          clear hp hk hd2 HSP HM1
          obtain ⟨d0, d1⟩ := put_cells (p := (pa, pu)) (hb2.mono HB0.out) HCC.out.1 HCC.out.2
          dsimp only at d0 d1
          clear hb2
          go_upto_region 18 with fail
          go_still_tail 11, (by kernel_rfl)
          change wpList _ _ _ _ _ V2.drew
          have HP3 := Lib.hid (HP2.out.more (Below.refl V2.heap.size V2).drew)
          have HD3 := Lib.hid (HD2.out.more (Below.refl V2.heap.size V2).drew)
          have HB3' := Lib.hid (HB2.out.trans ((Below.refl V2.heap.size V2).drew.mono HB2.out.size))
          clear d0 d1 HP2 HD2 HB2
          generalize V2.drew = V3 at HP3 HD3 HB3' ⊢
          go_wp2_with fail
          refine (HSD.out V3 HD3.out).mono ?_
          rintro e V4 ⟨rfl, hd, hk⟩
          have HM4 := Lib.hid (Md.doc HP3.out HB3'.out HO.out HD3.out hd hk)
          clear hd hk HSD HP3 HD3 HB3'
          rw [← HS1.out, ← HS2.out] at HM4
          go_wp2
          go_roundw
          case rel => exact ⟨i + 1, H3.out, by go_num, HM4⟩
          case measure => have := H3.out; simp [intOf]; omega
        · have hc : i = cnt20 li := by unfold cnt20 at *; omega
          have hm0 := HM.out
          rw [hc] at hm0
          have HF := Lib.hid hm0
          have HNW := Lib.hid (HC.out.new room (HGW.out wr hm0.blw) (Nat.le_trans HNB.out hm0.ws) (HLM.out ▸ map20_lay) hm0.pv HR.out.1 HR.out.2)
          have hout : (¬ (i : Int) < (li : Int)) ∨ ((i : Int) < (li : Int) ∧ ¬ (i : Int) < 100) := by omega
          have HEND : Hid (∀ (u : Nat) (w' : World), (∃ T tb, PM.P w' u T b w.heap.size m (putS LM Z (cnt20 li)) LM [] tb ∧ ∀ x ∈ T, wr.heap.size ≤ x) → Kq [b] wr w' → ∃ K T tb, K.u = u ∧ K.b = b ∧ K.g = g ∧ MZT PM w' [] w w' K T [] tb (putS map20 Z (cnt20 li)) map20 (putS map20 Z (cnt20 li)) map20) := Lib.hid fun u w' ⟨T, tb, hp, hT⟩ hk => by
            have h1 := hm0.pv.sm
            have h2 := hm0.pv.mb
            have h3 := hm0.mB
            have h4 := hm0.dv.bq
            have h5 := hm0.qb
            have h6 := hm0.bg
            have h7 := hm0.dv.gvB
            have h8 := hm0.dv.lt
            rw [HLM.out]
            refine ⟨⟨u, b, w.heap.size, m, g, B, B, q, gv, cap⟩, T, tb, rfl, rfl, rfl, hp, fun t ht => ⟨by have := hT t ht; show g < t; omega, by simp⟩, ⟨_, dv_kqN hm0.dv hk (by simp; omega) (by simp; omega) (fun x hx => ?_)⟩, ⟨hm0.ws, h1, h3, h4, h5, h6, h7.1, HGG.out, hm0.dv.gv_ne (.inl ⟨_, hm0.pv.cell0⟩)⟩, HNB.out, fun x hx => absurd hx (by simp), hm0.blw.trans (hk.under (fun y hy => ?_) hm0.blw.size)⟩
            · obtain rfl : x = b := by simpa using hx
              exact .inr ⟨_, hm0.pv.cell0, trivial⟩
            · obtain rfl : y = b := by simpa using hy
              omega
          clear hm0 hin hc HM hic HF
          rcases hout with f1 | ⟨f1, f2⟩
          all_goals
            go_wp2_with fail
            refine HNW.out.mono ?_
            rintro e w9 ⟨⟨u, rfl, hp⟩, hk⟩
            have HE := Lib.hid (HEND.out u w9 hp.out hk)
            clear hp hk HNW HEND
            go_wp2
            go_ret3
            exact ⟨u, b, g, rfl, HE⟩
end Go.Proofs.YteaincdeoajkeaaGreatDoor.Mm
end
