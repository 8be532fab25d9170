/- Several texts in one: Zd Ze Bj Zg Zk Zp -/
import Derived.Test.YteaincdeoajkeaaGreatDoorZ19
import Derived.WalkMore
import Derived.Deep.DeepCutAuto
import Derived.Deep.CutRange
import Derived.Deep.CutBlock
import Derived.Test.YteaincdeoajkeaaGreatDoorZ20
import Derived.Test.YteaincdeoajkeaaGreatDoorZ21
import Derived.Test.YteaincdeoajkeaaGreatDoorZ25
import Derived.Test.YteaincdeoajkeaaGreatDoorZ17
section
/- Package walk: Walk of the program. -/
namespace Go.Proofs.YteaincdeoajkeaaGreatDoor.Wa
open Go.RowKit Go.Shelf Ut Oc Vw
set_option maxRecDepth 100000
set_option linter.unusedVariables false
set_option maxHeartbeats 4000000

/-- the world in which the tables' and the steps' slices are made -/
structure WE (U : World) (b s m n : Nat) (S : List Int) (L : List Gm.Pl) (D : List Bool) (q bp : Nat) (A0 A1 : Int) : Prop where
 pv : PV U b s m n S L D
 bq : b < q
 qp : bp = q + 3
 sz : U.heap.size = q + 7
 vb : Blk U q 25 [.pointer (some ⟨b, 0, none⟩)]
 rb : Blk U (q + 1) 114 stz.cs
 tb : Blk U (bp + 1 + 1) 197 [.int .i64 A0, .pointer (some ⟨q + 2, 4, none⟩), .func (.func 103) #[] #[.pointer (some ⟨bp, 0, none⟩)], .int .i64 A1, .pointer (some ⟨q + 2, 5, none⟩), .func (.func 105) #[] #[.pointer (some ⟨q + 2, 0, none⟩)]]
 fb : Blk U (bp + 1 + 1 + 1) 200 [.func (.func 107) #[] #[.pointer (some ⟨q, 0, none⟩), .pointer (some ⟨bp, 0, none⟩), .pointer (some ⟨bp + 1, 0, none⟩)], .func (.func 109) #[] #[.pointer (some ⟨bp, 0, none⟩), .pointer (some ⟨bp + 1, 0, none⟩)]]
/-- .. in which a walk stands somewhere -/
structure WS (U W : World) (q bp : Nat) (t : Stp) (pg : Int) (u : Nat) : Prop where
 k : Kq [q + 2, bp, bp + 1] U W
 sb : Blk W (q + 2) 114 t.cs
 pb : Blk W bp 3 [.int .i64 pg]
 wb : Blk W (bp + 1) 31 [.int .u32 (u : Int)]

section
variable {U W W' : World} {b s m n q bp : Nat} {S : List Int} {L : List Gm.Pl} {D : List Bool} {A0 A1 : Int} {t : Stp} {pg : Int} {u : Nat}
theorem WS.more (h : WS U W q bp t pg u) (hb : Below W.heap.size W W') : WS U W' q bp t pg u :=
 ⟨h.k.trans (Kq.of_below hb), h.sb.more hb, h.pb.more hb, h.wb.more hb⟩
theorem WS.fault (h : WS U W q bp t pg u) (E : WE U b s m n S L D q bp A0 A1) (f : Int) : WS U (W.setCell ⟨q + 2, 3, none⟩ (.int .i64 f)) q bp ⟨t.o, t.r, t.g, f, t.rt, t.lf⟩ pg u := by
 have e := E.qp
 exact ⟨h.k.setCell (q + 2) 3 _ (.inl (by simp)), h.sb.set 3 (.int .i64 f), h.pb.of_block (Below.heap_setCell _ _ _ _ (by simp; omega)), h.wb.of_block (Below.heap_setCell _ _ _ _ (by simp; omega))⟩
theorem WS.pv (h : WS U W q bp t pg u) (E : WE U b s m n S L D q bp A0 A1) : PV W b s m n S L D := by
 have e := E.qp
 have h1 := E.bq
 have h2 := E.pv.sm
 have h3 := E.pv.mb
 exact E.pv.kq h.k (by simp; omega) (by simp; omega) (by simp; omega)
theorem WS.vb (h : WS U W q bp t pg u) (E : WE U b s m n S L D q bp A0 A1) : Blk W q 25 [.pointer (some ⟨b, 0, none⟩)] := E.vb.kq h.k (by have := E.qp; simp; omega)
theorem WS.rb (h : WS U W q bp t pg u) (E : WE U b s m n S L D q bp A0 A1) : Blk W (q + 1) 114 stz.cs := E.rb.kq h.k (by have := E.qp; simp; omega)
theorem WS.tb (h : WS U W q bp t pg u) (E : WE U b s m n S L D q bp A0 A1) : Blk W (bp + 1 + 1) 197 [.int .i64 A0, .pointer (some ⟨q + 2, 4, none⟩), .func (.func 103) #[] #[.pointer (some ⟨bp, 0, none⟩)], .int .i64 A1, .pointer (some ⟨q + 2, 5, none⟩), .func (.func 105) #[] #[.pointer (some ⟨q + 2, 0, none⟩)]] := E.tb.kq h.k (by have := E.qp; simp; omega)
theorem WS.fb (h : WS U W q bp t pg u) (E : WE U b s m n S L D q bp A0 A1) : Blk W (bp + 1 + 1 + 1) 200 [.func (.func 107) #[] #[.pointer (some ⟨q, 0, none⟩), .pointer (some ⟨bp, 0, none⟩), .pointer (some ⟨bp + 1, 0, none⟩)], .func (.func 109) #[] #[.pointer (some ⟨bp, 0, none⟩), .pointer (some ⟨bp + 1, 0, none⟩)]] := E.fb.kq h.k (by have := E.qp; simp; omega)
theorem WS.blk (h : WS U W q bp t pg u) (E : WE U b s m n S L D q bp A0 A1) {x : Nat} {ty : TypeId} {cs : List Value} (hx : U.heap.size ≤ x) (k : Kq [q + 2, bp, bp + 1] W W') (hb : Blk W x ty cs) : Blk W' x ty cs := hb.kq k (by have := E.qp; have := E.sz; simp; omega)

theorem c_entry (E : WE U b s m n S L D q bp A0 A1) (H : WS U W q bp t pg u) (a : Int) (i x : Nat) (f : Int) (ha : (i : Int) = a) (hi : i < 16) (hf : noneF n L pg = f) (hx : wordT n S L pg i = x) (tq : Addr) (fn : Nat) (cs : Array Value) :
  Calls Tryz.prog 107 #[.agg #[.int .i64 a, .pointer (some tq), .func (.func fn) #[] cs], .pointer (some ⟨q, 0, none⟩), .pointer (some ⟨bp, 0, none⟩), .pointer (some ⟨bp + 1, 0, none⟩)] W fun e w' => e = .returned (.int .i64 f) ∧ WS U w' q bp t pg x ∧ Kq [q + 2, bp, bp + 1] W w' := by
 subst ha
 have e := E.qp
 exact (step_entry pg f i x _ _ _ hi hf hx (H.pv E) (H.vb E) H.pb H.wb tq rfl fn cs rfl).mono fun e w' ⟨he, hw, hk⟩ => ⟨he, ⟨H.k.trans (hk.more (by simp)), H.sb.kq hk (by simp; omega), H.pb.kq hk (by simp), hw⟩, hk.more (by simp)⟩
theorem c_root (E : WE U b s m n S L D q bp A0 A1) (H : WS U W q bp t pg u) (a f z : Int) (i : Nat) (ha : (i : Int) = a) (hu : u < 4294967296) (hf : Pe.tabF u = f) (hz : Pe.gF (Pe.tabF u) u = z) :
  Calls Tryz.prog 109 #[.agg #[.int .i64 a, .pointer (some ⟨q + 2, 4, none⟩), .func (.func 103) #[] #[.pointer (some ⟨bp, 0, none⟩)]], .pointer (some ⟨bp, 0, none⟩), .pointer (some ⟨bp + 1, 0, none⟩)] W fun e w' => e = .returned (.int .i64 f) ∧ WS U w' q bp ⟨t.o, t.r, t.g, t.f, pg, t.lf⟩ z u ∧ Kq [q + 2, bp, bp + 1] W w' := by
 subst ha
 have e := E.qp
 refine step_take pg f i 4 u _ _ t (fun _ _ => rfl) H.sb H.pb H.wb (by omega) (by omega) t.rt rfl (fun w' => WS U w' q bp ⟨t.o, t.r, t.g, t.f, pg, t.lf⟩ z u ∧ Kq [q + 2, bp, bp + 1] W w') fun X hs hp hk => ?_
 exact (take_root u z f pg hu hz hf hp).mono fun e w' ⟨he, hp', hk'⟩ => ⟨he, ⟨(H.k.trans (hk.more (by simp))).trans (hk'.more (by simp)), hs.kq hk' (by simp; omega), hp', (H.wb.kq hk (by simp; omega)).kq hk' (by simp)⟩, (hk.more (by simp)).trans (hk'.more (by simp))⟩
theorem c_leaf (E : WE U b s m n S L D q bp A0 A1) (H : WS U W q bp t pg u) (a f : Int) (i : Nat) (ha : (i : Int) = a) (hu : u < 4294967296) (hf : Pe.leafF u = f) :
  Calls Tryz.prog 109 #[.agg #[.int .i64 a, .pointer (some ⟨q + 2, 5, none⟩), .func (.func 105) #[] #[.pointer (some ⟨q + 2, 0, none⟩)]], .pointer (some ⟨bp, 0, none⟩), .pointer (some ⟨bp + 1, 0, none⟩)] W fun e w' => e = .returned (.int .i64 f) ∧ WS U w' q bp ⟨Pe.oF f, Pe.rF f u, Pe.gF f u, t.f, t.rt, pg⟩ pg u ∧ Kq [q + 2, bp, bp + 1] W w' := by
 subst ha
 have e := E.qp
 refine step_take pg f i 5 u _ _ t (fun _ _ => rfl) H.sb H.pb H.wb (by omega) (by omega) t.lf rfl (fun w' => WS U w' q bp ⟨Pe.oF f, Pe.rF f u, Pe.gF f u, t.f, t.rt, pg⟩ pg u ∧ Kq [q + 2, bp, bp + 1] W w') fun X hs hp hk => ?_
 exact (take_leaf (t := ⟨t.o, t.r, t.g, t.f, t.rt, pg⟩) u f hu hf hs).mono fun e w' ⟨he, hs', hk'⟩ => ⟨he, ⟨(H.k.trans (hk.more (by simp))).trans (hk'.more (by simp)), hs', hp.kq hk' (by simp; omega), (H.wb.kq hk (by simp; omega)).kq hk' (by simp; omega)⟩, (hk.more (by simp)).trans (hk'.more (by simp))⟩
end

/-- how it begins -/
theorem walk_env (b s m n : Nat) (S : List Int) (L : List Gm.Pl) (D : List Bool) (p z : Int) (w V : World) (hP : PV w b s m n S L D) (hB : Below w.heap.size w V) (hs : V.heap.size = w.heap.size + 3) (hv : Blk V w.heap.size 25 [.pointer (some ⟨b, 0, none⟩)]) (hr : Blk V (w.heap.size + 1) 114 stz.cs) (hn : Blk V (w.heap.size + 2) 114 st0.cs) :
  ∃ U, U = (((V.alloc (.cells #[.int .i64 p] 3)).alloc (.cells #[.int .u32 0] 31)).alloc (.cells #[.int .i64 (z / 1024), .pointer (some ⟨w.heap.size + 2, 4, none⟩), .func (.func 103) #[] #[.pointer (some ⟨V.heap.size, 0, none⟩)], .int .i64 (z % 1024 / 64), .pointer (some ⟨w.heap.size + 2, 5, none⟩), .func (.func 105) #[] #[.pointer (some ⟨w.heap.size + 2, 0, none⟩)]] 197)).alloc (.cells #[.func (.func 107) #[] #[.pointer (some ⟨w.heap.size, 0, none⟩), .pointer (some ⟨V.heap.size, 0, none⟩), .pointer (some ⟨V.heap.size + 1, 0, none⟩)], .func (.func 109) #[] #[.pointer (some ⟨V.heap.size, 0, none⟩), .pointer (some ⟨V.heap.size + 1, 0, none⟩)]] 200) ∧
   WE U b s m n S L D w.heap.size V.heap.size (z / 1024) (z % 1024 / 64) ∧ WS U U w.heap.size V.heap.size st0 p 0 := by
 obtain ⟨V1, e1⟩ : ∃ X, X = V.alloc (.cells #[.int .i64 p] 3) := ⟨_, rfl⟩
 obtain ⟨V2, e2⟩ : ∃ X, X = V1.alloc (.cells #[.int .u32 0] 31) := ⟨_, rfl⟩
 have b1 : Below V.heap.size V V1 := by rw [e1]; exact (Below.refl _ _).alloc (Nat.le_refl _) _
 have b2 : Below V1.heap.size V1 V2 := by rw [e2]; exact (Below.refl _ _).alloc (Nat.le_refl _) _
 have n1 : Blk V1 V.heap.size 3 [.int .i64 p] := by rw [e1]; exact Blk.new _ _ _
 have n2 : Blk V2 V1.heap.size 31 [.int .u32 0] := by rw [e2]; exact Blk.new _ _ _
 have z1 : V1.heap.size = V.heap.size + 1 := by rw [e1]; simp
 have z2 : V2.heap.size = V.heap.size + 1 + 1 := by rw [e2]; simp; omega
 rw [z1] at n2
 refine ⟨_, rfl, ?_, ?_⟩
 all_goals
  rw [← e1, ← e2]
  generalize hc3 : (#[.int .i64 (z / 1024), .pointer (some ⟨w.heap.size + 2, 4, none⟩), .func (.func 103) #[] #[.pointer (some ⟨V.heap.size, 0, none⟩)], .int .i64 (z % 1024 / 64), .pointer (some ⟨w.heap.size + 2, 5, none⟩), .func (.func 105) #[] #[.pointer (some ⟨w.heap.size + 2, 0, none⟩)]] : Array Value) = c3
  generalize hc4 : (#[.func (.func 107) #[] #[.pointer (some ⟨w.heap.size, 0, none⟩), .pointer (some ⟨V.heap.size, 0, none⟩), .pointer (some ⟨V.heap.size + 1, 0, none⟩)], .func (.func 109) #[] #[.pointer (some ⟨V.heap.size, 0, none⟩), .pointer (some ⟨V.heap.size + 1, 0, none⟩)]] : Array Value) = c4
  obtain ⟨V3, e3⟩ : ∃ X, X = V2.alloc (.cells c3 197) := ⟨_, rfl⟩
  rw [← e3]
  have b3 : Below V2.heap.size V2 V3 := by rw [e3]; exact (Below.refl _ _).alloc (Nat.le_refl _) _
  have n3 : V3.heap[V2.heap.size]? = some (.cells c3 197 (0, 0)) := by rw [e3]; exact heap_alloc_new _ _
  have z3 : V3.heap.size = V.heap.size + 1 + 1 + 1 := by rw [e3]; simp; omega
  obtain ⟨V4, e4⟩ : ∃ X, X = V3.alloc (.cells c4 200) := ⟨_, rfl⟩
  rw [← e4]
  have b4 : Below V3.heap.size V3 V4 := by rw [e4]; exact (Below.refl _ _).alloc (Nat.le_refl _) _
  have n4 : V4.heap[V3.heap.size]? = some (.cells c4 200 (0, 0)) := by rw [e4]; exact heap_alloc_new _ _
  have z4 : V4.heap.size = V.heap.size + 1 + 1 + 1 + 1 := by rw [e4]; simp; omega
  have b12 : Below V.heap.size V V4 := ((b1.trans (b2.mono b1.size)).trans (b3.mono (by omega))).trans (b4.mono (by omega))
  have b24 : Below V1.heap.size V1 V4 := (b2.trans (b3.mono (by omega))).trans (b4.mono (by omega))
  have b34 : Below V2.heap.size V2 V4 := b3.trans (b4.mono (by omega))
  rw [z2] at n3
  rw [z3] at n4
  subst hc3 hc4
 ·exact ⟨hP.more (hB.trans (b12.mono (by omega))), hP.lt, hs, by omega, hv.more b12, hr.more b12, (b4.block _ (by omega)).trans n3, n4⟩
 ·exact ⟨Kq.refl _ _, hn.more b12, n1.more b24, n2.more b34⟩
end Go.Proofs.YteaincdeoajkeaaGreatDoor.Wa
end
section
/- Package walk: Walk of the program, whatever the tables say. -/
namespace Go.Proofs.YteaincdeoajkeaaGreatDoor.Wa
open Go.RowKit Go.Shelf Ut Oc Vw
set_option maxRecDepth 100000
set_option linter.unusedVariables false
set_option maxHeartbeats 4000000

section
variable {b s m n : Nat} {S : List Int} {L : List Gm.Pl} {D : List Bool}
theorem walkIn_any (p z : Int) (R : Stp) (h0 : 0 ≤ z) (h1 : z < 16384) (hR : walkF n S L p z = R) (w : World) (hP : PV w b s m n S L D) :
  Calls Tryz.prog 69 #[.pointer (some ⟨b, 0, none⟩), .int .i64 p, .int .u32 z] w fun e w' => e = .returned R.v ∧ Below w.heap.size w w' := by
 have HR2 := step_run ((w.alloc (.cells #[.pointer (some ⟨b, 0, none⟩)] 25)).alloc (.cells #[.bool false, .int .i64 0, .int .i64 0, .int .i64 0, .int .i64 0, .int .i64 0] 114))
 have HN2 : Hid (Blk (((w.alloc (.cells #[.pointer (some ⟨b, 0, none⟩)] 25)).alloc (.cells #[.bool false, .int .i64 0, .int .i64 0, .int .i64 0, .int .i64 0, .int .i64 0] 114)).alloc (.cells stz.cs.toArray 114)) (w.heap.size + 2) 114 stz.cs) := Lib.hid (by
  have := Blk.new ((w.alloc (.cells #[.pointer (some ⟨b, 0, none⟩)] 25)).alloc (.cells #[.bool false, .int .i64 0, .int .i64 0, .int .i64 0, .int .i64 0, .int .i64 0] 114)) 114 stz.cs
  rwa [World.size_alloc, World.size_alloc] at this)
 obtain ⟨V, hV, hB, hs, hv, hr, hn⟩ := walk_new (some ⟨b, 0, none⟩) w
 have HV := Lib.hid hV
 have hs1 := hP.st.2.2.1
 have HBV := Lib.hid hB
 have HPB := Lib.hid hP.lt
 obtain ⟨U, hU, hE, hS⟩ := walk_env b s m n S L D p z w V hP hB hs hv hr hn
 have hbu : Below w.heap.size w U := by
  rw [hU]
  exact (((hB.alloc hB.size _).alloc (by have := hB.size; simp; omega) _).alloc (by have := hB.size; simp; omega) _).alloc (by have := hB.size; simp; omega) _
 have HBU := Lib.hid hbu
 have HU := Lib.hid hU
 have HE := Lib.hid hE
 have HS := Lib.hid hS
 obtain ⟨x, hx⟩ : ∃ x, rootW n S L p z = x := ⟨_, rfl⟩
 obtain ⟨f1, hf1⟩ : ∃ f, noneF n L p = f := ⟨_, rfl⟩
 obtain ⟨f2, hf2⟩ : ∃ f, rootF n S L p z = f := ⟨_, rfl⟩
 obtain ⟨T, hT⟩ : ∃ f, rootT n S L p z = f := ⟨_, rfl⟩
 obtain ⟨y, hy⟩ : ∃ x, leafW n S L p z = x := ⟨_, rfl⟩
 obtain ⟨f4, hf4⟩ : ∃ f, leafE n S L p z = f := ⟨_, rfl⟩
 obtain ⟨f3, hf3⟩ : ∃ f, noneF n L T = f := ⟨_, rfl⟩
 unfold walkF st1 st2 st3 st4 at hR
 rw [if_neg (by omega), hT, hf1, hf2, hf3, hy, hf4] at hR
 have hxl : x < 4294967296 := by rw [← hx]; exact wordT_lt hs1 _ _
 have hyl : y < 4294967296 := by rw [← hy]; exact wordT_lt hs1 _ _
 unfold rootF at hf2
 rw [hx] at hf2
 unfold rootT at hT
 rw [hx, show rootF n S L p z = Pe.tabF x by unfold rootF; rw [hx]] at hT
 unfold leafE at hf4
 rw [hy] at hf4
 unfold rootW at hx
 unfold leafW at hy
 rw [show rootT n S L p z = T by unfold rootT rootF rootW; rw [hx]; exact hT] at hy
 have C1 : Hid (∀ W, WS U W w.heap.size V.heap.size st0 p 0 → _) := Lib.hid fun W h => c_entry hE h (z / 1024) (z / 1024).toNat x f1 (by omega) (by omega) hf1 hx ⟨w.heap.size + 2, 4, none⟩ 103 #[.pointer (some ⟨V.heap.size, 0, none⟩)]
 have C2 : Hid (∀ W, WS U W w.heap.size V.heap.size ⟨false, 0, 0, 0, -1, -1⟩ p x → _) := Lib.hid fun W h => c_root hE h (z / 1024) f2 T (z / 1024).toNat (by omega) hxl hf2 hT
 have C3 : Hid (∀ W, WS U W w.heap.size V.heap.size ⟨false, 0, 0, 0, p, -1⟩ T x → _) := Lib.hid fun W h => c_entry hE h (z % 1024 / 64) (z / 64 % 16).toNat y f3 (by omega) (by omega) hf3 hy ⟨w.heap.size + 2, 5, none⟩ 105 #[.pointer (some ⟨w.heap.size + 2, 0, none⟩)]
 have C4 : Hid (∀ W, WS U W w.heap.size V.heap.size ⟨false, 0, 0, 0, p, -1⟩ T y → _) := Lib.hid fun W h => c_leaf hE h (z % 1024 / 64) f4 (z / 64 % 16).toNat (by omega) hyl hf4
 dsimp only at C2 C3 C4
 have HRR := Lib.hid hR
 clear hbu hV hB hs hv hr hn hP hs1 hU hE hS hx hf1 hf2 hT hy hf4 hf3 hR hxl hyl
 go_enter Tryz.func69, Tryz.ntmps69
 generalize hQQ : bodyPost _ _ _ = QQ
 have HQQ := Lib.hid hQQ
 clear hQQ
 go_upto_region 1 with fail
 go_step3
 go_upto_region 1 with fail
 refine wp_region_lit ?_
 refine wpList_buildTo rfl 114 _ rfl _ rfl st0.cs.toArray (by kernel_rfl) ?_
 refine Great.wpList_allocTo rfl (some 7) rfl (.pointer (some ⟨w.heap.size + 2, 0, none⟩)) (.cells stz.cs.toArray 114) (HR2.out _ _ rfl _ (by simp)) ?_
 refine wpList_store_rowTo rfl 114 _ _ rfl rfl (w.heap.size + 2) st0.cs.toArray (by kernel_rfl) (by kernel_rfl) 114 stz.cs.toArray HN2.out (size_stp _) rfl (one_stp _) ?_
 rw [show World.setRow _ (w.heap.size + 2) st0.cs.toArray = V from HV.out.symm]
 clear HR2 HN2 HV
 simp only [Act.put, List.setIfInBounds_toArray, List.set_cons_succ, List.set_cons_zero]
 go_upto_region 8 with fail
 rw [← HU.out]
 have e0 : Hid (V.heap.size = w.heap.size + 3) := Lib.hid HE.out.qp
 generalize V.heap.size = bp at *
 generalize hA0 : z / 1024 = A0 at *
 generalize hA1 : z % 1024 / 64 = A1 at *
 clear HU hA0 hA1 h0 h1
 go_step3
 go_upto_block 0 with fail
 go_cut [13, 15] from 41 to 59 (fun _ _ wx => ∃ t pg u, Hid (WS U wx w.heap.size bp t pg u) ∧ Hid (t = R))
 case first =>
  go_wp2
  go_loopw [41] (fun j wr => (j = .int .i64 0 ∧ Hid (WS U wr w.heap.size bp st0 p 0)) ∨ (j = .int .i64 1 ∧ Hid (f1 = 0) ∧ Hid (f2 = 0) ∧ Hid (WS U wr w.heap.size bp ⟨false, 0, 0, 0, p, -1⟩ T x)) ∨ (j = .int .i64 2 ∧ Hid (f1 = 0) ∧ Hid (f2 = 0) ∧ Hid (f3 = 0) ∧ Hid (f4 = 0) ∧ Hid (WS U wr w.heap.size bp ⟨Pe.oF 0, Pe.rF 0 y, Pe.gF 0 y, 0, p, T⟩ T y))) (fun j _ => 2 - (intOf j).toNat)
  case atStart => exact .inl ⟨rfl, HS⟩
  case round =>
   rcases hrel with ⟨rfl, HW⟩ | ⟨rfl, HZ1, HZ2, HW⟩ | ⟨rfl, HZ1, HZ2, HZ3, HZ4, HW⟩
   ·skip
    have hT0 := HW.out.tb HE.out
    have d0 := hT0.cell (j := 0) rfl
    have d1 := hT0.cell (j := 1) rfl
    have d2 := hT0.cell (j := 2) rfl
    have dl := hT0.lt
    have HN13 := Lib.hid (Blk.new wr 197 [.int .i64 A0, .pointer (some ⟨w.heap.size + 2, 4, none⟩), .func (.func 103) #[] #[.pointer (some ⟨bp, 0, none⟩)]])
    have HW13 := Lib.hid (HW.out.more ((Below.refl wr.heap.size wr).alloc (Nat.le_refl _) (.cells #[.int .i64 A0, .pointer (some ⟨w.heap.size + 2, 4, none⟩), .func (.func 103) #[] #[.pointer (some ⟨bp, 0, none⟩)]] 197)))
    have HV13 : Hid (U.heap.size ≤ wr.heap.size) := Lib.hid HW.out.k.size
    clear hT0 HW
    go_wp2
    generalize wr.heap.size = V13 at *
    go_loopw [47] (fun j wr => (j = .int .i64 0 ∧ Hid (WS U wr w.heap.size bp st0 p 0) ∧ Hid (Blk wr V13 197 [.int .i64 A0, .pointer (some ⟨w.heap.size + 2, 4, none⟩), .func (.func 103) #[] #[.pointer (some ⟨bp, 0, none⟩)]])) ∨ (j = .int .i64 1 ∧ Hid (f1 = 0) ∧ Hid (WS U wr w.heap.size bp ⟨false, 0, 0, 0, -1, -1⟩ p x) ∧ Hid (Blk wr V13 197 [.int .i64 A0, .pointer (some ⟨w.heap.size + 2, 4, none⟩), .func (.func 103) #[] #[.pointer (some ⟨bp, 0, none⟩)]])) ∨ (j = .int .i64 2 ∧ Hid (f1 = 0) ∧ Hid (f2 = 0) ∧ Hid (WS U wr w.heap.size bp ⟨false, 0, 0, 0, p, -1⟩ T x) ∧ Hid (Blk wr V13 197 [.int .i64 A0, .pointer (some ⟨w.heap.size + 2, 4, none⟩), .func (.func 103) #[] #[.pointer (some ⟨bp, 0, none⟩)]]))) (fun j _ => 2 - (intOf j).toNat)
    case atStart => exact .inl ⟨rfl, HW13, HN13⟩
    case round =>
     rcases hrel with ⟨rfl, HW, HTB⟩ | ⟨rfl, HZ1, HW, HTB⟩ | ⟨rfl, HZ1, HZ2, HW, HTB⟩
     ·skip
      have hT0 := HTB.out
      have g0 : wr.cell? ⟨V13, 0, none⟩ = some (.int .i64 A0) := hT0.cell rfl
      have g1 : wr.cell? ⟨V13, 1, none⟩ = some (.pointer (some ⟨w.heap.size + 2, 4, none⟩)) := hT0.cell rfl
      have g2 : wr.cell? ⟨V13, 2, none⟩ = some (.func (.func 103) #[] #[.pointer (some ⟨bp, 0, none⟩)]) := hT0.cell rfl
      have gl := hT0.lt
      have hF0 := HW.out.fb HE.out
      have d0 := hF0.cell (j := 0) rfl
      have dl := hF0.lt
      have HC := Lib.hid (C1.out wr HW.out)
      clear hT0 hF0
      go_wp2_with fail
      refine HC.out.mono ?_
      rintro e w3 ⟨rfl, hw3, hk3⟩
      have HT3 := Lib.hid (HW.out.blk HE.out HV13.out hk3 HTB.out)
      have HW4 : Hid (WS U (w3.setCell ⟨w.heap.size + 2, 3, none⟩ (.int .i64 f1)) w.heap.size bp ⟨false, 0, 0, f1, -1, -1⟩ p x) := Lib.hid (hw3.fault HE.out f1)
      have HT4 : Hid (Blk (w3.setCell ⟨w.heap.size + 2, 3, none⟩ (.int .i64 f1)) V13 197 _) := Lib.hid (HT3.out.of_block (Below.heap_setCell _ _ _ _ (by have := HV13.out; have := HE.out.qp; have := HE.out.sz; simp; omega)))
      have f0 := hw3.sb.frozen 3
      have s0 := hw3.sb.cell (j := 3) rfl
      have l0 := hw3.sb.lt
      clear hw3 hk3 HT3 g0 g1 g2 gl d0 dl HC HW HTB
      by_cases hz : f1 = 0
      ·have HZ1 := Lib.hid hz
       rw [hz] at HW4 HT4
       have hz2 : (f1 != 0) = false := by simp [hz]
       go_wp2
       go_roundw
       case rel => exact .inr (.inl ⟨rfl, HZ1, HW4, HT4⟩)
       case measure => simp [intOf]
      ·have hz2 : (f1 != 0) = true := by simp [hz]
       have HR5 : Hid (⟨false, 0, 0, f1, -1, -1⟩ = R) := Lib.hid (Eq.symm <| HRR.out.symm.trans (if_pos hz))
       go_wp2
       go_meet
       exact ⟨_, _, _, HW4, HR5⟩
     ·skip
      have hT0 := HTB.out
      have g0 : wr.cell? ⟨V13, 0, none⟩ = some (.int .i64 A0) := hT0.cell rfl
      have g1 : wr.cell? ⟨V13, 1, none⟩ = some (.pointer (some ⟨w.heap.size + 2, 4, none⟩)) := hT0.cell rfl
      have g2 : wr.cell? ⟨V13, 2, none⟩ = some (.func (.func 103) #[] #[.pointer (some ⟨bp, 0, none⟩)]) := hT0.cell rfl
      have gl := hT0.lt
      have hF0 := HW.out.fb HE.out
      have d1 := hF0.cell (j := 1) rfl
      have dl := hF0.lt
      have HC := Lib.hid (C2.out wr HW.out)
      clear hT0 hF0
      go_wp2_with fail
      refine HC.out.mono ?_
      rintro e w3 ⟨rfl, hw3, hk3⟩
      have HT3 := Lib.hid (HW.out.blk HE.out HV13.out hk3 HTB.out)
      have HW4 : Hid (WS U (w3.setCell ⟨w.heap.size + 2, 3, none⟩ (.int .i64 f2)) w.heap.size bp ⟨false, 0, 0, f2, p, -1⟩ T x) := Lib.hid (hw3.fault HE.out f2)
      have HT4 : Hid (Blk (w3.setCell ⟨w.heap.size + 2, 3, none⟩ (.int .i64 f2)) V13 197 _) := Lib.hid (HT3.out.of_block (Below.heap_setCell _ _ _ _ (by have := HV13.out; have := HE.out.qp; have := HE.out.sz; simp; omega)))
      have f0 := hw3.sb.frozen 3
      have s0 := hw3.sb.cell (j := 3) rfl
      have l0 := hw3.sb.lt
      clear hw3 hk3 HT3 g0 g1 g2 gl d1 dl HC HW HTB
      by_cases hz : f2 = 0
      ·have HZ2 := Lib.hid hz
       rw [hz] at HW4 HT4
       have hz2 : (f2 != 0) = false := by simp [hz]
       go_wp2
       go_roundw
       case rel => exact .inr (.inr ⟨rfl, HZ1, HZ2, HW4, HT4⟩)
       case measure => simp [intOf]
      ·have hz2 : (f2 != 0) = true := by simp [hz]
       have HR5 : Hid (⟨false, 0, 0, f2, p, -1⟩ = R) := Lib.hid (Eq.symm <| HRR.out.symm.trans ((if_neg (fun hh => hh HZ1.out)).trans (if_pos hz)))
       go_wp2
       go_meet
       exact ⟨_, _, _, HW4, HR5⟩
     ·go_wp2
      go_roundw
      case rel => exact .inr (.inl ⟨rfl, HZ1, HZ2, HW⟩)
      case measure => simp [intOf]
   ·skip
    have hT0 := HW.out.tb HE.out
    have d0 := hT0.cell (j := 3) rfl
    have d1 := hT0.cell (j := 4) rfl
    have d2 := hT0.cell (j := 5) rfl
    have dl := hT0.lt
    have HN13 := Lib.hid (Blk.new wr 197 [.int .i64 A1, .pointer (some ⟨w.heap.size + 2, 5, none⟩), .func (.func 105) #[] #[.pointer (some ⟨w.heap.size + 2, 0, none⟩)]])
    have HW13 := Lib.hid (HW.out.more ((Below.refl wr.heap.size wr).alloc (Nat.le_refl _) (.cells #[.int .i64 A1, .pointer (some ⟨w.heap.size + 2, 5, none⟩), .func (.func 105) #[] #[.pointer (some ⟨w.heap.size + 2, 0, none⟩)]] 197)))
    have HV13 : Hid (U.heap.size ≤ wr.heap.size) := Lib.hid HW.out.k.size
    clear hT0 HW
    go_wp2
    generalize wr.heap.size = V13 at *
    go_loopw [47] (fun j wr => (j = .int .i64 0 ∧ Hid (WS U wr w.heap.size bp ⟨false, 0, 0, 0, p, -1⟩ T x) ∧ Hid (Blk wr V13 197 [.int .i64 A1, .pointer (some ⟨w.heap.size + 2, 5, none⟩), .func (.func 105) #[] #[.pointer (some ⟨w.heap.size + 2, 0, none⟩)]])) ∨ (j = .int .i64 1 ∧ Hid (f3 = 0) ∧ Hid (WS U wr w.heap.size bp ⟨false, 0, 0, 0, p, -1⟩ T y) ∧ Hid (Blk wr V13 197 [.int .i64 A1, .pointer (some ⟨w.heap.size + 2, 5, none⟩), .func (.func 105) #[] #[.pointer (some ⟨w.heap.size + 2, 0, none⟩)]])) ∨ (j = .int .i64 2 ∧ Hid (f3 = 0) ∧ Hid (f4 = 0) ∧ Hid (WS U wr w.heap.size bp ⟨Pe.oF 0, Pe.rF 0 y, Pe.gF 0 y, 0, p, T⟩ T y) ∧ Hid (Blk wr V13 197 [.int .i64 A1, .pointer (some ⟨w.heap.size + 2, 5, none⟩), .func (.func 105) #[] #[.pointer (some ⟨w.heap.size + 2, 0, none⟩)]]))) (fun j _ => 2 - (intOf j).toNat)
    case atStart => exact .inl ⟨rfl, HW13, HN13⟩
    case round =>
     rcases hrel with ⟨rfl, HW, HTB⟩ | ⟨rfl, HZ3, HW, HTB⟩ | ⟨rfl, HZ3, HZ4, HW, HTB⟩
     ·skip
      have hT0 := HTB.out
      have g0 : wr.cell? ⟨V13, 0, none⟩ = some (.int .i64 A1) := hT0.cell rfl
      have g1 : wr.cell? ⟨V13, 1, none⟩ = some (.pointer (some ⟨w.heap.size + 2, 5, none⟩)) := hT0.cell rfl
      have g2 : wr.cell? ⟨V13, 2, none⟩ = some (.func (.func 105) #[] #[.pointer (some ⟨w.heap.size + 2, 0, none⟩)]) := hT0.cell rfl
      have gl := hT0.lt
      have hF0 := HW.out.fb HE.out
      have d0 := hF0.cell (j := 0) rfl
      have dl := hF0.lt
      have HC := Lib.hid (C3.out wr HW.out)
      clear hT0 hF0
      go_wp2_with fail
      refine HC.out.mono ?_
      rintro e w3 ⟨rfl, hw3, hk3⟩
      have HT3 := Lib.hid (HW.out.blk HE.out HV13.out hk3 HTB.out)
      have HW4 : Hid (WS U (w3.setCell ⟨w.heap.size + 2, 3, none⟩ (.int .i64 f3)) w.heap.size bp ⟨false, 0, 0, f3, p, -1⟩ T y) := Lib.hid (hw3.fault HE.out f3)
      have HT4 : Hid (Blk (w3.setCell ⟨w.heap.size + 2, 3, none⟩ (.int .i64 f3)) V13 197 _) := Lib.hid (HT3.out.of_block (Below.heap_setCell _ _ _ _ (by have := HV13.out; have := HE.out.qp; have := HE.out.sz; simp; omega)))
      have f0 := hw3.sb.frozen 3
      have s0 := hw3.sb.cell (j := 3) rfl
      have l0 := hw3.sb.lt
      clear hw3 hk3 HT3 g0 g1 g2 gl d0 dl HC HW HTB
      by_cases hz : f3 = 0
      ·have HZ3 := Lib.hid hz
       rw [hz] at HW4 HT4
       have hz2 : (f3 != 0) = false := by simp [hz]
       go_wp2
       go_roundw
       case rel => exact .inr (.inl ⟨rfl, HZ3, HW4, HT4⟩)
       case measure => simp [intOf]
      ·have hz2 : (f3 != 0) = true := by simp [hz]
       have HR5 : Hid (⟨false, 0, 0, f3, p, -1⟩ = R) := Lib.hid (Eq.symm <| HRR.out.symm.trans ((if_neg (fun hh => hh HZ1.out)).trans ((if_neg (fun hh => hh HZ2.out)).trans (if_pos hz))))
       go_wp2
       go_meet
       exact ⟨_, _, _, HW4, HR5⟩
     ·skip
      have hT0 := HTB.out
      have g0 : wr.cell? ⟨V13, 0, none⟩ = some (.int .i64 A1) := hT0.cell rfl
      have g1 : wr.cell? ⟨V13, 1, none⟩ = some (.pointer (some ⟨w.heap.size + 2, 5, none⟩)) := hT0.cell rfl
      have g2 : wr.cell? ⟨V13, 2, none⟩ = some (.func (.func 105) #[] #[.pointer (some ⟨w.heap.size + 2, 0, none⟩)]) := hT0.cell rfl
      have gl := hT0.lt
      have hF0 := HW.out.fb HE.out
      have d1 := hF0.cell (j := 1) rfl
      have dl := hF0.lt
      have HC := Lib.hid (C4.out wr HW.out)
      clear hT0 hF0
      go_wp2_with fail
      refine HC.out.mono ?_
      rintro e w3 ⟨rfl, hw3, hk3⟩
      have HT3 := Lib.hid (HW.out.blk HE.out HV13.out hk3 HTB.out)
      have HW4 : Hid (WS U (w3.setCell ⟨w.heap.size + 2, 3, none⟩ (.int .i64 f4)) w.heap.size bp ⟨Pe.oF f4, Pe.rF f4 y, Pe.gF f4 y, f4, p, T⟩ T y) := Lib.hid (hw3.fault HE.out f4)
      have HT4 : Hid (Blk (w3.setCell ⟨w.heap.size + 2, 3, none⟩ (.int .i64 f4)) V13 197 _) := Lib.hid (HT3.out.of_block (Below.heap_setCell _ _ _ _ (by have := HV13.out; have := HE.out.qp; have := HE.out.sz; simp; omega)))
      have f0 := hw3.sb.frozen 3
      have s0 := hw3.sb.cell (j := 3) rfl
      have l0 := hw3.sb.lt
      clear hw3 hk3 HT3 g0 g1 g2 gl d1 dl HC HW HTB
      by_cases hz : f4 = 0
      ·have HZ4 := Lib.hid hz
       rw [hz] at HW4 HT4
       have hz2 : (f4 != 0) = false := by simp [hz]
       go_wp2
       go_roundw
       case rel => exact .inr (.inr ⟨rfl, HZ3, HZ4, HW4, HT4⟩)
       case measure => simp [intOf]
      ·have hz2 : (f4 != 0) = true := by simp [hz]
       have HR5 : Hid (⟨Pe.oF f4, Pe.rF f4 y, Pe.gF f4 y, f4, p, T⟩ = R) := Lib.hid (Eq.symm <| HRR.out.symm.trans ((if_neg (fun hh => hh HZ1.out)).trans ((if_neg (fun hh => hh HZ2.out)).trans (if_neg (fun hh => hh HZ3.out)))))
       go_wp2
       go_meet
       exact ⟨_, _, _, HW4, HR5⟩
     ·go_wp2
      go_roundw
      case rel => exact .inr (.inr ⟨rfl, HZ1, HZ2, HZ3, HZ4, HW⟩)
      case measure => simp [intOf]
   ·have HR5 : Hid (⟨Pe.oF 0, Pe.rF 0 y, Pe.gF 0 y, 0, p, T⟩ = R) := Lib.hid (Eq.symm <| HRR.out.symm.trans ((if_neg (fun hh => hh HZ1.out)).trans ((if_neg (fun hh => hh HZ2.out)).trans ((if_neg (fun hh => hh HZ3.out)).trans (by rw [HZ4.out])))))
    go_wp2
    go_meet
    exact ⟨_, _, _, HW, HR5⟩
 case rest =>
  obtain ⟨t, pg, u, HW, HR5⟩ := hcut
  rw [← HR5.out] at HQQ
  clear HR5 C1 C2 C3 C4 HRR HS
  have HN3 := Lib.hid HW.out.sb
  have HR3 := Lib.hid (HW.out.rb HE.out)
  have HB3 : Hid (Below w.heap.size w wc) := Lib.hid (HBU.out.trans (HW.out.k.under (fun j hj => by have := e0.out; simp at hj; omega) HBU.out.size))
  go_upto_region 18 with fail
  refine wp_region_lit ?_
  refine wpList_load_row rfl 114 _ rfl (w.heap.size + 2) rfl 114 t.cs.toArray (0, 0) _ HN3.out Tryz.underlying114 rfl (size_stp _) ?_
  refine wpList_store_rowTo rfl 114 _ _ rfl rfl (w.heap.size + 1) t.cs.toArray (by kernel_rfl) (by kernel_rfl) 114 stz.cs.toArray HR3.out (size_stp _) rfl (one_stp _) ?_
  have HR4 := Lib.hid (HR3.out.row t.cs)
  have HB4 := Lib.hid (below_setRow HB3.out (Nat.le_succ w.heap.size) t.cs.toArray)
  generalize World.setRow _ (w.heap.size + 1) t.cs.toArray = Y at HR4 HB4 ⊢
  simp only [Act.put, List.setIfInBounds_toArray, List.set_cons_succ, List.set_cons_zero]
  go_wp2
  rw [Exit.noGoto_ret, ← HQQ.out]
  exact bodyPost_ret (v := Stp.v t) (results_cell_row Tryz.results69 _ _ _ _ _ _ _ rfl HR4.out Tryz.underlying114 rfl (size_stp _)) rfl ⟨rfl, HB4.out⟩
theorem walk_any (p z : Int) (R : Stp) (h0 : 0 ≤ z) (h1 : z < 4294967296) (hR : walkF n S L p z = R) (w : World) (hP : PV w b s m n S L D) :
  Calls Tryz.prog 69 #[.pointer (some ⟨b, 0, none⟩), .int .i64 p, .int .u32 z] w fun e w' => e = .returned R.v ∧ Below w.heap.size w w' := by
 by_cases h : z < 16384
 ·exact walkIn_any p z R h0 h hR w hP
 ·have e : R = ⟨false, 0, 0, 2, -1, -1⟩ := by
   rw [← hR]
   unfold walkF
   rw [if_pos (by omega)]
  rw [e]
  exact walk_far _ p z (by omega) h1 w
end
end Go.Proofs.YteaincdeoajkeaaGreatDoor.Wa
end
section
/- Package pte: Allows. -/
namespace Go.Proofs.YteaincdeoajkeaaGreatDoor.Pe
open Go.RowKit Ut
set_option linter.unusedVariables false
set_option maxRecDepth 100000
set_option maxHeartbeats 4000000

theorem any1 (r : Int) (y c : Nat) (hy : y % 32 = 2 * (r % 16).toNat) (hc : c < 16) : ([2 * c].any fun z => decide (y &&& z ≠ 0)) = bitB r c := by
 have h : ((List.range 16).all fun a => (List.range 16).all fun c => (2 * a &&& 2 * c) == 2 * (a &&& c)) = true := by decide +kernel
 have h1 := List.all_eq_true.1 (List.all_eq_true.1 h (r % 16).toNat (by simp; omega)) c (by simp; omega)
 rw [beq_iff_eq] at h1
 unfold bitB
 simp only [List.any_cons, List.any_nil, Bool.or_false]
 rw [and_low y (2 * c) 5 (by omega), show (2 ^ 5 : Nat) = 32 from rfl, hy, h1, decide_eq_decide]
 omega
theorem kind_lt (k : Int) : kindN k < 16 := by unfold kindN; repeat (first | omega | split)
theorem rights_word (r : Int) : ∃ y : Nat, y < 4294967296 ∧ r % 4294967296 * 2 % 4294967296 = (y : Int) ∧ y % 32 = 2 * (r % 16).toNat :=
 ⟨(r % 4294967296 * 2 % 4294967296).toNat, by omega, by omega, by omega⟩
theorem allows_none (r g k : Int) (u : Bool) (w : World) :
  Calls Tryz.prog 70 #[pteV false r g, .int .i64 k, .bool u] w fun e w' => e = .returned (.bool false) ∧ Below w.heap.size w w' := by
 have HB := Lib.hid (pte_below false r g w)
 go_enter Tryz.func70, Tryz.ntmps70
 go_wp2
 go_ret
 exact ⟨rfl, HB.out⟩
theorem allows_on (r g k : Int) (u t t8 : Bool) (ht : bitB r (kindN k) = t) (h8 : bitB r 8 = t8) (w : World) :
  Calls Tryz.prog 70 #[pteV true r g, .int .i64 k, .bool u] w fun e w' => e = .returned (.bool (t && (!u || t8))) ∧ Below w.heap.size w w' := by
 obtain ⟨y, hy, ey, hm⟩ := rights_word r
 have K := Lib.hid (needed_any k)
 have A1 := Lib.hid ((any1 r y (kindN k) hm (kind_lt k)).trans ht)
 have A8 : Hid (([16].any fun z => decide (y &&& z ≠ 0)) = t8) := Lib.hid ((any1 r y 8 hm (by omega)).trans h8)
 have HB := Lib.hid (pte_below true r g w)
 have HK := Lib.hid (kind_lt k)
 have HBW : Hid (∀ (W : World) (o : Obj), Below w.heap.size w W → Below w.heap.size w (W.alloc o)) := Lib.hid fun W o h => h.alloc h.size _
 have C : Hid (∀ (a : Option Addr) (n cap : Nat) (zs : List Nat) (W : World) (hr : WordsAt W a n zs) (t : Bool) (ht : (zs.any fun z => decide (y &&& z ≠ 0)) = t), Calls Tryz.prog 110 #[.int .u32 (r % 4294967296 * 2 % 4294967296), .slice a n cap] W fun e w' => e = .returned (.bool t) ∧ W = w') := Lib.hid (fun a n cap zs W hr t ht => by rw [ey]; exact hasAny_any y hy a n cap zs W hr t ht)
 generalize kindN k = n at *
 clear hm ht h8 ey
 cases t
 ·go_enter Tryz.func70, Tryz.ntmps70
  go_wp2_with fail
  refine (K.out _).mono ?_
  rintro e w1 ⟨rfl, rfl⟩
  go_wp2_with fail
  refine (C.out _ 1 1 [2 * n] _ (words_at _ _ _ (by simp) _ 1 rfl (by omega) (by have := HK.out; simp; omega) _ rfl) _ A1.out).mono ?_
  rintro e w1 ⟨rfl, rfl⟩
  go_wp2
  go_ret
  exact ⟨rfl, HBW.out _ _ HB.out⟩
 cases u
 ·go_enter Tryz.func70, Tryz.ntmps70
  go_wp2_with fail
  refine (K.out _).mono ?_
  rintro e w1 ⟨rfl, rfl⟩
  go_wp2_with fail
  refine (C.out _ 1 1 [2 * n] _ (words_at _ _ _ (by simp) _ 1 rfl (by omega) (by have := HK.out; simp; omega) _ rfl) _ A1.out).mono ?_
  rintro e w1 ⟨rfl, rfl⟩
  go_wp2
  go_ret
  exact ⟨rfl, HBW.out _ _ HB.out⟩
 cases t8
 all_goals
  go_enter Tryz.func70, Tryz.ntmps70
  go_wp2_with fail
  refine (K.out _).mono ?_
  rintro e w1 ⟨rfl, rfl⟩
  go_wp2_with fail
  refine (C.out _ 1 1 [2 * n] _ (words_at _ _ _ (by simp) _ 1 rfl (by omega) (by have := HK.out; simp; omega) _ rfl) _ A1.out).mono ?_
  rintro e w1 ⟨rfl, rfl⟩
  go_wp2_with fail
  refine (C.out _ 1 1 [16] _ (words_at _ _ _ (by simp) _ 1 rfl (by omega) (by decide) _ rfl) _ A8.out).mono ?_
  rintro e w1 ⟨rfl, rfl⟩
  go_wp2
  go_ret
  exact ⟨rfl, HBW.out _ _ (HBW.out _ _ HB.out)⟩
theorem allows_any (o : Bool) (r g k : Int) (u t : Bool) (ht : alwB o r k u = t) (w : World) :
  Calls Tryz.prog 70 #[pteV o r g, .int .i64 k, .bool u] w fun e w' => e = .returned (.bool t) ∧ Below w.heap.size w w' := by
 subst ht
 unfold alwB
 cases o
 ·exact allows_none r g k u w
 ·rw [Bool.true_and]
  exact allows_on r g k u _ _ rfl rfl w
end Go.Proofs.YteaincdeoajkeaaGreatDoor.Pe
end
section
/- Package walk: Find. -/
namespace Go.Proofs.YteaincdeoajkeaaGreatDoor.Wa
open Go.RowKit Go.Shelf Ut Oc Vw
set_option maxRecDepth 100000
set_option linter.unusedVariables false
set_option maxHeartbeats 4000000

section
variable {b s m n : Nat} {S : List Int} {L : List Gm.Pl} {D : List Bool}
theorem find_off (rt z k c : Int) (us : Bool) (h : Int × Int × Int) (h0 : 0 ≤ z) (h1 : z < 4294967296) (hc : findF n L z 1 k = c) (hh : hitF n L z 1 k = h) (w : World) (hP : PV w b s m n S L D) :
  Calls Tryz.prog 38 #[.pointer (some ⟨b, 0, none⟩), .agg #[.bool false, .int .i64 rt, .bool us], .int .u32 z, .int .i64 k] w fun e w' => e = .returned (.tuple #[hitV h, .int .i64 c]) ∧ Below w.heap.size w w' := by
 have HS : Hid (FS w ((w.alloc (.cells #[.bool false, .int .i64 rt, .bool us] 30)).alloc (.cells #[.int .i64 0, .int .i64 0, .int .i64 0, .bool false] 36)) false rt us) := Lib.hid (fs_new w false rt us)
 have CF : Hid (∀ W, Below w.heap.size w W → Calls Tryz.prog 66 #[.pointer (some ⟨b, 0, none⟩), .int .u32 z, .int .i64 1, .int .i64 k] W fun e w' => e = .returned (.tuple #[hitV h, .int .i64 c]) ∧ Below W.heap.size W w') := Lib.hid fun W hW => Vw.find_any z 1 k c h h0 h1 hc hh W (hP.more hW)
 clear hP hc hh
 go_enter Tryz.func38, Tryz.ntmps38
 go_wp2_with fail
 refine (CF.out _ HS.out.b).mono ?_
 rintro e w1 ⟨rfl, hb1⟩
 have HS1 := Lib.hid (HS.out.more hb1)
 clear hb1 HS CF
 have q0 := HS1.out.ht
 obtain ⟨r0, r1, r2, r3⟩ := HAt.cells q0
 have f0 := q0.frozen 0
 have f1 := q0.frozen 1
 have f2 := q0.frozen 2
 have f3 := q0.frozen 3
 have hlt := q0.lt
 clear q0
 have HB9 := Lib.hid HS1.out.b
 have HSet : Hid (∀ (X : World) (j : Nat) (v : Value), Below w.heap.size w X → Below w.heap.size w (X.setCell ⟨w.heap.size + 1, j, none⟩ v)) := Lib.hid fun X j v h => h.setCell (p := ⟨w.heap.size + 1, j, none⟩) (by simp) _
 clear HS1
 obtain ⟨ha, hb, hc⟩ := h
 unfold hitV
 go_wp2
 exact bodyPost_ret (v := .tuple #[hitV (ha, hb, hc), .int .i64 c]) (by simp [results, Tryz.results38, go_sem, r0, r1, r2, r3, hitV]) rfl ⟨rfl, by (repeat (first | refine HSet.out _ _ _ ?_)); exact HB9.out⟩

theorem find_fault (rt z k : Int) (us : Bool) (R : Stp) (h0 : 0 ≤ z) (h1 : z < 4294967296) (hR : walkF n S L rt z = R) (hf : R.f ≠ 0) (w : World) (hP : PV w b s m n S L D) :
  Calls Tryz.prog 38 #[.pointer (some ⟨b, 0, none⟩), .agg #[.bool true, .int .i64 rt, .bool us], .int .u32 z, .int .i64 k] w fun e w' => e = .returned (.tuple #[hitV (0, 0, 0), .int .i64 R.f]) ∧ Below w.heap.size w w' := by
 have HS : Hid (FS w ((w.alloc (.cells #[.bool true, .int .i64 rt, .bool us] 30)).alloc (.cells #[.int .i64 0, .int .i64 0, .int .i64 0, .bool false] 36)) true rt us) := Lib.hid (fs_new w true rt us)
 have CW : Hid (∀ W, Below w.heap.size w W → Calls Tryz.prog 69 #[.pointer (some ⟨b, 0, none⟩), .int .i64 rt, .int .u32 z] W fun e w' => e = .returned R.v ∧ Below W.heap.size W w') := Lib.hid fun W hW => walk_any rt z R h0 h1 hR W (hP.more hW)
 clear hP hR
 go_enter Tryz.func38, Tryz.ntmps38
 go_wp2_with fail
 refine (CW.out _ HS.out.b).mono ?_
 rintro e w1 ⟨rfl, hb1⟩
 have HS1 := Lib.hid (HS.out.more hb1)
 have HR2 := step_run w1
 have HN1 : Hid (Blk (w1.alloc (.cells stz.cs.toArray 114)) w1.heap.size 114 stz.cs) := Lib.hid (Blk.new w1 _ _)
 clear hb1 HS CW
 go_simp
 rename_i hK
 refine hK _ _ ?_
 clear hK
 refine Great.wpList_allocTo rfl (some 10) rfl (.pointer (some ⟨w1.heap.size, 0, none⟩)) (.cells stz.cs.toArray 114) (HR2.out _ _ rfl _ rfl) ?_
 refine wpList_store_rowTo rfl 114 _ _ rfl rfl w1.heap.size R.cs.toArray (by kernel_rfl) (by kernel_rfl) 114 stz.cs.toArray HN1.out (size_stp _) rfl (one_stp _) ?_
 have hbw := below_setRow ((Below.refl w1.heap.size w1).alloc (Nat.le_refl _) (.cells stz.cs.toArray 114)) (Nat.le_refl w1.heap.size) R.cs.toArray
 have HS2 := Lib.hid (HS1.out.more hbw)
 have HN2 := Lib.hid (HN1.out.row R.cs)
 have HNE : Hid (w.heap.size + 1 < w1.heap.size) := Lib.hid HS1.out.ht.lt
 clear hbw HS1 HN1 HR2
 generalize World.setRow _ w1.heap.size R.cs.toArray = w2 at HS2 HN2 ⊢
 generalize w1.heap.size = sb at HN2 HNE ⊢
 simp only [Act.put, List.setIfInBounds_toArray, List.set_cons_succ, List.set_cons_zero]
 have q0 := HS2.out.ht
 obtain ⟨r0, r1, r2, r3⟩ := HAt.cells q0
 have f0 := q0.frozen 0
 have f1 := q0.frozen 1
 have f2 := q0.frozen 2
 have f3 := q0.frozen 3
 have hlt := q0.lt
 clear q0
 have HB9 := Lib.hid HS2.out.b
 have HSet : Hid (∀ (X : World) (j : Nat) (v : Value), Below w.heap.size w X → Below w.heap.size w (X.setCell ⟨w.heap.size + 1, j, none⟩ v)) := Lib.hid fun X j v h => h.setCell (p := ⟨w.heap.size + 1, j, none⟩) (by simp) _
 have g3 := HN2.out.cell (j := 3) rfl
 have gl := HN2.out.lt
 clear HS2 HN2
 obtain ⟨o, r, g, f, ro, lf⟩ := R
 dsimp only at g3 hf ⊢
 have hf2 : (f != 0) = true := by simp [hf]
 have n1 : ¬ sb = w.heap.size + 1 := by have := HNE.out; omega
 have n2 : ¬ w.heap.size + 1 = sb := by have := HNE.out; omega
 go_wp2
 go_region
 go_wp2
 exact bodyPost_ret (v := .tuple #[hitV (0, 0, 0), .int .i64 f]) (by simp [results, Tryz.results38, go_sem, r0, r1, r2, r3, hitV]) rfl ⟨rfl, by refine Below.drew ?_; (repeat (first | refine HSet.out _ _ _ ?_)); exact HB9.out⟩

theorem find_perm (rt z k : Int) (us : Bool) (R : Stp) (h0 : 0 ≤ z) (h1 : z < 4294967296) (hR : walkF n S L rt z = R) (hf : R.f = 0) (ha : Pe.alwB R.o R.r k us = false) (w : World) (hP : PV w b s m n S L D) :
  Calls Tryz.prog 38 #[.pointer (some ⟨b, 0, none⟩), .agg #[.bool true, .int .i64 rt, .bool us], .int .u32 z, .int .i64 k] w fun e w' => e = .returned (.tuple #[hitV (0, 0, 0), .int .i64 6]) ∧ Below w.heap.size w w' := by
 have HS : Hid (FS w ((w.alloc (.cells #[.bool true, .int .i64 rt, .bool us] 30)).alloc (.cells #[.int .i64 0, .int .i64 0, .int .i64 0, .bool false] 36)) true rt us) := Lib.hid (fs_new w true rt us)
 have CW : Hid (∀ W, Below w.heap.size w W → Calls Tryz.prog 69 #[.pointer (some ⟨b, 0, none⟩), .int .i64 rt, .int .u32 z] W fun e w' => e = .returned R.v ∧ Below W.heap.size W w') := Lib.hid fun W hW => walk_any rt z R h0 h1 hR W (hP.more hW)
 have CA : Hid (∀ W, Calls Tryz.prog 70 #[Pe.pteV R.o R.r R.g, .int .i64 k, .bool us] W fun e w' => e = .returned (.bool false) ∧ Below W.heap.size W w') := Lib.hid fun W => Pe.allows_any R.o R.r R.g k us false ha W
 clear hP hR ha
 go_enter Tryz.func38, Tryz.ntmps38
 go_wp2_with fail
 refine (CW.out _ HS.out.b).mono ?_
 rintro e w1 ⟨rfl, hb1⟩
 have HS1 := Lib.hid (HS.out.more hb1)
 have HR2 := step_run w1
 have HN1 : Hid (Blk (w1.alloc (.cells stz.cs.toArray 114)) w1.heap.size 114 stz.cs) := Lib.hid (Blk.new w1 _ _)
 clear hb1 HS CW
 go_simp
 rename_i hK
 refine hK _ _ ?_
 clear hK
 refine Great.wpList_allocTo rfl (some 10) rfl (.pointer (some ⟨w1.heap.size, 0, none⟩)) (.cells stz.cs.toArray 114) (HR2.out _ _ rfl _ rfl) ?_
 refine wpList_store_rowTo rfl 114 _ _ rfl rfl w1.heap.size R.cs.toArray (by kernel_rfl) (by kernel_rfl) 114 stz.cs.toArray HN1.out (size_stp _) rfl (one_stp _) ?_
 have hbw := below_setRow ((Below.refl w1.heap.size w1).alloc (Nat.le_refl _) (.cells stz.cs.toArray 114)) (Nat.le_refl w1.heap.size) R.cs.toArray
 have HS2 := Lib.hid (HS1.out.more hbw)
 have HN2 := Lib.hid (HN1.out.row R.cs)
 have HNE : Hid (w.heap.size + 1 < w1.heap.size) := Lib.hid HS1.out.ht.lt
 clear hbw HS1 HN1 HR2
 generalize World.setRow _ w1.heap.size R.cs.toArray = w2 at HS2 HN2 ⊢
 generalize w1.heap.size = sb at HN2 HNE ⊢
 simp only [Act.put, List.setIfInBounds_toArray, List.set_cons_succ, List.set_cons_zero]
 have g0 := HN2.out.cell (j := 0) rfl
 have g1 := HN2.out.cell (j := 1) rfl
 have g2 := HN2.out.cell (j := 2) rfl
 have g3 := HN2.out.cell (j := 3) rfl
 have gl := HN2.out.lt
 have m2 := HS2.out.md.cell (j := 2) rfl
 have ml := HS2.out.md.lt
 obtain ⟨o, r, g, f, ro, lf⟩ := R
 dsimp only at g0 g1 g2 g3 hf CA ⊢
 subst hf
 go_wp2_with fail
 refine (CA.out _).mono ?_
 rintro e w3 ⟨rfl, hb3⟩
 have HS3 := Lib.hid (HS2.out.more hb3)
 clear hb3 HS2 HN2 CA g0 g1 g2 g3 gl m2 ml
 have q0 := HS3.out.ht
 obtain ⟨r0, r1, r2, r3⟩ := HAt.cells q0
 have f0 := q0.frozen 0
 have f1 := q0.frozen 1
 have f2 := q0.frozen 2
 have f3 := q0.frozen 3
 have hlt := q0.lt
 clear q0
 have HB9 := Lib.hid HS3.out.b
 have HSet : Hid (∀ (X : World) (j : Nat) (v : Value), Below w.heap.size w X → Below w.heap.size w (X.setCell ⟨w.heap.size + 1, j, none⟩ v)) := Lib.hid fun X j v h => h.setCell (p := ⟨w.heap.size + 1, j, none⟩) (by simp) _
 clear HS3
 go_wp2
 exact bodyPost_ret (v := .tuple #[hitV (0, 0, 0), .int .i64 6]) (by simp [results, Tryz.results38, go_sem, r0, r1, r2, r3, hitV]) rfl ⟨rfl, by (repeat (first | refine HSet.out _ _ _ ?_)); exact HB9.out⟩

theorem find_found (rt z k c : Int) (us : Bool) (R : Stp) (h : Int × Int × Int) (h0 : 0 ≤ z) (h1 : z < 4294967296) (hR : walkF n S L rt z = R) (hf : R.f = 0) (hg0 : 0 ≤ R.g) (hg1 : R.g < 32) (ha : Pe.alwB R.o R.r k us = true) (hc : findF n L (R.g * 64 + z % 64) 1 k = c) (hh : hitF n L (R.g * 64 + z % 64) 1 k = h) (w : World) (hP : PV w b s m n S L D) :
  Calls Tryz.prog 38 #[.pointer (some ⟨b, 0, none⟩), .agg #[.bool true, .int .i64 rt, .bool us], .int .u32 z, .int .i64 k] w fun e w' => e = .returned (.tuple #[hitV h, .int .i64 c]) ∧ Below w.heap.size w w' := by
 have HS : Hid (FS w ((w.alloc (.cells #[.bool true, .int .i64 rt, .bool us] 30)).alloc (.cells #[.int .i64 0, .int .i64 0, .int .i64 0, .bool false] 36)) true rt us) := Lib.hid (fs_new w true rt us)
 have CW : Hid (∀ W, Below w.heap.size w W → Calls Tryz.prog 69 #[.pointer (some ⟨b, 0, none⟩), .int .i64 rt, .int .u32 z] W fun e w' => e = .returned R.v ∧ Below W.heap.size W w') := Lib.hid fun W hW => walk_any rt z R h0 h1 hR W (hP.more hW)
 have CA : Hid (∀ W, Calls Tryz.prog 70 #[Pe.pteV R.o R.r R.g, .int .i64 k, .bool us] W fun e w' => e = .returned (.bool true) ∧ Below W.heap.size W w') := Lib.hid fun W => Pe.allows_any R.o R.r R.g k us true ha W
 have CF : Hid (∀ W, Below w.heap.size w W → Calls Tryz.prog 66 #[.pointer (some ⟨b, 0, none⟩), .int .u32 (R.g * 64 + z % 64), .int .i64 1, .int .i64 k] W fun e w' => e = .returned (.tuple #[hitV h, .int .i64 c]) ∧ Below W.heap.size W w') := Lib.hid fun W hW => Vw.find_any (R.g * 64 + z % 64) 1 k c h (by omega) (by omega) hc hh W (hP.more hW)
 clear hP hR ha hc hh
 go_enter Tryz.func38, Tryz.ntmps38
 go_wp2_with fail
 refine (CW.out _ HS.out.b).mono ?_
 rintro e w1 ⟨rfl, hb1⟩
 have HS1 := Lib.hid (HS.out.more hb1)
 have HR2 := step_run w1
 have HN1 : Hid (Blk (w1.alloc (.cells stz.cs.toArray 114)) w1.heap.size 114 stz.cs) := Lib.hid (Blk.new w1 _ _)
 clear hb1 HS CW
 go_simp
 rename_i hK
 refine hK _ _ ?_
 clear hK
 refine Great.wpList_allocTo rfl (some 10) rfl (.pointer (some ⟨w1.heap.size, 0, none⟩)) (.cells stz.cs.toArray 114) (HR2.out _ _ rfl _ rfl) ?_
 refine wpList_store_rowTo rfl 114 _ _ rfl rfl w1.heap.size R.cs.toArray (by kernel_rfl) (by kernel_rfl) 114 stz.cs.toArray HN1.out (size_stp _) rfl (one_stp _) ?_
 have hbw := below_setRow ((Below.refl w1.heap.size w1).alloc (Nat.le_refl _) (.cells stz.cs.toArray 114)) (Nat.le_refl w1.heap.size) R.cs.toArray
 have HS2 := Lib.hid (HS1.out.more hbw)
 have HN2 := Lib.hid (HN1.out.row R.cs)
 have HNE : Hid (w.heap.size + 1 < w1.heap.size) := Lib.hid HS1.out.ht.lt
 clear hbw HS1 HN1 HR2
 generalize World.setRow _ w1.heap.size R.cs.toArray = w2 at HS2 HN2 ⊢
 generalize w1.heap.size = sb at HN2 HNE ⊢
 simp only [Act.put, List.setIfInBounds_toArray, List.set_cons_succ, List.set_cons_zero]
 have g0 := HN2.out.cell (j := 0) rfl
 have g1 := HN2.out.cell (j := 1) rfl
 have g2 := HN2.out.cell (j := 2) rfl
 have g3 := HN2.out.cell (j := 3) rfl
 have gl := HN2.out.lt
 have m2 := HS2.out.md.cell (j := 2) rfl
 have ml := HS2.out.md.lt
 obtain ⟨o, r, g, f, ro, lf⟩ := R
 dsimp only at g0 g1 g2 g3 hf hg0 hg1 CA CF ⊢
 subst hf
 go_wp2_with fail
 refine (CA.out _).mono ?_
 rintro e w3 ⟨rfl, hb3⟩
 have HS3 := Lib.hid (HS2.out.more hb3)
 have HN3 := Lib.hid (HN2.out.more hb3)
 clear hb3 HS2 HN2 CA g0 g1 g2 g3 gl m2 ml
 have g2 := HN3.out.cell (j := 2) rfl
 have gl := HN3.out.lt
 dsimp only at g2
 go_wp2_with fail
 refine (CF.out _ HS3.out.b).mono ?_
 rintro e w4 ⟨rfl, hb4⟩
 have HS4 := Lib.hid (HS3.out.more hb4)
 clear hb4 HS3 HN3 CF g2 gl
 have q0 := HS4.out.ht
 obtain ⟨r0, r1, r2, r3⟩ := HAt.cells q0
 have f0 := q0.frozen 0
 have f1 := q0.frozen 1
 have f2 := q0.frozen 2
 have f3 := q0.frozen 3
 have hlt := q0.lt
 clear q0
 have HB9 := Lib.hid HS4.out.b
 have HSet : Hid (∀ (X : World) (j : Nat) (v : Value), Below w.heap.size w X → Below w.heap.size w (X.setCell ⟨w.heap.size + 1, j, none⟩ v)) := Lib.hid fun X j v h => h.setCell (p := ⟨w.heap.size + 1, j, none⟩) (by simp) _
 clear HS4
 obtain ⟨ha, hb, hc⟩ := h
 unfold hitV
 go_wp2
 exact bodyPost_ret (v := .tuple #[hitV (ha, hb, hc), .int .i64 c]) (by simp [results, Tryz.results38, go_sem, r0, r1, r2, r3, hitV]) rfl ⟨rfl, by (repeat (first | refine HSet.out _ _ _ ?_)); exact HB9.out⟩

theorem find_any (on us : Bool) (rt z k c : Int) (h : Int × Int × Int) (h0 : 0 ≤ z) (h1 : z < 4294967296) (hc : (locF n S L on rt us z k).2 = c) (hh : (locF n S L on rt us z k).1 = h) (w : World) (hP : PV w b s m n S L D) :
  Calls Tryz.prog 38 #[.pointer (some ⟨b, 0, none⟩), .agg #[.bool on, .int .i64 rt, .bool us], .int .u32 z, .int .i64 k] w fun e w' => e = .returned (.tuple #[hitV h, .int .i64 c]) ∧ Below w.heap.size w w' := by
 subst hc hh
 unfold locF
 cases on
 ·exact find_off rt z k _ us _ h0 h1 rfl rfl w hP
 ·rw [if_neg (by decide)]
  by_cases hf : (walkF n S L rt z).f = 0
  ·rw [if_neg (fun e => e hf)]
   by_cases ha : Pe.alwB (walkF n S L rt z).o (walkF n S L rt z).r k us = true
   ·rw [if_neg (by simp [ha])]
    have hg := walkF_page hf
    exact find_found rt z k _ us _ _ h0 h1 rfl hf hg.1 hg.2 ha rfl rfl w hP
   ·rw [if_pos (by simpa using ha)]
    exact find_perm rt z k us _ h0 h1 rfl hf (by simpa using ha) w hP
  ·rw [if_pos hf]
   exact find_fault rt z k us _ h0 h1 rfl hf w hP
end
end Go.Proofs.YteaincdeoajkeaaGreatDoor.Wa
end
section
/- hermitagelaw17: awake. -/
namespace Go.Proofs.YteaincdeoajkeaaGreatDoor.Wa
open Go.RowKit Go.Shelf Ut Oc Vw
set_option maxRecDepth 100000
set_option linter.unusedVariables false
set_option maxHeartbeats 4000000

def awZ (i : Nat) : Int × Int := if i = 0 then (64, 513) else (128, 771)
end Go.Proofs.YteaincdeoajkeaaGreatDoor.Wa
end
section
/- hermitagelaw17: WalkTables. -/
namespace Go.Proofs.YteaincdeoajkeaaGreatDoor.Wa
open Go.RowKit Go.Shelf Ut Oc Vw
set_option maxRecDepth 100000
set_option linter.unusedVariables false
set_option maxHeartbeats 4000000

/-- what a walk's answer says of the tables -/
structure Says (n : Nat) (S : List Int) (L : List Gm.Pl) (p z : Int) (R : Stp) : Prop where
 r8 : R.rt < 8
 l8 : R.lf < 8
 lr : 0 ≤ R.lf → 0 ≤ R.rt
 root : 0 ≤ R.rt → R.rt = p ∧ z < 16384 ∧ hasT n L R.rt = true
 no : R.lf < 0 → R.f ≠ 0 ∧ R.o = false ∧ R.r = 0 ∧ R.g = 0
 leaf : 0 ≤ R.lf → hasT n L R.lf = true ∧ ∃ x y, wordT n S L R.rt (z / 1024).toNat = x ∧ wordT n S L R.lf (z / 64 % 16).toNat = y ∧ Pe.tabF x = 0 ∧ Pe.gF (Pe.tabF x) x = R.lf ∧ Pe.leafF y = R.f ∧ R.o = Pe.oF R.f ∧ R.r = Pe.rF R.f y ∧ R.g = Pe.gF R.f y
theorem none_zero {n : Nat} {L : List Gm.Pl} {p : Int} (h : noneF n L p = 0) : hasT n L p = true := by
 unfold noneF at h
 by_cases ht : hasT n L p = true
 ·exact ht
 ·rw [if_neg ht] at h; exact absurd h (by decide)
theorem walk_says (n : Nat) (S : List Int) (L : List Gm.Pl) (p z : Int) : Says n S L p z (walkF n S L p z) := by
 unfold walkF
 by_cases h0 : 16384 ≤ z
 ·rw [if_pos h0]
  exact ⟨by decide, by decide, by decide, fun h => absurd h (show ¬ (0 : Int) ≤ -1 by decide), fun _ => ⟨show (2 : Int) ≠ 0 by decide, rfl, rfl, rfl⟩, fun h => absurd h (show ¬ (0 : Int) ≤ -1 by decide)⟩
 rw [if_neg h0]
 by_cases h1 : noneF n L p = 0
 ·rw [if_neg (fun e => e h1)]
  have ht := none_zero h1
  have hb := hasT_bd ht
  by_cases h2 : rootF n S L p z = 0
  ·rw [if_neg (fun e => e h2)]
   by_cases h3 : noneF n L (rootT n S L p z) = 0
   ·rw [if_neg (fun e => e h3)]
    have ht3 := none_zero h3
    have hb3 := hasT_bd ht3
    exact ⟨hb.2, hb3.2, fun _ => hb.1, fun _ => ⟨rfl, by omega, ht⟩, fun h => absurd h (show ¬ rootT n S L p z < 0 by omega), fun _ => ⟨ht3, _, _, rfl, rfl, h2, rfl, rfl, rfl, rfl, rfl⟩⟩
   ·rw [if_pos h3]
    exact ⟨hb.2, by show (-1 : Int) < 8; decide, fun _ => hb.1, fun _ => ⟨rfl, by omega, ht⟩, fun _ => ⟨h3, rfl, rfl, rfl⟩, fun h => absurd h (show ¬ (0 : Int) ≤ -1 by decide)⟩
  ·rw [if_pos h2]
   exact ⟨hb.2, by show (-1 : Int) < 8; decide, fun _ => hb.1, fun _ => ⟨rfl, by omega, ht⟩, fun _ => ⟨h2, rfl, rfl, rfl⟩, fun h => absurd h (show ¬ (0 : Int) ≤ -1 by decide)⟩
 ·rw [if_pos h1]
  exact ⟨by show (-1 : Int) < 8; decide, by show (-1 : Int) < 8; decide, fun h => absurd h (show ¬ (0 : Int) ≤ -1 by decide), fun h => absurd h (show ¬ (0 : Int) ≤ -1 by decide), fun _ => ⟨h1, rfl, rfl, rfl⟩, fun h => absurd h (show ¬ (0 : Int) ≤ -1 by decide)⟩

/-- all that is there may be read -/
def OddM (L : List Gm.Pl) : Prop := ∀ j, Gm.thB (Gm.plN L j) = true → (Gm.plN L j).2 % 2 = 1
section
variable {n : Nat} {S : List Int} {L : List Gm.Pl}
end
end Go.Proofs.YteaincdeoajkeaaGreatDoor.Wa
end
