/- Several texts in one: Zc Zd -/
import Derived.Test.YtoafonbplbblpaaZ30
import Derived.WalkMore
import Derived.Laws.EntriesVeiled
import Derived.Laws.Rows
import Derived.Great.Walk
import Derived.Deep.DeepCutAuto
section
/- Package walk: Walk of the program: its blocks, what a step leaves; an address beyond all. -/
namespace Go.Proofs.Ytoafonbplbblpaa.Wa
open Go.RowKit Go.Shelf Ut Oc Vw
set_option maxRecDepth 100000
set_option linter.unusedVariables false
set_option maxHeartbeats 4000000

def stz : Stp := ⟨false, 0, 0, 0, 0, 0⟩
theorem step_run (w : World) : Hid (∀ (ρ : Operand → Value) (o : Oper), o.op = .alloc 40 → ∀ n, w.heap.size = n → (execOp ρ o).run Try.prog w = .ok (.value (.pointer (some ⟨n, 0, none⟩))) (w.alloc (.cells stz.cs.toArray 40))) := Lib.hid fun ρ o ho n hn => by
  subst hn
  unfold execOp
  rw [ho]
  kernel_rfl
theorem size_stp (t : Stp) : (Try.prog.info? 40).map (·.size) = some t.cs.toArray.size := by kernel_rfl
theorem one_stp (t : Stp) : t.cs.toArray.all (·.oneCell') = true := by kernel_rfl

/-- the blocks that Walk makes ahead of all -/
theorem walk_new (a : Option Addr) (w : World) : ∃ V, V = (((w.alloc (.cells #[.pointer a] 27)).alloc (.cells #[.bool false, .int .i64 0, .int .i64 0, .int .i64 0, .int .i64 0, .int .i64 0] 40)).alloc (.cells stz.cs.toArray 40)).setRow (w.heap.size + 2) st0.cs.toArray ∧
    Below w.heap.size w V ∧ V.heap.size = w.heap.size + 3 ∧ Blk V w.heap.size 27 [.pointer a] ∧ Blk V (w.heap.size + 1) 40 stz.cs ∧ Blk V (w.heap.size + 2) 40 st0.cs := by
  refine ⟨_, rfl, ?_, ?_, ?_, ?_, ?_⟩
  · exact below_setRow ((((Below.refl _ _).alloc (Nat.le_refl _) _).alloc (by simp) _).alloc (by simp; omega) _) (by omega) _
  · simp [setRow_size]
  · refine Blk.of_block ?_ (setRow_other _ _ _ _ (by omega))
    exact ((Blk.new w _ [.pointer a]).more ((Below.refl _ _).alloc (Nat.le_refl _) _)).more ((Below.refl _ _).alloc (Nat.le_refl _) _)
  · refine Blk.of_block ?_ (setRow_other _ _ _ _ (by omega))
    have := (Blk.new (w.alloc (.cells #[.pointer a] 27)) 40 stz.cs).more ((Below.refl _ _).alloc (Nat.le_refl _) (.cells stz.cs.toArray 40))
    rwa [World.size_alloc] at this
  · have := Blk.new ((w.alloc (.cells #[.pointer a] 27)).alloc (.cells #[.bool false, .int .i64 0, .int .i64 0, .int .i64 0, .int .i64 0, .int .i64 0] 40)) 40 stz.cs
    rw [World.size_alloc, World.size_alloc] at this
    exact this.row _

theorem walk_far (a : Option Addr) (p z : Int) (h0 : 16384 ≤ z) (h1 : z < 4294967296) (w : World) :
    Calls Try.prog 10 #[.pointer a, .int .i64 p, .int .u32 z] w fun e w' => e = .returned (Stp.v ⟨false, 0, 0, 2, -1, -1⟩) ∧ Below w.heap.size w w' := by
  have HR2 := step_run ((w.alloc (.cells #[.pointer a] 27)).alloc (.cells #[.bool false, .int .i64 0, .int .i64 0, .int .i64 0, .int .i64 0, .int .i64 0] 40))
  have HN2 : Hid (Blk (((w.alloc (.cells #[.pointer a] 27)).alloc (.cells #[.bool false, .int .i64 0, .int .i64 0, .int .i64 0, .int .i64 0, .int .i64 0] 40)).alloc (.cells stz.cs.toArray 40)) (w.heap.size + 2) 40 stz.cs) := Lib.hid (by
    have := Blk.new ((w.alloc (.cells #[.pointer a] 27)).alloc (.cells #[.bool false, .int .i64 0, .int .i64 0, .int .i64 0, .int .i64 0, .int .i64 0] 40)) 40 stz.cs
    rwa [World.size_alloc, World.size_alloc] at this)
  obtain ⟨V, hV, hB, hs, hv, hr, hn⟩ := walk_new a w
  have HV := Lib.hid hV
  have HR := Lib.hid hr
  have HN := Lib.hid hn
  have HBV := Lib.hid hB
  clear hV hB hs hv hr hn
  go_enter Try.func10, Try.ntmps10
  generalize hQQ : bodyPost _ _ _ = QQ
  have HQQ := Lib.hid hQQ
  clear hQQ
  go_upto_region 1 with fail
  go_step3
  go_upto_region 1 with fail
  refine wp_region_lit ?_
  refine wpList_buildTo rfl 40 _ rfl _ rfl st0.cs.toArray (by kernel_rfl) ?_
  refine Great.wpList_allocTo rfl (some 7) rfl (.pointer (some ⟨w.heap.size + 2, 0, none⟩)) (.cells stz.cs.toArray 40) (HR2.out _ _ rfl _ (by simp)) ?_
  refine wpList_store_rowTo rfl 40 _ _ rfl rfl (w.heap.size + 2) st0.cs.toArray (by kernel_rfl) (by kernel_rfl) 40 stz.cs.toArray HN2.out (size_stp _) rfl (one_stp _) ?_
  rw [show World.setRow _ (w.heap.size + 2) st0.cs.toArray = V from HV.out.symm]
  clear HR2 HN2 HV
  have f0 := HN.out.frozen 3
  have c0 : V.cell? ⟨w.heap.size + 2, 3, none⟩ = some (.int .i64 0) := HN.out.cell rfl
  have l0 := HN.out.lt
  simp only [Act.put, List.setIfInBounds_toArray, List.set_cons_succ, List.set_cons_zero]
  go_upto_region 4 with fail
  have HN3 : Hid (Blk (V.setCell ⟨w.heap.size + 2, 3, none⟩ (.int .i64 2)) (w.heap.size + 2) 40 (Stp.cs ⟨false, 0, 0, 2, -1, -1⟩)) := Lib.hid (HN.out.set 3 (.int .i64 2))
  have HR3 : Hid (Blk (V.setCell ⟨w.heap.size + 2, 3, none⟩ (.int .i64 2)) (w.heap.size + 1) 40 stz.cs) := Lib.hid (HR.out.of_block (Below.heap_setCell _ _ _ _ (by simp)))
  have HB3 : Hid (Below w.heap.size w (V.setCell ⟨w.heap.size + 2, 3, none⟩ (.int .i64 2))) := Lib.hid (HBV.out.setCell (p := ⟨w.heap.size + 2, 3, none⟩) (by simp) _)
  clear f0 c0 l0 HN HR HBV
  generalize V.setCell ⟨w.heap.size + 2, 3, none⟩ (.int .i64 2) = X at HN3 HR3 HB3 ⊢
  refine wp_region_lit ?_
  refine wpList_load_row rfl 40 _ rfl (w.heap.size + 2) rfl 40 (Stp.cs ⟨false, 0, 0, 2, -1, -1⟩).toArray (0, 0) _ HN3.out Try.underlying40 rfl (size_stp _) ?_
  refine wpList_store_rowTo rfl 40 _ _ rfl rfl (w.heap.size + 1) (Stp.cs ⟨false, 0, 0, 2, -1, -1⟩).toArray (by kernel_rfl) (by kernel_rfl) 40 stz.cs.toArray HR3.out (size_stp _) rfl (one_stp _) ?_
  have HR4 := Lib.hid (HR3.out.row (Stp.cs ⟨false, 0, 0, 2, -1, -1⟩))
  have HB4 := Lib.hid (below_setRow HB3.out (Nat.le_succ w.heap.size) (Stp.cs ⟨false, 0, 0, 2, -1, -1⟩).toArray)
  generalize World.setRow _ (w.heap.size + 1) (Stp.cs ⟨false, 0, 0, 2, -1, -1⟩).toArray = Y at HR4 HB4 ⊢
  simp only [Act.put, List.setIfInBounds_toArray, List.set_cons_succ, List.set_cons_zero]
  go_wp2
  rw [Exit.noGoto_ret, ← HQQ.out]
  exact bodyPost_ret (v := Stp.v ⟨false, 0, 0, 2, -1, -1⟩) (results_cell_row Try.results10 _ _ _ _ _ _ _ rfl HR4.out Try.underlying40 rfl (size_stp _)) rfl ⟨rfl, HB4.out⟩

end Go.Proofs.Ytoafonbplbblpaa.Wa
end
section
/- Package walk: Walk of the program. -/
namespace Go.Proofs.Ytoafonbplbblpaa.Wa
open Go.RowKit Go.Shelf Ut Oc Vw
set_option maxRecDepth 100000
set_option linter.unusedVariables false
set_option maxHeartbeats 4000000

/-- the world in which the tables' and the steps' slices are made -/
structure WE (U : World) (b s m n : Nat) (S : List Int) (L : List Gm.Pl) (D : List Bool) (q bp : Nat) (A0 A1 : Int) : Prop where
  pv : PV U b s m n S L D
  bq : b < q
  qp : bp = q + 3
  sz : U.heap.size = q + 7
  vb : Blk U q 27 [.pointer (some ⟨b, 0, none⟩)]
  rb : Blk U (q + 1) 40 stz.cs
  tb : Blk U (bp + 1 + 1) 89 [.int .i64 A0, .pointer (some ⟨q + 2, 4, none⟩), .func (.func 32) #[] #[.pointer (some ⟨bp, 0, none⟩)], .int .i64 A1, .pointer (some ⟨q + 2, 5, none⟩), .func (.func 33) #[] #[.pointer (some ⟨q + 2, 0, none⟩)]]
  fb : Blk U (bp + 1 + 1 + 1) 92 [.func (.func 34) #[] #[.pointer (some ⟨q, 0, none⟩), .pointer (some ⟨bp, 0, none⟩), .pointer (some ⟨bp + 1, 0, none⟩)], .func (.func 36) #[] #[.pointer (some ⟨bp, 0, none⟩), .pointer (some ⟨bp + 1, 0, none⟩)]]
/-- .. in which a walk stands somewhere -/
structure WS (U W : World) (q bp : Nat) (t : Stp) (pg : Int) (u : Nat) : Prop where
  k : Kq [q + 2, bp, bp + 1] U W
  sb : Blk W (q + 2) 40 t.cs
  pb : Blk W bp 3 [.int .i64 pg]
  wb : Blk W (bp + 1) 35 [.int .u32 (u : Int)]

section
variable {U W W' : World} {b s m n q bp : Nat} {S : List Int} {L : List Gm.Pl} {D : List Bool} {A0 A1 : Int} {t : Stp} {pg : Int} {u : Nat}
theorem WS.more (h : WS U W q bp t pg u) (hb : Below W.heap.size W W') : WS U W' q bp t pg u :=
  ⟨h.k.trans (Kq.of_below hb), h.sb.more hb, h.pb.more hb, h.wb.more hb⟩
theorem WS.fault (h : WS U W q bp t pg u) (E : WE U b s m n S L D q bp A0 A1) (f : Int) : WS U (W.setCell ⟨q + 2, 3, none⟩ (.int .i64 f)) q bp ⟨t.o, t.r, t.g, f, t.rt, t.lf⟩ pg u := by
  have e := E.qp
  exact ⟨h.k.setCell (q + 2) 3 _ (.inl (by simp)), h.sb.set 3 (.int .i64 f), h.pb.of_block (Below.heap_setCell _ _ _ _ (by simp; omega)), h.wb.of_block (Below.heap_setCell _ _ _ _ (by simp; omega))⟩
theorem WS.pv (h : WS U W q bp t pg u) (E : WE U b s m n S L D q bp A0 A1) : PV W b s m n S L D := by
  have e := E.qp
  have h1 := E.bq
  have h2 := E.pv.sm
  have h3 := E.pv.mb
  exact E.pv.kq h.k (by simp; omega) (by simp; omega) (by simp; omega)
theorem WS.vb (h : WS U W q bp t pg u) (E : WE U b s m n S L D q bp A0 A1) : Blk W q 27 [.pointer (some ⟨b, 0, none⟩)] := E.vb.kq h.k (by have := E.qp; simp; omega)
theorem WS.rb (h : WS U W q bp t pg u) (E : WE U b s m n S L D q bp A0 A1) : Blk W (q + 1) 40 stz.cs := E.rb.kq h.k (by have := E.qp; simp; omega)
theorem WS.tb (h : WS U W q bp t pg u) (E : WE U b s m n S L D q bp A0 A1) : Blk W (bp + 1 + 1) 89 [.int .i64 A0, .pointer (some ⟨q + 2, 4, none⟩), .func (.func 32) #[] #[.pointer (some ⟨bp, 0, none⟩)], .int .i64 A1, .pointer (some ⟨q + 2, 5, none⟩), .func (.func 33) #[] #[.pointer (some ⟨q + 2, 0, none⟩)]] := E.tb.kq h.k (by have := E.qp; simp; omega)
theorem WS.fb (h : WS U W q bp t pg u) (E : WE U b s m n S L D q bp A0 A1) : Blk W (bp + 1 + 1 + 1) 92 [.func (.func 34) #[] #[.pointer (some ⟨q, 0, none⟩), .pointer (some ⟨bp, 0, none⟩), .pointer (some ⟨bp + 1, 0, none⟩)], .func (.func 36) #[] #[.pointer (some ⟨bp, 0, none⟩), .pointer (some ⟨bp + 1, 0, none⟩)]] := E.fb.kq h.k (by have := E.qp; simp; omega)
theorem WS.blk (h : WS U W q bp t pg u) (E : WE U b s m n S L D q bp A0 A1) {x : Nat} {ty : TypeId} {cs : List Value} (hx : U.heap.size ≤ x) (k : Kq [q + 2, bp, bp + 1] W W') (hb : Blk W x ty cs) : Blk W' x ty cs := hb.kq k (by have := E.qp; have := E.sz; simp; omega)

theorem c_entry (E : WE U b s m n S L D q bp A0 A1) (H : WS U W q bp t pg u) (a : Int) (i x : Nat) (f : Int) (ha : (i : Int) = a) (hi : i < 16) (hf : noneF n L pg = f) (hx : wordT n S L pg i = x) (tq : Addr) (fn : Nat) (cs : Array Value) :
    Calls Try.prog 34 #[.agg #[.int .i64 a, .pointer (some tq), .func (.func fn) #[] cs], .pointer (some ⟨q, 0, none⟩), .pointer (some ⟨bp, 0, none⟩), .pointer (some ⟨bp + 1, 0, none⟩)] W fun e w' => e = .returned (.int .i64 f) ∧ WS U w' q bp t pg x ∧ Kq [q + 2, bp, bp + 1] W w' := by
  subst ha
  have e := E.qp
  exact (step_entry pg f i x _ _ _ hi hf hx (H.pv E) (H.vb E) H.pb H.wb tq rfl fn cs rfl).mono fun e w' ⟨he, hw, hk⟩ => ⟨he, ⟨H.k.trans (hk.more (by simp)), H.sb.kq hk (by simp; omega), H.pb.kq hk (by simp), hw⟩, hk.more (by simp)⟩
theorem c_root (E : WE U b s m n S L D q bp A0 A1) (H : WS U W q bp t pg u) (a f z : Int) (i : Nat) (ha : (i : Int) = a) (hu : u < 4294967296) (hf : Pe.tabF u = f) (hz : Pe.gF (Pe.tabF u) u = z) :
    Calls Try.prog 36 #[.agg #[.int .i64 a, .pointer (some ⟨q + 2, 4, none⟩), .func (.func 32) #[] #[.pointer (some ⟨bp, 0, none⟩)]], .pointer (some ⟨bp, 0, none⟩), .pointer (some ⟨bp + 1, 0, none⟩)] W fun e w' => e = .returned (.int .i64 f) ∧ WS U w' q bp ⟨t.o, t.r, t.g, t.f, pg, t.lf⟩ z u ∧ Kq [q + 2, bp, bp + 1] W w' := by
  subst ha
  have e := E.qp
  refine step_take pg f i 4 u _ _ t (fun _ _ => rfl) H.sb H.pb H.wb (by omega) (by omega) t.rt rfl (fun w' => WS U w' q bp ⟨t.o, t.r, t.g, t.f, pg, t.lf⟩ z u ∧ Kq [q + 2, bp, bp + 1] W w') fun X hs hp hk => ?_
  exact (take_root u z f pg hu hz hf hp).mono fun e w' ⟨he, hp', hk'⟩ => ⟨he, ⟨(H.k.trans (hk.more (by simp))).trans (hk'.more (by simp)), hs.kq hk' (by simp; omega), hp', (H.wb.kq hk (by simp; omega)).kq hk' (by simp)⟩, (hk.more (by simp)).trans (hk'.more (by simp))⟩
theorem c_leaf (E : WE U b s m n S L D q bp A0 A1) (H : WS U W q bp t pg u) (a f : Int) (i : Nat) (ha : (i : Int) = a) (hu : u < 4294967296) (hf : Pe.leafF u = f) :
    Calls Try.prog 36 #[.agg #[.int .i64 a, .pointer (some ⟨q + 2, 5, none⟩), .func (.func 33) #[] #[.pointer (some ⟨q + 2, 0, none⟩)]], .pointer (some ⟨bp, 0, none⟩), .pointer (some ⟨bp + 1, 0, none⟩)] W fun e w' => e = .returned (.int .i64 f) ∧ WS U w' q bp ⟨Pe.oF f, Pe.rF f u, Pe.gF f u, t.f, t.rt, pg⟩ pg u ∧ Kq [q + 2, bp, bp + 1] W w' := by
  subst ha
  have e := E.qp
  refine step_take pg f i 5 u _ _ t (fun _ _ => rfl) H.sb H.pb H.wb (by omega) (by omega) t.lf rfl (fun w' => WS U w' q bp ⟨Pe.oF f, Pe.rF f u, Pe.gF f u, t.f, t.rt, pg⟩ pg u ∧ Kq [q + 2, bp, bp + 1] W w') fun X hs hp hk => ?_
  exact (take_leaf (t := ⟨t.o, t.r, t.g, t.f, t.rt, pg⟩) u f hu hf hs).mono fun e w' ⟨he, hs', hk'⟩ => ⟨he, ⟨(H.k.trans (hk.more (by simp))).trans (hk'.more (by simp)), hs', hp.kq hk' (by simp; omega), (H.wb.kq hk (by simp; omega)).kq hk' (by simp; omega)⟩, (hk.more (by simp)).trans (hk'.more (by simp))⟩
end

/-- how it begins -/
theorem walk_env (b s m n : Nat) (S : List Int) (L : List Gm.Pl) (D : List Bool) (p z : Int) (w V : World) (hP : PV w b s m n S L D) (hB : Below w.heap.size w V) (hs : V.heap.size = w.heap.size + 3) (hv : Blk V w.heap.size 27 [.pointer (some ⟨b, 0, none⟩)]) (hr : Blk V (w.heap.size + 1) 40 stz.cs) (hn : Blk V (w.heap.size + 2) 40 st0.cs) :
    ∃ U, U = (((V.alloc (.cells #[.int .i64 p] 3)).alloc (.cells #[.int .u32 0] 35)).alloc (.cells #[.int .i64 (z / 1024), .pointer (some ⟨w.heap.size + 2, 4, none⟩), .func (.func 32) #[] #[.pointer (some ⟨V.heap.size, 0, none⟩)], .int .i64 (z % 1024 / 64), .pointer (some ⟨w.heap.size + 2, 5, none⟩), .func (.func 33) #[] #[.pointer (some ⟨w.heap.size + 2, 0, none⟩)]] 89)).alloc (.cells #[.func (.func 34) #[] #[.pointer (some ⟨w.heap.size, 0, none⟩), .pointer (some ⟨V.heap.size, 0, none⟩), .pointer (some ⟨V.heap.size + 1, 0, none⟩)], .func (.func 36) #[] #[.pointer (some ⟨V.heap.size, 0, none⟩), .pointer (some ⟨V.heap.size + 1, 0, none⟩)]] 92) ∧
      WE U b s m n S L D w.heap.size V.heap.size (z / 1024) (z % 1024 / 64) ∧ WS U U w.heap.size V.heap.size st0 p 0 := by
  obtain ⟨V1, e1⟩ : ∃ X, X = V.alloc (.cells #[.int .i64 p] 3) := ⟨_, rfl⟩
  obtain ⟨V2, e2⟩ : ∃ X, X = V1.alloc (.cells #[.int .u32 0] 35) := ⟨_, rfl⟩
  have b1 : Below V.heap.size V V1 := by rw [e1]; exact (Below.refl _ _).alloc (Nat.le_refl _) _
  have b2 : Below V1.heap.size V1 V2 := by rw [e2]; exact (Below.refl _ _).alloc (Nat.le_refl _) _
  have n1 : Blk V1 V.heap.size 3 [.int .i64 p] := by rw [e1]; exact Blk.new _ _ _
  have n2 : Blk V2 V1.heap.size 35 [.int .u32 0] := by rw [e2]; exact Blk.new _ _ _
  have z1 : V1.heap.size = V.heap.size + 1 := by rw [e1]; simp
  have z2 : V2.heap.size = V.heap.size + 1 + 1 := by rw [e2]; simp; omega
  rw [z1] at n2
  refine ⟨_, rfl, ?_, ?_⟩
  all_goals
    rw [← e1, ← e2]
    generalize hc3 : (#[.int .i64 (z / 1024), .pointer (some ⟨w.heap.size + 2, 4, none⟩), .func (.func 32) #[] #[.pointer (some ⟨V.heap.size, 0, none⟩)], .int .i64 (z % 1024 / 64), .pointer (some ⟨w.heap.size + 2, 5, none⟩), .func (.func 33) #[] #[.pointer (some ⟨w.heap.size + 2, 0, none⟩)]] : Array Value) = c3
    generalize hc4 : (#[.func (.func 34) #[] #[.pointer (some ⟨w.heap.size, 0, none⟩), .pointer (some ⟨V.heap.size, 0, none⟩), .pointer (some ⟨V.heap.size + 1, 0, none⟩)], .func (.func 36) #[] #[.pointer (some ⟨V.heap.size, 0, none⟩), .pointer (some ⟨V.heap.size + 1, 0, none⟩)]] : Array Value) = c4
    obtain ⟨V3, e3⟩ : ∃ X, X = V2.alloc (.cells c3 89) := ⟨_, rfl⟩
    rw [← e3]
    have b3 : Below V2.heap.size V2 V3 := by rw [e3]; exact (Below.refl _ _).alloc (Nat.le_refl _) _
    have n3 : V3.heap[V2.heap.size]? = some (.cells c3 89 (0, 0)) := by rw [e3]; exact heap_alloc_new _ _
    have z3 : V3.heap.size = V.heap.size + 1 + 1 + 1 := by rw [e3]; simp; omega
    obtain ⟨V4, e4⟩ : ∃ X, X = V3.alloc (.cells c4 92) := ⟨_, rfl⟩
    rw [← e4]
    have b4 : Below V3.heap.size V3 V4 := by rw [e4]; exact (Below.refl _ _).alloc (Nat.le_refl _) _
    have n4 : V4.heap[V3.heap.size]? = some (.cells c4 92 (0, 0)) := by rw [e4]; exact heap_alloc_new _ _
    have z4 : V4.heap.size = V.heap.size + 1 + 1 + 1 + 1 := by rw [e4]; simp; omega
    have b12 : Below V.heap.size V V4 := ((b1.trans (b2.mono b1.size)).trans (b3.mono (by omega))).trans (b4.mono (by omega))
    have b24 : Below V1.heap.size V1 V4 := (b2.trans (b3.mono (by omega))).trans (b4.mono (by omega))
    have b34 : Below V2.heap.size V2 V4 := b3.trans (b4.mono (by omega))
    rw [z2] at n3
    rw [z3] at n4
    subst hc3 hc4
  · exact ⟨hP.more (hB.trans (b12.mono (by omega))), hP.lt, hs, by omega, hv.more b12, hr.more b12, (b4.block _ (by omega)).trans n3, n4⟩
  · exact ⟨Kq.refl _ _, hn.more b12, n1.more b24, n2.more b34⟩
end Go.Proofs.Ytoafonbplbblpaa.Wa
end
