/- Several texts in one: Ze -/
import Derived.Test.YtoafonbplbblpaaZ31
import Derived.WalkMore
import Derived.Deep.DeepCutAuto
import Derived.Deep.CutRange
import Derived.Deep.CutBlock
section
/- Package walk: Walk of the program, whatever the tables say. -/
namespace Go.Proofs.Ytoafonbplbblpaa.Wa
open Go.RowKit Go.Shelf Ut Oc Vw
set_option maxRecDepth 100000
set_option linter.unusedVariables false
set_option maxHeartbeats 4000000

section
variable {b s m n : Nat} {S : List Int} {L : List Gm.Pl} {D : List Bool}
theorem walkIn_any (p z : Int) (R : Stp) (h0 : 0 ≤ z) (h1 : z < 16384) (hR : walkF n S L p z = R) (w : World) (hP : PV w b s m n S L D) :
    Calls Try.prog 10 #[.pointer (some ⟨b, 0, none⟩), .int .i64 p, .int .u32 z] w fun e w' => e = .returned R.v ∧ Below w.heap.size w w' := by
  have HR2 := step_run ((w.alloc (.cells #[.pointer (some ⟨b, 0, none⟩)] 27)).alloc (.cells #[.bool false, .int .i64 0, .int .i64 0, .int .i64 0, .int .i64 0, .int .i64 0] 40))
  have HN2 : Hid (Blk (((w.alloc (.cells #[.pointer (some ⟨b, 0, none⟩)] 27)).alloc (.cells #[.bool false, .int .i64 0, .int .i64 0, .int .i64 0, .int .i64 0, .int .i64 0] 40)).alloc (.cells stz.cs.toArray 40)) (w.heap.size + 2) 40 stz.cs) := Lib.hid (by
    have := Blk.new ((w.alloc (.cells #[.pointer (some ⟨b, 0, none⟩)] 27)).alloc (.cells #[.bool false, .int .i64 0, .int .i64 0, .int .i64 0, .int .i64 0, .int .i64 0] 40)) 40 stz.cs
    rwa [World.size_alloc, World.size_alloc] at this)
  obtain ⟨V, hV, hB, hs, hv, hr, hn⟩ := walk_new (some ⟨b, 0, none⟩) w
  have HV := Lib.hid hV
  have hs1 := hP.st.2.2.1
  have HBV := Lib.hid hB
  have HPB := Lib.hid hP.lt
  obtain ⟨U, hU, hE, hS⟩ := walk_env b s m n S L D p z w V hP hB hs hv hr hn
  have hbu : Below w.heap.size w U := by
    rw [hU]
    exact (((hB.alloc hB.size _).alloc (by have := hB.size; simp; omega) _).alloc (by have := hB.size; simp; omega) _).alloc (by have := hB.size; simp; omega) _
  have HBU := Lib.hid hbu
  have HU := Lib.hid hU
  have HE := Lib.hid hE
  have HS := Lib.hid hS
  obtain ⟨x, hx⟩ : ∃ x, rootW n S L p z = x := ⟨_, rfl⟩
  obtain ⟨f1, hf1⟩ : ∃ f, noneF n L p = f := ⟨_, rfl⟩
  obtain ⟨f2, hf2⟩ : ∃ f, rootF n S L p z = f := ⟨_, rfl⟩
  obtain ⟨T, hT⟩ : ∃ f, rootT n S L p z = f := ⟨_, rfl⟩
  obtain ⟨y, hy⟩ : ∃ x, leafW n S L p z = x := ⟨_, rfl⟩
  obtain ⟨f4, hf4⟩ : ∃ f, leafE n S L p z = f := ⟨_, rfl⟩
  obtain ⟨f3, hf3⟩ : ∃ f, noneF n L T = f := ⟨_, rfl⟩
  unfold walkF st1 st2 st3 st4 at hR
  rw [if_neg (by omega), hT, hf1, hf2, hf3, hy, hf4] at hR
  have hxl : x < 4294967296 := by rw [← hx]; exact wordT_lt hs1 _ _
  have hyl : y < 4294967296 := by rw [← hy]; exact wordT_lt hs1 _ _
  unfold rootF at hf2
  rw [hx] at hf2
  unfold rootT at hT
  rw [hx, show rootF n S L p z = Pe.tabF x by unfold rootF; rw [hx]] at hT
  unfold leafE at hf4
  rw [hy] at hf4
  unfold rootW at hx
  unfold leafW at hy
  rw [show rootT n S L p z = T by unfold rootT rootF rootW; rw [hx]; exact hT] at hy
  have C1 : Hid (∀ W, WS U W w.heap.size V.heap.size st0 p 0 → _) := Lib.hid fun W h => c_entry hE h (z / 1024) (z / 1024).toNat x f1 (by omega) (by omega) hf1 hx ⟨w.heap.size + 2, 4, none⟩ 32 #[.pointer (some ⟨V.heap.size, 0, none⟩)]
  have C2 : Hid (∀ W, WS U W w.heap.size V.heap.size ⟨false, 0, 0, 0, -1, -1⟩ p x → _) := Lib.hid fun W h => c_root hE h (z / 1024) f2 T (z / 1024).toNat (by omega) hxl hf2 hT
  have C3 : Hid (∀ W, WS U W w.heap.size V.heap.size ⟨false, 0, 0, 0, p, -1⟩ T x → _) := Lib.hid fun W h => c_entry hE h (z % 1024 / 64) (z / 64 % 16).toNat y f3 (by omega) (by omega) hf3 hy ⟨w.heap.size + 2, 5, none⟩ 33 #[.pointer (some ⟨w.heap.size + 2, 0, none⟩)]
  have C4 : Hid (∀ W, WS U W w.heap.size V.heap.size ⟨false, 0, 0, 0, p, -1⟩ T y → _) := Lib.hid fun W h => c_leaf hE h (z % 1024 / 64) f4 (z / 64 % 16).toNat (by omega) hyl hf4
  dsimp only at C2 C3 C4
  have HRR := Lib.hid hR
  clear hbu hV hB hs hv hr hn hP hs1 hU hE hS hx hf1 hf2 hT hy hf4 hf3 hR hxl hyl
  go_enter Try.func10, Try.ntmps10
  generalize hQQ : bodyPost _ _ _ = QQ
  have HQQ := Lib.hid hQQ
  clear hQQ
  go_upto_region 1 with fail
  go_step3
  go_upto_region 1 with fail
  refine wp_region_lit ?_
  refine wpList_buildTo rfl 40 _ rfl _ rfl st0.cs.toArray (by kernel_rfl) ?_
  refine Great.wpList_allocTo rfl (some 7) rfl (.pointer (some ⟨w.heap.size + 2, 0, none⟩)) (.cells stz.cs.toArray 40) (HR2.out _ _ rfl _ (by simp)) ?_
  refine wpList_store_rowTo rfl 40 _ _ rfl rfl (w.heap.size + 2) st0.cs.toArray (by kernel_rfl) (by kernel_rfl) 40 stz.cs.toArray HN2.out (size_stp _) rfl (one_stp _) ?_
  rw [show World.setRow _ (w.heap.size + 2) st0.cs.toArray = V from HV.out.symm]
  clear HR2 HN2 HV
  simp only [Act.put, List.setIfInBounds_toArray, List.set_cons_succ, List.set_cons_zero]
  go_upto_region 8 with fail
  rw [← HU.out]
  have e0 : Hid (V.heap.size = w.heap.size + 3) := Lib.hid HE.out.qp
  generalize V.heap.size = bp at *
  generalize hA0 : z / 1024 = A0 at *
  generalize hA1 : z % 1024 / 64 = A1 at *
  clear HU hA0 hA1 h0 h1
  go_step3
  go_upto_block 0 with fail
  go_cut [13, 15] from 41 to 59 (fun _ _ wx => ∃ t pg u, Hid (WS U wx w.heap.size bp t pg u) ∧ Hid (t = R))
  case first =>
    go_wp2
    go_loopw [41] (fun j wr => (j = .int .i64 0 ∧ Hid (WS U wr w.heap.size bp st0 p 0)) ∨ (j = .int .i64 1 ∧ Hid (f1 = 0) ∧ Hid (f2 = 0) ∧ Hid (WS U wr w.heap.size bp ⟨false, 0, 0, 0, p, -1⟩ T x)) ∨ (j = .int .i64 2 ∧ Hid (f1 = 0) ∧ Hid (f2 = 0) ∧ Hid (f3 = 0) ∧ Hid (f4 = 0) ∧ Hid (WS U wr w.heap.size bp ⟨Pe.oF 0, Pe.rF 0 y, Pe.gF 0 y, 0, p, T⟩ T y))) (fun j _ => 2 - (intOf j).toNat)
    case atStart => exact .inl ⟨rfl, HS⟩
    case round =>
      rcases hrel with ⟨rfl, HW⟩ | ⟨rfl, HZ1, HZ2, HW⟩ | ⟨rfl, HZ1, HZ2, HZ3, HZ4, HW⟩
      · skip
        have hT0 := HW.out.tb HE.out
        have d0 := hT0.cell (j := 0) rfl
        have d1 := hT0.cell (j := 1) rfl
        have d2 := hT0.cell (j := 2) rfl
        have dl := hT0.lt
        have HN13 := Lib.hid (Blk.new wr 89 [.int .i64 A0, .pointer (some ⟨w.heap.size + 2, 4, none⟩), .func (.func 32) #[] #[.pointer (some ⟨bp, 0, none⟩)]])
        have HW13 := Lib.hid (HW.out.more ((Below.refl wr.heap.size wr).alloc (Nat.le_refl _) (.cells #[.int .i64 A0, .pointer (some ⟨w.heap.size + 2, 4, none⟩), .func (.func 32) #[] #[.pointer (some ⟨bp, 0, none⟩)]] 89)))
        have HV13 : Hid (U.heap.size ≤ wr.heap.size) := Lib.hid HW.out.k.size
        clear hT0 HW
        go_wp2
        generalize wr.heap.size = V13 at *
        go_loopw [47] (fun j wr => (j = .int .i64 0 ∧ Hid (WS U wr w.heap.size bp st0 p 0) ∧ Hid (Blk wr V13 89 [.int .i64 A0, .pointer (some ⟨w.heap.size + 2, 4, none⟩), .func (.func 32) #[] #[.pointer (some ⟨bp, 0, none⟩)]])) ∨ (j = .int .i64 1 ∧ Hid (f1 = 0) ∧ Hid (WS U wr w.heap.size bp ⟨false, 0, 0, 0, -1, -1⟩ p x) ∧ Hid (Blk wr V13 89 [.int .i64 A0, .pointer (some ⟨w.heap.size + 2, 4, none⟩), .func (.func 32) #[] #[.pointer (some ⟨bp, 0, none⟩)]])) ∨ (j = .int .i64 2 ∧ Hid (f1 = 0) ∧ Hid (f2 = 0) ∧ Hid (WS U wr w.heap.size bp ⟨false, 0, 0, 0, p, -1⟩ T x) ∧ Hid (Blk wr V13 89 [.int .i64 A0, .pointer (some ⟨w.heap.size + 2, 4, none⟩), .func (.func 32) #[] #[.pointer (some ⟨bp, 0, none⟩)]]))) (fun j _ => 2 - (intOf j).toNat)
        case atStart => exact .inl ⟨rfl, HW13, HN13⟩
        case round =>
          rcases hrel with ⟨rfl, HW, HTB⟩ | ⟨rfl, HZ1, HW, HTB⟩ | ⟨rfl, HZ1, HZ2, HW, HTB⟩
          · skip
            have hT0 := HTB.out
            have g0 : wr.cell? ⟨V13, 0, none⟩ = some (.int .i64 A0) := hT0.cell rfl
            have g1 : wr.cell? ⟨V13, 1, none⟩ = some (.pointer (some ⟨w.heap.size + 2, 4, none⟩)) := hT0.cell rfl
            have g2 : wr.cell? ⟨V13, 2, none⟩ = some (.func (.func 32) #[] #[.pointer (some ⟨bp, 0, none⟩)]) := hT0.cell rfl
            have gl := hT0.lt
            have hF0 := HW.out.fb HE.out
            have d0 := hF0.cell (j := 0) rfl
            have dl := hF0.lt
            have HC := Lib.hid (C1.out wr HW.out)
            clear hT0 hF0
            go_wp2_with fail
            refine HC.out.mono ?_
            rintro e w3 ⟨rfl, hw3, hk3⟩
            have HT3 := Lib.hid (HW.out.blk HE.out HV13.out hk3 HTB.out)
            have HW4 : Hid (WS U (w3.setCell ⟨w.heap.size + 2, 3, none⟩ (.int .i64 f1)) w.heap.size bp ⟨false, 0, 0, f1, -1, -1⟩ p x) := Lib.hid (hw3.fault HE.out f1)
            have HT4 : Hid (Blk (w3.setCell ⟨w.heap.size + 2, 3, none⟩ (.int .i64 f1)) V13 89 _) := Lib.hid (HT3.out.of_block (Below.heap_setCell _ _ _ _ (by have := HV13.out; have := HE.out.qp; have := HE.out.sz; simp; omega)))
            have f0 := hw3.sb.frozen 3
            have s0 := hw3.sb.cell (j := 3) rfl
            have l0 := hw3.sb.lt
            clear hw3 hk3 HT3 g0 g1 g2 gl d0 dl HC HW HTB
            by_cases hz : f1 = 0
            · have HZ1 := Lib.hid hz
              rw [hz] at HW4 HT4
              have hz2 : (f1 != 0) = false := by simp [hz]
              go_wp2
              go_roundw
              case rel => exact .inr (.inl ⟨rfl, HZ1, HW4, HT4⟩)
              case measure => simp [intOf]
            · have hz2 : (f1 != 0) = true := by simp [hz]
              have HR5 : Hid (⟨false, 0, 0, f1, -1, -1⟩ = R) := Lib.hid (Eq.symm <| HRR.out.symm.trans (if_pos hz))
              go_wp2
              go_meet
              exact ⟨_, _, _, HW4, HR5⟩
          · skip
            have hT0 := HTB.out
            have g0 : wr.cell? ⟨V13, 0, none⟩ = some (.int .i64 A0) := hT0.cell rfl
            have g1 : wr.cell? ⟨V13, 1, none⟩ = some (.pointer (some ⟨w.heap.size + 2, 4, none⟩)) := hT0.cell rfl
            have g2 : wr.cell? ⟨V13, 2, none⟩ = some (.func (.func 32) #[] #[.pointer (some ⟨bp, 0, none⟩)]) := hT0.cell rfl
            have gl := hT0.lt
            have hF0 := HW.out.fb HE.out
            have d1 := hF0.cell (j := 1) rfl
            have dl := hF0.lt
            have HC := Lib.hid (C2.out wr HW.out)
            clear hT0 hF0
            go_wp2_with fail
            refine HC.out.mono ?_
            rintro e w3 ⟨rfl, hw3, hk3⟩
            have HT3 := Lib.hid (HW.out.blk HE.out HV13.out hk3 HTB.out)
            have HW4 : Hid (WS U (w3.setCell ⟨w.heap.size + 2, 3, none⟩ (.int .i64 f2)) w.heap.size bp ⟨false, 0, 0, f2, p, -1⟩ T x) := Lib.hid (hw3.fault HE.out f2)
            have HT4 : Hid (Blk (w3.setCell ⟨w.heap.size + 2, 3, none⟩ (.int .i64 f2)) V13 89 _) := Lib.hid (HT3.out.of_block (Below.heap_setCell _ _ _ _ (by have := HV13.out; have := HE.out.qp; have := HE.out.sz; simp; omega)))
            have f0 := hw3.sb.frozen 3
            have s0 := hw3.sb.cell (j := 3) rfl
            have l0 := hw3.sb.lt
            clear hw3 hk3 HT3 g0 g1 g2 gl d1 dl HC HW HTB
            by_cases hz : f2 = 0
            · have HZ2 := Lib.hid hz
              rw [hz] at HW4 HT4
              have hz2 : (f2 != 0) = false := by simp [hz]
              go_wp2
              go_roundw
              case rel => exact .inr (.inr ⟨rfl, HZ1, HZ2, HW4, HT4⟩)
              case measure => simp [intOf]
            · have hz2 : (f2 != 0) = true := by simp [hz]
              have HR5 : Hid (⟨false, 0, 0, f2, p, -1⟩ = R) := Lib.hid (Eq.symm <| HRR.out.symm.trans ((if_neg (fun hh => hh HZ1.out)).trans (if_pos hz)))
              go_wp2
              go_meet
              exact ⟨_, _, _, HW4, HR5⟩
          · go_wp2
            go_roundw
            case rel => exact .inr (.inl ⟨rfl, HZ1, HZ2, HW⟩)
            case measure => simp [intOf]
      · skip
        have hT0 := HW.out.tb HE.out
        have d0 := hT0.cell (j := 3) rfl
        have d1 := hT0.cell (j := 4) rfl
        have d2 := hT0.cell (j := 5) rfl
        have dl := hT0.lt
        have HN13 := Lib.hid (Blk.new wr 89 [.int .i64 A1, .pointer (some ⟨w.heap.size + 2, 5, none⟩), .func (.func 33) #[] #[.pointer (some ⟨w.heap.size + 2, 0, none⟩)]])
        have HW13 := Lib.hid (HW.out.more ((Below.refl wr.heap.size wr).alloc (Nat.le_refl _) (.cells #[.int .i64 A1, .pointer (some ⟨w.heap.size + 2, 5, none⟩), .func (.func 33) #[] #[.pointer (some ⟨w.heap.size + 2, 0, none⟩)]] 89)))
        have HV13 : Hid (U.heap.size ≤ wr.heap.size) := Lib.hid HW.out.k.size
        clear hT0 HW
        go_wp2
        generalize wr.heap.size = V13 at *
        go_loopw [47] (fun j wr => (j = .int .i64 0 ∧ Hid (WS U wr w.heap.size bp ⟨false, 0, 0, 0, p, -1⟩ T x) ∧ Hid (Blk wr V13 89 [.int .i64 A1, .pointer (some ⟨w.heap.size + 2, 5, none⟩), .func (.func 33) #[] #[.pointer (some ⟨w.heap.size + 2, 0, none⟩)]])) ∨ (j = .int .i64 1 ∧ Hid (f3 = 0) ∧ Hid (WS U wr w.heap.size bp ⟨false, 0, 0, 0, p, -1⟩ T y) ∧ Hid (Blk wr V13 89 [.int .i64 A1, .pointer (some ⟨w.heap.size + 2, 5, none⟩), .func (.func 33) #[] #[.pointer (some ⟨w.heap.size + 2, 0, none⟩)]])) ∨ (j = .int .i64 2 ∧ Hid (f3 = 0) ∧ Hid (f4 = 0) ∧ Hid (WS U wr w.heap.size bp ⟨Pe.oF 0, Pe.rF 0 y, Pe.gF 0 y, 0, p, T⟩ T y) ∧ Hid (Blk wr V13 89 [.int .i64 A1, .pointer (some ⟨w.heap.size + 2, 5, none⟩), .func (.func 33) #[] #[.pointer (some ⟨w.heap.size + 2, 0, none⟩)]]))) (fun j _ => 2 - (intOf j).toNat)
        case atStart => exact .inl ⟨rfl, HW13, HN13⟩
        case round =>
          rcases hrel with ⟨rfl, HW, HTB⟩ | ⟨rfl, HZ3, HW, HTB⟩ | ⟨rfl, HZ3, HZ4, HW, HTB⟩
          · skip
            have hT0 := HTB.out
            have g0 : wr.cell? ⟨V13, 0, none⟩ = some (.int .i64 A1) := hT0.cell rfl
            have g1 : wr.cell? ⟨V13, 1, none⟩ = some (.pointer (some ⟨w.heap.size + 2, 5, none⟩)) := hT0.cell rfl
            have g2 : wr.cell? ⟨V13, 2, none⟩ = some (.func (.func 33) #[] #[.pointer (some ⟨w.heap.size + 2, 0, none⟩)]) := hT0.cell rfl
            have gl := hT0.lt
            have hF0 := HW.out.fb HE.out
            have d0 := hF0.cell (j := 0) rfl
            have dl := hF0.lt
            have HC := Lib.hid (C3.out wr HW.out)
            clear hT0 hF0
            go_wp2_with fail
            refine HC.out.mono ?_
            rintro e w3 ⟨rfl, hw3, hk3⟩
            have HT3 := Lib.hid (HW.out.blk HE.out HV13.out hk3 HTB.out)
            have HW4 : Hid (WS U (w3.setCell ⟨w.heap.size + 2, 3, none⟩ (.int .i64 f3)) w.heap.size bp ⟨false, 0, 0, f3, p, -1⟩ T y) := Lib.hid (hw3.fault HE.out f3)
            have HT4 : Hid (Blk (w3.setCell ⟨w.heap.size + 2, 3, none⟩ (.int .i64 f3)) V13 89 _) := Lib.hid (HT3.out.of_block (Below.heap_setCell _ _ _ _ (by have := HV13.out; have := HE.out.qp; have := HE.out.sz; simp; omega)))
            have f0 := hw3.sb.frozen 3
            have s0 := hw3.sb.cell (j := 3) rfl
            have l0 := hw3.sb.lt
            clear hw3 hk3 HT3 g0 g1 g2 gl d0 dl HC HW HTB
            by_cases hz : f3 = 0
            · have HZ3 := Lib.hid hz
              rw [hz] at HW4 HT4
              have hz2 : (f3 != 0) = false := by simp [hz]
              go_wp2
              go_roundw
              case rel => exact .inr (.inl ⟨rfl, HZ3, HW4, HT4⟩)
              case measure => simp [intOf]
            · have hz2 : (f3 != 0) = true := by simp [hz]
              have HR5 : Hid (⟨false, 0, 0, f3, p, -1⟩ = R) := Lib.hid (Eq.symm <| HRR.out.symm.trans ((if_neg (fun hh => hh HZ1.out)).trans ((if_neg (fun hh => hh HZ2.out)).trans (if_pos hz))))
              go_wp2
              go_meet
              exact ⟨_, _, _, HW4, HR5⟩
          · skip
            have hT0 := HTB.out
            have g0 : wr.cell? ⟨V13, 0, none⟩ = some (.int .i64 A1) := hT0.cell rfl
            have g1 : wr.cell? ⟨V13, 1, none⟩ = some (.pointer (some ⟨w.heap.size + 2, 5, none⟩)) := hT0.cell rfl
            have g2 : wr.cell? ⟨V13, 2, none⟩ = some (.func (.func 33) #[] #[.pointer (some ⟨w.heap.size + 2, 0, none⟩)]) := hT0.cell rfl
            have gl := hT0.lt
            have hF0 := HW.out.fb HE.out
            have d1 := hF0.cell (j := 1) rfl
            have dl := hF0.lt
            have HC := Lib.hid (C4.out wr HW.out)
            clear hT0 hF0
            go_wp2_with fail
            refine HC.out.mono ?_
            rintro e w3 ⟨rfl, hw3, hk3⟩
            have HT3 := Lib.hid (HW.out.blk HE.out HV13.out hk3 HTB.out)
            have HW4 : Hid (WS U (w3.setCell ⟨w.heap.size + 2, 3, none⟩ (.int .i64 f4)) w.heap.size bp ⟨Pe.oF f4, Pe.rF f4 y, Pe.gF f4 y, f4, p, T⟩ T y) := Lib.hid (hw3.fault HE.out f4)
            have HT4 : Hid (Blk (w3.setCell ⟨w.heap.size + 2, 3, none⟩ (.int .i64 f4)) V13 89 _) := Lib.hid (HT3.out.of_block (Below.heap_setCell _ _ _ _ (by have := HV13.out; have := HE.out.qp; have := HE.out.sz; simp; omega)))
            have f0 := hw3.sb.frozen 3
            have s0 := hw3.sb.cell (j := 3) rfl
            have l0 := hw3.sb.lt
            clear hw3 hk3 HT3 g0 g1 g2 gl d1 dl HC HW HTB
            by_cases hz : f4 = 0
            · have HZ4 := Lib.hid hz
              rw [hz] at HW4 HT4
              have hz2 : (f4 != 0) = false := by simp [hz]
              go_wp2
              go_roundw
              case rel => exact .inr (.inr ⟨rfl, HZ3, HZ4, HW4, HT4⟩)
              case measure => simp [intOf]
            · have hz2 : (f4 != 0) = true := by simp [hz]
              have HR5 : Hid (⟨Pe.oF f4, Pe.rF f4 y, Pe.gF f4 y, f4, p, T⟩ = R) := Lib.hid (Eq.symm <| HRR.out.symm.trans ((if_neg (fun hh => hh HZ1.out)).trans ((if_neg (fun hh => hh HZ2.out)).trans (if_neg (fun hh => hh HZ3.out)))))
              go_wp2
              go_meet
              exact ⟨_, _, _, HW4, HR5⟩
          · go_wp2
            go_roundw
            case rel => exact .inr (.inr ⟨rfl, HZ1, HZ2, HZ3, HZ4, HW⟩)
            case measure => simp [intOf]
      · have HR5 : Hid (⟨Pe.oF 0, Pe.rF 0 y, Pe.gF 0 y, 0, p, T⟩ = R) := Lib.hid (Eq.symm <| HRR.out.symm.trans ((if_neg (fun hh => hh HZ1.out)).trans ((if_neg (fun hh => hh HZ2.out)).trans ((if_neg (fun hh => hh HZ3.out)).trans (by rw [HZ4.out])))))
        go_wp2
        go_meet
        exact ⟨_, _, _, HW, HR5⟩
  case rest =>
    obtain ⟨t, pg, u, HW, HR5⟩ := hcut
    rw [← HR5.out] at HQQ
    clear HR5 C1 C2 C3 C4 HRR HS
    have HN3 := Lib.hid HW.out.sb
    have HR3 := Lib.hid (HW.out.rb HE.out)
    have HB3 : Hid (Below w.heap.size w wc) := Lib.hid (HBU.out.trans (HW.out.k.under (fun j hj => by have := e0.out; simp at hj; omega) HBU.out.size))
    go_upto_region 18 with fail
    refine wp_region_lit ?_
    refine wpList_load_row rfl 40 _ rfl (w.heap.size + 2) rfl 40 t.cs.toArray (0, 0) _ HN3.out Try.underlying40 rfl (size_stp _) ?_
    refine wpList_store_rowTo rfl 40 _ _ rfl rfl (w.heap.size + 1) t.cs.toArray (by kernel_rfl) (by kernel_rfl) 40 stz.cs.toArray HR3.out (size_stp _) rfl (one_stp _) ?_
    have HR4 := Lib.hid (HR3.out.row t.cs)
    have HB4 := Lib.hid (below_setRow HB3.out (Nat.le_succ w.heap.size) t.cs.toArray)
    generalize World.setRow _ (w.heap.size + 1) t.cs.toArray = Y at HR4 HB4 ⊢
    simp only [Act.put, List.setIfInBounds_toArray, List.set_cons_succ, List.set_cons_zero]
    go_wp2
    rw [Exit.noGoto_ret, ← HQQ.out]
    exact bodyPost_ret (v := Stp.v t) (results_cell_row Try.results10 _ _ _ _ _ _ _ rfl HR4.out Try.underlying40 rfl (size_stp _)) rfl ⟨rfl, HB4.out⟩
theorem walk_any (p z : Int) (R : Stp) (h0 : 0 ≤ z) (h1 : z < 4294967296) (hR : walkF n S L p z = R) (w : World) (hP : PV w b s m n S L D) :
    Calls Try.prog 10 #[.pointer (some ⟨b, 0, none⟩), .int .i64 p, .int .u32 z] w fun e w' => e = .returned R.v ∧ Below w.heap.size w w' := by
  by_cases h : z < 16384
  · exact walkIn_any p z R h0 h hR w hP
  · have e : R = ⟨false, 0, 0, 2, -1, -1⟩ := by
      rw [← hR]
      unfold walkF
      rw [if_pos (by omega)]
    rw [e]
    exact walk_far _ p z (by omega) h1 w
end
end Go.Proofs.Ytoafonbplbblpaa.Wa
end
