/- Several texts in one: Sp -/
import Derived.Test.YtniaclhmfmkikaaGreatDoorZ33
import Derived.Test.YtniaclhmfmkikaaGreatDoorZ03
section
/- The walk of hermitagelaw13.CorePlays. -/
namespace Go.Proofs.YtniaclhmfmkikaaGreatDoor.Ex
open Go.RowKit Ut
set_option maxRecDepth 100000
set_option linter.unusedVariables false
set_option maxHeartbeats 4000000

/-- the slice at a of n instructions reads as Z, and lies below block B -/
def InsRow (w : World) (B : Nat) (a : Option Addr) (n : Nat) (Z : Nat → Nat → Int) : Prop := ∀ i, i < n → ∃ x, a = some x ∧ x.block < B ∧ ∀ j, j < 5 → w.cell? (x.add (i * 5 + j)) = some (.int .i64 (Z i j))
theorem add_some5 (x : Addr) (m j : Nat) (hj : j ≠ 0) : x.add (m + j) = ⟨(x.add m).block, (x.add m).off + j, none⟩ := by
  rw [← add_of_add]
  generalize x.add m = y
  unfold Addr.add
  rw [if_neg hj]
/-- an instruction of the slice, at a world that left it -/
theorem ins_cells {w W : World} {x : Addr} {k : Nat} {o d a b m : Int} {B : Nat} (hb : Below B w W) (hx : x.block < B) (h : w.cell? (x.add (k * 5)) = some (.int .i64 o) ∧ w.cell? (x.add (k * 5 + 1)) = some (.int .i64 d) ∧ w.cell? (x.add (k * 5 + 2)) = some (.int .i64 a) ∧ w.cell? (x.add (k * 5 + 3)) = some (.int .i64 b) ∧ w.cell? (x.add (k * 5 + 4)) = some (.int .i64 m)) :
    W.cell? (x.add (k * 5)) = some (.int .i64 o) ∧ W.cell? ⟨(x.add (k * 5)).block, (x.add (k * 5)).off + 1, none⟩ = some (.int .i64 d) ∧ W.cell? ⟨(x.add (k * 5)).block, (x.add (k * 5)).off + 2, none⟩ = some (.int .i64 a) ∧ W.cell? ⟨(x.add (k * 5)).block, (x.add (k * 5)).off + 3, none⟩ = some (.int .i64 b) ∧ W.cell? ⟨(x.add (k * 5)).block, (x.add (k * 5)).off + 4, none⟩ = some (.int .i64 m) := by
  obtain ⟨h0, h1, h2, h3, h4⟩ := h
  have g : ∀ j, W.cell? (x.add (k * 5 + j)) = w.cell? (x.add (k * 5 + j)) := fun j => hb.cell (p := x.add (k * 5 + j)) (by rw [block_of_add]; exact hx)
  refine ⟨(g 0).trans h0, ?_, ?_, ?_, ?_⟩
  · rw [← add_some5 x _ 1 (by decide)]; exact (g 1).trans h1
  · rw [← add_some5 x _ 2 (by decide)]; exact (g 2).trans h2
  · rw [← add_some5 x _ 3 (by decide)]; exact (g 3).trans h3
  · rw [← add_some5 x _ 4 (by decide)]; exact (g 4).trans h4
theorem exec_load_ins {ρ : Operand → Value} {oo : Oper} {w W : World} {x : Addr} {k : Nat} {o d a b m : Int} {B : Nat} (t : Operand) (ho : oo.op = .load 37 t) (hr : ρ t = .pointer (some (x.add (k * 5)))) (hb : Below B w W) (hx : x.block < B) (h : w.cell? (x.add (k * 5)) = some (.int .i64 o) ∧ w.cell? (x.add (k * 5 + 1)) = some (.int .i64 d) ∧ w.cell? (x.add (k * 5 + 2)) = some (.int .i64 a) ∧ w.cell? (x.add (k * 5 + 3)) = some (.int .i64 b) ∧ w.cell? (x.add (k * 5 + 4)) = some (.int .i64 m)) :
    (execOp ρ oo).run Tryz.prog W = .ok (.value (Is.insV o d a b m)) W := by
  obtain ⟨h0, h1, h2, h3, h4⟩ := h
  have g : ∀ j, W.cell? (x.add (k * 5 + j)) = w.cell? (x.add (k * 5 + j)) := fun j => hb.cell (p := x.add (k * 5 + j)) (by rw [block_of_add]; exact hx)
  refine exec_load_cells 37 t ho _ hr [.int .i64 o, .int .i64 d, .int .i64 a, .int .i64 b, .int .i64 m] _ (fun j v hj => ?_) Tryz.underlying37 rfl (by kernel_rfl)
  rw [add_of_add, g j]
  match j, hj with
  | 0, hj => simp at hj; subst hj; exact h0
  | 1, hj => simp at hj; subst hj; exact h1
  | 2, hj => simp at hj; subst hj; exact h2
  | 3, hj => simp at hj; subst hj; exact h3
  | 4, hj => simp at hj; subst hj; exact h4
  | j + 5, hj => simp at hj
theorem refExec_at {ab bb i : Nat} {p : Int} {R : List Int} {Q : List Nat} (hR : RegOk R) (clock o d a b m : Int) (r : Res) (z : Int) (hr : exX R p Q i clock o d a b m = r) (hz : exZ o d a b m = z) :
    Hid (∀ W, Doc W ab bb i p R Q → Calls Tryz.prog 9 #[Is.insV o d a b m, .pointer (some ⟨ab, 0, none⟩), .pointer (some ⟨bb, 0, none⟩), .int .i64 clock] W fun e w' => e = .returned (.tuple #[r.E.val, .int .i64 z]) ∧ Doc w' ab bb i r.p r.R r.Q ∧ Kp [ab, bb] W w') := Lib.hid fun W h => by
  have := refExec_any hR clock o d a b m W h
  rw [hr, hz] at this
  exact this

theorem plays13_any (al : Option Addr) (n cap : Nat) (zs : List Int) (pc : Int) (status : Nat) (ai : Option Addr) (ni ci : Nat) (Z : Nat → Nat → Int) (w : World) (hn : n ≤ 9223372036854775807) (hni : ni ≤ 9223372036854775807) (hs : status < 4294967296) (hz : RowK .u32 w w.heap.size al n zs) (hzb : ∀ z ∈ zs, 0 ≤ z ∧ z < 4294967296) (hi : InsRow w w.heap.size ai ni Z) (hw : Is.HasT w) :
    Calls Tryz.prog 3 #[.slice al n cap, .int .u32 pc, .int .u32 (status : Int), .slice ai ni ci] w fun e w' => e = .returned (.bool true) ∧ Below w.heap.size w w' := by
  have HM := Lib.hid (made_any al n cap zs pc status w hn hs hz hw)
  have HR0 := Lib.hid (ldR_ok hzb n)
  have HII := Lib.hid hi
  generalize ldR zs n = R0 at HM HR0
  generalize qS status = Q0 at HM
  clear hz hzb hw hn hs hi
  go_enter Tryz.func3, Tryz.ntmps3
  go_wp2_with fail
  refine HM.out.mono ?_
  rintro e w1 ⟨rb, cb, ab, bb, rfl, hO⟩
  have HO1 := Lib.hid hO
  clear hO HM
  go_wp2
  go_loopw [13] (fun j wr => ∃ (k : Nat) (p : Int) (R : List Int) (Q : List Nat), k ≤ 60 ∧ j = .int .i64 k ∧ Hid (RegOk R) ∧ Hid (Both w wr rb cb ab bb 2 p R Q p R Q)) (fun j _ => 60 - (intOf j).toNat)
  case atStart => exact ⟨0, pc, R0, Q0, Nat.zero_le _, rfl, HR0, HO1⟩
  case round =>
    clear HO1 HR0
    obtain ⟨k, p, R, Q, hk, rfl, HR, HO⟩ := hrel
    by_cases hin : k < ni ∧ k < 60
    · obtain ⟨h1, h2⟩ := hin
      obtain ⟨x, rfl, hxb, hxc⟩ := HII.out k h1
      have HC := Lib.hid (And.intro (hxc 0 (by decide)) (And.intro (hxc 1 (by decide)) (And.intro (hxc 2 (by decide)) (And.intro (hxc 3 (by decide)) (hxc 4 (by decide))))))
      generalize Z k 0 = o at HC
      generalize Z k 1 = d at HC
      generalize Z k 2 = a at HC
      generalize Z k 3 = b at HC
      generalize Z k 4 = m at HC
      have HXB := Lib.hid hxb
      have f1 : (k : Int) < (ni : Int) := by omega
      have f2 : (k : Int) < 60 := by omega
      have H2 := Lib.hid h2
      obtain ⟨r, hr⟩ : ∃ r, exX R p Q 2 (k : Int) o d a b m = r := ⟨_, rfl⟩
      obtain ⟨z, hz⟩ : ∃ z, exZ o d a b m = z := ⟨_, rfl⟩
      obtain ⟨wd, hwd⟩ : ∃ x, Is.encZ o d a b m = x := ⟨_, rfl⟩
      have HX := exec_at (rb := rb) (cb := cb) HR.out (k : Int) o d a b m r z hr hz
      have HY := refExec_at (ab := ab) (bb := bb) HR.out (k : Int) o d a b m r z hr hz
      have HR2 : Hid (RegOk r.R) := Lib.hid (by rw [← hr]; exact exX_ok HR.out HO.out.f.csr.2.1 (by decide) p k o d a b m)
      have HWD : Hid (∀ V, Is.HasT V → Calls Tryz.prog 13 #[Is.insV o d a b m] V fun e w' => e = .returned (.int .u32 wd) ∧ Below V.heap.size V w') := Lib.hid fun V hV => word_any o d a b m wd hwd V hV
      have HWE : Hid (∀ V, Calls Tryz.prog 14 #[Is.insV o d a b m] V fun e w' => e = .returned (.int .u32 wd) ∧ Below V.heap.size V w') := Lib.hid fun V => refWord_any o d a b m wd hwd V
      clear hxb hxc hk h1 h2 hr hz hwd HR
      obtain ⟨r0, r1, r2, r3, r4⟩ := ins_cells HO.out.b HXB.out HC.out
      have hlx : (x.add (k * 5)).block < wr.heap.size := by rw [block_of_add]; exact Nat.lt_of_lt_of_le HXB.out HO.out.b.size
      go_wp2_with fail
      clear r0 r1 r2 r3 r4 hlx
      refine (HX.out wr HO.out.f).mono ?_
      rintro e w4 ⟨rfl, hF, hkp⟩
      have HO4 := Lib.hid (HO.out.fexec hF hkp)
      clear hF hkp HO HX
      go_simp
      rename_i hK
      refine hK _ _ ?_
      clear hK
      refine Great.wpList_readTo rfl _ rfl (.tuple #[Eff.val r.E, .int .i64 z]) (by kernel_rfl) ?_
      refine Great.wpList_readTo rfl _ rfl (Eff.val r.E) (by kernel_rfl) ?_
      refine Great.wpList_readTo rfl _ rfl (.int .i64 z) (by kernel_rfl) ?_
      refine Great.wpList_allocTo rfl (some 14) rfl (.pointer (some ⟨w4.heap.size, 0, none⟩)) (.cells zeroE.cs.toArray 32) ((eff_run w4).out _ _ rfl) ?_
      refine wpList_store_rowTo rfl 32 _ _ rfl rfl w4.heap.size (Eff.cs r.E).toArray (by kernel_rfl) (by kernel_rfl) 32 zeroE.cs.toArray (Blk.new w4 _ _) (size_eff _) (rfl) (one_eff _) ?_
      obtain ⟨hb, hN⟩ := eff_put w4 r.E
      generalize (w4.alloc (.cells zeroE.cs.toArray 32)).setRow w4.heap.size (Eff.cs r.E).toArray = w5 at hb hN ⊢
      have HE5 := Lib.hid hN
      have HO5 := Lib.hid (HO4.out.below hb)
      have HNF : Hid (w4.heap.size ∉ [ab, bb] ∧ w4.heap.size ≠ rb ∧ w4.heap.size ≠ ab) := Lib.hid (by have := HO4.out.d.lts; have := HO4.out.f.lts; simp; omega)
      clear hb hN HO4
      generalize w4.heap.size = eb at HE5 HNF ⊢
      obtain ⟨r0, r1, r2, r3, r4⟩ := ins_cells HO5.out.b HXB.out HC.out
      have hlx : (x.add (k * 5)).block < w5.heap.size := by rw [block_of_add]; exact Nat.lt_of_lt_of_le HXB.out HO5.out.b.size
      go_wp2_with fail
      clear r0 r1 r2 r3 r4 hlx
      refine (HY.out w5 HO5.out.d).mono ?_
      rintro e w6 ⟨rfl, hF, hkp⟩
      have HO6 := Lib.hid (HO5.out.dexec hF hkp)
      have HE6 := Lib.hid (Blk.kp HE5.out hkp HNF.out.1)
      clear hF hkp HO5 HE5 HY
      go_simp
      rename_i hK
      refine hK _ _ ?_
      clear hK
      refine Great.wpList_readTo rfl _ rfl (.tuple #[Eff.val r.E, .int .i64 z]) (by kernel_rfl) ?_
      refine Great.wpList_readTo rfl _ rfl (Eff.val r.E) (by kernel_rfl) ?_
      refine Great.wpList_readTo rfl _ rfl (.int .i64 z) (by kernel_rfl) ?_
      refine Great.wpList_allocTo rfl (some 16) rfl (.pointer (some ⟨w6.heap.size, 0, none⟩)) (.cells zeroE.cs.toArray 32) ((eff_run w6).out _ _ rfl) ?_
      refine wpList_store_rowTo rfl 32 _ _ rfl rfl w6.heap.size (Eff.cs r.E).toArray (by kernel_rfl) (by kernel_rfl) 32 zeroE.cs.toArray (Blk.new w6 _ _) (size_eff _) (rfl) (one_eff _) ?_
      obtain ⟨hb, hN⟩ := eff_put w6 r.E
      generalize (w6.alloc (.cells zeroE.cs.toArray 32)).setRow w6.heap.size (Eff.cs r.E).toArray = w7 at hb hN ⊢
      have HD7 := Lib.hid hN
      have HO7 := Lib.hid (HO6.out.below hb)
      have HE7 := Lib.hid (HE6.out.below hb HE6.out.lt)
      clear hb hN HO6 HE6
      generalize w6.heap.size = fb at HD7 ⊢
      have HALL : Hid (∀ V, Rg.FAt V rb r.p r.R → Calls Tryz.prog 10 #[.pointer (some ⟨rb, 0, none⟩)] V fun e w' => e = .returned (Rg.arrV r.R) ∧ Below V.heap.size V w') := Lib.hid fun V hV => Rg.all_any rb r.p r.R V hV
      have HPC : Hid (∀ V, Rg.FAt V rb r.p r.R → Calls Tryz.prog 11 #[.pointer (some ⟨rb, 0, none⟩)] V fun e w' => e = .returned (.int .u32 r.p) ∧ V = w') := Lib.hid fun V hV => Rg.pc_any rb r.p r.R V hV
      have HAL7 : Hid (∀ V, Cs.FAt V cb 2 r.Q → Calls Tryz.prog 12 #[.pointer (some ⟨cb, 0, none⟩)] V fun e w' => e = .returned (Cs.arrV r.Q) ∧ Below V.heap.size V w') := Lib.hid fun V hV => Cs.all_any cb 2 r.Q V hV
      have HLE : Hid (∀ (V : World) (ρ : Operand → Value) (oo : Oper) (t : Operand) (q : Nat), Blk V q 32 r.E.cs → oo.op = .load 32 t → ρ t = .pointer (some ⟨q, 0, none⟩) → (execOp ρ oo).run Tryz.prog V = .ok (.value r.E.val) V) := Lib.hid fun V ρ oo t q hV ho hx => exec_load_blk hV 0 32 t ho hx r.E.cs (fun j v h => by rw [Nat.zero_add]; exact h) _ Tryz.underlying32 rfl (size_effL _)
      have HL16 : Hid (∀ (V : World) (ρ : Operand → Value) (oo : Oper) (t : Operand), Rg.RAt V ab r.p r.R → oo.op = .load 40 t → ρ t = .pointer (some ⟨ab, 0, none⟩) → (execOp ρ oo).run Tryz.prog V = .ok (.value (Rg.arrV r.R)) V) := Lib.hid fun V ρ oo t hV ho hx => exec_load_blk hV.1 0 40 t ho hx (Rg.wordsV r.R) (Rg.rCells_words r.p r.R) _ Tryz.underlying40 rfl (Rg.size_words r.R hV.2)
      have HL7 : Hid (∀ (V : World) (ρ : Operand → Value) (oo : Oper) (t : Operand), Cs.RAt V bb 2 r.Q → oo.op = .load 45 t → ρ t = .pointer (some ⟨bb, 0, none⟩) → (execOp ρ oo).run Tryz.prog V = .ok (.value (Cs.arrV r.Q)) V) := Lib.hid fun V ρ oo t hV ho hx => exec_load_blk hV.1 0 45 t ho hx (Cs.wordsV r.Q) (Cs.rCells_words 2 r.Q) _ Tryz.underlying45 rfl (Cs.size_words r.Q hV.2.1.len)
      have HLI : Hid (∀ (V : World) (ρ : Operand → Value) (oo : Oper) (t : Operand), Below w.heap.size w V → oo.op = .load 37 t → ρ t = .pointer (some (x.add (k * 5))) → (execOp ρ oo).run Tryz.prog V = .ok (.value (Is.insV o d a b m)) V) := Lib.hid fun V ρ oo t hV ho hx => exec_load_ins t ho hx hV HXB.out HC.out
      have hgE : ∀ (x y : Operand) (V : World), (eqGuard .neq 32 x y r.E.val r.E.val).run Tryz.prog V = .ok () V := fun x y V => guard_eff _ x y _ _ V
      have hnE : ∀ V : World, (binOp .neq 32 r.E.val r.E.val).run Tryz.prog V = .ok (.bool false) V := fun V => neq_eff _ V
      have hgA : ∀ (x y : Operand) (V : World), (eqGuard .neq 40 x y (Rg.arrV r.R) (Rg.arrV r.R)).run Tryz.prog V = .ok () V := fun x y V => Rg.guard_words _ x y _ _ V
      have hnA : ∀ V : World, (binOp .neq 40 (Rg.arrV r.R) (Rg.arrV r.R)).run Tryz.prog V = .ok (.bool false) V := fun V => by rw [Rg.bin_neq _ _ HR2.out.1 HR2.out.1 V]; simp
      have hg7 : ∀ (x y : Operand) (V : World), (eqGuard .neq 45 x y (Cs.arrV r.Q) (Cs.arrV r.Q)).run Tryz.prog V = .ok () V := fun x y V => Cs.guard_words _ x y _ _ V
      have hn7 : ∀ V : World, (binOp .neq 45 (Cs.arrV r.Q) (Cs.arrV r.Q)).run Tryz.prog V = .ok (.bool false) V := fun V => Cs.bin_neq _ HO7.out.f.csr.2.1.len V
      generalize r.E.val = VE at HLE hgE hnE
      generalize Rg.arrV r.R = A at HALL HL16 hgA hnA
      generalize Cs.arrV r.Q = A7 at HAL7 HL7 hg7 hn7
      have c16 : w7.cell? ⟨ab, 16, none⟩ = some (.int .u32 r.p) := HO7.out.d.reg.pc
      have hla := HO7.out.d.reg.1.lt
      have hlb := HO7.out.d.csr.1.lt
      obtain ⟨pp, hpp⟩ : ∃ q, r.p = q := ⟨_, rfl⟩
      have HPP := Lib.hid hpp
      rw [hpp] at c16
      have HPC2 : Hid (∀ V, Rg.FAt V rb r.p r.R → Calls Tryz.prog 11 #[.pointer (some ⟨rb, 0, none⟩)] V fun e w' => e = .returned (.int .u32 pp) ∧ V = w') := by rw [← hpp]; exact HPC
      clear hpp HPC
      have hlx : x.block < w7.heap.size := Nat.lt_of_lt_of_le HXB.out HO7.out.b.size
      have hlx2 : (x.add (k * 5)).block < w7.heap.size := by rw [block_of_add]; exact hlx
      go_upto_region 9 with fail
      apply wp_region_auto [61, 62, 63, 64, 65, 66, 67, 68, 69, 70, 71, 72, 73, 74, 75, 76, 77, 78, 79, 80, 81, 82, 83, 84, 85, 86, 87, 88, 89, 90, 91, 92, 93, 94, 95, 96, 97, 98, 99, 100, 101, 102, 103, 104, 105, 106, 107] [_, _, _, _, _, _, _, _, _, _, _, _, _, _, _, _, _, _, _, _, _, _, _, _, _, _, _, _, _, _, _, _, _, _, _, _, _, _, _, _, _, _, _, _, _, _, _] (fun W' => Below w7.heap.size w7 W')
      case hm => kernel_rfl
      case hT => intro y; simp only [setAll, List.setIfInBounds_toArray, List.set_cons_succ, List.set_cons_zero]; exact rfl
      case hok => kernel_rfl
      case hn => decide
      case hw => exact (Below.refl _ _).drew
      case hs =>
        refine auto_op 61 [] (by kernel_rfl) (fun y w' HW hd K hK => ?_) ?_
        · have hcl : ∀ p : Addr, p.block < w7.heap.size → w'.cell? p = w7.cell? p := fun p hp => HW.cell hp
          refine step_val (a := ⟨_, _⟩) ?_ VE ?_ ?_
          · go_simp
          · exact HLE.out _ _ _ _ _ (HE7.out.below HW HE7.out.lt) rfl rfl
          refine hK _ _ ?_ ?_ HW
          · simp [upd]
          · exact rfl
        refine auto_op 62 [] (by kernel_rfl) (fun y w' HW hd K hK => ?_) ?_
        · have hcl : ∀ p : Addr, p.block < w7.heap.size → w'.cell? p = w7.cell? p := fun p hp => HW.cell hp
          refine step_val (a := ⟨_, _⟩) ?_ VE ?_ ?_
          · go_simp
          · exact HLE.out _ _ _ _ _ (HD7.out.below HW HD7.out.lt) rfl rfl
          refine hK _ _ ?_ ?_ HW
          · simp [upd]
          · exact rfl
        refine auto_op 63 [0, 1] (by kernel_rfl) (fun y w' HW hd K hK => ?_) ?_
        · have e0 := hd_nth (hd 0 (by simp)) rfl
          have e1 := hd_nth (hd 1 (by simp)) rfl
          go_simp
          refine hK _ _ ?_ ?_ HW
          · simp [upd, e0, e1]
          · exact rfl
        refine auto_op 64 [2] (by kernel_rfl) (fun y w' HW hd K hK => ?_) ?_
        · have e2 := hd_nth (hd 2 (by simp)) rfl
          go_simp
          refine hK _ _ ?_ ?_ HW
          · simp [upd, e2]
          · exact rfl
        refine auto_op 65 [3] (by kernel_rfl) (fun y w' HW hd K hK => ?_) ?_
        · have e3 := hd_nth (hd 3 (by simp)) rfl
          go_simp
          refine hK _ _ ?_ ?_ HW
          · simp [upd, e3]
          · exact rfl
        refine auto_op 66 [3] (by kernel_rfl) (fun y w' HW hd K hK => ?_) ?_
        · have e3 := hd_nth (hd 3 (by simp)) rfl
          go_simp
          refine hK _ _ ?_ ?_ HW
          · simp [upd, e3]
          · exact rfl
        refine auto_op 67 [4, 5, 3] (by kernel_rfl) (fun y w' HW hd K hK => ?_) ?_
        · have e3 := hd_nth (hd 3 (by simp)) rfl
          have e4 := hd_nth (hd 4 (by simp)) rfl
          have e5 := hd_nth (hd 5 (by simp)) rfl
          go_simp
          refine hK _ _ ?_ ?_ HW
          · simp [upd, e3, e4, e5]
          · exact rfl
        refine auto_op 68 [3, 6] (by kernel_rfl) (fun y w' HW hd K hK => ?_) ?_
        · have e3 := hd_nth (hd 3 (by simp)) rfl
          have e6 := hd_nth (hd 6 (by simp)) rfl
          go_simp
          refine hK _ _ ?_ ?_ HW
          · simp [upd, e3, e6]
          · exact rfl
        refine auto_op 69 [7, 3] (by kernel_rfl) (fun y w' HW hd K hK => ?_) ?_
        · have e3 := hd_nth (hd 3 (by simp)) rfl
          have e7 := hd_nth (hd 7 (by simp)) rfl
          go_simp
          refine hK _ _ ?_ ?_ HW
          · simp [upd, e3, e7]
          · exact rfl
        refine auto_op 70 [8] (by kernel_rfl) (fun y w' HW hd K hK => ?_) ?_
        · have e8 := hd_nth (hd 8 (by simp)) rfl
          go_simp
          refine hK _ _ ?_ ?_ HW
          · simp [upd, e8]
          · exact rfl
        refine auto_op 71 [9, 8, 8] (by kernel_rfl) (fun y w' HW hd K hK => ?_) ?_
        · have e8 := hd_nth (hd 8 (by simp)) rfl
          have e9 := hd_nth (hd 9 (by simp)) rfl
          go_simp
          refine (HALL.out _ (HO7.out.f.reg.below HW HO7.out.f.reg.1.lt)).mono ?_
          rintro e w3 ⟨rfl, hb3⟩
          refine hK _ _ ?_ ?_ (HW.trans (hb3.mono HW.size))
          · simp [upd, e8, e9]
          · exact rfl
        refine auto_op 72 [8] (by kernel_rfl) (fun y w' HW hd K hK => ?_) ?_
        · have e8 := hd_nth (hd 8 (by simp)) rfl
          go_simp
          refine hK _ _ ?_ ?_ HW
          · simp [upd, e8]
          · exact rfl
        refine auto_op 73 [11, 8] (by kernel_rfl) (fun y w' HW hd K hK => ?_) ?_
        · have e8 := hd_nth (hd 8 (by simp)) rfl
          have e11 := hd_nth (hd 11 (by simp)) rfl
          go_simp
          refine hK _ _ ?_ ?_ HW
          · simp [upd, e8, e11]
          · exact rfl
        refine auto_op 74 [12, 8] (by kernel_rfl) (fun y w' HW hd K hK => ?_) ?_
        · have e8 := hd_nth (hd 8 (by simp)) rfl
          have e12 := hd_nth (hd 12 (by simp)) rfl
          go_simp
          refine hK _ _ ?_ ?_ HW
          · simp [upd, e8, e12]
          · exact rfl
        refine auto_op 75 [13, 8] (by kernel_rfl) (fun y w' HW hd K hK => ?_) ?_
        · have e8 := hd_nth (hd 8 (by simp)) rfl
          have e13 := hd_nth (hd 13 (by simp)) rfl
          have hcl : ∀ p : Addr, p.block < w7.heap.size → w'.cell? p = w7.cell? p := fun p hp => HW.cell hp
          refine step_val (a := ⟨_, _⟩) ?_ A ?_ ?_
          · go_simp
          · refine HL16.out _ _ _ _ (HO7.out.d.reg.below HW HO7.out.d.reg.1.lt) rfl ?_
            exact e13
          refine hK _ _ ?_ ?_ HW
          · simp [upd, e8, e13]
          · exact rfl
        refine auto_op 76 [10, 14, 8] (by kernel_rfl) (fun y w' HW hd K hK => ?_) ?_
        · have e8 := hd_nth (hd 8 (by simp)) rfl
          have e10 := hd_nth (hd 10 (by simp)) rfl
          have e14 := hd_nth (hd 14 (by simp)) rfl
          go_simp
          refine hK _ _ ?_ ?_ HW
          · simp [upd, e8, e10, e14]
          · exact rfl
        refine auto_op 77 [8, 15] (by kernel_rfl) (fun y w' HW hd K hK => ?_) ?_
        · have e8 := hd_nth (hd 8 (by simp)) rfl
          have e15 := hd_nth (hd 15 (by simp)) rfl
          go_simp
          refine hK _ _ ?_ ?_ HW
          · simp [upd, e8, e15]
          · exact rfl
        refine auto_op 78 [16, 10] (by kernel_rfl) (fun y w' HW hd K hK => ?_) ?_
        · have e10 := hd_nth (hd 10 (by simp)) rfl
          have e16 := hd_nth (hd 16 (by simp)) rfl
          go_simp
          refine hK _ _ ?_ ?_ HW
          · simp [upd, e10, e16]
          · exact rfl
        refine auto_op 79 [17] (by kernel_rfl) (fun y w' HW hd K hK => ?_) ?_
        · have e17 := hd_nth (hd 17 (by simp)) rfl
          go_simp
          refine hK _ _ ?_ ?_ HW
          · simp [upd, e17]
          · exact rfl
        refine auto_op 80 [18, 17, 17] (by kernel_rfl) (fun y w' HW hd K hK => ?_) ?_
        · have e17 := hd_nth (hd 17 (by simp)) rfl
          have e18 := hd_nth (hd 18 (by simp)) rfl
          go_simp
          refine (HPC2.out _ (HO7.out.f.reg.below HW HO7.out.f.reg.1.lt)).mono ?_
          rintro e w3 ⟨rfl, rfl⟩
          refine hK _ _ ?_ ?_ HW
          · simp [upd, e17, e18]
          · exact rfl
        refine auto_op 81 [17] (by kernel_rfl) (fun y w' HW hd K hK => ?_) ?_
        · have e17 := hd_nth (hd 17 (by simp)) rfl
          go_simp
          refine hK _ _ ?_ ?_ HW
          · simp [upd, e17]
          · exact rfl
        refine auto_op 82 [20, 17] (by kernel_rfl) (fun y w' HW hd K hK => ?_) ?_
        · have e17 := hd_nth (hd 17 (by simp)) rfl
          have e20 := hd_nth (hd 20 (by simp)) rfl
          go_simp
          refine hK _ _ ?_ ?_ HW
          · simp [upd, e17, e20]
          · exact rfl
        refine auto_op 83 [21, 17] (by kernel_rfl) (fun y w' HW hd K hK => ?_) ?_
        · have e17 := hd_nth (hd 17 (by simp)) rfl
          have e21 := hd_nth (hd 21 (by simp)) rfl
          go_simp
          refine hK _ _ ?_ ?_ HW
          · simp [upd, e17, e21]
          · exact rfl
        refine auto_op 84 [22, 17] (by kernel_rfl) (fun y w' HW hd K hK => ?_) ?_
        · have e17 := hd_nth (hd 17 (by simp)) rfl
          have e22 := hd_nth (hd 22 (by simp)) rfl
          have hcl : ∀ p : Addr, p.block < w7.heap.size → w'.cell? p = w7.cell? p := fun p hp => HW.cell hp
          go_simp
          refine hK _ _ ?_ ?_ HW
          · simp [upd, e17, e22]
          · exact rfl
        refine auto_op 85 [19, 23, 17] (by kernel_rfl) (fun y w' HW hd K hK => ?_) ?_
        · have e17 := hd_nth (hd 17 (by simp)) rfl
          have e19 := hd_nth (hd 19 (by simp)) rfl
          have e23 := hd_nth (hd 23 (by simp)) rfl
          go_simp
          refine hK _ _ ?_ ?_ HW
          · simp [upd, e17, e19, e23]
          · exact rfl
        refine auto_op 86 [17, 24] (by kernel_rfl) (fun y w' HW hd K hK => ?_) ?_
        · have e17 := hd_nth (hd 17 (by simp)) rfl
          have e24 := hd_nth (hd 24 (by simp)) rfl
          go_simp
          refine hK _ _ ?_ ?_ HW
          · simp [upd, e17, e24]
          · exact rfl
        refine auto_op 87 [25, 19] (by kernel_rfl) (fun y w' HW hd K hK => ?_) ?_
        · have e19 := hd_nth (hd 19 (by simp)) rfl
          have e25 := hd_nth (hd 25 (by simp)) rfl
          go_simp
          refine hK _ _ ?_ ?_ HW
          · simp [upd, e19, e25]
          · exact rfl
        refine auto_op 88 [26] (by kernel_rfl) (fun y w' HW hd K hK => ?_) ?_
        · have e26 := hd_nth (hd 26 (by simp)) rfl
          go_simp
          refine hK _ _ ?_ ?_ HW
          · simp [upd, e26]
          · exact rfl
        refine auto_op 89 [27, 26, 26] (by kernel_rfl) (fun y w' HW hd K hK => ?_) ?_
        · have e26 := hd_nth (hd 26 (by simp)) rfl
          have e27 := hd_nth (hd 27 (by simp)) rfl
          go_simp
          refine (HAL7.out _ (HO7.out.f.csr.below HW HO7.out.f.csr.1.lt)).mono ?_
          rintro e w3 ⟨rfl, hb3⟩
          refine hK _ _ ?_ ?_ (HW.trans (hb3.mono HW.size))
          · simp [upd, e26, e27]
          · exact rfl
        refine auto_op 90 [26] (by kernel_rfl) (fun y w' HW hd K hK => ?_) ?_
        · have e26 := hd_nth (hd 26 (by simp)) rfl
          go_simp
          refine hK _ _ ?_ ?_ HW
          · simp [upd, e26]
          · exact rfl
        refine auto_op 91 [29, 26] (by kernel_rfl) (fun y w' HW hd K hK => ?_) ?_
        · have e26 := hd_nth (hd 26 (by simp)) rfl
          have e29 := hd_nth (hd 29 (by simp)) rfl
          go_simp
          refine hK _ _ ?_ ?_ HW
          · simp [upd, e26, e29]
          · exact rfl
        refine auto_op 92 [30, 26] (by kernel_rfl) (fun y w' HW hd K hK => ?_) ?_
        · have e26 := hd_nth (hd 26 (by simp)) rfl
          have e30 := hd_nth (hd 30 (by simp)) rfl
          go_simp
          refine hK _ _ ?_ ?_ HW
          · simp [upd, e26, e30]
          · exact rfl
        refine auto_op 93 [31, 26] (by kernel_rfl) (fun y w' HW hd K hK => ?_) ?_
        · have e26 := hd_nth (hd 26 (by simp)) rfl
          have e31 := hd_nth (hd 31 (by simp)) rfl
          have hcl : ∀ p : Addr, p.block < w7.heap.size → w'.cell? p = w7.cell? p := fun p hp => HW.cell hp
          refine step_val (a := ⟨_, _⟩) ?_ A7 ?_ ?_
          · go_simp
          · refine HL7.out _ _ _ _ (HO7.out.d.csr.below HW HO7.out.d.csr.1.lt) rfl ?_
            exact e31
          refine hK _ _ ?_ ?_ HW
          · simp [upd, e26, e31]
          · exact rfl
        refine auto_op 94 [28, 32, 26] (by kernel_rfl) (fun y w' HW hd K hK => ?_) ?_
        · have e26 := hd_nth (hd 26 (by simp)) rfl
          have e28 := hd_nth (hd 28 (by simp)) rfl
          have e32 := hd_nth (hd 32 (by simp)) rfl
          go_simp
          refine hK _ _ ?_ ?_ HW
          · simp [upd, e26, e28, e32]
          · exact rfl
        refine auto_op 95 [26, 33] (by kernel_rfl) (fun y w' HW hd K hK => ?_) ?_
        · have e26 := hd_nth (hd 26 (by simp)) rfl
          have e33 := hd_nth (hd 33 (by simp)) rfl
          go_simp
          refine hK _ _ ?_ ?_ HW
          · simp [upd, e26, e33]
          · exact rfl
        refine auto_op 96 [34, 28] (by kernel_rfl) (fun y w' HW hd K hK => ?_) ?_
        · have e28 := hd_nth (hd 28 (by simp)) rfl
          have e34 := hd_nth (hd 34 (by simp)) rfl
          go_simp
          refine hK _ _ ?_ ?_ HW
          · simp [upd, e28, e34]
          · exact rfl
        refine auto_op 97 [35] (by kernel_rfl) (fun y w' HW hd K hK => ?_) ?_
        · have e35 := hd_nth (hd 35 (by simp)) rfl
          go_simp
          refine hK _ _ ?_ ?_ HW
          · simp [upd, e35]
          · exact rfl
        refine auto_op 98 [35] (by kernel_rfl) (fun y w' HW hd K hK => ?_) ?_
        · have e35 := hd_nth (hd 35 (by simp)) rfl
          go_simp
          refine hK _ _ ?_ ?_ HW
          · simp [upd, e35]
          · exact rfl
        refine auto_op 99 [36, 37, 35] (by kernel_rfl) (fun y w' HW hd K hK => ?_) ?_
        · have e35 := hd_nth (hd 35 (by simp)) rfl
          have e36 := hd_nth (hd 36 (by simp)) rfl
          have e37 := hd_nth (hd 37 (by simp)) rfl
          go_simp
          refine hK _ _ ?_ ?_ HW
          · simp [upd, e35, e36, e37]
          · exact rfl
        refine auto_op 100 [38, 35] (by kernel_rfl) (fun y w' HW hd K hK => ?_) ?_
        · have e35 := hd_nth (hd 35 (by simp)) rfl
          have e38 := hd_nth (hd 38 (by simp)) rfl
          have hcl : ∀ p : Addr, p.block < w7.heap.size → w'.cell? p = w7.cell? p := fun p hp => HW.cell hp
          refine step_val (a := ⟨_, _⟩) ?_ (Is.insV o d a b m) ?_ ?_
          · go_simp
          · refine HLI.out _ _ _ _ (HO7.out.b.trans (HW.mono HO7.out.b.size)) rfl ?_
            exact e38
          refine hK _ _ ?_ ?_ HW
          · simp [upd, e35, e38]
          · exact rfl
        refine auto_op 101 [39, 35, 35] (by kernel_rfl) (fun y w' HW hd K hK => ?_) ?_
        · have e35 := hd_nth (hd 35 (by simp)) rfl
          have e39 := hd_nth (hd 39 (by simp)) rfl
          go_simp
          refine (HWD.out _ (HO7.out.f.tab.more HW)).mono ?_
          rintro e w3 ⟨rfl, hb3⟩
          refine hK _ _ ?_ ?_ (HW.trans (hb3.mono HW.size))
          · simp [upd, e35, e39]
          · exact rfl
        refine auto_op 102 [35] (by kernel_rfl) (fun y w' HW hd K hK => ?_) ?_
        · have e35 := hd_nth (hd 35 (by simp)) rfl
          go_simp
          refine hK _ _ ?_ ?_ HW
          · simp [upd, e35]
          · exact rfl
        refine auto_op 103 [35] (by kernel_rfl) (fun y w' HW hd K hK => ?_) ?_
        · have e35 := hd_nth (hd 35 (by simp)) rfl
          go_simp
          refine hK _ _ ?_ ?_ HW
          · simp [upd, e35]
          · exact rfl
        refine auto_op 104 [41, 42, 35] (by kernel_rfl) (fun y w' HW hd K hK => ?_) ?_
        · have e35 := hd_nth (hd 35 (by simp)) rfl
          have e41 := hd_nth (hd 41 (by simp)) rfl
          have e42 := hd_nth (hd 42 (by simp)) rfl
          go_simp
          refine hK _ _ ?_ ?_ HW
          · simp [upd, e35, e41, e42]
          · exact rfl
        refine auto_op 105 [43, 35] (by kernel_rfl) (fun y w' HW hd K hK => ?_) ?_
        · have e35 := hd_nth (hd 35 (by simp)) rfl
          have e43 := hd_nth (hd 43 (by simp)) rfl
          have hcl : ∀ p : Addr, p.block < w7.heap.size → w'.cell? p = w7.cell? p := fun p hp => HW.cell hp
          refine step_val (a := ⟨_, _⟩) ?_ (Is.insV o d a b m) ?_ ?_
          · go_simp
          · refine HLI.out _ _ _ _ (HO7.out.b.trans (HW.mono HO7.out.b.size)) rfl ?_
            exact e43
          refine hK _ _ ?_ ?_ HW
          · simp [upd, e35, e43]
          · exact rfl
        refine auto_op 106 [44, 40, 35] (by kernel_rfl) (fun y w' HW hd K hK => ?_) ?_
        · have e35 := hd_nth (hd 35 (by simp)) rfl
          have e40 := hd_nth (hd 40 (by simp)) rfl
          have e44 := hd_nth (hd 44 (by simp)) rfl
          go_simp
          refine (HWE.out _).mono ?_
          rintro e w3 ⟨rfl, hb3⟩
          refine hK _ _ ?_ ?_ (HW.trans (hb3.mono HW.size))
          · simp [upd, e35, e40, e44]
          · exact rfl
        refine auto_op 107 [40, 45, 35] (by kernel_rfl) (fun y w' HW hd K hK => ?_) ?_
        · have e35 := hd_nth (hd 35 (by simp)) rfl
          have e40 := hd_nth (hd 40 (by simp)) rfl
          have e45 := hd_nth (hd 45 (by simp)) rfl
          go_simp
          refine hK _ _ ?_ ?_ HW
          · simp [upd, e35, e40, e45]
          · exact rfl
        refine auto_last fun y w' HW hd K hK => ?_
        have e0 := hd_nth (hd 0 (by omega)) rfl
        have e1 := hd_nth (hd 1 (by omega)) rfl
        have e2 := hd_nth (hd 2 (by omega)) rfl
        have e3 := hd_nth (hd 3 (by omega)) rfl
        have e4 := hd_nth (hd 4 (by omega)) rfl
        have e5 := hd_nth (hd 5 (by omega)) rfl
        have e6 := hd_nth (hd 6 (by omega)) rfl
        have e7 := hd_nth (hd 7 (by omega)) rfl
        have e8 := hd_nth (hd 8 (by omega)) rfl
        have e9 := hd_nth (hd 9 (by omega)) rfl
        have e10 := hd_nth (hd 10 (by omega)) rfl
        have e11 := hd_nth (hd 11 (by omega)) rfl
        have e12 := hd_nth (hd 12 (by omega)) rfl
        have e13 := hd_nth (hd 13 (by omega)) rfl
        have e14 := hd_nth (hd 14 (by omega)) rfl
        have e15 := hd_nth (hd 15 (by omega)) rfl
        have e16 := hd_nth (hd 16 (by omega)) rfl
        have e17 := hd_nth (hd 17 (by omega)) rfl
        have e18 := hd_nth (hd 18 (by omega)) rfl
        have e19 := hd_nth (hd 19 (by omega)) rfl
        have e20 := hd_nth (hd 20 (by omega)) rfl
        have e21 := hd_nth (hd 21 (by omega)) rfl
        have e22 := hd_nth (hd 22 (by omega)) rfl
        have e23 := hd_nth (hd 23 (by omega)) rfl
        have e24 := hd_nth (hd 24 (by omega)) rfl
        have e25 := hd_nth (hd 25 (by omega)) rfl
        have e26 := hd_nth (hd 26 (by omega)) rfl
        have e27 := hd_nth (hd 27 (by omega)) rfl
        have e28 := hd_nth (hd 28 (by omega)) rfl
        have e29 := hd_nth (hd 29 (by omega)) rfl
        have e30 := hd_nth (hd 30 (by omega)) rfl
        have e31 := hd_nth (hd 31 (by omega)) rfl
        have e32 := hd_nth (hd 32 (by omega)) rfl
        have e33 := hd_nth (hd 33 (by omega)) rfl
        have e34 := hd_nth (hd 34 (by omega)) rfl
        have e35 := hd_nth (hd 35 (by omega)) rfl
        have e36 := hd_nth (hd 36 (by omega)) rfl
        have e37 := hd_nth (hd 37 (by omega)) rfl
        have e38 := hd_nth (hd 38 (by omega)) rfl
        have e39 := hd_nth (hd 39 (by omega)) rfl
        have e40 := hd_nth (hd 40 (by omega)) rfl
        have e41 := hd_nth (hd 41 (by omega)) rfl
        have e42 := hd_nth (hd 42 (by omega)) rfl
        have e43 := hd_nth (hd 43 (by omega)) rfl
        have e44 := hd_nth (hd 44 (by omega)) rfl
        have e45 := hd_nth (hd 45 (by omega)) rfl
        have e46 := hd_nth (hd 46 (by omega)) rfl
        go_simp
        refine hK _ _ ?_
        clear hd hK K e0 e1 e2 e3 e4 e5 e6 e7 e8 e9 e10 e11 e12 e13 e14 e15 e16 e17 e18 e19 e20 e21 e22 e23 e24 e25 e26 e27 e28 e29 e30 e31 e32 e33 e34 e35 e36 e37 e38 e39 e40 e41 e42 e43 e44 e45 e46
        have HO8 := Lib.hid (HO7.out.below HW)
        have HE8 := Lib.hid (HE7.out.below HW HE7.out.lt)
        clear HW HO7 HE7 HD7 HALL HPC2 HAL7 HLE HL16 HL7 HLI hgE hnE hgA hnA hg7 hn7 c16 hla hlb hlx hlx2 HWD HWE HC
        obtain ⟨v8, hv8⟩ : ∃ v, w' = v := ⟨_, rfl⟩
        rw [hv8] at HO8 HE8 ⊢
        clear hv8 w'
        have c0 : v8.cell? ⟨eb, 0, none⟩ = some (.int .i64 r.E.k) := HE8.out.cell rfl
        have hle := HE8.out.lt
        obtain ⟨kk, hkk⟩ : ∃ q, r.E.k = q := ⟨_, rfl⟩
        rw [hkk] at c0
        clear hkk
        by_cases hk0 : kk = 0
        · have e1 : (kk != 0) = false := by simpa using hk0
          clear hk0
          go_wp2
          go_roundw
          case rel => exact ⟨k + 1, _, _, _, H2.out, by go_num, HR2, HO8⟩
          case measure => have := H2.out; simp [intOf]; omega
        have e1 : (kk != 0) = true := by simpa using hk0
        by_cases hz0 : z = 0
        · have e2 : (z == 0) = true := by simpa using hz0
          clear hk0 hz0
          have c1 : v8.cell? ⟨eb, 1, none⟩ = some (.int .u32 r.E.pc) := HE8.out.cell rfl
          go_wp2_with fail
          refine (Rg.jump_any rb r.p r.E.pc r.R v8 HO8.out.f.reg).mono ?_
          rintro e w9 ⟨rfl, hF, hg⟩
          have HO9 := Lib.hid (HO8.out.fregs hF hg)
          have HE9 : Hid (Blk w9 eb 32 r.E.cs) := Lib.hid (Blk.kept HE8.out hg (some_ne HNF.out.2.1))
          clear hF hg HO8 HE8 c0 c1 hle e1 e2
          have c1 : w9.cell? ⟨eb, 1, none⟩ = some (.int .u32 r.E.pc) := HE9.out.cell rfl
          have hle := HE9.out.lt
          have c16 : w9.cell? ⟨ab, 16, none⟩ = some (.int .u32 r.p) := HO9.out.d.reg.pc
          have f16 : w9.frozen? ⟨ab, 16, none⟩ = false := Blk.frozen HO9.out.d.reg.1 16
          have hla := HO9.out.d.reg.1.lt
          have HO10 := Lib.hid (HO9.out.dregs (HO9.out.d.reg.jump r.E.pc) (grown_setCell w9 ab 16 (.int .u32 r.E.pc)))
          clear HO9
          go_wp2
          go_roundw
          case rel => exact ⟨k + 1, _, _, _, H2.out, by go_num, HR2, HO10⟩
          case measure => have := H2.out; simp [intOf]; omega
        · have e2 : (z == 0) = false := by simpa using hz0
          clear hk0 hz0
          go_wp2
          go_roundw
          case rel => exact ⟨k + 1, _, _, _, H2.out, by go_num, HR2, HO8⟩
          case measure => have := H2.out; simp [intOf]; omega
    · have hout : (¬ (k : Int) < (ni : Int)) ∨ ((k : Int) < (ni : Int) ∧ ¬ (k : Int) < 60) := by omega
      rcases hout with f1 | ⟨f1, f2⟩
      all_goals
        clear hin hk HII HR
        go_wp2_with fail
        refine (awake13_any wr HO.out.f.tab).mono ?_
        rintro e w6 ⟨rfl, hb⟩
        go_wp2
        go_ret
        exact ⟨rfl, HO.out.b.trans (hb.mono HO.out.b.size)⟩
end Go.Proofs.YtniaclhmfmkikaaGreatDoor.Ex
end
