/- Several texts in one: Nm Si -/
import Derived.Test.YtniaclhmfmkikaaGreatDoorRows
import Derived.Test.YtniaclhmfmkikaaGreatDoorZ38
import Derived.Test.YtniaclhmfmkikaaGreatDoorZ14
import Derived.ProofKit
import Derived.LaidMore
import Derived.OpenShut
import Derived.Stop.Joined
import Derived.Deep.Fields
import Derived.Test.YtniaclhmfmkikaaGreatDoorZ33
section
/- An instruction that came in as an argument; the table, out of what the row says that lies in its variable. -/
namespace Go.Proofs.YtniaclhmfmkikaaGreatDoor.Is
open Go.ChangeShapes Go.WideShapes Go.ChangeAt Go.WideMaps Go.WideElems Go.Deep Go.RowKit Ut
set_option linter.unusedVariables false
set_option maxRecDepth 100000

section
variable {H : Type} {enc : TypeId × Value → H} {W : World}
theorem ins_arg {b0 : Nat} {v : Value} {d : DataW H} {p : List MemPlace} (hv : Value.okWide Tryz.prog W .any b0 37 v) (h : DataW.Trod enc Tryz.prog W 0 (fun _ => true) true 37 v d p) : ∃ o d a b m : Int, v = insV o d a b m := by
  obtain ⟨cs, ys, n, rfl, hl, rfl, hyl, hf⟩ := open_fields Tryz.underlying37 (by kernel_rfl) (by kernel_rfl) hv h
  obtain ⟨c0, y0, e0, g0, t0⟩ := hf 0 _ rfl
  obtain ⟨c1, y1, e1, g1, t1⟩ := hf 1 _ rfl
  obtain ⟨c2, y2, e2, g2, t2⟩ := hf 2 _ rfl
  obtain ⟨c3, y3, e3, g3, t3⟩ := hf 3 _ rfl
  obtain ⟨c4, y4, e4, g4, t4⟩ := hf 4 _ rfl
  match cs, hl, e0, e1, e2, e3, e4 with
  | [x0, x1, x2, x3, x4], _, e0, e1, e2, e3, e4 =>
    simp only [List.getElem?_cons_zero, List.getElem?_cons_succ, Option.some.injEq] at e0 e1 e2 e3 e4
    subst e0 e1 e2 e3 e4
    obtain ⟨z0, q0, _, _⟩ := DataW.trod_int Tryz.underlying3 t0
    obtain ⟨z1, q1, _, _⟩ := DataW.trod_int Tryz.underlying3 t1
    obtain ⟨z2, q2, _, _⟩ := DataW.trod_int Tryz.underlying3 t2
    obtain ⟨z3, q3, _, _⟩ := DataW.trod_int Tryz.underlying3 t3
    obtain ⟨z4, q4, _, _⟩ := DataW.trod_int Tryz.underlying3 t4
    simp only [List.cons.injEq, and_true] at q0 q1 q2 q3 q4
    subst q0 q1 q2 q3 q4
    exact ⟨z0, z1, z2, z3, z4, rfl⟩

theorem gHas : Tryz.prog.globalNamed "hermitage/isa.has" = some 0 := by kernel_rfl
theorem tHas : (Tryz.prog.globals[0]?).map (·.type) = some 90 := by kernel_rfl
theorem has_of_vars {ps : List MemPlace} (h : DataW.LaidVars Tryz.prog W [("hermitage/isa.has", Rows.laid_hermitage_isa_has)] ps) : HasT W := by
  obtain ⟨g0, t0, cs0, f0, p0, q0, hg0, ht0, hv0, hd0, hrest⟩ := h
  obtain rfl := Option.some.inj (gHas.symm.trans hg0)
  obtain rfl := Option.some.inj (tHas.symm.trans ht0)
  obtain ⟨xs, m1, _, hx, hlen, hn, hel⟩ := DataW.trod_array Tryz.underlying90 hd0
  have c1 : Tryz.prog.cellsOf 5 = 1 := by kernel_rfl
  have c42 : Tryz.prog.cellsOf 90 = 42 := by kernel_rfl
  rw [c42] at hlen
  rw [c1] at hel
  simp only [Prod.mk.injEq] at hx
  have hx1 : (DataW.agg (hasL.map fun n : Nat => DataW.lit (Lit.int .u8 (n : Int))) : DataW _) = .agg (xs.map (·.1)) := hx.1
  rw [DataW.agg.injEq] at hx1
  have hcs : cs0.toList = hasL.map fun n : Nat => Value.int .u8 (n : Int) := by
    apply List.ext_getElem?
    intro i
    rcases Nat.lt_or_ge i 42 with hi | hi
    · obtain hd := hel i hi
      have hxi : xs[i]? = some (xs[i]'(by omega)) := List.getElem?_eq_getElem (by omega)
      rw [Nat.mul_one] at hd
      have hd1 : (cs0.toList.drop i).take 1 = [cs0.toList[i]'(by omega)] := by
        rw [List.drop_eq_getElem_cons (by omega)]
        rfl
      rw [hd1, hxi] at hd
      obtain ⟨z, hz, hz2, _⟩ := DataW.trod_int Tryz.underlying5 hd
      simp only [List.cons.injEq, and_true] at hz
      rw [List.getElem?_eq_getElem (by omega), hz]
      have h1 := congrArg (fun l => l[i]?) hx1
      simp only [List.getElem?_map] at h1
      rw [hxi] at h1
      simp only [Option.map_some, hz2] at h1
      rw [List.getElem?_map]
      cases hq : hasL[i]? with
      | none => rw [hq] at h1; simp at h1
      | some n => rw [hq] at h1; simp at h1; simp [h1]
    · rw [List.getElem?_eq_none (by omega), List.getElem?_eq_none (by simpa [hasL] using hi)]
  simp only [World.var?, gHas, Option.bind_some] at hv0
  split at hv0
  · rename_i cs t fr hh
    injection hv0 with hv0
    subst hv0
    refine ⟨t, fr, ?_⟩
    rw [hh, ← hcs]
  · cases hv0
theorem has_of_laid (h : laidMetH Tryz.prog [("hermitage/isa.has", Rows.laid_hermitage_isa_has)] W) : HasT W := by
  rw [MakeChecks.laidMetH_plain _ _ _ (by kernel_rfl)] at h
  obtain ⟨ps, h, _, _⟩ := h
  exact has_of_vars h
end
end Go.Proofs.YtniaclhmfmkikaaGreatDoor.Is
end
section
/- Two pairs of the program's files in one world; what an instruction comes to in both modes. -/
namespace Go.Proofs.YtniaclhmfmkikaaGreatDoor.Ex
open Go.RowKit Ut
set_option maxRecDepth 100000
set_option linter.unusedVariables false
set_option maxHeartbeats 4000000

/-- the program's files, twice, carried on from a first world -/
structure Pair (w0 w : World) (rb cb sb db i : Nat) (p : Int) (R : List Int) (Q : List Nat) (p' : Int) (R' : List Int) (Q' : List Nat) : Prop where
  f : Fil w rb cb i p R Q
  g : Fil w sb db i p' R' Q'
  b : Below w0.heap.size w0 w
  lt : 0 < w0.heap.size ∧ w0.heap.size ≤ rb ∧ rb < cb ∧ cb < sb ∧ sb < db
section
variable {w0 w w' : World} {rb cb sb db i : Nat} {p : Int} {R : List Int} {Q : List Nat} {p' : Int} {R' : List Int} {Q' : List Nat}
theorem Pair.below (h : Pair w0 w rb cb sb db i p R Q p' R' Q') (hb : Below w.heap.size w w') : Pair w0 w' rb cb sb db i p R Q p' R' Q' := ⟨h.f.below hb, h.g.below hb, h.b.trans (hb.mono h.b.size), h.lt⟩
theorem Pair.fexec {p2 : Int} {R2 : List Int} {Q2 : List Nat} (h : Pair w0 w rb cb sb db i p R Q p' R' Q') (hF : Fil w' rb cb i p2 R2 Q2) (hk : Kp [rb, cb] w w') : Pair w0 w' rb cb sb db i p2 R2 Q2 p' R' Q' := by
  obtain ⟨l0, l1, l2, l3, l4⟩ := h.lt
  have hb : Below w0.heap.size w w' := hk.under (fun q hq => by simp at hq; omega) h.b.size
  exact ⟨hF, h.g.kp hk (by simp; omega) (by simp; omega) (by simp; omega), h.b.trans hb, h.lt⟩
theorem Pair.gexec {p2 : Int} {R2 : List Int} {Q2 : List Nat} (h : Pair w0 w rb cb sb db i p R Q p' R' Q') (hF : Fil w' sb db i p2 R2 Q2) (hk : Kp [sb, db] w w') : Pair w0 w' rb cb sb db i p R Q p2 R2 Q2 := by
  obtain ⟨l0, l1, l2, l3, l4⟩ := h.lt
  have hb : Below w0.heap.size w w' := hk.under (fun q hq => by simp at hq; omega) h.b.size
  exact ⟨h.f.kp hk (by simp; omega) (by simp; omega) (by simp; omega), hF, h.b.trans hb, h.lt⟩
theorem pair_of {w1 : World} {ab bb ab' bb' : Nat} {P1 P2 P3 P4 : Int} {S1 S2 S3 S4 : List Int} {K1 K2 K3 K4 : List Nat} (h : Both w0 w1 rb cb ab bb i P1 S1 K1 P2 S2 K2) (k : Both w1 w sb db ab' bb' i P3 S3 K3 P4 S4 K4) : Pair w0 w rb cb sb db i P1 S1 K1 P3 S3 K3 := by
  obtain ⟨l0, l1, l2, l3, l4⟩ := h.lt
  obtain ⟨m0, m1, m2, m3, m4⟩ := k.lt
  have := h.d.csr.1.lt
  exact ⟨h.f.below k.b, k.f, h.b.trans (k.b.mono h.b.size), l0, l1, l2, by omega, m2⟩
end
/-- what no operation of the kernel's mode comes to hangs on the kernel's registers in nothing -/
theorem q_ite {c : Prop} [Decidable c] {Q : List Nat} {x y x0 y0 : Res} (hx : x = ⟨x0.E, x0.R, x0.p, Q⟩) (hy : y = ⟨y0.E, y0.R, y0.p, Q⟩) : (if c then x else y) = ⟨(if c then x0 else y0).E, (if c then x0 else y0).R, (if c then x0 else y0).p, Q⟩ := by
  by_cases h : c
  · rw [if_pos h, if_pos h]; exact hx
  · rw [if_neg h, if_neg h]; exact hy
theorem userX_same (R : List Int) (p : Int) (Q : List Nat) (o d a b m : Int) : userX R p Q o d a b m = ⟨(userX R p [] o d a b m).E, (userX R p [] o d a b m).R, (userX R p [] o d a b m).p, Q⟩ := by
  unfold userX
  exact q_ite rfl <| q_ite rfl <| q_ite rfl <| q_ite rfl <| q_ite rfl <| q_ite rfl <| q_ite rfl <| q_ite rfl <| q_ite rfl <| q_ite rfl <| q_ite rfl <| q_ite rfl <| q_ite rfl rfl
theorem both_modes (R : List Int) (p : Int) (i : Nat) (clock o d a b m : Int) (h : Is.validB o d a b m = false ∨ Is.kernB o = false) :
    ∃ E R' p', ∀ Q, exX R p Q i clock o d a b m = ⟨E, R', p', Q⟩ := by
  cases hv : Is.validB o d a b m
  · exact ⟨zeroE, R, p, fun Q => by unfold exX; rw [hv, if_neg (by decide)]; rfl⟩
  · have hk : Is.kernB o = false := by
      rcases h with h | h
      · rw [hv] at h; cases h
      · exact h
    exact ⟨_, _, _, fun Q => by rw [ex_user hv hk]; exact userX_same R p Q o d a b m⟩
theorem exec_eql_eff {ρ : Operand → Value} {oo : Oper} {w : World} (x y : Operand) (rt : TypeId) (ho : oo.op = .binOp .eql 32 x y rt) (E : Eff) (ex : ρ x = E.val) (ey : ρ y = E.val) : (execOp ρ oo).run Tryz.prog w = .ok (.value (.bool true)) w := by
  simp only [execOp, ho, ex, ey, Sem.run_bind, guard_eff .eql x y E E w, Result.andThen_ok, eql_eff, Sem.run_pure]
end Go.Proofs.YtniaclhmfmkikaaGreatDoor.Ex
end
