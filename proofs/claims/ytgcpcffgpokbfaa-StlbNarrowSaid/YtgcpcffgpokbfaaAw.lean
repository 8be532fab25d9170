/- Package stlb: List. -/
import Derived.Test.YtgcpcffgpokbfaaAv
import Derived.Test.YtgcpcffgpokbfaaAh
import Derived.Deep.OwnRows
namespace Go.Proofs.Ytgcpcffgpokbfaa.Sb
open Go.RowKit Ut Hg
set_option maxRecDepth 100000
set_option linter.unusedVariables false
set_option maxHeartbeats 4000000

/-- one record more, out of a block of its own; what else was there stays -/
theorem push_own {w : World} {B : Nat} {v : Value} {xs : List Rc} (hown : OwnT 5 w B 53 v (xs.map Rc.l)) (x : Rc) (hl : xs.length + 1 ≤ 1000000) (hB : B ≤ w.heap.size) :
    ∃ a cap w', (Builtin.append_ #[42, 42] 42 #[v, .slice (some ⟨w.heap.size, 0, none⟩) 1 1]).run Try.prog (w.alloc (.cells #[.int .i64 x.kr, .int .i64 x.kp, .int .i64 x.ep, .int .i64 x.ef, .int .i64 x.er] 53)) = .ok (.slice a (xs.length + 1) cap) w' ∧
      OwnT 5 w' B 53 (.slice a (xs.length + 1) cap) ((xs ++ [x]).map Rc.l) ∧ w.grownBy w' v.ownBlock ∧ (∀ q, (Value.slice a (xs.length + 1) cap).ownBlock = some q → v.ownBlock = some q ∨ w.heap.size < q) := by
  obtain ⟨i, hi, hz, hs, hby⟩ := info_parts kept_info
  have hA : Below w.heap.size w (w.alloc (.cells #[.int .i64 x.kr, .int .i64 x.kp, .int .i64 x.ep, .int .i64 x.ef, .int .i64 x.er] 53)) := (Below.refl _ _).alloc (Nat.le_refl _) _
  have hO := hown.alloc (.cells #[.int .i64 x.kr, .int .i64 x.kp, .int .i64 x.ep, .int .i64 x.ef, .int .i64 x.er] 53)
  have hn : ∀ (j : Nat) (u : Value), (encI x.l)[j]? = some u → (w.alloc (.cells #[.int .i64 x.kr, .int .i64 x.kp, .int .i64 x.ep, .int .i64 x.ef, .int .i64 x.er] 53)).cell? ((⟨w.heap.size, 0, none⟩ : Addr).add j) = some u := fun j u hj => cells_new w (encI x.l) 53 j u hj
  obtain ⟨v', w', hrun, h2, h3, _, h5⟩ := run_append_own_at (P := Try.prog) _ B 42 42 53 i _ 5 40 Try.underlying42 hi hz hs hby rfl (by decide) v (xs.map Rc.l).length _ hO.1 ⟨w.heap.size, 0, none⟩ 1 1 (encI x.l) rfl hn
    (fun u hu => by obtain ⟨z, _, rfl⟩ := List.mem_map.1 hu; rfl) (by rw [List.length_map]; unfold maxLen; omega) (by rw [List.length_map]; omega) (Nat.le_trans hB hA.size)
  have hown2 : OwnT 5 w' B 53 v' ((xs ++ [x]).map Rc.l) := by
    refine ⟨?_, fun q hq => ?_⟩
    · rw [List.map_append, show List.map Rc.l [x] = [x.l] from rfl, encR_snoc, List.length_append]
      exact h2
    · obtain ⟨c, _, rfl⟩ := List.mem_map.1 hq
      rfl
  obtain ⟨a, cap, hv, _, _, _, _, _⟩ := RcRow.own hown2
  rw [List.length_append] at hv
  subst hv
  refine ⟨a, cap, w', hrun, hown2, ⟨h3.os.trans hA.os, h3.tape.trans hA.tape, h3.output.trans hA.output, Nat.le_trans hA.size h3.size, fun q hq hne => (h3.block q (Nat.lt_of_lt_of_le hq hA.size) hne).trans (hA.block q hq)⟩, fun q hq => ?_⟩
  rcases h5 with h5 | h5
  · exact .inl (h5.symm.trans hq)
  · right
    have := h5.symm.trans hq
    injection this with this
    rw [World.size_alloc] at this
    omega

/-- what first answers, and what is left, told by the list -/
def FirstP (l : List Rc) (e : Ending) (w' : World) (b : Nat) (t : TypeId) (pre : List Value) : Prop := ∃ (c : Us) (q : Bool) (us : List Us) (L : List Rc), e = .returned (.tuple #[usV c, .bool q]) ∧ HP w' b t pre us ∧ Rel us L ∧ l = (if q = true then c.1 :: L else [])
section
variable {W : World} {b o g : Nat} {t : TypeId} {pre : List Value} {us : List Us} {l : List Rc} {room c : Int}
theorem first_any (h : HP W b t pre us) (ho : pre.length = o) (hr : Rel us l) :
    Calls Try.prog 38 #[.pointer (some ⟨b, o, none⟩)] W fun e w' => FirstP l e w' b t pre ∧ Kq [b] W w' := by
  by_cases h0 : us = []
  · subst h0
    refine (first_no h.1 ho).mono ?_
    rintro e w' ⟨rfl, hb⟩
    have hl : l = [] := List.eq_nil_of_length_eq_zero (by rw [← hr.len]; rfl)
    exact ⟨⟨noU, false, [], l, rfl, ⟨h.1.more hb, h.2⟩, hr, hl⟩, Kq.of_below hb⟩
  · refine (first_yes h ho (List.length_pos_iff.2 h0)).mono ?_
    rintro e w' ⟨⟨c, r, rfl, hh, hp⟩, hk⟩
    obtain ⟨hp, hle⟩ := hp.out
    obtain ⟨h1, h2⟩ := (hr.perm hp.symm).least (fun v hv => hle v (hp.mem_iff.1 (List.mem_cons_of_mem _ hv)))
    exact ⟨⟨c, true, r, l.drop 1, rfl, hh.out, h2, h1⟩, hk⟩

def lenOf : Value → Nat
  | .slice _ n _ => n
  | _ => 0
def zeroL : List Value := .int .i64 0 :: flatU [noU, noU, noU, noU, noU]
theorem size_lately : (Try.prog.info? 60).map (·.size) = some 31 := by kernel_rfl
theorem alloc_lately (w : World) : Hid (∀ (ρ : Operand → Value) (o : Oper), o.op = .alloc 60 → (execOp ρ o).run Try.prog w = .ok (.value (.pointer (some ⟨w.heap.size, 0, none⟩))) (w.alloc (.cells zeroL.toArray 60))) := Lib.hid fun ρ o ho => by
  unfold execOp
  rw [ho]
  kernel_rfl
/-- where List's loop is: d is told already, L (behind c, if q) is still to come -/
structure LS (W wr : World) (lb xb : Nat) (d : List Rc) (l : List Rc) (c : Us) (q : Bool) (us : List Us) (L : List Rc) (v : Value) : Prop where
  own : OwnT 5 wr (lb + 1) 53 v (d.map Rc.l)
  x : Blk wr xb 57 (usC c)
  h : HP wr lb 60 [] us
  r : Rel us L
  e : d ++ (if q = true then c.1 :: L else []) = l
  ne : ∀ p, v.ownBlock = some p → p ≠ xb
  xg : lb < xb
  lw : W.heap.size ≤ lb
  b : Below W.heap.size W wr
end
end Go.Proofs.Ytgcpcffgpokbfaa.Sb
