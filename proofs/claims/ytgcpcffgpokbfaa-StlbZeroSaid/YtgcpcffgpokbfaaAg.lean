/- The document's translations: Gone, Narrow. -/
import Derived.Test.YtgcpcffgpokbfaaAd
namespace Go.Proofs.Ytgcpcffgpokbfaa.Sb
open Go.RowKit Ut
set_option maxRecDepth 100000
set_option linter.unusedVariables false
set_option maxHeartbeats 4000000

def goneL (l : List Rc) (pg : Int) : List Rc := l.filter fun x => !(x.ep == pg)
theorem gone_snoc {l : List Rc} {pg : Int} {i : Nat} {x : Rc} (hx : l[i]? = some x) : goneL (l.take (i + 1)) pg = goneL (l.take i) pg ++ (if (x.ep == pg) = true then [] else [x]) := by
  unfold goneL
  rw [List.take_add_one, hx, List.filter_append]
  by_cases h : (x.ep == pg) = true
  · rw [if_pos h]; simp [h]
  · rw [if_neg h]; simp [h]
theorem gone_len (l : List Rc) (pg : Int) : (goneL l pg).length ≤ l.length := List.length_filter_le _ _
/-- one whose page it is loses RWrite -/
def hadB (x : Rc) (pg : Int) : Bool := (x.ep == pg) && !(bits .and .i64 x.er 2 == 0)
def narX (pg : Int) (x : Rc) : Rc := if hadB x pg = true then { x with er := wrap64 (x.er - 2) } else x
def narL (l : List Rc) (pg : Int) : List Rc := l.map (narX pg)
def narN (l : List Rc) (pg : Int) : Nat := l.countP fun x => hadB x pg
theorem nar_snoc {l : List Rc} {pg : Int} {i : Nat} {x : Rc} (hx : l[i]? = some x) : narL (l.take (i + 1)) pg = narL (l.take i) pg ++ [narX pg x] ∧ narN (l.take (i + 1)) pg = narN (l.take i) pg + (if hadB x pg = true then 1 else 0) := by
  unfold narL narN
  rw [List.take_add_one, hx]
  constructor
  · simp
  · simp [List.countP_append, List.countP_cons]
section
variable {g n cap : Nat} {room : Int} {a : Option Addr} {l : List Rc}
theorem refGone_any (pg : Int) (w : World) (h : DT w g room a n cap l) (hn : n ≤ 100000) :
    Calls Try.prog 16 #[.pointer (some ⟨g, 0, none⟩), .int .i64 pg] w fun e w' => e = .returned (.int .i64 ((l.length : Int) - ((goneL l pg).length : Int))) ∧ (∃ b c, DT w' g room b (goneL l pg).length c (goneL l pg) ∧ ∀ y, b = some y → w.heap.size ≤ y.block) ∧ Kq [g] w w' := by
  have HD := Lib.hid h
  have HG := Lib.hid h.blk.lt
  have hn0 : (n : Int) ≤ 100000 := by omega
  have HLN := Lib.hid h.len
  clear h hn
  go_enter Try.func16, Try.ntmps16
  go_wp2
  go_loopw [5, 6] (fun v j wr => ∃ (i k : Nat) (b : Option Addr) (c : Nat), i ≤ n ∧ k ≤ i ∧ j = .int .i64 i ∧ v = .slice b k c ∧ Hid ((goneL (l.take i) pg).length = k) ∧ Hid (OwnT 5 wr w.heap.size 53 (.slice b k c) ((goneL (l.take i) pg).map Rc.l)) ∧ Hid (Below w.heap.size w wr)) (fun _ j _ => n - (intOf j).toNat)
  case atStart => exact ⟨0, 0, none, 0, Nat.zero_le _, Nat.zero_le _, rfl, rfl, Lib.hid rfl, Lib.hid (OwnT.nil _ _ _ _), Lib.hid (Below.refl _ _)⟩
  case round =>
    obtain ⟨i, k, b, c, hi, hki, rfl, rfl, HLK, HO, HW⟩ := hrel
    have HDW := Lib.hid (HD.out.more HW.out)
    have c0 := HDW.out.cell0
    have cl := HDW.out.blk.lt
    by_cases hin : i < n
    · have f0 : (i : Int) < (n : Int) := by omega
      have f2 : (0 : Int) ≤ (i : Int) := by omega
      have hx : l[i]? = some (l[i]'(by rw [HD.out.len]; exact hin)) := List.getElem?_eq_getElem _
      obtain ⟨x, hxx⟩ : ∃ x, l[i]'(by rw [HD.out.len]; exact hin) = x := ⟨_, rfl⟩
      rw [hxx] at hx
      obtain ⟨y, rfl, hyb, d0, d1, d2, d3, d4⟩ := HDW.out.row.at_ hx
      have HS := Lib.hid (gone_snoc (pg := pg) hx)
      have H3 := Lib.hid hin
      have HKI := Lib.hid hki
      have HXL : Hid ((goneL (l.take i) pg).length + 1 ≤ 1000000) := Lib.hid (by have := HLK.out; omega)
      clear hx hxx hi hin hki
      obtain ⟨kr, kp, ep, ef, er⟩ := x
      dsimp only at d0 d1 d2 d3 d4
      have HOK : Hid (OwnT 5 wr w.heap.size 53 (.slice b k c) ((goneL (l.take i) pg).map Rc.l)) := HO
      generalize goneL (l.take i) pg = xs at HO HS HXL HLK HOK
      by_cases he : ep = pg
      · have HS2 := Lib.hid (HS.out.trans (by rw [if_pos (by simp [he]), List.append_nil]))
        have h2 : (ep != pg) = false := by simp [he]
        clear HS
        go_wp2
        go_roundw
        case rel => exact ⟨i + 1, k, b, c, H3.out, Nat.le_succ_of_le HKI.out, by go_num, rfl, by rw [HS2.out]; exact HLK, by rw [HS2.out]; exact HO, HW⟩
        case measure => have := H3.out; simp [intOf]; omega
      · have HS2 := Lib.hid (HS.out.trans (by rw [if_neg (by simp [he])]))
        have h2 : (ep != pg) = true := by simp [he]
        clear HS he
        obtain ⟨b2, c2, w5, hrun, ho5, hb5, hz5⟩ := push_rec (w0 := w) (w := wr) HO.out ⟨kr, kp, ep, ef, er⟩ HXL.out HW.out.size HW.out
        rw [HLK.out] at hrun ho5
        have HRUN := Lib.hid hrun
        have HO5 := Lib.hid ho5
        have HB5 := Lib.hid hb5
        clear hrun ho5 hb5 hz5
        dsimp only at HRUN
        go_wp2_with (refine wpList_append_run rfl _ _ 42 rfl _ _ rfl rfl _ _ HRUN.out ?_)
        go_wp2
        go_roundw
        case rel => exact ⟨i + 1, k + 1, b2, c2, H3.out, Nat.succ_le_succ HKI.out, by go_num, rfl, by rw [HS2.out, List.length_append, List.length_singleton, HLK.out]; exact Lib.hid rfl, by rw [HS2.out]; exact HO5, HB5⟩
        case measure => have := H3.out; simp [intOf]; omega
    · have f0 : ¬ (i : Int) < (n : Int) := by omega
      obtain rfl : i = n := by omega
      have hl : goneL (l.take i) pg = goneL l pg := by rw [← HD.out.len, List.take_length]
      rw [hl] at HO HLK
      have HV : Hid ((l.length : Int) - ((goneL l pg).length : Int) = (i : Int) - (k : Int)) := Lib.hid (by rw [HLK.out, HLN.out])
      have hki2 : (k : Int) ≤ (i : Int) := by omega
      obtain ⟨a3, c3, e3, hr, _, _, hbb, _⟩ := RcRow.own HO.out
      injection e3 with e3 e3' e4
      subst e3 e4
      clear e3'
      have HD9 := Lib.hid (dt_put (k := k) (c := c) HDW.out.blk hr HLK.out (fun y e => by have := hbb y e; have := HG.out; omega))
      have HRB := Lib.hid hbb
      have HK9 := Lib.hid ((Kq.of_below (T := [g]) HW.out).setCell g 0 (.slice b k c) (.inl (by simp)))
      have fz := HDW.out.blk.frozen 0
      clear hi hin hl HO hr hbb hki
      go_wp2
      go_ret
      exact ⟨by rw [HV.out]; rfl, ⟨b, ⟨c, by rw [HLK.out]; exact HD9.out⟩, HRB.out⟩, HK9.out⟩
end
end Go.Proofs.Ytgcpcffgpokbfaa.Sb
