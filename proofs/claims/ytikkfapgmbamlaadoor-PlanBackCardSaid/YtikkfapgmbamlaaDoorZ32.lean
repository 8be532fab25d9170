/- Several texts in one: Ff -/
import Derived.Test.YtikkfapgmbamlaaDoorZ31
import Derived.Great.Walk
section
/- The document's lines of layer 5. -/
namespace Go.Proofs.YtikkfapgmbamlaaDoor.Pl
open Go.RowKit Ut
set_option linter.unusedVariables false
set_option maxRecDepth 100000

/-- what lines answers -/
def LinesPost (o : Nat ⊕ PC) (B : Nat) (e : Ending) (w' : World) : Prop := ∃ (x y z : Int) (a1 : Option Addr) (n1 c1 : Nat) (a2 : Option Addr) (n2 c2 : Nat) (a3 : Option Addr) (n3 c3 : Nat) (a4 : Option Addr) (n4 c4 : Nat) (a5 : Option Addr) (n5 c5 : Nat),
  e = .returned (.tuple #[.agg #[.int .i64 x, .slice a1 n1 c1, .slice a2 n2 c2, .slice a3 n3 c3, .slice a4 n4 c4, .slice a5 n5 c5, .int .i64 y, .int .i64 z], .int .i64 (match o with | .inl m => (m : Int) | .inr _ => 0)]) ∧
  ∀ c, o = .inr c → x = c.cats ∧ y = c.gate ∧ z = c.quota ∧ RowsP w' B c (.slice a1 n1 c1) (.slice a2 n2 c2) (.slice a3 n3 c3) (.slice a4 n4 c4) (.slice a5 n5 c5)
theorem linesPost_bad {o : Nat ⊕ PC} {m : Nat} (ho : o = .inl m) {B : Nat} {w' : World} {e : Ending} (x y z : Int) (a1 : Option Addr) (n1 c1 : Nat) (a2 : Option Addr) (n2 c2 : Nat) (a3 : Option Addr) (n3 c3 : Nat) (a4 : Option Addr) (n4 c4 : Nat) (a5 : Option Addr) (n5 c5 : Nat)
    (he : e = .returned (.tuple #[.agg #[.int .i64 x, .slice a1 n1 c1, .slice a2 n2 c2, .slice a3 n3 c3, .slice a4 n4 c4, .slice a5 n5 c5, .int .i64 y, .int .i64 z], .int .i64 m])) : LinesPost o B e w' := by
  subst ho
  exact ⟨x, y, z, a1, n1, c1, a2, n2, c2, a3, n3, c3, a4, n4, c4, a5, n5, c5, he, fun c h => by cases h⟩
theorem linesPost_good {o : Nat ⊕ PC} {c : PC} (ho : o = .inr c) {B : Nat} {w' : World} {e : Ending} (a1 : Option Addr) (n1 c1 : Nat) (a2 : Option Addr) (n2 c2 : Nat) (a3 : Option Addr) (n3 c3 : Nat) (a4 : Option Addr) (n4 c4 : Nat) (a5 : Option Addr) (n5 c5 : Nat)
    (he : e = .returned (.tuple #[cfgV c (.slice a1 n1 c1) (.slice a2 n2 c2) (.slice a3 n3 c3) (.slice a4 n4 c4) (.slice a5 n5 c5), .int .i64 0]))
    (h : RowsP w' B c (.slice a1 n1 c1) (.slice a2 n2 c2) (.slice a3 n3 c3) (.slice a4 n4 c4) (.slice a5 n5 c5)) : LinesPost o B e w' := by
  subst ho
  exact ⟨c.cats, c.gate, c.quota, a1, n1, c1, a2, n2, c2, a3, n3, c3, a4, n4, c4, a5, n5, c5, he, fun c' hc => by injection hc with hc; subst hc; exact ⟨rfl, rfl, rfl, h⟩⟩
theorem fol_cases (r k : Nat) (lz : Int) (hr : r < 7) (hl : -1 ≤ lz) (hl7 : lz < 7) (h0 : lz = -1 ↔ k = 0) :
    (folL r lz = false ∧ (decide ((r : Int) < lz) = true ∨ (decide ((r : Int) < lz) = false ∧ ((r : Int) == 0) = true ∧ ((k : Int) == 0) = false) ∨ (decide ((r : Int) < lz) = false ∧ ((r : Int) == 0) = false ∧ ((k : Int) == 0) = true) ∨ (decide ((r : Int) < lz) = false ∧ ((r : Int) == 0) = false ∧ ((k : Int) == 0) = false ∧ ((r : Int) == 6) = true ∧ (lz == 6) = true))) ∨
    (folL r lz = true ∧ decide ((r : Int) < lz) = false ∧ ((((r : Int) == 0) = true ∧ ((k : Int) == 0) = true ∧ ((r : Int) == 6) = false) ∨ (((r : Int) == 0) = false ∧ ((k : Int) == 0) = false ∧ ((r : Int) == 6) = false) ∨ (((r : Int) == 0) = false ∧ ((k : Int) == 0) = false ∧ ((r : Int) == 6) = true ∧ (lz == 6) = false))) := by
  have hm : ∀ b : Bool, folL r lz = b → (lz = -1 ∧ b = (r == 0)) ∨ (lz ≠ -1 ∧ (r : Int) = lz ∧ b = (decide (1 ≤ r) && decide (r ≤ 5))) ∨ (lz ≠ -1 ∧ (r : Int) ≠ lz ∧ b = decide (lz < r)) := fun b hb => by
    unfold folL manyL at hb
    split at hb
    · exact .inl ⟨by assumption, hb.symm⟩
    · split at hb
      · exact .inr (.inl ⟨by assumption, by assumption, hb.symm⟩)
      · exact .inr (.inr ⟨by assumption, by assumption, hb.symm⟩)
  cases hb : folL r lz
  · refine .inl ⟨rfl, ?_⟩
    rcases hm _ hb with ⟨h1, h2⟩ | ⟨h1, h2, h3⟩ | ⟨h1, h2, h3⟩
    · have hr0 : r ≠ 0 := by simpa using h2.symm
      have hk := h0.1 h1
      exact .inr (.inr (.inl ⟨by simp; omega, by simp; omega, by simp; omega⟩))
    · have hk : k ≠ 0 := fun h => h1 (h0.2 h)
      have h4 : r = 0 ∨ r = 6 := by
        simp at h3
        omega
      rcases h4 with h4 | h4
      · exact .inr (.inl ⟨by simp; omega, by simp; omega, by simp; omega⟩)
      · exact .inr (.inr (.inr ⟨by simp; omega, by simp; omega, by simp; omega, by simp; omega, by simp; omega⟩))
    · have h4 : ¬ lz < r := by simpa using h3
      exact .inl (by simp; omega)
  · refine .inr ⟨rfl, ?_⟩
    rcases hm _ hb with ⟨h1, h2⟩ | ⟨h1, h2, h3⟩ | ⟨h1, h2, h3⟩
    · have hr0 : r = 0 := by simpa using h2.symm
      have hk := h0.1 h1
      exact ⟨by simp; omega, .inl ⟨by simp; omega, by simp; omega, by simp; omega⟩⟩
    · have hk : k ≠ 0 := fun h => h1 (h0.2 h)
      have h4 : 1 ≤ r ∧ r ≤ 5 := by simpa using h3.symm
      exact ⟨by simp; omega, .inr (.inl ⟨by simp; omega, by simp; omega, by simp; omega⟩)⟩
    · have hk : k ≠ 0 := fun h => h1 (h0.2 h)
      have h4 : lz < r := by simpa using h3.symm
      by_cases h6 : r = 6
      · exact ⟨by simp; omega, .inr (.inr ⟨by simp; omega, by simp; omega, by simp; omega, by simp; omega⟩)⟩
      · exact ⟨by simp; omega, .inr (.inl ⟨by simp; omega, by simp; omega, by simp; omega⟩)⟩
theorem words_len {l x : List UInt8} {xs : List (List UInt8)} (h : wordsL l = some (x :: xs)) (j : Nat) : ((x :: xs).getD j []).length ≤ l.length := by
  have e := words_back h
  have h1 := congrArg List.length e
  rw [List.length_append] at h1
  cases j with
  | zero => simp; omega
  | succ j =>
    have := part_len xs j
    simp only [List.getD_cons_succ]
    omega
theorem recL_word {l : List UInt8} (x : List UInt8) (xs : List (List UInt8)) (h : wordsL l = some (x :: xs)) : recL l = match rankL x with
    | some r => match valsL (kf r) xs with
      | some vs => some (r, vs)
      | none => none
    | none => none := by unfold recL; rw [h]; rfl
theorem BoxP.setRow {w : World} {B b : Nat} {q : PC} {vg vr vp vn vs : Value} {old : Array Value} (h : RowsP w B q vg vr vp vn vs) (hb : w.heap[b]? = some (.cells old 36 (0, 0))) (hB : B ≤ b) :
    BoxP (w.setRow b #[.int .i64 q.cats, vg, vr, vp, vn, vs, .int .i64 q.gate, .int .i64 q.quota]) B b q vg vr vp vn vs := by
  have hr := h.setRow (new := #[.int .i64 q.cats, vg, vr, vp, vn, vs, .int .i64 q.gate, .int .i64 q.quota]) hb
  exact ⟨setRow_heap _ b _ _ _ _ hb, hB, hr.og, hr.or, hr.op, hr.on, hr.os⟩
theorem lines_start {w w1 : World} (hw : (w.alloc (.cells zeroL.toArray 36)).alloc (cfgO pc0 (.slice none 0 0) (.slice none 0 0) (.slice none 0 0) (.slice none 0 0) (.slice none 0 0)) = w1) :
    Box w1 w.heap.size (w.heap.size + 1) pc0 ∧ w1.heap[w.heap.size]? = some (.cells zeroL.toArray 36 (0, 0)) ∧ Below w.heap.size w w1 := by
  subst hw
  refine ⟨⟨_, _, _, _, _, ?_, by omega, OwnT.nil _ _ _ _, OwnT.nil _ _ _ _, OwnT.nil _ _ _ _, OwnT.nil _ _ _ _, OwnT.nil _ _ _ _⟩, ?_, ((Below.refl _ _).alloc (Nat.le_refl _) _).alloc (by simp) _⟩
  · exact heap_alloc2_new _ _ _
  · rw [Below.heap_alloc _ _ _ (by simp)]; exact heap_alloc_new _ _
set_option maxHeartbeats 8000000 in
theorem refAll_any (a : Option Addr) (n cap : Nat) (ls : List (List UInt8)) (hn : n ≤ 100000) (hts : ∀ k, (ls.getD k []).length ≤ 1000000) (w : World) (hrow : RowS w w.heap.size a n ls) :
    Calls Tryd.prog 22 #[.slice a n cap] w fun e w' => LinesPost (runL ls pc0 (-1) 0) w.heap.size e w' ∧ Below w.heap.size w w' := by
  obtain ⟨o, ho⟩ : ∃ o, runL ls pc0 (-1) 0 = o := ⟨_, rfl⟩
  rw [ho]
  have HO := Lib.hid ho
  have HRL : Hid (∀ W, Below w.heap.size w W → RowS W w.heap.size a n ls) := Lib.hid fun W hW => hrow.below hW
  have HN := Lib.hid hrow.1
  have HT := Lib.hid hts
  clear hrow hts ho
  go_enter Tryd.func22, Tryd.ntmps22
  go_wp2
  obtain ⟨w1, hw1⟩ : ∃ w1, (w.alloc (.cells #[.int .i64 0, .slice none 0 0, .slice none 0 0, .slice none 0 0, .slice none 0 0, .slice none 0 0, .int .i64 0, .int .i64 0] 36)).alloc (.cells #[.int .i64 0, .slice none 0 0, .slice none 0 0, .slice none 0 0, .slice none 0 0, .slice none 0 0, .int .i64 (-1), .int .i64 0] 36) = w1 := ⟨_, rfl⟩
  obtain ⟨hx0, hz0, hb0⟩ := lines_start hw1
  rw [hw1]
  clear hw1
  go_loopw [5, 6] (fun last i wr => ∃ (k : Nat) (c : PC) (lz : Int), k ≤ n ∧ i = .int .i64 k ∧ last = .int .i64 lz ∧ -1 ≤ lz ∧ lz < 7 ∧ (lz = -1 ↔ k = 0) ∧ o = runL (ls.drop k) c lz k ∧ c.size ≤ k ∧ Box wr w.heap.size (w.heap.size + 1) c ∧ wr.heap[w.heap.size]? = some (.cells zeroL.toArray 36 (0, 0)) ∧ Below w.heap.size w wr) (fun _ i _ => n - (intOf i).toNat)
  case atStart => exact ⟨0, pc0, -1, Nat.zero_le _, rfl, rfl, by omega, by omega, by simp, HO.out.symm, Nat.le_refl _, hx0, hz0, hb0⟩
  case round =>
    clear hx0 hz0 hb0
    obtain ⟨k, c, lz, hk, rfl, rfl, hl1, hl2, hl0, hrun, hcs, ⟨vg, vr, vp, vn, vs, hbx⟩, hzz, hbel⟩ := hrel
    obtain ⟨ga, gc, ra, rc, pa, qc, na, nc, sa, sc, rfl, rfl, rfl, rfl, rfl⟩ := rows_sl hbx.rows
    have HRUN := Lib.hid hrun
    have HX := Lib.hid hbx
    have HZ := Lib.hid hzz
    have HL0 := Lib.hid hl0
    have HZL : Hid (w.heap.size < wr.heap.size ∧ w.heap.size + 1 < wr.heap.size) := Lib.hid ⟨(Array.getElem?_eq_some_iff.1 hzz).1, (Array.getElem?_eq_some_iff.1 hbx.box).1⟩
    clear hrun hbx hzz hl0
    by_cases hlt : k < n
    · obtain ⟨ad, rfl, had, hc⟩ := (HRL.out wr hbel).at k hlt
      have hll := HT.out k
      obtain ⟨l, hl⟩ : ∃ l, ls.getD k [] = l := ⟨_, rfl⟩
      rw [hl] at hc hll
      have HSTEP := Lib.hid (HRUN.out.trans (runL_drop (by have := HN.out; omega) c lz))
      have HSL := Lib.hid hl
      clear hl
      have hsp := refSplit_any (tb l) (by rw [tb_size]; omega)
      rw [tb_list, tb_size] at hsp
      have HBAD : Hid (∀ (h : ∀ r v, recL l = some (r, v) → folL r lz = false), o = .inl (k + 1)) := Lib.hid fun h => by
        rw [HSTEP.out, HSL.out]
        cases hr : recL l with
        | none => rfl
        | some rv =>
          obtain ⟨r, v⟩ := rv
          simp only [h r v hr]
          rfl
      have HGOOD : Hid (∀ r v, recL l = some (r, v) → folL r lz = true → o = runL (ls.drop (k + 1)) (c.put r v) r (k + 1)) := Lib.hid fun r v hr hf => by
        rw [HSTEP.out, HSL.out, hr]
        simp only [hf]
        rfl
      clear HSTEP HSL
      cases hw : wordsL l with
      | none =>
        have HE := Lib.hid (HBAD.out fun r v h => by unfold recL at h; rw [hw] at h; cases h)
        rw [hw] at hsp
        clear hw
        generalize tb l = tl at hc hsp
        go_upto_region 8 with (go_at_call 8; refine (hsp _ _ (Nat.le_refl _)).mono ?_; rintro e w2 ⟨v, rfl, hown, hwl, hb2⟩; have HX2 := Lib.hid (HX.out.below hb2); have HZ2 := Lib.hid ((hb2.block _ (by have := HZL.out; omega)).trans HZ.out); have hbw2 := hbel.trans (hb2.mono hbel.size); clear hown; clear hsp hb2)
        refine wp_region_lit ?_
        refine wpList_load_row rfl 36 _ rfl (w.heap.size + 1) (by kernel_rfl) 36 #[.int .i64 c.cats, .slice ga c.gs.length gc, .slice ra c.rs.length rc, .slice pa c.ps.length qc, .slice na c.ns.length nc, .slice sa c.ss.length sc, .int .i64 c.gate, .int .i64 c.quota] (0, 0) _ HX2.out.box Tryd.underlying36 rfl (by kernel_rfl) ?_
        refine wpList_value rfl (.int .i64 k) (by kernel_rfl) ?_
        refine wpList_value rfl (.int .i64 (IntKind.i64.wrap ((k : Int) + 1))) (by kernel_rfl) ?_
        refine wpList_store_row rfl 36 (.tmp 2) (.tmp 30) rfl w.heap.size #[.int .i64 c.cats, .slice ga c.gs.length gc, .slice ra c.rs.length rc, .slice pa c.ps.length qc, .slice na c.ns.length nc, .slice sa c.ss.length sc, .int .i64 c.gate, .int .i64 c.quota] (by kernel_rfl) (by kernel_rfl) 36 _ HZ2.out (by kernel_rfl) rfl (by kernel_rfl) ?_
        have hrow := Lib.hid (setRow_heap _ w.heap.size _ #[.int .i64 c.cats, .slice ga c.gs.length gc, .slice ra c.rs.length rc, .slice pa c.ps.length qc, .slice na c.ns.length nc, .slice sa c.ss.length sc, .int .i64 c.gate, .int .i64 c.quota] _ _ HZ2.out)
        have hbe := below_setRow hbw2 (Nat.le_refl _) #[.int .i64 c.cats, .slice ga c.gs.length gc, .slice ra c.rs.length rc, .slice pa c.ps.length qc, .slice na c.ns.length nc, .slice sa c.ss.length sc, .int .i64 c.gate, .int .i64 c.quota]
        go_wp2
        exact bodyPost_ret (v := .tuple #[cfgV c (.slice ga c.gs.length gc) (.slice ra c.rs.length rc) (.slice pa c.ps.length qc) (.slice na c.ns.length nc) (.slice sa c.ss.length sc), .int .i64 ((k : Int) + 1)]) (results_ct rfl _ _ w.heap.size _ _ rfl rfl hrow.out (by kernel_rfl)) rfl ⟨linesPost_bad HE.out _ _ _ _ _ _ _ _ _ _ _ _ _ _ _ _ _ _ rfl, hbe⟩
      | some ws =>
        obtain ⟨x, xs, rfl⟩ := wordsL_ne hw
        have hwl : ∀ j, ((x :: xs).getD j []).length ≤ 1099511627776 := fun j => by have := words_len hw j; omega
        have hrec := recL_word x xs hw
        rw [hw] at hsp
        have HWL := Lib.hid hwl
        have HRC := Lib.hid hrec
        clear hw hwl hrec
        simp only [Option.getD_some, Option.isSome_some] at hsp
        have HM : Hid ((x :: xs).length = xs.length + 1) := Lib.hid rfl
        obtain ⟨m, hm⟩ : ∃ m, (x :: xs).length = m := ⟨_, rfl⟩
        rw [hm] at hsp HM
        have hmp : 0 < m := by have := HM.out; omega
        clear hm
        have hrk := refRank_any x
        cases hr : rankL x with
        | none =>
          have HE := Lib.hid (HBAD.out fun r v h => by rw [HRC.out, hr] at h; cases h)
          rw [rankZ_none hr] at hrk
          clear hr
          generalize tb l = tl at hc hsp
          go_upto_region 11 with (first | (go_at_call 8; refine (hsp _ _ (Nat.le_refl _)).mono ?_; rintro e w2 ⟨v, rfl, hown, hwl, hb2⟩; have HX2 := Lib.hid (HX.out.below hb2); have HZ2 := Lib.hid ((hb2.block _ (by have := HZL.out; omega)).trans HZ.out); have hbw2 := hbel.trans (hb2.mono hbel.size);  obtain ⟨wa, wcap, rfl, _, _, hwrow⟩ := OwnS.row hown; obtain ⟨wad, rfl, hwad, hw0⟩ := head_cell hwrow; have HWR := Lib.hid hwrow; clear hown hwrow; clear hsp hb2) | (go_at_call 33; refine (hrk _).mono ?_; rintro e w3 ⟨rfl, rfl⟩))
          refine wp_region_lit ?_
          refine wpList_load_row rfl 36 _ rfl (w.heap.size + 1) (by kernel_rfl) 36 #[.int .i64 c.cats, .slice ga c.gs.length gc, .slice ra c.rs.length rc, .slice pa c.ps.length qc, .slice na c.ns.length nc, .slice sa c.ss.length sc, .int .i64 c.gate, .int .i64 c.quota] (0, 0) _ HX2.out.box Tryd.underlying36 rfl (by kernel_rfl) ?_
          refine wpList_value rfl (.int .i64 k) (by kernel_rfl) ?_
          refine wpList_value rfl (.int .i64 (IntKind.i64.wrap ((k : Int) + 1))) (by kernel_rfl) ?_
          refine wpList_store_row rfl 36 (.tmp 2) (.tmp 68) rfl w.heap.size #[.int .i64 c.cats, .slice ga c.gs.length gc, .slice ra c.rs.length rc, .slice pa c.ps.length qc, .slice na c.ns.length nc, .slice sa c.ss.length sc, .int .i64 c.gate, .int .i64 c.quota] (by kernel_rfl) (by kernel_rfl) 36 _ HZ2.out (by kernel_rfl) rfl (by kernel_rfl) ?_
          have hrow := Lib.hid (setRow_heap _ w.heap.size _ #[.int .i64 c.cats, .slice ga c.gs.length gc, .slice ra c.rs.length rc, .slice pa c.ps.length qc, .slice na c.ns.length nc, .slice sa c.ss.length sc, .int .i64 c.gate, .int .i64 c.quota] _ _ HZ2.out)
          have hbe := below_setRow hbw2 (Nat.le_refl _) #[.int .i64 c.cats, .slice ga c.gs.length gc, .slice ra c.rs.length rc, .slice pa c.ps.length qc, .slice na c.ns.length nc, .slice sa c.ss.length sc, .int .i64 c.gate, .int .i64 c.quota]
          go_wp2
          exact bodyPost_ret (v := .tuple #[cfgV c (.slice ga c.gs.length gc) (.slice ra c.rs.length rc) (.slice pa c.ps.length qc) (.slice na c.ns.length nc) (.slice sa c.ss.length sc), .int .i64 ((k : Int) + 1)]) (results_ct rfl _ _ w.heap.size _ _ rfl rfl hrow.out (by kernel_rfl)) rfl ⟨linesPost_bad HE.out _ _ _ _ _ _ _ _ _ _ _ _ _ _ _ _ _ _ rfl, hbe⟩
        | some r =>
          have hr7 := (rank_back hr).2
          have hcn : cntZ x = ((kf r).length : Int) + 1 := by unfold cntZ; rw [hr]
          rw [rankZ_some hr, hcn] at hrk
          have b0 : decide (((r : Nat) : Int) < 0) = false := by simp
          clear hcn
          rcases fol_cases r k lz hr7 hl1 hl2 HL0.out with ⟨hf, hbad⟩ | ⟨hf, b2, hgood⟩
          · have HE := Lib.hid (HBAD.out fun r' v h => by
              rw [HRC.out, hr] at h
              simp only at h
              split at h
              · injection h with h; injection h with h1 h2; subst h1; exact hf
              · cases h)
            clear hr hf
            generalize tb l = tl at hc hsp
            rcases hbad with b2 | ⟨b2, b3, b4⟩ | ⟨b2, b3, b4⟩ | ⟨b2, b3, b4, b6, b7⟩
            all_goals
              go_upto_region 11 with (first | (go_at_call 8; refine (hsp _ _ (Nat.le_refl _)).mono ?_; rintro e w2 ⟨v, rfl, hown, hwl, hb2⟩; have HX2 := Lib.hid (HX.out.below hb2); have HZ2 := Lib.hid ((hb2.block _ (by have := HZL.out; omega)).trans HZ.out); have hbw2 := hbel.trans (hb2.mono hbel.size);  obtain ⟨wa, wcap, rfl, _, _, hwrow⟩ := OwnS.row hown; obtain ⟨wad, rfl, hwad, hw0⟩ := head_cell hwrow; have HWR := Lib.hid hwrow; clear hown hwrow; clear hsp hb2) | (go_at_call 33; refine (hrk _).mono ?_; rintro e w3 ⟨rfl, rfl⟩))
              refine wp_region_lit ?_
              refine wpList_load_row rfl 36 _ rfl (w.heap.size + 1) (by kernel_rfl) 36 #[.int .i64 c.cats, .slice ga c.gs.length gc, .slice ra c.rs.length rc, .slice pa c.ps.length qc, .slice na c.ns.length nc, .slice sa c.ss.length sc, .int .i64 c.gate, .int .i64 c.quota] (0, 0) _ HX2.out.box Tryd.underlying36 rfl (by kernel_rfl) ?_
              refine wpList_value rfl (.int .i64 k) (by kernel_rfl) ?_
              refine wpList_value rfl (.int .i64 (IntKind.i64.wrap ((k : Int) + 1))) (by kernel_rfl) ?_
              refine wpList_store_row rfl 36 (.tmp 2) (.tmp 68) rfl w.heap.size #[.int .i64 c.cats, .slice ga c.gs.length gc, .slice ra c.rs.length rc, .slice pa c.ps.length qc, .slice na c.ns.length nc, .slice sa c.ss.length sc, .int .i64 c.gate, .int .i64 c.quota] (by kernel_rfl) (by kernel_rfl) 36 _ HZ2.out (by kernel_rfl) rfl (by kernel_rfl) ?_
              have hrow := Lib.hid (setRow_heap _ w.heap.size _ #[.int .i64 c.cats, .slice ga c.gs.length gc, .slice ra c.rs.length rc, .slice pa c.ps.length qc, .slice na c.ns.length nc, .slice sa c.ss.length sc, .int .i64 c.gate, .int .i64 c.quota] _ _ HZ2.out)
              have hbe := below_setRow hbw2 (Nat.le_refl _) #[.int .i64 c.cats, .slice ga c.gs.length gc, .slice ra c.rs.length rc, .slice pa c.ps.length qc, .slice na c.ns.length nc, .slice sa c.ss.length sc, .int .i64 c.gate, .int .i64 c.quota]
              go_wp2
              exact bodyPost_ret (v := .tuple #[cfgV c (.slice ga c.gs.length gc) (.slice ra c.rs.length rc) (.slice pa c.ps.length qc) (.slice na c.ns.length nc) (.slice sa c.ss.length sc), .int .i64 ((k : Int) + 1)]) (results_ct rfl _ _ w.heap.size _ _ rfl rfl hrow.out (by kernel_rfl)) rfl ⟨linesPost_bad HE.out _ _ _ _ _ _ _ _ _ _ _ _ _ _ _ _ _ _ rfl, hbe⟩
          · by_cases hlen : xs.length = (kf r).length
            · have b8 : ((m : Int) != ((kf r).length : Int) + 1) = false := by have := HM.out; simp; omega
              cases hv : valsL (kf r) xs with
              | none =>
                have HE := Lib.hid (HBAD.out fun r' v h => by
                  rw [HRC.out, hr] at h
                  simp only [hv] at h
                  cases h)
                clear hr hf
                generalize tb l = tl at hc hsp
                rcases hgood with ⟨b3, b4, b6⟩ | ⟨b3, b4, b6⟩ | ⟨b3, b4, b6, b7⟩
                all_goals
                  go_upto_region 12 with (first | (go_at_call 8; refine (hsp _ _ (Nat.le_refl _)).mono ?_; rintro e w2 ⟨v, rfl, hown, hwl, hb2⟩; have HX2 := Lib.hid (HX.out.below hb2); have HZ2 := Lib.hid ((hb2.block _ (by have := HZL.out; omega)).trans HZ.out); have hbw2 := hbel.trans (hb2.mono hbel.size);  obtain ⟨wa, wcap, rfl, _, _, hwrow⟩ := OwnS.row hown; obtain ⟨wad, rfl, hwad, hw0⟩ := head_cell hwrow; have HWR := Lib.hid hwrow; clear hown hwrow; clear hsp hb2) | (go_at_call 33; refine (hrk _).mono ?_; rintro e w3 ⟨rfl, rfl⟩))
                  refine wp_region_lit ?_
                  refine wpList_load_row rfl 36 _ rfl (w.heap.size + 1) (by kernel_rfl) 36 #[.int .i64 c.cats, .slice ga c.gs.length gc, .slice ra c.rs.length rc, .slice pa c.ps.length qc, .slice na c.ns.length nc, .slice sa c.ss.length sc, .int .i64 c.gate, .int .i64 c.quota] (0, 0) _ HX2.out.box Tryd.underlying36 rfl (by kernel_rfl) ?_
                  refine wpList_value rfl (.int .i64 r) (by kernel_rfl) ?_
                  refine wpList_value rfl (.slice (some wad) m wcap) (by kernel_rfl) ?_
                  refine wpList_callK rfl 34 #[cfgV c (.slice ga c.gs.length gc) (.slice ra c.rs.length rc) (.slice pa c.ps.length qc) (.slice na c.ns.length nc) (.slice sa c.ss.length sc), .int .i64 r, .slice (some wad) m wcap] (by kernel_rfl) (refTake_any c r hr7 _ _ _ _ _ wad m wcap x xs HM.out hlen HWL.out w.heap.size w2 hbw2.size HX2.out.rows (by omega) HWR.out) ?_
                  intro e w4 ht
                  have ht2 : ∃ q, TakeQ q false w.heap.size w2 e w4 := by unfold TakePost at ht; rw [hv] at ht; exact ht
                  obtain ⟨q, vg2, vr2, vp2, vn2, vs2, rfl, hr2, hb4, hk4⟩ := ht2
                  refine ⟨_, rfl, ?_⟩
                  obtain ⟨ga2, gc2, ra2, rc2, pa2, qc2, na2, nc2, sa2, sc2, rfl, rfl, rfl, rfl, rfl⟩ := rows_sl hr2
                  refine wpList_value rfl (.tuple #[cfgV q (.slice ga2 q.gs.length gc2) (.slice ra2 q.rs.length rc2) (.slice pa2 q.ps.length qc2) (.slice na2 q.ns.length nc2) (.slice sa2 q.ss.length sc2), .bool false]) (by kernel_rfl) ?_
                  refine wpList_value rfl (cfgV q (.slice ga2 q.gs.length gc2) (.slice ra2 q.rs.length rc2) (.slice pa2 q.ps.length qc2) (.slice na2 q.ns.length nc2) (.slice sa2 q.ss.length sc2)) (by kernel_rfl) ?_
                  refine wpList_value rfl (.bool false) (by kernel_rfl) ?_
                  refine Go.Great.wpList_allocTo rfl (some 11) rfl (.pointer (some ⟨w4.heap.size, 0, none⟩)) (.cells zeroL.toArray 36 (0, 0)) (by kernel_rfl) ?_
                  refine wpList_store_row rfl 36 (.tmp 11) (.tmp 76) rfl w4.heap.size #[.int .i64 q.cats, .slice ga2 q.gs.length gc2, .slice ra2 q.rs.length rc2, .slice pa2 q.ps.length qc2, .slice na2 q.ns.length nc2, .slice sa2 q.ss.length sc2, .int .i64 q.gate, .int .i64 q.quota] (by kernel_rfl) (by kernel_rfl) 36 _ (heap_alloc_new w4 _) (by kernel_rfl) rfl (by kernel_rfl) ?_
                  have hz4 := hk4.2 _ _ _ _ (by have := hbw2.size; have := (Array.getElem?_eq_some_iff.1 HZ2.out).1; omega) (.inr (.inl rfl)) HZ2.out
                  have hx4 := hk4.2 _ _ _ _ (by have := (Array.getElem?_eq_some_iff.1 HX2.out.box).1; omega) (.inr (.inl rfl)) HX2.out.box
                  have hlz4 := (Array.getElem?_eq_some_iff.1 hz4).1
                  have hlx4 := (Array.getElem?_eq_some_iff.1 hx4).1
                  have hba : Below w4.heap.size w4 ((w4.alloc (.cells zeroL.toArray 36 (0, 0))).setRow w4.heap.size #[.int .i64 q.cats, .slice ga2 q.gs.length gc2, .slice ra2 q.rs.length rc2, .slice pa2 q.ps.length qc2, .slice na2 q.ns.length nc2, .slice sa2 q.ss.length sc2, .int .i64 q.gate, .int .i64 q.quota]) := below_setRow ((Below.refl _ _).alloc (Nat.le_refl _) _) (Nat.le_refl _) _
                  have hz5 := (hba.block _ hlz4).trans hz4
                  have hx5 := (hba.block _ hlx4).trans hx4
                  have hq5 := setRow_heap (w4.alloc (.cells zeroL.toArray 36 (0, 0))) w4.heap.size _ #[.int .i64 q.cats, .slice ga2 q.gs.length gc2, .slice ra2 q.rs.length rc2, .slice pa2 q.ps.length qc2, .slice na2 q.ns.length nc2, .slice sa2 q.ss.length sc2, .int .i64 q.gate, .int .i64 q.quota] _ _ (heap_alloc_new w4 _)
                  have hr5 := hr2.below hba
                  have hb5 := (hbw2.trans hb4).trans (hba.mono (by have := (hbw2.trans hb4).size; omega))
                  obtain ⟨W5, hW5⟩ : ∃ W5, (w4.alloc (.cells zeroL.toArray 36 (0, 0))).setRow w4.heap.size #[.int .i64 q.cats, .slice ga2 q.gs.length gc2, .slice ra2 q.rs.length rc2, .slice pa2 q.ps.length qc2, .slice na2 q.ns.length nc2, .slice sa2 q.ss.length sc2, .int .i64 q.gate, .int .i64 q.quota] = W5 := ⟨_, rfl⟩
                  rw [hW5] at hz5 hx5 hq5 hr5 hb5
                  rw [hW5]
                  have HZ5 := Lib.hid hz5
                  have HX5 := Lib.hid hx5
                  have HQ5 := Lib.hid hq5
                  have HR5 := Lib.hid hr5
                  clear hW5 hba hz5 hx5 hq5 hr5 hr2 hb4 hk4 hz4 hx4 ht
                  go_upto_region 14 with fail
                  refine wp_region_lit ?_
                  refine wpList_load_row rfl 36 _ rfl (w.heap.size + 1) (by kernel_rfl) 36 #[.int .i64 c.cats, .slice ga c.gs.length gc, .slice ra c.rs.length rc, .slice pa c.ps.length qc, .slice na c.ns.length nc, .slice sa c.ss.length sc, .int .i64 c.gate, .int .i64 c.quota] (0, 0) _ HX5.out Tryd.underlying36 rfl (by kernel_rfl) ?_
                  refine wpList_value rfl (.int .i64 k) (by kernel_rfl) ?_
                  refine wpList_value rfl (.int .i64 (IntKind.i64.wrap ((k : Int) + 1))) (by kernel_rfl) ?_
                  refine wpList_store_row rfl 36 (.tmp 2) (.tmp 80) rfl w.heap.size #[.int .i64 c.cats, .slice ga c.gs.length gc, .slice ra c.rs.length rc, .slice pa c.ps.length qc, .slice na c.ns.length nc, .slice sa c.ss.length sc, .int .i64 c.gate, .int .i64 c.quota] (by kernel_rfl) (by kernel_rfl) 36 _ HZ5.out (by kernel_rfl) rfl (by kernel_rfl) ?_
                  have hrow := Lib.hid (setRow_heap _ w.heap.size _ #[.int .i64 c.cats, .slice ga c.gs.length gc, .slice ra c.rs.length rc, .slice pa c.ps.length qc, .slice na c.ns.length nc, .slice sa c.ss.length sc, .int .i64 c.gate, .int .i64 c.quota] _ _ HZ5.out)
                  have hbe := below_setRow hb5 (Nat.le_refl _) #[.int .i64 c.cats, .slice ga c.gs.length gc, .slice ra c.rs.length rc, .slice pa c.ps.length qc, .slice na c.ns.length nc, .slice sa c.ss.length sc, .int .i64 c.gate, .int .i64 c.quota]
                  go_wp2
                  exact bodyPost_ret (v := .tuple #[cfgV c (.slice ga c.gs.length gc) (.slice ra c.rs.length rc) (.slice pa c.ps.length qc) (.slice na c.ns.length nc) (.slice sa c.ss.length sc), .int .i64 ((k : Int) + 1)]) (results_ct rfl _ _ w.heap.size _ _ rfl rfl hrow.out (by kernel_rfl)) rfl ⟨linesPost_bad HE.out _ _ _ _ _ _ _ _ _ _ _ _ _ _ _ _ _ _ rfl, hbe⟩
              | some v =>
                have HE := Lib.hid (HGOOD.out r v (by rw [HRC.out, hr]; simp only [hv]) hf)
                clear hr hf
                generalize tb l = tl at hc hsp
                rcases hgood with ⟨b3, b4, b6⟩ | ⟨b3, b4, b6⟩ | ⟨b3, b4, b6, b7⟩
                all_goals
                  go_upto_region 12 with (first | (go_at_call 8; refine (hsp _ _ (Nat.le_refl _)).mono ?_; rintro e w2 ⟨v, rfl, hown, hwl, hb2⟩; have HX2 := Lib.hid (HX.out.below hb2); have HZ2 := Lib.hid ((hb2.block _ (by have := HZL.out; omega)).trans HZ.out); have hbw2 := hbel.trans (hb2.mono hbel.size);  obtain ⟨wa, wcap, rfl, _, _, hwrow⟩ := OwnS.row hown; obtain ⟨wad, rfl, hwad, hw0⟩ := head_cell hwrow; have HWR := Lib.hid hwrow; clear hown hwrow; clear hsp hb2) | (go_at_call 33; refine (hrk _).mono ?_; rintro e w3 ⟨rfl, rfl⟩))
                  refine wp_region_lit ?_
                  refine wpList_load_row rfl 36 _ rfl (w.heap.size + 1) (by kernel_rfl) 36 #[.int .i64 c.cats, .slice ga c.gs.length gc, .slice ra c.rs.length rc, .slice pa c.ps.length qc, .slice na c.ns.length nc, .slice sa c.ss.length sc, .int .i64 c.gate, .int .i64 c.quota] (0, 0) _ HX2.out.box Tryd.underlying36 rfl (by kernel_rfl) ?_
                  refine wpList_value rfl (.int .i64 r) (by kernel_rfl) ?_
                  refine wpList_value rfl (.slice (some wad) m wcap) (by kernel_rfl) ?_
                  refine wpList_callK rfl 34 #[cfgV c (.slice ga c.gs.length gc) (.slice ra c.rs.length rc) (.slice pa c.ps.length qc) (.slice na c.ns.length nc) (.slice sa c.ss.length sc), .int .i64 r, .slice (some wad) m wcap] (by kernel_rfl) (refTake_any c r hr7 _ _ _ _ _ wad m wcap x xs HM.out hlen HWL.out w.heap.size w2 hbw2.size HX2.out.rows (by omega) HWR.out) ?_
                  intro e w4 ht
                  have ht2 : TakeQ (c.put r v) true w.heap.size w2 e w4 := by unfold TakePost at ht; rw [hv] at ht; exact ht
                  obtain ⟨vg2, vr2, vp2, vn2, vs2, rfl, hr2, hb4, hk4⟩ := ht2
                  obtain ⟨q, hq⟩ : ∃ q, c.put r v = q := ⟨_, rfl⟩
                  rw [hq] at hr2
                  rw [hq]
                  have HQ := Lib.hid hq
                  have HQS := Lib.hid (PC.size_put c r v)
                  rw [hq] at HQS
                  clear hq
                  refine ⟨_, rfl, ?_⟩
                  obtain ⟨ga2, gc2, ra2, rc2, pa2, qc2, na2, nc2, sa2, sc2, rfl, rfl, rfl, rfl, rfl⟩ := rows_sl hr2
                  refine wpList_value rfl (.tuple #[cfgV q (.slice ga2 q.gs.length gc2) (.slice ra2 q.rs.length rc2) (.slice pa2 q.ps.length qc2) (.slice na2 q.ns.length nc2) (.slice sa2 q.ss.length sc2), .bool true]) (by kernel_rfl) ?_
                  refine wpList_value rfl (cfgV q (.slice ga2 q.gs.length gc2) (.slice ra2 q.rs.length rc2) (.slice pa2 q.ps.length qc2) (.slice na2 q.ns.length nc2) (.slice sa2 q.ss.length sc2)) (by kernel_rfl) ?_
                  refine wpList_value rfl (.bool true) (by kernel_rfl) ?_
                  refine Go.Great.wpList_allocTo rfl (some 11) rfl (.pointer (some ⟨w4.heap.size, 0, none⟩)) (.cells zeroL.toArray 36 (0, 0)) (by kernel_rfl) ?_
                  refine wpList_store_row rfl 36 (.tmp 11) (.tmp 76) rfl w4.heap.size #[.int .i64 q.cats, .slice ga2 q.gs.length gc2, .slice ra2 q.rs.length rc2, .slice pa2 q.ps.length qc2, .slice na2 q.ns.length nc2, .slice sa2 q.ss.length sc2, .int .i64 q.gate, .int .i64 q.quota] (by kernel_rfl) (by kernel_rfl) 36 _ (heap_alloc_new w4 _) (by kernel_rfl) rfl (by kernel_rfl) ?_
                  have hz4 := hk4.2 _ _ _ _ (by have := hbw2.size; have := (Array.getElem?_eq_some_iff.1 HZ2.out).1; omega) (.inr (.inl rfl)) HZ2.out
                  have hx4 := hk4.2 _ _ _ _ (by have := (Array.getElem?_eq_some_iff.1 HX2.out.box).1; omega) (.inr (.inl rfl)) HX2.out.box
                  have hlz4 := (Array.getElem?_eq_some_iff.1 hz4).1
                  have hlx4 := (Array.getElem?_eq_some_iff.1 hx4).1
                  have hba : Below w4.heap.size w4 ((w4.alloc (.cells zeroL.toArray 36 (0, 0))).setRow w4.heap.size #[.int .i64 q.cats, .slice ga2 q.gs.length gc2, .slice ra2 q.rs.length rc2, .slice pa2 q.ps.length qc2, .slice na2 q.ns.length nc2, .slice sa2 q.ss.length sc2, .int .i64 q.gate, .int .i64 q.quota]) := below_setRow ((Below.refl _ _).alloc (Nat.le_refl _) _) (Nat.le_refl _) _
                  have hz5 := (hba.block _ hlz4).trans hz4
                  have hx5 := (hba.block _ hlx4).trans hx4
                  have hq5 := setRow_heap (w4.alloc (.cells zeroL.toArray 36 (0, 0))) w4.heap.size _ #[.int .i64 q.cats, .slice ga2 q.gs.length gc2, .slice ra2 q.rs.length rc2, .slice pa2 q.ps.length qc2, .slice na2 q.ns.length nc2, .slice sa2 q.ss.length sc2, .int .i64 q.gate, .int .i64 q.quota] _ _ (heap_alloc_new w4 _)
                  have hr5 := hr2.below hba
                  have hb5 := (hbw2.trans hb4).trans (hba.mono (by have := (hbw2.trans hb4).size; omega))
                  obtain ⟨W5, hW5⟩ : ∃ W5, (w4.alloc (.cells zeroL.toArray 36 (0, 0))).setRow w4.heap.size #[.int .i64 q.cats, .slice ga2 q.gs.length gc2, .slice ra2 q.rs.length rc2, .slice pa2 q.ps.length qc2, .slice na2 q.ns.length nc2, .slice sa2 q.ss.length sc2, .int .i64 q.gate, .int .i64 q.quota] = W5 := ⟨_, rfl⟩
                  rw [hW5] at hz5 hx5 hq5 hr5 hb5
                  rw [hW5]
                  have HZ5 := Lib.hid hz5
                  have HX5 := Lib.hid hx5
                  have HQ5 := Lib.hid hq5
                  have HR5 := Lib.hid hr5
                  clear hW5 hba hz5 hx5 hq5 hr5 hr2 hb4 hk4 hz4 hx4 ht
                  go_upto_region 15 with fail
                  refine wp_region_lit ?_
                  refine wpList_load_row rfl 36 _ rfl w4.heap.size (by kernel_rfl) 36 #[.int .i64 q.cats, .slice ga2 q.gs.length gc2, .slice ra2 q.rs.length rc2, .slice pa2 q.ps.length qc2, .slice na2 q.ns.length nc2, .slice sa2 q.ss.length sc2, .int .i64 q.gate, .int .i64 q.quota] (0, 0) _ HQ5.out Tryd.underlying36 rfl (by kernel_rfl) ?_
                  refine wpList_store_row rfl 36 (.tmp 4) (.tmp 83) rfl (w.heap.size + 1) #[.int .i64 q.cats, .slice ga2 q.gs.length gc2, .slice ra2 q.rs.length rc2, .slice pa2 q.ps.length qc2, .slice na2 q.ns.length nc2, .slice sa2 q.ss.length sc2, .int .i64 q.gate, .int .i64 q.quota] (by kernel_rfl) (by kernel_rfl) 36 _ HX5.out (by kernel_rfl) rfl (by kernel_rfl) ?_
                  have hbe := below_setRow hb5 (show w.heap.size ≤ w.heap.size + 1 by omega) #[.int .i64 q.cats, .slice ga2 q.gs.length gc2, .slice ra2 q.rs.length rc2, .slice pa2 q.ps.length qc2, .slice na2 q.ns.length nc2, .slice sa2 q.ss.length sc2, .int .i64 q.gate, .int .i64 q.quota]
                  have hx6 := Lib.hid (BoxP.setRow HR5.out HX5.out (by omega))
                  have hz6 := Lib.hid ((setRow_other W5 (w.heap.size + 1) w.heap.size #[.int .i64 q.cats, .slice ga2 q.gs.length gc2, .slice ra2 q.rs.length rc2, .slice pa2 q.ps.length qc2, .slice na2 q.ns.length nc2, .slice sa2 q.ss.length sc2, .int .i64 q.gate, .int .i64 q.quota] (by omega)).trans HZ5.out)
                  go_wp2
                  go_roundw
                  case rel => exact ⟨k + 1, q, r, by omega, by go_num, rfl, by omega, by omega, by omega, by rw [HE.out, HQ.out], by have := HQS.out; omega, ⟨_, _, _, _, _, hx6.out⟩, hz6.out, hbe⟩
                  case measure => simp [intOf]; omega
            · have HE := Lib.hid (HBAD.out fun r' v h => by
                rw [HRC.out, hr] at h
                simp only [valsL_len _ _ hlen] at h
                cases h)
              have b8 : ((m : Int) != ((kf r).length : Int) + 1) = true := by have := HM.out; simp; omega
              clear hr hf
              generalize tb l = tl at hc hsp
              rcases hgood with ⟨b3, b4, b6⟩ | ⟨b3, b4, b6⟩ | ⟨b3, b4, b6, b7⟩
              all_goals
                go_upto_region 11 with (first | (go_at_call 8; refine (hsp _ _ (Nat.le_refl _)).mono ?_; rintro e w2 ⟨v, rfl, hown, hwl, hb2⟩; have HX2 := Lib.hid (HX.out.below hb2); have HZ2 := Lib.hid ((hb2.block _ (by have := HZL.out; omega)).trans HZ.out); have hbw2 := hbel.trans (hb2.mono hbel.size);  obtain ⟨wa, wcap, rfl, _, _, hwrow⟩ := OwnS.row hown; obtain ⟨wad, rfl, hwad, hw0⟩ := head_cell hwrow; have HWR := Lib.hid hwrow; clear hown hwrow; clear hsp hb2) | (go_at_call 33; refine (hrk _).mono ?_; rintro e w3 ⟨rfl, rfl⟩))
                refine wp_region_lit ?_
                refine wpList_load_row rfl 36 _ rfl (w.heap.size + 1) (by kernel_rfl) 36 #[.int .i64 c.cats, .slice ga c.gs.length gc, .slice ra c.rs.length rc, .slice pa c.ps.length qc, .slice na c.ns.length nc, .slice sa c.ss.length sc, .int .i64 c.gate, .int .i64 c.quota] (0, 0) _ HX2.out.box Tryd.underlying36 rfl (by kernel_rfl) ?_
                refine wpList_value rfl (.int .i64 k) (by kernel_rfl) ?_
                refine wpList_value rfl (.int .i64 (IntKind.i64.wrap ((k : Int) + 1))) (by kernel_rfl) ?_
                refine wpList_store_row rfl 36 (.tmp 2) (.tmp 68) rfl w.heap.size #[.int .i64 c.cats, .slice ga c.gs.length gc, .slice ra c.rs.length rc, .slice pa c.ps.length qc, .slice na c.ns.length nc, .slice sa c.ss.length sc, .int .i64 c.gate, .int .i64 c.quota] (by kernel_rfl) (by kernel_rfl) 36 _ HZ2.out (by kernel_rfl) rfl (by kernel_rfl) ?_
                have hrow := Lib.hid (setRow_heap _ w.heap.size _ #[.int .i64 c.cats, .slice ga c.gs.length gc, .slice ra c.rs.length rc, .slice pa c.ps.length qc, .slice na c.ns.length nc, .slice sa c.ss.length sc, .int .i64 c.gate, .int .i64 c.quota] _ _ HZ2.out)
                have hbe := below_setRow hbw2 (Nat.le_refl _) #[.int .i64 c.cats, .slice ga c.gs.length gc, .slice ra c.rs.length rc, .slice pa c.ps.length qc, .slice na c.ns.length nc, .slice sa c.ss.length sc, .int .i64 c.gate, .int .i64 c.quota]
                go_wp2
                exact bodyPost_ret (v := .tuple #[cfgV c (.slice ga c.gs.length gc) (.slice ra c.rs.length rc) (.slice pa c.ps.length qc) (.slice na c.ns.length nc) (.slice sa c.ss.length sc), .int .i64 ((k : Int) + 1)]) (results_ct rfl _ _ w.heap.size _ _ rfl rfl hrow.out (by kernel_rfl)) rfl ⟨linesPost_bad HE.out _ _ _ _ _ _ _ _ _ _ _ _ _ _ _ _ _ _ rfl, hbe⟩
    · obtain rfl : k = n := by omega
      have HE : Hid (o = .inr c) := Lib.hid (HRUN.out.trans (runL_end (by have := HN.out; omega) c lz))
      go_upto_region 17 with fail
      refine wp_region_lit ?_
      refine wpList_load_row rfl 36 _ rfl (w.heap.size + 1) (by kernel_rfl) 36 #[.int .i64 c.cats, .slice ga c.gs.length gc, .slice ra c.rs.length rc, .slice pa c.ps.length qc, .slice na c.ns.length nc, .slice sa c.ss.length sc, .int .i64 c.gate, .int .i64 c.quota] (0, 0) _ HX.out.box Tryd.underlying36 rfl (by kernel_rfl) ?_
      refine wpList_store_row rfl 36 (.tmp 2) (.tmp 85) rfl w.heap.size #[.int .i64 c.cats, .slice ga c.gs.length gc, .slice ra c.rs.length rc, .slice pa c.ps.length qc, .slice na c.ns.length nc, .slice sa c.ss.length sc, .int .i64 c.gate, .int .i64 c.quota] (by kernel_rfl) (by kernel_rfl) 36 _ HZ.out (by kernel_rfl) rfl (by kernel_rfl) ?_
      have hrow := Lib.hid (setRow_heap _ w.heap.size _ #[.int .i64 c.cats, .slice ga c.gs.length gc, .slice ra c.rs.length rc, .slice pa c.ps.length qc, .slice na c.ns.length nc, .slice sa c.ss.length sc, .int .i64 c.gate, .int .i64 c.quota] _ _ HZ.out)
      have hbe := below_setRow hbel (Nat.le_refl _) #[.int .i64 c.cats, .slice ga c.gs.length gc, .slice ra c.rs.length rc, .slice pa c.ps.length qc, .slice na c.ns.length nc, .slice sa c.ss.length sc, .int .i64 c.gate, .int .i64 c.quota]
      have hre := Lib.hid (HX.out.rows.setRow (new := #[.int .i64 c.cats, .slice ga c.gs.length gc, .slice ra c.rs.length rc, .slice pa c.ps.length qc, .slice na c.ns.length nc, .slice sa c.ss.length sc, .int .i64 c.gate, .int .i64 c.quota]) HZ.out)
      go_wp2
      exact bodyPost_ret (v := .tuple #[cfgV c (.slice ga c.gs.length gc) (.slice ra c.rs.length rc) (.slice pa c.ps.length qc) (.slice na c.ns.length nc) (.slice sa c.ss.length sc), .int .i64 0]) (results_ct rfl _ _ w.heap.size _ _ rfl rfl hrow.out (by kernel_rfl)) rfl ⟨linesPost_good HE.out _ _ _ _ _ _ _ _ _ _ _ _ _ _ _ rfl hre.out, hbe⟩
end Go.Proofs.YtikkfapgmbamlaaDoor.Pl
end
