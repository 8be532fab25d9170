/- The walk of hermitagelaw12.CsrBits. -/
import Derived.Test.YtaokaaakofgdoaaUi
namespace Go.Proofs.Ytaokaaakofgdoaa.Cs
open Go.RowKit Ut
set_option maxRecDepth 100000
set_option linter.unusedVariables false
set_option maxHeartbeats 4000000

theorem run_new_words' (w : World) (ρ : Operand → Value) (o : Oper) (ho : o.op = .alloc 48) : (execOp ρ o).run Try.prog w = .ok (.value (.pointer (some ⟨w.heap.size, 0, none⟩))) (w.alloc (.cells (wordsV zer).toArray 48)) := run_new_words w ρ o ho
theorem wordsV_reg (R : List Nat) (k : Nat) (hk : k < R.length) : (wordsV R)[k]? = some (.int .u32 ((R.getD k 0 : Nat) : Int)) := by
  simp [wordsV, wordV, List.getD, hk]
theorem set_same (R : List Nat) (k v : Nat) (hk : k < R.length) : (R.set k v).getD k 0 = v := by
  rw [List.getD_eq_getElem?_getD, List.getElem?_set_self hk]
  rfl
theorem set_other (R : List Nat) (k j v : Nat) (h : k ≠ j) : (R.set k v).getD j 0 = R.getD j 0 := by
  rw [List.getD_eq_getElem?_getD, List.getD_eq_getElem?_getD, List.getElem?_set_ne h]
/-- what a Write to new registers leaves: satp has its own bits, the status its own, others all -/
theorem ini_wr {k v : Nat} (hk : k < 7) (hv : v < 4294967296) : wrR ini (k : Int) v = ini.set k (v &&& maskN k) := by
  unfold wrR
  rw [if_pos (errZ_eq0 rfl (by omega) (by omega)), Int.toNat_natCast]
theorem bits_satp {k v : Nat} (hk : k < 7) (hv : v < 4294967296) : (wrR ini (k : Int) v).getD 0 0 &&& 7937 = (wrR ini (k : Int) v).getD 0 0 := by
  rw [ini_wr hk hv]
  by_cases h : k = 0
  · subst h
    rw [set_same _ _ _ (by decide), Nat.and_assoc]
    rfl
  · rw [set_other _ _ _ _ h]
    rfl

theorem bits_any (n : Int) (v : Nat) (clock : Int) (w : World) (hv : v < 4294967296) :
    Calls Try.prog 6 #[.int .i64 n, .int .u32 (v : Int), .int .i64 clock] w fun e w' => e = .returned (.bool true) ∧ Below w.heap.size w w' := by
  obtain ⟨z, hz⟩ : ∃ z, errZ ini n 7 = z := ⟨_, rfl⟩
  obtain ⟨Q, hQ⟩ : ∃ Q, wrR ini n v = Q := ⟨_, rfl⟩
  have hok : Ok Q := by rw [← hQ]; exact wrR_ok ok_ini n v hv
  have A1 := write_at w.heap.size 3 n v ini z Q hz hQ hv
  have A2 := read_at w.heap.size 3 7 clock ini (clock % 4294967296) 0 (by unfold rdZ; rw [if_pos (by decide)]; rfl) (by decide)
  have A3 := read_at w.heap.size 3 8 clock ini 3 0 (by unfold rdZ; rw [if_pos (by decide)]; rfl) (by decide)
  have HAL := all_at w.heap.size 3 Q (arrV Q) rfl
  have HRUN : Hid (∀ (W : World) (ρ : Operand → Value) (o : Oper), o.op = .alloc 48 → (execOp ρ o).run Try.prog W = .ok (.value (.pointer (some ⟨W.heap.size, 0, none⟩))) (W.alloc (.cells (wordsV zer).toArray 48))) := fun W ρ o ho => run_new_words W ρ o ho
  have HL := Lib.hid hok.len
  have hst := hok.stat
  have hw0 := hok.reg 0
  -- what the tests ask of the registers
  have hmain : (∃ d1 : decide (0 ≤ n) = false, z = 1 ∧ Q = ini) ∨ (∃ d1 : decide (0 ≤ n) = true, decide (n ≤ 6) = false ∧ z = 1 ∧ Q = ini) ∨ (∃ k : Nat, n = (k : Int) ∧ k < 7 ∧ z = 0) := by
    rcases errZ_cases ini n 7 with ⟨h1, h2⟩ | ⟨h1, h0, h2⟩ | ⟨h1, h0, h3, h2⟩ | ⟨h1, h0, h3, h2⟩
    · exact absurd h1 (by decide)
    · exact .inl ⟨by simp; omega, by omega, by rw [← hQ]; exact if_neg (by omega)⟩
    · exact .inr (.inl ⟨by simp; omega, by simp; omega, by omega, by rw [← hQ]; exact if_neg (by omega)⟩)
    · exact .inr (.inr ⟨n.toNat, by omega, by omega, by omega⟩)
  have hq0 : bits .and .u32 ((Q.getD 0 0 : Nat) : Int) 7937 = ((Q.getD 0 0 : Nat) : Int) := by
    have e : Q.getD 0 0 &&& 7937 = Q.getD 0 0 := by
      rcases hmain with ⟨_, _, rfl⟩ | ⟨_, _, _, rfl⟩ | ⟨k, rfl, hk, _⟩
      · rfl
      · rfl
      · rw [← hQ]; exact bits_satp hk hv
    have := u32_and_nat (Q.getD 0 0) 7937 hw0 (by decide)
    rw [e] at this
    exact this
  have hq5 : decide ((15 : Int) < ((Q.getD 5 0 : Nat) : Int)) = false := decide_eq_false (by omega)
  have hreg : ∀ k : Nat, n = (k : Int) → k < 7 → k ≠ 0 → k ≠ 5 → Q.getD k 0 = v := fun k e hk h0 h5 => by
    subst e
    rw [← hQ, ini_wr hk hv, set_same _ _ _ (by show k < 7; exact hk), mask_all h0 h5 hv]
  have HC := Lib.hid (fun (k : Nat) (hk : k < 7) => wordsV_reg Q k (by rw [hok.len]; exact hk))
  have hcs : (z = 1 ∧ decide (0 ≤ n) = false ∧ Q = ini) ∨ (z = 1 ∧ decide (0 ≤ n) = true ∧ decide (n ≤ 6) = false ∧ Q = ini) ∨ ∃ k : Nat, n = (k : Int) ∧ k < 7 ∧ z = 0 ∧ ((k = 0) ∨ (k = 5) ∨ (((k : Int) != 0) = true ∧ ((k : Int) != 5) = true ∧ Q.getD k 0 = v)) := by
    rcases hmain with ⟨d1, h1, h2⟩ | ⟨d1, d2, h1, h2⟩ | ⟨k, rfl, hk, h1⟩
    · exact .inl ⟨h1, d1, h2⟩
    · exact .inr (.inl ⟨h1, d1, d2, h2⟩)
    · refine .inr (.inr ⟨k, rfl, hk, h1, ?_⟩)
      by_cases h0 : k = 0
      · exact .inl h0
      · by_cases h5 : k = 5
        · exact .inr (.inl h5)
        · exact .inr (.inr ⟨by simp; omega, by simp; omega, hreg k rfl hk h0 h5⟩)
  clear hmain hreg hz hQ hok hst hw0
  generalize hx0 : Q.getD 0 0 = x0 at hq0
  generalize hx5 : Q.getD 5 0 = x5 at hq5
  have HX := Lib.hid (And.intro hx0 hx5)
  clear hx0 hx5
  have HCS := Lib.hid hcs
  clear hcs
  go_enter Try.func6, Try.ntmps6
  go_wp2_with fail
  refine (new_yes 3 w (by decide)).mono ?_
  rintro e w1 ⟨rfl, hF, hb⟩
  have HF1 := Lib.hid hF
  have HB1 := Lib.hid hb
  clear hF hb
  go_wp2_with fail
  refine (A1.out w1 HF1.out).mono ?_
  rintro e w2 ⟨rfl, hF, hg⟩
  have HF2 := Lib.hid hF
  have HB2 := Lib.hid (below_of_grown HB1.out hg HB1.out.size (Nat.le_refl _))
  clear hF hg HF1 HB1 A1
  rcases HCS.out with ⟨rfl, d1, hQ⟩ | ⟨rfl, d1, d2, hQ⟩ | ⟨k, rfl, hk, rfl, hck⟩
  all_goals
    clear HCS
    try have hgd : ∀ (x y : Operand) (W : World), (eqGuard .neq 48 x y (arrV Q) (.agg #[.int .u32 0, .int .u32 0, .int .u32 0, .int .u32 0, .int .u32 0, .int .u32 4, .int .u32 0])).run Try.prog W = .ok () W := fun x y W => by rw [hQ]; exact guard_words _ x y ini ini W
    try have hnq : ∀ W : World, (binOp .neq 48 (arrV Q) (.agg #[.int .u32 0, .int .u32 0, .int .u32 0, .int .u32 0, .int .u32 0, .int .u32 4, .int .u32 0])).run Try.prog W = .ok (.bool false) W := fun W => by rw [hQ]; exact bin_neq ini rfl W
    try clear hQ
    try have HK := Lib.hid hck
    try clear hck
    try have d1 : decide ((0 : Int) ≤ (k : Int)) = true := decide_eq_true (by omega)
    try have d2 : decide ((k : Int) ≤ 6) = true := decide_eq_true (by omega)
    try have d3 : (k : Int) < 7 := by omega
    go_wp2_with fail
    refine (HAL.out w2 HF2.out).mono ?_
  all_goals first
    | (have hhh := HK
       clear hhh)
    | (rintro e w2 ⟨rfl, hb⟩
       have HF2 := Lib.hid (HF2.out.below hb HF2.out.1.lt)
       have HB2 := Lib.hid (HB2.out.trans (hb.mono HB2.out.size))
       clear hb
       go_wp2_with fail
       refine (HAL.out w2 HF2.out).mono ?_
       clear hgd hnq)
  all_goals
    rintro e w3 ⟨rfl, hb⟩
    have HF3 := Lib.hid (HF2.out.below hb HF2.out.1.lt)
    have HB3 := Lib.hid (HB2.out.trans (hb.mono HB2.out.size))
    clear hb HF2 HB2
    go_simp
    rename_i hK
    refine hK _ _ ?_
    clear hK
    refine Great.wpList_allocTo rfl (some 10) rfl (.pointer (some ⟨w3.heap.size, 0, none⟩)) (.cells (wordsV zer).toArray 48) (HRUN.out w3 _ _ rfl) ?_
    have hB4 := (Below.refl w3.heap.size w3).alloc (Nat.le_refl _) (.cells (wordsV zer).toArray 48)
    have HN : Hid (Blk (w3.alloc (.cells (wordsV zer).toArray 48)) w3.heap.size 48 (wordsV zer)) := Blk.new w3 _ _
    refine wpList_store_rowTo rfl 48 _ _ rfl rfl w3.heap.size (wordsV Q).toArray (by kernel_rfl) (by kernel_rfl) 48 (wordsV zer).toArray HN.out (by rw [size_words Q HL.out]; simp) (by simp [wordsV, HL.out, zer]) (by simpa using one_words Q) ?_
    have hB5 := below_setRow hB4 (Nat.le_refl _) (wordsV Q).toArray
    have hN5 := HN.out.row (wordsV Q)
    have HF5 := Lib.hid (HF3.out.below hB5 HF3.out.1.lt)
    have HB5 := Lib.hid (HB3.out.trans (hB5.mono HB3.out.size))
    have HN5 := Lib.hid hN5
    clear hB5 hB4 HN hN5 HF3 HB3
    generalize (w3.alloc (.cells (wordsV zer).toArray 48)).setRow w3.heap.size (wordsV Q).toArray = w5 at HF5 HB5 HN5 ⊢
    generalize w3.heap.size = g at HN5 ⊢
    have c0 := HN5.out.cell (HC.out 0 (by decide))
    have c5 := HN5.out.cell (HC.out 5 (by decide))
    rw [HX.out.1] at c0
    rw [HX.out.2] at c5
  all_goals try rcases HK.out with rfl | rfl | ⟨t1, t2, t3⟩
  all_goals try (have ck := HN5.out.cell (HC.out k hk); rw [t3] at ck)
  all_goals
    try clear HK
    try clear t3
    clear HX HC HRUN HN5
    go_wp2_with fail
    refine (reset_any w.heap.size 3 Q w5 HF5.out).mono ?_
    rintro e w6 ⟨rfl, hF, hg⟩
    have HF6 := Lib.hid hF
    have HB6 := Lib.hid (below_of_grown HB5.out hg HB5.out.size (Nat.le_refl _))
    clear hF hg c0 c5 HF5 HB5
    try clear ck
    go_wp2_with fail
    refine (A2.out w6 HF6.out).mono ?_
    rintro e w7 ⟨rfl, hb⟩
    have HF7 := Lib.hid (HF6.out.below hb HF6.out.1.lt)
    have HB7 := Lib.hid (HB6.out.trans (hb.mono HB6.out.size))
    clear hb HF6 HB6
    go_wp2_with fail
    refine (A3.out w7 HF7.out).mono ?_
    rintro e w8 ⟨rfl, hb⟩
    have HB8 := Lib.hid (HB7.out.trans (hb.mono HB7.out.size))
    clear hb HF7 HB7
    go_wp2_with fail
    refine (awake_any w8).mono ?_
    rintro e w9 ⟨rfl, hb⟩
    have HB9 := Lib.hid (HB8.out.trans (hb.mono HB8.out.size))
    clear hb
    go_wp2
    go_ret
    exact ⟨rfl, HB9.out⟩
end Go.Proofs.Ytaokaaakofgdoaa.Cs
