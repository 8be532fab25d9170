/- Several texts in one: Sc -/
import Derived.Test.YtniaclhmfmkikaaGreatDoorZ33
section
/- The walk of hermitagelaw13.CoreAsks: what is no load and no store. -/
namespace Go.Proofs.YtniaclhmfmkikaaGreatDoor.Ex
open Go.RowKit Ut
set_option maxRecDepth 100000
set_option linter.unusedVariables false
set_option maxHeartbeats 4000000

theorem k_not (R : List Int) (p : Int) (Q : List Nat) (i : Nat) (clock o d a b m : Int) (ho : o < 23 ∨ 27 < o) : (exX R p Q i clock o d a b m).E.k ≠ 1 ∧ (exX R p Q i clock o d a b m).E.k ≠ 2 := by
  have ki : ∀ {c : Prop} [Decidable c] {x y : Res}, (x.E.k ≠ 1 ∧ x.E.k ≠ 2) → (y.E.k ≠ 1 ∧ y.E.k ≠ 2) → ((if c then x else y).E.k ≠ 1 ∧ (if c then x else y).E.k ≠ 2) := fun {c} _ {x y} hx hy => by
    by_cases h : c
    · rw [if_pos h]; exact hx
    · rw [if_neg h]; exact hy
  have z0 : ∀ q : Int, q = 0 ∨ q = 3 ∨ q = 4 ∨ q = 5 ∨ q = 6 → q ≠ 1 ∧ q ≠ 2 := fun q h => by omega
  unfold exX
  refine ki (ki (ki ?_ (z0 _ (by simp [stayX]))) ?_) (z0 _ (by simp [stayX]))
  · unfold kernX
    exact ki (z0 _ (by simp [stayX])) <| ki (z0 _ (by simp [stayX])) <| ki (z0 _ (by simp [stayX])) <| ki (z0 _ (by simp [goX])) <| ki (z0 _ (by simp [giveX])) <| ki (z0 _ (by simp [goX])) (z0 _ (by simp [stayX]))
  · unfold userX
    refine ki (z0 _ (by simp [giveX])) <| ki (z0 _ (by simp [giveX])) <| ki (z0 _ (by simp [giveX])) ?_
    rw [if_neg (by omega), if_neg (by omega), if_neg (by omega), if_neg (by omega), if_neg (by omega), if_neg (by omega)]
    exact ki (z0 _ (by simp [goX])) <| ki (z0 _ (by simp [jumpX])) <| ki (z0 _ (by simp [jumpX])) <| ki (z0 _ (by simp [stayX])) (z0 _ (by simp [stayX]))
theorem asks_form (al : Option Addr) (n cap : Nat) (zs : List Int) (pc : Int) (o d a b m : Int) (hv : Is.validB o d a b m = false) (w : World) (hn : n ≤ 9223372036854775807) (hz : RowK .u32 w w.heap.size al n zs) (hzb : ∀ z ∈ zs, 0 ≤ z ∧ z < 4294967296) (hw : Is.HasT w) :
    Calls Tryz.prog 6 #[.slice al n cap, .int .u32 pc, Is.insV o d a b m] w fun e w' => e = .returned (.bool true) ∧ Below w.heap.size w w' := by
  obtain ⟨U, hU⟩ : ∃ U, U = Is.insW o d a b m w := ⟨_, rfl⟩
  have HU := Lib.hid hU
  have HI : Hid (Is.InsAt U w.heap.size o d a b m) := Lib.hid (hU ▸ Is.ins_at o d a b m w)
  have HB0 : Hid (Below w.heap.size w U) := Lib.hid (hU ▸ Is.ins_below o d a b m w)
  have HM : Hid (_) := Lib.hid (made_any al n cap zs pc 4 U hn (by decide) ((hz.below HB0.out).more HB0.out.size) (hw.more HB0.out))
  have HTU := Lib.hid (hw.more HB0.out)
  have hR := ldR_ok hzb n
  have HLEN := Lib.hid (wordR_len hR)
  generalize ldR zs n = R at HM hR HLEN
  obtain ⟨r, hr⟩ : ∃ r, exX R pc (qS 4) 2 0 o d a b m = r := ⟨_, rfl⟩
  have HX := fun rb cb => exec_at (rb := rb) (cb := cb) hR 0 o d a b m r 6 hr (by unfold exZ; rw [hv, if_neg (by decide)])
  clear hU hz hzb hw hn
  go_enter Tryz.func6, Tryz.ntmps6
  go_wp2_with fail
  rw [show w.alloc (.cells #[.int .i64 o, .int .i64 d, .int .i64 a, .int .i64 b, .int .i64 m] 37) = U from HU.out.symm]
  refine HM.out.mono ?_
  rintro e w1 ⟨rb, cb, ab, bb, rfl, hO⟩
  have HO1 := Lib.hid hO
  clear hO HM HU
  go_wp2_with fail
  refine (Rg.all_any rb pc R w1 HO1.out.f.reg).mono ?_
  rintro e w2 ⟨rfl, hb2⟩
  have HO2 := Lib.hid (HO1.out.below hb2)
  clear hb2 HO1
  go_simp
  rename_i hK
  refine hK _ _ ?_
  clear hK
  refine Great.wpList_allocTo rfl (some 11) rfl (.pointer (some ⟨w2.heap.size, 0, none⟩)) (.cells (Rg.wordsV Rg.zer).toArray 40) (Rg.run_new_words w2 _ _ rfl) ?_
  refine wpList_store_rowTo rfl 40 _ _ rfl rfl w2.heap.size (Rg.wordsV R).toArray (by kernel_rfl) (by kernel_rfl) 40 (Rg.wordsV Rg.zer).toArray (Blk.new w2 _ _) (size_old _ HLEN.out) (by simp [Rg.wordsV, HLEN.out, Rg.zer]) (one_old _) ?_
  obtain ⟨hb, hN⟩ := old_put w2 R HLEN.out
  generalize (w2.alloc (.cells (Rg.wordsV Rg.zer).toArray 40)).setRow w2.heap.size (Rg.wordsV R).toArray = w3 at hb hN ⊢
  have HN3 := Lib.hid hN
  have HO3 := Lib.hid (HO2.out.below hb)
  have HNE : Hid (w2.heap.size ∉ [rb, cb]) := Lib.hid (by have := HO2.out.f.lts; simp; omega)
  clear hb hN HO2
  generalize w2.heap.size = ob at HN3 HNE ⊢
  obtain ⟨r0, r1, r2, r3, r4⟩ := (HI.out.below HO3.out.b HI.out.lt).cells
  have hlt := (HI.out.below HO3.out.b HI.out.lt).lt
  go_wp2_with fail
  clear r0 r1 r2 r3 r4 hlt
  refine ((HX rb cb).out w3 HO3.out.f).mono ?_
  rintro e w4 ⟨rfl, hF, hk⟩
  have HO4 := Lib.hid (HO3.out.fexec hF hk)
  have HN4 := Lib.hid (Blk.kp HN3.out hk HNE.out)
  clear hF hk HO3 HN3 HX
  go_simp
  rename_i hK
  refine hK _ _ ?_
  clear hK
  refine Great.wpList_readTo rfl _ rfl (.tuple #[Eff.val r.E, .int .i64 6]) (by kernel_rfl) ?_
  refine Great.wpList_readTo rfl _ rfl (Eff.val r.E) (by kernel_rfl) ?_
  refine Great.wpList_readTo rfl _ rfl (.int .i64 6) (by kernel_rfl) ?_
  refine Great.wpList_allocTo rfl (some 12) rfl (.pointer (some ⟨w4.heap.size, 0, none⟩)) (.cells zeroE.cs.toArray 32) ((eff_run w4).out _ _ rfl) ?_
  refine wpList_store_rowTo rfl 32 _ _ rfl rfl w4.heap.size (Eff.cs r.E).toArray (by kernel_rfl) (by kernel_rfl) 32 zeroE.cs.toArray (Blk.new w4 _ _) (size_eff _) (rfl) (one_eff _) ?_
  obtain ⟨hb, hN⟩ := eff_put w4 r.E
  generalize (w4.alloc (.cells zeroE.cs.toArray 32)).setRow w4.heap.size (Eff.cs r.E).toArray = w5 at hb hN ⊢
  have HE5 := Lib.hid hN
  have HO5 := Lib.hid (HO4.out.below hb)
  have HN5 := Lib.hid (HN4.out.below hb HN4.out.lt)
  clear hb hN HO4 HN4
  generalize w4.heap.size = eb at HE5 ⊢
  obtain ⟨r0, r1, r2, r3, r4⟩ := (HI.out.below HO5.out.b HI.out.lt).cells
  have hlt := (HI.out.below HO5.out.b HI.out.lt).lt
  have hle := HE5.out.lt
  have c0 : w5.cell? ⟨eb, 0, none⟩ = some (.int .i64 r.E.k) := HE5.out.cell rfl
  generalize r.E.k = kk at c0 
  go_wp2_with fail
  refine (awake13_any w5 (HO5.out.f.tab)).mono ?_
  rintro e w6 ⟨rfl, hb⟩
  go_wp2
  go_ret
  exact ⟨rfl, HB0.out.trans ((HO5.out.b.trans (hb.mono HO5.out.b.size)).mono HB0.out.size)⟩
theorem asks_lo (al : Option Addr) (n cap : Nat) (zs : List Int) (pc : Int) (o d a b m : Int) (hv : Is.validB o d a b m = true) (ho : o < 23) (w : World) (hn : n ≤ 9223372036854775807) (hz : RowK .u32 w w.heap.size al n zs) (hzb : ∀ z ∈ zs, 0 ≤ z ∧ z < 4294967296) (hw : Is.HasT w) :
    Calls Tryz.prog 6 #[.slice al n cap, .int .u32 pc, Is.insV o d a b m] w fun e w' => e = .returned (.bool true) ∧ Below w.heap.size w w' := by
  obtain ⟨U, hU⟩ : ∃ U, U = Is.insW o d a b m w := ⟨_, rfl⟩
  have HU := Lib.hid hU
  have HI : Hid (Is.InsAt U w.heap.size o d a b m) := Lib.hid (hU ▸ Is.ins_at o d a b m w)
  have HB0 : Hid (Below w.heap.size w U) := Lib.hid (hU ▸ Is.ins_below o d a b m w)
  have HM : Hid (_) := Lib.hid (made_any al n cap zs pc 4 U hn (by decide) ((hz.below HB0.out).more HB0.out.size) (hw.more HB0.out))
  have HTU := Lib.hid (hw.more HB0.out)
  have hR := ldR_ok hzb n
  have HLEN := Lib.hid (wordR_len hR)
  generalize ldR zs n = R at HM hR HLEN
  obtain ⟨r, hr⟩ : ∃ r, exX R pc (qS 4) 2 0 o d a b m = r := ⟨_, rfl⟩
  have HX := fun rb cb => exec_at (rb := rb) (cb := cb) hR 0 o d a b m r 0 hr (if_pos hv)
  have HKK := Lib.hid (k_not R pc (qS 4) 2 0 o d a b m (by omega))
  rw [hr] at HKK
  have g1 : o < 23 := ho
  clear ho
  clear hU hz hzb hw hn
  go_enter Tryz.func6, Tryz.ntmps6
  go_wp2_with fail
  rw [show w.alloc (.cells #[.int .i64 o, .int .i64 d, .int .i64 a, .int .i64 b, .int .i64 m] 37) = U from HU.out.symm]
  refine HM.out.mono ?_
  rintro e w1 ⟨rb, cb, ab, bb, rfl, hO⟩
  have HO1 := Lib.hid hO
  clear hO HM HU
  go_wp2_with fail
  refine (Rg.all_any rb pc R w1 HO1.out.f.reg).mono ?_
  rintro e w2 ⟨rfl, hb2⟩
  have HO2 := Lib.hid (HO1.out.below hb2)
  clear hb2 HO1
  go_simp
  rename_i hK
  refine hK _ _ ?_
  clear hK
  refine Great.wpList_allocTo rfl (some 11) rfl (.pointer (some ⟨w2.heap.size, 0, none⟩)) (.cells (Rg.wordsV Rg.zer).toArray 40) (Rg.run_new_words w2 _ _ rfl) ?_
  refine wpList_store_rowTo rfl 40 _ _ rfl rfl w2.heap.size (Rg.wordsV R).toArray (by kernel_rfl) (by kernel_rfl) 40 (Rg.wordsV Rg.zer).toArray (Blk.new w2 _ _) (size_old _ HLEN.out) (by simp [Rg.wordsV, HLEN.out, Rg.zer]) (one_old _) ?_
  obtain ⟨hb, hN⟩ := old_put w2 R HLEN.out
  generalize (w2.alloc (.cells (Rg.wordsV Rg.zer).toArray 40)).setRow w2.heap.size (Rg.wordsV R).toArray = w3 at hb hN ⊢
  have HN3 := Lib.hid hN
  have HO3 := Lib.hid (HO2.out.below hb)
  have HNE : Hid (w2.heap.size ∉ [rb, cb]) := Lib.hid (by have := HO2.out.f.lts; simp; omega)
  clear hb hN HO2
  generalize w2.heap.size = ob at HN3 HNE ⊢
  obtain ⟨r0, r1, r2, r3, r4⟩ := (HI.out.below HO3.out.b HI.out.lt).cells
  have hlt := (HI.out.below HO3.out.b HI.out.lt).lt
  go_wp2_with fail
  clear r0 r1 r2 r3 r4 hlt
  refine ((HX rb cb).out w3 HO3.out.f).mono ?_
  rintro e w4 ⟨rfl, hF, hk⟩
  have HO4 := Lib.hid (HO3.out.fexec hF hk)
  have HN4 := Lib.hid (Blk.kp HN3.out hk HNE.out)
  clear hF hk HO3 HN3 HX
  go_simp
  rename_i hK
  refine hK _ _ ?_
  clear hK
  refine Great.wpList_readTo rfl _ rfl (.tuple #[Eff.val r.E, .int .i64 0]) (by kernel_rfl) ?_
  refine Great.wpList_readTo rfl _ rfl (Eff.val r.E) (by kernel_rfl) ?_
  refine Great.wpList_readTo rfl _ rfl (.int .i64 0) (by kernel_rfl) ?_
  refine Great.wpList_allocTo rfl (some 12) rfl (.pointer (some ⟨w4.heap.size, 0, none⟩)) (.cells zeroE.cs.toArray 32) ((eff_run w4).out _ _ rfl) ?_
  refine wpList_store_rowTo rfl 32 _ _ rfl rfl w4.heap.size (Eff.cs r.E).toArray (by kernel_rfl) (by kernel_rfl) 32 zeroE.cs.toArray (Blk.new w4 _ _) (size_eff _) (rfl) (one_eff _) ?_
  obtain ⟨hb, hN⟩ := eff_put w4 r.E
  generalize (w4.alloc (.cells zeroE.cs.toArray 32)).setRow w4.heap.size (Eff.cs r.E).toArray = w5 at hb hN ⊢
  have HE5 := Lib.hid hN
  have HO5 := Lib.hid (HO4.out.below hb)
  have HN5 := Lib.hid (HN4.out.below hb HN4.out.lt)
  clear hb hN HO4 HN4
  generalize w4.heap.size = eb at HE5 ⊢
  obtain ⟨r0, r1, r2, r3, r4⟩ := (HI.out.below HO5.out.b HI.out.lt).cells
  have hlt := (HI.out.below HO5.out.b HI.out.lt).lt
  have hle := HE5.out.lt
  have c0 : w5.cell? ⟨eb, 0, none⟩ = some (.int .i64 r.E.k) := HE5.out.cell rfl
  generalize r.E.k = kk at c0 HKK
  obtain ⟨k1, k2⟩ := HKK.out
  have k1' : (kk != 1) = true := by simpa using k1
  have k2' : (kk != 2) = true := by simpa using k2
  clear k1 k2
  go_wp2_with fail
  refine (awake13_any w5 (HO5.out.f.tab)).mono ?_
  rintro e w6 ⟨rfl, hb⟩
  go_wp2
  go_ret
  exact ⟨rfl, HB0.out.trans ((HO5.out.b.trans (hb.mono HO5.out.b.size)).mono HB0.out.size)⟩
theorem asks_hi (al : Option Addr) (n cap : Nat) (zs : List Int) (pc : Int) (o d a b m : Int) (hv : Is.validB o d a b m = true) (ho : 27 < o) (w : World) (hn : n ≤ 9223372036854775807) (hz : RowK .u32 w w.heap.size al n zs) (hzb : ∀ z ∈ zs, 0 ≤ z ∧ z < 4294967296) (hw : Is.HasT w) :
    Calls Tryz.prog 6 #[.slice al n cap, .int .u32 pc, Is.insV o d a b m] w fun e w' => e = .returned (.bool true) ∧ Below w.heap.size w w' := by
  obtain ⟨U, hU⟩ : ∃ U, U = Is.insW o d a b m w := ⟨_, rfl⟩
  have HU := Lib.hid hU
  have HI : Hid (Is.InsAt U w.heap.size o d a b m) := Lib.hid (hU ▸ Is.ins_at o d a b m w)
  have HB0 : Hid (Below w.heap.size w U) := Lib.hid (hU ▸ Is.ins_below o d a b m w)
  have HM : Hid (_) := Lib.hid (made_any al n cap zs pc 4 U hn (by decide) ((hz.below HB0.out).more HB0.out.size) (hw.more HB0.out))
  have HTU := Lib.hid (hw.more HB0.out)
  have hR := ldR_ok hzb n
  have HLEN := Lib.hid (wordR_len hR)
  generalize ldR zs n = R at HM hR HLEN
  obtain ⟨r, hr⟩ : ∃ r, exX R pc (qS 4) 2 0 o d a b m = r := ⟨_, rfl⟩
  have HX := fun rb cb => exec_at (rb := rb) (cb := cb) hR 0 o d a b m r 0 hr (if_pos hv)
  have HKK := Lib.hid (k_not R pc (qS 4) 2 0 o d a b m (by omega))
  rw [hr] at HKK
  have g1 : ¬ o < 23 := by omega
  have g2 : 27 < o := ho
  clear ho
  clear hU hz hzb hw hn
  go_enter Tryz.func6, Tryz.ntmps6
  go_wp2_with fail
  rw [show w.alloc (.cells #[.int .i64 o, .int .i64 d, .int .i64 a, .int .i64 b, .int .i64 m] 37) = U from HU.out.symm]
  refine HM.out.mono ?_
  rintro e w1 ⟨rb, cb, ab, bb, rfl, hO⟩
  have HO1 := Lib.hid hO
  clear hO HM HU
  go_wp2_with fail
  refine (Rg.all_any rb pc R w1 HO1.out.f.reg).mono ?_
  rintro e w2 ⟨rfl, hb2⟩
  have HO2 := Lib.hid (HO1.out.below hb2)
  clear hb2 HO1
  go_simp
  rename_i hK
  refine hK _ _ ?_
  clear hK
  refine Great.wpList_allocTo rfl (some 11) rfl (.pointer (some ⟨w2.heap.size, 0, none⟩)) (.cells (Rg.wordsV Rg.zer).toArray 40) (Rg.run_new_words w2 _ _ rfl) ?_
  refine wpList_store_rowTo rfl 40 _ _ rfl rfl w2.heap.size (Rg.wordsV R).toArray (by kernel_rfl) (by kernel_rfl) 40 (Rg.wordsV Rg.zer).toArray (Blk.new w2 _ _) (size_old _ HLEN.out) (by simp [Rg.wordsV, HLEN.out, Rg.zer]) (one_old _) ?_
  obtain ⟨hb, hN⟩ := old_put w2 R HLEN.out
  generalize (w2.alloc (.cells (Rg.wordsV Rg.zer).toArray 40)).setRow w2.heap.size (Rg.wordsV R).toArray = w3 at hb hN ⊢
  have HN3 := Lib.hid hN
  have HO3 := Lib.hid (HO2.out.below hb)
  have HNE : Hid (w2.heap.size ∉ [rb, cb]) := Lib.hid (by have := HO2.out.f.lts; simp; omega)
  clear hb hN HO2
  generalize w2.heap.size = ob at HN3 HNE ⊢
  obtain ⟨r0, r1, r2, r3, r4⟩ := (HI.out.below HO3.out.b HI.out.lt).cells
  have hlt := (HI.out.below HO3.out.b HI.out.lt).lt
  go_wp2_with fail
  clear r0 r1 r2 r3 r4 hlt
  refine ((HX rb cb).out w3 HO3.out.f).mono ?_
  rintro e w4 ⟨rfl, hF, hk⟩
  have HO4 := Lib.hid (HO3.out.fexec hF hk)
  have HN4 := Lib.hid (Blk.kp HN3.out hk HNE.out)
  clear hF hk HO3 HN3 HX
  go_simp
  rename_i hK
  refine hK _ _ ?_
  clear hK
  refine Great.wpList_readTo rfl _ rfl (.tuple #[Eff.val r.E, .int .i64 0]) (by kernel_rfl) ?_
  refine Great.wpList_readTo rfl _ rfl (Eff.val r.E) (by kernel_rfl) ?_
  refine Great.wpList_readTo rfl _ rfl (.int .i64 0) (by kernel_rfl) ?_
  refine Great.wpList_allocTo rfl (some 12) rfl (.pointer (some ⟨w4.heap.size, 0, none⟩)) (.cells zeroE.cs.toArray 32) ((eff_run w4).out _ _ rfl) ?_
  refine wpList_store_rowTo rfl 32 _ _ rfl rfl w4.heap.size (Eff.cs r.E).toArray (by kernel_rfl) (by kernel_rfl) 32 zeroE.cs.toArray (Blk.new w4 _ _) (size_eff _) (rfl) (one_eff _) ?_
  obtain ⟨hb, hN⟩ := eff_put w4 r.E
  generalize (w4.alloc (.cells zeroE.cs.toArray 32)).setRow w4.heap.size (Eff.cs r.E).toArray = w5 at hb hN ⊢
  have HE5 := Lib.hid hN
  have HO5 := Lib.hid (HO4.out.below hb)
  have HN5 := Lib.hid (HN4.out.below hb HN4.out.lt)
  clear hb hN HO4 HN4
  generalize w4.heap.size = eb at HE5 ⊢
  obtain ⟨r0, r1, r2, r3, r4⟩ := (HI.out.below HO5.out.b HI.out.lt).cells
  have hlt := (HI.out.below HO5.out.b HI.out.lt).lt
  have hle := HE5.out.lt
  have c0 : w5.cell? ⟨eb, 0, none⟩ = some (.int .i64 r.E.k) := HE5.out.cell rfl
  generalize r.E.k = kk at c0 HKK
  obtain ⟨k1, k2⟩ := HKK.out
  have k1' : (kk != 1) = true := by simpa using k1
  have k2' : (kk != 2) = true := by simpa using k2
  clear k1 k2
  go_wp2_with fail
  refine (awake13_any w5 (HO5.out.f.tab)).mono ?_
  rintro e w6 ⟨rfl, hb⟩
  go_wp2
  go_ret
  exact ⟨rfl, HB0.out.trans ((HO5.out.b.trans (hb.mono HO5.out.b.size)).mono HB0.out.size)⟩
end Go.Proofs.YtniaclhmfmkikaaGreatDoor.Ex
end
