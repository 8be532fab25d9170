/- Several texts in one: Cg Ch -/
import Derived.Test.YtikkfapgmbamlaaGreatDoorZ23
section
/- isWrongRange, frames; a configuration in a block; the closures that Check asks, one by one. -/
namespace Go.Proofs.YtikkfapgmbamlaaGreatDoor.Cf
open Go.RowKit Ut
set_option maxRecDepth 100000
set_option linter.unusedVariables false

theorem secs_okay (c : Cfg) : ∀ k, Pt.Okay (secs c k)
  | 0 => Pt.rep_okay 32 (by omega)
  | k + 1 => (Pt.giveL_okay (secs_okay c k) _ _ _).1
theorem wrongR_cases (c : Cfg) (i : Nat) : (La.validB (c.R i 0) c.cats = false ∧ wrongR c i = true) ∨ (La.validB (c.R i 0) c.cats = true ∧ ∃ e : Int, Pt.giveE (secs c i) (c.R i 1) (c.R i 2) i = e ∧ ((e ≠ 0 ∧ wrongR c i = true) ∨ (e = 0 ∧ wrongR c i = false))) := by
  unfold wrongR
  cases h1 : La.validB (c.R i 0) c.cats
  · simp
  · refine .inr ⟨rfl, _, rfl, ?_⟩
    by_cases h : Pt.giveE (secs c i) (c.R i 1) (c.R i 2) i = 0
    · exact .inr ⟨h, by simp [h]⟩
    · exact .inl ⟨h, by simp [h]⟩
/-- what becomes of the sectors' table where range i is asked about -/
def RangePost (c : Cfg) (i bt : Nat) (w w' : World) : Prop := w.grownBy w' (some bt) ∧ (wrongR c i = false → Pt.Tab w' bt (secs c (i + 1)))

set_option maxRecDepth 100000 in
theorem wrongRange_any (c : Cfg) (i bt B : Nat) (w : World) (hB : B ≤ w.heap.size) (hc : c.At w B) (hi : i < c.rn) (hT : Pt.Tab w bt (secs c i)) :
    Calls Tryz.prog 37 #[c.v, .int .i64 i, .pointer (some ⟨bt, 0, none⟩)] w fun e w' => e = .returned (.bool (wrongR c i)) ∧ RangePost c i bt w w' := by
  have hbt : bt < w.heap.size := by obtain ⟨q, hq⟩ := hT.block; exact (Array.getElem?_eq_some_iff.1 hq).1
  have hcs := wrongR_cases c i
  have hbd := hc.r.bd i 2 hi (by omega)
  have hAA : ∀ o o' : Obj, Below w.heap.size w ((w.alloc o).alloc o') := fun o o' => ((Below.refl _ _).alloc (Nat.le_refl _) _).alloc (by simp) _
  have HA := Lib.hid hAA
  clear hAA
  have HT : Hid (∀ W, Below w.heap.size w W → Calls Tryz.prog 66 #[.pointer (some ⟨bt, 0, none⟩), .int .i64 (c.R i 1), .int .i64 (c.R i 2), .int .i64 i] W fun e W' => e = .returned (.int .i64 (Pt.giveE (secs c i) (c.R i 1) (c.R i 2) i)) ∧ Hid (Pt.Tab W' bt (secs c (i + 1))) ∧ Hid (W.grownBy W' (some bt))) :=
    Lib.hid fun W hW => (Pt.tab_give (hT.below hW) (secs_okay c i) (c.R i 1) (c.R i 2) i hbd).mono fun e W' ⟨he, h1, h2⟩ => ⟨he, Lib.hid h1, Lib.hid h2⟩
  clear hT
  obtain ⟨PR, hPR⟩ : ∃ PR, PR = RangePost c i bt w := ⟨_, rfl⟩
  have HPR : Hid (∀ w', w.grownBy w' (some bt) → (wrongR c i = false → Pt.Tab w' bt (secs c (i + 1))) → PR w') := Lib.hid fun w' h1 h2 => by rw [hPR]; exact ⟨h1, h2⟩
  rw [← hPR]
  clear hPR
  obtain ⟨r, hr⟩ : ∃ r, r = wrongR c i := ⟨_, rfl⟩
  rw [← hr] at hcs ⊢
  rw [← hr] at HPR
  clear hr
  obtain ⟨TT, hTT⟩ : ∃ TT : World → Prop, TT = fun w' => Pt.Tab w' bt (secs c (i + 1)) := ⟨_, rfl⟩
  have HT2 : Hid (∀ W, Below w.heap.size w W → Calls Tryz.prog 66 #[.pointer (some ⟨bt, 0, none⟩), .int .i64 (c.R i 1), .int .i64 (c.R i 2), .int .i64 i] W fun e W' => e = .returned (.int .i64 (Pt.giveE (secs c i) (c.R i 1) (c.R i 2) i)) ∧ Hid (TT W') ∧ Hid (W.grownBy W' (some bt))) := Lib.hid (by rw [hTT]; exact HT.out)
  have HPR2 : Hid (∀ w', w.grownBy w' (some bt) → (r = false → TT w') → PR w') := Lib.hid (by rw [hTT]; exact HPR.out)
  clear HT HPR hTT
  obtain ⟨ge, hge⟩ : ∃ ge, ge = Pt.giveE (secs c i) (c.R i 1) (c.R i 2) i := ⟨_, rfl⟩
  rw [← hge] at hcs HT2
  clear hge
  have hl := hc.lr
  have hg := hc.r
  clear hc
  obtain ⟨cats, ga, gn, gc, ra, rn, rc, pa, pn, pc, na, nn, nc, sa, sn, sc, gate, quota, G, R, P, N, S⟩ := c
  dsimp only at hcs hl hi hg HT2 hbd
  obtain ⟨x, rfl, hx, c0, c1, c2⟩ := hg.at3 i hi
  have b0 : (0 : Int) ≤ (i : Int) := by omega
  have b1 : (i : Int) < (rn : Int) := by omega
  clear hg
  have hy : (x.add (i * 3)).block < w.heap.size := by rw [block_of_add]; omega
  rcases hcs with ⟨h1, rfl⟩ | ⟨h1, e, rfl, hres⟩
  · go_enter Tryz.func37, Tryz.ntmps37
    go_wp2_with fail
    refine (La.valid_gen _ _ _).mono ?_
    rintro e w1 ⟨rfl, rfl⟩
    go_wp2
    go_ret
    exact ⟨rfl, HPR2.out _ (Pt.grownBy_of_below _ (HA.out _ _)) (fun h => by cases h)⟩
  · have hgb : (ge != 0) = r := by
      rcases hres with ⟨h, rfl⟩ | ⟨h, rfl⟩
      · simpa using h
      · simp [h]
    clear hres
    cases r
    all_goals
      go_enter Tryz.func37, Tryz.ntmps37
      go_wp2_with fail
      refine (La.valid_gen _ _ _).mono ?_
      rintro e w1 ⟨rfl, rfl⟩
      go_wp2_with fail
      refine (HT2.out _ (HA.out _ _)).mono ?_
      rintro e w2 ⟨rfl, hT3, hg3⟩
      go_wp2
      go_ret
      exact ⟨rfl, HPR2.out _ (Pt.grownBy_trans (Pt.grownBy_of_below _ (HA.out _ _)) hg3.out) (fun _ => hT3.out)⟩

set_option maxRecDepth 100000 in
theorem frames_any (c : Cfg) (B : Nat) (w : World) (hB : B ≤ w.heap.size) (hc : c.At w B) (hn : c.gn ≤ 4) (hs : Small c.G c.gn) :
    Calls Tryz.prog 50 #[c.v] w fun e w' => e = .returned (.int .i64 (need c)) ∧ Below w.heap.size w w' := by
  have HF : Hid (∀ W, Below w.heap.size w W → Calls Tryz.prog 70 #[.slice c.ga c.gn c.gc] W fun e w' => e = .returned (.int .i64 (sumG c.G c.gn)) ∧ Below W.heap.size W w') := Lib.hid fun W hW => framesOf_any c.ga c.gn c.gc B c.G W (by have := hW.size; omega) (hc.g.below (hW.mono hB)) hn hs
  have hbd := sumG_bd hs c.gn (Nat.le_refl _)
  have hl := hc.ln
  have HN : Hid (need c = sumG c.G c.gn + c.nn) := Lib.hid rfl
  clear hs hc
  obtain ⟨nd, hnd⟩ : ∃ nd, nd = need c := ⟨_, rfl⟩
  rw [← hnd] at HN ⊢
  clear hnd
  obtain ⟨sm, hsm⟩ : ∃ sm, sm = sumG c.G c.gn := ⟨_, rfl⟩
  rw [← hsm] at HN HF hbd
  clear hsm
  obtain ⟨cats, ga, gn, gc, ra, rn, rc, pa, pn, pc, na, nn, nc, sa, sn, sc, gate, quota, G, R, P, N, S⟩ := c
  dsimp only at HF HN hl hbd hn
  have hw : IntKind.i64.wrap (sm + (nn : Int)) = sm + (nn : Int) := IntWalk.i64_in _ (by omega)
  have hb1 : ∀ o : Obj, Below w.heap.size w (w.alloc o) := fun o => (Below.refl _ _).alloc (Nat.le_refl _) _
  have HB := Lib.hid hb1
  clear hb1
  go_enter Tryz.func50, Tryz.ntmps50
  go_wp2
  have hbw := HB.out (.cells #[.int .i64 cats, .slice ga gn gc, .slice ra rn rc, .slice pa pn pc, .slice na nn nc, .slice sa sn sc, .int .i64 gate, .int .i64 quota] 28)
  obtain ⟨w1, hw1⟩ : ∃ w1, w1 = w.alloc (.cells #[.int .i64 cats, .slice ga gn gc, .slice ra rn rc, .slice pa pn pc, .slice na nn nc, .slice sa sn sc, .int .i64 gate, .int .i64 quota] 28) := ⟨_, rfl⟩
  have d1 : w1.cell? ⟨w.heap.size, 1, none⟩ = some (.slice ga gn gc) := by rw [hw1]; simp
  have d4 : w1.cell? ⟨w.heap.size, 4, none⟩ = some (.slice na nn nc) := by rw [hw1]; simp
  have s1 : w.heap.size < w1.heap.size := by rw [hw1]; simp
  rw [← hw1] at hbw ⊢
  clear hw1
  apply wp_region_auto [3, 4, 5, 6, 7, 8, 9] [_, _, _, _, _, _, _] (fun W' => Below w1.heap.size w1 W')
  case hm => kernel_rfl
  case hT => intro y; simp only [setAll, List.setIfInBounds_toArray, List.set_cons_succ, List.set_cons_zero]; exact rfl
  case hok => kernel_rfl
  case hn => decide
  case hw => exact (Below.refl _ _).drew
  case hs =>
    refine auto_op 3 [] (by kernel_rfl) (fun y w' HW hd K hK => ?_) ?_
    · go_simp
      refine hK _ _ ?_ ?_ HW
      · simp [upd]
      · exact rfl
    refine auto_op 4 [0] (by kernel_rfl) (fun y w' HW hd K hK => ?_) ?_
    · have e0 := hd_nth (hd 0 (by simp)) rfl
      have hcl : ∀ p : Addr, p.block < w1.heap.size → w'.cell? p = w1.cell? p := fun p hp => HW.cell hp
      go_simp
      refine hK _ _ ?_ ?_ HW
      · simp [upd, e0]
      · exact rfl
    refine auto_op 5 [1] (by kernel_rfl) (fun y w' HW hd K hK => ?_) ?_
    · have e1 := hd_nth (hd 1 (by simp)) rfl
      go_simp
      refine (HF.out _ (hbw.trans (HW.mono hbw.size))).mono ?_
      rintro e w3 ⟨rfl, hb3⟩
      refine hK _ _ ?_ ?_ (HW.trans (hb3.mono HW.size))
      · simp [upd, e1]
      · exact rfl
    refine auto_op 6 [] (by kernel_rfl) (fun y w' HW hd K hK => ?_) ?_
    · go_simp
      refine hK _ _ ?_ ?_ HW
      · simp [upd]
      · exact rfl
    refine auto_op 7 [3] (by kernel_rfl) (fun y w' HW hd K hK => ?_) ?_
    · have e3 := hd_nth (hd 3 (by simp)) rfl
      have hcl : ∀ p : Addr, p.block < w1.heap.size → w'.cell? p = w1.cell? p := fun p hp => HW.cell hp
      go_simp
      refine hK _ _ ?_ ?_ HW
      · simp [upd, e3]
      · exact rfl
    refine auto_op 8 [4] (by kernel_rfl) (fun y w' HW hd K hK => ?_) ?_
    · have e4 := hd_nth (hd 4 (by simp)) rfl
      go_simp
      refine hK _ _ ?_ ?_ HW
      · simp [upd, e4]
      · exact rfl
    refine auto_op 9 [2, 5] (by kernel_rfl) (fun y w' HW hd K hK => ?_) ?_
    · have e2 := hd_nth (hd 2 (by simp)) rfl
      have e5 := hd_nth (hd 5 (by simp)) rfl
      go_simp
      refine hK _ _ ?_ ?_ HW
      · simp [upd, e2, e5]
      · exact rfl
    refine auto_last fun y w' HW hd K hK => ?_
    have e0 := hd_nth (hd 0 (by omega)) rfl
    have e1 := hd_nth (hd 1 (by omega)) rfl
    have e2 := hd_nth (hd 2 (by omega)) rfl
    have e3 := hd_nth (hd 3 (by omega)) rfl
    have e4 := hd_nth (hd 4 (by omega)) rfl
    have e5 := hd_nth (hd 5 (by omega)) rfl
    have e6 := hd_nth (hd 6 (by omega)) rfl
    go_simp
    refine hK _ _ ?_
    clear hd hK K e0 e1 e2 e3 e4 e5 e6
    go_wp2
    go_ret
    exact ⟨by rw [HN.out]; rfl, hbw.trans (HW.mono hbw.size)⟩

/-- block b holds the configuration -/
def BoxC (W : World) (b : Nat) (c : Cfg) : Prop := W.heap[b]? = some (.cells c.cs 28 (0, 0))
theorem BoxC.lt {W : World} {b : Nat} {c : Cfg} (h : BoxC W b c) : b < W.heap.size := (Array.getElem?_eq_some_iff.1 h).1
theorem BoxC.cells {W : World} {b : Nat} {c : Cfg} (h : BoxC W b c) : W.cell? ⟨b, 0, none⟩ = some (.int .i64 c.cats) ∧ W.cell? ⟨b, 1, none⟩ = some (.slice c.ga c.gn c.gc) ∧ W.cell? ⟨b, 2, none⟩ = some (.slice c.ra c.rn c.rc) ∧ W.cell? ⟨b, 3, none⟩ = some (.slice c.pa c.pn c.pc) ∧
    W.cell? ⟨b, 4, none⟩ = some (.slice c.na c.nn c.nc) ∧ W.cell? ⟨b, 5, none⟩ = some (.slice c.sa c.sn c.sc) ∧ W.cell? ⟨b, 6, none⟩ = some (.int .i64 c.gate) ∧ W.cell? ⟨b, 7, none⟩ = some (.int .i64 c.quota) := by
  unfold BoxC at h
  refine ⟨?_, ?_, ?_, ?_, ?_, ?_, ?_, ?_⟩ <;> simp [World.cell?, h]
theorem BoxC.kept {W W' : World} {b : Nat} {c : Cfg} {row : Option Nat} (h : BoxC W b c) (hg : W.grownBy W' row) (hr : ∀ q, row = some q → q ≠ b) : BoxC W' b c :=
  (hg.block b h.lt (fun e => hr b e.symm rfl)).trans h
theorem BoxC.below {W W' : World} {b : Nat} {c : Cfg} (h : BoxC W b c) (hb : Below W.heap.size W W') : BoxC W' b c := (hb.block b h.lt).trans h
end Go.Proofs.YtikkfapgmbamlaaGreatDoor.Cf
end
section
/- The closures that config.Check asks, one by one: what each answers. -/
namespace Go.Proofs.YtikkfapgmbamlaaGreatDoor.Cf
open Go.RowKit Ut
set_option maxRecDepth 100000
set_option linter.unusedVariables false

/-- how many places rule j asks -/
def cntR (c : Cfg) (j : Nat) : Nat := match j with
  | 2 => c.gn
  | 4 => c.rn
  | 6 => c.pn
  | 8 => c.nn
  | 10 => c.sn
  | _ => 1
/-- what rule j finds wrong at place i -/
def wrR (c : Cfg) (j i : Nat) : Bool := match j with
  | 0 => !inB c.cats 0 8
  | 1 => !inB c.gn 1 4
  | 2 => wrongG c i
  | 3 => decide (8 < (c.rn : Int))
  | 4 => wrongR c i
  | 5 => decide (8 < (c.pn : Int))
  | 6 => wrongP c i
  | 7 => decide (4 < (c.nn : Int))
  | 8 => wrongN c i
  | 9 => !inB c.sn 1 8
  | 10 => wrongS c i
  | 11 => wrongGate c
  | _ => decide (32 < need c)
def errR (j : Nat) : Int := match j with
  | 0 => 12
  | 1 => 13
  | 2 => 13
  | 3 => 14
  | 4 => 14
  | 5 => 15
  | 6 => 15
  | 7 => 16
  | 8 => 16
  | 9 => 17
  | 10 => 17
  | 11 => 18
  | _ => 19
theorem dec_int (a b : Int) : (if a < b then true else false) = decide (a < b) := by by_cases h : a < b <;> simp [h]

theorem clos0_any (c : Cfg) (i bc B : Nat) (w : World) (hB : B ≤ w.heap.size) (hc : c.At w B) (hx : BoxC w bc c) :
    Calls Tryz.prog 30 #[.int .i64 i, .pointer (some ⟨bc, 0, none⟩)] w fun e w' => e = .returned (.bool (wrR c 0 i)) ∧ Below w.heap.size w w' := by
  obtain ⟨k0, k1, k2, k3, k4, k5, k6, k7⟩ := hx.cells
  obtain ⟨r, hr⟩ : ∃ r, r = inB (c.cats) 0 8 := ⟨_, rfl⟩
  have HV : Hid (∀ W : World, Calls Tryz.prog 31 #[.int .i64 (c.cats), .int .i64 0, .int .i64 8] W fun e w' => e = .returned (.bool r) ∧ W = w') := Lib.hid fun W => by rw [hr]; exact within_any _ _ _ _
  have HR : Hid (wrR c 0 i = !r) := Lib.hid (by rw [hr]; rfl)
  obtain ⟨q, hq⟩ : ∃ q, q = wrR c 0 i := ⟨_, rfl⟩
  rw [← hq] at HR ⊢
  clear hr hq hc hx
  clear k1
  clear k2
  clear k3
  clear k4
  clear k5
  clear k6
  clear k7
  go_enter Tryz.func30, Tryz.ntmps30
  go_wp2_with fail
  refine (HV.out _).mono ?_
  rintro e w1 ⟨rfl, rfl⟩
  go_wp2
  go_ret
  exact ⟨by rw [HR.out]; rfl, Below.refl _ _⟩

theorem clos1_any (c : Cfg) (i bc B : Nat) (w : World) (hB : B ≤ w.heap.size) (hc : c.At w B) (hx : BoxC w bc c) :
    Calls Tryz.prog 32 #[.int .i64 i, .pointer (some ⟨bc, 0, none⟩)] w fun e w' => e = .returned (.bool (wrR c 1 i)) ∧ Below w.heap.size w w' := by
  obtain ⟨k0, k1, k2, k3, k4, k5, k6, k7⟩ := hx.cells
  obtain ⟨r, hr⟩ : ∃ r, r = inB ((c.gn : Int)) 1 4 := ⟨_, rfl⟩
  have HV : Hid (∀ W : World, Calls Tryz.prog 31 #[.int .i64 ((c.gn : Int)), .int .i64 1, .int .i64 4] W fun e w' => e = .returned (.bool r) ∧ W = w') := Lib.hid fun W => by rw [hr]; exact within_any _ _ _ _
  have HR : Hid (wrR c 1 i = !r) := Lib.hid (by rw [hr]; rfl)
  obtain ⟨q, hq⟩ : ∃ q, q = wrR c 1 i := ⟨_, rfl⟩
  rw [← hq] at HR ⊢
  clear hr hq hc hx
  clear k0
  clear k2
  clear k3
  clear k4
  clear k5
  clear k6
  clear k7
  go_enter Tryz.func32, Tryz.ntmps32
  go_wp2_with fail
  refine (HV.out _).mono ?_
  rintro e w1 ⟨rfl, rfl⟩
  go_wp2
  go_ret
  exact ⟨by rw [HR.out]; rfl, Below.refl _ _⟩

theorem clos2_any (c : Cfg) (i bc B : Nat) (w : World) (hB : B ≤ w.heap.size) (hc : c.At w B) (hx : BoxC w bc c) (hi : i < c.gn) :
    Calls Tryz.prog 33 #[.int .i64 i, .pointer (some ⟨bc, 0, none⟩)] w fun e w' => e = .returned (.bool (wrR c 2 i)) ∧ Below w.heap.size w w' := by
  obtain ⟨k0, k1, k2, k3, k4, k5, k6, k7⟩ := hx.cells
  have HC : Hid (∀ W : World, w = W → Calls Tryz.prog 34 #[c.v, .int .i64 i] W fun e w' => e = .returned (.bool (wrR c 2 i)) ∧ Below W.heap.size W w') := Lib.hid fun W hW => by subst hW; exact wrongGuest_any c i B w hB hc hi
  obtain ⟨q, hq⟩ : ∃ q, q = wrR c 2 i := ⟨_, rfl⟩
  rw [← hq] at HC ⊢
  clear hq hc hx
  go_enter Tryz.func33, Tryz.ntmps33
  go_wp2_with fail
  refine (HC.out _ rfl).mono ?_
  rintro e w1 ⟨rfl, hb⟩
  go_wp2
  go_ret
  exact ⟨rfl, hb⟩

theorem clos3_any (c : Cfg) (i bc B : Nat) (w : World) (hB : B ≤ w.heap.size) (hc : c.At w B) (hx : BoxC w bc c) :
    Calls Tryz.prog 35 #[.int .i64 i, .pointer (some ⟨bc, 0, none⟩)] w fun e w' => e = .returned (.bool (wrR c 3 i)) ∧ Below w.heap.size w w' := by
  obtain ⟨k0, k1, k2, k3, k4, k5, k6, k7⟩ := hx.cells
  have HR : Hid (wrR c 3 i = decide (8 < (c.rn : Int))) := Lib.hid rfl
  obtain ⟨q, hq⟩ : ∃ q, q = wrR c 3 i := ⟨_, rfl⟩
  rw [← hq] at HR ⊢
  clear hq hc hx
  clear k0
  clear k1
  clear k3
  clear k4
  clear k5
  clear k6
  clear k7
  obtain ⟨n, hn⟩ : ∃ n, n = c.rn := ⟨_, rfl⟩
  rw [← hn] at HR k2
  clear hn
  by_cases h : 8 < (n : Int)
  · obtain rfl : q = true := by rw [HR.out]; simpa using h
    clear HR
    go_enter Tryz.func35, Tryz.ntmps35
    go_wp2
    go_ret
    exact ⟨rfl, Below.refl _ _⟩
  · obtain rfl : q = false := by rw [HR.out]; simpa using h
    clear HR
    go_enter Tryz.func35, Tryz.ntmps35
    go_wp2
    go_ret
    exact ⟨rfl, Below.refl _ _⟩

theorem clos5_any (c : Cfg) (i bc B : Nat) (w : World) (hB : B ≤ w.heap.size) (hc : c.At w B) (hx : BoxC w bc c) :
    Calls Tryz.prog 38 #[.int .i64 i, .pointer (some ⟨bc, 0, none⟩)] w fun e w' => e = .returned (.bool (wrR c 5 i)) ∧ Below w.heap.size w w' := by
  obtain ⟨k0, k1, k2, k3, k4, k5, k6, k7⟩ := hx.cells
  have HR : Hid (wrR c 5 i = decide (8 < (c.pn : Int))) := Lib.hid rfl
  obtain ⟨q, hq⟩ : ∃ q, q = wrR c 5 i := ⟨_, rfl⟩
  rw [← hq] at HR ⊢
  clear hq hc hx
  clear k0
  clear k1
  clear k2
  clear k4
  clear k5
  clear k6
  clear k7
  obtain ⟨n, hn⟩ : ∃ n, n = c.pn := ⟨_, rfl⟩
  rw [← hn] at HR k3
  clear hn
  by_cases h : 8 < (n : Int)
  · obtain rfl : q = true := by rw [HR.out]; simpa using h
    clear HR
    go_enter Tryz.func38, Tryz.ntmps38
    go_wp2
    go_ret
    exact ⟨rfl, Below.refl _ _⟩
  · obtain rfl : q = false := by rw [HR.out]; simpa using h
    clear HR
    go_enter Tryz.func38, Tryz.ntmps38
    go_wp2
    go_ret
    exact ⟨rfl, Below.refl _ _⟩

theorem clos6_any (c : Cfg) (i bc B : Nat) (w : World) (hB : B ≤ w.heap.size) (hc : c.At w B) (hx : BoxC w bc c) (hi : i < c.pn) :
    Calls Tryz.prog 39 #[.int .i64 i, .pointer (some ⟨bc, 0, none⟩)] w fun e w' => e = .returned (.bool (wrR c 6 i)) ∧ Below w.heap.size w w' := by
  obtain ⟨k0, k1, k2, k3, k4, k5, k6, k7⟩ := hx.cells
  have HC : Hid (∀ W : World, w = W → Calls Tryz.prog 40 #[c.v, .int .i64 i] W fun e w' => e = .returned (.bool (wrR c 6 i)) ∧ Below W.heap.size W w') := Lib.hid fun W hW => by subst hW; exact wrongPort_any c i B w hB hc hi
  obtain ⟨q, hq⟩ : ∃ q, q = wrR c 6 i := ⟨_, rfl⟩
  rw [← hq] at HC ⊢
  clear hq hc hx
  go_enter Tryz.func39, Tryz.ntmps39
  go_wp2_with fail
  refine (HC.out _ rfl).mono ?_
  rintro e w1 ⟨rfl, hb⟩
  go_wp2
  go_ret
  exact ⟨rfl, hb⟩

theorem clos7_any (c : Cfg) (i bc B : Nat) (w : World) (hB : B ≤ w.heap.size) (hc : c.At w B) (hx : BoxC w bc c) :
    Calls Tryz.prog 41 #[.int .i64 i, .pointer (some ⟨bc, 0, none⟩)] w fun e w' => e = .returned (.bool (wrR c 7 i)) ∧ Below w.heap.size w w' := by
  obtain ⟨k0, k1, k2, k3, k4, k5, k6, k7⟩ := hx.cells
  have HR : Hid (wrR c 7 i = decide (4 < (c.nn : Int))) := Lib.hid rfl
  obtain ⟨q, hq⟩ : ∃ q, q = wrR c 7 i := ⟨_, rfl⟩
  rw [← hq] at HR ⊢
  clear hq hc hx
  clear k0
  clear k1
  clear k2
  clear k3
  clear k5
  clear k6
  clear k7
  obtain ⟨n, hn⟩ : ∃ n, n = c.nn := ⟨_, rfl⟩
  rw [← hn] at HR k4
  clear hn
  by_cases h : 4 < (n : Int)
  · obtain rfl : q = true := by rw [HR.out]; simpa using h
    clear HR
    go_enter Tryz.func41, Tryz.ntmps41
    go_wp2
    go_ret
    exact ⟨rfl, Below.refl _ _⟩
  · obtain rfl : q = false := by rw [HR.out]; simpa using h
    clear HR
    go_enter Tryz.func41, Tryz.ntmps41
    go_wp2
    go_ret
    exact ⟨rfl, Below.refl _ _⟩

theorem clos8_any (c : Cfg) (i bc B : Nat) (w : World) (hB : B ≤ w.heap.size) (hc : c.At w B) (hx : BoxC w bc c) (hi : i < c.nn) :
    Calls Tryz.prog 42 #[.int .i64 i, .pointer (some ⟨bc, 0, none⟩)] w fun e w' => e = .returned (.bool (wrR c 8 i)) ∧ Below w.heap.size w w' := by
  obtain ⟨k0, k1, k2, k3, k4, k5, k6, k7⟩ := hx.cells
  have HC : Hid (∀ W : World, w = W → Calls Tryz.prog 43 #[c.v, .int .i64 i] W fun e w' => e = .returned (.bool (wrR c 8 i)) ∧ Below W.heap.size W w') := Lib.hid fun W hW => by subst hW; exact wrongRing_any c i B w hB hc hi
  obtain ⟨q, hq⟩ : ∃ q, q = wrR c 8 i := ⟨_, rfl⟩
  rw [← hq] at HC ⊢
  clear hq hc hx
  go_enter Tryz.func42, Tryz.ntmps42
  go_wp2_with fail
  refine (HC.out _ rfl).mono ?_
  rintro e w1 ⟨rfl, hb⟩
  go_wp2
  go_ret
  exact ⟨rfl, hb⟩

theorem clos9_any (c : Cfg) (i bc B : Nat) (w : World) (hB : B ≤ w.heap.size) (hc : c.At w B) (hx : BoxC w bc c) :
    Calls Tryz.prog 44 #[.int .i64 i, .pointer (some ⟨bc, 0, none⟩)] w fun e w' => e = .returned (.bool (wrR c 9 i)) ∧ Below w.heap.size w w' := by
  obtain ⟨k0, k1, k2, k3, k4, k5, k6, k7⟩ := hx.cells
  obtain ⟨r, hr⟩ : ∃ r, r = inB ((c.sn : Int)) 1 8 := ⟨_, rfl⟩
  have HV : Hid (∀ W : World, Calls Tryz.prog 31 #[.int .i64 ((c.sn : Int)), .int .i64 1, .int .i64 8] W fun e w' => e = .returned (.bool r) ∧ W = w') := Lib.hid fun W => by rw [hr]; exact within_any _ _ _ _
  have HR : Hid (wrR c 9 i = !r) := Lib.hid (by rw [hr]; rfl)
  obtain ⟨q, hq⟩ : ∃ q, q = wrR c 9 i := ⟨_, rfl⟩
  rw [← hq] at HR ⊢
  clear hr hq hc hx
  clear k0
  clear k1
  clear k2
  clear k3
  clear k4
  clear k6
  clear k7
  go_enter Tryz.func44, Tryz.ntmps44
  go_wp2_with fail
  refine (HV.out _).mono ?_
  rintro e w1 ⟨rfl, rfl⟩
  go_wp2
  go_ret
  exact ⟨by rw [HR.out]; rfl, Below.refl _ _⟩

theorem clos10_any (c : Cfg) (i bc B : Nat) (w : World) (hB : B ≤ w.heap.size) (hc : c.At w B) (hx : BoxC w bc c) (hi : i < c.sn) :
    Calls Tryz.prog 45 #[.int .i64 i, .pointer (some ⟨bc, 0, none⟩)] w fun e w' => e = .returned (.bool (wrR c 10 i)) ∧ Below w.heap.size w w' := by
  obtain ⟨k0, k1, k2, k3, k4, k5, k6, k7⟩ := hx.cells
  have HC : Hid (∀ W : World, w = W → Calls Tryz.prog 46 #[c.v, .int .i64 i] W fun e w' => e = .returned (.bool (wrR c 10 i)) ∧ Below W.heap.size W w') := Lib.hid fun W hW => by subst hW; exact wrongSlot_any c i B w hB hc hi
  obtain ⟨q, hq⟩ : ∃ q, q = wrR c 10 i := ⟨_, rfl⟩
  rw [← hq] at HC ⊢
  clear hq hc hx
  go_enter Tryz.func45, Tryz.ntmps45
  go_wp2_with fail
  refine (HC.out _ rfl).mono ?_
  rintro e w1 ⟨rfl, hb⟩
  go_wp2
  go_ret
  exact ⟨rfl, hb⟩

theorem clos11_any (c : Cfg) (i bc B : Nat) (w : World) (hB : B ≤ w.heap.size) (hc : c.At w B) (hx : BoxC w bc c) :
    Calls Tryz.prog 47 #[.int .i64 i, .pointer (some ⟨bc, 0, none⟩)] w fun e w' => e = .returned (.bool (wrR c 11 i)) ∧ Below w.heap.size w w' := by
  obtain ⟨k0, k1, k2, k3, k4, k5, k6, k7⟩ := hx.cells
  have HC : Hid (∀ W : World, w = W → Calls Tryz.prog 48 #[c.v] W fun e w' => e = .returned (.bool (wrR c 11 i)) ∧ Below W.heap.size W w') := Lib.hid fun W hW => by subst hW; exact wrongGate_any c w (by have := hc.lg; omega)
  obtain ⟨q, hq⟩ : ∃ q, q = wrR c 11 i := ⟨_, rfl⟩
  rw [← hq] at HC ⊢
  clear hq hc hx
  go_enter Tryz.func47, Tryz.ntmps47
  go_wp2_with fail
  refine (HC.out _ rfl).mono ?_
  rintro e w1 ⟨rfl, hb⟩
  go_wp2
  go_ret
  exact ⟨rfl, hb⟩

theorem clos12_any (c : Cfg) (i bc B : Nat) (w : World) (hB : B ≤ w.heap.size) (hc : c.At w B) (hx : BoxC w bc c) (hn : c.gn ≤ 4) (hs : Small c.G c.gn) :
    Calls Tryz.prog 49 #[.int .i64 i, .pointer (some ⟨bc, 0, none⟩)] w fun e w' => e = .returned (.bool (wrR c 12 i)) ∧ Below w.heap.size w w' := by
  obtain ⟨k0, k1, k2, k3, k4, k5, k6, k7⟩ := hx.cells
  have HC : Hid (∀ W : World, w = W → Calls Tryz.prog 50 #[c.v] W fun e w' => e = .returned (.int .i64 (need c)) ∧ Below W.heap.size W w') := Lib.hid fun W hW => by subst hW; exact frames_any c B w hB hc hn hs
  have HR : Hid (wrR c 12 i = decide (32 < need c)) := Lib.hid rfl
  obtain ⟨q, hq⟩ : ∃ q, q = wrR c 12 i := ⟨_, rfl⟩
  rw [← hq] at HR ⊢
  clear hq hc hx hs
  obtain ⟨n, hn⟩ : ∃ n, n = need c := ⟨_, rfl⟩
  rw [← hn] at HR HC
  clear hn
  go_enter Tryz.func49, Tryz.ntmps49
  go_wp2_with fail
  refine (HC.out _ rfl).mono ?_
  rintro e w1 ⟨rfl, hb⟩
  go_wp2
  go_ret
  exact ⟨by rw [HR.out]; rfl, hb⟩

theorem clos4_any (c : Cfg) (i bc bs bt B : Nat) (w : World) (hB : B ≤ w.heap.size) (hc : c.At w B) (hx : BoxC w bc c) (hi : i < c.rn) (hbs : w.cell? ⟨bs, 0, none⟩ = some (.pointer (some ⟨bt, 0, none⟩))) (hT : Pt.Tab w bt (secs c i)) :
    Calls Tryz.prog 36 #[.int .i64 i, .pointer (some ⟨bc, 0, none⟩), .pointer (some ⟨bs, 0, none⟩)] w fun e w' => e = .returned (.bool (wrR c 4 i)) ∧ RangePost c i bt w w' := by
  obtain ⟨k0, k1, k2, k3, k4, k5, k6, k7⟩ := hx.cells
  have HC : Hid (∀ W : World, w = W → Calls Tryz.prog 37 #[c.v, .int .i64 i, .pointer (some ⟨bt, 0, none⟩)] W fun e w' => e = .returned (.bool (wrR c 4 i)) ∧ RangePost c i bt w w') := Lib.hid fun W hW => by subst hW; exact wrongRange_any c i bt B w hB hc hi hT
  obtain ⟨q, hq⟩ : ∃ q, q = wrR c 4 i := ⟨_, rfl⟩
  rw [← hq] at HC ⊢
  obtain ⟨PR, hPR⟩ : ∃ PR, PR = RangePost c i bt w := ⟨_, rfl⟩
  rw [← hPR] at HC ⊢
  clear hq hc hx hPR hT
  go_enter Tryz.func36, Tryz.ntmps36
  go_wp2_with fail
  refine (HC.out _ rfl).mono ?_
  rintro e w1 ⟨rfl, hb⟩
  go_wp2
  go_ret
  exact ⟨rfl, hb⟩
end Go.Proofs.YtikkfapgmbamlaaGreatDoor.Cf
end
