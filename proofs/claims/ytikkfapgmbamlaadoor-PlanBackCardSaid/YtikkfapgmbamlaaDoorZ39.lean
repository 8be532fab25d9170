/- Several texts in one: Fg -/
import Derived.Test.YtikkfapgmbamlaaDoorZ32
import Derived.Test.YtikkfapgmbamlaaDoorZ26
import Derived.Test.YtikkfapgmbamlaaDoorZ38
section
/- The document's Parse of layer 5: a text all of whose lines have ends. -/
namespace Go.Proofs.YtikkfapgmbamlaaDoor.Pl
open Go.RowKit Ut
set_option linter.unusedVariables false
set_option maxRecDepth 100000

theorem results_ctt {fn : Func} {t u v : Tmp} (h : fn.results = #[.cell t 36, .tmp u, .tmp v]) (tmps : Array Value) (w : World) (g : Nat) (cs : Array Value) (x y : Value) (h2 : tmps.getD t undef = .pointer (some ⟨g, 0, none⟩)) (h3 : tmps.getD u undef = x) (h4 : tmps.getD v undef = y) (hg : w.heap[g]? = some (.cells cs 36 (0, 0))) (hn : (Tryd.prog.info? 36).map (·.size) = some cs.size) :
    (results fn tmps).run Tryd.prog w = .ok (.tuple #[.agg cs, x, y]) w := by
  have hp' : tmps[t]?.getD undef = .pointer (some ⟨g, 0, none⟩) := by simpa using h2
  have hp3 : tmps[u]?.getD undef = x := by simpa using h3
  have hp4 : tmps[v]?.getD undef = y := by simpa using h4
  simp [results, h, hp', hp3, hp4, asAddr, run_loadVar_row w g 36 36 cs (0, 0) _ hg Tryd.underlying36 rfl hn]
theorem lines_inr {c : PC} {B : Nat} {e : Ending} {w' : World} (h : LinesPost (.inr c) B e w') (hin : PIn c) (hsz : c.gs.length + c.rs.length + c.ps.length + c.ns.length + c.ss.length ≤ 16384) : ∃ ga gc ra rc pa qc na nc sa sc, e = .returned (.tuple #[cfgV c (.slice ga c.gs.length gc) (.slice ra c.rs.length rc) (.slice pa c.ps.length qc) (.slice na c.ns.length nc) (.slice sa c.ss.length sc), .int .i64 0]) ∧
    RowsP w' B c (.slice ga c.gs.length gc) (.slice ra c.rs.length rc) (.slice pa c.ps.length qc) (.slice na c.ns.length nc) (.slice sa c.ss.length sc) ∧ (c.cfg ga gc ra rc pa qc na nc sa sc).At w' w'.heap.size := by
  obtain ⟨x, y, z, a1, n1, c1, a2, n2, c2, a3, n3, c3, a4, n4, c4, a5, n5, c5, rfl, h⟩ := h
  obtain ⟨rfl, rfl, rfl, hr⟩ := h c rfl
  obtain ⟨ga, gc, ra, rc, pa, qc, na, nc, sa, sc, e1, e2, e3, e4, e5, hat⟩ := cfg_at hr hin (by omega)
  rw [e1, e2, e3, e4, e5] at hr ⊢
  exact ⟨_, _, _, _, _, _, _, _, _, _, rfl, hr, hat⟩
theorem lines_inl {m : Nat} {B : Nat} {e : Ending} {w' : World} (h : LinesPost (.inl m) B e w') : ∃ (x y z : Int) (a1 : Option Addr) (n1 c1 : Nat) (a2 : Option Addr) (n2 c2 : Nat) (a3 : Option Addr) (n3 c3 : Nat) (a4 : Option Addr) (n4 c4 : Nat) (a5 : Option Addr) (n5 c5 : Nat),
    e = .returned (.tuple #[.agg #[.int .i64 x, .slice a1 n1 c1, .slice a2 n2 c2, .slice a3 n3 c3, .slice a4 n4 c4, .slice a5 n5 c5, .int .i64 y, .int .i64 z], .int .i64 m]) := by
  obtain ⟨x, y, z, a1, n1, c1, a2, n2, c2, a3, n3, c3, a4, n4, c4, a5, n5, c5, he, _⟩ := h
  exact ⟨x, y, z, a1, n1, c1, a2, n2, c2, a3, n3, c3, a4, n4, c4, a5, n5, c5, he⟩
/-- lines of the lines of a text -/
theorem refAll_cut (l : List UInt8) (hl : l.length ≤ 16384) (v : Value) (w : World) {B : Nat} (ho : OwnS w B 9 v (cutL 10 l).1.length (cutL 10 l).1) :
    Calls Tryd.prog 22 #[v] w fun e w' => LinesPost (runL (cutL 10 l).1 pc0 (-1) 0) w.heap.size e w' ∧ Below w.heap.size w w' := by
  obtain ⟨a, cap, rfl, _, _, hrow⟩ := OwnS.row ho
  exact refAll_any a _ cap _ (by have := cutL_count 10 l; omega) (fun k => by have := piece_len 10 l k; omega) w hrow
theorem readL_whole {l : List UInt8} (h : (cutL 10 l).2 = []) : readL l = match runL (cutL 10 l).1 pc0 (-1) 0 with
    | .inl n => .inl n
    | .inr c => if (cutL 10 l).1.length = 0 then .inl 1 else .inr c := by
  unfold readL
  cases runL (cutL 10 l).1 pc0 (-1) 0 with
  | inl n => rfl
  | inr c =>
    simp only [h, true_and]
    by_cases h0 : (cutL 10 l).1.length = 0
    · rw [if_pos h0, if_neg (fun e => e (List.length_eq_zero_iff.1 h0)), h0]
    · rw [if_neg h0, if_pos (fun e => h0 (by rw [e]; rfl))]
theorem readL_part {l : List UInt8} (h : (cutL 10 l).2 ≠ []) : readL l = match runL (cutL 10 l).1 pc0 (-1) 0 with
    | .inl n => .inl n
    | .inr c => .inl ((cutL 10 l).1.length + 1) := by
  unfold readL
  cases runL (cutL 10 l).1 pc0 (-1) 0 with
  | inl n => rfl
  | inr c => simp only; rw [if_neg (fun e => h e.1)]
theorem runL_pos {ls : List (List UInt8)} {c : PC} {last : Int} {i n : Nat} (h : runL ls c last i = .inl n) : 1 ≤ n := by
  induction ls generalizing c last i with
  | nil => simp [runL] at h
  | cons l ls ih =>
    unfold runL at h
    split at h
    · split at h
      · exact ih h
      · injection h with h; omega
    · injection h with h; omega
theorem runL_fit {l : List UInt8} (hl : l.length ≤ 16384) {c : PC} (h : runL (cutL 10 l).1 pc0 (-1) 0 = .inr c) : PIn c ∧ c.gs.length + c.rs.length + c.ps.length + c.ns.length + c.ss.length ≤ 16384 := by
  refine ⟨runL_in _ _ _ _ _ pc0_in h, ?_⟩
  have h1 := runL_size _ _ _ _ _ h
  have h2 := cutL_count 10 l
  simp only [pc0, List.length_nil] at h1
  omega

/-- the first line that can't be, of a text whose lines have ends -/
theorem refParse_bad (s : ByteArray) (hs : s.size ≤ 16384) (hw0 : (cutL 10 s.data.toList).2 = []) (m : Nat) (hr : runL (cutL 10 s.data.toList).1 pc0 (-1) 0 = .inl m) (w : World) :
    Calls Tryd.prog 15 #[.string s] w fun e w' => e = .returned (.tuple #[zeroC, .int .i64 6, .int .i64 m]) ∧ Below w.heap.size w w' := by
  have hx := refLines_any s (by omega)
  have hl : linesL s.data.toList = some (cutL 10 s.data.toList).1 := by unfold linesL; rw [if_pos hw0]
  rw [hl] at hx
  simp only [Option.getD_some, Option.isSome_some] at hx
  have HA := Lib.hid (fun (v : Value) (W : World) (B : Nat) (h : OwnS W B 9 v (cutL 10 s.data.toList).1.length (cutL 10 s.data.toList).1) => refAll_cut s.data.toList (by simpa using hs) v W h)
  rw [hr] at HA
  have hm1 := runL_pos hr
  generalize (cutL 10 s.data.toList).1 = ls at hx HA
  clear hl hw0 hr
  have hal : Below w.heap.size w (w.alloc (.cells zeroL.toArray 36 (0, 0))) := (Below.refl _ _).alloc (Nat.le_refl _) _
  have HZ := Lib.hid (heap_alloc_new w (.cells zeroL.toArray 36 (0, 0)))
  have HAL := Lib.hid hal
  clear hal
  go_enter Tryd.func15, Tryd.ntmps15
  go_upto_region 26 with (first | (go_at_call 13; refine (hx _ _ (Nat.le_refl _)).mono ?_; rintro e w2 ⟨v, rfl, hown, hpl, hb2⟩; have hz2 := (hb2.block _ (by simp)).trans HZ.out; have hl2 : w.heap.size < w2.heap.size := (Array.getElem?_eq_some_iff.1 hz2).1; have HZ2 := Lib.hid hz2; have hb3 := HAL.out.trans (hb2.mono (by simp)); have HC := Lib.hid (HA.out v w2 _ hown); obtain ⟨la, lc, rfl, _, _, _⟩ := OwnS.row hown; clear hz2 hb2 hx hown) | (go_at_call 22; refine HC.out.mono ?_; rintro e w3 ⟨hq, hb4⟩; obtain ⟨x, y, z, a1, n1, c1, a2, n2, c2, a3, n3, c3, a4, n4, c4, a5, n5, c5, rfl⟩ := lines_inl hq; have hz3 := (hb4.block _ hl2).trans HZ2.out; have hl3 := (Array.getElem?_eq_some_iff.1 hz3).1; have HZ3 := Lib.hid hz3; have hb5 := hb3.trans (hb4.mono hb3.size); clear hq hb4 hz3))
  have HZ4 := Lib.hid ((Below.heap_alloc w3 (.cells #[.int .i64 x, .slice a1 n1 c1, .slice a2 n2 c2, .slice a3 n3 c3, .slice a4 n4 c4, .slice a5 n5 c5, .int .i64 y, .int .i64 z] 36 (0, 0)) _ hl3).trans HZ3.out)
  have hb6 := hb5.alloc hb5.size (.cells #[.int .i64 x, .slice a1 n1 c1, .slice a2 n2 c2, .slice a3 n3 c3, .slice a4 n4 c4, .slice a5 n5 c5, .int .i64 y, .int .i64 z] 36 (0, 0))
  refine wp_region_lit ?_
  refine wpList_build rfl 36 #[] rfl (by kernel_rfl) ?_
  refine wpList_value rfl (.int .i64 m) (by kernel_rfl) ?_
  refine wpList_store_row rfl 36 (.tmp 2) (.tmp 90) rfl w.heap.size zeroL.toArray (by kernel_rfl) (by kernel_rfl) 36 _ HZ4.out (by kernel_rfl) rfl (by kernel_rfl) ?_
  have hrow := Lib.hid (setRow_heap _ w.heap.size _ zeroL.toArray _ _ HZ4.out)
  have hbe := below_setRow hb6 (Nat.le_refl _) zeroL.toArray
  go_wp2
  exact bodyPost_ret (v := .tuple #[zeroC, .int .i64 6, .int .i64 m]) (results_ctt rfl _ _ w.heap.size zeroL.toArray _ _ rfl rfl rfl hrow.out (by kernel_rfl)) rfl ⟨rfl, hbe⟩
/-- no line at all -/
theorem refParse_none (s : ByteArray) (hs : s.size ≤ 16384) (hw0 : (cutL 10 s.data.toList).2 = []) (c : PC) (hr : runL (cutL 10 s.data.toList).1 pc0 (-1) 0 = .inr c) (hlen : (cutL 10 s.data.toList).1.length = 0) (w : World) :
    Calls Tryd.prog 15 #[.string s] w fun e w' => e = .returned (.tuple #[zeroC, .int .i64 6, .int .i64 1]) ∧ Below w.heap.size w w' := by
  have hx := refLines_any s (by omega)
  have hl : linesL s.data.toList = some (cutL 10 s.data.toList).1 := by unfold linesL; rw [if_pos hw0]
  rw [hl] at hx
  simp only [Option.getD_some, Option.isSome_some] at hx
  have HA := Lib.hid (fun (v : Value) (W : World) (B : Nat) (h : OwnS W B 9 v (cutL 10 s.data.toList).1.length (cutL 10 s.data.toList).1) => refAll_cut s.data.toList (by simpa using hs) v W h)
  rw [hr] at HA
  obtain ⟨hpin, hpsz⟩ := runL_fit (by simpa using hs) hr
  have HPIN := Lib.hid hpin
  have HPSZ := Lib.hid hpsz
  have HLEN := Lib.hid hlen
  clear hlen
  obtain ⟨ls, hls⟩ : ∃ ls, (cutL 10 s.data.toList).1 = ls := ⟨_, rfl⟩
  rw [hls] at hx HA HLEN
  obtain ⟨n, hn⟩ : ∃ n, ls.length = n := ⟨_, rfl⟩
  have hn0 : n = 0 := hn ▸ HLEN.out
  subst hn0
  rw [hn] at hx HA
  clear hl hw0 hr hls hpin hpsz hn
  have hal : Below w.heap.size w (w.alloc (.cells zeroL.toArray 36 (0, 0))) := (Below.refl _ _).alloc (Nat.le_refl _) _
  have HZ := Lib.hid (heap_alloc_new w (.cells zeroL.toArray 36 (0, 0)))
  have HAL := Lib.hid hal
  clear hal
  go_enter Tryd.func15, Tryd.ntmps15
  go_upto_region 28 with (first | (go_at_call 13; refine (hx _ _ (Nat.le_refl _)).mono ?_; rintro e w2 ⟨v, rfl, hown, hpl, hb2⟩; have hz2 := (hb2.block _ (by simp)).trans HZ.out; have hl2 : w.heap.size < w2.heap.size := (Array.getElem?_eq_some_iff.1 hz2).1; have HZ2 := Lib.hid hz2; have hb3 := HAL.out.trans (hb2.mono (by simp)); have HC := Lib.hid (HA.out v w2 _ hown); obtain ⟨la, lc, rfl, _, _, _⟩ := OwnS.row hown; clear hz2 hb2 hx hown) | (go_at_call 22; refine HC.out.mono ?_; rintro e w3 ⟨hq, hb4⟩; obtain ⟨ga, gc, ra, rc, pa, qc, na, nc, sa, sc, rfl, hrw, hat⟩ := lines_inr hq HPIN.out HPSZ.out; have hz3 := (hb4.block _ hl2).trans HZ2.out; have hl3 := (Array.getElem?_eq_some_iff.1 hz3).1; have HZ3 := Lib.hid hz3; have hb5 := hb3.trans (hb4.mono hb3.size); have hal3 : Below w3.heap.size w3 (w3.alloc (.cells #[.int .i64 c.cats, .slice ga c.gs.length gc, .slice ra c.rs.length rc, .slice pa c.ps.length qc, .slice na c.ns.length nc, .slice sa c.ss.length sc, .int .i64 c.gate, .int .i64 c.quota] 36 (0, 0))) := (Below.refl _ _).alloc (Nat.le_refl _) _; have HZ4 := Lib.hid ((hal3.block _ hl3).trans hz3); have HAT := Lib.hid ((hat.below hal3).more_at hal3.size); have HRW := Lib.hid (hrw.below hal3); have HCF := Lib.hid (heap_alloc_new w3 (.cells #[.int .i64 c.cats, .slice ga c.gs.length gc, .slice ra c.rs.length rc, .slice pa c.ps.length qc, .slice na c.ns.length nc, .slice sa c.ss.length sc, .int .i64 c.gate, .int .i64 c.quota] 36 (0, 0))); have hb6 := hb5.trans (hal3.mono hb5.size); have hl4 : w.heap.size < (w3.alloc (.cells #[.int .i64 c.cats, .slice ga c.gs.length gc, .slice ra c.rs.length rc, .slice pa c.ps.length qc, .slice na c.ns.length nc, .slice sa c.ss.length sc, .int .i64 c.gate, .int .i64 c.quota] 36 (0, 0))).heap.size := (by simp; omega); have hcl : w3.heap.size < (w3.alloc (.cells #[.int .i64 c.cats, .slice ga c.gs.length gc, .slice ra c.rs.length rc, .slice pa c.ps.length qc, .slice na c.ns.length nc, .slice sa c.ss.length sc, .int .i64 c.gate, .int .i64 c.quota] 36 (0, 0))).heap.size := (by simp); clear hq hb4 hz3 hrw hat hal3))
  refine wp_region_lit ?_
  refine wpList_build rfl 36 #[] rfl (by kernel_rfl) ?_
  refine wpList_store_row rfl 36 (.tmp 2) (.tmp 95) rfl w.heap.size zeroL.toArray (by kernel_rfl) (by kernel_rfl) 36 _ HZ4.out (by kernel_rfl) rfl (by kernel_rfl) ?_
  have hrow := Lib.hid (setRow_heap _ w.heap.size _ zeroL.toArray _ _ HZ4.out)
  have hbe := below_setRow hb6 (Nat.le_refl _) zeroL.toArray
  go_wp2
  exact bodyPost_ret (v := .tuple #[zeroC, .int .i64 6, .int .i64 1]) (results_ctt rfl _ _ w.heap.size zeroL.toArray _ _ rfl rfl rfl hrow.out (by kernel_rfl)) rfl ⟨rfl, hbe⟩
/-- a configuration that is not right -/
theorem refParse_wrong (s : ByteArray) (hs : s.size ≤ 16384) (hw0 : (cutL 10 s.data.toList).2 = []) (c : PC) (hr : runL (cutL 10 s.data.toList).1 pc0 (-1) 0 = .inr c) (hlen : (cutL 10 s.data.toList).1.length ≠ 0) (e1 : Int) (he1 : (chk c).1 = e1) (hne : ¬ e1 = 0) (w : World) :
    Calls Tryd.prog 15 #[.string s] w fun e w' => e = .returned (.tuple #[zeroC, .int .i64 e1, .int .i64 0]) ∧ Below w.heap.size w w' := by
  have hx := refLines_any s (by omega)
  have hl : linesL s.data.toList = some (cutL 10 s.data.toList).1 := by unfold linesL; rw [if_pos hw0]
  rw [hl] at hx
  simp only [Option.getD_some, Option.isSome_some] at hx
  have HA := Lib.hid (fun (v : Value) (W : World) (B : Nat) (h : OwnS W B 9 v (cutL 10 s.data.toList).1.length (cutL 10 s.data.toList).1) => refAll_cut s.data.toList (by simpa using hs) v W h)
  rw [hr] at HA
  obtain ⟨hpin, hpsz⟩ := runL_fit (by simpa using hs) hr
  have HPIN := Lib.hid hpin
  have HPSZ := Lib.hid hpsz
  have HC1 := Lib.hid he1
  obtain ⟨e2, he2⟩ : ∃ e2, (chk c).2 = e2 := ⟨_, rfl⟩
  have HC2 := Lib.hid he2
  clear he1 he2
  have HLEN := Lib.hid hlen
  clear hlen
  obtain ⟨ls, hls⟩ : ∃ ls, (cutL 10 s.data.toList).1 = ls := ⟨_, rfl⟩
  rw [hls] at hx HA HLEN
  obtain ⟨n, hn⟩ : ∃ n, ls.length = n := ⟨_, rfl⟩
  have hn0 : n ≠ 0 := hn ▸ HLEN.out
  rw [hn] at hx HA
  have hni : ¬ (n : Int) = 0 := by omega
  clear hl hw0 hr hls hpin hpsz hn
  have hal : Below w.heap.size w (w.alloc (.cells zeroL.toArray 36 (0, 0))) := (Below.refl _ _).alloc (Nat.le_refl _) _
  have HZ := Lib.hid (heap_alloc_new w (.cells zeroL.toArray 36 (0, 0)))
  have HAL := Lib.hid hal
  clear hal
  go_enter Tryd.func15, Tryd.ntmps15
  go_upto_region 31 with (first | (go_at_call 13; refine (hx _ _ (Nat.le_refl _)).mono ?_; rintro e w2 ⟨v, rfl, hown, hpl, hb2⟩; have hz2 := (hb2.block _ (by simp)).trans HZ.out; have hl2 : w.heap.size < w2.heap.size := (Array.getElem?_eq_some_iff.1 hz2).1; have HZ2 := Lib.hid hz2; have hb3 := HAL.out.trans (hb2.mono (by simp)); have HC := Lib.hid (HA.out v w2 _ hown); obtain ⟨la, lc, rfl, _, _, _⟩ := OwnS.row hown; clear hz2 hb2 hx hown) | (go_at_call 22; refine HC.out.mono ?_; rintro e w3 ⟨hq, hb4⟩; obtain ⟨ga, gc, ra, rc, pa, qc, na, nc, sa, sc, rfl, hrw, hat⟩ := lines_inr hq HPIN.out HPSZ.out; have hz3 := (hb4.block _ hl2).trans HZ2.out; have hl3 := (Array.getElem?_eq_some_iff.1 hz3).1; have HZ3 := Lib.hid hz3; have hb5 := hb3.trans (hb4.mono hb3.size); have hal3 : Below w3.heap.size w3 (w3.alloc (.cells #[.int .i64 c.cats, .slice ga c.gs.length gc, .slice ra c.rs.length rc, .slice pa c.ps.length qc, .slice na c.ns.length nc, .slice sa c.ss.length sc, .int .i64 c.gate, .int .i64 c.quota] 36 (0, 0))) := (Below.refl _ _).alloc (Nat.le_refl _) _; have HZ4 := Lib.hid ((hal3.block _ hl3).trans hz3); have HAT := Lib.hid ((hat.below hal3).more_at hal3.size); have HRW := Lib.hid (hrw.below hal3); have HCF := Lib.hid (heap_alloc_new w3 (.cells #[.int .i64 c.cats, .slice ga c.gs.length gc, .slice ra c.rs.length rc, .slice pa c.ps.length qc, .slice na c.ns.length nc, .slice sa c.ss.length sc, .int .i64 c.gate, .int .i64 c.quota] 36 (0, 0))); have hb6 := hb5.trans (hal3.mono hb5.size); have hl4 : w.heap.size < (w3.alloc (.cells #[.int .i64 c.cats, .slice ga c.gs.length gc, .slice ra c.rs.length rc, .slice pa c.ps.length qc, .slice na c.ns.length nc, .slice sa c.ss.length sc, .int .i64 c.gate, .int .i64 c.quota] 36 (0, 0))).heap.size := (by simp; omega); have hcl : w3.heap.size < (w3.alloc (.cells #[.int .i64 c.cats, .slice ga c.gs.length gc, .slice ra c.rs.length rc, .slice pa c.ps.length qc, .slice na c.ns.length nc, .slice sa c.ss.length sc, .int .i64 c.gate, .int .i64 c.quota] 36 (0, 0))).heap.size := (by simp); clear hq hb4 hz3 hrw hat hal3) | (go_at_call 23; refine (Cf.refCheck_any (c.cfg ga gc ra rc pa qc na nc sa sc) _ _ (Nat.le_refl _) HAT.out).mono ?_; rw [chk_at, HC1.out, HC2.out]; rintro e w5 ⟨rfl, hb7⟩; have HZ5 := Lib.hid ((hb7.block _ hl4).trans HZ4.out); have hb8 := hb6.trans (hb7.mono hb6.size); have HRW5 := Lib.hid (HRW.out.below hb7); have HCF5 := Lib.hid ((hb7.block _ hcl).trans HCF.out); clear hb7))
  refine wp_region_lit ?_
  refine wpList_build rfl 36 #[] rfl (by kernel_rfl) ?_
  refine wpList_value rfl (.int .i64 e1) (by kernel_rfl) ?_
  refine wpList_store_row rfl 36 (.tmp 2) (.tmp 103) rfl w.heap.size zeroL.toArray (by kernel_rfl) (by kernel_rfl) 36 _ HZ5.out (by kernel_rfl) rfl (by kernel_rfl) ?_
  have hrow := Lib.hid (setRow_heap _ w.heap.size _ zeroL.toArray _ _ HZ5.out)
  have hbe := below_setRow hb8 (Nat.le_refl _) zeroL.toArray
  go_wp2
  exact bodyPost_ret (v := .tuple #[zeroC, .int .i64 e1, .int .i64 0]) (results_ctt rfl _ _ w.heap.size zeroL.toArray _ _ rfl rfl rfl hrow.out (by kernel_rfl)) rfl ⟨rfl, hbe⟩
/-- a right one -/
theorem refParse_right (s : ByteArray) (hs : s.size ≤ 16384) (hw0 : (cutL 10 s.data.toList).2 = []) (c : PC) (hr : runL (cutL 10 s.data.toList).1 pc0 (-1) 0 = .inr c) (hlen : (cutL 10 s.data.toList).1.length ≠ 0) (e1 : Int) (he1 : (chk c).1 = e1) (hne : e1 = 0) (w : World) :
    Calls Tryd.prog 15 #[.string s] w fun e w' => (∃ vg vr vp vn vs, e = .returned (.tuple #[cfgV c vg vr vp vn vs, .int .i64 0, .int .i64 0]) ∧ RowsP w' w.heap.size c vg vr vp vn vs) ∧ Below w.heap.size w w' := by
  have hx := refLines_any s (by omega)
  have hl : linesL s.data.toList = some (cutL 10 s.data.toList).1 := by unfold linesL; rw [if_pos hw0]
  rw [hl] at hx
  simp only [Option.getD_some, Option.isSome_some] at hx
  have HA := Lib.hid (fun (v : Value) (W : World) (B : Nat) (h : OwnS W B 9 v (cutL 10 s.data.toList).1.length (cutL 10 s.data.toList).1) => refAll_cut s.data.toList (by simpa using hs) v W h)
  rw [hr] at HA
  obtain ⟨hpin, hpsz⟩ := runL_fit (by simpa using hs) hr
  have HPIN := Lib.hid hpin
  have HPSZ := Lib.hid hpsz
  subst hne
  have HC1 := Lib.hid he1
  obtain ⟨e2, he2⟩ : ∃ e2, (chk c).2 = e2 := ⟨_, rfl⟩
  have HC2 := Lib.hid he2
  clear he1 he2
  have HLEN := Lib.hid hlen
  clear hlen
  obtain ⟨ls, hls⟩ : ∃ ls, (cutL 10 s.data.toList).1 = ls := ⟨_, rfl⟩
  rw [hls] at hx HA HLEN
  obtain ⟨n, hn⟩ : ∃ n, ls.length = n := ⟨_, rfl⟩
  have hn0 : n ≠ 0 := hn ▸ HLEN.out
  rw [hn] at hx HA
  have hni : ¬ (n : Int) = 0 := by omega
  clear hl hw0 hr hls hpin hpsz hn
  have hal : Below w.heap.size w (w.alloc (.cells zeroL.toArray 36 (0, 0))) := (Below.refl _ _).alloc (Nat.le_refl _) _
  have HZ := Lib.hid (heap_alloc_new w (.cells zeroL.toArray 36 (0, 0)))
  have HAL := Lib.hid hal
  clear hal
  go_enter Tryd.func15, Tryd.ntmps15
  go_upto_region 32 with (first | (go_at_call 13; refine (hx _ _ (Nat.le_refl _)).mono ?_; rintro e w2 ⟨v, rfl, hown, hpl, hb2⟩; have hz2 := (hb2.block _ (by simp)).trans HZ.out; have hl2 : w.heap.size < w2.heap.size := (Array.getElem?_eq_some_iff.1 hz2).1; have HZ2 := Lib.hid hz2; have hb3 := HAL.out.trans (hb2.mono (by simp)); have HC := Lib.hid (HA.out v w2 _ hown); obtain ⟨la, lc, rfl, _, _, _⟩ := OwnS.row hown; clear hz2 hb2 hx hown) | (go_at_call 22; refine HC.out.mono ?_; rintro e w3 ⟨hq, hb4⟩; obtain ⟨ga, gc, ra, rc, pa, qc, na, nc, sa, sc, rfl, hrw, hat⟩ := lines_inr hq HPIN.out HPSZ.out; have hz3 := (hb4.block _ hl2).trans HZ2.out; have hl3 := (Array.getElem?_eq_some_iff.1 hz3).1; have HZ3 := Lib.hid hz3; have hb5 := hb3.trans (hb4.mono hb3.size); have hal3 : Below w3.heap.size w3 (w3.alloc (.cells #[.int .i64 c.cats, .slice ga c.gs.length gc, .slice ra c.rs.length rc, .slice pa c.ps.length qc, .slice na c.ns.length nc, .slice sa c.ss.length sc, .int .i64 c.gate, .int .i64 c.quota] 36 (0, 0))) := (Below.refl _ _).alloc (Nat.le_refl _) _; have HZ4 := Lib.hid ((hal3.block _ hl3).trans hz3); have HAT := Lib.hid ((hat.below hal3).more_at hal3.size); have HRW := Lib.hid (hrw.below hal3); have HCF := Lib.hid (heap_alloc_new w3 (.cells #[.int .i64 c.cats, .slice ga c.gs.length gc, .slice ra c.rs.length rc, .slice pa c.ps.length qc, .slice na c.ns.length nc, .slice sa c.ss.length sc, .int .i64 c.gate, .int .i64 c.quota] 36 (0, 0))); have hb6 := hb5.trans (hal3.mono hb5.size); have hl4 : w.heap.size < (w3.alloc (.cells #[.int .i64 c.cats, .slice ga c.gs.length gc, .slice ra c.rs.length rc, .slice pa c.ps.length qc, .slice na c.ns.length nc, .slice sa c.ss.length sc, .int .i64 c.gate, .int .i64 c.quota] 36 (0, 0))).heap.size := (by simp; omega); have hcl : w3.heap.size < (w3.alloc (.cells #[.int .i64 c.cats, .slice ga c.gs.length gc, .slice ra c.rs.length rc, .slice pa c.ps.length qc, .slice na c.ns.length nc, .slice sa c.ss.length sc, .int .i64 c.gate, .int .i64 c.quota] 36 (0, 0))).heap.size := (by simp); clear hq hb4 hz3 hrw hat hal3) | (go_at_call 23; refine (Cf.refCheck_any (c.cfg ga gc ra rc pa qc na nc sa sc) _ _ (Nat.le_refl _) HAT.out).mono ?_; rw [chk_at, HC1.out, HC2.out]; rintro e w5 ⟨rfl, hb7⟩; have HZ5 := Lib.hid ((hb7.block _ hl4).trans HZ4.out); have hb8 := hb6.trans (hb7.mono hb6.size); have HRW5 := Lib.hid (HRW.out.below hb7); have HCF5 := Lib.hid ((hb7.block _ hcl).trans HCF.out); clear hb7))
  refine wp_region_lit ?_
  refine wpList_load_row rfl 36 _ rfl w3.heap.size (by kernel_rfl) 36 #[.int .i64 c.cats, .slice ga c.gs.length gc, .slice ra c.rs.length rc, .slice pa c.ps.length qc, .slice na c.ns.length nc, .slice sa c.ss.length sc, .int .i64 c.gate, .int .i64 c.quota] (0, 0) _ HCF5.out Tryd.underlying36 rfl (by kernel_rfl) ?_
  refine wpList_store_row rfl 36 (.tmp 2) (.tmp 105) rfl w.heap.size #[.int .i64 c.cats, .slice ga c.gs.length gc, .slice ra c.rs.length rc, .slice pa c.ps.length qc, .slice na c.ns.length nc, .slice sa c.ss.length sc, .int .i64 c.gate, .int .i64 c.quota] (by kernel_rfl) (by kernel_rfl) 36 _ HZ5.out (by kernel_rfl) rfl (by kernel_rfl) ?_
  have hrow := Lib.hid (setRow_heap _ w.heap.size _ #[.int .i64 c.cats, .slice ga c.gs.length gc, .slice ra c.rs.length rc, .slice pa c.ps.length qc, .slice na c.ns.length nc, .slice sa c.ss.length sc, .int .i64 c.gate, .int .i64 c.quota] _ _ HZ5.out)
  have hbe := below_setRow hb8 (Nat.le_refl _) #[.int .i64 c.cats, .slice ga c.gs.length gc, .slice ra c.rs.length rc, .slice pa c.ps.length qc, .slice na c.ns.length nc, .slice sa c.ss.length sc, .int .i64 c.gate, .int .i64 c.quota]
  have hre := Lib.hid ((HRW5.out.mono (B := w.heap.size) hb3.size).setRow (new := #[.int .i64 c.cats, .slice ga c.gs.length gc, .slice ra c.rs.length rc, .slice pa c.ps.length qc, .slice na c.ns.length nc, .slice sa c.ss.length sc, .int .i64 c.gate, .int .i64 c.quota]) HZ5.out)
  go_wp2
  exact bodyPost_ret (v := .tuple #[cfgV c (.slice ga c.gs.length gc) (.slice ra c.rs.length rc) (.slice pa c.ps.length qc) (.slice na c.ns.length nc) (.slice sa c.ss.length sc), .int .i64 0, .int .i64 0]) (results_ctt rfl _ _ w.heap.size #[.int .i64 c.cats, .slice ga c.gs.length gc, .slice ra c.rs.length rc, .slice pa c.ps.length qc, .slice na c.ns.length nc, .slice sa c.ss.length sc, .int .i64 c.gate, .int .i64 c.quota] _ _ rfl rfl rfl hrow.out (by kernel_rfl)) rfl ⟨⟨_, _, _, _, _, rfl, hre.out⟩, hbe⟩
end Go.Proofs.YtikkfapgmbamlaaDoor.Pl
end
