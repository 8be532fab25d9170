/- Several texts in one: Ej Ek -/
import Derived.Test.YtikkfapgmbamlaaGreatDoorZ10
import Derived.Test.YtikkfapgmbamlaaGreatDoorZ09
section
/- plan: a line as a record: the words behind its first one, read in a loop. -/
namespace Go.Proofs.YtikkfapgmbamlaaGreatDoor.Pl
open Go.RowKit Ut
set_option linter.unusedVariables false

theorem set_rec {r v : Int} {us : List Int} {k : Nat} (h : us.length = k) (hk : k < 3) :
    ([.int .i64 r, .int .i64 (us.getD 0 0), .int .i64 (us.getD 1 0), .int .i64 (us.getD 2 0)] : List Value).set (1 + k) (.int .i64 v) = [.int .i64 r, .int .i64 ((us ++ [v]).getD 0 0), .int .i64 ((us ++ [v]).getD 1 0), .int .i64 ((us ++ [v]).getD 2 0)] := by
  match us, k, h, hk with
  | [], 0, _, _ => rfl
  | [a], 1, _, _ => rfl
  | [a, b], 2, _, _ => rfl
  | _ :: _ :: _ :: _, k, h, hk => simp at h; omega
theorem get_rec {r : Int} {us : List Int} {k : Nat} (h : us.length = k) (hk : k < 3) :
    ([.int .i64 r, .int .i64 (us.getD 0 0), .int .i64 (us.getD 1 0), .int .i64 (us.getD 2 0)] : List Value)[1 + k]? = some (.int .i64 0) := by
  match us, k, h, hk with
  | [], 0, _, _ => rfl
  | [a], 1, _, _ => rfl
  | [a, b], 2, _, _ => rfl
  | _ :: _ :: _ :: _, k, h, hk => simp at h; omega
theorem add_next (ad : Addr) (k : Nat) : ad.add (k + 1) = (⟨ad.block, ad.off + 1 + k, none⟩ : Addr) := by
  unfold Addr.add
  rw [if_neg (by omega), show ad.off + (k + 1) = ad.off + 1 + k by omega]
/-- what one value changes -/
theorem value_tb (x : List UInt8) (f : UInt8) (hx : x.length ≤ maxLen) (o : Option Int) (ho : valL f x = o) (w : World) :
    Calls Tryz.prog 75 #[.string (tb x), .int .u8 f.toNat] w fun e w' => e = .returned (.tuple #[.int .i64 (o.getD 0), .bool o.isSome]) ∧ Below w.heap.size w w' := by
  subst ho
  exact value_any (tb x) f (by rw [tb_size]; exact hx) _ w (Nat.le_refl _)
set_option maxHeartbeats 2000000 in
set_option maxRecDepth 100000 in
theorem rec_d (s : ByteArray) (hs : s.size ≤ 1099511627776) (B : Nat) (w : World) (hB : B ≤ w.heap.size) (hK : Kinds w) (x : List UInt8) (xs : List (List UInt8)) (h1 : wordsL s.data.toList = some (x :: xs)) (r : Nat) (hr : r < 7) (h2 : rankL x = some r) (h3 : xs.length = (kf r).length) (hxl : ∀ k, (xs.getD k []).length ≤ maxLen) :
    Calls Tryz.prog 55 #[.string s] w fun e w' => e = .returned (recV ((valsL (kf r) xs).map (Prod.mk r))) ∧ Below B w w' := by
  have hx := split_any s hs
  rw [h1] at hx
  simp only [Option.getD_some, Option.isSome_some] at hx
  have hpos : 0 < (x :: xs).length := by simp
  have HR := Lib.hid (rankZ_some h2)
  have HK := Lib.hid hK
  have HKl := Lib.hid hK.lt
  clear h1 h2 hK
  obtain ⟨n, hn⟩ : ∃ n, (x :: xs).length = n := ⟨_, rfl⟩
  have hq : (n : Int) - 1 = ((tb (kf r)).size : Int) := by
    rw [tb_size, ← hn]; simp; omega
  have HN := Lib.hid (show n = xs.length + 1 by rw [← hn]; rfl)
  have hkl : (kf r).length ≤ 3 := by
    match r, hr with
    | 0, _ => decide
    | 1, _ => decide
    | 2, _ => decide
    | 3, _ => decide
    | 4, _ => decide
    | 5, _ => decide
    | 6, _ => decide
    | r + 7, h => omega
  have hk1l : 1 ≤ (kf r).length := by
    match r, hr with
    | 0, _ => decide
    | 1, _ => decide
    | 2, _ => decide
    | 3, _ => decide
    | 4, _ => decide
    | 5, _ => decide
    | 6, _ => decide
    | r + 7, h => omega
  have H3 := Lib.hid h3
  have H4 := Lib.hid hkl
  have h2n : 2 ≤ n := by have := HN.out; omega
  rw [hn] at hx hpos
  clear hn h3
  have hrm : (((r : Nat) : Int) == -1) = false := by simp <;> omega
  go_enter Tryz.func55, Tryz.ntmps55
  go_wp2_with (first | (go_at_call 73; refine (hx _ _ (Nat.le_refl _)).mono ?_; rintro e w1 ⟨v, rfl, hown, hpl, hb1⟩; obtain ⟨a, cap, rfl, hcap, hcm, hrow⟩ := OwnS.row hown; obtain ⟨ad, rfl, had, hc0⟩ := head_cell hrow; have HROW := Lib.hid hrow; have HZ := Lib.hid (zero_rec hb1); have hK1 : Kinds w1 := (HK.out.alloc _).below hb1 (by simp); have hb2 : Below B w w1 := ((Below.refl B w).alloc hB _).trans (hb1.mono (by simp; omega)); clear hx hown hb1 hrow) | (go_at_call 74; refine (rankOf_tb x _ HR.out _ hK1).mono ?_; rintro e w2 ⟨rfl, hb3⟩; have hz2 := (hb3.block _ (Array.getElem?_eq_some_iff.1 HZ.out).1).trans HZ.out; have HZ2 := Lib.hid hz2; obtain ⟨⟨r0, r1, r2, r3⟩, f0, f1, f2, f3⟩ := rec_cells hz2; have hlt2 : w.heap.size < w2.heap.size := (Array.getElem?_eq_some_iff.1 hz2).1; have hb4 := hb2.trans (hb3.mono (Nat.le_trans hB hb2.size)); have hk1 := ((hK1.below hb3 (hK1.lt)).at r hr).2.1; have hk0 : 0 < w2.heap.size := (by omega); have HROW2 := Lib.hid (HROW.out.below hb3); have HK2 := Lib.hid (hK1.below hb3 hK1.lt); have had2 : ad.block < w2.heap.size := (Nat.lt_of_lt_of_le had hb3.size); have hsz12 : w1.heap.size ≤ w2.heap.size := hb3.size; clear hz2 hK1 hb2 hb3))
  obtain ⟨W, hW⟩ : ∃ W, w2.alloc (.cells #[.int .i64 r, .int .i64 0, .int .i64 0, .int .i64 0] 46) = W := ⟨_, rfl⟩
  have hbW : Below w2.heap.size w2 W := hW ▸ (Below.refl _ _).alloc (Nat.le_refl _) _
  have hbr : W.heap[w2.heap.size]? = some (.cells [.int .i64 r, .int .i64 0, .int .i64 0, .int .i64 0].toArray 46 (0, 0)) := hW ▸ heap_alloc_new _ _
  have hzz := (hbW.block _ hlt2).trans HZ2.out
  have hrw := Lib.hid (HROW2.out.below (hbW.mono (show w1.heap.size ≤ w2.heap.size from hsz12)))
  have hkk := HK2.out.below hbW hk0
  have hBB := hb4.trans (hbW.mono (Nat.le_trans hB hb4.size))
  obtain ⟨br, hbrn⟩ : ∃ br, w2.heap.size = br := ⟨_, rfl⟩
  rw [hbrn] at hbr
  rw [hW, hbrn]
  have hne : br ≠ w.heap.size := by omega
  have hbr1 : w1.heap.size ≤ br := by omega
  have hsz1W : w1.heap.size ≤ W.heap.size := by rw [← hW]; simp; omega
  have hBbr : B ≤ br := by have := hb4.size; omega
  clear r0 r1 r2 r3 f0 f1 f2 f3 hW hbW HZ2 HROW2 HK2 hk1 hb4 hlt2 had2 hk0 HZ HROW hc0
  have hbl : br < W.heap.size := (Array.getElem?_eq_some_iff.1 hbr).1
  clear hbrn hkl hk1l
  have HXL := Lib.hid hxl
  clear hxl
  go_loopw [41] (fun i wr => ∃ (k : Nat) (us : List Int), k ≤ n - 1 ∧ i = .int .i64 k ∧ ValsAt (kf r) xs k us ∧ wr.heap[br]? = some (.cells [.int .i64 r, .int .i64 (us.getD 0 0), .int .i64 (us.getD 1 0), .int .i64 (us.getD 2 0)].toArray 46 (0, 0)) ∧ wr.heap[w.heap.size]? = some (.cells [.int .i64 0, .int .i64 0, .int .i64 0, .int .i64 0].toArray 46 (0, 0)) ∧ RowS wr w1.heap.size (some ad) n (x :: xs) ∧ Kinds wr ∧ Below B w wr ∧ w1.heap.size ≤ wr.heap.size) (fun i _ => n - 1 - (intOf i).toNat)
  case atStart => exact ⟨0, [], Nat.zero_le _, rfl, ValsAt.start _ _, hbr, hzz, hrw.out, hkk, hBB, hsz1W⟩
  case round =>
    clear hbr hzz hrw hkk hBB
    obtain ⟨k, us, hk, rfl, hva, hbr, hzz, hrow, hkk, hBB, hsz1⟩ := hrel
    have hbl := (Array.getElem?_eq_some_iff.1 hbr).1
    have hzl := (Array.getElem?_eq_some_iff.1 hzz).1
    have HVA := Lib.hid hva
    by_cases hlt : k < n - 1
    · have hk3 : k < 3 := by have := HN.out; have := H3.out; have := H4.out; omega
      have hkx : k < xs.length := by have := HN.out; omega
      have hkf : k < (kf r).length := by have := H3.out; omega
      have hkt : k < (tb (kf r)).size := by rw [tb_size]; exact hkf
      obtain ⟨ad', ea, _, hc⟩ := hrow.at (k + 1) (by omega)
      obtain rfl : ad = ad' := by injection ea
      rw [add_next] at hc
      have hck : (x :: xs).getD (k + 1) [] = xs.getD k [] := rfl
      rw [hck] at hc
      have hk1 := (hkk.at r hr).2.1
      obtain ⟨cr, _⟩ := box_cell hbr 0 _ rfl
      have HROW := Lib.hid hrow
      have HKK := Lib.hid hkk
      have HZZ := Lib.hid hzz
      have HBR := Lib.hid hbr
      have hft : (tb (kf r))[k]'hkt = (kf r).getD k 0 := by
        simp only [List.getD, List.getElem?_eq_getElem hkf, Option.getD_some]
        rfl
      obtain ⟨o, ho⟩ : ∃ o, valL ((kf r).getD k 0) (xs.getD k []) = o := ⟨_, rfl⟩
      have hv := value_tb (xs.getD k []) ((tb (kf r))[k]'hkt) (HXL.out k) o (by rw [hft]; exact ho) wr
      have HO := Lib.hid ho
      clear ho hft hrow hkk hva hck ea
      generalize tb (xs.getD k []) = tx at hc hv
      cases o with
      | none =>
        have HE := Lib.hid (HVA.out.stop hkf hkx HO.out)
        simp only [Option.getD_none, Option.isSome_none] at hv
        clear hbr hzz
        go_wp2_with (go_at_call 75; refine hv.mono ?_; rintro e w3 ⟨rfl, hb3⟩; obtain ⟨cs, fs⟩ := box_cell ((hb3.block _ hbl).trans HBR.out) (1 + k) _ (get_rec HVA.out.1 hk3); have hz3 := (hb3.block _ hzl).trans HZZ.out; have HZ3 := Lib.hid hz3; obtain ⟨⟨r0, r1, r2, r3⟩, f0, f1, f2, f3⟩ := rec_cells hz3; have hb4 := hBB.trans (hb3.mono (Nat.le_trans hB hBB.size)); clear hv hz3)
        have hz4 := (Below.heap_setCell w3 ⟨br, 1 + k, none⟩ (.int .i64 0) w.heap.size (fun h => hne h.symm)).trans HZ3.out
        obtain ⟨⟨s0, s1, s2, s3⟩, _⟩ := rec_cells (set4 hz4 (.int .i64 0) (.int .i64 0) (.int .i64 0) (.int .i64 0))
        exact bodyPost_ret (v := recV none) (by simp [results, Tryz.results55, go_sem, s0, s1, s2, s3]; rfl) rfl ⟨by rw [HE.out]; rfl, below4 (hb4.setCell hBbr _) hB _ _ _ _⟩
      | some v =>
        have HE := Lib.hid (HVA.out.next hkf hkx HO.out)
        simp only [Option.getD_some, Option.isSome_some] at hv
        clear hbr hzz
        go_wp2_with (go_at_call 75; refine hv.mono ?_; rintro e w3 ⟨rfl, hb3⟩; obtain ⟨cs, fs⟩ := box_cell ((hb3.block _ hbl).trans HBR.out) (1 + k) _ (get_rec HVA.out.1 hk3); have HB3 := Lib.hid hb3; clear hv)
        go_roundw
        case rel =>
          have hb5 := HB3.out
          refine ⟨k + 1, us ++ [v], by omega, by go_num, HE.out, ?_, ?_, ?_, ?_, (hBB.trans (hb5.mono (Nat.le_trans hB hBB.size))).setCell hBbr _, ?_⟩
          · rw [← set_rec HVA.out.1 hk3]
            exact box_set ((hb5.block _ hbl).trans HBR.out) (1 + k) _
          · exact (Below.heap_setCell w3 ⟨br, 1 + k, none⟩ (.int .i64 v) w.heap.size (fun h => hne h.symm)).trans ((hb5.block _ hzl).trans HZZ.out)
          · exact HROW.out.below ((hb5.mono hsz1).setCell hbr1 _)
          · exact (HKK.out.below hb5 HKK.out.lt).below ((Below.refl br w3).setCell (Nat.le_refl _) _) (by omega)
          · have := hb5.size; simp; omega
        case measure => simp [intOf]; omega
    · have hkn : k = n - 1 := by omega
      have HE := Lib.hid (HVA.out.done (by have := HN.out; have := H3.out; omega) (by have := HN.out; omega))
      have HV : Hid (recV (some (r, us)) = .tuple #[.agg #[.int .i64 r, .int .i64 (us.getD 0 0), .int .i64 (us.getD 1 0), .int .i64 (us.getD 2 0)], .bool true]) := Lib.hid rfl
      generalize us.getD 0 0 = a0 at hbr HV
      generalize us.getD 1 0 = a1 at hbr HV
      generalize us.getD 2 0 = a2 at hbr HV
      obtain ⟨⟨q0, q1, q2, q3⟩, _⟩ := rec_cells hbr
      obtain ⟨⟨r0, r1, r2, r3⟩, f0, f1, f2, f3⟩ := rec_cells hzz
      have HZZ := Lib.hid hzz
      clear hva hbr hzz hrow hkk hq
      go_wp2
      obtain ⟨⟨s0, s1, s2, s3⟩, _⟩ := rec_cells (set4 HZZ.out (.int .i64 r) (.int .i64 a0) (.int .i64 a1) (.int .i64 a2))
      exact bodyPost_ret (v := .tuple #[.agg #[.int .i64 r, .int .i64 a0, .int .i64 a1, .int .i64 a2], .bool true]) (by simp [results, Tryz.results55, go_sem, s0, s1, s2, s3]) rfl ⟨by rw [HE.out]; exact congrArg Ending.returned HV.out.symm, below4 hBB hB _ _ _ _⟩
theorem part_len : ∀ (xs : List (List UInt8)) (k : Nat), (xs.getD k []).length ≤ ((xs.map (32 :: ·)).flatten).length
  | [], k => by simp
  | x :: xs, 0 => by simp; omega
  | x :: xs, k + 1 => by
    have := part_len xs k
    simp only [List.getD_cons_succ, List.map_cons, List.flatten_cons, List.length_append]
    omega
theorem recordOf_any (s : ByteArray) (hs : s.size ≤ 1099511627776) (B : Nat) (w : World) (hB : B ≤ w.heap.size) (hK : Kinds w) :
    Calls Tryz.prog 55 #[.string s] w fun e w' => e = .returned (recV (recL s.data.toList)) ∧ Below B w w' := by
  rcases recL_cases s.data.toList with ⟨h1, h2⟩ | ⟨x, xs, h1, ⟨h2, h3⟩ | ⟨r, h2, hr, ⟨h3, h4⟩ | ⟨h3, h4⟩⟩⟩
  · rw [h2]; exact rec_a s hs B w hB hK h1
  · rw [h3]; exact rec_b s hs B w hB hK x xs h1 h2
  · rw [h4]; exact rec_c s hs B w hB hK x xs h1 r hr h2 h3
  · rw [h4]
    refine rec_d s hs B w hB hK x xs h1 r hr h2 h3 fun k => ?_
    have e := words_back h1
    have hl : s.data.toList.length = s.size := by simp
    rw [e, List.length_append] at hl
    have := part_len xs k
    unfold maxLen
    omega
end Go.Proofs.YtikkfapgmbamlaaGreatDoor.Pl
end
section
/- plan: read: the lines one by one into a configuration that grows. -/
namespace Go.Proofs.YtikkfapgmbamlaaGreatDoor.Pl
open Go.RowKit Ut
set_option linter.unusedVariables false

/-- a configuration as a value -/
abbrev cfgV (p : PC) (vg vr vp vn vs : Value) : Value := .agg #[.int .i64 p.cats, vg, vr, vp, vn, vs, .int .i64 p.gate, .int .i64 p.quota]
abbrev zeroC : Value := .agg #[.int .i64 0, .slice none 0 0, .slice none 0 0, .slice none 0 0, .slice none 0 0, .slice none 0 0, .int .i64 0, .int .i64 0]
abbrev zeroL : List Value := [.int .i64 0, .slice none 0 0, .slice none 0 0, .slice none 0 0, .slice none 0 0, .slice none 0 0, .int .i64 0, .int .i64 0]
/-- its lists, the call's own -/
structure RowsP (w : World) (B : Nat) (p : PC) (vg vr vp vn vs : Value) : Prop where
  og : OwnT 3 w B 59 vg p.gs
  or : OwnT 3 w B 61 vr p.rs
  op : OwnT 2 w B 63 vp p.ps
  on : OwnT 2 w B 65 vn p.ns
  os : OwnT 2 w B 67 vs p.ss
theorem RowsP.below {w w' : World} {B : Nat} {p : PC} {vg vr vp vn vs : Value} (h : RowsP w B p vg vr vp vn vs) (hb : Below w.heap.size w w') : RowsP w' B p vg vr vp vn vs := ⟨h.og.below hb, h.or.below hb, h.op.below hb, h.on.below hb, h.os.below hb⟩
theorem ownT_setRow {k : Nat} {w : World} {B g : Nat} {e t : TypeId} {v : Value} {xs : List (List Int)} {cs new : Array Value} {f : Nat × Nat} (h : OwnT k w B e v xs) (hg : w.heap[g]? = some (Obj.cells cs t f)) (hne : e ≠ t) : OwnT k (w.setRow g new) B e v xs := by
  refine ⟨⟨h.1.1, ?_⟩, h.2⟩
  rcases h.1.2 with h0 | ⟨g', cap, cur, rfl, hB, hg', r⟩
  · exact .inl h0
  · refine .inr ⟨g', cap, cur, rfl, hB, ?_, r⟩
    rw [setRow_other]
    · exact hg'
    · rintro rfl
      rw [hg] at hg'
      injection hg' with e1
      injection e1 with _ e2
      exact hne e2.symm
theorem RowsP.setRow {w : World} {B b : Nat} {p : PC} {vg vr vp vn vs : Value} {cs new : Array Value} {f : Nat × Nat} (h : RowsP w B p vg vr vp vn vs) (hb : w.heap[b]? = some (Obj.cells cs 28 f)) : RowsP (w.setRow b new) B p vg vr vp vn vs :=
  ⟨ownT_setRow h.og hb (by decide), ownT_setRow h.or hb (by decide), ownT_setRow h.op hb (by decide), ownT_setRow h.on hb (by decide), ownT_setRow h.os hb (by decide)⟩
theorem RowsP.set {w : World} {B b o : Nat} {p : PC} {vg vr vp vn vs u : Value} {cs : Array Value} {f : Nat × Nat} (h : RowsP w B p vg vr vp vn vs) (hb : w.heap[b]? = some (Obj.cells cs 28 f)) : RowsP (w.setCell ⟨b, o, none⟩ u) B p vg vr vp vn vs :=
  ⟨ownT_set h.og hb (by decide), ownT_set h.or hb (by decide), ownT_set h.op hb (by decide), ownT_set h.on hb (by decide), ownT_set h.os hb (by decide)⟩
theorem set8 {W : World} {b : Nat} {v0 v1 v2 v3 v4 v5 v6 v7 : Value} {t : TypeId} (h : W.heap[b]? = some (.cells [v0, v1, v2, v3, v4, v5, v6, v7].toArray t (0, 0))) (u0 u1 u2 u3 u4 u5 u6 u7 : Value) :
    ((((((((W.setCell ⟨b, 0, none⟩ u0).setCell ⟨b, 1, none⟩ u1).setCell ⟨b, 2, none⟩ u2).setCell ⟨b, 3, none⟩ u3).setCell ⟨b, 4, none⟩ u4).setCell ⟨b, 5, none⟩ u5).setCell ⟨b, 6, none⟩ u6).setCell ⟨b, 7, none⟩ u7).heap[b]? = some (.cells [u0, u1, u2, u3, u4, u5, u6, u7].toArray t (0, 0)) :=
  box_set (box_set (box_set (box_set (box_set (box_set (box_set (box_set h 0 u0) 1 u1) 2 u2) 3 u3) 4 u4) 5 u5) 6 u6) 7 u7
theorem below8 {B b : Nat} {w W : World} (h : Below B w W) (hb : B ≤ b) (u0 u1 u2 u3 u4 u5 u6 u7 : Value) : Below B w ((((((((W.setCell ⟨b, 0, none⟩ u0).setCell ⟨b, 1, none⟩ u1).setCell ⟨b, 2, none⟩ u2).setCell ⟨b, 3, none⟩ u3).setCell ⟨b, 4, none⟩ u4).setCell ⟨b, 5, none⟩ u5).setCell ⟨b, 6, none⟩ u6).setCell ⟨b, 7, none⟩ u7) :=
  (((((((h.setCell hb _).setCell hb _).setCell hb _).setCell hb _).setCell hb _).setCell hb _).setCell hb _).setCell hb _
theorem rows8 {W : World} {B b : Nat} {p : PC} {vg vr vp vn vs : Value} (h : RowsP W B p vg vr vp vn vs) {v0 v1 v2 v3 v4 v5 v6 v7 : Value} (hb : W.heap[b]? = some (.cells [v0, v1, v2, v3, v4, v5, v6, v7].toArray 28 (0, 0))) (u0 u1 u2 u3 u4 u5 u6 u7 : Value) :
    RowsP ((((((((W.setCell ⟨b, 0, none⟩ u0).setCell ⟨b, 1, none⟩ u1).setCell ⟨b, 2, none⟩ u2).setCell ⟨b, 3, none⟩ u3).setCell ⟨b, 4, none⟩ u4).setCell ⟨b, 5, none⟩ u5).setCell ⟨b, 6, none⟩ u6).setCell ⟨b, 7, none⟩ u7) B p vg vr vp vn vs := (((((((h.set hb).set (box_set (hb) 0 u0)).set (box_set (box_set (hb) 0 u0) 1 u1)).set (box_set (box_set (box_set (hb) 0 u0) 1 u1) 2 u2)).set (box_set (box_set (box_set (box_set (hb) 0 u0) 1 u1) 2 u2) 3 u3)).set (box_set (box_set (box_set (box_set (box_set (hb) 0 u0) 1 u1) 2 u2) 3 u3) 4 u4)).set (box_set (box_set (box_set (box_set (box_set (box_set (hb) 0 u0) 1 u1) 2 u2) 3 u3) 4 u4) 5 u5)).set (box_set (box_set (box_set (box_set (box_set (box_set (box_set (hb) 0 u0) 1 u1) 2 u2) 3 u3) 4 u4) 5 u5) 6 u6)
theorem cells8 {W : World} {b : Nat} {v0 v1 v2 v3 v4 v5 v6 v7 : Value} {t : TypeId} (h : W.heap[b]? = some (.cells [v0, v1, v2, v3, v4, v5, v6, v7].toArray t (0, 0))) :
    (W.cell? ⟨b, 0, none⟩ = some v0 ∧ W.cell? ⟨b, 1, none⟩ = some v1 ∧ W.cell? ⟨b, 2, none⟩ = some v2 ∧ W.cell? ⟨b, 3, none⟩ = some v3 ∧ W.cell? ⟨b, 4, none⟩ = some v4 ∧ W.cell? ⟨b, 5, none⟩ = some v5 ∧ W.cell? ⟨b, 6, none⟩ = some v6 ∧ W.cell? ⟨b, 7, none⟩ = some v7) ∧ (W.frozen? ⟨b, 0, none⟩ = false ∧ W.frozen? ⟨b, 1, none⟩ = false ∧ W.frozen? ⟨b, 2, none⟩ = false ∧ W.frozen? ⟨b, 3, none⟩ = false ∧ W.frozen? ⟨b, 4, none⟩ = false ∧ W.frozen? ⟨b, 5, none⟩ = false ∧ W.frozen? ⟨b, 6, none⟩ = false ∧ W.frozen? ⟨b, 7, none⟩ = false) :=
  ⟨⟨(box_cell h 0 _ rfl).1, (box_cell h 1 _ rfl).1, (box_cell h 2 _ rfl).1, (box_cell h 3 _ rfl).1, (box_cell h 4 _ rfl).1, (box_cell h 5 _ rfl).1, (box_cell h 6 _ rfl).1, (box_cell h 7 _ rfl).1⟩, (box_cell h 0 _ rfl).2, (box_cell h 1 _ rfl).2, (box_cell h 2 _ rfl).2, (box_cell h 3 _ rfl).2, (box_cell h 4 _ rfl).2, (box_cell h 5 _ rfl).2, (box_cell h 6 _ rfl).2, (box_cell h 7 _ rfl).2⟩
theorem results_read (tmps : Array Value) (w : World) (g : Nat) (cs : Array Value) (x : Value) (h2 : tmps.getD 2 undef = .pointer (some ⟨g, 0, none⟩)) (h3 : tmps.getD 3 undef = x) (hg : w.heap[g]? = some (.cells cs 28 (0, 0))) (hn : (Tryz.prog.info? 28).map (·.size) = some cs.size) :
    (results Tryz.f20 tmps).run Tryz.prog w = .ok (.tuple #[.agg cs, x]) w := by
  have hp' : tmps[2]?.getD undef = .pointer (some ⟨g, 0, none⟩) := by simpa using h2
  have hp3 : tmps[3]?.getD undef = x := by simpa using h3
  simp [results, Tryz.results20, hp', hp3, asAddr, run_loadVar_row w g 28 28 cs (0, 0) _ hg Tryz.underlying28 rfl hn]
/-- an operation that yields v and leaves the world -/
theorem wpList_value {P : Program} {w : World} {ops : Array Oper} {rest : List Oper} {o : Oper} {a : Act} {Q : Exit → Act → World → Prop} (hgd : o.guard = none) (v : Value) (hr : (execOp a.eval o).run P w = .ok (.value v) w) (h : wpList P ops Q rest (a.put o.dst v) w) : wpList P ops Q (o :: rest) a w :=
  wpList_plain hgd fun _ hK => by
    unfold Oper.wp
    simp only [hr]
    exact hK _ _ h
theorem zero_cells {W : World} {b : Nat} (h : W.heap[b]? = some (.cells zeroL.toArray 28 (0, 0))) :
    (W.cell? ⟨b, 0, none⟩ = some (.int .i64 0) ∧ W.cell? ⟨b, 1, none⟩ = some (.slice none 0 0) ∧ W.cell? ⟨b, 2, none⟩ = some (.slice none 0 0) ∧ W.cell? ⟨b, 3, none⟩ = some (.slice none 0 0) ∧ W.cell? ⟨b, 4, none⟩ = some (.slice none 0 0) ∧ W.cell? ⟨b, 5, none⟩ = some (.slice none 0 0) ∧ W.cell? ⟨b, 6, none⟩ = some (.int .i64 0) ∧ W.cell? ⟨b, 7, none⟩ = some (.int .i64 0)) ∧
    (W.frozen? ⟨b, 0, none⟩ = false ∧ W.frozen? ⟨b, 1, none⟩ = false ∧ W.frozen? ⟨b, 2, none⟩ = false ∧ W.frozen? ⟨b, 3, none⟩ = false ∧ W.frozen? ⟨b, 4, none⟩ = false ∧ W.frozen? ⟨b, 5, none⟩ = false ∧ W.frozen? ⟨b, 6, none⟩ = false ∧ W.frozen? ⟨b, 7, none⟩ = false) := cells8 h
theorem own_one {k : Nat} {w : World} {B : Nat} {e : TypeId} {v : Value} {xs : List (List Int)} (h : OwnT k w B e v xs) : v.oneCell' = true := by
  rcases h.1.2 with ⟨rfl, _⟩ | ⟨g, cap, cur, rfl, _⟩ <;> rfl
theorem cfg_one {w : World} {B b : Nat} {p : PC} {vg vr vp vn vs : Value} (h : BoxP w B b p vg vr vp vn vs) : (#[.int .i64 p.cats, vg, vr, vp, vn, vs, .int .i64 p.gate, .int .i64 p.quota] : Array Value).all (·.oneCell') = true := by
  have e : ∀ l : List Value, (∀ v ∈ l, v.oneCell' = true) → l.toArray.all (·.oneCell') = true := fun l hl => Array.all_eq_true_iff_forall_mem.2 fun v hv => hl v (by simpa using hv)
  refine e [.int .i64 p.cats, vg, vr, vp, vn, vs, .int .i64 p.gate, .int .i64 p.quota] fun v hv => ?_
  simp only [List.mem_cons, List.not_mem_nil, or_false] at hv
  rcases hv with rfl | rfl | rfl | rfl | rfl | rfl | rfl | rfl
  · rfl
  · exact own_one h.og
  · exact own_one h.or
  · exact own_one h.op
  · exact own_one h.on
  · exact own_one h.os
  · rfl
  · rfl
/-- what read answers -/
def ReadPost (q : Nat ⊕ PC) (B : Nat) (e : Ending) (w' : World) : Prop := match q with
  | .inl n => e = .returned (.tuple #[zeroC, .int .i64 n])
  | .inr p => ∃ vg vr vp vn vs, e = .returned (.tuple #[cfgV p vg vr vp vn vs, .int .i64 0]) ∧ RowsP w' B p vg vr vp vn vs
theorem runL_drop {ls : List (List UInt8)} {k : Nat} (hk : k < ls.length) (c : PC) (last : Int) : runL (ls.drop k) c last k = match recL (ls.getD k []) with
    | some (r, v) => if folL r last = true then runL (ls.drop (k + 1)) (c.put r v) r (k + 1) else .inl (k + 1)
    | none => .inl (k + 1) := by
  rw [List.drop_eq_getElem_cons hk, runL]
  simp only [List.getD, List.getElem?_eq_getElem hk, Option.getD_some]
  cases recL ls[k] <;> rfl
theorem runL_end {ls : List (List UInt8)} {k : Nat} (hk : ls.length ≤ k) (c : PC) (last : Int) : runL (ls.drop k) c last k = .inr c := by
  rw [List.drop_of_length_le hk]; rfl
theorem size_pc0 : pc0.size = 0 := rfl
end Go.Proofs.YtikkfapgmbamlaaGreatDoor.Pl
end
