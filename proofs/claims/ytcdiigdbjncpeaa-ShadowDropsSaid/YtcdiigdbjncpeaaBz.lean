/- The document's tables in the shadow: Fill. -/
import Derived.Test.YtcdiigdbjncpeaaBy
namespace Go.Proofs.Ytcdiigdbjncpeaa.Sw
open Go.RowKit Ut
set_option maxRecDepth 100000
set_option linter.unusedVariables false
set_option maxHeartbeats 8000000

/-- which pages are told; those that are there then; which lose the right to write; what is left -/
def tellB (l : List Ln) (r f : Int) (p : Nat) : Bool := ((p : Int) == r || (p : Int) == f) && !tabL l p
def toldS (l : List Ln) (r f : Int) (i : Nat) : List (List Int) := ((List.range i).filter fun p => tellB l r f p).map fun p : Nat => [(p : Int)]
def withS (l : List Ln) (p q : Int) : List Ln := l.filter fun x => !x.is p q
def addS (l : List Ln) (x : Ln) : List Ln := if 32 < (withS l x.kr x.kp).length + 1 then (withS l x.kr x.kp ++ [x]).drop 1 else withS l x.kr x.kp ++ [x]
def loseB (m : List Ln) (r f : Int) (i : Nat) (z : Ln) : Bool := z.ep == r || (z.ep == f || (decide (i + 1 = m.length) && tabL m z.ep))
def clrS (z : Ln) : Ln := { z with er := bits .andNot .i64 z.er 2 }
def outS (m : List Ln) (r f : Int) (i : Nat) : List Ln := (m.take i).mapIdx fun j z => if loseB m r f j z = true then clrS z else z
def fillS (l : List Ln) (x : Ln) : List Ln := outS (addS l x) x.rt x.lf (addS l x).length
theorem told_snoc (l : List Ln) (r f : Int) (i : Nat) : toldS l r f (i + 1) = toldS l r f i ++ (if tellB l r f i = true then [[(i : Int)]] else []) := by
  unfold toldS
  rw [List.range_succ, List.filter_append, List.map_append]
  congr 1
  by_cases h : tellB l r f i = true
  · rw [if_pos h]; simp [h]
  · rw [if_neg h]; simp [h]
theorem told_len (l : List Ln) (r f : Int) (i : Nat) : (toldS l r f i).length ≤ i := by
  unfold toldS
  rw [List.length_map]
  have := List.length_filter_le (fun p => tellB l r f p) (List.range i)
  rwa [List.length_range] at this
theorem withS_at {l : List Ln} {p q : Int} {i : Nat} {x : Ln} (hx : l[i]? = some x) : withS (l.take (i + 1)) p q = withS (l.take i) p q ++ (if x.is p q = true then [] else [x]) := by
  unfold withS
  rw [List.take_add_one, hx, List.filter_append]
  by_cases h : x.is p q = true
  · rw [if_pos h]; simp [h]
  · rw [if_neg h]; simp [h]
theorem withS_len (l : List Ln) (p q : Int) : (withS l p q).length ≤ l.length := List.length_filter_le _ _
theorem outS_at {m : List Ln} {r f : Int} {i : Nat} {z : Ln} (hz : m[i]? = some z) : outS m r f (i + 1) = outS m r f i ++ [if loseB m r f i z = true then clrS z else z] := by
  have hi := (List.getElem?_eq_some_iff.1 hz).1
  unfold outS
  rw [List.take_add_one, hz, Option.toList_some, List.mapIdx_concat]
  rw [List.length_take, Nat.min_eq_left (by omega)]
theorem outS_len (m : List Ln) (r f : Int) (i : Nat) : (outS m r f i).length = min i m.length := by unfold outS; rw [List.length_mapIdx, List.length_take]
theorem tell_cases (l : List Ln) (r f : Int) (p : Nat) : (((p : Int) == r) = true ∧ tellB l r f p = !tabL l p) ∨ (((p : Int) == r) = false ∧ ((p : Int) == f) = true ∧ tellB l r f p = !tabL l p) ∨ (((p : Int) == r) = false ∧ ((p : Int) == f) = false ∧ tellB l r f p = false) := by
  unfold tellB
  cases (p : Int) == r <;> cases (p : Int) == f <;> simp
theorem lose_cases (m : List Ln) (r f : Int) (i : Nat) (z : Ln) : ((z.ep == r) = true ∧ loseB m r f i z = true) ∨ ((z.ep == r) = false ∧ (z.ep == f) = true ∧ loseB m r f i z = true) ∨ ((z.ep == r) = false ∧ (z.ep == f) = false ∧ i + 1 = m.length ∧ loseB m r f i z = tabL m z.ep) ∨ ((z.ep == r) = false ∧ (z.ep == f) = false ∧ ¬ i + 1 = m.length ∧ loseB m r f i z = false) := by
  unfold loseB
  by_cases h : i + 1 = m.length
  · cases z.ep == r <;> cases z.ep == f <;> simp [h]
  · cases z.ep == r <;> cases z.ep == f <;> simp [h]
theorem info_int19 : (Try.prog.info? 3).map (fun i => (i.zero, i.size, i.bytes)) = some (some (.int .i64 0), 1, 8) := by kernel_rfl
/-- two rows of Fill's own: what is told, and lines -/
structure FS (w W : World) (B : Nat) (u v : Value) (ts : List (List Int)) (s : List Ln) : Prop where
  ku : OwnT 1 W B 3 u ts
  kv : OwnT 7 W B 68 v (s.map Ln.l)
  b : Below B w W
section
variable {w W W' : World} {B : Nat} {u v u' v' : Value} {ts ts' : List (List Int)} {s s' : List Ln}
theorem FS.more (h : FS w W B u v ts s) (hb : Below W.heap.size W W') (hB : B ≤ W.heap.size) : FS w W' B u v ts s := ⟨h.ku.below hb, h.kv.below hb, h.b.trans (hb.mono hB)⟩
theorem FS.int (h : FS w W B u v ts s) (ho : OwnT 1 W' B 3 u' ts') (hg : W.grownBy W' u.ownBlock) (hB : B ≤ W.heap.size) : FS w W' B u' v ts' s :=
  ⟨ho, ⟨ownsRow_other h.kv.1 hg (fun q cs e' f hq hc => by rw [own_tag h.ku.1 q cs e' f hq hc]; decide), h.kv.2⟩, h.b.grown hg hB (fun q hq => (World.ownsRow.lt h.ku.1 q hq).1)⟩
theorem FS.line (h : FS w W B u v ts s) (ho : OwnT 7 W' B 68 v' (s'.map Ln.l)) (hg : W.grownBy W' v.ownBlock) (hB : B ≤ W.heap.size) : FS w W' B u v' ts s' :=
  ⟨⟨ownsRow_other h.ku.1 hg (fun q cs e' f hq hc => by rw [own_tag h.kv.1 q cs e' f hq hc]; decide), h.ku.2⟩, ho, h.b.grown hg hB (fun q hq => (World.ownsRow.lt h.kv.1 q hq).1)⟩
end
section
variable {d n cap : Nat} {a : Option Addr} {l : List Ln}
theorem refFill_no (p q ep ef er r f : Int) (v : Value) (w : World) (h : ownP r = false ∨ (ownP r = true ∧ ownP f = false)) (hd : ∃ d : Nat, v = .pointer (some ⟨d, 0, none⟩)) :
    Calls Try.prog 12 #[v, .agg #[.int .i64 p, .int .i64 q], .agg #[.int .i64 ep, .int .i64 ef, .int .i64 er], .int .i64 r, .int .i64 f] w fun e w' => e = .returned (.tuple #[.slice none 0 0, .int .i64 1]) ∧ Below w.heap.size w w' := by
  obtain ⟨d, rfl⟩ := hd
  have HBB : Hid (∀ o o' : Obj, Below w.heap.size w ((w.alloc o).alloc o')) := Lib.hid fun o o' => ((Below.refl _ _).alloc (Nat.le_refl _) _).alloc (by simp) _
  have H1 := Lib.hid (fun W => refOwn_any r W)
  have H2 := Lib.hid (fun W => refOwn_any f W)
  rcases h with h | ⟨h, h2⟩
  · rw [h] at H1
    clear h
    go_enter Try.func12, Try.ntmps12
    go_wp2_with fail
    refine (H1.out _).mono ?_
    rintro e w1 ⟨rfl, rfl⟩
    go_wp2
    go_ret2
    exact ⟨rfl, HBB.out _ _⟩
  · rw [h] at H1
    rw [h2] at H2
    clear h h2
    go_enter Try.func12, Try.ntmps12
    go_wp2_with fail
    refine (H1.out _).mono ?_
    rintro e w1 ⟨rfl, rfl⟩
    go_wp2_with fail
    refine (H2.out _).mono ?_
    rintro e w1 ⟨rfl, rfl⟩
    go_wp2
    go_ret2
    exact ⟨rfl, HBB.out _ _⟩

theorem refFill_yes (x : Ln) (w : World) (h : DS w d a n cap l) (hn : n ≤ 1000) (hr : ownP x.rt = true) (hf : ownP x.lf = true) :
    Calls Try.prog 12 #[.pointer (some ⟨d, 0, none⟩), .agg #[.int .i64 x.kr, .int .i64 x.kp], .agg #[.int .i64 x.ep, .int .i64 x.ef, .int .i64 x.er], .int .i64 x.rt, .int .i64 x.lf] w fun e w' => (∃ b c, e = .returned (.tuple #[.slice b (toldS l x.rt x.lf 8).length c, .int .i64 0]) ∧ Hid (IRow 1 w' b (toldS l x.rt x.lf 8) ∧ ∀ y, b = some y → w.heap.size ≤ y.block)) ∧ DSE w' w.heap.size d (fillS l x) ∧ Kq [d] w w' := by
  obtain ⟨U, hU⟩ : ∃ U, U = (w.alloc (.cells #[.int .i64 x.kr, .int .i64 x.kp] 30)).alloc (.cells #[.int .i64 x.ep, .int .i64 x.ef, .int .i64 x.er] 32) := ⟨_, rfl⟩
  have hB : Below w.heap.size w U := by rw [hU]; exact ((Below.refl _ _).alloc (Nat.le_refl _) _).alloc (by simp) _
  have hk : Blk U w.heap.size 30 [.int .i64 x.kr, .int .i64 x.kp] := by rw [hU]; exact (Blk.new w _ [.int .i64 x.kr, .int .i64 x.kp]).more ((Below.refl _ _).alloc (Nat.le_refl _) _)
  have he : Blk U (w.heap.size + 1) 32 [.int .i64 x.ep, .int .i64 x.ef, .int .i64 x.er] := by
    have := Blk.new (w.alloc (.cells #[.int .i64 x.kr, .int .i64 x.kp] 30)) 32 [.int .i64 x.ep, .int .i64 x.ef, .int .i64 x.er]
    rw [World.size_alloc] at this
    rw [hU]
    exact this
  have hsz : U.heap.size = w.heap.size + 2 := by rw [hU]; simp
  have HSZ := Lib.hid hsz
  have HU := Lib.hid hU
  have HB := Lib.hid hB
  have HK := Lib.hid hk
  have HE := Lib.hid he
  have HDL := Lib.hid h.blk.lt
  have HD := Lib.hid (h.more hB)
  have HN0 := Lib.hid hn
  have H1 := Lib.hid (fun W => refOwn_any x.rt W)
  have H2 := Lib.hid (fun W => refOwn_any x.lf W)
  rw [hr] at H1
  rw [hf] at H2
  have hn0 : (n : Int) ≤ 1000 := by omega
  clear hU hB hk he h hn hr hf hsz
  obtain ⟨kr, kp, ep, ef, er, rt, lf⟩ := x
  dsimp only at HU HK HE H1 H2 ⊢
  go_enter Try.func12, Try.ntmps12
  go_upto_region 1 with fail
  rw [← HU.out]
  clear HU
  go_wp2_with fail
  refine (H1.out _).mono ?_
  rintro e w1 ⟨rfl, rfl⟩
  go_wp2_with fail
  refine (H2.out _).mono ?_
  rintro e w1 ⟨rfl, rfl⟩
  clear H1 H2
  go_wp2
  go_loopw [12, 13] (fun u j wr => ∃ (i k : Nat) (b : Option Addr) (c : Nat), i ≤ 8 ∧ u = .slice b k c ∧ j = .int .i64 i ∧ Hid ((toldS l rt lf i).length = k) ∧ Hid (FS U wr U.heap.size (.slice b k c) (.slice none 0 0) (toldS l rt lf i) [])) (fun _ j _ => 8 - (intOf j).toNat)
  case atStart => exact ⟨0, 0, none, 0, Nat.zero_le _, rfl, rfl, rfl, Lib.hid ⟨OwnT.nil _ _ _ _, OwnT.nil _ _ _ _, Below.refl _ _⟩⟩
  case round =>
    obtain ⟨i, k, b, c, hi, rfl, rfl, HLK, HF⟩ := hrel
    have HDW := Lib.hid (HD.out.more HF.out.b)
    by_cases hin : i < 8
    · have f0 : (i : Int) < 8 := by omega
      have H3 := Lib.hid hin
      obtain ⟨t, ht⟩ : ∃ t, tabL l (i : Int) = t := ⟨_, rfl⟩
      have HTB := Lib.hid (fun W (h : DS W d a n cap l) => refTable_any (i : Int) t ht W h (by have := HN0.out; omega))
      have hts := told_snoc l rt lf i
      have hcases := tell_cases l rt lf i
      rw [ht] at hcases
      clear hin hi ht
      rcases hcases with ⟨t1, t3⟩ | ⟨t1, t2, t3⟩ | ⟨t1, t2, t3⟩
      rotate_left 2
      · rw [t3, if_neg (by decide), List.append_nil] at hts
        have HK9 : Hid ((toldS l rt lf (i + 1)).length = k) := Lib.hid (by rw [hts, HLK.out])
        have HF9 : Hid (FS U wr U.heap.size (.slice b k c) (.slice none 0 0) (toldS l rt lf (i + 1)) []) := Lib.hid (by rw [hts]; exact HF.out)
        clear t3 hts HF HLK
        go_wp2
        go_roundw
        case rel => exact ⟨i + 1, k, b, c, by have := H3.out; omega, rfl, by go_num, HK9, HF9⟩
        case measure => have := H3.out; simp [intOf]; omega
      all_goals
        rw [t3] at hts
        clear t3
        cases t
        · rw [if_pos (by decide)] at hts
          have HTS := Lib.hid hts
          clear hts
          go_wp2_with fail
          refine (HTB.out _ HDW.out).mono ?_
          rintro e w2 ⟨rfl, hb2⟩
          have hF2 := HF.out.more hb2 HF.out.b.size
          obtain ⟨ba, cap5, w5, hrun, ho5, hg5, _⟩ := push_new (P := Try.prog) (t := 35) (ty := 35) Try.underlying35 info_int19 rfl (by decide) (by decide) hF2.ku [(i : Int)] rfl (by have := told_len l rt lf i; have := H3.out; omega) hF2.b.size
          rw [HLK.out] at hrun ho5
          have HRUN : Hid ((Builtin.append_ #[35, 35] 35 #[.slice b k c, .slice (some ⟨w2.heap.size, 0, none⟩) 1 1]).run Try.prog (w2.alloc (.cells #[.int .i64 i] 3)) = .ok (.slice ba (k + 1) cap5) w5) := Lib.hid hrun
          have HF9 : Hid (FS U w5 U.heap.size (.slice ba (k + 1) cap5) (.slice none 0 0) (toldS l rt lf (i + 1)) []) := Lib.hid (by rw [HTS.out]; exact hF2.int ho5 hg5 hF2.b.size)
          have HK9 : Hid ((toldS l rt lf (i + 1)).length = k + 1) := Lib.hid (by rw [HTS.out, List.length_append, HLK.out]; rfl)
          clear hb2 hF2 hrun ho5 hg5 HF HDW HTS HTB HLK
          go_wp2_with (refine wpList_append_run rfl _ _ 35 rfl _ _ rfl rfl _ _ HRUN.out ?_)
          go_wp2
          go_roundw
          case rel => exact ⟨i + 1, k + 1, ba, cap5, by have := H3.out; omega, rfl, by go_num, HK9, HF9⟩
          case measure => have := H3.out; simp [intOf]; omega
        · rw [if_neg (by decide), List.append_nil] at hts
          have HTS := Lib.hid hts
          clear hts
          go_wp2_with fail
          refine (HTB.out _ HDW.out).mono ?_
          rintro e w2 ⟨rfl, hb2⟩
          have HK9 : Hid ((toldS l rt lf (i + 1)).length = k) := Lib.hid (by rw [HTS.out, HLK.out])
          have HF9 : Hid (FS U w2 U.heap.size (.slice b k c) (.slice none 0 0) (toldS l rt lf (i + 1)) []) := Lib.hid (by rw [HTS.out]; exact HF.out.more hb2 HF.out.b.size)
          clear hb2 HF HDW HTS HTB HLK
          go_wp2
          go_roundw
          case rel => exact ⟨i + 1, k, b, c, by have := H3.out; omega, rfl, by go_num, HK9, HF9⟩
          case measure => have := H3.out; simp [intOf]; omega
    · have f0 : ¬ (i : Int) < 8 := by omega
      obtain rfl : i = 8 := by omega
      obtain ⟨ts, hts⟩ : ∃ ts, toldS l rt lf 8 = ts := ⟨_, rfl⟩
      have HTS := Lib.hid hts
      rw [hts] at HLK HF
      clear hts hi hin HDW
      go_wp2
      go_loopw [14, 15] (fun v j wr => ∃ (i m : Nat) (b2 : Option Addr) (c2 : Nat), i ≤ n ∧ v = .slice b2 m c2 ∧ j = .int .i64 i ∧ Hid ((withS (l.take i) kr kp).length = m) ∧ Hid (FS U wr U.heap.size (.slice b k c) (.slice b2 m c2) ts (withS (l.take i) kr kp))) (fun _ j _ => n - (intOf j).toNat)
      case atStart => exact ⟨0, 0, none, 0, Nat.zero_le _, rfl, rfl, rfl, HF⟩
      case round =>
        clear HF
        obtain ⟨i, m, b2, c2, hi, rfl, rfl, HLM, HF⟩ := hrel
        have HDW := Lib.hid (HD.out.more HF.out.b)
        have c0 := HDW.out.cell0
        have cl := HDW.out.blk.lt
        by_cases hin : i < n
        · have f0 : (i : Int) < (n : Int) := by omega
          have f2 : (0 : Int) ≤ (i : Int) := by omega
          have hx : l[i]? = some (l[i]'(by rw [HD.out.len]; exact hin)) := List.getElem?_eq_getElem _
          obtain ⟨x, hxx⟩ : ∃ x, l[i]'(by rw [HD.out.len]; exact hin) = x := ⟨_, rfl⟩
          rw [hxx] at hx
          obtain ⟨y1, rfl, hyb, hyb2, d0, d1, d2, d3, d4, d5, d6⟩ := HDW.out.row.at_ hx
          have k0 := (HK.out.more HF.out.b).cell (j := 0) rfl
          have k1 := (HK.out.more HF.out.b).cell (j := 1) rfl
          have kl := (HK.out.more HF.out.b).lt
          have HX := Lib.hid hx
          have H3 := Lib.hid hin
          have hws := withS_at (p := kr) (q := kp) hx
          have hm1 : m + 1 ≤ 1000000 := by
            have h1 := HLM.out
            have h2 := withS_len (l.take i) kr kp
            rw [List.length_take] at h2
            have := HN0.out
            omega
          have HM1 := Lib.hid hm1
          clear hx hxx hin hi hm1
          have hcases := isS_cases x kr kp
          obtain ⟨zr, zp, ze, zf, zg, zt, zl⟩ := x
          dsimp only at hcases d0 d1 d2 d3 d4 d5 d6
          rcases hcases with ⟨hy, h1, h2⟩ | ⟨hy, h1⟩ | ⟨hy, h1, h2⟩
          · rw [if_pos hy, List.append_nil] at hws
            have HM9 : Hid ((withS (l.take (i + 1)) kr kp).length = m) := Lib.hid (by rw [hws, HLM.out])
            have HF9 : Hid (∀ q, FS U (wr.drewN q) U.heap.size (.slice b k c) (.slice b2 m c2) ts (withS (l.take (i + 1)) kr kp)) := Lib.hid (fun q => by rw [hws]; exact HF.out.more (drewN_below (Below.refl _ _) q) HF.out.b.size)
            subst h1 h2
            clear hy hws HF HLM d2 d3 d4 d5 d6
            go_upto_region 13 with fail
            go_quiet (fail)
            go_wp2
            go_roundw
            case rel => exact ⟨i + 1, m, b2, c2, H3.out, rfl, by go_num, HM9, HF9.out _⟩
            case measure => have := H3.out; simp [intOf]; omega
          rotate_left
          · subst h1
            rw [if_neg (by rw [hy]; decide)] at hws
            have HWS := Lib.hid hws
            clear hy hws
            go_upto_region 13 with fail
            go_quiet (fail)
            have hF2 := HF.out.more (drewN_below (Below.refl wr.heap.size wr) nq) HF.out.b.size
            have hD2 := HDW.out.more (drewN_below (Below.refl wr.heap.size wr) nq)
            generalize wr.drewN nq = w2 at hF2 hD2 ⊢
            obtain ⟨y2, hy2, hyb, hyb2, d0, d1, d2, d3, d4, d5, d6⟩ := hD2.row.at_ HX.out
            injection hy2 with hy2
            subst hy2
            dsimp only at d0 d1 d2 d3 d4 d5 d6
            have c0 := hD2.cell0
            have cl := hD2.blk.lt
            obtain ⟨ba, cap5, w5, hrun, ho5, hg5, _⟩ := push_new (P := Try.prog) (t := 26) (ty := 26) Try.underlying26 info_line19 rfl (by decide) (by decide) hF2.kv [zr, zp, ze, zf, zg, zt, zl] rfl (by rw [List.length_map, HLM.out]; exact HM1.out) hF2.b.size
            rw [List.length_map, HLM.out] at hrun ho5
            have HRUN : Hid ((Builtin.append_ #[26, 26] 26 #[.slice b2 m c2, .slice (some ⟨w2.heap.size, 0, none⟩) 1 1]).run Try.prog (w2.alloc (.cells #[.int .i64 zr, .int .i64 zp, .int .i64 ze, .int .i64 zf, .int .i64 zg, .int .i64 zt, .int .i64 zl] 68)) = .ok (.slice ba (m + 1) cap5) w5) := Lib.hid hrun
            have HF9 : Hid (FS U w5 U.heap.size (.slice b k c) (.slice ba (m + 1) cap5) ts (withS (l.take (i + 1)) zr kp)) := Lib.hid (by rw [HWS.out]; exact hF2.line (by rw [List.map_append]; exact ho5) hg5 hF2.b.size)
            have HM9 : Hid ((withS (l.take (i + 1)) zr kp).length = m + 1) := Lib.hid (by rw [HWS.out, List.length_append, HLM.out]; rfl)
            clear hF2 hD2 hrun ho5 hg5 HF HLM HDW HWS k0 k1 kl
            go_wp2_with (refine wpList_append_run rfl _ _ 26 rfl _ _ rfl rfl _ _ HRUN.out ?_)
            go_wp2
            go_roundw
            case rel => exact ⟨i + 1, m + 1, ba, cap5, H3.out, rfl, by go_num, HM9, HF9⟩
            case measure => have := H3.out; simp [intOf]; omega
          · rw [if_neg (by rw [hy]; decide)] at hws
            have HWS := Lib.hid hws
            clear hy hws
            go_upto_region 13 with fail
            go_quiet (fail)
            have hF2 := HF.out.more (drewN_below (Below.refl wr.heap.size wr) nq) HF.out.b.size
            have hD2 := HDW.out.more (drewN_below (Below.refl wr.heap.size wr) nq)
            generalize wr.drewN nq = w2 at hF2 hD2 ⊢
            obtain ⟨y2, hy2, hyb, hyb2, d0, d1, d2, d3, d4, d5, d6⟩ := hD2.row.at_ HX.out
            injection hy2 with hy2
            subst hy2
            dsimp only at d0 d1 d2 d3 d4 d5 d6
            have c0 := hD2.cell0
            have cl := hD2.blk.lt
            obtain ⟨ba, cap5, w5, hrun, ho5, hg5, _⟩ := push_new (P := Try.prog) (t := 26) (ty := 26) Try.underlying26 info_line19 rfl (by decide) (by decide) hF2.kv [zr, zp, ze, zf, zg, zt, zl] rfl (by rw [List.length_map, HLM.out]; exact HM1.out) hF2.b.size
            rw [List.length_map, HLM.out] at hrun ho5
            have HRUN : Hid ((Builtin.append_ #[26, 26] 26 #[.slice b2 m c2, .slice (some ⟨w2.heap.size, 0, none⟩) 1 1]).run Try.prog (w2.alloc (.cells #[.int .i64 zr, .int .i64 zp, .int .i64 ze, .int .i64 zf, .int .i64 zg, .int .i64 zt, .int .i64 zl] 68)) = .ok (.slice ba (m + 1) cap5) w5) := Lib.hid hrun
            have HF9 : Hid (FS U w5 U.heap.size (.slice b k c) (.slice ba (m + 1) cap5) ts (withS (l.take (i + 1)) kr kp)) := Lib.hid (by rw [HWS.out]; exact hF2.line (by rw [List.map_append]; exact ho5) hg5 hF2.b.size)
            have HM9 : Hid ((withS (l.take (i + 1)) kr kp).length = m + 1) := Lib.hid (by rw [HWS.out, List.length_append, HLM.out]; rfl)
            clear hF2 hD2 hrun ho5 hg5 HF HLM HDW HWS k0 k1 kl
            go_wp2_with (refine wpList_append_run rfl _ _ 26 rfl _ _ rfl rfl _ _ HRUN.out ?_)
            go_wp2
            go_roundw
            case rel => exact ⟨i + 1, m + 1, ba, cap5, H3.out, rfl, by go_num, HM9, HF9⟩
            case measure => have := H3.out; simp [intOf]; omega
        · have f0 : ¬ (i : Int) < (n : Int) := by omega
          obtain rfl : i = n := by omega
          have hl : l.take i = l := by rw [← HD.out.len, List.take_length]
          rw [hl] at HLM HF
          have k0 := (HK.out.more HF.out.b).cell (j := 0) rfl
          have k1 := (HK.out.more HF.out.b).cell (j := 1) rfl
          have kl := (HK.out.more HF.out.b).lt
          have q0 := (HE.out.more HF.out.b).cell (j := 0) rfl
          have q1 := (HE.out.more HF.out.b).cell (j := 1) rfl
          have q2 := (HE.out.more HF.out.b).cell (j := 2) rfl
          have ql := (HE.out.more HF.out.b).lt
          have hm1 : m + 1 ≤ 1001 := by
            have h1 := HLM.out
            have h2 := withS_len l kr kp
            rw [HD.out.len] at h2
            have := HN0.out
            omega
          obtain ⟨N, hN⟩ : ∃ N, m + 1 = N := ⟨_, rfl⟩
          have HNN := Lib.hid hN
          obtain ⟨ba, cap5, w5, hrun, ho5, hg5, _⟩ := push_new (P := Try.prog) (t := 26) (ty := 26) Try.underlying26 info_line19 rfl (by decide) (by decide) HF.out.kv [kr, kp, ep, ef, er, rt, lf] rfl (by rw [List.length_map, HLM.out]; omega) HF.out.b.size
          rw [List.length_map, HLM.out, hN] at hrun ho5
          have HRUN : Hid ((Builtin.append_ #[26, 26] 26 #[.slice b2 m c2, .slice (some ⟨wr.heap.size, 0, none⟩) 1 1]).run Try.prog (wr.alloc (.cells #[.int .i64 kr, .int .i64 kp, .int .i64 ep, .int .i64 ef, .int .i64 er, .int .i64 rt, .int .i64 lf] 68)) = .ok (.slice ba N cap5) w5) := Lib.hid hrun
          have HF5 : Hid (FS U w5 U.heap.size (.slice b k c) (.slice ba N cap5) ts (withS l kr kp ++ [(⟨kr, kp, ep, ef, er, rt, lf⟩ : Ln)])) := Lib.hid (HF.out.line (by rw [List.map_append]; exact ho5) hg5 HF.out.b.size)
          have HD5 := Lib.hid (HD.out.more HF5.out.b)
          obtain ⟨b', c', e', hr5, hlc, hcm, hb5, _⟩ := IRow.own HF5.out.kv
          injection e' with e1' e2' e3'
          clear e2'
          subst e1' e3'
          rw [List.length_map, List.length_append, List.length_singleton, HLM.out, hN] at hlc
          have hcap : cap5 ≤ 9223372036854775807 := by unfold maxLen at hcm; exact hcm
          have HR5 := Lib.hid hr5
          have HB5 := Lib.hid hb5
          have HLC := Lib.hid hlc
          have hne : ∃ y, ba = some y := by
            obtain ⟨y, e, _⟩ := hr5 (withS l kr kp).length (Ln.l ⟨kr, kp, ep, ef, er, rt, lf⟩) (by rw [List.map_append, List.getElem?_append_right (by rw [List.length_map]; exact Nat.le_refl _), List.length_map, Nat.sub_self]; rfl)
            exact ⟨y, e⟩
          obtain ⟨yb, rfl⟩ := hne
          clear hrun ho5 hg5 HF hl hr5 hb5 hcm HDW hi hin
          obtain ⟨M, hM⟩ : ∃ M, addS l ⟨kr, kp, ep, ef, er, rt, lf⟩ = M := ⟨_, rfl⟩
          have HM : Hid (addS l ⟨kr, kp, ep, ef, er, rt, lf⟩ = M) := Lib.hid hM
          have hadd : M = if 32 < N then (withS l kr kp ++ [(⟨kr, kp, ep, ef, er, rt, lf⟩ : Ln)]).drop 1 else withS l kr kp ++ [(⟨kr, kp, ep, ef, er, rt, lf⟩ : Ln)] := by
            rw [← hM]
            unfold addS
            rw [show ((⟨kr, kp, ep, ef, er, rt, lf⟩ : Ln)).kr = kr from rfl, show ((⟨kr, kp, ep, ef, er, rt, lf⟩ : Ln)).kp = kp from rfl, HLM.out, hN]
          have HADD := Lib.hid hadd
          have hN6 : N ≤ 1001 := by omega
          have HN6 := Lib.hid hN6
          have hN0 : (N : Int) ≤ 1001 := by omega
          have hN1 : (1 : Int) ≤ (N : Int) := by omega
          clear hM hadd hN hm1 hlc hN6
          obtain ⟨K, hK⟩ : ∃ K, M.length = K := ⟨_, rfl⟩
          have HKL := Lib.hid hK
          clear hK
          go_upto_region 15 with fail
          clear c0 cl
          go_upto_if 89 with (refine wpList_append_run rfl _ _ 26 rfl _ _ rfl rfl _ _ HRUN.out ?_)
          clear k0 k1 kl q0 q1 q2 ql HRUN
          go_cut [14] (fun v wx => ∃ av cv, v = .slice av K cv ∧ wx = w5 ∧ Hid (LnRow w5 av M ∧ ∀ y, av = some y → U.heap.size ≤ y.block))
          case first =>
            by_cases h32 : 32 < N
            · have t1 : (32 : Int) < (N : Int) := by omega
              have t2 : (N : Int) ≤ (cap5 : Int) := by have := HLC.out; omega
              have hE : M = (withS l kr kp ++ [(⟨kr, kp, ep, ef, er, rt, lf⟩ : Ln)]).drop 1 := HADD.out.trans (if_pos h32)
              have hc1 : ¬ cap5 = 1 := by have := HLC.out; omega
              have HR9 : Hid (LnRow w5 (some ⟨yb.block, yb.off + 7, none⟩) M ∧ ∀ y, some (⟨yb.block, yb.off + 7, none⟩ : Addr) = some y → U.heap.size ≤ y.block) := Lib.hid (by
                refine ⟨?_, fun y e => ?_⟩
                · have h1 := HR5.out.cut (c := cap5) (by decide) (fun e => absurd e hc1)
                  rw [if_neg hc1] at h1
                  unfold LnRow
                  rw [hE, List.map_drop]
                  exact h1
                · have h1 := HB5.out yb rfl
                  injection e with e
                  rw [← e]
                  exact h1)
              have hKN : N - 1 = K := by
                have h1 := HKL.out
                rw [hE, List.length_drop, List.length_append, List.length_singleton, HLM.out] at h1
                have := HNN.out
                omega
              have HKN := Lib.hid hKN
              clear hE hKN
              go_wp2_with fail
              go_meet
              exact ⟨some ⟨yb.block, yb.off + 7, none⟩, cap5 - 1, by first | (rw [HKN.out]; done) | rfl, rfl, HR9⟩
            · have t1 : ¬ (32 : Int) < (N : Int) := by omega
              have hE : M = withS l kr kp ++ [(⟨kr, kp, ep, ef, er, rt, lf⟩ : Ln)] := HADD.out.trans (if_neg h32)
              have HR9 : Hid (LnRow w5 (some yb) M ∧ ∀ y, some yb = some y → U.heap.size ≤ y.block) := Lib.hid ⟨by rw [hE]; exact HR5.out, HB5.out⟩
              have hKN : N = K := by
                have h1 := HKL.out
                rw [hE, List.length_append, List.length_singleton, HLM.out] at h1
                have := HNN.out
                omega
              have HKN := Lib.hid hKN
              clear hE hKN
              go_wp2_with fail
              go_meet
              exact ⟨some yb, cap5, by rw [HKN.out], rfl, HR9⟩
          case rest =>
            obtain ⟨av, cv, rfl, hwc, HR9⟩ := hcut
            rw [hwc]
            clear hwc
            have hW6 : Kq [d] w5 (w5.setCell ⟨d, 0, none⟩ (.slice av K cv)) := (Kq.refl _ _).setCell d 0 _ (.inl (by simp))
            have hdu : d < U.heap.size := Nat.lt_of_lt_of_le HDL.out HB.out.size
            have c0 := HD5.out.cell0
            have cl := HD5.out.blk.lt
            have fz := HD5.out.blk.frozen 0
            have HD6 : Hid (DS (w5.setCell ⟨d, 0, none⟩ (.slice av K cv)) d av K cv M) := Lib.hid ⟨HD5.out.blk.set 0 _, HKL.out, IRow.kq HR9.out.1 hW6 (fun y e => by have := HR9.out.2 y e; simp; omega), fun y e => by have := HR9.out.2 y e; omega⟩
            have HU6 : Hid (OwnT 1 (w5.setCell ⟨d, 0, none⟩ (.slice av K cv)) U.heap.size 3 (.slice b k c) ts) := Lib.hid (ownT_kept HF5.out.ku hW6 (fun q hq => by have := (World.ownsRow.lt HF5.out.ku.1 q hq).1; simp; omega))
            have HK6 : Hid (Kq [d] w (w5.setCell ⟨d, 0, none⟩ (.slice av K cv))) := Lib.hid (((Kq.of_below (HB.out.trans (HF5.out.b.mono HB.out.size)))).trans hW6)
            have hs6 : U.heap.size ≤ (w5.setCell ⟨d, 0, none⟩ (.slice av K cv)).heap.size := Nat.le_trans HF5.out.b.size hW6.size
            have HS6 := Lib.hid hs6
            have hK6 : K ≤ 1001 := by
              have h1 := HKL.out
              rw [HADD.out] at h1
              have h2 := HNN.out
              have h3 := HN6.out
              have h4 := HLM.out
              split at h1
              · rw [List.length_drop, List.length_append, List.length_singleton] at h1; omega
              · rw [List.length_append, List.length_singleton] at h1; omega
            have HK6N := Lib.hid hK6
            have hk0 : (K : Int) ≤ 1001 := by omega
            have hkn : (0 : Int) ≤ (K : Int) := by omega
            clear hW6 hdu hs6 hK6 HR9 HR5 HB5 HLC HADD hN0 hN1 hcap HF5 HD5 HN6 HNN HLM
            go_upto_region 19 with fail
            generalize w5.setCell ⟨d, 0, none⟩ (.slice av K cv) = W6 at HD6 HU6 HK6 HS6 ⊢
            clear c0 cl fz
            go_wp2
            go_loopw [16, 17] (fun v j wr => ∃ (i : Nat) (b3 : Option Addr) (c3 : Nat), i ≤ K ∧ v = .slice b3 i c3 ∧ j = .int .i64 i ∧ Hid (OwnT 7 wr W6.heap.size 68 (.slice b3 i c3) ((outS M rt lf i).map Ln.l)) ∧ Hid (Below W6.heap.size W6 wr)) (fun _ j _ => K - (intOf j).toNat)
            case atStart => exact ⟨0, none, 0, Nat.zero_le _, rfl, rfl, Lib.hid (OwnT.nil _ _ _ _), Lib.hid (Below.refl _ _)⟩
            case round =>
              obtain ⟨i, b3, c3, hi, rfl, rfl, HO, HW⟩ := hrel
              have HDW := Lib.hid (HD6.out.more HW.out)
              by_cases hin : i < K
              · have f1 : (i : Int) < (K : Int) := by omega
                have f2 : (0 : Int) ≤ (i : Int) := by omega
                have hx : M[i]? = some (M[i]'(by rw [HKL.out]; exact hin)) := List.getElem?_eq_getElem _
                obtain ⟨z, hxx⟩ : ∃ z, M[i]'(by rw [HKL.out]; exact hin) = z := ⟨_, rfl⟩
                rw [hxx] at hx
                obtain ⟨y1, rfl, hyb, hyb2, d0, d1, d2, d3, d4, d5, d6⟩ := HDW.out.row.at_ hx
                have HX := Lib.hid hx
                have H3 := Lib.hid hin
                have hcases := lose_cases M rt lf i z
                have hos := outS_at (r := rt) (f := lf) hx
                rw [HKL.out] at hcases
                have hol : ((outS M rt lf i).map Ln.l).length = i := by rw [List.length_map, outS_len, HKL.out]; omega
                have HOL := Lib.hid hol
                obtain ⟨lb, hlb⟩ : ∃ lb, loseB M rt lf i z = lb := ⟨_, rfl⟩
                rw [hlb] at hcases hos
                have HOS := Lib.hid hos
                clear hx hxx hin hi hos hlb hol
                obtain ⟨zr, zp, ze, zf, zg, zt, zl⟩ := z
                dsimp only at hcases d0 d1 d2 d3 d4 d5 d6
                obtain ⟨V, hV⟩ : ∃ V, V = wr.alloc (.cells #[.int .i64 zr, .int .i64 zp, .int .i64 ze, .int .i64 zf, .int .i64 zg, .int .i64 zt, .int .i64 zl] 68) := ⟨_, rfl⟩
                have hbV : Below wr.heap.size wr V := by rw [hV]; exact (Below.refl _ _).alloc (Nat.le_refl _) _
                have hNV : Blk V wr.heap.size 68 (encI [zr, zp, ze, zf, zg, zt, zl]) := by rw [hV]; exact Blk.new wr _ _
                have HV := Lib.hid hV
                have HNV := Lib.hid hNV
                have HDV := Lib.hid (HDW.out.more hbV)
                have HOV := Lib.hid (HO.out.below hbV)
                have HBV : Hid (Below W6.heap.size W6 V) := Lib.hid (HW.out.trans (hbV.mono HW.out.size))
                have HXL : Hid (W6.heap.size ≤ wr.heap.size) := Lib.hid HW.out.size
                have HNX : Hid (∀ q, (Value.slice b3 i c3).ownBlock = some q → q < wr.heap.size) := Lib.hid (fun q hq => (World.ownsRow.lt HO.out.1 q hq).2)
                clear hV hbV hNV
                go_upto_region 24 with fail
                rw [← HV.out]
                generalize wr.heap.size = xb at HNV HXL HNX ⊢
                clear HV d0 d1 d2 d3 d4 d5 d6 hyb hyb2 HDW HO HW
                go_cut [19] from 106 to 131 (fun v wx => v = .bool lb ∧ Hid (Below V.heap.size V wx))
                case first =>
                  have x2 := HNV.out.cell (j := 2) rfl
                  have xl := HNV.out.lt
                  rcases hcases with ⟨t1, t2⟩ | ⟨t1, t2, t3⟩ | ⟨t1, t2, t3, t4⟩ | ⟨t1, t2, t3, t4⟩
                  · subst t2
                    go_wp2_with fail
                    go_meet
                    exact ⟨rfl, Lib.hid (Below.refl _ _)⟩
                  · subst t3
                    go_wp2_with fail
                    go_meet
                    exact ⟨rfl, Lib.hid (Below.refl _ _)⟩
                  · have g1 : ((i : Int) == (K : Int) - 1) = true := by simp; omega
                    have HTB := Lib.hid (fun W (h : DS W d (some y1) K cv M) => refTable_any ze lb t4.symm W h (by have := HK6N.out; omega))
                    clear t3 t4
                    go_wp2_with fail
                    refine (HTB.out _ HDV.out).mono ?_
                    rintro e w2 ⟨rfl, hb2⟩
                    have HB2 := Lib.hid hb2
                    clear hb2
                    go_wp2_with fail
                    go_meet
                    exact ⟨rfl, HB2⟩
                  · subst t4
                    have g1 : ((i : Int) == (K : Int) - 1) = false := by simp; omega
                    clear t3
                    go_wp2_with fail
                    go_meet
                    exact ⟨rfl, Lib.hid (Below.refl _ _)⟩
                case rest =>
                  clear hcases
                  obtain ⟨rfl, HBC⟩ := hcut
                  have HNC := Lib.hid (HNV.out.more HBC.out)
                  have HOC := Lib.hid (HOV.out.below HBC.out)
                  have HBW : Hid (Below W6.heap.size W6 wc) := Lib.hid (HBV.out.trans (HBC.out.mono HBV.out.size))
                  clear HNV HOV HBV HBC HDV
                  cases lb
                  · rw [if_neg (by decide)] at HOS
                    obtain ⟨ba, cap9, w9, hrun, ho9, hg9, _⟩ := push_new (P := Try.prog) (t := 26) (ty := 26) Try.underlying26 info_line19 rfl (by decide) (by decide) HOC.out [zr, zp, ze, zf, zg, zt, zl] rfl (by rw [HOL.out]; have := H3.out; have := HK6N.out; omega) HBW.out.size
                    rw [HOL.out] at hrun ho9
                    have HRUN : Hid ((Builtin.append_ #[26, 26] 26 #[.slice b3 i c3, .slice (some ⟨wc.heap.size, 0, none⟩) 1 1]).run Try.prog (wc.alloc (.cells #[.int .i64 zr, .int .i64 zp, .int .i64 ze, .int .i64 zf, .int .i64 zg, .int .i64 zt, .int .i64 zl] 68)) = .ok (.slice ba (i + 1) cap9) w9) := Lib.hid hrun
                    have HO9 : Hid (OwnT 7 w9 W6.heap.size 68 (.slice ba (i + 1) cap9) ((outS M rt lf (i + 1)).map Ln.l)) := Lib.hid (by rw [HOS.out, List.map_append]; exact ho9)
                    have HB9 : Hid (Below W6.heap.size W6 w9) := Lib.hid (HBW.out.grown hg9 HBW.out.size (fun q hq => (World.ownsRow.lt HOC.out.1 q hq).1))
                    clear hrun ho9 hg9
                    have x0 := HNC.out.cell (j := 0) rfl
                    have x1 := HNC.out.cell (j := 1) rfl
                    have x2 := HNC.out.cell (j := 2) rfl
                    have x3 := HNC.out.cell (j := 3) rfl
                    have x4 := HNC.out.cell (j := 4) rfl
                    have x5 := HNC.out.cell (j := 5) rfl
                    have x6 := HNC.out.cell (j := 6) rfl
                    have xl := HNC.out.lt
                    go_wp2_with (refine wpList_append_run rfl _ _ 26 rfl _ _ rfl rfl _ _ HRUN.out ?_)
                    go_wp2
                    go_roundw
                    case rel => exact ⟨i + 1, ba, cap9, H3.out, rfl, by go_num, HO9, HB9⟩
                    case measure => have := H3.out; simp [intOf]; omega
                  · rw [if_pos rfl] at HOS
                    unfold clrS at HOS
                    dsimp only at HOS
                    obtain ⟨g2, hg2⟩ : ∃ g2, bits .andNot .i64 zg 2 = g2 := ⟨_, rfl⟩
                    rw [hg2] at HOS
                    have x0 := HNC.out.cell (j := 0) rfl
                    have x1 := HNC.out.cell (j := 1) rfl
                    have x2 := HNC.out.cell (j := 2) rfl
                    have x3 := HNC.out.cell (j := 3) rfl
                    have x4 := HNC.out.cell (j := 4) rfl
                    have x5 := HNC.out.cell (j := 5) rfl
                    have x6 := HNC.out.cell (j := 6) rfl
                    have xl := HNC.out.lt
                    have xf := HNC.out.frozen 4
                    have HNE : Hid (Blk (wc.setCell ⟨xb, 4, none⟩ (.int .i64 g2)) xb 68 (encI [zr, zp, ze, zf, g2, zt, zl])) := Lib.hid (HNC.out.set 4 (.int .i64 g2))
                    have HKX : Hid (Kq [xb] wc (wc.setCell ⟨xb, 4, none⟩ (.int .i64 g2))) := Lib.hid ((Kq.refl _ _).setCell xb 4 _ (.inl (by simp)))
                    have HBE : Hid (Below W6.heap.size W6 (wc.setCell ⟨xb, 4, none⟩ (.int .i64 g2))) := Lib.hid (HBW.out.setCell (p := ⟨xb, 4, none⟩) HXL.out _)
                    have HOE : Hid (OwnT 7 (wc.setCell ⟨xb, 4, none⟩ (.int .i64 g2)) W6.heap.size 68 (.slice b3 i c3) ((outS M rt lf i).map Ln.l)) := Lib.hid (ownT_kept HOC.out HKX.out (fun q hq => by have := HNX.out q hq; simp; omega))
                    go_upto_region 27 with fail
                    generalize wc.setCell ⟨xb, 4, none⟩ (.int .i64 g2) = w8 at HNE HKX HBE HOE ⊢
                    clear x0 x1 x2 x3 x4 x5 x6 xl xf HNC HOC HBW
                    obtain ⟨ba, cap9, w9, hrun, ho9, hg9, _⟩ := push_new (P := Try.prog) (t := 26) (ty := 26) Try.underlying26 info_line19 rfl (by decide) (by decide) HOE.out [zr, zp, ze, zf, g2, zt, zl] rfl (by rw [HOL.out]; have := H3.out; have := HK6N.out; omega) HBE.out.size
                    rw [HOL.out] at hrun ho9
                    have HRUN : Hid ((Builtin.append_ #[26, 26] 26 #[.slice b3 i c3, .slice (some ⟨w8.heap.size, 0, none⟩) 1 1]).run Try.prog (w8.alloc (.cells #[.int .i64 zr, .int .i64 zp, .int .i64 ze, .int .i64 zf, .int .i64 g2, .int .i64 zt, .int .i64 zl] 68)) = .ok (.slice ba (i + 1) cap9) w9) := Lib.hid hrun
                    have HO9 : Hid (OwnT 7 w9 W6.heap.size 68 (.slice ba (i + 1) cap9) ((outS M rt lf (i + 1)).map Ln.l)) := Lib.hid (by rw [HOS.out, List.map_append]; exact ho9)
                    have HB9 : Hid (Below W6.heap.size W6 w9) := Lib.hid (HBE.out.grown hg9 HBE.out.size (fun q hq => (World.ownsRow.lt HOE.out.1 q hq).1))
                    clear hrun ho9 hg9
                    have x0 := HNE.out.cell (j := 0) rfl
                    have x1 := HNE.out.cell (j := 1) rfl
                    have x2 := HNE.out.cell (j := 2) rfl
                    have x3 := HNE.out.cell (j := 3) rfl
                    have x4 := HNE.out.cell (j := 4) rfl
                    have x5 := HNE.out.cell (j := 5) rfl
                    have x6 := HNE.out.cell (j := 6) rfl
                    have xl := HNE.out.lt
                    clear hg2
                    go_wp2_with (refine wpList_append_run rfl _ _ 26 rfl _ _ rfl rfl _ _ HRUN.out ?_)
                    go_wp2
                    go_roundw
                    case rel => exact ⟨i + 1, ba, cap9, H3.out, rfl, by go_num, HO9, HB9⟩
                    case measure => have := H3.out; simp [intOf]; omega
              · have f1 : ¬ (i : Int) < (K : Int) := by omega
                obtain rfl : i = K := by omega
                have hdl : d < W6.heap.size := HD6.out.blk.lt
                have HDW2 := Lib.hid HDW.out
                obtain ⟨a3, e3, q3, hr3, _, _, hb3, _⟩ := IRow.own HO.out
                injection q3 with q3 q3a q3b
                clear q3a q3b
                subst q3
                obtain ⟨a4, e4, q4, hr4, _, _, hb4, _⟩ := IRow.own (HU6.out.below HW.out)
                injection q4 with q4 q4a q4b
                clear q4a q4b
                subst q4
                have hout : outS M rt lf i = fillS l ⟨kr, kp, ep, ef, er, rt, lf⟩ := by
                  unfold fillS
                  rw [HM.out, HKL.out]
                have hol : (outS M rt lf i).length = i := by rw [outS_len, HKL.out, Nat.min_self]
                rw [hout] at hr3 hol
                have hkq : Kq [d] wr (wr.setCell ⟨d, 0, none⟩ (.slice b3 i c3)) := (Kq.refl _ _).setCell d 0 _ (.inl (by simp))
                have hu0 : d < U.heap.size := Nat.lt_of_lt_of_le HDL.out HB.out.size
                have HEA : Hid (IRow 1 (wr.setCell ⟨d, 0, none⟩ (.slice b3 i c3)) b (toldS l rt lf 8) ∧ ∀ y, b = some y → w.heap.size ≤ y.block) := Lib.hid ⟨by rw [HTS.out]; exact hr4.kq hkq (fun y e => by have := hb4 y e; simp; omega), fun y e => by have := hb4 y e; have := HB.out.size; omega⟩
                have HFA : Hid (DSE (wr.setCell ⟨d, 0, none⟩ (.slice b3 i c3)) w.heap.size d (fillS l ⟨kr, kp, ep, ef, er, rt, lf⟩)) := Lib.hid ⟨b3, c3, ⟨by rw [hol]; exact HDW2.out.blk.set 0 _, rfl, IRow.kq hr3 hkq (fun y e => by have := hb3 y e; simp; omega), fun y e => by have := hb3 y e; omega⟩, fun y e => by have := hb3 y e; have := HS6.out; have := HB.out.size; omega⟩
                have HKA : Hid (Kq [d] w (wr.setCell ⟨d, 0, none⟩ (.slice b3 i c3))) := Lib.hid ((HK6.out.trans (Kq.of_below HW.out)).trans hkq)
                have HTL : Hid ((toldS l rt lf 8).length = k) := Lib.hid (by rw [HTS.out, HLK.out])
                have c0 := HDW2.out.cell0
                have cl := HDW2.out.blk.lt
                have fz := HDW2.out.blk.frozen 0
                clear hr3 hb3 hr4 hb4 hout hol hkq hu0 hdl hin hi hk0 hkn
                go_wp2
                go_ret2
                exact ⟨⟨b, ⟨c, by rw [HTL.out]; rfl⟩, HEA⟩, HFA.out, HKA.out⟩
end
end Go.Proofs.Ytcdiigdbjncpeaa.Sw
