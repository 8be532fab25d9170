/- Several texts in one: Jz Aa Ab Ac -/
import Derived.Test.YteaincdeoajkeaaGreatDoorZ27
import Derived.Test.YteaincdeoajkeaaGreatDoorZ18
import Derived.Test.YteaincdeoajkeaaGreatDoorZ06
import Derived.Test.YteaincdeoajkeaaGreatDoorZ02
import Derived.Deep.QuietTactic
import Derived.BigQuiet
section
/- Package shadow: Fill. -/
namespace Go.Proofs.YteaincdeoajkeaaGreatDoor.Sw
open Go.RowKit Ut
set_option maxRecDepth 100000
set_option linter.unusedVariables false
set_option maxHeartbeats 4000000

/-- those that stay ahead of the one that is filled -/
def roomS (l : List Ln) (p q : Int) : List Ln := if (withS l p q).length = 32 then (withS l p q).drop 1 else withS l p q
def ErW (l : List Ln) : Prop := ∀ x ∈ l, -9223372036854775808 ≤ x.er ∧ x.er < 9223372036854775808
theorem add_room {l : List Ln} (x : Ln) (h : l.length ≤ 32) : addS l x = roomS l x.kr x.kp ++ [x] ∧ (roomS l x.kr x.kp).length ≤ 31 := by
  have hl := withS_len l x.kr x.kp
  unfold addS roomS
  by_cases h32 : (withS l x.kr x.kp).length = 32
  · rw [if_pos (by omega), if_pos h32]
    generalize withS l x.kr x.kp = ws at h32 hl
    match ws, h32 with
    | w :: ws, h32 => exact ⟨rfl, by simp only [List.length_cons] at h32; simp; omega⟩
  · rw [if_neg (by omega), if_neg h32]
    exact ⟨rfl, by omega⟩
theorem room_sub (l : List Ln) (p q : Int) : ∀ x ∈ roomS l p q, x ∈ l := fun x hx => by
  unfold roomS at hx
  split at hx
  · exact (List.mem_filter.1 (List.mem_of_mem_drop hx)).1
  · exact (List.mem_filter.1 hx).1
/-- the first of them let go by its key -/
theorem first_goes {f : Ln} {rest : List Ln} (h : KeyU (f :: rest)) : (f :: rest).filter (fun x => !x.is f.kr f.kp) = rest := by
  have h1 : f.is f.kr f.kp = true := is_iffS.2 rfl
  unfold KeyU at h
  rw [List.map_cons, List.nodup_cons] at h
  rw [List.filter_cons_of_neg (by rw [h1]; decide), List.filter_eq_self]
  intro y hy
  have : y.is f.kr f.kp = false := not_isS.2 (fun e => h.1 (List.mem_map.2 ⟨y, hy, e⟩))
  rw [this]
  rfl
theorem fill_nar {l : List Ln} (hI : Inv19 l) (hE : ErW l) (x : Ln) : fillS l x = (addS l x).map (narZ (addS l x)) := by
  obtain ⟨ha, hl⟩ := add_room x hI.n
  unfold fillS outS
  rw [List.take_length]
  apply List.ext_getElem?
  intro i
  rw [List.getElem?_mapIdx, List.getElem?_map]
  cases hz : (addS l x)[i]? with
  | none => rfl
  | some z =>
    simp only [Option.map_some, Option.some.injEq]
    have hxm : x ∈ addS l x := by rw [ha]; exact List.mem_append_right _ (List.mem_singleton.2 rfl)
    unfold narZ
    rcases lose_cases (addS l x) x.rt x.lf i z with ⟨c1, c⟩ | ⟨_, c1, c⟩ | ⟨_, _, _, c⟩ | ⟨c1, c2, c3, c⟩
    · have ht : tabL (addS l x) z.ep = true := tab_iff.2 ⟨x, hxm, .inl (by simpa using (beq_iff_eq.1 c1).symm)⟩
      rw [if_pos c, if_pos ht]
    · have ht : tabL (addS l x) z.ep = true := tab_iff.2 ⟨x, hxm, .inr (by simpa using (beq_iff_eq.1 c1).symm)⟩
      rw [if_pos c, if_pos ht]
    · rw [c]
    · rw [if_neg (by rw [c]; decide)]
      split
      · rename_i ht
        rw [ha] at hz ht c3
        rw [List.length_append, List.length_singleton] at c3
        have hi : i < (roomS l x.kr x.kp).length := by
          have := (List.getElem?_eq_some_iff.1 hz).1
          rw [List.length_append, List.length_singleton] at this
          omega
        rw [List.getElem?_append_left hi] at hz
        have hzl := room_sub l _ _ z (List.mem_of_getElem? hz)
        have htl : tabL l z.ep = true := by
          rw [tab_iff] at ht ⊢
          obtain ⟨u, hu, hp⟩ := ht
          rcases List.mem_append.1 hu with hu | hu
          · exact ⟨u, room_sub l _ _ u hu, hp⟩
          · rw [List.mem_singleton] at hu
            subst hu
            simp only [beq_eq_false_iff_ne, ne_eq] at c1 c2
            rcases hp with hp | hp
            · exact absurd hp.symm c1
            · exact absurd hp.symm c2
        have he := same_two2 z.er (hE z hzl).1 (hE z hzl).2 (hI.p z hzl htl)
        unfold clrS
        rw [he]
      · rfl
theorem erW_fill {l : List Ln} (hI : Inv19 l) (hE : ErW l) (x : Ln) (h1 : -9223372036854775808 ≤ x.er) (h2 : x.er < 9223372036854775808) : ErW (fillS l x) := by
  intro z hz
  rw [fill_nar hI hE x] at hz
  obtain ⟨y, hy, rfl⟩ := List.mem_map.1 hz
  unfold narZ
  split
  · exact range_two2 _
  · rw [(add_room x hI.n).1] at hy
    rcases List.mem_append.1 hy with hy | hy
    · exact hE y (room_sub l _ _ y hy)
    · rw [List.mem_singleton] at hy
      subst hy
      exact ⟨h1, h2⟩
section
variable {W W' : World} {g : Nat} {m : Bool} {l : List Ln}
theorem Told.kq {k : Nat} {V : World} {v : Value} {xs : List (List Int)} {T : List Nat} (h : Told k W V v xs) (q : Kq T V W') (hT : ∀ b ∈ T, b < W.heap.size) : Told k W W' v xs := by
  obtain ⟨a, c, h1, h2, h3⟩ := h
  exact ⟨a, c, h1, h2.kq q (fun y e hm => by have := h3 y e; have := hT _ hm; omega), h3⟩
theorem LS19.push (h : LS19 W g m l) (hl : l.length < 32) (x : Ln) : ∃ L : List Ln, RS19 W g m (l.length : Nat) L ∧ ∀ V, RS19 V g m (l.length : Nat) (L.set l.length x) → LS19 (V.setCell ⟨g, 1, none⟩ (.int .i64 ((l.length : Int) + 1))) g m (l ++ [x]) := by
  obtain ⟨z, h⟩ := h
  refine ⟨l ++ z, h, fun V hV => ?_⟩
  have h5 := h.1
  rw [List.length_append] at h5
  match z, h5, hV with
  | [], h5, _ => simp at h5; omega
  | c :: z, _, hV =>
    refine ⟨z, ?_⟩
    have := hV.count ((l.length : Int) + 1)
    rw [List.set_append_right _ _ (Nat.le_refl _), Nat.sub_self, List.set_cons_zero] at this
    rw [List.length_append, List.append_assoc]
    exact this
/-- the boxes of Fill's key and entry -/
structure FlB (W V : World) (p q ep ef er : Int) : Prop where
  key : Blk V W.heap.size 48 [.int .i64 p, .int .i64 q]
  ent : Blk V (W.heap.size + 1) 50 [.int .i64 ep, .int .i64 ef, .int .i64 er]
theorem FlB.kq {T : List Nat} {V V' : World} {p q ep ef er : Int} (h : FlB W V p q ep ef er) (k : Kq T V V') (hT : ∀ b ∈ T, b < W.heap.size) : FlB W V' p q ep ef er := ⟨h.key.kq k (fun hm => by have := hT _ hm; omega), h.ent.kq k (fun hm => by have := hT _ hm; omega)⟩
theorem flB_new (W : World) (p q ep ef er : Int) : FlB W ((W.alloc (.cells #[.int .i64 p, .int .i64 q] 48)).alloc (.cells #[.int .i64 ep, .int .i64 ef, .int .i64 er] 50)) p q ep ef er := by
  refine ⟨(Blk.new W _ [.int .i64 p, .int .i64 q]).more ((Below.refl _ _).alloc (Nat.le_refl _) _), ?_⟩
  have := Blk.new (W.alloc (.cells #[.int .i64 p, .int .i64 q] 48)) 50 [.int .i64 ep, .int .i64 ef, .int .i64 er]
  rw [World.size_alloc] at this
  exact this
theorem told_none (k : Nat) (W W' : World) : Told k W W' (.slice none 0 0) [] := ⟨none, 0, rfl, IRow.nil _ _ _, fun y e => by cases e⟩
theorem shFill_no (p q ep ef er r f : Int) (h : LS19 W g true l) (ho : ownP r = false ∨ (ownP r = true ∧ ownP f = false)) :
    Calls Tryz.prog 119 #[.pointer (some ⟨g, 0, none⟩), .agg #[.int .i64 p, .int .i64 q], .agg #[.int .i64 ep, .int .i64 ef, .int .i64 er], .int .i64 r, .int .i64 f] W fun e w' => (∃ v, e = .returned (.tuple #[v, .int .i64 1]) ∧ Hid (Told 1 W w' v [])) ∧ Below W.heap.size W w' := by
  obtain ⟨U, hU⟩ : ∃ U, U = (W.alloc (.cells #[.int .i64 p, .int .i64 q] 48)).alloc (.cells #[.int .i64 ep, .int .i64 ef, .int .i64 er] 50) := ⟨_, rfl⟩
  have hB : Below W.heap.size W U := by rw [hU]; exact ((Below.refl _ _).alloc (Nat.le_refl _) _).alloc (by simp) _
  have HB := Lib.hid hB
  have HU := Lib.hid hU
  have HT := Lib.hid (told_none 1 W U)
  have c0 := (h.more hB).pre.1
  have gl := (h.more hB).lt
  have H1 := Lib.hid (fun V => own19_any r V)
  have H2 := Lib.hid (fun V => own19_any f V)
  clear h hB hU
  rcases ho with ho | ⟨ho, ho2⟩
  · rw [ho] at H1
    clear ho
    go_enter Tryz.func119, Tryz.ntmps119
    go_upto_region 1 with fail
    rw [← HU.out]
    clear HU
    go_wp2_with fail
    refine (H1.out _).mono ?_
    rintro e w1 ⟨rfl, rfl⟩
    go_wp2
    go_ret2
    exact ⟨⟨_, rfl, HT⟩, HB.out⟩
  · rw [ho] at H1
    rw [ho2] at H2
    clear ho ho2
    go_enter Tryz.func119, Tryz.ntmps119
    go_upto_region 1 with fail
    rw [← HU.out]
    clear HU
    go_wp2_with fail
    refine (H1.out _).mono ?_
    rintro e w1 ⟨rfl, rfl⟩
    go_wp2_with fail
    refine (H2.out _).mono ?_
    rintro e w1 ⟨rfl, rfl⟩
    go_wp2
    go_ret2
    exact ⟨⟨_, rfl, HT⟩, HB.out⟩
theorem shFill_yes (p q ep ef er r f : Int) (h : LS19 W g true l) (hI : Inv19 l) (hE : ErW l) (hr : ownP r = true) (hf : ownP f = true) :
    Calls Tryz.prog 119 #[.pointer (some ⟨g, 0, none⟩), .agg #[.int .i64 p, .int .i64 q], .agg #[.int .i64 ep, .int .i64 ef, .int .i64 er], .int .i64 r, .int .i64 f] W fun e w' => (∃ v, e = .returned (.tuple #[v, .int .i64 0]) ∧ Hid (Told 1 W w' v (toldS l r f 8))) ∧ Hid (LS19 w' g true (fillS l ⟨p, q, ep, ef, er, r, f⟩)) ∧ Kq [g] W w' := by
  obtain ⟨U, hU⟩ : ∃ U, U = (W.alloc (.cells #[.int .i64 p, .int .i64 q] 48)).alloc (.cells #[.int .i64 ep, .int .i64 ef, .int .i64 er] 50) := ⟨_, rfl⟩
  have hB : Below W.heap.size W U := by rw [hU]; exact ((Below.refl _ _).alloc (Nat.le_refl _) _).alloc (by simp) _
  have hFB : FlB W U p q ep ef er := by rw [hU]; exact flB_new W p q ep ef er
  have hgl := h.lt
  have hLU := h.more hB
  obtain ⟨x, hx⟩ : ∃ x : Ln, x = ⟨p, q, ep, ef, er, r, f⟩ := ⟨_, rfl⟩
  have har := add_room x hI.n
  have hfn := fill_nar hI hE x
  rw [har.1] at hfn
  have hrl := har.2
  have HRM : Hid (roomS l p q = if (withS l p q).length = 32 then (withS l p q).drop 1 else withS l p q) := Lib.hid rfl
  have HKU := Lib.hid (keyU_filter hI.u (fun y => !y.is p q))
  rw [show roomS l x.kr x.kp = roomS l p q by rw [hx]] at hfn hrl
  rw [hx] at hfn
  have HU := Lib.hid hU
  have HB := Lib.hid hB
  have HFB := Lib.hid hFB
  have HGL : Hid (∀ b ∈ [g], b < W.heap.size) := Lib.hid (fun b hb => by simp at hb; subst hb; exact hgl)
  have HL := Lib.hid hLU
  have HFN := Lib.hid hfn
  have HRL := Lib.hid hrl
  have HFR := Lib.hid (fresh_any r f hLU.th)
  have H1 := Lib.hid (fun V => own19_any r V)
  have H2 := Lib.hid (fun V => own19_any f V)
  rw [hr] at H1
  rw [hf] at H2
  have c0 := hLU.pre.1
  have gl := hLU.lt
  clear hU hB hFB hgl hLU hx har hfn hrl h hI hE hr hf
  generalize roomS l p q = room at HRM HFN HRL
  generalize fillS l ⟨p, q, ep, ef, er, r, f⟩ = fin at HFN ⊢
  generalize toldS l r f 8 = told at HFR ⊢
  go_enter Tryz.func119, Tryz.ntmps119
  go_upto_region 1 with fail
  rw [← HU.out]
  clear HU
  go_wp2_with fail
  refine (H1.out _).mono ?_
  rintro e w1 ⟨rfl, rfl⟩
  go_wp2_with fail
  refine (H2.out _).mono ?_
  rintro e w1 ⟨rfl, rfl⟩
  clear H1 H2
  go_wp2_with fail
  refine HFR.out.mono ?_
  rintro e w1 ⟨⟨vt, rfl, HT⟩, hb1⟩
  have HT1 := Lib.hid (HT.out.from_ HB.out.size)
  have HL1 := Lib.hid (HL.out.more hb1)
  have HFB1 := Lib.hid (HFB.out.kq (T := [g]) (Kq.of_below hb1) HGL.out)
  have HK1 := Lib.hid ((Kq.of_below (T := [g]) HB.out).trans (Kq.of_below hb1))
  clear hb1 HT HL HFB HFR c0 gl
  have k0 := HFB1.out.key.cell (j := 0) rfl
  have k1 := HFB1.out.key.cell (j := 1) rfl
  have kl := HFB1.out.key.lt
  go_wp2_with fail
  refine (hasKey19_any p q w1).mono ?_
  rintro e w2 ⟨rfl, hk2, hb2⟩
  have HG := Lib.hid (forget_from HL1.out hb2 (isL_key (T := [g]) p q w1.heap.size hk2 (by have := HL1.out.lt; simp; omega)))
  clear hk2 hb2 k0 k1 kl
  go_wp2_with fail
  refine HG.out.mono ?_
  rintro e w3 ⟨⟨v2, rfl, _⟩, HL3, hk3⟩
  have HL3 : Hid (LS19 w3 g true (withS l p q)) := HL3
  have HKU : Hid (KeyU (withS l p q)) := HKU
  have HFB3 := Lib.hid (HFB1.out.kq hk3 HGL.out)
  have HT3 := Lib.hid (HT1.out.kq hk3 HGL.out)
  have HK3 := Lib.hid (HK1.out.trans hk3)
  clear hk3 HG HL1 HFB1 HT1 HK1
  generalize withS l p q = ws at HRM HKU HL3
  obtain ⟨n1, hn1⟩ : ∃ n1 : Nat, ws.length = n1 := ⟨_, rfl⟩
  rw [hn1] at HRM
  have c1 := HL3.out.pre.2
  have gl := HL3.out.lt
  have h32 := HL3.out.len
  rw [hn1] at c1 h32
  have n10 : (0 : Int) ≤ (n1 : Int) ∧ (n1 : Int) ≤ 32 := by omega
  have HN1 := Lib.hid hn1
  clear hn1 h32
  go_upto_if 42 with fail
  go_cut [] (fun wx => Hid (LS19 wx g true room) ∧ Hid (Kq [g] w3 wx))
  case first =>
    by_cases h32 : n1 = 32
    · have t1 : ((n1 : Int) == 32) = true := by rw [beq_iff_eq]; omega
      have hrm := HRM.out
      rw [if_pos h32] at hrm
      obtain ⟨f0, rest, rfl⟩ : ∃ f0 rest, ws = f0 :: rest := by
        match ws, HN1.out with
        | [], e => simp at e; omega
        | f0 :: rest, _ => exact ⟨_, _, rfl⟩
      obtain ⟨zz, hrs⟩ := HL3.out
      have hc := hrs.cells (i := 0) (x := f0) rfl
      simp only [Nat.zero_mul, Nat.add_zero, Nat.reduceAdd] at hc
      obtain ⟨d0, d1, _⟩ := hc
      have HFG := Lib.hid (first_goes HKU.out)
      have HRM2 : Hid (room = rest) := Lib.hid hrm
      clear hrm hrs HRM h32
      go_wp2_with fail
      refine (hasKey19_any f0.kr f0.kp w3).mono ?_
      rintro e w4 ⟨rfl, hk4, hb4⟩
      have HG := Lib.hid (forget_from HL3.out hb4 (isL_key (T := [g]) f0.kr f0.kp w3.heap.size hk4 (by have := HL3.out.lt; simp; omega)))
      clear hk4 hb4 d0 d1 c1
      go_wp2_with fail
      refine HG.out.mono ?_
      rintro e w5 ⟨⟨v5, rfl, _⟩, HL5, hk5⟩
      have HL5 : Hid (LS19 w5 g true room) := Lib.hid (by
        have h1 := HL5.out
        rw [HFG.out] at h1
        rw [HRM2.out]
        exact h1)
      have HK5 := Lib.hid hk5
      clear hk5 HG
      go_wp2
      go_meet
      exact ⟨HL5, HK5⟩
    · have t1 : ((n1 : Int) == 32) = false := by rw [beq_eq_false_iff_ne]; omega
      have hrm := HRM.out
      rw [if_neg h32] at hrm
      have HL5 : Hid (LS19 w3 g true room) := Lib.hid (by rw [hrm]; exact HL3.out)
      have HK5 := Lib.hid (Kq.refl [g] w3)
      clear hrm HRM h32
      go_wp2
      go_meet
      exact ⟨HL5, HK5⟩
  case rest =>
    obtain ⟨V, rfl⟩ : ∃ X, X = wc := ⟨_, rfl⟩
    obtain ⟨HL5, HK5⟩ := hcut
    have HFB5 := Lib.hid (HFB3.out.kq HK5.out HGL.out)
    have HT5 := Lib.hid (HT3.out.kq HK5.out HGL.out)
    have HK6 := Lib.hid (HK3.out.trans HK5.out)
    clear HK5 HFB3 HT3 HK3 HL3 c1 gl HKU HRM HN1 n10
    have hl31 : room.length < 32 := by have := HRL.out; omega
    obtain ⟨L, hrs, hps⟩ := HL5.out.push hl31 ⟨p, q, ep, ef, er, r, f⟩
    obtain ⟨n2, hn2⟩ : ∃ n2 : Nat, room.length = n2 := ⟨_, rfl⟩
    rw [hn2] at hrs hps hl31
    have HRS := Lib.hid hrs
    have HPS := Lib.hid hps
    have HN2 := Lib.hid hl31
    have n20 : (0 : Int) ≤ (n2 : Int) ∧ (n2 : Int) < 32 := by omega
    have c1 := hrs.pre.2
    have gl := hrs.lt
    have k0 := HFB5.out.key.cell (j := 0) rfl
    have k1 := HFB5.out.key.cell (j := 1) rfl
    have kl := HFB5.out.key.lt
    have j0 := HFB5.out.ent.cell (j := 0) rfl
    have j1 := HFB5.out.ent.cell (j := 1) rfl
    have j2 := HFB5.out.ent.cell (j := 2) rfl
    have jl := HFB5.out.ent.lt
    clear hrs hps hn2 hl31 HL5
    go_upto_region 9 with fail
    apply wp_region_auto [53, 54, 55, 56, 57, 58, 59, 60, 61, 62, 63, 64, 65, 66] [_, _, _, _, _, _, _, _, _, _, _, _, _, _] (fun W' => Below V.heap.size V W')
    case hm => kernel_rfl
    case hT => intro y; simp only [setAll, List.setIfInBounds_toArray, List.set_cons_succ, List.set_cons_zero]; exact rfl
    case hok => kernel_rfl
    case hn => decide
    case hw => exact (Below.refl _ _).drew
    case hs =>
      refine auto_op 53 [] (by kernel_rfl) (fun y w' HW hd K hK => ?_) ?_
      · go_simp
        refine hK _ _ ?_ ?_ HW
        · simp [upd]
        · exact rfl
      refine auto_op 54 [] (by kernel_rfl) (fun y w' HW hd K hK => ?_) ?_
      · go_simp
        refine hK _ _ ?_ ?_ HW
        · simp [upd]
        · exact rfl
      refine auto_op 55 [1] (by kernel_rfl) (fun y w' HW hd K hK => ?_) ?_
      · have e1 := hd_nth (hd 1 (by simp)) rfl
        go_simp
        refine hK _ _ ?_ ?_ HW
        · simp [upd, e1]
        · exact rfl
      refine auto_op 56 [2] (by kernel_rfl) (fun y w' HW hd K hK => ?_) ?_
      · have e2 := hd_nth (hd 2 (by simp)) rfl
        go_simp
        refine hK _ _ ?_ ?_ HW
        · simp [upd, e2]
        · exact rfl
      refine auto_op 57 [3] (by kernel_rfl) (fun y w' HW hd K hK => ?_) ?_
      · have e3 := hd_nth (hd 3 (by simp)) rfl
        have hcl : ∀ p : Addr, p.block < V.heap.size → w'.cell? p = V.cell? p := fun p hp => HW.cell hp
        go_simp
        refine hK _ _ ?_ ?_ HW
        · simp [upd, e3]
        · exact rfl
      refine auto_op 58 [] (by kernel_rfl) (fun y w' HW hd K hK => ?_) ?_
      · have hcl : ∀ p : Addr, p.block < V.heap.size → w'.cell? p = V.cell? p := fun p hp => HW.cell hp
        go_simp
        refine hK _ _ ?_ ?_ HW
        · simp [upd]
        · exact rfl
      refine auto_op 59 [] (by kernel_rfl) (fun y w' HW hd K hK => ?_) ?_
      · have hcl : ∀ p : Addr, p.block < V.heap.size → w'.cell? p = V.cell? p := fun p hp => HW.cell hp
        go_simp
        refine hK _ _ ?_ ?_ HW
        · simp [upd]
        · exact rfl
      refine auto_op 60 [5, 6] (by kernel_rfl) (fun y w' HW hd K hK => ?_) ?_
      · have e5 := hd_nth (hd 5 (by simp)) rfl
        have e6 := hd_nth (hd 6 (by simp)) rfl
        go_simp
        refine hK _ _ ?_ ?_ HW
        · simp [upd, e5, e6]
        · exact rfl
      refine auto_op 61 [] (by kernel_rfl) (fun y w' HW hd K hK => ?_) ?_
      · go_simp
        refine hK _ _ ?_ ?_ HW
        · simp [upd]
        · exact rfl
      refine auto_op 62 [] (by kernel_rfl) (fun y w' HW hd K hK => ?_) ?_
      · go_simp
        refine hK _ _ ?_ ?_ HW
        · simp [upd]
        · exact rfl
      refine auto_op 63 [7, 8, 9] (by kernel_rfl) (fun y w' HW hd K hK => ?_) ?_
      · have e7 := hd_nth (hd 7 (by simp)) rfl
        have e8 := hd_nth (hd 8 (by simp)) rfl
        have e9 := hd_nth (hd 9 (by simp)) rfl
        go_simp
        refine hK _ _ ?_ ?_ HW
        · simp [upd, e7, e8, e9]
        · exact rfl
      refine auto_op 64 [0] (by kernel_rfl) (fun y w' HW hd K hK => ?_) ?_
      · have e0 := hd_nth (hd 0 (by simp)) rfl
        go_simp
        refine hK _ _ ?_ ?_ HW
        · simp [upd, e0]
        · exact rfl
      refine auto_op 65 [11] (by kernel_rfl) (fun y w' HW hd K hK => ?_) ?_
      · have e11 := hd_nth (hd 11 (by simp)) rfl
        go_simp
        refine hK _ _ ?_ ?_ HW
        · simp [upd, e11]
        · exact rfl
      refine auto_op 66 [12, 4, 0, 1, 2, 3, 4, 5, 6, 7, 8, 9, 10] (by kernel_rfl) (fun y w' HW hd K hK => ?_) ?_
      · have e0 := hd_nth (hd 0 (by simp)) rfl
        have e1 := hd_nth (hd 1 (by simp)) rfl
        have e2 := hd_nth (hd 2 (by simp)) rfl
        have e3 := hd_nth (hd 3 (by simp)) rfl
        have e4 := hd_nth (hd 4 (by simp)) rfl
        have e5 := hd_nth (hd 5 (by simp)) rfl
        have e6 := hd_nth (hd 6 (by simp)) rfl
        have e7 := hd_nth (hd 7 (by simp)) rfl
        have e8 := hd_nth (hd 8 (by simp)) rfl
        have e9 := hd_nth (hd 9 (by simp)) rfl
        have e10 := hd_nth (hd 10 (by simp)) rfl
        have e12 := hd_nth (hd 12 (by simp)) rfl
        go_simp
        refine hK _ _ ?_ ?_ HW
        · simp [upd, e0, e1, e2, e3, e4, e5, e6, e7, e8, e9, e10, e12]
        · exact rfl
      refine auto_last fun y w' HW hd K hK => ?_
      have e0 := hd_nth (hd 0 (by omega)) rfl
      have e1 := hd_nth (hd 1 (by omega)) rfl
      have e2 := hd_nth (hd 2 (by omega)) rfl
      have e3 := hd_nth (hd 3 (by omega)) rfl
      have e4 := hd_nth (hd 4 (by omega)) rfl
      have e5 := hd_nth (hd 5 (by omega)) rfl
      have e6 := hd_nth (hd 6 (by omega)) rfl
      have e7 := hd_nth (hd 7 (by omega)) rfl
      have e8 := hd_nth (hd 8 (by omega)) rfl
      have e9 := hd_nth (hd 9 (by omega)) rfl
      have e10 := hd_nth (hd 10 (by omega)) rfl
      have e11 := hd_nth (hd 11 (by omega)) rfl
      have e12 := hd_nth (hd 12 (by omega)) rfl
      have e13 := hd_nth (hd 13 (by omega)) rfl
      have hq := HRS.out.more HW
      obtain ⟨p1, p2, p3⟩ := hq.putRow n2 ⟨p, q, ep, ef, er, r, f⟩ HN2.out
      refine step_store_blk (a := ⟨_, _⟩) (by kernel_rfl) 167 (.tmp 66) (.tmp 63) (by exact rfl) g (2 + n2 * 7) 185 _ (encI (Ln.l ⟨p, q, ep, ef, er, r, f⟩)) (by exact e13) (by exact e10) hq.2.2 (by rw [size_trans]; rfl) p2 (encI_one _) ?_
      rw [p1]
      have HR9 := Lib.hid p3
      have HK9 := Lib.hid ((HK6.out.trans (Kq.of_below HW)).trans (setRow_kq [g] w' g (hd2 true n2 ++ encR ((L.set n2 ⟨p, q, ep, ef, er, r, f⟩).map Ln.l)).toArray (by simp)))
      have HT9 := Lib.hid (HT5.out.kq ((Kq.of_below (T := [g]) HW).trans (setRow_kq [g] w' g (hd2 true n2 ++ encR ((L.set n2 ⟨p, q, ep, ef, er, r, f⟩).map Ln.l)).toArray (by simp))) HGL.out)
      refine hK _ _ ?_
      generalize w'.setRow g (hd2 true n2 ++ encR ((L.set n2 ⟨p, q, ep, ef, er, r, f⟩).map Ln.l)).toArray = W9 at HR9 HK9 HT9 ⊢
      clear hd hK K hq p1 p2 p3 HW HFB5 HT5 HK6 HRS c1 gl k0 k1 kl j0 j1 j2 jl e0 e1 e2 e3 e4 e5 e6 e7 e8 e9 e10 e11 e12 e13
      have c9 := HR9.out.pre.2
      have f9 := HR9.out.frz 1
      have l9 := HR9.out.lt
      have d0 : wrap64 ((n2 : Int) + 1) = (n2 : Int) + 1 := IntWalk.wrap64_in _ (by omega)
      have hk10 : Kq [g] W9 (W9.setCell ⟨g, 1, none⟩ (.int .i64 ((n2 : Int) + 1))) := (Kq.refl _ _).setCell g 1 _ (.inl (by simp))
      have HN := Lib.hid (narrow_any (HPS.out W9 HR9.out))
      have HK10 := Lib.hid (HK9.out.trans hk10)
      have HT10 := Lib.hid (HT9.out.kq hk10 HGL.out)
      clear hk10 HR9 HPS HK9 HT9
      go_wp2_with fail
      refine HN.out.mono ?_
      rintro e W11 ⟨rfl, HL11, hk11⟩
      have HK11 := Lib.hid (HK10.out.trans hk11)
      have HT11 := Lib.hid (HT10.out.kq hk11 HGL.out)
      have HL12 : Hid (LS19 W11 g true fin) := Lib.hid (by rw [HFN.out]; exact HL11.out)
      clear hk11 HN HK10 HT10 HL11 c9 f9 l9
      go_wp2
      go_ret2
      exact ⟨⟨_, rfl, HT11⟩, HL12, HK11.out⟩
end
end Go.Proofs.YteaincdeoajkeaaGreatDoor.Sw
end
section
/- The document's translations (hermitageref18): rows of five integers; what its acts leave, plainly; New, Look. -/
namespace Go.Proofs.YteaincdeoajkeaaGreatDoor.Sb
open Go.RowKit Ut
set_option maxRecDepth 100000
set_option linter.unusedVariables false
set_option maxHeartbeats 4000000

/-- a translation that is kept: its key (root, page), its entry (page, frame, rights) -/
structure Rc where
  kr : Int
  kp : Int
  ep : Int
  ef : Int
  er : Int
deriving DecidableEq
instance : Inhabited Rc := ⟨⟨0, 0, 0, 0, 0⟩⟩
def Rc.l (x : Rc) : List Int := [x.kr, x.kp, x.ep, x.ef, x.er]
abbrev Rc.v (x : Rc) : Value := .agg #[.int .i64 x.kr, .int .i64 x.kp, .int .i64 x.ep, .int .i64 x.ef, .int .i64 x.er]
def Rc.is (x : Rc) (p q : Int) : Bool := x.kr == p && x.kp == q
/-- the slice at a reads as xs -/
def RcRow (w : World) (a : Option Addr) (xs : List Rc) : Prop := ∀ (i : Nat) (x : Rc), xs[i]? = some x → ∃ y, a = some y ∧ y.block < w.heap.size ∧ ∀ (j : Nat) (z : Int), x.l[j]? = some z → w.cell? (y.add (i * 5 + j)) = some (.int .i64 z)
theorem add_some5 (x : Addr) (k j : Nat) (hj : 0 < j) : x.add (k * 5 + j) = ⟨(x.add (k * 5)).block, (x.add (k * 5)).off + j, none⟩ := by
  rw [← add_of_add]
  generalize x.add (k * 5) = y
  unfold Addr.add
  rw [if_neg (by omega)]
section
variable {w w' : World} {a : Option Addr} {xs : List Rc} {B : Nat}
theorem RcRow.kq {T : List Nat} (h : RcRow w a xs) (k : Kq T w w') (hT : ∀ y, a = some y → y.block ∉ T) : RcRow w' a xs := fun i x hx => by
  obtain ⟨y, rfl, hy, hc⟩ := h i x hx
  exact ⟨y, rfl, Nat.lt_of_lt_of_le hy k.size, fun j z hz => (k.cell (p := y.add (i * 5 + j)) (by rw [block_of_add]; exact hy) (by rw [block_of_add]; exact hT y rfl)).trans (hc j z hz)⟩
theorem RcRow.more (h : RcRow w a xs) (hb : Below w.heap.size w w') : RcRow w' a xs := h.kq (T := []) (Kq.of_below hb) (fun _ _ => by simp)
theorem RcRow.at_ (h : RcRow w a xs) {i : Nat} {x : Rc} (hx : xs[i]? = some x) : ∃ y, a = some y ∧ y.block < w.heap.size ∧ w.cell? (y.add (i * 5)) = some (.int .i64 x.kr) ∧ w.cell? ⟨(y.add (i * 5)).block, (y.add (i * 5)).off + 1, none⟩ = some (.int .i64 x.kp) ∧ w.cell? ⟨(y.add (i * 5)).block, (y.add (i * 5)).off + 2, none⟩ = some (.int .i64 x.ep) ∧ w.cell? ⟨(y.add (i * 5)).block, (y.add (i * 5)).off + 3, none⟩ = some (.int .i64 x.ef) ∧ w.cell? ⟨(y.add (i * 5)).block, (y.add (i * 5)).off + 4, none⟩ = some (.int .i64 x.er) := by
  obtain ⟨y, e, hy, hc⟩ := h i x hx
  refine ⟨y, e, hy, hc 0 _ rfl, ?_, ?_, ?_, ?_⟩
  · rw [← add_some5 y i 1 (by decide)]; exact hc 1 _ rfl
  · rw [← add_some5 y i 2 (by decide)]; exact hc 2 _ rfl
  · rw [← add_some5 y i 3 (by decide)]; exact hc 3 _ rfl
  · rw [← add_some5 y i 4 (by decide)]; exact hc 4 _ rfl
/-- what the call owns reads so -/
theorem RcRow.own {e : TypeId} {v : Value} (h : OwnT 5 w B e v (xs.map Rc.l)) : ∃ a cap, v = .slice a xs.length cap ∧ RcRow w a xs ∧ xs.length ≤ cap ∧ cap ≤ maxLen ∧ (∀ y, a = some y → B ≤ y.block) ∧ v.ownBlock = a.map Addr.block := by
  have hl : ∀ (ys : List Rc) (i : Nat) (x : Rc) (j : Nat) (z : Int), ys[i]? = some x → x.l[j]? = some z → (encR (ys.map Rc.l))[i * 5 + j]? = some (.int .i64 z) := by
    intro ys
    induction ys with
    | nil => intro i x j z h1; simp at h1
    | cons c ys ih =>
      intro i x j z h1 h2
      have hj : j < 5 := by
        have := (List.getElem?_eq_some_iff.1 h2).1
        simpa [Rc.l] using this
      have hcl : (encI c.l).length = 5 := rfl
      have e1 : encR ((c :: ys).map Rc.l) = encI c.l ++ encR (ys.map Rc.l) := rfl
      rw [e1]
      match i, h1 with
      | 0, h1 =>
        injection h1 with h1
        subst h1
        rw [List.getElem?_append_left (by omega), Nat.zero_mul, Nat.zero_add]
        unfold encI
        rw [List.getElem?_map, h2]
        rfl
      | i + 1, h1 =>
        rw [List.getElem?_append_right (by omega), hcl, show (i + 1) * 5 + j - 5 = i * 5 + j by omega]
        exact ih i x j z h1 h2
  have hL := h.1
  rw [List.length_map] at hL
  rcases hL.2 with ⟨rfl, h0⟩ | ⟨g, cap, cur, rfl, hB, hg, hnc, hcm, hsz, htk⟩
  · have hx : xs = [] := List.eq_nil_of_length_eq_zero h0
    subst hx
    exact ⟨none, 0, rfl, fun i x hx => by simp at hx, by simp, by simp, (fun y e => by cases e), rfl⟩
  · refine ⟨some ⟨g, 0, none⟩, cap, rfl, fun i x hx => ⟨_, rfl, (Array.getElem?_eq_some_iff.1 hg).1, fun j z hz => ?_⟩, hnc, hcm, (fun y e => by injection e with e; rw [← e]; exact hB), rfl⟩
    have h1 := hl xs i x j z hx hz
    rw [← htk, List.getElem?_take] at h1
    have h2 : cur.toList[i * 5 + j]? = some (.int .i64 z) := by
      split at h1
      · exact h1
      · cases h1
    rw [add_plain]
    unfold World.cell?
    rw [hg]
    simpa using h2
end
section
variable {w w' : World} {g n cap : Nat} {room : Int} {a : Option Addr} {l : List Rc}
end

/-- what is looked for -/
def findL (l : List Rc) (p q : Int) : Option Rc := l.find? (·.is p q)
def entF (o : Option Rc) : Int × Int × Int := match o with | some x => (x.ep, x.ef, x.er) | none => (0, 0, 0)
def entV (e : Int × Int × Int) : Value := .agg #[.int .i64 e.1, .int .i64 e.2.1, .int .i64 e.2.2]
def entC (e : Int × Int × Int) : List Value := [.int .i64 e.1, .int .i64 e.2.1, .int .i64 e.2.2]
def withoutL (l : List Rc) (p q : Int) : List Rc := l.filter fun x => !x.is p q
theorem is_cases (x : Rc) (p q : Int) : (x.is p q = true ∧ x.kr = p ∧ x.kp = q) ∨ (x.is p q = false ∧ (x.kr == p) = false) ∨ (x.is p q = false ∧ x.kr = p ∧ (x.kp == q) = false) := by
  unfold Rc.is
  by_cases h1 : x.kr = p
  · by_cases h2 : x.kp = q
    · exact .inl ⟨by simp [h1, h2], h1, h2⟩
    · exact .inr (.inr ⟨by simp [h2], h1, by simp [h2]⟩)
  · exact .inr (.inl ⟨by simp [h1], by simp [h1]⟩)

end Go.Proofs.YteaincdeoajkeaaGreatDoor.Sb
end
section
/- The document's translations: Look. -/
namespace Go.Proofs.YteaincdeoajkeaaGreatDoor.Sb
open Go.RowKit Ut
set_option maxRecDepth 100000
set_option linter.unusedVariables false
set_option maxHeartbeats 4000000

theorem below_drewN {B : Nat} {w w' : World} (h : Below B w w') (d : Nat) : Below B w (w'.drewN d) := ⟨h.os, h.tape, h.output, h.size, h.block⟩
theorem take_none {l : List Rc} {p q : Int} {i : Nat} {x : Rc} (h : ∀ y ∈ l.take i, y.is p q = false) (hx : l[i]? = some x) (hi : x.is p q = false) : ∀ y ∈ l.take (i + 1), y.is p q = false := fun y hy => by
  rw [List.take_add_one, hx] at hy
  rcases List.mem_append.1 hy with hy | hy
  · exact h y hy
  · simp at hy
    rw [hy]
    exact hi
theorem find_here {l : List Rc} {p q : Int} {i : Nat} {x : Rc} (h : ∀ y ∈ l.take i, y.is p q = false) (hx : l[i]? = some x) (hi : x.is p q = true) : findL l p q = some x := by
  unfold findL
  obtain ⟨hl, e⟩ := List.getElem?_eq_some_iff.1 hx
  rw [List.find?_eq_some_iff_getElem]
  refine ⟨hi, i, hl, e, fun j hj => ?_⟩
  have := h l[j] (by rw [List.mem_take_iff_getElem]; exact ⟨j, by omega, rfl⟩)
  simp [this]
theorem find_none {l : List Rc} {p q : Int} (h : ∀ y ∈ l, y.is p q = false) : findL l p q = none := by
  unfold findL
  rw [List.find?_eq_none]
  intro y hy
  simp [h y hy]

section
variable {g n cap : Nat} {room : Int} {a : Option Addr} {l : List Rc}
end
end Go.Proofs.YteaincdeoajkeaaGreatDoor.Sb
end
section
/- The document's translations: one record more; without. -/
namespace Go.Proofs.YteaincdeoajkeaaGreatDoor.Sb
open Go.RowKit Ut
set_option maxRecDepth 100000
set_option linter.unusedVariables false
set_option maxHeartbeats 4000000

theorem kept_info : (Tryz.prog.info? 52).map (fun i => (i.zero, i.size, i.bytes)) = some (some (Rc.v ⟨0, 0, 0, 0, 0⟩), 5, 40) := by kernel_rfl
/-- one record more, out of a block of its own -/
theorem push_rec {w0 w : World} {B : Nat} {v : Value} {xs : List Rc} (hown : OwnT 5 w B 52 v (xs.map Rc.l)) (x : Rc) (hl : xs.length + 1 ≤ 1000000) (hB : B ≤ w.heap.size) (hb : Below B w0 w) :
    ∃ a cap w', (Builtin.append_ #[45, 45] 45 #[v, .slice (some ⟨w.heap.size, 0, none⟩) 1 1]).run Tryz.prog (w.alloc (.cells #[.int .i64 x.kr, .int .i64 x.kp, .int .i64 x.ep, .int .i64 x.ef, .int .i64 x.er] 52)) = .ok (.slice a (xs.length + 1) cap) w' ∧
      OwnT 5 w' B 52 (.slice a (xs.length + 1) cap) ((xs ++ [x]).map Rc.l) ∧ Below B w0 w' ∧ w.heap.size ≤ w'.heap.size := by
  obtain ⟨i, hi, hz, hs, hby⟩ := info_parts kept_info
  have hA : Below w.heap.size w (w.alloc (.cells #[.int .i64 x.kr, .int .i64 x.kp, .int .i64 x.ep, .int .i64 x.ef, .int .i64 x.er] 52)) := (Below.refl _ _).alloc (Nat.le_refl _) _
  have hO := hown.alloc (.cells #[.int .i64 x.kr, .int .i64 x.kp, .int .i64 x.ep, .int .i64 x.ef, .int .i64 x.er] 52)
  have hn : ∀ (j : Nat) (u : Value), (encI x.l)[j]? = some u → (w.alloc (.cells #[.int .i64 x.kr, .int .i64 x.kp, .int .i64 x.ep, .int .i64 x.ef, .int .i64 x.er] 52)).cell? ((⟨w.heap.size, 0, none⟩ : Addr).add j) = some u := fun j u hj => cells_new w (encI x.l) 52 j u hj
  obtain ⟨v', w', hrun, h2, h3, _, h5⟩ := run_append_own_at (P := Tryz.prog) _ B 45 45 52 i _ 5 40 Tryz.underlying45 hi hz hs hby rfl (by decide) v (xs.map Rc.l).length _ hO.1 ⟨w.heap.size, 0, none⟩ 1 1 (encI x.l) rfl hn
    (fun u hu => by obtain ⟨z, _, rfl⟩ := List.mem_map.1 hu; rfl) (by rw [List.length_map]; unfold maxLen; omega) (by rw [List.length_map]; omega) (Nat.le_trans hB hA.size)
  have hown2 : OwnT 5 w' B 52 v' ((xs ++ [x]).map Rc.l) := by
    refine ⟨?_, fun q hq => ?_⟩
    · rw [List.map_append, show List.map Rc.l [x] = [x.l] from rfl, encR_snoc, List.length_append]
      exact h2
    · obtain ⟨c, _, rfl⟩ := List.mem_map.1 hq
      rfl
  obtain ⟨a, cap, hv, _, _, _, _, _⟩ := RcRow.own hown2
  rw [List.length_append] at hv
  have hbw : Below B w0 w' := (hb.alloc hB _).grown h3 (Nat.le_trans hB hA.size) fun q hq => (World.ownsRow.lt hO.1 q hq).1
  subst hv
  exact ⟨a, cap, w', hrun, hown2, hbw, Nat.le_trans hA.size h3.size⟩
theorem ownT_base {k B B' : Nat} {w : World} {e : TypeId} {v : Value} {xs : List (List Int)} (h : OwnT k w B e v xs) (hB : B' ≤ B) : OwnT k w B' e v xs := by
  refine ⟨⟨h.1.1, ?_⟩, h.2⟩
  rcases h.1.2 with h0 | ⟨g, cap, cur, e1, e2, rest⟩
  · exact .inl h0
  · exact .inr ⟨g, cap, cur, e1, Nat.le_trans hB e2, rest⟩
theorem without_snoc {l : List Rc} {p q : Int} {i : Nat} {x : Rc} (hx : l[i]? = some x) : withoutL (l.take (i + 1)) p q = withoutL (l.take i) p q ++ (if x.is p q = true then [] else [x]) := by
  unfold withoutL
  rw [List.take_add_one, hx, List.filter_append]
  by_cases h : x.is p q = true
  · rw [if_pos h]; simp [h]
  · rw [if_neg h]; simp [h]
theorem without_len (l : List Rc) (p q : Int) : (withoutL l p q).length ≤ l.length := List.length_filter_le _ _

section
variable {g n cap : Nat} {room : Int} {a : Option Addr} {l : List Rc}
end
end Go.Proofs.YteaincdeoajkeaaGreatDoor.Sb
end
