/- Several texts in one: Zj -/
import Derived.Test.YtoafonbplbblpaaZ24
import Derived.Test.YtoafonbplbblpaaZ25
section
/- hermitagelaw17: made: a guest's memory of both sides, and the words that stand in it. -/
namespace Go.Proofs.Ytoafonbplbblpaa.Wa
open Go.RowKit Go.Shelf Ut Oc Vw
set_option maxRecDepth 100000
set_option linter.unusedVariables false
set_option maxHeartbeats 4000000

/-- is page k there -/
def hereB (x k : Nat) : Bool := bits .and .u16 ((x : Int) / 2 ^ k) 1 == 0
def zk (k : Nat) : Gm.Pl := (11 - (k : Int), 3 - 2 * ((k : Int) / 9))
/-- the map behind the first k pages -/
def mkG (T : Nat → Bool) : Nat → List Gm.Pl
  | 0 => Gm.noP
  | k + 1 => if T k = true then Gm.setL (mkG T k) k (zk k) else mkG T k
abbrev mapG (x : Nat) : List Gm.Pl := mkG (hereB x) 10
/-- words that stand somewhere -/
def PutRow (w : World) (B : Nat) (a : Option Addr) (n : Nat) (Z : Nat → Int × Int) : Prop := ∀ i, i < n → ∃ x, a = some x ∧ x.block < B ∧ w.cell? (x.add (i * 2)) = some (.int .u32 (Z i).1) ∧ w.cell? (x.add (i * 2 + 1)) = some (.int .u32 (Z i).2) ∧ 0 ≤ (Z i).1 ∧ (Z i).1 < 4294967296 ∧ 0 ≤ (Z i).2 ∧ (Z i).2 < 4294967296
def putS (L : List Gm.Pl) (Z : Nat → Int × Int) : Nat → List Int
  | 0 => Fr.zeros
  | i + 1 => saveS 12 (putS L Z i) L (Z i).1 4 (Z i).2
def putD (L : List Gm.Pl) (Z : Nat → Int × Int) : Nat → List Bool
  | 0 => noD
  | i + 1 => saveD 12 L (putD L Z i) (Z i).1 4
def cnt2 (n : Nat) : Nat := min n 200
theorem put_cells {w W : World} {x : Addr} {k B : Nat} {p : Int × Int} (hb : Below B w W) (hx : x.block < B) (h : w.cell? (x.add (k * 2)) = some (.int .u32 p.1) ∧ w.cell? (x.add (k * 2 + 1)) = some (.int .u32 p.2)) :
    W.cell? (x.add (k * 2)) = some (.int .u32 p.1) ∧ W.cell? ⟨(x.add (k * 2)).block, (x.add (k * 2)).off + 1, none⟩ = some (.int .u32 p.2) := by
  have g : ∀ j, W.cell? (x.add (k * 2 + j)) = w.cell? (x.add (k * 2 + j)) := fun j => hb.cell (p := x.add (k * 2 + j)) (by rw [block_of_add]; exact hx)
  refine ⟨(g 0).trans h.1, ?_⟩
  rw [← Gm.add_some2 x _ 1 (by decide)]
  exact (g 1).trans h.2

/-- what made makes -/
structure Md (w0 w : World) (b s m g bt B q gv cap : Nat) (S : List Int) (L : List Gm.Pl) (D : List Bool) : Prop where
  pv : PV w b s m 12 S L D
  dv : DV w g bt B q 12 gv cap S L D
  ws : w0.heap.size ≤ s
  mB : m < B
  qb : q < b
  bg : b < g
  blw : Below w0.heap.size w0 w
section
variable {w0 w w' : World} {b s m g bt B q gv cap : Nat} {S S' : List Int} {L : List Gm.Pl} {D D' : List Bool}
theorem Md.more (h : Md w0 w b s m g bt B q gv cap S L D) (hb : Below w.heap.size w w') : Md w0 w' b s m g bt B q gv cap S L D :=
  ⟨h.pv.more hb, h.dv.more hb, h.ws, h.mB, h.qb, h.bg, h.blw.trans (hb.mono h.blw.size)⟩
/-- both sides wrote -/
theorem Md.both {w1 : World} (h : Md w0 w b s m g bt B q gv cap S L D) (hP : PV w1 b s m 12 S' L D') (hk : Kq [s, b] w w1) : DV w1 g bt B q 12 gv cap S L D ∧ Below w0.heap.size w0 w1 := by
  have h1 := h.pv.sm
  have h2 := h.pv.mb
  have h3 := h.mB
  have h4 := h.dv.bq
  have h5 := h.dv.qg
  have h6 := h.qb
  have h7 := h.bg
  have h8 := h.ws
  refine ⟨h.dv.kq hk (by simp; omega) (by simp; omega) (fun x hx => ?_), h.blw.trans (hk.under (fun y hy => ?_) h.blw.size)⟩
  · rcases List.mem_cons.1 hx with rfl | hx
    · exact .inl (by omega)
    · have e : x = b := by simpa using hx
      rw [e]
      exact .inr (.inl ⟨_, h.pv.cell0⟩)
  · rcases List.mem_cons.1 hy with rfl | hy
    · omega
    · have e : y = b := by simpa using hy
      omega
theorem Md.doc {w1 : World} (hP : PV w b s m 12 S' L D') (hb : Below w0.heap.size w0 w) (ho : w0.heap.size ≤ s ∧ m < B ∧ q < b ∧ b < g) (hg : DV w g bt B q 12 gv cap S L D) (hD : DV w1 g bt B q 12 gv cap S' L D') (hk : Kq [gv, g] w w1) : Md w0 w1 b s m g bt B q gv cap S' L D' := by
  have h1 := hP.sm
  have h2 := hP.mb
  have h4 := hg.bq
  have h5 := hg.qg
  have h6 := hg.gvB.1
  have hb' : b ≠ gv := hg.gv_ne (.inl ⟨_, hP.cell0⟩)
  obtain ⟨o1, o2, o3, o4⟩ := ho
  exact ⟨hP.kq hk (by simp; omega) (by simp; omega) (by simp; omega), hD, o1, o2, o3, o4, hb.trans (hk.under (fun y hy => by
    rcases List.mem_cons.1 hy with rfl | hy
    · omega
    · have e : y = g := by simpa using hy
      omega) hb.size)⟩
end

theorem made17_any (x : Nat) (hx : x < 65536) (ai : Option Addr) (li ci B0 : Nat) (Z : Nat → Int × Int) (w : World) (hli : li ≤ 9223372036854775807) (hi : PutRow w B0 ai li Z) (hB0 : B0 ≤ w.heap.size) :
    Calls Try.prog 7 #[.int .u16 x, .slice ai li ci] w fun e w' => ∃ b s m g bt B q gv cap, e = .returned (.tuple #[.pointer (some ⟨b, 0, none⟩), .pointer (some ⟨g, 0, none⟩)]) ∧ Md w w' b s m g bt B q gv cap (putS (mapG x) Z (cnt2 li)) (mapG x) (putD (mapG x) Z (cnt2 li)) := by
  have hx0 : (0 : Int) ≤ (x : Int) := by omega
  have hx1 : (x : Int) < 65536 := by omega
  have HI := Lib.hid hi
  have HB0 := Lib.hid hB0
  have HN : Hid (Calls Try.prog 21 #[.int .i64 12] w fun e w' => e = .returned (.tuple #[.pointer (some ⟨w.heap.size, 0, none⟩), .int .i64 0]) ∧ Fr.St w' w.heap.size 12 Fr.zeros ∧ Below w.heap.size w w') := Lib.hid (Fr.new_ok 12 w (by omega))
  have HRN : Hid (∀ W, Calls Try.prog 23 #[.int .i64 12] W fun e w' => e = .returned (.tuple #[.pointer (some ⟨W.heap.size, 0, none⟩), .int .i64 0]) ∧ (∃ v vs, Fr.RT w' W.heap.size W.heap.size 12 (List.replicate 12 Fr.zer) v vs) ∧ Below W.heap.size W w') := Lib.hid fun W => Fr.refNew_ok 12 W (by omega)
  clear hi hB0 hx
  go_enter Try.func7, Try.ntmps7
  go_wp2_with fail
  refine HN.out.mono ?_
  rintro e w1 ⟨rfl, hs1, hb1⟩
  have HS1 := Lib.hid hs1
  have HB1 := Lib.hid hb1
  clear hs1 hb1 HN
  go_wp2_with fail
  refine (Gm.new_any w1).mono ?_
  rintro e w2 ⟨rfl, hm2, hb2⟩
  have HS2 := Lib.hid (HS1.out.below hb2 HS1.out.lt)
  have HM2 := Lib.hid hm2
  have HB2 := Lib.hid (HB1.out.trans (hb2.mono HB1.out.size))
  have HSM := Lib.hid HS1.out.lt
  clear hm2 hb2 HS1 HB1
  generalize w1.heap.size = m at HM2 HSM ⊢
  go_wp2_with fail
  refine (HRN.out w2).mono ?_
  rintro e w3 ⟨rfl, ⟨tv, tvs, ht3⟩, hb3⟩
  obtain ⟨gv, cap, rfl, hgB, _⟩ := ht3.form (by omega)
  have HT3 := Lib.hid ht3
  have HS3 := Lib.hid (HS2.out.below hb3 HS2.out.lt)
  have HM3 := Lib.hid (HM2.out.below hb3 HM2.out.lt)
  have HB3 := Lib.hid (HB2.out.trans (hb3.mono HB2.out.size))
  have HMB := Lib.hid HM2.out.lt
  clear hb3 ht3 hgB HS2 HM2 HB2 HRN
  generalize w2.heap.size = B at HT3 HMB ⊢
  go_upto_region 4 with fail
  refine wp_region_lit ?_
  refine wpList_buildTo rfl 75 _ rfl _ rfl (Gm.rCells Gm.noP).toArray (by kernel_rfl) ?_
  refine Great.wpList_boxTo rfl 75 _ rfl _ rfl w3.heap.size rfl (Gm.rCells Gm.noP).toArray rfl ?_
  have HA := (Below.refl w3.heap.size w3).alloc (Nat.le_refl _) (.cells (Gm.rCells Gm.noP).toArray 75)
  have HR4 : Hid (Gm.RAt (w3.alloc (.cells (Gm.rCells Gm.noP).toArray 75)) w3.heap.size Gm.noP) := Lib.hid ⟨Blk.new w3 _ _, Gm.noP_ok⟩
  have HT4 := Lib.hid (HT3.out.below HA)
  have HS4 := Lib.hid (HS3.out.below HA HS3.out.lt)
  have HM4 := Lib.hid (HM3.out.below HA HM3.out.lt)
  have HB4 := Lib.hid (HB3.out.trans (HA.mono HB3.out.size))
  have HQ := Lib.hid (show B < w3.heap.size from HT3.out.lt)
  generalize w3.alloc (.cells (Gm.rCells Gm.noP).toArray 75) = w4 at HR4 HT4 HS4 HM4 HB4 ⊢
  generalize w3.heap.size = q at HR4 HQ ⊢
  clear HA HT3 HS3 HM3 HB3
  simp only [Act.put, List.setIfInBounds_toArray, List.set_cons_succ, List.set_cons_zero]
  go_wp2
  go_loopw [12] (fun j wr => ∃ k : Nat, k ≤ 10 ∧ j = .int .i64 k ∧ Hid (Gm.MAt wr m (mkG (hereB x) k)) ∧ Hid (Gm.RAt wr q (mkG (hereB x) k)) ∧ Hid (Kq [m, q] w4 wr)) (fun j _ => 10 - (intOf j).toNat)
  case atStart => exact ⟨0, Nat.zero_le _, rfl, HM4, HR4, Kq.refl _ _⟩
  case round =>
    obtain ⟨k, hk, rfl, HM, HRQ, HK⟩ := hrel
    have hTq : ∀ y ∈ [m, q], w.heap.size ≤ y := fun y hy => by
      have h1 := HSM.out
      have h2 := HMB.out
      have h3 := HQ.out
      rcases List.mem_cons.1 hy with rfl | hy
      · omega
      · have e : y = q := (by simpa using hy)
        omega
    by_cases h3 : k < 10
    · have f2 : (k : Int) < 10 := by omega
      have f3 : (0 : Int) ≤ (k : Int) := by omega
      have H3 := Lib.hid h3
      have HLL : Hid (mkG (hereB x) (k + 1) = if hereB x k = true then Gm.setL (mkG (hereB x) k) k (zk k) else mkG (hereB x) k) := Lib.hid rfl
      obtain ⟨t, ht⟩ : ∃ t, hereB x k = t := ⟨_, rfl⟩
      rw [ht] at HLL
      unfold hereB at ht
      clear h3 hk
      go_upto_if 37 with fail
      clear ht
      cases t
      · rw [if_neg (by decide)] at HLL
        have HM2 := Lib.hid (HLL.out ▸ HM.out)
        have HR2 := Lib.hid (HLL.out ▸ HRQ.out)
        clear HLL HM HRQ
        go_wp2
        go_roundw
        case rel => exact ⟨k + 1, H3.out, by go_num, HM2, HR2, HK⟩
        case measure => have := H3.out; simp [intOf]; omega
      · rw [if_pos rfl] at HLL
        obtain ⟨L2, hl2⟩ : ∃ L2, Gm.setL (mkG (hereB x) k) k (zk k) = L2 := ⟨_, rfl⟩
        obtain ⟨ez, hez⟩ : ∃ ez, Gm.setE (mkG (hereB x) k) k (zk k) = ez := ⟨_, rfl⟩
        have HPM := Lib.hid (fun W h => Gm.set_any m (mkG (hereB x) k) L2 k ez (zk k) hez hl2 W h)
        have HPR := Lib.hid (fun W h => Gm.refSet_any q (mkG (hereB x) k) L2 k ez (zk k) hez hl2 W h)
        rw [hl2] at HLL
        clear hl2 hez
        generalize mkG (hereB x) k = L1 at HM HRQ HPM HPR
        unfold zk Gm.plV at HPM HPR
        dsimp only at HPM HPR
        have hb9 : Below wr.heap.size wr (wr.alloc (.cells #[.int .i64 (11 - (k : Int)), .int .i64 (3 - 2 * ((k : Int) / 9))] 58)) := (Below.refl _ _).alloc (Nat.le_refl _) _
        have HN9 : Hid (Blk (wr.alloc (.cells #[.int .i64 (11 - (k : Int)), .int .i64 (3 - 2 * ((k : Int) / 9))] 58)) wr.heap.size 58 [.int .i64 (11 - (k : Int)), .int .i64 (3 - 2 * ((k : Int) / 9))]) := Lib.hid (Blk.new wr _ _)
        have HM9 := Lib.hid (HM.out.more hb9)
        have HR9 := Lib.hid (HRQ.out.more hb9)
        have HK9 : Hid (Kq [m, q] w4 (wr.alloc (.cells #[.int .i64 (11 - (k : Int)), .int .i64 (3 - 2 * ((k : Int) / 9))] 58))) := Lib.hid (HK.out.trans (Kq.of_below hb9))
        have HMS := Lib.hid HM.out.lt
        have HRS := Lib.hid HRQ.out.1.lt
        clear hb9 HM HRQ HK
        go_upto_region 10 with fail
        generalize wr.alloc (.cells #[.int .i64 (11 - (k : Int)), .int .i64 (3 - 2 * ((k : Int) / 9))] 58) = X at HN9 HM9 HR9 HK9 ⊢
        generalize wr.heap.size = pb at HN9 HMS HRS ⊢
        generalize 11 - (k : Int) = pf at HN9 HPM HPR ⊢
        generalize 3 - 2 * ((k : Int) / 9) = pr at HN9 HPM HPR ⊢
        have c0 := HN9.out.cell (j := 0) rfl
        have c1 := HN9.out.cell (j := 1) rfl
        have cl := HN9.out.lt
        go_wp2_with fail
        refine (HPM.out X HM9.out).mono ?_
        rintro e X1 ⟨rfl, hm, hg⟩
        have HMQ := Lib.hid (Nat.lt_trans HMB.out HQ.out)
        have HMA := Lib.hid hm
        have HRA := Lib.hid (HR9.out.kept hg (fun e => by have := HMQ.out; injection e; omega))
        have HKA : Hid (Kq [m, q] w4 X1) := Lib.hid (HK9.out.trans (Kq.of_grown hg (by simp)))
        have HNA := Lib.hid (HN9.out.kept hg (fun e => by have := HMS.out; injection e; omega))
        clear hm hg HN9 HM9 HR9 HK9 c0 c1 cl HPM
        have c0 := HNA.out.cell (j := 0) rfl
        have c1 := HNA.out.cell (j := 1) rfl
        have cl := HNA.out.lt
        go_wp2_with fail
        refine (HPR.out X1 HRA.out).mono ?_
        rintro e X2 ⟨rfl, hr, hg⟩
        have HM5 := Lib.hid (HMA.out.kept hg (fun e => by have := HMQ.out; injection e; omega))
        have HR5 := Lib.hid hr
        have HK5 : Hid (Kq [m, q] w4 X2) := Lib.hid (HKA.out.trans (Kq.of_grown hg (by simp)))
        clear hr hg HMA HRA HKA HNA HPR c0 c1 cl
        rw [← HLL.out] at HM5 HR5
        go_wp2
        go_roundw
        case rel => exact ⟨k + 1, H3.out, by go_num, HM5, HR5, HK5⟩
        case measure => have := H3.out; simp [intOf]; omega
    · obtain rfl : k = 10 := by omega
      have hm0 := HM.out
      have hq0 := HRQ.out
      have hns : w.heap.size ∉ [m, q] := by
        have h1 := HSM.out
        have h2 := HMB.out
        have h3 := HQ.out
        simp
        omega
      have hst : Fr.St wr w.heap.size 12 Fr.zeros := HS4.out.of_block (HK.out.block _ HS4.out.lt hns)
      have hrt := rt_kq HT4.out (by omega) HK.out (fun y hy => by
        have h2 := HMB.out
        rcases List.mem_cons.1 hy with rfl | hy
        · exact .inl h2
        · have e : y = q := (by simpa using hy)
          rw [e]
          exact .inr (.inr (RAt_c0 HR4.out)))
      have hbw : Below w.heap.size w wr := HB4.out.trans (HK.out.under hTq HB4.out.size)
      have HR6 := Lib.hid hq0
      have HT6 := Lib.hid hrt
      have HB6 := Lib.hid hbw
      have HNEW := Lib.hid (new_ok w.heap.size m 12 Fr.zeros (mkG (hereB x) 10) wr hst (by omega) hm0 HSM.out)
      clear hm0 hq0 hst hrt hbw hns hTq HM HRQ HS4 HM4 HR4 HT4 HK h3 hk
      generalize hLM : mkG (hereB x) 10 = LM at HNEW HR6 ⊢
      have HLM : Hid (mapG x = LM) := Lib.hid hLM
      clear hLM
      go_wp2_with fail
      refine HNEW.out.mono ?_
      rintro e w7 ⟨rfl, hp7, hb7⟩
      have HP7 := Lib.hid hp7
      have HR7 := Lib.hid (HR6.out.more hb7)
      have HT7 := Lib.hid (HT6.out.below hb7)
      have HB7 := Lib.hid (HB6.out.trans (hb7.mono HB6.out.size))
      have HQL := Lib.hid HR6.out.lt
      have HBL := Lib.hid (show wr.heap.size < w7.heap.size from hp7.lt)
      clear hp7 hb7
      generalize wr.heap.size = b at HP7 HQL HBL ⊢
      go_upto_region 15 with fail
      refine wp_region_lit ?_
      refine Great.wpList_readTo rfl _ rfl (.pointer (some ⟨B, 0, none⟩)) (by kernel_rfl) ?_
      refine Great.wpList_readTo rfl _ rfl (.pointer (some ⟨q, 0, none⟩)) (by kernel_rfl) ?_
      refine wpList_buildTo rfl 81 _ rfl _ rfl (vCells B q noD).toArray (by kernel_rfl) ?_
      refine Great.wpList_boxTo rfl 81 _ rfl _ rfl w7.heap.size rfl (vCells B q noD).toArray rfl ?_
      have HA := (Below.refl w7.heap.size w7).alloc (Nat.le_refl _) (.cells (vCells B q noD).toArray 81)
      have HMD : Hid (Md w (w7.alloc (.cells (vCells B q noD).toArray 81)) b w.heap.size m w7.heap.size B B q gv cap Fr.zeros LM noD) := Lib.hid ⟨HP7.out.more HA, ⟨Blk.new w7 _ _, ⟨tvs, by rw [Fr.fr_zeros _ (by omega)]; exact HT7.out.below HA⟩, HR7.out.more HA, rfl, by omega, Fr.zeros_len, Fr.zeros_bytes, by omega, by have := HQ.out; omega, by have := HQL.out; have := HBL.out; omega⟩, Nat.le_refl _, HMB.out, HQL.out, HBL.out, HB7.out.trans (HA.mono HB7.out.size)⟩
      generalize w7.alloc (.cells (vCells B q noD).toArray 81) = w8 at HMD ⊢
      generalize w7.heap.size = g at HMD ⊢
      clear HA HP7 HR7 HT7 HB7 HQL HBL HNEW HR6 HT6 HB6
      simp only [Act.put, List.setIfInBounds_toArray, List.set_cons_succ, List.set_cons_zero]
      go_wp2
      have hli2 := hli
      go_loopw [17] (fun j wr => ∃ i : Nat, i ≤ cnt2 li ∧ j = .int .i64 i ∧ Hid (Md w wr b w.heap.size m g B B q gv cap (putS LM Z i) LM (putD LM Z i))) (fun j _ => cnt2 li - (intOf j).toNat)
      case atStart => exact ⟨0, Nat.zero_le _, rfl, HMD⟩
      case round =>
        obtain ⟨i, hic, rfl, HM⟩ := hrel
        by_cases hin : i < li ∧ i < 200
        · obtain ⟨h1, h2⟩ := hin
          obtain ⟨y, rfl, hyb, hy0, hy1, a0, a1, u0, u1⟩ := HI.out i h1
          have HBW : Hid (Below B0 w wr) := Lib.hid (HM.out.blw.mono HB0.out)
          obtain ⟨d0, d1⟩ := put_cells HBW.out hyb ⟨hy0, hy1⟩
          have HC := Lib.hid (And.intro hyb (And.intro hy0 hy1))
          have f0 : (i : Int) < (li : Int) := by omega
          have f1 : (i : Int) < 200 := by omega
          have f2 : (0 : Int) ≤ (i : Int) := by omega
          have H3 : Hid (i + 1 ≤ cnt2 li) := Lib.hid (by unfold cnt2; omega)
          have HS1 : Hid (putS LM Z (i + 1) = saveS 12 (putS LM Z i) LM (Z i).1 4 (Z i).2) := Lib.hid rfl
          have HS2 : Hid (putD LM Z (i + 1) = saveD 12 LM (putD LM Z i) (Z i).1 4) := Lib.hid rfl
          generalize (Z i).1 = pa at d0 a0 a1 hy0 HC HS1 HS2
          generalize (Z i).2 = pu at d1 u0 u1 hy1 HC HS1 HS2
          obtain ⟨c, hc⟩ : ∃ c, findF 12 LM pa 4 2 = c := ⟨_, rfl⟩
          obtain ⟨S2, hS2⟩ : ∃ S2, saveS 12 (putS LM Z i) LM pa 4 pu = S2 := ⟨_, rfl⟩
          obtain ⟨D2, hD2⟩ : ∃ D2, saveD 12 LM (putD LM Z i) pa 4 = D2 := ⟨_, rfl⟩
          have HSP := Lib.hid (fun W h => save_any (b := b) (s := w.heap.size) (m := m) pa 4 pu c S2 D2 a0 a1 u0 u1 hc hS2 hD2 W h)
          have HSD := Lib.hid (fun W h => refSave_any (g := g) (bt := B) (B := B) (q := q) (gv := gv) (cap := cap) pa 4 pu c S2 D2 a0 a1 u0 u1 hc hS2 hD2 W h)
          rw [hS2] at HS1
          rw [hD2] at HS2
          have hlt := HM.out
          clear hc hS2 hD2 hic h1 h2 hyb hy0 hy1
          generalize putS LM Z i = S1 at HM HSP HSD hlt
          generalize putD LM Z i = D1 at HM HSP HSD hlt
          clear hlt
          go_upto_region 19 with fail
          go_still_tail 11, (by kernel_rfl)
          change wpList _ _ _ _ _ wr.drew
          have HM1 : Hid (Md w wr.drew b w.heap.size m g B B q gv cap S1 LM D1) := Lib.hid (HM.out.more (Below.refl _ _).drew)
          clear d0 d1 HM
          generalize wr.drew = V1 at HM1 ⊢
          go_wp2_with fail
          refine (HSP.out V1 HM1.out.pv).mono ?_
          rintro e V2 ⟨rfl, hp, hk⟩
          have HP2 := Lib.hid hp
          obtain ⟨hd2, hb2⟩ := HM1.out.both hp hk
          have HD2 := Lib.hid hd2
          have HB2 := Lib.hid hb2
          have HO : Hid (w.heap.size ≤ w.heap.size ∧ m < B ∧ q < b ∧ b < g) := Lib.hid ⟨HM1.out.ws, HM1.out.mB, HM1.out.qb, HM1.out.bg⟩
          clear hp hk hd2 HSP HM1
          obtain ⟨d0, d1⟩ := put_cells (p := (pa, pu)) (hb2.mono HB0.out) HC.out.1 HC.out.2
          dsimp only at d0 d1
          clear hb2
          go_upto_region 20 with fail
          go_still_tail 11, (by kernel_rfl)
          change wpList _ _ _ _ _ V2.drew
          have HP3 := Lib.hid (HP2.out.more (Below.refl V2.heap.size V2).drew)
          have HD3 := Lib.hid (HD2.out.more (Below.refl V2.heap.size V2).drew)
          have HB3' := Lib.hid (HB2.out.trans ((Below.refl V2.heap.size V2).drew.mono HB2.out.size))
          clear d0 d1 HP2 HD2 HB2
          generalize V2.drew = V3 at HP3 HD3 HB3' ⊢
          go_wp2_with fail
          refine (HSD.out V3 HD3.out).mono ?_
          rintro e V4 ⟨rfl, hd, hk⟩
          have HM4 := Lib.hid (Md.doc HP3.out HB3'.out HO.out HD3.out hd hk)
          clear hd hk HSD HP3 HD3 HB3'
          rw [← HS1.out, ← HS2.out] at HM4
          go_wp2
          go_roundw
          case rel => exact ⟨i + 1, H3.out, by go_num, HM4⟩
          case measure => have := H3.out; simp [intOf]; omega
        · have hc : i = cnt2 li := by unfold cnt2 at *; omega
          have hm0 := HM.out
          rw [hc] at hm0
          have HF := Lib.hid hm0
          have hout : (¬ (i : Int) < (li : Int)) ∨ ((i : Int) < (li : Int) ∧ ¬ (i : Int) < 200) := by omega
          clear hm0 hin hc HM hic
          rcases hout with f1 | ⟨f1, f2⟩
          all_goals
            go_wp2
            go_ret2
            exact ⟨b, w.heap.size, m, g, rfl, B, B, q, gv, cap, by rw [HLM.out]; exact HF.out⟩
end Go.Proofs.Ytoafonbplbblpaa.Wa
end
