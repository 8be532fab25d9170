/- Several texts in one: Ap Bq Br As -/
import Derived.Test.YteaincdeoajkeaaGreatDoorZ38
import Derived.Great.Ranges
import Derived.Great.Walk
import Derived.Laws.EntriesVeiled
section
/- Package stlb: New, Len, next; the closures that say which translations are meant. -/
namespace Go.Proofs.YteaincdeoajkeaaGreatDoor.Sb
open Go.RowKit Ut Hg
set_option maxRecDepth 100000
set_option linter.unusedVariables false
set_option maxHeartbeats 4000000

/-- what lies ahead of the heap: made, the room, the number of the last use -/
abbrev hd3 (room c : Int) : List Value := [.bool true, .int .i64 room, .int .u64 c]
section
variable {W W' : World} {g : Nat} {room c : Int} {us : List Us}
theorem LB.use (h : LB W g 175 (hd3 room c) us) (c' : Int) : LB (W.setCell ⟨g, 2, none⟩ (.int .u64 c')) g 175 (hd3 room c') us := by
 obtain ⟨z, h5, hb⟩ := h
 exact ⟨z, h5, hb.set 2 (.int .u64 c')⟩
theorem LB.pre (h : LB W g 175 (hd3 room c) us) : W.cell? ⟨g, 0, none⟩ = some (.bool true) ∧ W.cell? ⟨g, 1, none⟩ = some (.int .i64 room) ∧ W.cell? ⟨g, 2, none⟩ = some (.int .u64 c) := by
 obtain ⟨z, h5, hb⟩ := h
 exact ⟨hb.cell rfl, hb.cell rfl, hb.cell rfl⟩

/-- what a new one's cells are -/
def newC (room : Int) : List Value := hd3 room 0 ++ .int .i64 ((0 : Nat) : Int) :: flatU [noU, noU, noU, noU, noU]
theorem tlbNew_yes (room : Int) (h0 : ¬ room < 0) (h4 : ¬ 4 < room) (w : World) : Calls Tryz.prog 56 #[.int .i64 room] w fun e w' => e = .returned (.tuple #[.pointer (some ⟨w.heap.size, 0, none⟩), .int .i64 0]) ∧ HP w' w.heap.size 175 (hd3 room 0) [] ∧ Below w.heap.size w w' := by
 have HF : Hid (HP (w.alloc (.cells (newC room).toArray 175)) w.heap.size 175 (hd3 room 0) []) := Lib.hid ⟨⟨[noU, noU, noU, noU, noU], rfl, Blk.new w _ (newC room)⟩, nil_heap⟩
 have HB := Lib.hid ((Below.refl w.heap.size w).alloc (Nat.le_refl _) (.cells (newC room).toArray 175))
 go_enter Tryz.func56, Tryz.ntmps56
 go_upto_region 3 with fail
 refine wp_region_lit ?_
 refine Great.wpList_readTo rfl _ rfl (.int .i64 room) (by kernel_rfl) ?_
 refine wpList_buildTo rfl 175 _ rfl _ rfl (newC room).toArray (by kernel_rfl) ?_
 refine Great.wpList_boxTo rfl 175 _ rfl _ rfl w.heap.size rfl (newC room).toArray rfl ?_
 obtain ⟨V, hV⟩ : ∃ V, V = w.alloc (.cells (newC room).toArray 175) := ⟨_, rfl⟩
 rw [← hV] at HF HB ⊢
 clear hV
 go_wp2
 go_ret2
 exact ⟨rfl, HF.out, HB.out⟩

theorem tlbLen_any (h : LB W g 175 (hd3 room c) us) : Calls Tryz.prog 137 #[.pointer (some ⟨g, 0, none⟩)] W fun e w' => e = .returned (.int .i64 (us.length : Nat)) ∧ W = w' := by
 have h0 := h.cell0 (o := 3) rfl
 clear h
 go_enter Tryz.func137, Tryz.ntmps137
 go_wp2
 go_ret
 exact ⟨rfl, rfl⟩
end

/-- a key's closure; a page's -/
theorem hasKey_any (p q : Int) (w : World) : Calls Tryz.prog 113 #[.agg #[.int .i64 p, .int .i64 q]] w fun e w' => e = .returned (.func (.func 138) #[] #[.pointer (some ⟨w.heap.size, 0, none⟩)]) ∧ Blk w' w.heap.size 48 [.int .i64 p, .int .i64 q] ∧ Below w.heap.size w w' := by
 have HB := Lib.hid ((Below.refl w.heap.size w).alloc (Nat.le_refl _) (.cells #[.int .i64 p, .int .i64 q] 48))
 have HN := Lib.hid (Blk.new w 48 [.int .i64 p, .int .i64 q])
 go_enter Tryz.func113, Tryz.ntmps113
 go_wp2
 go_ret
 exact ⟨rfl, HN.out, HB.out⟩
theorem hasKey1_any (p q : Int) (k : Nat) (x : Rc) (w : World) (h : Blk w k 48 [.int .i64 p, .int .i64 q]) : Calls Tryz.prog 138 #[x.v, .pointer (some ⟨k, 0, none⟩)] w fun e w' => e = .returned (.bool (x.is p q)) ∧ Below w.heap.size w w' := by
 have k0 := h.cell (j := 0) rfl
 have k1 := h.cell (j := 1) rfl
 have kl := h.lt
 have hcases := is_cases x p q
 obtain ⟨kr, kp, ep, ef, er⟩ := x
 have HB := Lib.hid ((Below.refl w.heap.size w).alloc (Nat.le_refl _) (.cells #[.int .i64 kr, .int .i64 kp, .int .i64 ep, .int .i64 ef, .int .i64 er] 52))
 dsimp only at hcases ⊢
 clear h
 rcases hcases with ⟨hy, h1, h2⟩ | ⟨hy, h1⟩ | ⟨hy, h1, h2⟩
 ·subst h1 h2
  rw [hy]
  clear hy
  go_enter Tryz.func138, Tryz.ntmps138
  go_wp2
  go_ret
  exact ⟨rfl, HB.out⟩
 ·rw [hy]
  clear hy
  go_enter Tryz.func138, Tryz.ntmps138
  go_wp2
  go_ret
  exact ⟨rfl, HB.out⟩
 ·subst h1
  rw [hy]
  clear hy
  go_enter Tryz.func138, Tryz.ntmps138
  go_wp2
  go_ret
  exact ⟨rfl, HB.out⟩
theorem wide_any (pg : Int) (k : Nat) (x : Rc) (w : World) (h : Blk w k 3 [.int .i64 pg]) : Calls Tryz.prog 145 #[x.v, .pointer (some ⟨k, 0, none⟩)] w fun e w' => e = .returned (.bool (hadB x pg)) ∧ Below w.heap.size w w' := by
 have k0 := h.cell (j := 0) rfl
 have kl := h.lt
 have hh : hadB x pg = ((x.ep == pg) && !(bits .and .i64 x.er 2 == 0)) := rfl
 generalize hadB x pg = hb at hh ⊢
 obtain ⟨kr, kp, ep, ef, er⟩ := x
 have HB := Lib.hid ((Below.refl w.heap.size w).alloc (Nat.le_refl _) (.cells #[.int .i64 kr, .int .i64 kp, .int .i64 ep, .int .i64 ef, .int .i64 er] 52))
 dsimp only at hh
 clear h
 cases h1 : (ep == pg) with
 | false =>
  rw [h1, Bool.false_and] at hh
  subst hh
  go_enter Tryz.func145, Tryz.ntmps145
  go_wp2
  go_ret
  exact ⟨rfl, HB.out⟩
 | true =>
  rw [h1, Bool.true_and] at hh
  subst hh
  obtain ⟨q, hq⟩ : ∃ q, bits .and .i64 er 2 = q := ⟨_, rfl⟩
  rw [hq]
  go_enter Tryz.func145, Tryz.ntmps145
  go_wp2
  go_ret
  exact ⟨rfl, HB.out⟩
theorem flush1_any (x : Rc) (w : World) : Calls Tryz.prog 98 #[x.v] w fun e w' => e = .returned (.bool true) ∧ Below w.heap.size w w' := by
 obtain ⟨kr, kp, ep, ef, er⟩ := x
 have HB := Lib.hid ((Below.refl w.heap.size w).alloc (Nat.le_refl _) (.cells #[.int .i64 kr, .int .i64 kp, .int .i64 ep, .int .i64 ef, .int .i64 er] 52))
 go_enter Tryz.func98, Tryz.ntmps98
 go_wp2
 go_ret
 exact ⟨rfl, HB.out⟩
end Go.Proofs.YteaincdeoajkeaaGreatDoor.Sb
end
section
/- Package stlb: find, each, forget, over any closures that say which ones are meant and what is done with them. -/
namespace Go.Proofs.YteaincdeoajkeaaGreatDoor.Sb
open Go.RowKit Ut Hg
set_option maxRecDepth 100000
set_option linter.unusedVariables false
set_option maxHeartbeats 4000000

/-- a closure that says which ones are meant, in all worlds in which nothing but g has turned since W0 -/
def IsC (W0 : World) (g fi : Nat) (caps : Array Value) (P : Rc → Bool) : Prop :=
 (∀ args w, (callFunc fi args).run Tryz.prog w = .ok (.enter fi args) w) ∧ ∀ (x : Rc) (w : World), Kq [g] W0 w → Calls Tryz.prog fi (#[x.v] ++ caps) w fun e w' => e = .returned (.bool (P x)) ∧ Below w.heap.size w w'
/-- what find answers -/
def Found (P : Rc → Bool) (us : List Us) (i : Nat) (t : Bool) : Prop := (t = true ∧ ∃ u, us[i]? = some u ∧ P u.1 = true) ∨ (t = false ∧ i = 0 ∧ ∀ u ∈ us, P u.1 = false)

def FindP (P : Rc → Bool) (us : List Us) (e : Ending) : Prop := ∃ (i : Nat) (t : Bool), e = .returned (.tuple #[.int .i64 (i : Nat), .bool t]) ∧ Found P us i t

section
variable {W W0 : World} {g fi fd : Nat} {room c : Int} {us : List Us} {caps capd : Array Value} {P : Rc → Bool}
theorem take_no {i : Nat} {u : Us} (h : ∀ y ∈ us.take i, P y.1 = false) (hx : us[i]? = some u) (hi : P u.1 = false) : ∀ y ∈ us.take (i + 1), P y.1 = false := fun y hy => by
 rw [List.take_add_one, hx] at hy
 rcases List.mem_append.1 hy with hy | hy
 ·exact h y hy
 ·simp at hy
  rw [hy]
  exact hi
theorem find_any (h : LB W g 175 (hd3 room c) us) (hW : Kq [g] W0 W) (hi : IsC W0 g fi caps P) :
  Calls Tryz.prog 112 #[.pointer (some ⟨g, 0, none⟩), .func (.func fi) #[] caps] W fun e w' => FindP P us e ∧ Below W.heap.size W w' := by
 obtain ⟨hen, hc⟩ := hi
 have HL := Lib.hid h
 have HW := Lib.hid hW
 have HC := Lib.hid hc
 have HN := Lib.hid (tlbLen_any h)
 have hn5 := h.len
 obtain ⟨n, hn⟩ : ∃ n : Nat, us.length = n := ⟨_, rfl⟩
 rw [hn] at HN hn5
 have HLN := Lib.hid hn
 clear h hW hc hn
 go_enter Tryz.func112, Tryz.ntmps112
 go_wp2_with fail
 refine HN.out.mono ?_
 rintro e w1 ⟨rfl, rfl⟩
 clear HN
 go_wp2
 go_loopw [9] (fun j wr => ∃ k : Nat, k ≤ n ∧ j = .int .i64 k ∧ Hid (∀ u ∈ us.take k, P u.1 = false) ∧ Hid (Below W.heap.size W wr)) (fun j _ => n - (intOf j).toNat)
 case atStart => exact ⟨0, Nat.zero_le _, rfl, Lib.hid (by simp), Lib.hid (Below.refl _ _)⟩
 case round =>
  obtain ⟨k, hk, rfl, HNO, HB⟩ := hrel
  by_cases hlt : k < n
  ·have hx : us[k]? = some (us[k]'(by rw [HLN.out]; exact hlt)) := List.getElem?_eq_getElem _
   obtain ⟨u, hu⟩ : ∃ u, us[k]'(by rw [HLN.out]; exact hlt) = u := ⟨_, rfl⟩
   rw [hu] at hx
   have hl2 := HL.out.more HB.out
   obtain ⟨c0, c1, c2, c3, c4, _⟩ := hl2.cells (o := 3) rfl k u hx
   have hgl := hl2.lt
   have b0 : (0 : Int) ≤ (k : Int) := by omega
   have b1 : (k : Int) < (n : Int) := by omega
   have b2 : (k : Int) < 5 := by omega
   have HX := Lib.hid hx
   have H3 := Lib.hid hlt
   obtain ⟨t, ht⟩ : ∃ t, P u.1 = t := ⟨_, rfl⟩
   have HCU := Lib.hid (HC.out u.1 wr (HW.out.trans (Kq.of_below HB.out)))
   rw [ht] at HCU
   have HT := Lib.hid ht
   clear hx hu hl2 hk hlt ht
   obtain ⟨⟨kr, kp, ep, ef, er⟩, s⟩ := u
   dsimp only [Rc.v] at c0 c1 c2 c3 c4 HCU
   cases t
   ·have HN2 := Lib.hid (take_no HNO.out HX.out HT.out)
    go_wp2_with fail
    refine HCU.out.mono ?_
    rintro e w2 ⟨rfl, hb2⟩
    have HB2 := Lib.hid (HB.out.trans (hb2.mono HB.out.size))
    clear hb2 HCU c0 c1 c2 c3 c4
    go_wp2
    go_roundw
    case rel => exact ⟨k + 1, H3.out, by go_num, HN2, HB2⟩
    case measure => have := H3.out; simp [intOf]; omega
   ·go_wp2_with fail
    refine HCU.out.mono ?_
    rintro e w2 ⟨rfl, hb2⟩
    have HB2 := Lib.hid (HB.out.trans (hb2.mono HB.out.size))
    clear hb2 HCU c0 c1 c2 c3 c4
    go_wp2
    go_ret2
    exact ⟨⟨k, true, rfl, .inl ⟨rfl, _, HX.out, HT.out⟩⟩, HB2.out⟩
  ·obtain rfl : k = n := by omega
   have b1 : ¬ (k : Int) < (k : Int) := by omega
   have HF : Found P us 0 false := (.inr ⟨rfl, rfl, by have := HNO.out; rwa [← HLN.out, List.take_length] at this⟩)
   have HF2 := Lib.hid HF
   clear HF
   go_wp2
   go_ret2
   exact ⟨⟨0, false, rfl, HF2.out⟩, HB.out⟩

/-- a closure that does something with one that is meant; J says what holds behind so many -/
def DoC (W0 : World) (g fd : Nat) (capd : Array Value) (pre : List Value) (P : Rc → Bool) (J : List Us → Nat → Prop) : Prop :=
 (∀ args w, (callFunc fd args).run Tryz.prog w = .ok (.enter fd args) w) ∧ ∀ (us : List Us) (n i : Nat) (u : Us) (w : World), J us n → LB w g 175 pre us → Kq [g] W0 w → us[i]? = some u → P u.1 = true →
  Calls Tryz.prog fd (#[.int .i64 i] ++ capd) w fun e w' => e = .returned (.tuple #[]) ∧ (∃ us', Hid (J us' (n + 1)) ∧ Hid (LB w' g 175 pre us')) ∧ Kq [g] w w'
theorem each_any (N : Nat) (J : List Us → Nat → Prop) (hJN : ∀ us n, J us n → n + us.countP (fun u => P u.1) = N) (hN : N ≤ 1000) (h : LB W g 175 (hd3 room c) us) (hJ : J us 0) (hi : IsC W g fi caps P) (hd : DoC W g fd capd (hd3 room c) P J) :
  Calls Tryz.prog 130 #[.pointer (some ⟨g, 0, none⟩), .func (.func fi) #[] caps, .func (.func fd) #[] capd] W fun e w' => e = .returned (.int .i64 (N : Nat)) ∧ (∃ us', Hid (J us' N) ∧ Hid (LB w' g 175 (hd3 room c) us') ∧ Hid (∀ u ∈ us', P u.1 = false)) ∧ Kq [g] W w' := by
 have HI := Lib.hid hi
 obtain ⟨hen, hdo⟩ := hd
 have HDO := Lib.hid hdo
 have HJN := Lib.hid hJN
 have HJ0 := Lib.hid hJ
 have HL := Lib.hid h
 have HF0 := Lib.hid (find_any h (Kq.refl _ _) hi)
 have HL2 : Hid (∀ w', Below W.heap.size W w' → LB w' g 175 (hd3 room c) us) := Lib.hid fun w' hb => h.more hb
 have HKF : Hid (∀ (us' : List Us) (w : World), LB w g 175 (hd3 room c) us' → Kq [g] W w → Calls Tryz.prog 112 #[.pointer (some ⟨g, 0, none⟩), .func (.func fi) #[] caps] w fun e w' => FindP P us' e ∧ Below w.heap.size w w') := Lib.hid fun us' w h1 h2 => find_any h1 h2 hi
 have HNB := Lib.hid hN
 clear h hi hdo hJN hJ hN
 go_enter Tryz.func130, Tryz.ntmps130
 go_wp2_with fail
 refine HF0.out.mono ?_
 rintro e w1 ⟨hfd, hb1⟩
 obtain ⟨i, t, rfl, hfo⟩ := hfd
 have HFD := Lib.hid hfo
 have HL1 := Lib.hid (HL2.out w1 hb1)
 have HK1 := Lib.hid (Kq.of_below (T := [g]) hb1)
 clear hb1 HL2 HF0 HL hfo
 go_wp2
 go_loopw [7, 8, 9] (fun a b x wr => ∃ (n i : Nat) (t : Bool) (us' : List Us), a = .int .i64 n ∧ b = .int .i64 i ∧ x = .bool t ∧ n ≤ N ∧ Hid (J us' n) ∧ Hid (LB wr g 175 (hd3 room c) us') ∧ Hid (Found P us' i t) ∧ Hid (Kq [g] W wr)) (fun a _ _ _ => N - (intOf a).toNat)
 case atStart => exact ⟨0, i, t, us, rfl, rfl, rfl, Nat.zero_le _, HJ0, HL1, HFD, HK1⟩
 case round =>
  obtain ⟨n, i, t, us', rfl, rfl, rfl, hn, HJ, HLB, HFO, HK⟩ := hrel
  have hn0 : (n : Int) ≤ 1000 := by have := HNB.out; omega
  cases t
  ·have hall : ∀ u ∈ us', P u.1 = false := by
    rcases HFO.out with ⟨h, _⟩ | ⟨_, _, h⟩
    ·cases h
    ·exact h
   have hnn : n = N := by
    have := HJN.out _ _ HJ.out
    rw [List.countP_eq_zero.2 (fun u hu => by rw [hall u hu]; decide)] at this
    omega
   subst hnn
   have HALL := Lib.hid hall
   clear hall
   go_wp2
   go_ret
   exact ⟨rfl, ⟨us', HJ, HLB, HALL⟩, HK.out⟩
  ·have hfu : ∃ u, us'[i]? = some u ∧ P u.1 = true := by
    rcases HFO.out with ⟨_, h⟩ | ⟨h, _⟩
    ·exact h
    ·cases h
   obtain ⟨u, hu, hp⟩ := hfu
   have HD := Lib.hid (HDO.out us' n i u wr HJ.out HLB.out HK.out hu hp)
   clear hu hp HFO hn
   go_wp2_with fail
   refine HD.out.mono ?_
   rintro e w2 ⟨rfl, ⟨us2, HJ2, HL2⟩, hk2⟩
   have HK2 := Lib.hid (HK.out.trans hk2)
   have HF2 := Lib.hid (HKF.out us2 w2 HL2.out HK2.out)
   have HN2 : Hid (n + 1 ≤ N) := Lib.hid (by have := HJN.out _ _ HJ2.out; omega)
   clear hk2 HD HLB HJ
   go_wp2_with fail
   refine HF2.out.mono ?_
   rintro e w3 ⟨hfd, hb3⟩
   obtain ⟨i3, t3, rfl, hfo⟩ := hfd
   have HFO3 := Lib.hid hfo
   have HL3 := Lib.hid (HL2.out.more hb3)
   have HK3 := Lib.hid (HK2.out.trans (Kq.of_below hb3))
   clear hb3 HF2 hfo
   go_wp2
   go_roundw
   case rel => exact ⟨n + 1, i3, t3, us2, by go_num, rfl, rfl, HN2.out, HJ2, HL3, HFO3, HK3⟩
   case measure => have := HN2.out; simp [intOf]; omega

/-- what is left when all that are meant are forgotten: a heap of all others -/
def GoneJ (P : Rc → Bool) (us0 : List Us) (N : Nat) (us : List Us) (n : Nat) : Prop := HeapL usK us us.length ∧ n + us.countP (fun u => P u.1) = N ∧ (us.filter fun u => !P u.1).Perm (us0.filter fun u => !P u.1)
theorem forget1_any (k i : Nat) (us0 : List Us) (N n : Nat) (u : Us) (hJ : GoneJ P us0 N us n) (h : LB W g 175 (hd3 room c) us) (hk : Blk W k 76 [.pointer (some ⟨g, 0, none⟩)]) (hu : us[i]? = some u) (hp : P u.1 = true) :
  Calls Tryz.prog 131 #[.int .i64 i, .pointer (some ⟨k, 0, none⟩)] W fun e w' => e = .returned (.tuple #[]) ∧ (∃ us', Hid (GoneJ P us0 N us' (n + 1)) ∧ Hid (LB w' g 175 (hd3 room c) us')) ∧ Kq [g] W w' := by
 have hil := (List.getElem?_eq_some_iff.1 hu).1
 have HR := Lib.hid (hremove18 (o := 3) i ⟨h, hJ.1⟩ rfl hil)
 have hgu : us.getD i default = u := by rw [List.getD_eq_getElem?_getD, hu]; rfl
 rw [hgu] at HR
 have HJ := Lib.hid hJ
 have HP := Lib.hid hp
 have k0 := hk.cell (j := 0) rfl
 have kl := hk.lt
 clear h hJ hk hu hil hgu hp
 go_enter Tryz.func131, Tryz.ntmps131
 go_wp2_with fail
 refine HR.out.mono ?_
 rintro e w' ⟨c', r, rfl, rfl, hh, hperm, hk⟩
 have HE : Hid (GoneJ P us0 N r (n + 1)) := Lib.hid (by
  refine ⟨hh.2, ?_, ?_⟩
  ·have h1 := HJ.out.2.1
   have h2 := hperm.countP_eq (fun u => P u.1)
   rw [List.countP_cons, if_pos HP.out] at h2
   omega
  ·refine List.Perm.trans ?_ HJ.out.2.2
   have h2 := hperm.filter (fun u => !P u.1)
   rw [List.filter_cons_of_neg (by rw [HP.out]; decide)] at h2
   exact h2)
 have HLB := Lib.hid hh.1
 have HK := Lib.hid hk
 clear hh hperm hk k0 kl
 go_wp2
 go_end0
 exact ⟨rfl, ⟨r, HE, HLB⟩, HK.out⟩
theorem forget_any (h : HP W g 175 (hd3 room c) us) (hi : ∀ w, Below W.heap.size W w → IsC w g fi caps P) :
  Calls Tryz.prog 97 #[.pointer (some ⟨g, 0, none⟩), .func (.func fi) #[] caps] W fun e w' => e = .returned (.int .i64 (us.countP fun u => P u.1 : Nat)) ∧ (∃ us', Hid (HP w' g 175 (hd3 room c) us' ∧ us'.Perm (us.filter fun u => !P u.1))) ∧ Kq [g] W w' := by
 obtain ⟨U, hU⟩ : ∃ U, U = W.alloc (.cells #[.pointer (some ⟨g, 0, none⟩)] 76) := ⟨_, rfl⟩
 have hB : Below W.heap.size W U := by rw [hU]; exact (Below.refl _ _).alloc (Nat.le_refl _) _
 have hN : Blk U W.heap.size 76 [.pointer (some ⟨g, 0, none⟩)] := by rw [hU]; exact Blk.new W _ [.pointer (some ⟨g, 0, none⟩)]
 have hgl := h.1.lt
 have h5 := h.1.len
 have HE := Lib.hid (each_any (us.countP fun u => P u.1) (GoneJ P us (us.countP fun u => P u.1)) (fun _ _ h => h.2.1) (by have := List.countP_le_length (p := fun u : Us => P u.1) (l := us); omega) (h.1.more hB) ⟨h.2, by omega, List.Perm.refl _⟩ (hi U hB)
  (fd := 131) (capd := #[.pointer (some ⟨W.heap.size, 0, none⟩)]) ⟨fun _ _ => rfl, fun us' n i u w hJ hl hk hu hp => forget1_any W.heap.size i us _ n u hJ hl (hN.kq hk (by simp; omega)) hu hp⟩)
 have k0 := hN.cell (j := 0) rfl
 have kl := hN.lt
 have HU := Lib.hid hU
 have HB := Lib.hid hB
 clear h hi hB hN hU hgl h5
 generalize (us.countP fun u => P u.1) = N at HE ⊢
 go_enter Tryz.func97, Tryz.ntmps97
 go_upto_region 1 with fail
 rw [← HU.out]
 clear HU
 go_wp2_with fail
 refine HE.out.mono ?_
 rintro e w2 ⟨rfl, ⟨us', HJ, HL, HA⟩, hk⟩
 have HK := Lib.hid ((Kq.of_below HB.out).trans hk)
 have HR : Hid (HP w2 g 175 (hd3 room c) us' ∧ us'.Perm (us.filter fun u => !P u.1)) := Lib.hid (by
  refine ⟨⟨HL.out, HJ.out.1⟩, ?_⟩
  have := HJ.out.2.2
  rwa [List.filter_eq_self.2 (fun u hu => by rw [HA.out u hu]; rfl)] at this)
 clear hk HE k0 kl
 go_wp2
 go_ret
 exact ⟨rfl, ⟨us', HR⟩, HK.out⟩
end
end Go.Proofs.YteaincdeoajkeaaGreatDoor.Sb
end
section
/- Package stlb: what it remembers, told by the document's list; Len, Drop, Gone, Flush. -/
namespace Go.Proofs.YteaincdeoajkeaaGreatDoor.Sb
open Go.RowKit Ut Hg
set_option maxRecDepth 100000
set_option linter.unusedVariables false
set_option maxHeartbeats 4000000

/-- the program's translations at g: those of l, whose last use is longest ago first; c is the number of the last use -/
def PT (W : World) (g : Nat) (room c : Int) (l : List Rc) : Prop := ∃ us, HP W g 175 (hd3 room c) us ∧ Rel us l ∧ (∀ u ∈ us, u.2 ≤ c) ∧ 0 ≤ c
theorem Rel.count {us : List Us} {l : List Rc} (h : Rel us l) (P : Rc → Bool) : (us.countP fun u => P u.1) = l.countP P := by
 obtain ⟨_, o, h1, _, rfl⟩ := h
 rw [List.countP_map, ← h1.countP_eq]
 rfl
section
variable {W W0 : World} {g : Nat} {room c : Int} {l : List Rc}
theorem PT.lt (h : PT W g room c l) : g < W.heap.size := h.elim fun _ h => h.1.1.lt
theorem PT.kq {T : List Nat} {W' : World} (h : PT W g room c l) (k : Kq T W W') (hg : g ∉ T) : PT W' g room c l := by
 obtain ⟨us, h1, h2⟩ := h
 exact ⟨us, ⟨h1.1.kq k hg, h1.2⟩, h2⟩
theorem PT.more {W' : World} (h : PT W g room c l) (hb : Below W.heap.size W W') : PT W' g room c l := h.kq (T := []) (Kq.of_below hb) (by simp)
theorem PT.len (h : PT W g room c l) : l.length ≤ 5 := by
 obtain ⟨us, h1, h2, _⟩ := h
 rw [← h2.len]
 exact h1.1.len
theorem PT.made {W' : World} (h : HP W g 175 (hd3 room 0) []) : PT W g room 0 [] := ⟨[], h, Rel.nil, (fun u hu => absurd hu List.not_mem_nil), Int.le_refl _⟩
theorem isC_key (p q : Int) (k : Nat) (w : World) (hk : Blk w k 48 [.int .i64 p, .int .i64 q]) (hg : k ≠ g) : IsC w g 138 #[.pointer (some ⟨k, 0, none⟩)] (fun x => x.is p q) :=
 ⟨fun _ _ => rfl, fun x w' hw => hasKey1_any p q k x w' (hk.kq hw (by simpa using hg))⟩
end
end Go.Proofs.YteaincdeoajkeaaGreatDoor.Sb
end
section
/- Package stlb: Narrow. -/
namespace Go.Proofs.YteaincdeoajkeaaGreatDoor.Sb
open Go.RowKit Ut Hg
set_option maxRecDepth 100000
set_option linter.unusedVariables false
set_option maxHeartbeats 4000000

theorem clear_two (x : Nat) (hx : x < 18446744073709551616) : x &&& 18446744073709551613 = 4 * (x / 4) + x % 2 := by
 have h1 : (x &&& 18446744073709551613) % 4 = x % 2 := by
  have := Nat.and_mod_two_pow (a := x) (b := 18446744073709551613) (n := 2)
  rw [show (18446744073709551613 : Nat) % 2 ^ 2 = 2 ^ 1 - 1 from rfl, Nat.and_two_pow_sub_one_eq_mod] at this
  omega
 have h2 : (x &&& 18446744073709551613) / 4 = x / 4 := by
  have := Nat.and_div_two_pow (a := x) (b := 18446744073709551613) (n := 2)
  rw [show (18446744073709551613 : Nat) / 2 ^ 2 = 2 ^ 62 - 1 from rfl, Nat.and_two_pow_sub_one_eq_mod] at this
  omega
 omega
theorem and_two16 : ((List.range 16).all fun r => (r &&& 2) == (if r % 4 < 2 then 0 else 2)) = true := by decide +kernel
theorem low_two (x : Nat) : x &&& 2 = (if x % 4 < 2 then 0 else 2) := by
 have h1 : x &&& 2 < 2 ^ 4 := Nat.and_lt_two_pow _ (by decide)
 have h2 := Nat.and_mod_two_pow (a := x) (b := 2) (n := 4)
 rw [Nat.mod_eq_of_lt h1] at h2
 have h3 := List.all_eq_true.1 and_two16 (x % 16) (by rw [List.mem_range]; omega)
 rw [beq_iff_eq] at h3
 rw [show x % 16 % 4 = x % 4 by omega] at h3
 rw [h2]
 exact h3
theorem two_toNat : (BitVec.ofInt 64 2).toNat = 2 := by decide
/-- RWrite taken off by its bit, or by a subtraction: the same, where it is there -/
theorem narrowed (n : Int) (h : (bits .and .i64 n 2 == 0) = false) : bits .andNot .i64 n 2 = wrap64 (n - 2) := by
 have hx : (n % 18446744073709551616).toNat < 18446744073709551616 := by omega
 have e1 : bits .and .i64 n 2 = IntKind.i64.wrap (((n % 18446744073709551616).toNat &&& 2 : Nat) : Int) := by
  show IntKind.i64.wrap ((BitVec.ofInt 64 n &&& BitVec.ofInt 64 2).toNat : Nat) = _
  rw [BitVec.toNat_and, BitVec.toNat_ofInt, two_toNat]
  rfl
 have e2 : bits .andNot .i64 n 2 = IntKind.i64.wrap (((n % 18446744073709551616).toNat &&& 18446744073709551613 : Nat) : Int) := by
  show IntKind.i64.wrap ((BitVec.ofInt 64 n &&& ~~~ BitVec.ofInt 64 2).toNat : Nat) = _
  rw [BitVec.toNat_and, BitVec.toNat_ofInt, BitVec.toNat_not, two_toNat]
  rfl
 have hge : ¬ (n % 18446744073709551616).toNat % 4 < 2 := fun hlt => by
  rw [e1, low_two, if_pos hlt] at h
  simp [IntKind.wrap_i64] at h
 rw [e2, clear_two _ hx, IntKind.wrap_i64]
 generalize hm : (n % 18446744073709551616).toNat = m at hge hx ⊢
 rw [show ((4 * (m / 4) + m % 2 : Nat) : Int) = (m : Int) - 2 by omega]
 have : ∃ k : Int, n = (m : Int) + k * 18446744073709551616 := ⟨n / 18446744073709551616, by omega⟩
 obtain ⟨k, rfl⟩ := this
 unfold wrap64
 omega
section
variable {W W0 : World} {g : Nat} {room c : Int} {us : List Us} {l : List Rc}
/-- what has been narrowed so far -/
def NarJ (pg : Int) (us0 : List Us) (N : Nat) (us : List Us) (n : Nat) : Prop := (us.map fun u => (narX pg u.1, u.2)) = (us0.map fun u => (narX pg u.1, u.2)) ∧ n + us.countP (fun u => hadB u.1 pg) = N
theorem bits_off (n : Int) : bits .and .i64 (bits .andNot .i64 n 2) 2 = 0 := by
 have e2 : bits .andNot .i64 n 2 = IntKind.i64.wrap (((n % 18446744073709551616).toNat &&& 18446744073709551613 : Nat) : Int) := by
  show IntKind.i64.wrap ((BitVec.ofInt 64 n &&& ~~~ BitVec.ofInt 64 2).toNat : Nat) = _
  rw [BitVec.toNat_and, BitVec.toNat_ofInt, BitVec.toNat_not, two_toNat]
  rfl
 rw [e2, clear_two _ (by omega), IntKind.wrap_i64]
 generalize (n % 18446744073709551616).toNat = m
 generalize hz : (((4 * (m / 4) + m % 2 : Nat) : Int) + 9223372036854775808) % 18446744073709551616 - 9223372036854775808 = z
 have e1 : bits .and .i64 z 2 = IntKind.i64.wrap (((z % 18446744073709551616).toNat &&& 2 : Nat) : Int) := by
  show IntKind.i64.wrap ((BitVec.ofInt 64 z &&& BitVec.ofInt 64 2).toNat : Nat) = _
  rw [BitVec.toNat_and, BitVec.toNat_ofInt, two_toNat]
  rfl
 rw [e1, low_two, if_pos (by omega)]
 simp [IntKind.wrap_i64]
theorem nar_had {x : Rc} {pg : Int} (h : hadB x pg = true) : narX pg x = { x with er := bits .andNot .i64 x.er 2 } ∧ hadB (narX pg x) pg = false := by
 have hw : (bits .and .i64 x.er 2 == 0) = false := by
  unfold hadB at h
  simp at h
  simpa using h.2
 have e : narX pg x = { x with er := bits .andNot .i64 x.er 2 } := by
  unfold narX
  rw [if_pos h, narrowed _ hw]
 refine ⟨e, ?_⟩
 rw [e]
 unfold hadB
 rw [bits_off]
 simp
theorem nar_not {x : Rc} {pg : Int} (h : hadB x pg = false) : narX pg x = x := by
 unfold narX
 rw [if_neg (by rw [h]; decide)]
theorem NarJ.next {pg : Int} {us0 us : List Us} {N n i : Nat} {u : Us} (h : NarJ pg us0 N us n) (hu : us[i]? = some u) (hp : hadB u.1 pg = true) : NarJ pg us0 N (us.set i (narX pg u.1, u.2)) (n + 1) := by
 obtain ⟨hl, e⟩ := List.getElem?_eq_some_iff.1 hu
 obtain ⟨h1, h2⟩ := h
 refine ⟨?_, ?_⟩
 ·rw [← h1, List.map_set]
  have e3 : narX pg (narX pg u.1) = narX pg u.1 := nar_not (nar_had hp).2
  dsimp only
  rw [e3]
  apply List.ext_getElem?
  intro k
  rw [List.getElem?_set]
  by_cases hk : i = k
  ·subst hk
   rw [if_pos rfl, List.getElem?_map, hu, if_pos (by simpa using hl)]
   rfl
  ·rw [if_neg hk]
 ·rw [List.countP_set hl]
  have h3 : 0 < us.countP fun u => hadB u.1 pg := List.countP_pos_iff.2 ⟨u, List.mem_of_getElem? hu, hp⟩
  dsimp only
  rw [(nar_had hp).2, e, hp]
  simp
  omega
theorem nar_heap {pg : Int} {us0 us : List Us} {N n : Nat} (h : NarJ pg us0 N us n) (hh : HeapL usK us0 us0.length) : HeapL usK us us.length := by
 have h1 := h.1
 have hl : us.length = us0.length := by have := congrArg List.length h1; simpa using this
 have hv : ∀ k, vl usK us k = vl usK us0 k := fun k => by
  unfold vl usK
  have e : (us.map fun u => (narX pg u.1, u.2))[k]? = (us0.map fun u => (narX pg u.1, u.2))[k]? := by rw [h1]
  rw [List.getElem?_map, List.getElem?_map] at e
  rw [List.getD_eq_getElem?_getD, List.getD_eq_getElem?_getD]
  cases e1 : us[k]? with
  | none =>
   cases e2 : us0[k]? with
   | none => rfl
   | some y => rw [e1, e2] at e; cases e
  | some x =>
   cases e2 : us0[k]? with
   | none => rw [e1, e2] at e; cases e
   | some y =>
    rw [e1, e2] at e
    simp only [Option.map_some, Option.some.injEq, Prod.mk.injEq] at e
    simpa using e.2
 intro k h0 hk
 rw [hv, hv]
 exact hh k h0 (by omega)
theorem narrow2_any (pg : Int) (k i : Nat) (us0 : List Us) (N n : Nat) (u : Us) (hJ : NarJ pg us0 N us n) (h : LB W g 175 (hd3 room c) us) (hk : Blk W k 76 [.pointer (some ⟨g, 0, none⟩)]) (hkg : k ≠ g) (hu : us[i]? = some u) (hp : hadB u.1 pg = true) :
  Calls Tryz.prog 146 #[.int .i64 i, .pointer (some ⟨k, 0, none⟩)] W fun e w' => e = .returned (.tuple #[]) ∧ (∃ us', Hid (NarJ pg us0 N us' (n + 1)) ∧ Hid (LB w' g 175 (hd3 room c) us')) ∧ Kq [g] W w' := by
 have hil := (List.getElem?_eq_some_iff.1 hu).1
 have hl5 := h.len
 have HJ := Lib.hid (hJ.next hu hp)
 have d1 : (0 : Int) ≤ (i : Int) ∧ (i : Int) < 5 := by omega
 obtain ⟨c0, c1, c2, c3, c4, c5⟩ := h.cells (o := 3) rfl i u hu
 have hgl := h.lt
 have f4 := h.frz (3 + 1 + i * 6 + 4)
 have k0 := hk.cell (j := 0) rfl
 have kl := hk.lt
 have HL : Hid (LB (W.setCell ⟨g, 3 + 1 + i * 6 + 4, none⟩ (.int .i64 (bits .andNot .i64 u.1.er 2))) g 175 (hd3 room c) (us.set i (narX pg u.1, u.2))) := Lib.hid (by
  obtain ⟨z, h5, hb⟩ := h
  refine ⟨z, by simpa using h5, ?_⟩
  have h6 := hb.set (3 + 1 + i * 6 + 4) (.int .i64 (bits .andNot .i64 u.1.er 2))
  have e : (hd3 room c ++ .int .i64 (us.length : Nat) :: flatU (us ++ z)).set (3 + 1 + i * 6 + 4) (.int .i64 (bits .andNot .i64 u.1.er 2)) = hd3 room c ++ .int .i64 ((us.set i (narX pg u.1, u.2)).length : Nat) :: flatU (us.set i (narX pg u.1, u.2) ++ z) := by
   rw [(nar_had hp).1, List.length_set, List.set_append_right _ _ (by first | (simp; done) | (simp; omega)), show 3 + 1 + i * 6 + 4 - (hd3 room c).length = i * 6 + 4 + 1 by simp; omega, List.set_cons_succ, ← List.set_append_left _ _ hil]
   congr 2
   rw [flatU_set _ _ _ (by rw [List.length_append]; omega)]
   have hx : (us ++ z)[i]? = some u := by rw [List.getElem?_append_left hil]; exact hu
   obtain ⟨g0, g1, g2, g3, g4, g5⟩ := flatU_get _ i u hx
   have keep : ∀ (X : List Value) (j : Nat) (v : Value), X[j]? = some v → X.set j v = X := fun X j v hv => by
    apply List.ext_getElem?
    intro m
    rw [List.getElem?_set]
    by_cases hm : j = m
    ·subst hm
     rw [if_pos rfl, if_pos (List.getElem?_eq_some_iff.1 hv).1, hv]
    ·rw [if_neg hm]
   dsimp only
   rw [keep _ _ _ g0, keep _ _ _ g1, keep _ _ _ g2, keep _ _ _ g3]
   rw [keep _ (i * 6 + 5) _ (by rw [List.getElem?_set_ne (by omega)]; exact g5)]
  rw [e] at h6
  exact h6)
 have HK := Lib.hid (kq_drew ((Kq.refl [g] W).setCell g (3 + 1 + i * 6 + 4) (.int .i64 (bits .andNot .i64 u.1.er 2)) (.inl (by simp))))
 have HL : Hid (LB (W.setCell ⟨g, 3 + 1 + i * 6 + 4, none⟩ (.int .i64 (bits .andNot .i64 u.1.er 2))).drew g 175 (hd3 room c) (us.set i (narX pg u.1, u.2))) := Lib.hid (HL.out.of_block rfl)
 have e9 : 3 + 1 + i * 6 + 4 = 4 + i * 6 + 2 + 2 := by omega
 rw [e9] at HL HK c4 f4
 generalize us.set i (narX pg u.1, u.2) = us' at HJ HL
 generalize u.1.er = er at c4 HL HK
 clear h hJ hk hu hil hp hl5 c0 c1 c2 c3 c5 e9
 go_enter Tryz.func146, Tryz.ntmps146
 go_region
 go_wp2
 go_end0
 exact ⟨rfl, ⟨us', HJ, HL⟩, HK.out⟩
end
end Go.Proofs.YteaincdeoajkeaaGreatDoor.Sb
end
