/- Package stlb: find, each, forget, over any closures that say which ones are meant and what is done with them. -/
import Derived.Test.YtgcpcffgpokbfaaAp
namespace Go.Proofs.Ytgcpcffgpokbfaa.Sb
open Go.RowKit Ut Hg
set_option maxRecDepth 100000
set_option linter.unusedVariables false
set_option maxHeartbeats 4000000

/-- a closure that says which ones are meant, in all worlds in which nothing but g has turned since W0 -/
def IsC (W0 : World) (g fi : Nat) (caps : Array Value) (P : Rc → Bool) : Prop :=
  (∀ args w, (callFunc fi args).run Try.prog w = .ok (.enter fi args) w) ∧ ∀ (x : Rc) (w : World), Kq [g] W0 w → Calls Try.prog fi (#[x.v] ++ caps) w fun e w' => e = .returned (.bool (P x)) ∧ Below w.heap.size w w'
/-- what find answers -/
def Found (P : Rc → Bool) (us : List Us) (i : Nat) (t : Bool) : Prop := (t = true ∧ ∃ u, us[i]? = some u ∧ P u.1 = true) ∨ (t = false ∧ i = 0 ∧ ∀ u ∈ us, P u.1 = false)

def FindP (P : Rc → Bool) (us : List Us) (e : Ending) : Prop := ∃ (i : Nat) (t : Bool), e = .returned (.tuple #[.int .i64 (i : Nat), .bool t]) ∧ Found P us i t

section
variable {W W0 : World} {g fi fd : Nat} {room c : Int} {us : List Us} {caps capd : Array Value} {P : Rc → Bool}
theorem take_no {i : Nat} {u : Us} (h : ∀ y ∈ us.take i, P y.1 = false) (hx : us[i]? = some u) (hi : P u.1 = false) : ∀ y ∈ us.take (i + 1), P y.1 = false := fun y hy => by
  rw [List.take_add_one, hx] at hy
  rcases List.mem_append.1 hy with hy | hy
  · exact h y hy
  · simp at hy
    rw [hy]
    exact hi
theorem find_any (h : LB W g 62 (hd3 room c) us) (hW : Kq [g] W0 W) (hi : IsC W0 g fi caps P) :
    Calls Try.prog 25 #[.pointer (some ⟨g, 0, none⟩), .func (.func fi) #[] caps] W fun e w' => FindP P us e ∧ Below W.heap.size W w' := by
  obtain ⟨hen, hc⟩ := hi
  have HL := Lib.hid h
  have HW := Lib.hid hW
  have HC := Lib.hid hc
  have HN := Lib.hid (tlbLen_any h)
  have hn5 := h.len
  obtain ⟨n, hn⟩ : ∃ n : Nat, us.length = n := ⟨_, rfl⟩
  rw [hn] at HN hn5
  have HLN := Lib.hid hn
  clear h hW hc hn
  go_enter Try.func25, Try.ntmps25
  go_wp2_with fail
  refine HN.out.mono ?_
  rintro e w1 ⟨rfl, rfl⟩
  clear HN
  go_wp2
  go_loopw [9] (fun j wr => ∃ k : Nat, k ≤ n ∧ j = .int .i64 k ∧ Hid (∀ u ∈ us.take k, P u.1 = false) ∧ Hid (Below W.heap.size W wr)) (fun j _ => n - (intOf j).toNat)
  case atStart => exact ⟨0, Nat.zero_le _, rfl, Lib.hid (by simp), Lib.hid (Below.refl _ _)⟩
  case round =>
    obtain ⟨k, hk, rfl, HNO, HB⟩ := hrel
    by_cases hlt : k < n
    · have hx : us[k]? = some (us[k]'(by rw [HLN.out]; exact hlt)) := List.getElem?_eq_getElem _
      obtain ⟨u, hu⟩ : ∃ u, us[k]'(by rw [HLN.out]; exact hlt) = u := ⟨_, rfl⟩
      rw [hu] at hx
      have hl2 := HL.out.more HB.out
      obtain ⟨c0, c1, c2, c3, c4, _⟩ := hl2.cells (o := 3) rfl k u hx
      have hgl := hl2.lt
      have b0 : (0 : Int) ≤ (k : Int) := by omega
      have b1 : (k : Int) < (n : Int) := by omega
      have b2 : (k : Int) < 5 := by omega
      have HX := Lib.hid hx
      have H3 := Lib.hid hlt
      obtain ⟨t, ht⟩ : ∃ t, P u.1 = t := ⟨_, rfl⟩
      have HCU := Lib.hid (HC.out u.1 wr (HW.out.trans (Kq.of_below HB.out)))
      rw [ht] at HCU
      have HT := Lib.hid ht
      clear hx hu hl2 hk hlt ht
      obtain ⟨⟨kr, kp, ep, ef, er⟩, s⟩ := u
      dsimp only [Rc.v] at c0 c1 c2 c3 c4 HCU
      cases t
      · have HN2 := Lib.hid (take_no HNO.out HX.out HT.out)
        go_wp2_with fail
        refine HCU.out.mono ?_
        rintro e w2 ⟨rfl, hb2⟩
        have HB2 := Lib.hid (HB.out.trans (hb2.mono HB.out.size))
        clear hb2 HCU c0 c1 c2 c3 c4
        go_wp2
        go_roundw
        case rel => exact ⟨k + 1, H3.out, by go_num, HN2, HB2⟩
        case measure => have := H3.out; simp [intOf]; omega
      · go_wp2_with fail
        refine HCU.out.mono ?_
        rintro e w2 ⟨rfl, hb2⟩
        have HB2 := Lib.hid (HB.out.trans (hb2.mono HB.out.size))
        clear hb2 HCU c0 c1 c2 c3 c4
        go_wp2
        go_ret2
        exact ⟨⟨k, true, rfl, .inl ⟨rfl, _, HX.out, HT.out⟩⟩, HB2.out⟩
    · obtain rfl : k = n := by omega
      have b1 : ¬ (k : Int) < (k : Int) := by omega
      have HF : Found P us 0 false := (.inr ⟨rfl, rfl, by have := HNO.out; rwa [← HLN.out, List.take_length] at this⟩)
      have HF2 := Lib.hid HF
      clear HF
      go_wp2
      go_ret2
      exact ⟨⟨0, false, rfl, HF2.out⟩, HB.out⟩

/-- a closure that does something with one that is meant; J says what holds behind so many -/
def DoC (W0 : World) (g fd : Nat) (capd : Array Value) (pre : List Value) (P : Rc → Bool) (J : List Us → Nat → Prop) : Prop :=
  (∀ args w, (callFunc fd args).run Try.prog w = .ok (.enter fd args) w) ∧ ∀ (us : List Us) (n i : Nat) (u : Us) (w : World), J us n → LB w g 62 pre us → Kq [g] W0 w → us[i]? = some u → P u.1 = true →
    Calls Try.prog fd (#[.int .i64 i] ++ capd) w fun e w' => e = .returned (.tuple #[]) ∧ (∃ us', Hid (J us' (n + 1)) ∧ Hid (LB w' g 62 pre us')) ∧ Kq [g] w w'
theorem each_any (N : Nat) (J : List Us → Nat → Prop) (hJN : ∀ us n, J us n → n + us.countP (fun u => P u.1) = N) (hN : N ≤ 1000) (h : LB W g 62 (hd3 room c) us) (hJ : J us 0) (hi : IsC W g fi caps P) (hd : DoC W g fd capd (hd3 room c) P J) :
    Calls Try.prog 34 #[.pointer (some ⟨g, 0, none⟩), .func (.func fi) #[] caps, .func (.func fd) #[] capd] W fun e w' => e = .returned (.int .i64 (N : Nat)) ∧ (∃ us', Hid (J us' N) ∧ Hid (LB w' g 62 (hd3 room c) us') ∧ Hid (∀ u ∈ us', P u.1 = false)) ∧ Kq [g] W w' := by
  have HI := Lib.hid hi
  obtain ⟨hen, hdo⟩ := hd
  have HDO := Lib.hid hdo
  have HJN := Lib.hid hJN
  have HJ0 := Lib.hid hJ
  have HL := Lib.hid h
  have HF0 := Lib.hid (find_any h (Kq.refl _ _) hi)
  have HL2 : Hid (∀ w', Below W.heap.size W w' → LB w' g 62 (hd3 room c) us) := Lib.hid fun w' hb => h.more hb
  have HKF : Hid (∀ (us' : List Us) (w : World), LB w g 62 (hd3 room c) us' → Kq [g] W w → Calls Try.prog 25 #[.pointer (some ⟨g, 0, none⟩), .func (.func fi) #[] caps] w fun e w' => FindP P us' e ∧ Below w.heap.size w w') := Lib.hid fun us' w h1 h2 => find_any h1 h2 hi
  have HNB := Lib.hid hN
  clear h hi hdo hJN hJ hN
  go_enter Try.func34, Try.ntmps34
  go_wp2_with fail
  refine HF0.out.mono ?_
  rintro e w1 ⟨hfd, hb1⟩
  obtain ⟨i, t, rfl, hfo⟩ := hfd
  have HFD := Lib.hid hfo
  have HL1 := Lib.hid (HL2.out w1 hb1)
  have HK1 := Lib.hid (Kq.of_below (T := [g]) hb1)
  clear hb1 HL2 HF0 HL hfo
  go_wp2
  go_loopw [7, 8, 9] (fun a b x wr => ∃ (n i : Nat) (t : Bool) (us' : List Us), a = .int .i64 n ∧ b = .int .i64 i ∧ x = .bool t ∧ n ≤ N ∧ Hid (J us' n) ∧ Hid (LB wr g 62 (hd3 room c) us') ∧ Hid (Found P us' i t) ∧ Hid (Kq [g] W wr)) (fun a _ _ _ => N - (intOf a).toNat)
  case atStart => exact ⟨0, i, t, us, rfl, rfl, rfl, Nat.zero_le _, HJ0, HL1, HFD, HK1⟩
  case round =>
    obtain ⟨n, i, t, us', rfl, rfl, rfl, hn, HJ, HLB, HFO, HK⟩ := hrel
    have hn0 : (n : Int) ≤ 1000 := by have := HNB.out; omega
    cases t
    · have hall : ∀ u ∈ us', P u.1 = false := by
        rcases HFO.out with ⟨h, _⟩ | ⟨_, _, h⟩
        · cases h
        · exact h
      have hnn : n = N := by
        have := HJN.out _ _ HJ.out
        rw [List.countP_eq_zero.2 (fun u hu => by rw [hall u hu]; decide)] at this
        omega
      subst hnn
      have HALL := Lib.hid hall
      clear hall
      go_wp2
      go_ret
      exact ⟨rfl, ⟨us', HJ, HLB, HALL⟩, HK.out⟩
    · have hfu : ∃ u, us'[i]? = some u ∧ P u.1 = true := by
        rcases HFO.out with ⟨_, h⟩ | ⟨h, _⟩
        · exact h
        · cases h
      obtain ⟨u, hu, hp⟩ := hfu
      have HD := Lib.hid (HDO.out us' n i u wr HJ.out HLB.out HK.out hu hp)
      clear hu hp HFO hn
      go_wp2_with fail
      refine HD.out.mono ?_
      rintro e w2 ⟨rfl, ⟨us2, HJ2, HL2⟩, hk2⟩
      have HK2 := Lib.hid (HK.out.trans hk2)
      have HF2 := Lib.hid (HKF.out us2 w2 HL2.out HK2.out)
      have HN2 : Hid (n + 1 ≤ N) := Lib.hid (by have := HJN.out _ _ HJ2.out; omega)
      clear hk2 HD HLB HJ
      go_wp2_with fail
      refine HF2.out.mono ?_
      rintro e w3 ⟨hfd, hb3⟩
      obtain ⟨i3, t3, rfl, hfo⟩ := hfd
      have HFO3 := Lib.hid hfo
      have HL3 := Lib.hid (HL2.out.more hb3)
      have HK3 := Lib.hid (HK2.out.trans (Kq.of_below hb3))
      clear hb3 HF2 hfo
      go_wp2
      go_roundw
      case rel => exact ⟨n + 1, i3, t3, us2, by go_num, rfl, rfl, HN2.out, HJ2, HL3, HFO3, HK3⟩
      case measure => have := HN2.out; simp [intOf]; omega

/-- what is left when all that are meant are forgotten: a heap of all others -/
def GoneJ (P : Rc → Bool) (us0 : List Us) (N : Nat) (us : List Us) (n : Nat) : Prop := HeapL usK us us.length ∧ n + us.countP (fun u => P u.1) = N ∧ (us.filter fun u => !P u.1).Perm (us0.filter fun u => !P u.1)
theorem forget1_any (k i : Nat) (us0 : List Us) (N n : Nat) (u : Us) (hJ : GoneJ P us0 N us n) (h : LB W g 62 (hd3 room c) us) (hk : Blk W k 25 [.pointer (some ⟨g, 0, none⟩)]) (hu : us[i]? = some u) (hp : P u.1 = true) :
    Calls Try.prog 42 #[.int .i64 i, .pointer (some ⟨k, 0, none⟩)] W fun e w' => e = .returned (.tuple #[]) ∧ (∃ us', Hid (GoneJ P us0 N us' (n + 1)) ∧ Hid (LB w' g 62 (hd3 room c) us')) ∧ Kq [g] W w' := by
  have hil := (List.getElem?_eq_some_iff.1 hu).1
  have HR := Lib.hid (hremove18 (o := 3) i ⟨h, hJ.1⟩ rfl hil)
  have hgu : us.getD i default = u := by rw [List.getD_eq_getElem?_getD, hu]; rfl
  rw [hgu] at HR
  have HJ := Lib.hid hJ
  have HP := Lib.hid hp
  have k0 := hk.cell (j := 0) rfl
  have kl := hk.lt
  clear h hJ hk hu hil hgu hp
  go_enter Try.func42, Try.ntmps42
  go_wp2_with fail
  refine HR.out.mono ?_
  rintro e w' ⟨c', r, rfl, rfl, hh, hperm, hk⟩
  have HE : Hid (GoneJ P us0 N r (n + 1)) := Lib.hid (by
    refine ⟨hh.2, ?_, ?_⟩
    · have h1 := HJ.out.2.1
      have h2 := hperm.countP_eq (fun u => P u.1)
      rw [List.countP_cons, if_pos HP.out] at h2
      omega
    · refine List.Perm.trans ?_ HJ.out.2.2
      have h2 := hperm.filter (fun u => !P u.1)
      rw [List.filter_cons_of_neg (by rw [HP.out]; decide)] at h2
      exact h2)
  have HLB := Lib.hid hh.1
  have HK := Lib.hid hk
  clear hh hperm hk k0 kl
  go_wp2
  go_end0
  exact ⟨rfl, ⟨r, HE, HLB⟩, HK.out⟩
theorem forget_any (h : HP W g 62 (hd3 room c) us) (hi : ∀ w, Below W.heap.size W w → IsC w g fi caps P) :
    Calls Try.prog 31 #[.pointer (some ⟨g, 0, none⟩), .func (.func fi) #[] caps] W fun e w' => e = .returned (.int .i64 (us.countP fun u => P u.1 : Nat)) ∧ (∃ us', Hid (HP w' g 62 (hd3 room c) us' ∧ us'.Perm (us.filter fun u => !P u.1))) ∧ Kq [g] W w' := by
  obtain ⟨U, hU⟩ : ∃ U, U = W.alloc (.cells #[.pointer (some ⟨g, 0, none⟩)] 25) := ⟨_, rfl⟩
  have hB : Below W.heap.size W U := by rw [hU]; exact (Below.refl _ _).alloc (Nat.le_refl _) _
  have hN : Blk U W.heap.size 25 [.pointer (some ⟨g, 0, none⟩)] := by rw [hU]; exact Blk.new W _ [.pointer (some ⟨g, 0, none⟩)]
  have hgl := h.1.lt
  have h5 := h.1.len
  have HE := Lib.hid (each_any (us.countP fun u => P u.1) (GoneJ P us (us.countP fun u => P u.1)) (fun _ _ h => h.2.1) (by have := List.countP_le_length (p := fun u : Us => P u.1) (l := us); omega) (h.1.more hB) ⟨h.2, by omega, List.Perm.refl _⟩ (hi U hB)
    (fd := 42) (capd := #[.pointer (some ⟨W.heap.size, 0, none⟩)]) ⟨fun _ _ => rfl, fun us' n i u w hJ hl hk hu hp => forget1_any W.heap.size i us _ n u hJ hl (hN.kq hk (by simp; omega)) hu hp⟩)
  have k0 := hN.cell (j := 0) rfl
  have kl := hN.lt
  have HU := Lib.hid hU
  have HB := Lib.hid hB
  clear h hi hB hN hU hgl h5
  generalize (us.countP fun u => P u.1) = N at HE ⊢
  go_enter Try.func31, Try.ntmps31
  go_upto_region 1 with fail
  rw [← HU.out]
  clear HU
  go_wp2_with fail
  refine HE.out.mono ?_
  rintro e w2 ⟨rfl, ⟨us', HJ, HL, HA⟩, hk⟩
  have HK := Lib.hid ((Kq.of_below HB.out).trans hk)
  have HR : Hid (HP w2 g 62 (hd3 room c) us' ∧ us'.Perm (us.filter fun u => !P u.1)) := Lib.hid (by
    refine ⟨⟨HL.out, HJ.out.1⟩, ?_⟩
    have := HJ.out.2.2
    rwa [List.filter_eq_self.2 (fun u hu => by rw [HA.out u hu]; rfl)] at this)
  clear hk HE k0 kl
  go_wp2
  go_ret
  exact ⟨rfl, ⟨us', HR⟩, HK.out⟩
end
end Go.Proofs.Ytgcpcffgpokbfaa.Sb
