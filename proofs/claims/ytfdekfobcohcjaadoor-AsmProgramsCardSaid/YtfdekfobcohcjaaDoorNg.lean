/- Package isa: the document's Decode. -/
import Derived.Test.YtfdekfobcohcjaaDoorNf
namespace Go.Proofs.YtfdekfobcohcjaaDoor.Is
open Go.RowKit Ut
set_option linter.unusedVariables false
set_option maxRecDepth 100000
set_option maxHeartbeats 4000000

/-- the world behind the number's sign -/
abbrev twoW (o d a b m : Int) (w : World) : World := insW o d a b m (insW 0 0 0 0 0 w)
theorem two_below (o d a b m : Int) (w : World) : Below w.heap.size w (twoW o d a b m w) := (ins_below 0 0 0 0 0 w).trans ((ins_below o d a b m (insW 0 0 0 0 0 w)).mono (ins_below 0 0 0 0 0 w).size)
theorem two_zero (o d a b m : Int) (w : World) : InsAt (twoW o d a b m w) w.heap.size 0 0 0 0 0 := (ins_at 0 0 0 0 0 w).below (ins_below o d a b m _) (by simp)
theorem two_at (o d a b m : Int) (w : World) : InsAt (twoW o d a b m w) (w.heap.size + 1) o d a b m := by
  have h := ins_at o d a b m (insW 0 0 0 0 0 w)
  rwa [show (insW 0 0 0 0 0 w).heap.size = w.heap.size + 1 by simp] at h
theorem refDec_low (x : Nat) (hx : x < 4294967296) (o d a b i : Nat) (t : Bool) (ho : wO x = o) (hd : wD x = d) (ha : wA x = a) (hb : wB x = b) (hi : x / 262144 = i) (hi2 : i < 8192) (ht : validB o d a b i = t) (w : World) :
    Calls Tryd.prog 36 #[.int .u32 x] w fun e w' => e = .returned (.tuple #[if t = true then insV o d a b i else insV 0 0 0 0 0, .bool t]) ∧ Below w.heap.size w w' := by
  have HB0 := Lib.hid (ins_below 0 0 0 0 0 w)
  have HK : Hid (∀ w, Calls Tryd.prog 21 #[insV o d a b i] w fun e w' => e = .returned (.bool t) ∧ Below w.heap.size w w') := Lib.hid fun w => refValid_any o d a b i t ht w
  have bo : o < 64 := by rw [← ho]; unfold wO; omega
  have bd : d < 16 := by rw [← hd]; unfold wD; omega
  have ba : a < 16 := by rw [← ha]; unfold wA; omega
  have bb : b < 16 := by rw [← hb]; unfold wB; omega
  have eo : (x : Int) % 64 = o := by rw [← ho]; unfold wO; omega
  have ed : (x : Int) / 64 % 16 = d := by rw [← hd]; unfold wD; omega
  have ea : (x : Int) / 1024 % 16 = a := by rw [← ha]; unfold wA; omega
  have eb : (x : Int) / 16384 % 16 = b := by rw [← hb]; unfold wB; omega
  have ei : (x : Int) / 262144 = i := by rw [← hi]; omega
  have hi3 : (i : Int) < 8192 := by omega
  have HSet : Hid (∀ (W : World) (j : Nat) (v : Value), Below w.heap.size w W → Below w.heap.size w (W.setCell ⟨w.heap.size, j, none⟩ v)) := Lib.hid fun W j v h => h.setCell (p := ⟨w.heap.size, j, none⟩) (by simp) _
  have hbw := Lib.hid (HB0.out.trans ((ins_below o d a b i (insW 0 0 0 0 0 w)).mono HB0.out.size))
  have HZ : Hid (InsAt (insW o d a b i (insW 0 0 0 0 0 w)) w.heap.size 0 0 0 0 0) := Lib.hid ((ins_at 0 0 0 0 0 w).below (ins_below o d a b i _) (by simp))
  have HO : Hid (InsAt (insW o d a b i (insW 0 0 0 0 0 w)) (w.heap.size + 1) o d a b i) := Lib.hid (by have h := ins_at o d a b i (insW 0 0 0 0 0 w); rwa [show (insW 0 0 0 0 0 w).heap.size = w.heap.size + 1 by simp] at h)
  clear ho hd ha hb hi ht
  cases t
  · rw [if_neg (by decide)]
    go_enter Tryd.func36, Tryd.ntmps36
    go_wp2_with fail
    refine (HK.out _).mono ?_
    rintro e w1 ⟨rfl, hb1⟩
    have hq0 := HZ.out.more hb1
    obtain ⟨r0, r1, r2, r3, r4⟩ := hq0.cells
    have f0 := hq0.frozen 0 (by omega)
    have f1 := hq0.frozen 1 (by omega)
    have f2 := hq0.frozen 2 (by omega)
    have f3 := hq0.frozen 3 (by omega)
    have f4 := hq0.frozen 4 (by omega)
    have hz := hq0.lt
    have HB1 := Lib.hid (hbw.out.trans (hb1.mono hbw.out.size))
    clear hb1 hq0
    go_wp2
    exact bodyPost_ret (v := .tuple #[insV 0 0 0 0 0, .bool false]) (by simp [results, Tryd.results36, go_sem, r0, r1, r2, r3, r4]) rfl ⟨rfl, HSet.out _ _ _ (HSet.out _ _ _ (HSet.out _ _ _ (HSet.out _ _ _ (HSet.out _ _ _ HB1.out))))⟩
  · rw [if_pos rfl]
    go_enter Tryd.func36, Tryd.ntmps36
    go_wp2_with fail
    refine (HK.out _).mono ?_
    rintro e w1 ⟨rfl, hb1⟩
    have hq0 := HZ.out.more hb1
    obtain ⟨r0, r1, r2, r3, r4⟩ := hq0.cells
    have f0 := hq0.frozen 0 (by omega)
    have f1 := hq0.frozen 1 (by omega)
    have f2 := hq0.frozen 2 (by omega)
    have f3 := hq0.frozen 3 (by omega)
    have f4 := hq0.frozen 4 (by omega)
    have hz := hq0.lt
    have hq1 := HO.out.more hb1
    obtain ⟨s0, s1, s2, s3, s4⟩ := hq1.cells
    have HB1 := Lib.hid (hbw.out.trans (hb1.mono hbw.out.size))
    clear hb1 hq0 hq1
    go_wp2
    exact bodyPost_ret (v := .tuple #[insV o d a b i, .bool true]) (by simp [results, Tryd.results36, go_sem, r0, r1, r2, r3, r4]) rfl ⟨rfl, HSet.out _ _ _ (HSet.out _ _ _ (HSet.out _ _ _ (HSet.out _ _ _ (HSet.out _ _ _ HB1.out))))⟩
theorem refDec_high (x : Nat) (hx : x < 4294967296) (o d a b i : Nat) (t : Bool) (ho : wO x = o) (hd : wD x = d) (ha : wA x = a) (hb : wB x = b) (hi : x / 262144 = i) (hi2 : 8192 ≤ i) (ht : validB o d a b ((i : Int) - 16384) = t) (w : World) :
    Calls Tryd.prog 36 #[.int .u32 x] w fun e w' => e = .returned (.tuple #[if t = true then insV o d a b ((i : Int) - 16384) else insV 0 0 0 0 0, .bool t]) ∧ Below w.heap.size w w' := by
  have HB0 := Lib.hid (ins_below 0 0 0 0 0 w)
  have HK : Hid (∀ w, Calls Tryd.prog 21 #[insV o d a b ((i : Int) - 16384)] w fun e w' => e = .returned (.bool t) ∧ Below w.heap.size w w') := Lib.hid fun w => refValid_any o d a b _ t ht w
  have bo : o < 64 := by rw [← ho]; unfold wO; omega
  have bd : d < 16 := by rw [← hd]; unfold wD; omega
  have ba : a < 16 := by rw [← ha]; unfold wA; omega
  have bb : b < 16 := by rw [← hb]; unfold wB; omega
  have eo : (x : Int) % 64 = o := by rw [← ho]; unfold wO; omega
  have ed : (x : Int) / 64 % 16 = d := by rw [← hd]; unfold wD; omega
  have ea : (x : Int) / 1024 % 16 = a := by rw [← ha]; unfold wA; omega
  have eb : (x : Int) / 16384 % 16 = b := by rw [← hb]; unfold wB; omega
  have ei : (x : Int) / 262144 = i := by rw [← hi]; omega
  have hi3 : 8192 ≤ (i : Int) := by omega
  have hi4 : (i : Int) < 16384 := by omega
  have HSet : Hid (∀ (W : World) (j : Nat) (v : Value), Below w.heap.size w W → Below w.heap.size w (W.setCell ⟨w.heap.size, j, none⟩ v)) := Lib.hid fun W j v h => h.setCell (p := ⟨w.heap.size, j, none⟩) (by simp) _
  have hbw := Lib.hid (two_below o d a b ((i : Int) - 16384) w)
  have HZ := Lib.hid (two_zero o d a b ((i : Int) - 16384) w)
  have HO := Lib.hid (two_at o d a b ((i : Int) - 16384) w)
  clear ho hd ha hb hi ht
  cases t
  · rw [if_neg (by decide)]
    go_enter Tryd.func36, Tryd.ntmps36
    go_wp2_with fail
    refine (HK.out _).mono ?_
    rintro e w1 ⟨rfl, hb1⟩
    have hq0 := HZ.out.more hb1
    obtain ⟨r0, r1, r2, r3, r4⟩ := hq0.cells
    have f0 := hq0.frozen 0 (by omega)
    have f1 := hq0.frozen 1 (by omega)
    have f2 := hq0.frozen 2 (by omega)
    have f3 := hq0.frozen 3 (by omega)
    have f4 := hq0.frozen 4 (by omega)
    have hz := hq0.lt
    have HB1 := Lib.hid (hbw.out.trans (hb1.mono hbw.out.size))
    clear hb1 hq0
    go_wp2
    exact bodyPost_ret (v := .tuple #[insV 0 0 0 0 0, .bool false]) (by simp [results, Tryd.results36, go_sem, r0, r1, r2, r3, r4]) rfl ⟨rfl, HSet.out _ _ _ (HSet.out _ _ _ (HSet.out _ _ _ (HSet.out _ _ _ (HSet.out _ _ _ HB1.out))))⟩
  · rw [if_pos rfl]
    go_enter Tryd.func36, Tryd.ntmps36
    go_wp2_with fail
    refine (HK.out _).mono ?_
    rintro e w1 ⟨rfl, hb1⟩
    have hq0 := HZ.out.more hb1
    obtain ⟨r0, r1, r2, r3, r4⟩ := hq0.cells
    have f0 := hq0.frozen 0 (by omega)
    have f1 := hq0.frozen 1 (by omega)
    have f2 := hq0.frozen 2 (by omega)
    have f3 := hq0.frozen 3 (by omega)
    have f4 := hq0.frozen 4 (by omega)
    have hz := hq0.lt
    have hq1 := HO.out.more hb1
    obtain ⟨s0, s1, s2, s3, s4⟩ := hq1.cells
    have HB1 := Lib.hid (hbw.out.trans (hb1.mono hbw.out.size))
    clear hb1 hq0 hq1
    go_wp2
    exact bodyPost_ret (v := .tuple #[insV o d a b ((i : Int) - 16384), .bool true]) (by simp [results, Tryd.results36, go_sem, r0, r1, r2, r3, r4]) rfl ⟨rfl, HSet.out _ _ _ (HSet.out _ _ _ (HSet.out _ _ _ (HSet.out _ _ _ (HSet.out _ _ _ HB1.out))))⟩

/-- what Decode answers -/
def decT (x : Nat) : Bool := validB (wO x) (wD x) (wA x) (wB x) (immZ x)
def decV (x : Nat) : Value := if decT x = true then insV (wO x) (wD x) (wA x) (wB x) (immZ x) else insV 0 0 0 0 0
theorem dec_any (x : Nat) (hx : x < 4294967296) (w : World) (hw : HasT w) :
    Calls Tryd.prog 53 #[.int .u32 x] w fun e w' => e = .returned (.tuple #[decV x, .bool (decT x)]) ∧ Below w.heap.size w w' :=
  dec_in x hx _ _ _ _ _ _ rfl rfl rfl rfl rfl rfl w hw
theorem refDec_any (x : Nat) (hx : x < 4294967296) (w : World) :
    Calls Tryd.prog 36 #[.int .u32 x] w fun e w' => e = .returned (.tuple #[decV x, .bool (decT x)]) ∧ Below w.heap.size w w' := by
  by_cases h : x / 262144 < 8192
  · have e : immZ x = ((x / 262144 : Nat) : Int) := if_pos h
    unfold decV decT
    rw [e]
    exact refDec_low x hx _ _ _ _ _ _ rfl rfl rfl rfl rfl h rfl w
  · have e : immZ x = ((x / 262144 : Nat) : Int) - 16384 := if_neg h
    unfold decV decT
    rw [e]
    exact refDec_high x hx _ _ _ _ _ _ rfl rfl rfl rfl rfl (by omega) rfl w
end Go.Proofs.YtfdekfobcohcjaaDoor.Is
