/- Package asm: textOf, List. -/
import Derived.Test.YtfdekfobcohcjaaDoorQj
namespace Go.Proofs.YtfdekfobcohcjaaDoor.As
open Go.RowKit Ut Is Pl
set_option linter.unusedVariables false
set_option maxRecDepth 100000
set_option maxHeartbeats 8000000

theorem textOf_any (x : Nat) (hx : x < 4294967296) (w : World) (hw : Held w) :
    Calls Tryd.prog 33 #[.int .u32 x] w fun e w' => e = .returned (.string (tb (wText x))) ∧ Below w.heap.size w w' := by
  have hd := dec_any x hx w hw.has
  have HW := Lib.hid hw
  unfold wText
  by_cases h : decT x = true
  · rw [if_pos h]
    unfold decV at hd
    rw [if_pos h, h] at hd
    have hv : validB (wO x) (wD x) (wA x) (wB x) (immZ x) = true := h
    have htx := fun W hW => text_good (wO x) (wD x) (wA x) (wB x) (immZ x) hv W hW
    generalize wO x = o at hd htx ⊢
    generalize ((wD x : Nat) : Int) = d at hd htx ⊢
    generalize ((wA x : Nat) : Int) = a at hd htx ⊢
    generalize ((wB x : Nat) : Int) = b at hd htx ⊢
    generalize immZ x = m at hd htx ⊢
    generalize tb (textL o d a b m) = T at htx ⊢
    have HX := Lib.hid htx
    have HD := Lib.hid hd
    clear hd htx h hv hw
    go_enter Tryd.func33, Tryd.ntmps33
    go_wp2_with fail
    refine HD.out.mono ?_
    rintro e w1 ⟨rfl, hb1⟩
    obtain ⟨U, hU⟩ : ∃ U, U = insW o d a b m w1 := ⟨_, rfl⟩
    have HU := Lib.hid hU
    have hbU : Below w1.heap.size w1 U := hU ▸ ins_below o d a b m w1
    have HTU := Lib.hid ((HW.out.more hb1).more hbU)
    have HBU := Lib.hid (hb1.trans (hbU.mono hb1.size))
    clear hb1 hU hbU
    go_wp2_with fail
    rw [show w1.alloc (.cells #[.int .i64 o, .int .i64 d, .int .i64 a, .int .i64 b, .int .i64 m] 23) = U from HU.out.symm]
    refine (HX.out _ HTU.out).mono ?_
    rintro e w2 ⟨rfl, hb2⟩
    have HB2 := Lib.hid (HBU.out.trans (hb2.mono HBU.out.size))
    clear hb2
    go_wp2
    go_ret
    exact ⟨rfl, HB2.out⟩
  · rw [if_neg h]
    unfold decV at hd
    rw [if_neg h, show decT x = false by simpa using h] at hd
    have hfu := fun W hW => formatUint_any x (by omega) W hW
    have hl : (Lib.decDigits x).length ≤ 10 := dec_len 9 x (by omega)
    have hts : (tb (Lib.decDigits x)).size ≤ 10 := by rw [tb_size]; exact hl
    have hres : tb (wordM ++ Lib.decDigits x) = ⟨#[46, 119, 111, 114, 100, 32]⟩ ++ tb (Lib.decDigits x) := by rw [← tb_app2]; rfl
    generalize tb (Lib.decDigits x) = T at hfu hts hres
    have HX := Lib.hid hfu
    have HD := Lib.hid hd
    have HR := Lib.hid hres
    have hwr : IntKind.u64.wrap (x : Int) = (x : Int) := IntWalk.u64_in _ (by omega)
    have hxi : (x : Int) < 4294967296 := by omega
    have hc1 : ¬ 9223372036854775807 < 6 + T.size := by omega
    clear hd hfu h hw hl hres
    go_enter Tryd.func33, Tryd.ntmps33
    go_wp2_with fail
    refine HD.out.mono ?_
    rintro e w1 ⟨rfl, hb1⟩
    have hbU : Below w1.heap.size w1 (insW 0 0 0 0 0 w1) := ins_below 0 0 0 0 0 w1
    have HTU := Lib.hid ((HW.out.more hb1).more hbU)
    have HBU := Lib.hid (hb1.trans (hbU.mono hb1.size))
    clear hb1 hbU
    go_wp2_with fail
    refine (HX.out _ HTU.out).mono ?_
    rintro e w2 ⟨rfl, hb2⟩
    have HB2 := Lib.hid (HBU.out.trans (hb2.mono HBU.out.size))
    clear hb2
    go_wp2
    go_ret
    exact ⟨by rw [HR.out]; rfl, HB2.out⟩

theorem builder_below2 {T e : TypeId} {B b : Nat} {bs : List Value} {w w' : World} (h : Lib.IsBuilderF T e B b bs w) (hb : Below w.heap.size w w') : Lib.IsBuilderF T e B b bs w' := by
  have key : ∀ p, Lib.BuilderAtF T e B b p bs w → Lib.BuilderAtF T e B b p bs w' := fun p ⟨hB, v, hbk, hown, hne⟩ => by
    refine ⟨hB, v, (hb.block b (Array.getElem?_eq_some_iff.1 hbk).1).trans hbk, ⟨hown.1, ?_⟩, hne⟩
    rcases hown.2 with h0 | ⟨g, cap, cur, fz, hv, hg0, hg, r⟩
    · exact .inl h0
    · exact .inr ⟨g, cap, cur, fz, hv, hg0, (hb.block g (Array.getElem?_eq_some_iff.1 hg).1).trans hg, r⟩
  exact h.elim (fun x => .inl (key _ x)) (fun x => .inr (key _ x))
theorem builder_new2 (w : World) : Lib.IsBuilderF 74 5 w.heap.size w.heap.size (Lib.byteCells []) (w.alloc (.cells #[.pointer none, .slice none 0 0] 74 (0, 0))) :=
  .inl ⟨Nat.le_refl _, .slice none 0 0, heap_alloc_new _ _, World.ownsRowF_nil _ _ _ _, by simp [Value.ownBlock]⟩
theorem listL_succ {xs : List Nat} {k : Nat} (hk : k < xs.length) : listL (xs.take (k + 1)) = (listL (xs.take k) ++ wText (xs.getD k 0)) ++ [10] := by
  unfold listL
  rw [List.take_add_one, List.map_append, List.getElem?_eq_getElem hk, List.flatten_append]
  simp [List.getD, hk]
theorem list_long (a : Option Addr) (n cap : Nat) (h : 512 < n) (hn : n ≤ 9223372036854775807) (w : World) :
    Calls Tryd.prog 14 #[.slice a n cap] w fun e w' => e = .returned (.tuple #[.string ⟨#[]⟩, .int .i64 10]) ∧ Below w.heap.size w w' := by
  have hi : (512 : Int) < (n : Int) := by omega
  go_enter Tryd.func14, Tryd.ntmps14
  go_wp2
  go_ret2
  exact ⟨rfl, Below.refl _ _⟩
theorem list_short (a : Option Addr) (n cap : Nat) (xs : List Nat) (h : n ≤ 512) (hx : ∀ x ∈ xs, x < 4294967296) (w : World) (hw : Held w) (hrow : RowK .u32 w w.heap.size a n (xs.map Int.ofNat)) :
    Calls Tryd.prog 14 #[.slice a n cap] w fun e w' => e = .returned (.tuple #[.string (tb (listL xs)), .int .i64 0]) ∧ Below w.heap.size w w' := by
  have hlen : xs.length = n := by have := hrow.1; simpa using this
  have HX := Lib.hid hx
  have HL := Lib.hid hlen
  have HR := Lib.hid hrow
  have HW := Lib.hid hw
  have hi : (n : Int) ≤ 512 := by omega
  have hbd0 := builder_new2 w
  have hb0 : Below w.heap.size w (w.alloc (.cells #[.pointer none, .slice none 0 0] 74 (0, 0))) := (Below.refl _ _).alloc (Nat.le_refl _) _
  have HBD0 := Lib.hid hbd0
  have HB0 := Lib.hid hb0
  have HLN : Hid (∀ k, (listL (xs.take k)).length ≤ 27 * n) := Lib.hid fun k => by
    have := list_len (xs.take k) fun x hm => hx x (List.mem_of_mem_take hm)
    simp only [List.length_take] at this
    omega
  have hsz0 : w.heap.size < (w.alloc (.cells #[.pointer none, .slice none 0 0] 74 (0, 0))).heap.size := by simp
  have HSZ0 := Lib.hid hsz0
  clear hx hlen hrow hw hbd0 hb0 hsz0
  go_enter Tryd.func14, Tryd.ntmps14
  go_wp2
  go_loopw [12] (fun i wr => ∃ k : Nat, k ≤ n ∧ i = .int .i64 k ∧ Lib.IsBuilderF 74 5 w.heap.size w.heap.size (Lib.byteCells (listL (xs.take k))) wr ∧ Below w.heap.size w wr ∧ w.heap.size < wr.heap.size) (fun i _ => n - (intOf i).toNat)
  case atStart => exact ⟨0, Nat.zero_le _, rfl, HBD0.out, HB0.out, HSZ0.out⟩
  case round =>
    obtain ⟨k, hk, rfl, hbd, hb, hbl⟩ := hrel
    have HBD := Lib.hid hbd
    have HB := Lib.hid hb
    by_cases hlt : k < n
    · obtain ⟨ad, rfl, had, hc⟩ := (HR.out.below hb).2 k hlt
      have hlk : k < xs.length := by have := HL.out; omega
      have hst := listL_succ hlk
      have hxk : xs.getD k 0 < 4294967296 := HX.out _ (by rw [List.getD_eq_getElem?_getD, List.getElem?_eq_getElem hlk]; exact List.getElem_mem hlk)
      have hcx : (xs.map Int.ofNat).getD k 0 = ((xs.getD k 0 : Nat) : Int) := by simp [List.getD, hlk]
      rw [hcx] at hc
      generalize xs.getD k 0 = x at hc hxk hst
      have hto := fun W hW => textOf_any x hxk W hW
      have hwl := (line_word x hxk).2.1
      have hls := HLN.out k
      have hts : (tb (wText x)).size ≤ 26 := by rw [tb_size]; exact hwl
      have htl : Lib.strCells (tb (wText x)) = Lib.byteCells (wText x) := rfl
      have hstc : Lib.byteCells (listL (xs.take (k + 1))) = (Lib.byteCells (listL (xs.take k)) ++ Lib.strCells (tb (wText x))) ++ [.int .u8 10] := by
        rw [hst, Lib.byteCells_append, Lib.byteCells_append, htl]; rfl
      have hcl : (Lib.byteCells (listL (xs.take k))).length ≤ 27 * n := by rw [Lib.byteCells_length]; exact hls
      have hc2l : (Lib.byteCells (listL (xs.take k)) ++ Lib.strCells (tb (wText x))).length ≤ 27 * n + 26 := by
        rw [List.length_append, htl, Lib.byteCells_length (wText x)]; omega
      generalize tb (wText x) = T at hto hts hstc hc2l
      have HTO := Lib.hid hto
      have HTS := Lib.hid hts
      have HSTC := Lib.hid hstc
      have HCL := Lib.hid hcl
      have HCL2 := Lib.hid hc2l
      have hadl : ad.block < wr.heap.size := by omega
      clear hbd hb hst hxk hcx hto hwl hls hts htl hstc hcl hc2l
      go_wp2_with fail
      refine (HTO.out _ (HW.out.more HB.out)).mono ?_
      rintro e w1 ⟨rfl, hb1⟩
      have HBD1 := Lib.hid (builder_below2 HBD.out hb1)
      have HB1 := Lib.hid (HB.out.trans (hb1.mono HB.out.size))
      have hl1 : w.heap.size < w1.heap.size := Nat.lt_of_lt_of_le hbl hb1.size
      clear hb1
      go_wp2_with fail
      refine (writeString_any w.heap.size w.heap.size _ T _ HBD1.out (by have := HCL.out; have := HTS.out; omega) (by omega)).mono ?_
      rintro e w2 ⟨rfl, hB2, hb2, _⟩
      have HBD2 := Lib.hid hB2
      have HB2 := Lib.hid (HB1.out.trans hb2)
      have hl2 : w.heap.size < w2.heap.size := Nat.lt_of_lt_of_le hl1 hb2.size
      clear hB2 hb2
      go_wp2_with fail
      refine (writeByte_any w.heap.size w.heap.size _ 10 _ (.inr HBD2.out) (by have := HCL2.out; omega) (by omega)).mono ?_
      rintro e w3 ⟨rfl, hB3, hb3⟩
      have HBD3 := Lib.hid hB3
      have HB3 := Lib.hid (HB2.out.trans hb3)
      have hl3 : w.heap.size < w3.heap.size := Nat.lt_of_lt_of_le hl2 hb3.size
      clear hB3 hb3
      go_wp2
      go_roundw
      case rel => exact ⟨k + 1, by omega, by go_num, by rw [HSTC.out]; exact .inr HBD3.out, HB3.out, hl3⟩
      case measure => simp [intOf]; omega
    · obtain rfl : k = n := by omega
      have e : xs.take k = xs := List.take_of_length_le (by have := HL.out; omega)
      rw [e] at hbd
      have hs := Sh.Builder_String_any_k w.heap.size w.heap.size _ wr hbd (by omega)
      have HS := Lib.hid hs
      clear hbd hb hs e
      go_wp2_with fail
      refine HS.out.mono ?_
      rintro e w4 ⟨rfl, _, hb4, _⟩
      go_wp2
      go_ret2
      exact ⟨rfl, HB.out.trans hb4⟩
end Go.Proofs.YtfdekfobcohcjaaDoor.As
