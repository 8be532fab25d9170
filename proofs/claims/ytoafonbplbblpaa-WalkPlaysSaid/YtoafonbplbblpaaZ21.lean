/- Several texts in one: Yl -/
import Derived.Test.YtoafonbplbblpaaZ20
section
/- Package view: Read of the program. -/
namespace Go.Proofs.Ytoafonbplbblpaa.Vw
open Go.RowKit Go.Shelf Ut Oc
set_option maxRecDepth 100000
set_option linter.unusedVariables false
set_option maxHeartbeats 4000000

theorem prtB_len {L : List Gm.Pl} {S : List Int} (hS : S.length = 2048) {p : Part} (h1 : p.off + p.k ≤ 64) (hf : frN L p.page < 32) : (prtB L S p).length = p.k := by
  unfold prtB Fr.frameL
  simp [hS]
  omega
theorem foldB_snoc {L : List Gm.Pl} {S : List Int} {a K : Nat} (l : List (BP a K)) (x : BP a K) : foldB L S (l ++ [x]) = foldB L S l ++ prtB L S x.1 := by
  simp [foldB, List.flatMap_append]
theorem foldB_len {L : List Gm.Pl} {S : List Int} {a K : Nat} (hS : S.length = 2048) (l : List (BP a K)) : (foldB L S l).length ≤ 64 * l.length := by
  induction l with
  | nil => simp [foldB]
  | cons x l ih =>
    have : (prtB L S x.1).length ≤ 64 := by
      unfold prtB Fr.frameL
      simp
      omega
    simp only [foldB, List.flatMap_cons, List.length_append, List.length_cons] at ih ⊢
    omega

/-- blocks below B but those of T stay as they are -/
structure Kr (B : Nat) (T : List Nat) (w w' : World) : Prop where
  os : w'.os = w.os
  tape : w'.tape = w.tape
  output : w'.output = w.output
  size : w.heap.size ≤ w'.heap.size
  block : ∀ q, q < B → q ∉ T → w'.heap[q]? = w.heap[q]?
theorem Kr.of_below {B : Nat} {T : List Nat} {w w' : World} (h : Below B w w') : Kr B T w w' := ⟨h.os, h.tape, h.output, h.size, fun q hq _ => h.block q hq⟩
theorem Kq.and_kr {T : List Nat} {w w1 w2 : World} (h : Kq T w w1) (k : Kr w.heap.size T w1 w2) : Kq T w w2 :=
  ⟨k.os.trans h.os, k.tape.trans h.tape, k.output.trans h.output, Nat.le_trans h.size k.size, fun q hq hn => (k.block q hq hn).trans (h.block q hq hn)⟩
theorem row_slice {w : World} {B n : Nat} {g : Nat} {zs : List Int} (h : RowK .u8 w B (some ⟨g, 0, none⟩) n zs) (i k : Nat) (hik : i + k ≤ n) : RowK .u8 w B (some ⟨g, i, none⟩) k ((zs.drop i).take k) := by
  have := h.part i k hik
  rwa [add_plain] at this

section
variable {b s m n : Nat} {S : List Int} {L : List Gm.Pl} {D : List Bool}
theorem read1_any (Bv Bb B0 : Nat) (x : Part) (hk : x.off + x.k ≤ 64) (hk0 : 0 < x.k) (hf : frN L x.page < n) (v : Value) (i : Nat) (xs : List Int) (hi : i ≤ 50000) (w : World) (hP : PV w b s m n S L D) (hV : Boxed w Bv 27 (.pointer (some ⟨b, 0, none⟩)))
    (hB : Boxed w Bb 122 v) (hO : OwnI .u8 w B0 5 v i xs) (h1 : Bb < B0) (h2 : B0 ≤ w.heap.size) (h3 : b < B0) (h4 : Bv < B0) :
    Calls Try.prog 70 #[x.v, .int .i64 (frN L x.page : Nat), .pointer (some ⟨Bv, 0, none⟩), .pointer (some ⟨Bb, 0, none⟩)] w fun e w' =>
      e = .returned (.tuple #[]) ∧ (∃ v', Boxed w' Bb 122 v' ∧ OwnI .u8 w' B0 5 v' (i + x.k) (xs ++ prtB L S x)) ∧ Kr B0 [Bb] w w' ∧ Kz [Bb] w w' := by
  obtain ⟨P, O, Q, G⟩ := x
  dsimp only at hk hk0 hf ⊢
  have cV := hV.cell
  have c0 := hP.cell0
  have lV := hV.lt
  have lb := hP.lt
  have HBA : Hid (Below w.heap.size w (w.alloc (.cells #[.int .i64 P, .int .i64 O, .int .i64 Q, .int .i64 G] 102))) := Lib.hid ((Below.refl _ _).alloc (Nat.le_refl _) _)
  have HNA : Hid (Blk (w.alloc (.cells #[.int .i64 P, .int .i64 O, .int .i64 Q, .int .i64 G] 102)) w.heap.size 102 [.int .i64 P, .int .i64 O, .int .i64 Q, .int .i64 G]) := Lib.hid (Blk.new w _ _)
  have HBY := Lib.hid (Fr.bytes_in s n (frN L P) S _ (hP.more HBA.out).st hf)
  have hSL := hP.st.2.1
  have hn32 := hP.st.2.2.2
  have hpl := prtB_len (L := L) hSL (p := ⟨P, O, Q, G⟩) hk (by show frN L P < 32; omega)
  have HPL := Lib.hid hpl
  have HPE : Hid (prtB L S ⟨P, O, Q, G⟩ = ((Fr.frameL S (frN L P)).drop O).take Q) := Lib.hid rfl
  obtain ⟨Z, hZ⟩ : ∃ Z, prtB L S ⟨P, O, Q, G⟩ = Z := ⟨_, rfl⟩
  rw [hZ] at HPL HPE ⊢
  have HB := Lib.hid hB
  have HO := Lib.hid hO
  have H1 := Lib.hid h1
  have H2 := Lib.hid h2
  have HI := Lib.hid hi
  have HK := Lib.hid hk
  clear hP hV hB hO hpl hSL hn32 hf hZ h1 h2 h3 h4 hi
  show Calls _ _ #[.agg #[.int .i64 P, .int .i64 O, .int .i64 Q, .int .i64 G], _, _, _] _ _
  go_enter Try.func70, Try.ntmps70
  go_wp2_with fail
  refine HBY.out.mono ?_
  rintro e w1 ⟨rfl, hrw, hb1⟩
  have HB1 := Lib.hid (HBA.out.trans (hb1.mono HBA.out.size))
  rw [World.size_alloc] at hrw
  have HRW := Lib.hid hrw
  have HN1 := Lib.hid (HNA.out.more hb1)
  clear hrw hb1 cV c0 HBY HBA HNA
  go_upto_region 2 with fail
  have hbox : Boxed w1 Bb 122 v := (HB1.out.block _ HB.out.lt).trans HB.out
  have hown := HO.out.below HB1.out
  obtain ⟨va, vc, rfl, _⟩ := hown.row
  have cB := hbox.cell
  have p1 : w1.cell? ⟨w.heap.size, 1, none⟩ = some (.int .i64 O) := HN1.out.cell rfl
  have p2 : w1.cell? ⟨w.heap.size, 2, none⟩ = some (.int .i64 Q) := HN1.out.cell rfl
  have hrow := row_slice (w := w1.drew) HRW.out O Q HK.out
  rw [← HPE.out] at hrow
  obtain ⟨v', w', hrun, ho', hg', _⟩ := run_append_ints (P := Try.prog) w1.drew .u8 B0 122 122 5 1 Try.underlying122 (by kernel_rfl) (.slice va i vc) i xs (show OwnI .u8 w1.drew B0 5 (.slice va i vc) i xs from hown) _ (some ⟨w.heap.size + 1, O, none⟩) Q (64 - O) Z hrow (by have := HI.out; have := HK.out; unfold maxLen; omega) (by have := HI.out; have := HK.out; omega) (Nat.le_trans H2.out HB1.out.size)
  have hbb : Boxed w' Bb 122 (.slice va i vc) := (hg'.block Bb hbox.lt (fun e => by have := (hown.lt Bb e.symm).1; have := H1.out; omega)).trans hbox
  obtain ⟨va', vc', rfl, _⟩ := ho'.row
  have cB' := hbb.cell
  have fB' := hbb.frozen
  have HRUN := Lib.hid hrun
  have HO2 := Lib.hid ho'
  have HG2 := Lib.hid hg'
  have HBX := Lib.hid hbb
  have HOB : Hid (∀ k, (Value.slice va i vc).ownBlock = some k → B0 ≤ k) := Lib.hid fun k hk => (hown.lt k hk).1
  have HOC : Hid (∀ k, (Value.slice va i vc).ownBlock = some k → ∃ cur, w.heap[k]? = some (.cells cur 5 (0, 0))) := Lib.hid fun k hk => by
    rcases HO.out.2 with ⟨e, _⟩ | ⟨g, cp, cur, e, _, hg, _⟩
    · rw [e] at hk; cases hk
    · rw [e] at hk
      simp only [Value.ownBlock] at hk
      injection hk with hk
      subst hk
      exact ⟨cur, hg⟩
  obtain ⟨E, hE⟩ : ∃ E, O + Q = E := ⟨_, rfl⟩
  have hk64 := HK.out
  have e4 : ¬ 64 = O := by omega
  have e7 : IntKind.i64.wrap ((O : Int) + (Q : Int)) = (E : Int) := by
    rw [IntWalk.i64_in _ (by omega)]; omega
  have e8 : (0 : Int) ≤ (E : Int) ∧ (E : Int) ≤ 64 := by omega
  have e9 : E ≤ 64 := by omega
  have e10 : O ≤ E := by omega
  have e11 : E - O = Q := by omega
  clear hE hk64 hk0
  clear hrun ho' hg' hown hbox hbb hrow
  go_region_law (refine step_append_run rfl (.tmp 17) (.tmp 26) 122 rfl _ _ rfl rfl _ w' HRUN.out ?_)
  all_goals go_end0
  all_goals
    have hbw : Below B0 w w' := ((HB1.out.mono H2.out).drew).grown HG2.out (Nat.le_trans H2.out HB1.out.size) HOB.out
    have hne : (Value.slice va' (i + Q) vc').ownBlock ≠ some Bb := fun e => by have := (HO2.out.lt Bb e).1; have := H1.out; omega
    refine ⟨rfl, ⟨_, HBX.out.set _, World.ownsRow.kept HO2.out (grown_setCell w' Bb 0 _) (.inr hne)⟩, ⟨hbw.os, hbw.tape, hbw.output, by simpa [World.setCell] using hbw.size, fun q hq hn => (Below.heap_setCell _ _ _ _ (fun e => hn (by simp [e]))).trans (hbw.block q hq)⟩, by simpa [World.setCell] using hbw.size, fun q o hq hn hno => ?_⟩
    refine (Below.heap_setCell _ _ _ _ (fun e => hn (by simp [e]))).trans ?_
    have hq1 : w1.heap[q]? = some o := (HB1.out.block q (Array.getElem?_eq_some_iff.1 hq).1).trans hq
    refine (HG2.out.block q (Array.getElem?_eq_some_iff.1 hq1).1 (fun e => ?_)).trans hq1
    obtain ⟨cur, hc⟩ := HOC.out q e.symm
    rw [hq] at hc
    injection hc with hc
    exact hno _ _ hc

/-- between two parts: what has come lies in the variable -/
def RdI (b s m n : Nat) (S : List Int) (L : List Gm.Pl) (D : List Bool) (Bv Bb B0 : Nat) {a K : Nat} (pre : List (BP a K)) (W : World) : Prop :=
  PV W b s m n S L D ∧ Boxed W Bv 27 (.pointer (some ⟨b, 0, none⟩)) ∧ B0 ≤ W.heap.size ∧ ∃ v, Boxed W Bb 122 v ∧ OwnI .u8 W B0 5 v (foldB L S pre).length (foldB L S pre)
theorem pv_own {W W' : World} {row : Option Nat} (h : PV W b s m n S L D) (hg : W.grownBy W' row) (hr : ∀ r, row = some r → ∃ o : Obj, W.heap[r]? = some o ∧ o.isCells = false) : PV W' b s m n S L D := by
  have hne : ∀ q cs t fr, W.heap[q]? = some (.cells cs t fr) → some q ≠ row := fun q cs t fr hq e => by
    obtain ⟨o, ho, hc⟩ := hr q e.symm
    rw [hq] at ho
    injection ho with ho
    subst ho
    cases hc
  exact ⟨h.blk.kept hg (hne b _ _ _ h.blk), h.st.of_block (hg.block s h.st.lt (hne s _ _ _ h.st.1)), h.mp.kept hg (hne m _ _ _ h.mp.1), h.len, h.pos, h.sm, h.mb⟩
theorem own_own {W W' : World} {row : Option Nat} {B0 : Nat} {v : Value} {i : Nat} {xs : List Int} (h : OwnI .u8 W B0 5 v i xs) (hg : W.grownBy W' row) (hr : ∀ r, row = some r → ∃ o : Obj, W.heap[r]? = some o ∧ o.isCells = false) : OwnI .u8 W' B0 5 v i xs := by
  refine World.ownsRow.kept h hg ?_
  cases hv : v.ownBlock with
  | none => exact .inl rfl
  | some g =>
    refine .inr fun e => ?_
    obtain ⟨o, ho, hc⟩ := hr g e.symm
    rcases h.2 with ⟨e2, _⟩ | ⟨g2, cp, cur, e2, _, hg2, _⟩
    · rw [e2] at hv; cases hv
    · rw [e2] at hv
      simp only [Value.ownBlock] at hv
      injection hv with hv
      subst hv
      rw [hg2] at ho
      injection ho with ho
      subst ho
      cases hc
theorem rdI_own (Bv Bb B0 : Nat) {a K : Nat} (B : Nat) : OwnFrom B (fun (pre : List (BP a K)) W => RdI b s m n S L D Bv Bb B0 pre W) := fun pre X Y row hs hg hr => by
  obtain ⟨h1, h2, h3, v, h4, h5⟩ := hs
  have hr2 := fun r e => (hr r e).2
  exact ⟨pv_own h1 hg hr2, boxed_own _ _ (fun _ : Unit => _) () X Y row h2 hg hr2, Nat.le_trans h3 hg.size, v, boxed_own _ _ (fun _ : Unit => _) () X Y row h4 hg hr2, own_own h5 hg hr2⟩

theorem read_no (p : Option Addr) (z k : Int) (w : World) (hE : ∀ W c, Below w.heap.size w W → Calls Try.prog 69 #[.pointer p, .int .u32 z, .int .i64 k, .func (.func 70) #[] c] W fun e w' => e = .returned (.bool false) ∧ Below W.heap.size W w') :
    Calls Try.prog 58 #[.pointer p, .int .u32 z, .int .i64 k] w fun e w' => e = .returned (.tuple #[.slice none 0 0, .bool false]) ∧ Below w.heap.size w w' := by
  have HE := Lib.hid hE
  have HBB : Hid (∀ o o' : Obj, Below w.heap.size w ((w.alloc o).alloc o')) := Lib.hid fun o o' => ((Below.refl _ _).alloc (Nat.le_refl _) _).alloc (by simp) _
  have HBX : Hid (∀ o o' : Obj, ((w.alloc o).alloc o').heap.size = w.heap.size + 2) := Lib.hid fun o o' => by simp
  have HBN : Hid (∀ o, Boxed ((w.alloc o).alloc (.cells #[.slice none 0 0] 122)) (w.heap.size + 1) 122 (.slice none 0 0)) := Lib.hid fun o => by
    have h := Boxed.new (w.alloc o) 122 (.slice none 0 0)
    rwa [World.size_alloc] at h
  clear hE
  go_enter Try.func58, Try.ntmps58
  go_wp2_with fail
  refine (HE.out _ _ (HBB.out _ _)).mono ?_
  rintro e w1 ⟨rfl, hb1⟩
  have HB1 := Lib.hid ((HBB.out _ _).trans (hb1.mono (HBB.out _ _).size))
  have hbx : Boxed w1 (w.heap.size + 1) 122 (.slice none 0 0) := (hb1.block _ (by rw [HBX.out]; omega)).trans (HBN.out _)
  have cB := hbx.cell
  clear hb1 hbx
  go_wp2
  go_ret2
  exact ⟨rfl, HB1.out⟩

theorem read_yes2 (a K : Nat) (haK : a + K ≤ 512) (ht : ownB n L a K = true) (hall : ∀ i, i < K → okA n L (a + i) = true) (w : World) (hP : PV w b s m n S L D) :
    Calls Try.prog 58 #[.pointer (some ⟨b, 0, none⟩), .int .u32 a, .int .i64 K] w fun e w' => ∃ p q c, e = .returned (.tuple #[.slice p q c, .bool true]) ∧ Hid (RowK .u8 w' w'.heap.size p q (rB L S a K)) ∧ Below w.heap.size w w' ∧ q ≤ c ∧ c ≤ 9223372036854775807 := by
  have HBB : Hid (∀ o o' : Obj, Below w.heap.size w ((w.alloc o).alloc o')) := Lib.hid fun o o' => ((Below.refl _ _).alloc (Nat.le_refl _) _).alloc (by simp) _
  have bV : Boxed ((w.alloc (.cells #[.pointer (some ⟨b, 0, none⟩)] 27)).alloc (.cells #[.slice none 0 0] 122)) w.heap.size 27 (.pointer (some ⟨b, 0, none⟩)) := (Boxed.new w _ _).alloc _
  have bB : Boxed ((w.alloc (.cells #[.pointer (some ⟨b, 0, none⟩)] 27)).alloc (.cells #[.slice none 0 0] 122)) (w.heap.size + 1) 122 (.slice none 0 0) := by
    have h := Boxed.new (w.alloc (.cells #[.pointer (some ⟨b, 0, none⟩)] 27)) 122 (.slice none 0 0)
    rwa [World.size_alloc] at h
  have hsz : ((w.alloc (.cells #[.pointer (some ⟨b, 0, none⟩)] 27)).alloc (.cells #[.slice none 0 0] 122)).heap.size = w.heap.size + 2 := by simp
  have hPW := hP.more (HBB.out (.cells #[.pointer (some ⟨b, 0, none⟩)] 27) (.cells #[.slice none 0 0] 122))
  have hB := HBB.out (.cells #[.pointer (some ⟨b, 0, none⟩)] 27) (.cells #[.slice none 0 0] 122)
  have HLB := Lib.hid hP.lt
  have hSL := hP.st.2.1
  have hOK := hP.mp.2
  have HF32 : Hid (∀ i, i < K → frN L ((a + i) / 64) < 32) := Lib.hid fun i hi => by
    obtain ⟨f, _, h2, _, h4⟩ := ok_frame hOK (show okP n (Gm.plN L ((a + i) / 64)) = true from hall i hi)
    omega
  have HEY : Hid (Calls Try.prog 69 #[.pointer (some ⟨b, 0, none⟩), .int .u32 a, .int .i64 K, .func (.func 70) #[] #[.pointer (some ⟨w.heap.size, 0, none⟩), .pointer (some ⟨w.heap.size + 1, 0, none⟩)]] ((w.alloc (.cells #[.pointer (some ⟨b, 0, none⟩)] 27)).alloc (.cells #[.slice none 0 0] 122)) fun e w' =>
      e = .returned (.bool true) ∧ RdI b s m n S L D w.heap.size (w.heap.size + 1) (w.heap.size + 2) (partsG a K K 0) w' ∧ Kq [w.heap.size + 1] ((w.alloc (.cells #[.pointer (some ⟨b, 0, none⟩)] 27)).alloc (.cells #[.slice none 0 0] 122)) w') := Lib.hid <| by
    refine each_yes a K haK ht hall 70 _ (fun _ _ => rfl) (RdI b s m n S L D w.heap.size (w.heap.size + 1) (w.heap.size + 2)) [w.heap.size + 1] _ hPW (rdI_own _ _ _ _) (fun pre W h => ⟨S, D, h.1⟩) (by simp) ?_ ⟨hPW, bV, by rw [hsz]; exact Nat.le_refl _, _, bB, OwnI.nil _ _ _ _⟩
    intro pre x W hk hI hlen
    obtain ⟨h1, h2, h3, v, h4, h5⟩ := hI
    have hok := fine_ok (n := n) (L := L) hall x
    obtain ⟨f, _, hf2, hfn, hf32⟩ := ok_frame hOK hok
    have hpl := prtB_len (L := L) hSL x.2.1 (by omega)
    have hfl := foldB_len (L := L) hSL pre
    refine (read1_any w.heap.size (w.heap.size + 1) (w.heap.size + 2) x.1 x.2.1 x.2.2.2.2 (by omega) v _ _ (by omega) W h1 h2 h4 h5 (by omega) h3 (by have := HLB.out; omega) (by omega)).mono ?_
    rintro e W' ⟨he, ⟨v', h6, h7⟩, hr, hz⟩
    refine ⟨he, ⟨?_, ?_, Nat.le_trans h3 hr.size, v', h6, ?_⟩, hz, Kq.and_kr hk (by rw [hsz]; exact hr)⟩
    · have hlb := HLB.out
      have hq : Kq [w.heap.size + 1] W W' ∨ True := .inr trivial
      exact ⟨h1.blk.of_block (hr.block b (by omega) (by simp; omega)), h1.st.of_block (hr.block s (by have := h1.sm; have := h1.mb; omega) (by have := h1.sm; have := h1.mb; simp; omega)), ⟨h1.mp.1.of_block (hr.block m (by have := h1.mb; omega) (by have := h1.mb; simp; omega)), h1.mp.2⟩, h1.len, h1.pos, h1.sm, h1.mb⟩
    · exact (hr.block _ (by omega) (by simp)).trans h2
    · rw [foldB_snoc, List.length_append, hpl]
      exact h7
  have HFB : Hid (foldB L S (partsG a K K 0) = rB L S a K) := Lib.hid (by
    have := foldB_parts (L := L) (a := a) (K := K) hSL HF32.out K 0 (by omega) (Nat.zero_le _)
    simpa [rB] using this)
  have HBW := Lib.hid hB
  have HSZ := Lib.hid hsz
  clear hPW bV bB hB hP hall ht hsz hSL hOK
  go_enter Try.func58, Try.ntmps58
  go_wp2_with fail
  refine HEY.out.mono ?_
  rintro e w1 ⟨rfl, ⟨_, _, _, v, h4, h5⟩, hk⟩
  rw [HFB.out, rB_len] at h5
  obtain ⟨va, vc, rfl, hKv, hvm, hrow⟩ := h5.row
  have HCP : Hid (K ≤ vc ∧ vc ≤ 9223372036854775807) := Lib.hid ⟨hKv, by unfold maxLen at hvm; omega⟩
  have cB := h4.cell
  have HB1 : Hid (Below w.heap.size w w1) := Lib.hid ((HBW.out).trans (hk.under (by simp) (HBW.out.size)))
  have HR := Lib.hid hrow
  clear h4 h5 hk hrow hKv hvm
  go_wp2
  go_ret2
  exact ⟨va, K, vc, rfl, HR, HB1.out, HCP.out⟩
theorem read_yes (a K : Nat) (haK : a + K ≤ 512) (ht : ownB n L a K = true) (hall : ∀ i, i < K → okA n L (a + i) = true) (w : World) (hP : PV w b s m n S L D) :
    Calls Try.prog 58 #[.pointer (some ⟨b, 0, none⟩), .int .u32 a, .int .i64 K] w fun e w' => ∃ p q c, e = .returned (.tuple #[.slice p q c, .bool true]) ∧ Hid (RowK .u8 w' w'.heap.size p q (rB L S a K)) ∧ Below w.heap.size w w' :=
  (read_yes2 a K haK ht hall w hP).mono fun e w' ⟨p, q, c, he, hr, hb, _⟩ => ⟨p, q, c, he, hr, hb⟩
end
end Go.Proofs.Ytoafonbplbblpaa.Vw
end
