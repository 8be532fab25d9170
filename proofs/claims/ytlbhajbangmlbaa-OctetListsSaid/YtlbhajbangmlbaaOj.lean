/- The walk of hermitagelaw02.OctetLists: its statements draw their order, so each contract speaks of whatever world the call is made in. -/
import Derived.Test.YtlbhajbangmlbaaOi
import Derived.Deep.RegionWith
import Derived.Deep.DrawnRows
import Derived.Deep.DeepCutAuto
namespace Go.Proofs.Ytlbhajbangmlbaa.Oc
open Go.RowKit Ut
set_option linter.unusedVariables false

theorem Below.run {w w' w0 : World} {B : Nat} (hb : Below B w0 w) (hB : B ≤ w0.heap.size) (h : Below w.heap.size w w') : Below B w0 w' := hb.trans (h.mono (Nat.le_trans hB hb.size))

theorem words_k (a : Option Addr) (n cap q : Nat) (zs : List Int) (w0 w : World) (hq : n / 4 = q) (hnc : n ≤ cap) (hn : n ≤ 140737488355328) (hc : cap ≤ 9223372036854775807) (hrow : RowK .u8 w0 w0.heap.size a n zs) (hz : AreBytes zs) (hb : Below w0.heap.size w0 w) :
    Calls Try.prog 15 #[.slice a n cap] w fun e w' => e = .returned (.slice (some ⟨w.heap.size, 0, none⟩) q q) ∧ RowK .u32 w' w'.heap.size (some ⟨w.heap.size, 0, none⟩) q (wordsZ zs) ∧ Below w.heap.size w w' ∧ Below w0.heap.size w0 w' := by
  subst hq
  exact (words_any a n cap zs w hnc hn hc ((hrow.below hb).more hb.size) hz).mono fun e w' ⟨h1, h2, h3⟩ => ⟨h1, h2, h3, Below.run hb (Nat.le_refl _) h3⟩
theorem refWords_k (a : Option Addr) (n cap q : Nat) (zs : List Int) (w0 w : World) (hq : n / 4 = q) (hn : n ≤ 140737488355328) (hrow : RowK .u8 w0 w0.heap.size a n zs) (hz : AreBytes zs) (hb : Below w0.heap.size w0 w) :
    Calls Try.prog 16 #[.slice a n cap] w fun e w' => ∃ a' c', e = .returned (.slice a' q c') ∧ RowK .u32 w' w'.heap.size a' q (wordsZ zs) ∧ Below w.heap.size w w' ∧ Below w0.heap.size w0 w' := by
  subst hq
  refine (refWords_any a n cap zs w hn ((hrow.below hb).more hb.size) hz).mono fun e w' ⟨v, h1, h2, h3⟩ => ?_
  obtain ⟨a', c', rfl, _, _, hr⟩ := h2.row
  exact ⟨a', c', h1, hr, h3, Below.run hb (Nat.le_refl _) h3⟩
theorem same_k (a b : Option Addr) (q ca cb : Nat) (xs : List Int) (w0 w : World) (hq : q ≤ 9223372036854775807) (hb : Below w0.heap.size w0 w) (h1 : ∃ B, RowK .u32 w B a q xs) (h2 : ∃ B, RowK .u32 w B b q xs) :
    Calls Try.prog 14 #[.slice a q ca, .slice b q cb] w fun e w' => e = .returned (.bool true) ∧ Below w0.heap.size w0 w' := by
  obtain ⟨B1, h1⟩ := h1
  obtain ⟨B2, h2⟩ := h2
  refine (words_same a b q ca cb B1 B2 xs w hq h1 h2).mono fun e w' ⟨h1, d, h2⟩ => ⟨h1, ?_⟩
  subst h2
  exact Below.drewN_ hb d

/-- in every world above w, the slice reads as the text S -/
def Reads (w : World) (v : Value) (S : ByteArray) : Prop := ∀ W : World, Below w.heap.size w W → (convert 22 9 v).run Try.prog W = .ok (.string S) W
theorem reads_row {w : World} {a : Option Addr} {n c : Nat} {xs : List Int} (h : RowK .u8 w w.heap.size a n xs) : Reads w (.slice a n c) (strOfNums xs) := fun W hW =>
  run_convert_row (P := Try.prog) (cap := c) (dst := 9) Try.underlying22 Try.underlying5 Try.underlying9 (h.below hW)

theorem bytes_k (a : Option Addr) (n cap q : Nat) (l : List Int) (S : ByteArray) (w0 w : World) (hq : 4 * n = q) (hS : strOfNums (bytesZ l) = S) (hn : 4 * n ≤ 140737488355328) (hrow : RowK .u32 w0 w0.heap.size a n l) (hl : ∀ z ∈ l, 0 ≤ z ∧ z < 4294967296) (hb : Below w0.heap.size w0 w) :
    Calls Try.prog 17 #[.slice a n cap] w fun e w' => e = .returned (.slice (some ⟨w.heap.size, 0, none⟩) q q) ∧ Reads w' (.slice (some ⟨w.heap.size, 0, none⟩) q q) S ∧ Below w.heap.size w w' ∧ Below w0.heap.size w0 w' ∧ Below w'.heap.size w' w' := by
  subst hq hS
  exact (bytes_any a n cap l w hn ((hrow.below hb).more hb.size) hl).mono fun e w' ⟨h1, h2, h3⟩ => ⟨h1, reads_row h2, h3, Below.run hb (Nat.le_refl _) h3, Below.refl _ _⟩
theorem refBytes_k (a : Option Addr) (n cap q : Nat) (l : List Int) (S : ByteArray) (w0 w : World) (hq : 4 * n = q) (hS : strOfNums (bytesZ l) = S) (hn : 4 * n ≤ 140737488355328) (hrow : RowK .u32 w0 w0.heap.size a n l) (hl : ∀ z ∈ l, 0 ≤ z ∧ z < 4294967296) (hb : Below w0.heap.size w0 w) :
    Calls Try.prog 18 #[.slice a n cap] w fun e w' => ∃ a' c', e = .returned (.slice a' q c') ∧ Reads w' (.slice a' q c') S ∧ Below w.heap.size w w' ∧ Below w0.heap.size w0 w' ∧ Below w'.heap.size w' w' := by
  subst hq hS
  refine (refBytes_any a n cap l w hn ((hrow.below hb).more hb.size) hl).mono fun e w' ⟨v, h1, h2, h3⟩ => ?_
  obtain ⟨a', c', rfl, _, _, hr⟩ := h2.row
  exact ⟨a', c', h1, reads_row hr, h3, Below.run hb (Nat.le_refl _) h3, Below.refl _ _⟩
theorem fit_k (s : ByteArray) (n : Int) (q : Nat) (S : ByteArray) (w0 w : World) (h : Nat) (hh : w.heap.size = h) (hq : fitN n = q) (hS : strOfNums (fitZ (bz s) (fitN n)) = S) (hb : Below w0.heap.size w0 w) :
    Calls Try.prog 19 #[.string s, .int .i64 n] w fun e w' => e = .returned (.slice (some ⟨h, 0, none⟩) q q) ∧ Reads w' (.slice (some ⟨h, 0, none⟩) q q) S ∧ Below w.heap.size w w' ∧ Below w0.heap.size w0 w' ∧ Below w'.heap.size w' w' := by
  subst hq hS hh
  exact (fit_any s n w).mono fun e w' ⟨h1, h2, h3⟩ => ⟨h1, reads_row h2, h3, Below.run hb (Nat.le_refl _) h3, Below.refl _ _⟩
theorem refFit_k (s : ByteArray) (n : Int) (q : Nat) (S : ByteArray) (w0 w : World) (hs : s.size ≤ 9223372036854775807) (hq : fitN n = q) (hS : strOfNums (fitZ (bz s) (fitN n)) = S) (hb : Below w0.heap.size w0 w) :
    Calls Try.prog 20 #[.string s, .int .i64 n] w fun e w' => ∃ a' c', e = .returned (.slice a' q c') ∧ Reads w' (.slice a' q c') S ∧ Below w.heap.size w w' ∧ Below w0.heap.size w0 w' ∧ Below w'.heap.size w' w' := by
  subst hq hS
  refine (refFit_any s n w hs).mono fun e w' ⟨v, h1, h2, h3⟩ => ?_
  obtain ⟨a', c', rfl, _, _, hr⟩ := h2.row
  exact ⟨a', c', h1, reads_row hr, h3, Below.run hb (Nat.le_refl _) h3, Below.refl _ _⟩

theorem below_bytes {w0 W : World} (hb : Below w0.heap.size w0 W) (e : TypeId) (s : ByteArray) : Below w0.heap.size w0 (Lib.bytesWorld W e s) := Below.run hb (Nat.le_refl _) (bytesWorld_below W e s)
theorem sameS_k (a : Option Addr) (n cap c : Nat) (zs : List Int) (s : ByteArray) (e : TypeId) (w0 W : World) (hrow : RowK .u8 w0 w0.heap.size a n zs) (hb : Below w0.heap.size w0 W) :
    Calls Try.prog 21 #[.slice a n cap, .slice (some ⟨W.heap.size, 0, none⟩) s.size c] (Lib.bytesWorld W e s) fun e' w' => e' = .returned (.bool ((strOfNums zs).toList == s.toList)) ∧ Below w0.heap.size w0 w' := by
  have := same_any a (some ⟨W.heap.size, 0, none⟩) n s.size cap c _ _ zs (bz s) (Lib.bytesWorld W e s) (hrow.below (below_bytes hb e s)) (bytesWorld_row W e s)
  rw [strOf_bz] at this
  exact this.mono fun e' w' ⟨h1, h2⟩ => ⟨h1, h2 ▸ below_bytes hb e s⟩

attribute [local go_sem ↓] Go.wp_at_zero Go.wp_at_succ

set_option maxRecDepth 100000 in
set_option maxHeartbeats 600000 in
theorem lists_any (a b : Option Addr) (n cap m mcap : Nat) (zs l : List Int) (s : ByteArray) (k : Int) (w : World) (hnc : n ≤ cap) (hc : cap ≤ 140737488351232) (hmc : m ≤ mcap) (hm : mcap * 4 ≤ 140737488351232) (hs : s.size ≤ 9223372036854775807)
    (hrow : RowK .u8 w w.heap.size a n zs) (hz : AreBytes zs) (hrow2 : RowK .u32 w w.heap.size b m l) (hl : ∀ z ∈ l, 0 ≤ z ∧ z < 4294967296) :
    Calls Try.prog 4 #[.slice a n cap, .slice b m mcap, .string s, .int .i64 k] w fun e w' => e = .returned (.bool true) ∧ Below w.heap.size w w' := by
  have HR := Lib.hid hrow
  have HZ := Lib.hid hz
  have HR2 := Lib.hid hrow2
  have HL := Lib.hid hl
  have hb0 : Below w.heap.size w w := Below.refl _ _
  obtain ⟨q, hq⟩ : ∃ q, n / 4 = q := ⟨_, rfl⟩
  have hq1 : q ≤ 140737488351232 := by omega
  have HQ := Lib.hid hq
  obtain ⟨p, hp⟩ : ∃ p, 4 * m = p := ⟨_, rfl⟩
  have HP := Lib.hid hp
  obtain ⟨S, hS⟩ : ∃ S, strOfNums (bytesZ l) = S := ⟨_, rfl⟩
  have HS := Lib.hid hS
  clear hrow hz hrow2 hl hq hp hS
  go_enter Try.func4, Try.ntmps4
  go_upto_region 1 with (fail)
  go_cut [23] from 9 to 23 (fun v wc => v = .bool false ∧ Below w.heap.size w wc)
  case first =>
    go_region_with (first
      | (go_at_call 15; refine (words_k a n cap q zs w _ HQ.out hnc ?_ ?_ HR.out HZ.out ?_).mono ?_; (omega); (omega); (first | assumption | exact hb0.drew); rintro e w1 ⟨rfl, hr1, hb1, hc1⟩)
      | (go_at_call 16; refine (refWords_k a n cap q zs w _ HQ.out ?_ HR.out HZ.out ?_).mono ?_; (omega); (first | assumption | exact hb0.drew); rintro e w2 ⟨a2, c2, rfl, hr2, hb2, hc2⟩)
      | (go_at_call 14; go_loud (refine (same_k _ _ q _ _ (wordsZ zs) w _ ?_ ?_ ?_ ?_).mono ?_); (omega); (assumption); (first | (apply Exists.intro; assumption) | (apply Exists.intro; apply RowK.below <;> assumption)); (first | (apply Exists.intro; assumption) | (apply Exists.intro; apply RowK.below <;> assumption)); rintro e w3 ⟨rfl, hb3⟩)
      | (go_at_call 17; refine (bytes_k b m mcap p l S w _ HP.out HS.out ?_ HR2.out HL.out ?_).mono ?_; (omega); (assumption); rintro e w4 ⟨rfl, hv4, hb4, hc4, hd4⟩; unfold Reads at hv4)
      | (go_at_call 18; refine (refBytes_k b m mcap p l S w _ HP.out HS.out ?_ HR2.out HL.out ?_).mono ?_; (omega); (assumption); rintro e w5 ⟨a5, c5, rfl, hv5, hb5, hc5, hd5⟩; unfold Reads at hv5))
    all_goals (go_wp2_with fail; go_meet; exact ⟨rfl, by assumption⟩)
  case rest =>
    obtain ⟨rfl, hbc⟩ := hcut
    obtain ⟨F, hF⟩ : ∃ F, fitN k = F := ⟨_, rfl⟩
    obtain ⟨T, hT⟩ : ∃ T, strOfNums (fitZ (bz s) (fitN k)) = T := ⟨_, rfl⟩
    have HF := Lib.hid hF
    have HT := Lib.hid hT
    clear hF hT
    have hs9 : s.size ≤ 9223372036854775807 := by omega
    obtain ⟨bw, gc, hsb, hbw, HSM⟩ : ∃ (bw : World → World) (gc : World → Nat), (∀ W : World, (convert 9 22 (.string s)).run Try.prog W = .ok (.slice (some ⟨W.heap.size, 0, none⟩) s.size (gc W)) (bw W)) ∧
        (∀ W : World, Below w.heap.size w W → Below w.heap.size w (bw W)) ∧
        Hid (∀ (W : World) (c : Nat), Below w.heap.size w W → Calls Try.prog 21 #[.slice a n cap, .slice (some ⟨W.heap.size, 0, none⟩) s.size c] (bw W) fun e' w' => e' = .returned (.bool ((strOfNums zs).toList == s.toList)) ∧ Below w.heap.size w w') :=
      ⟨fun W => Lib.bytesWorld W 5 s, fun W => grownCap W s.size 0 5,
        fun W => Lib.run_convert_string_bytes W 9 22 5 s Try.underlying9 Try.underlying22 Try.underlying5,
        fun W h => below_bytes h _ s, Lib.hid fun W c h => sameS_k a n cap c zs s 5 w W HR.out h⟩
    have hbb : ∀ W : World, Below w.heap.size w W → (convert 22 9 (.slice a n cap)).run Try.prog W = .ok (.string (strOfNums zs)) W := fun W h =>
      run_convert_row (P := Try.prog) (cap := cap) (dst := 9) Try.underlying22 Try.underlying5 Try.underlying9 (HR.out.below h)
    have hbd := hbc.drew
    go_wp2_with fail
    refine wp_region_any (by kernel_rfl) ?_
    try (change wpAny _ _ _ _ _ _ _ (World.drew _))
    refine wpAny_take (i := 0) (v := .string s) rfl (by kernel_rfl) (by kernel_rfl) (by kernel_rfl) (fun _ _ _ h => h) (Or.inl ⟨?_, ?_⟩) ?_
    · rfl
    · intro w; go_simp
    go_simp
    refine wpAny_take (i := 1) (v := .int .i64 k) rfl (by kernel_rfl) (by kernel_rfl) (by kernel_rfl) (fun _ _ _ h => h) (Or.inl ⟨?_, ?_⟩) ?_
    · rfl
    · intro w; go_simp
    go_simp
    refine wpAny_take (i := 4) (v := .string s) rfl (by kernel_rfl) (by kernel_rfl) (by kernel_rfl) (fun _ _ _ h => h) (Or.inl ⟨?_, ?_⟩) ?_
    · rfl
    · intro w; go_simp
    go_simp
    refine wpAny_take (i := 5) (v := .int .i64 k) rfl (by kernel_rfl) (by kernel_rfl) (by kernel_rfl) (fun _ _ _ h => h) (Or.inl ⟨?_, ?_⟩) ?_
    · rfl
    · intro w; go_simp
    go_simp
    refine wpAny_ready (rs := [2]) (by kernel_rfl) (by simp) ?_
    refine AllReady.cons rfl (fun K hK => ?_) AllReady.nil
    go_simp
    go_wp2_with (go_at_call 19; refine (fit_k s k F T w wc.drew wc.heap.size rfl HF.out HT.out hbd).mono ?_; rintro e w4 ⟨rfl, hv4, hb4, hc4, hd4⟩; unfold Reads at hv4)
    refine wpAny_ready (rs := [3, 6]) (by kernel_rfl) (by simp) ?_
    refine AllReady.cons rfl (fun K hK => ?_) (AllReady.cons rfl (fun K hK => ?_) AllReady.nil)
    · go_simp
      refine hK _ _ ?_
      clear hK K
      refine wpAny_ready (rs := [6]) (by kernel_rfl) (by simp) ?_
      refine AllReady.cons rfl (fun K hK => ?_) AllReady.nil
      go_simp
      go_wp2_with (go_at_call 20; refine (refFit_k s k F T w _ hs9 HF.out HT.out hc4).mono ?_; rintro e w5 ⟨a5, c5, rfl, hv5, hb5, hc5, hd5⟩; unfold Reads at hv5)
      refine wpAny_ready (rs := [7]) (by kernel_rfl) (by simp) ?_
      refine AllReady.cons rfl (fun K hK => ?_) AllReady.nil
      go_simp
      refine hK _ _ ?_
      clear hK K
      refine wpAny_take (i := 8) (v := .bool true) rfl (by kernel_rfl) (by kernel_rfl) (by kernel_rfl) (fun _ _ _ h => h) (Or.inl ⟨?_, ?_⟩) ?_
      · rfl
      · intro w; go_simp
      go_simp
      refine wpAny_take (i := 9) (v := .bool true) rfl (by kernel_rfl) (by kernel_rfl) (by kernel_rfl) (fun _ _ _ h => h) (Or.inl ⟨?_, ?_⟩) ?_
      · rfl
      · intro w; go_simp
      go_simp
      refine wpAny_take (i := 10) (v := .slice a n cap) rfl (by kernel_rfl) (by kernel_rfl) (by kernel_rfl) (fun _ _ _ h => h) (Or.inl ⟨?_, ?_⟩) ?_
      · rfl
      · intro w; go_simp
      go_simp
      refine wpAny_take (i := 11) (v := .string s) rfl (by kernel_rfl) (by kernel_rfl) (by kernel_rfl) (fun _ _ _ h => h) (Or.inl ⟨?_, ?_⟩) ?_
      · rfl
      · intro w; go_simp
      go_simp
      refine wpAny_take (i := 14) (v := .slice a n cap) rfl (by kernel_rfl) (by kernel_rfl) (by kernel_rfl) (fun _ _ _ h => h) (Or.inl ⟨?_, ?_⟩) ?_
      · rfl
      · intro w; go_simp
      go_simp
      refine wpAny_take (i := 16) (v := .string s) rfl (by kernel_rfl) (by kernel_rfl) (by kernel_rfl) (fun _ _ _ h => h) (Or.inl ⟨?_, ?_⟩) ?_
      · rfl
      · intro w; go_simp
      go_simp
      refine wpAny_ready (rs := [12, 15]) (by kernel_rfl) (by simp) ?_
      refine AllReady.cons rfl (fun K hK => ?_) (AllReady.cons rfl (fun K hK => ?_) AllReady.nil)
      · go_simp
        refine hK _ _ ?_
        clear hK K
        refine wpAny_ready (rs := [13, 15]) (by kernel_rfl) (by simp) ?_
        refine AllReady.cons rfl (fun K hK => ?_) (AllReady.cons rfl (fun K hK => ?_) AllReady.nil)
        · go_simp
          go_wp2_with (go_at_call 21; refine (HSM.out _ _ hc5).mono ?_; rintro e w6 ⟨rfl, hb6⟩)
          refine wpAny_ready (rs := [15]) (by kernel_rfl) (by simp) ?_
          refine AllReady.cons rfl (fun K hK => ?_) AllReady.nil
          go_simp
          refine hK _ _ ?_
          clear hK K
          refine wpAny_take (i := 17) (v := .bool ((strOfNums zs).toList == s.toList)) rfl (by kernel_rfl) (by kernel_rfl) (by kernel_rfl) (fun _ _ _ h => h) (Or.inl ⟨?_, ?_⟩) ?_
          · rfl
          · intro w; go_simp
          go_simp
          refine wpAny_take (i := 18) (v := .bool true) rfl (by kernel_rfl) (by kernel_rfl) (by kernel_rfl) (fun _ _ _ h => h) (Or.inl ⟨?_, ?_⟩) ?_
          · rfl
          · intro w; go_simp
          go_simp
          refine wpAny_take (i := 19) (v := .bool true) rfl (by kernel_rfl) (by kernel_rfl) (by kernel_rfl) (fun _ _ _ h => h) (Or.inl ⟨?_, ?_⟩) ?_
          · rfl
          · intro w; go_simp
          go_simp
          refine wpAny_take (i := 20) (v := .bool true) rfl (by kernel_rfl) (by kernel_rfl) (by kernel_rfl) (fun _ _ _ h => h) (Or.inl ⟨?_, ?_⟩) ?_
          · rfl
          · intro w; go_simp
          go_simp
          refine wpAny_ready (rs := [21]) (by kernel_rfl) (by simp) ?_
          refine AllReady.cons rfl (fun K hK => ?_) AllReady.nil
          go_simp
          go_wp2_with (go_at_call 13; refine (awake_keep (Nat.le_refl _) hb6).mono ?_; rintro e w7 ⟨rfl, hb7⟩)
          refine wpAny_take (i := 22) (v := .bool true) rfl (by kernel_rfl) (by kernel_rfl) (by kernel_rfl) (fun _ _ _ h => h) (Or.inl ⟨?_, ?_⟩) ?_
          · rfl
          · intro w; go_simp
          go_simp
          refine wpAny_take (i := 23) (v := .bool true) rfl (by kernel_rfl) (by kernel_rfl) (by kernel_rfl) (fun _ _ _ h => h) (Or.inl ⟨?_, ?_⟩) ?_
          · rfl
          · intro w; go_simp
          go_simp
          refine wpAny_done (by kernel_rfl) ?_ _
          go_wp2
          go_ret
          exact ⟨rfl, hb7⟩
        · go_simp
          refine hK _ _ ?_
          clear hK K
          refine wpAny_take (i := 17) (v := .bool ((strOfNums zs).toList == s.toList)) rfl (by kernel_rfl) (by kernel_rfl) (by kernel_rfl) (fun _ _ _ h => h) (Or.inl ⟨?_, ?_⟩) ?_
          · rfl
          · intro w; go_simp
          go_simp
          refine wpAny_ready (rs := [13]) (by kernel_rfl) (by simp) ?_
          refine AllReady.cons rfl (fun K hK => ?_) AllReady.nil
          go_simp
          go_wp2_with (go_at_call 21; refine (HSM.out _ _ hc5).mono ?_; rintro e w6 ⟨rfl, hb6⟩)
          refine wpAny_take (i := 18) (v := .bool true) rfl (by kernel_rfl) (by kernel_rfl) (by kernel_rfl) (fun _ _ _ h => h) (Or.inl ⟨?_, ?_⟩) ?_
          · rfl
          · intro w; go_simp
          go_simp
          refine wpAny_take (i := 19) (v := .bool true) rfl (by kernel_rfl) (by kernel_rfl) (by kernel_rfl) (fun _ _ _ h => h) (Or.inl ⟨?_, ?_⟩) ?_
          · rfl
          · intro w; go_simp
          go_simp
          refine wpAny_take (i := 20) (v := .bool true) rfl (by kernel_rfl) (by kernel_rfl) (by kernel_rfl) (fun _ _ _ h => h) (Or.inl ⟨?_, ?_⟩) ?_
          · rfl
          · intro w; go_simp
          go_simp
          refine wpAny_ready (rs := [21]) (by kernel_rfl) (by simp) ?_
          refine AllReady.cons rfl (fun K hK => ?_) AllReady.nil
          go_simp
          go_wp2_with (go_at_call 13; refine (awake_keep (Nat.le_refl _) hb6).mono ?_; rintro e w7 ⟨rfl, hb7⟩)
          refine wpAny_take (i := 22) (v := .bool true) rfl (by kernel_rfl) (by kernel_rfl) (by kernel_rfl) (fun _ _ _ h => h) (Or.inl ⟨?_, ?_⟩) ?_
          · rfl
          · intro w; go_simp
          go_simp
          refine wpAny_take (i := 23) (v := .bool true) rfl (by kernel_rfl) (by kernel_rfl) (by kernel_rfl) (fun _ _ _ h => h) (Or.inl ⟨?_, ?_⟩) ?_
          · rfl
          · intro w; go_simp
          go_simp
          refine wpAny_done (by kernel_rfl) ?_ _
          go_wp2
          go_ret
          exact ⟨rfl, hb7⟩
      · go_simp
        refine hK _ _ ?_
        clear hK K
        refine wpAny_take (i := 17) (v := .bool ((strOfNums zs).toList == s.toList)) rfl (by kernel_rfl) (by kernel_rfl) (by kernel_rfl) (fun _ _ _ h => h) (Or.inl ⟨?_, ?_⟩) ?_
        · rfl
        · intro w; go_simp
        go_simp
        refine wpAny_ready (rs := [12]) (by kernel_rfl) (by simp) ?_
        refine AllReady.cons rfl (fun K hK => ?_) AllReady.nil
        go_simp
        refine hK _ _ ?_
        clear hK K
        refine wpAny_ready (rs := [13]) (by kernel_rfl) (by simp) ?_
        refine AllReady.cons rfl (fun K hK => ?_) AllReady.nil
        go_simp
        go_wp2_with (go_at_call 21; refine (HSM.out _ _ hc5).mono ?_; rintro e w6 ⟨rfl, hb6⟩)
        refine wpAny_take (i := 18) (v := .bool true) rfl (by kernel_rfl) (by kernel_rfl) (by kernel_rfl) (fun _ _ _ h => h) (Or.inl ⟨?_, ?_⟩) ?_
        · rfl
        · intro w; go_simp
        go_simp
        refine wpAny_take (i := 19) (v := .bool true) rfl (by kernel_rfl) (by kernel_rfl) (by kernel_rfl) (fun _ _ _ h => h) (Or.inl ⟨?_, ?_⟩) ?_
        · rfl
        · intro w; go_simp
        go_simp
        refine wpAny_take (i := 20) (v := .bool true) rfl (by kernel_rfl) (by kernel_rfl) (by kernel_rfl) (fun _ _ _ h => h) (Or.inl ⟨?_, ?_⟩) ?_
        · rfl
        · intro w; go_simp
        go_simp
        refine wpAny_ready (rs := [21]) (by kernel_rfl) (by simp) ?_
        refine AllReady.cons rfl (fun K hK => ?_) AllReady.nil
        go_simp
        go_wp2_with (go_at_call 13; refine (awake_keep (Nat.le_refl _) hb6).mono ?_; rintro e w7 ⟨rfl, hb7⟩)
        refine wpAny_take (i := 22) (v := .bool true) rfl (by kernel_rfl) (by kernel_rfl) (by kernel_rfl) (fun _ _ _ h => h) (Or.inl ⟨?_, ?_⟩) ?_
        · rfl
        · intro w; go_simp
        go_simp
        refine wpAny_take (i := 23) (v := .bool true) rfl (by kernel_rfl) (by kernel_rfl) (by kernel_rfl) (fun _ _ _ h => h) (Or.inl ⟨?_, ?_⟩) ?_
        · rfl
        · intro w; go_simp
        go_simp
        refine wpAny_done (by kernel_rfl) ?_ _
        go_wp2
        go_ret
        exact ⟨rfl, hb7⟩
    · go_simp
      go_wp2_with (go_at_call 20; refine (refFit_k s k F T w _ hs9 HF.out HT.out hc4).mono ?_; rintro e w5 ⟨a5, c5, rfl, hv5, hb5, hc5, hd5⟩; unfold Reads at hv5)
      refine wpAny_ready (rs := [3, 7]) (by kernel_rfl) (by simp) ?_
      refine AllReady.cons rfl (fun K hK => ?_) (AllReady.cons rfl (fun K hK => ?_) AllReady.nil)
      · go_simp
        refine hK _ _ ?_
        clear hK K
        refine wpAny_ready (rs := [7]) (by kernel_rfl) (by simp) ?_
        refine AllReady.cons rfl (fun K hK => ?_) AllReady.nil
        go_simp
        refine hK _ _ ?_
        clear hK K
        refine wpAny_take (i := 8) (v := .bool true) rfl (by kernel_rfl) (by kernel_rfl) (by kernel_rfl) (fun _ _ _ h => h) (Or.inl ⟨?_, ?_⟩) ?_
        · rfl
        · intro w; go_simp
        go_simp
        refine wpAny_take (i := 9) (v := .bool true) rfl (by kernel_rfl) (by kernel_rfl) (by kernel_rfl) (fun _ _ _ h => h) (Or.inl ⟨?_, ?_⟩) ?_
        · rfl
        · intro w; go_simp
        go_simp
        refine wpAny_take (i := 10) (v := .slice a n cap) rfl (by kernel_rfl) (by kernel_rfl) (by kernel_rfl) (fun _ _ _ h => h) (Or.inl ⟨?_, ?_⟩) ?_
        · rfl
        · intro w; go_simp
        go_simp
        refine wpAny_take (i := 11) (v := .string s) rfl (by kernel_rfl) (by kernel_rfl) (by kernel_rfl) (fun _ _ _ h => h) (Or.inl ⟨?_, ?_⟩) ?_
        · rfl
        · intro w; go_simp
        go_simp
        refine wpAny_take (i := 14) (v := .slice a n cap) rfl (by kernel_rfl) (by kernel_rfl) (by kernel_rfl) (fun _ _ _ h => h) (Or.inl ⟨?_, ?_⟩) ?_
        · rfl
        · intro w; go_simp
        go_simp
        refine wpAny_take (i := 16) (v := .string s) rfl (by kernel_rfl) (by kernel_rfl) (by kernel_rfl) (fun _ _ _ h => h) (Or.inl ⟨?_, ?_⟩) ?_
        · rfl
        · intro w; go_simp
        go_simp
        refine wpAny_ready (rs := [12, 15]) (by kernel_rfl) (by simp) ?_
        refine AllReady.cons rfl (fun K hK => ?_) (AllReady.cons rfl (fun K hK => ?_) AllReady.nil)
        · go_simp
          refine hK _ _ ?_
          clear hK K
          refine wpAny_ready (rs := [13, 15]) (by kernel_rfl) (by simp) ?_
          refine AllReady.cons rfl (fun K hK => ?_) (AllReady.cons rfl (fun K hK => ?_) AllReady.nil)
          · go_simp
            go_wp2_with (go_at_call 21; refine (HSM.out _ _ hc5).mono ?_; rintro e w6 ⟨rfl, hb6⟩)
            refine wpAny_ready (rs := [15]) (by kernel_rfl) (by simp) ?_
            refine AllReady.cons rfl (fun K hK => ?_) AllReady.nil
            go_simp
            refine hK _ _ ?_
            clear hK K
            refine wpAny_take (i := 17) (v := .bool ((strOfNums zs).toList == s.toList)) rfl (by kernel_rfl) (by kernel_rfl) (by kernel_rfl) (fun _ _ _ h => h) (Or.inl ⟨?_, ?_⟩) ?_
            · rfl
            · intro w; go_simp
            go_simp
            refine wpAny_take (i := 18) (v := .bool true) rfl (by kernel_rfl) (by kernel_rfl) (by kernel_rfl) (fun _ _ _ h => h) (Or.inl ⟨?_, ?_⟩) ?_
            · rfl
            · intro w; go_simp
            go_simp
            refine wpAny_take (i := 19) (v := .bool true) rfl (by kernel_rfl) (by kernel_rfl) (by kernel_rfl) (fun _ _ _ h => h) (Or.inl ⟨?_, ?_⟩) ?_
            · rfl
            · intro w; go_simp
            go_simp
            refine wpAny_take (i := 20) (v := .bool true) rfl (by kernel_rfl) (by kernel_rfl) (by kernel_rfl) (fun _ _ _ h => h) (Or.inl ⟨?_, ?_⟩) ?_
            · rfl
            · intro w; go_simp
            go_simp
            refine wpAny_ready (rs := [21]) (by kernel_rfl) (by simp) ?_
            refine AllReady.cons rfl (fun K hK => ?_) AllReady.nil
            go_simp
            go_wp2_with (go_at_call 13; refine (awake_keep (Nat.le_refl _) hb6).mono ?_; rintro e w7 ⟨rfl, hb7⟩)
            refine wpAny_take (i := 22) (v := .bool true) rfl (by kernel_rfl) (by kernel_rfl) (by kernel_rfl) (fun _ _ _ h => h) (Or.inl ⟨?_, ?_⟩) ?_
            · rfl
            · intro w; go_simp
            go_simp
            refine wpAny_take (i := 23) (v := .bool true) rfl (by kernel_rfl) (by kernel_rfl) (by kernel_rfl) (fun _ _ _ h => h) (Or.inl ⟨?_, ?_⟩) ?_
            · rfl
            · intro w; go_simp
            go_simp
            refine wpAny_done (by kernel_rfl) ?_ _
            go_wp2
            go_ret
            exact ⟨rfl, hb7⟩
          · go_simp
            refine hK _ _ ?_
            clear hK K
            refine wpAny_take (i := 17) (v := .bool ((strOfNums zs).toList == s.toList)) rfl (by kernel_rfl) (by kernel_rfl) (by kernel_rfl) (fun _ _ _ h => h) (Or.inl ⟨?_, ?_⟩) ?_
            · rfl
            · intro w; go_simp
            go_simp
            refine wpAny_ready (rs := [13]) (by kernel_rfl) (by simp) ?_
            refine AllReady.cons rfl (fun K hK => ?_) AllReady.nil
            go_simp
            go_wp2_with (go_at_call 21; refine (HSM.out _ _ hc5).mono ?_; rintro e w6 ⟨rfl, hb6⟩)
            refine wpAny_take (i := 18) (v := .bool true) rfl (by kernel_rfl) (by kernel_rfl) (by kernel_rfl) (fun _ _ _ h => h) (Or.inl ⟨?_, ?_⟩) ?_
            · rfl
            · intro w; go_simp
            go_simp
            refine wpAny_take (i := 19) (v := .bool true) rfl (by kernel_rfl) (by kernel_rfl) (by kernel_rfl) (fun _ _ _ h => h) (Or.inl ⟨?_, ?_⟩) ?_
            · rfl
            · intro w; go_simp
            go_simp
            refine wpAny_take (i := 20) (v := .bool true) rfl (by kernel_rfl) (by kernel_rfl) (by kernel_rfl) (fun _ _ _ h => h) (Or.inl ⟨?_, ?_⟩) ?_
            · rfl
            · intro w; go_simp
            go_simp
            refine wpAny_ready (rs := [21]) (by kernel_rfl) (by simp) ?_
            refine AllReady.cons rfl (fun K hK => ?_) AllReady.nil
            go_simp
            go_wp2_with (go_at_call 13; refine (awake_keep (Nat.le_refl _) hb6).mono ?_; rintro e w7 ⟨rfl, hb7⟩)
            refine wpAny_take (i := 22) (v := .bool true) rfl (by kernel_rfl) (by kernel_rfl) (by kernel_rfl) (fun _ _ _ h => h) (Or.inl ⟨?_, ?_⟩) ?_
            · rfl
            · intro w; go_simp
            go_simp
            refine wpAny_take (i := 23) (v := .bool true) rfl (by kernel_rfl) (by kernel_rfl) (by kernel_rfl) (fun _ _ _ h => h) (Or.inl ⟨?_, ?_⟩) ?_
            · rfl
            · intro w; go_simp
            go_simp
            refine wpAny_done (by kernel_rfl) ?_ _
            go_wp2
            go_ret
            exact ⟨rfl, hb7⟩
        · go_simp
          refine hK _ _ ?_
          clear hK K
          refine wpAny_take (i := 17) (v := .bool ((strOfNums zs).toList == s.toList)) rfl (by kernel_rfl) (by kernel_rfl) (by kernel_rfl) (fun _ _ _ h => h) (Or.inl ⟨?_, ?_⟩) ?_
          · rfl
          · intro w; go_simp
          go_simp
          refine wpAny_ready (rs := [12]) (by kernel_rfl) (by simp) ?_
          refine AllReady.cons rfl (fun K hK => ?_) AllReady.nil
          go_simp
          refine hK _ _ ?_
          clear hK K
          refine wpAny_ready (rs := [13]) (by kernel_rfl) (by simp) ?_
          refine AllReady.cons rfl (fun K hK => ?_) AllReady.nil
          go_simp
          go_wp2_with (go_at_call 21; refine (HSM.out _ _ hc5).mono ?_; rintro e w6 ⟨rfl, hb6⟩)
          refine wpAny_take (i := 18) (v := .bool true) rfl (by kernel_rfl) (by kernel_rfl) (by kernel_rfl) (fun _ _ _ h => h) (Or.inl ⟨?_, ?_⟩) ?_
          · rfl
          · intro w; go_simp
          go_simp
          refine wpAny_take (i := 19) (v := .bool true) rfl (by kernel_rfl) (by kernel_rfl) (by kernel_rfl) (fun _ _ _ h => h) (Or.inl ⟨?_, ?_⟩) ?_
          · rfl
          · intro w; go_simp
          go_simp
          refine wpAny_take (i := 20) (v := .bool true) rfl (by kernel_rfl) (by kernel_rfl) (by kernel_rfl) (fun _ _ _ h => h) (Or.inl ⟨?_, ?_⟩) ?_
          · rfl
          · intro w; go_simp
          go_simp
          refine wpAny_ready (rs := [21]) (by kernel_rfl) (by simp) ?_
          refine AllReady.cons rfl (fun K hK => ?_) AllReady.nil
          go_simp
          go_wp2_with (go_at_call 13; refine (awake_keep (Nat.le_refl _) hb6).mono ?_; rintro e w7 ⟨rfl, hb7⟩)
          refine wpAny_take (i := 22) (v := .bool true) rfl (by kernel_rfl) (by kernel_rfl) (by kernel_rfl) (fun _ _ _ h => h) (Or.inl ⟨?_, ?_⟩) ?_
          · rfl
          · intro w; go_simp
          go_simp
          refine wpAny_take (i := 23) (v := .bool true) rfl (by kernel_rfl) (by kernel_rfl) (by kernel_rfl) (fun _ _ _ h => h) (Or.inl ⟨?_, ?_⟩) ?_
          · rfl
          · intro w; go_simp
          go_simp
          refine wpAny_done (by kernel_rfl) ?_ _
          go_wp2
          go_ret
          exact ⟨rfl, hb7⟩
      · go_simp
        refine hK _ _ ?_
        clear hK K
        refine wpAny_ready (rs := [3]) (by kernel_rfl) (by simp) ?_
        refine AllReady.cons rfl (fun K hK => ?_) AllReady.nil
        go_simp
        refine hK _ _ ?_
        clear hK K
        refine wpAny_take (i := 8) (v := .bool true) rfl (by kernel_rfl) (by kernel_rfl) (by kernel_rfl) (fun _ _ _ h => h) (Or.inl ⟨?_, ?_⟩) ?_
        · rfl
        · intro w; go_simp
        go_simp
        refine wpAny_take (i := 9) (v := .bool true) rfl (by kernel_rfl) (by kernel_rfl) (by kernel_rfl) (fun _ _ _ h => h) (Or.inl ⟨?_, ?_⟩) ?_
        · rfl
        · intro w; go_simp
        go_simp
        refine wpAny_take (i := 10) (v := .slice a n cap) rfl (by kernel_rfl) (by kernel_rfl) (by kernel_rfl) (fun _ _ _ h => h) (Or.inl ⟨?_, ?_⟩) ?_
        · rfl
        · intro w; go_simp
        go_simp
        refine wpAny_take (i := 11) (v := .string s) rfl (by kernel_rfl) (by kernel_rfl) (by kernel_rfl) (fun _ _ _ h => h) (Or.inl ⟨?_, ?_⟩) ?_
        · rfl
        · intro w; go_simp
        go_simp
        refine wpAny_take (i := 14) (v := .slice a n cap) rfl (by kernel_rfl) (by kernel_rfl) (by kernel_rfl) (fun _ _ _ h => h) (Or.inl ⟨?_, ?_⟩) ?_
        · rfl
        · intro w; go_simp
        go_simp
        refine wpAny_take (i := 16) (v := .string s) rfl (by kernel_rfl) (by kernel_rfl) (by kernel_rfl) (fun _ _ _ h => h) (Or.inl ⟨?_, ?_⟩) ?_
        · rfl
        · intro w; go_simp
        go_simp
        refine wpAny_ready (rs := [12, 15]) (by kernel_rfl) (by simp) ?_
        refine AllReady.cons rfl (fun K hK => ?_) (AllReady.cons rfl (fun K hK => ?_) AllReady.nil)
        · go_simp
          refine hK _ _ ?_
          clear hK K
          refine wpAny_ready (rs := [13, 15]) (by kernel_rfl) (by simp) ?_
          refine AllReady.cons rfl (fun K hK => ?_) (AllReady.cons rfl (fun K hK => ?_) AllReady.nil)
          · go_simp
            go_wp2_with (go_at_call 21; refine (HSM.out _ _ hc5).mono ?_; rintro e w6 ⟨rfl, hb6⟩)
            refine wpAny_ready (rs := [15]) (by kernel_rfl) (by simp) ?_
            refine AllReady.cons rfl (fun K hK => ?_) AllReady.nil
            go_simp
            refine hK _ _ ?_
            clear hK K
            refine wpAny_take (i := 17) (v := .bool ((strOfNums zs).toList == s.toList)) rfl (by kernel_rfl) (by kernel_rfl) (by kernel_rfl) (fun _ _ _ h => h) (Or.inl ⟨?_, ?_⟩) ?_
            · rfl
            · intro w; go_simp
            go_simp
            refine wpAny_take (i := 18) (v := .bool true) rfl (by kernel_rfl) (by kernel_rfl) (by kernel_rfl) (fun _ _ _ h => h) (Or.inl ⟨?_, ?_⟩) ?_
            · rfl
            · intro w; go_simp
            go_simp
            refine wpAny_take (i := 19) (v := .bool true) rfl (by kernel_rfl) (by kernel_rfl) (by kernel_rfl) (fun _ _ _ h => h) (Or.inl ⟨?_, ?_⟩) ?_
            · rfl
            · intro w; go_simp
            go_simp
            refine wpAny_take (i := 20) (v := .bool true) rfl (by kernel_rfl) (by kernel_rfl) (by kernel_rfl) (fun _ _ _ h => h) (Or.inl ⟨?_, ?_⟩) ?_
            · rfl
            · intro w; go_simp
            go_simp
            refine wpAny_ready (rs := [21]) (by kernel_rfl) (by simp) ?_
            refine AllReady.cons rfl (fun K hK => ?_) AllReady.nil
            go_simp
            go_wp2_with (go_at_call 13; refine (awake_keep (Nat.le_refl _) hb6).mono ?_; rintro e w7 ⟨rfl, hb7⟩)
            refine wpAny_take (i := 22) (v := .bool true) rfl (by kernel_rfl) (by kernel_rfl) (by kernel_rfl) (fun _ _ _ h => h) (Or.inl ⟨?_, ?_⟩) ?_
            · rfl
            · intro w; go_simp
            go_simp
            refine wpAny_take (i := 23) (v := .bool true) rfl (by kernel_rfl) (by kernel_rfl) (by kernel_rfl) (fun _ _ _ h => h) (Or.inl ⟨?_, ?_⟩) ?_
            · rfl
            · intro w; go_simp
            go_simp
            refine wpAny_done (by kernel_rfl) ?_ _
            go_wp2
            go_ret
            exact ⟨rfl, hb7⟩
          · go_simp
            refine hK _ _ ?_
            clear hK K
            refine wpAny_take (i := 17) (v := .bool ((strOfNums zs).toList == s.toList)) rfl (by kernel_rfl) (by kernel_rfl) (by kernel_rfl) (fun _ _ _ h => h) (Or.inl ⟨?_, ?_⟩) ?_
            · rfl
            · intro w; go_simp
            go_simp
            refine wpAny_ready (rs := [13]) (by kernel_rfl) (by simp) ?_
            refine AllReady.cons rfl (fun K hK => ?_) AllReady.nil
            go_simp
            go_wp2_with (go_at_call 21; refine (HSM.out _ _ hc5).mono ?_; rintro e w6 ⟨rfl, hb6⟩)
            refine wpAny_take (i := 18) (v := .bool true) rfl (by kernel_rfl) (by kernel_rfl) (by kernel_rfl) (fun _ _ _ h => h) (Or.inl ⟨?_, ?_⟩) ?_
            · rfl
            · intro w; go_simp
            go_simp
            refine wpAny_take (i := 19) (v := .bool true) rfl (by kernel_rfl) (by kernel_rfl) (by kernel_rfl) (fun _ _ _ h => h) (Or.inl ⟨?_, ?_⟩) ?_
            · rfl
            · intro w; go_simp
            go_simp
            refine wpAny_take (i := 20) (v := .bool true) rfl (by kernel_rfl) (by kernel_rfl) (by kernel_rfl) (fun _ _ _ h => h) (Or.inl ⟨?_, ?_⟩) ?_
            · rfl
            · intro w; go_simp
            go_simp
            refine wpAny_ready (rs := [21]) (by kernel_rfl) (by simp) ?_
            refine AllReady.cons rfl (fun K hK => ?_) AllReady.nil
            go_simp
            go_wp2_with (go_at_call 13; refine (awake_keep (Nat.le_refl _) hb6).mono ?_; rintro e w7 ⟨rfl, hb7⟩)
            refine wpAny_take (i := 22) (v := .bool true) rfl (by kernel_rfl) (by kernel_rfl) (by kernel_rfl) (fun _ _ _ h => h) (Or.inl ⟨?_, ?_⟩) ?_
            · rfl
            · intro w; go_simp
            go_simp
            refine wpAny_take (i := 23) (v := .bool true) rfl (by kernel_rfl) (by kernel_rfl) (by kernel_rfl) (fun _ _ _ h => h) (Or.inl ⟨?_, ?_⟩) ?_
            · rfl
            · intro w; go_simp
            go_simp
            refine wpAny_done (by kernel_rfl) ?_ _
            go_wp2
            go_ret
            exact ⟨rfl, hb7⟩
        · go_simp
          refine hK _ _ ?_
          clear hK K
          refine wpAny_take (i := 17) (v := .bool ((strOfNums zs).toList == s.toList)) rfl (by kernel_rfl) (by kernel_rfl) (by kernel_rfl) (fun _ _ _ h => h) (Or.inl ⟨?_, ?_⟩) ?_
          · rfl
          · intro w; go_simp
          go_simp
          refine wpAny_ready (rs := [12]) (by kernel_rfl) (by simp) ?_
          refine AllReady.cons rfl (fun K hK => ?_) AllReady.nil
          go_simp
          refine hK _ _ ?_
          clear hK K
          refine wpAny_ready (rs := [13]) (by kernel_rfl) (by simp) ?_
          refine AllReady.cons rfl (fun K hK => ?_) AllReady.nil
          go_simp
          go_wp2_with (go_at_call 21; refine (HSM.out _ _ hc5).mono ?_; rintro e w6 ⟨rfl, hb6⟩)
          refine wpAny_take (i := 18) (v := .bool true) rfl (by kernel_rfl) (by kernel_rfl) (by kernel_rfl) (fun _ _ _ h => h) (Or.inl ⟨?_, ?_⟩) ?_
          · rfl
          · intro w; go_simp
          go_simp
          refine wpAny_take (i := 19) (v := .bool true) rfl (by kernel_rfl) (by kernel_rfl) (by kernel_rfl) (fun _ _ _ h => h) (Or.inl ⟨?_, ?_⟩) ?_
          · rfl
          · intro w; go_simp
          go_simp
          refine wpAny_take (i := 20) (v := .bool true) rfl (by kernel_rfl) (by kernel_rfl) (by kernel_rfl) (fun _ _ _ h => h) (Or.inl ⟨?_, ?_⟩) ?_
          · rfl
          · intro w; go_simp
          go_simp
          refine wpAny_ready (rs := [21]) (by kernel_rfl) (by simp) ?_
          refine AllReady.cons rfl (fun K hK => ?_) AllReady.nil
          go_simp
          go_wp2_with (go_at_call 13; refine (awake_keep (Nat.le_refl _) hb6).mono ?_; rintro e w7 ⟨rfl, hb7⟩)
          refine wpAny_take (i := 22) (v := .bool true) rfl (by kernel_rfl) (by kernel_rfl) (by kernel_rfl) (fun _ _ _ h => h) (Or.inl ⟨?_, ?_⟩) ?_
          · rfl
          · intro w; go_simp
          go_simp
          refine wpAny_take (i := 23) (v := .bool true) rfl (by kernel_rfl) (by kernel_rfl) (by kernel_rfl) (fun _ _ _ h => h) (Or.inl ⟨?_, ?_⟩) ?_
          · rfl
          · intro w; go_simp
          go_simp
          refine wpAny_done (by kernel_rfl) ?_ _
          go_wp2
          go_ret
          exact ⟨rfl, hb7⟩
end Go.Proofs.Ytlbhajbangmlbaa.Oc
