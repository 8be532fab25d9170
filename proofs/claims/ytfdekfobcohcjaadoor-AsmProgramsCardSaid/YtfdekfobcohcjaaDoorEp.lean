/- The document's Lines and Split of layer 5. -/
import Derived.Test.YtfdekfobcohcjaaDoorEb
import Derived.Test.YtfdekfobcohcjaaDoorRb
namespace Go.Proofs.YtfdekfobcohcjaaDoor.Pl
open Go.RowKit Ut
set_option linter.unusedVariables false

theorem info_u8' : (Tryd.prog.info? 5).map (fun i => (i.zero, i.size, i.bytes)) = some (some (.int .u8 0), 1, 1) := by kernel_rfl
theorem cutL_more (c : UInt8) (a d : List UInt8) : ∃ t, (cutL c (a ++ d)).1 = (cutL c a).1 ++ t := by
  refine snoc_ind (P := fun d => ∃ t, (cutL c (a ++ d)).1 = (cutL c a).1 ++ t) ⟨[], by simp⟩ (fun d b ih => ?_) d
  obtain ⟨t, ht⟩ := ih
  rw [← List.append_assoc, cutL_snoc]
  unfold cutS
  split
  · exact ⟨t ++ [(cutL c (a ++ d)).2], by simp [ht]⟩
  · exact ⟨t, ht⟩
/-- the bytes as numbers -/
def bz (l : List UInt8) : List Int := l.map fun b => (b.toNat : Int)
theorem bz_len (l : List UInt8) : (bz l).length = l.length := by simp [bz]
theorem str_bz (l : List UInt8) : strOfNums (bz l) = tb l := by
  unfold strOfNums tb bz
  congr 2
  induction l with
  | nil => rfl
  | cons b r ih => simp [ih]
/-- what both loops know at place k -/
structure RefAt (c : UInt8) (s : ByteArray) (k : Nat) (ps : List (List UInt8)) (cur : List UInt8) : Prop where
  cut : cutL c (s.data.toList.take k) = (ps, cur)
  len : ps.length + cur.length ≤ k
theorem RefAt.start (c : UInt8) (s : ByteArray) : RefAt c s 0 [] [] := ⟨by simp [cutL], by simp⟩
theorem RefAt.put {c : UInt8} {s : ByteArray} {k : Nat} {ps : List (List UInt8)} {cur : List UInt8} (h : RefAt c s k ps cur) (hk : k < s.size) (hb : ¬ s[k]'hk = c) : RefAt c s (k + 1) ps (cur ++ [s[k]'hk]) := by
  refine ⟨?_, by have := h.len; simp; omega⟩
  have e : s.data.toList.take (k + 1) = s.data.toList.take k ++ [s[k]'hk] := by
    rw [List.take_add_one, List.getElem?_eq_getElem (by simpa using hk)]
    rfl
  rw [e, cutL_snoc, h.cut]
  simp [cutS, hb]
theorem RefAt.hit {c : UInt8} {s : ByteArray} {k : Nat} {ps : List (List UInt8)} {cur : List UInt8} (h : RefAt c s k ps cur) (hk : k < s.size) (hb : s[k]'hk = c) : RefAt c s (k + 1) (ps ++ [cur]) [] := by
  refine ⟨?_, by have := h.len; simp; omega⟩
  have e : s.data.toList.take (k + 1) = s.data.toList.take k ++ [s[k]'hk] := by
    rw [List.take_add_one, List.getElem?_eq_getElem (by simpa using hk)]
    rfl
  rw [e, cutL_snoc, h.cut]
  simp [cutS, hb]
theorem RefAt.done {c : UInt8} {s : ByteArray} {k : Nat} {ps : List (List UInt8)} {cur : List UInt8} (h : RefAt c s k ps cur) (hk : k = s.size) : cutL c s.data.toList = (ps, cur) := by
  have := h.cut
  rwa [List.take_of_length_le (by simp [hk])] at this

end Go.Proofs.YtfdekfobcohcjaaDoor.Pl
