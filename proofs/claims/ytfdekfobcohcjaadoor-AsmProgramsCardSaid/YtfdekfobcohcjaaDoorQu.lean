/- What the program's listed variables hold, out of what the row says that lies in them. -/
import Derived.Test.YtfdekfobcohcjaaDoorRows
import Derived.Test.YtfdekfobcohcjaaDoorQa
import Derived.Test.YtfdekfobcohcjaaDoorNm
import Derived.Stop.LaidErr
import Derived.Lib.LaidTab
namespace Go.Proofs.YtfdekfobcohcjaaDoor.As
open Go.ChangeShapes Go.RowKit Ut Is
set_option linter.unusedVariables false
set_option maxRecDepth 100000

theorem gPow : Tryd.prog.globalNamed "internal/strconv.uint64pow10" = some 2 := by kernel_rfl
theorem gEs : Tryd.prog.globalNamed "strconv.ErrSyntax" = some 3 := by kernel_rfl
theorem gEr : Tryd.prog.globalNamed "strconv.ErrRange" = some 4 := by kernel_rfl
abbrev laidL : List (String × DataW Unit) := [("hermitage/isa.has", Rows.laid_hermitage_isa_has), ("math/bits.deBruijn32tab", Rows.laid_math_bits_deBruijn32tab), ("math/bits.deBruijn64tab", Rows.laid_math_bits_deBruijn64tab), ("internal/strconv.uint64pow10", Rows.laid_internal_strconv_uint64pow10), ("strconv.ErrRange", Rows.laid_strconv_ErrRange), ("strconv.ErrSyntax", Rows.laid_strconv_ErrSyntax)]
theorem starErr : "*errors.errorString" = "*" ++ "errors.errorString" := by decide +kernel
theorem rowErr (u : TypeId) (h : Tryd.prog.typeName? 3 u = some "*errors.errorString") : u = 140 :=
  typeName_ptr_named (nm := "errors.errorString") (by rw [← starErr]; kernel_rfl) (by kernel_rfl) (by decide) u (by rw [← starErr]; exact h)
theorem has_of_tab {W : World} (h : Lib.TabIs Tryd.prog W "hermitage/isa.has" .u8 (hasL.map fun n : Nat => (n : Int))) : HasT W := by
  unfold Lib.TabIs World.var? at h
  simp only [gHas, Option.bind_some] at h
  split at h
  · rename_i cs t fr hh
    injection h with h
    subst h
    refine ⟨t, fr, hh.trans ?_⟩
    rw [List.map_map]
    rfl
  · cases h
theorem held_of_laid {W : World} (h : laidMetH Tryd.prog laidL W) : Held W := by
  rw [MakeChecks.laidMetH_plain _ _ _ (by kernel_rfl)] at h
  have hh : laidMet Tryd.prog (("hermitage/isa.has", Lib.tabData .u8 (hasL.map fun n : Nat => (n : Int))) :: laidL.tail) W := h
  have h1 := Lib.tabIs_of_head gHas tHas Tryd.underlying100 Tryd.underlying5 (by kernel_rfl) (by kernel_rfl) hh
  have h3 := h.tail.tail.tail
  have hp : laidMet Tryd.prog (("internal/strconv.uint64pow10", Lib.tabData .u64 Lib.pow10Tab) :: laidL.tail.tail.tail.tail) W := h3
  have h4 := Lib.tabIs_of_head gPow (by kernel_rfl) Tryd.underlying123 Tryd.underlying97 (by kernel_rfl) (by kernel_rfl) hp
  have h5 := h3.tail
  obtain ⟨a5, s5, e5, _⟩ := laid_sentinel h5 gEr (by kernel_rfl) Tryd.underlying76 rowErr Tryd.underlying140 Tryd.underlying142 rfl rfl Tryd.underlying9 (by kernel_rfl) (by kernel_rfl)
  have h6 := h5.tail
  obtain ⟨a6, s6, e6, _⟩ := laid_sentinel h6 gEs (by kernel_rfl) Tryd.underlying76 rowErr Tryd.underlying140 Tryd.underlying142 rfl rfl Tryd.underlying9 (by kernel_rfl) (by kernel_rfl)
  have c6 := World.var?_cell gEs e6 0
  have c5 := World.var?_cell gEr e5 0
  exact ⟨has_of_tab h1, h4, ⟨_, _, by simpa using c6⟩, ⟨_, _, by simpa using c5⟩⟩
end Go.Proofs.YtfdekfobcohcjaaDoor.As
