/- Several texts in one: So -/
import Derived.Test.YtniaclhmfmkikaaGreatDoorZ41
import Derived.Test.YtniaclhmfmkikaaGreatDoorZ42
section
/- hermitagelaw13.CoreOne, whatever the instruction; hermitagelaw13.CoreKernel, likewise. -/
namespace Go.Proofs.YtniaclhmfmkikaaGreatDoor.Ex
open Go.RowKit Ut
set_option maxRecDepth 100000
set_option linter.unusedVariables false

theorem one13_any (al : Option Addr) (n cap : Nat) (zs : List Int) (pc : Int) (status : Nat) (o d a b m : Int) (w : World) (hn : n ≤ 9223372036854775807) (hs : status < 4294967296) (hz : RowK .u32 w w.heap.size al n zs) (hzb : ∀ z ∈ zs, 0 ≤ z ∧ z < 4294967296) (hw : Is.HasT w) :
    Calls Tryz.prog 4 #[.slice al n cap, .int .u32 pc, .int .u32 (status : Int), Is.insV o d a b m] w fun e w' => e = .returned (.bool true) ∧ Below w.heap.size w w' := by
  cases hv : Is.validB o d a b m
  · exact one_form al n cap zs pc status o d a b m hv w hn hs hz hzb hw
  by_cases hk : (exX (ldR zs n) pc (qS status) 2 3 o d a b m).E.k = 0
  · cases ht : (Cs.intsOf (exX (ldR zs n) pc (qS status) 2 3 o d a b m).Q == Cs.intsOf (qS status))
    · rcases (one_all (ldR zs n) pc (qS status) 2 3 o d a b m hv).2.2.2 with h | h | h
      · rw [h] at ht
        simp at ht
      · exact one_ret al n cap zs pc status o d a b m hv hk ht h w hn hs hz hzb hw
      · exact one_csrw al n cap zs pc status o d a b m hv hk ht h w hn hs hz hzb hw
    · exact one_same al n cap zs pc status o d a b m hv hk ht w hn hs hz hzb hw
  · exact one_stay al n cap zs pc status o d a b m hv hk w hn hs hz hzb hw
end Go.Proofs.YtniaclhmfmkikaaGreatDoor.Ex
end
