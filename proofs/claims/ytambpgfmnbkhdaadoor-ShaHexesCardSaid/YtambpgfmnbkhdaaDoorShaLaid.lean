/- What the rows' condition on the table gives the walks. It proves no statement. -/
import Derived.Test.YtambpgfmnbkhdaaDoorShaMixed
import Derived.LaidMore
import Derived.Stop.Joined
import Derived.Stop.LaidErr
import Derived.Lib.LaidTab
namespace Go.Proofs.YtambpgfmnbkhdaaDoor
open Go.RowKit
set_option linter.unusedVariables false
set_option linter.unusedSimpArgs false

def shaLaid : List (String × DataW Unit) := [("hoard/sha.roundWords", Rows.laid_hoard_sha_roundWords)]
theorem gWords : Tryd.prog.globalNamed "hoard/sha.roundWords" = some 0 := by kernel_rfl
theorem tWords : (Tryd.prog.globals[0]?).map (·.type) = some 63 := by kernel_rfl
theorem kZ_cast (i : Nat) (h : i < 64) : kZ.getD i 0 = ((kT.getD i 0 : Nat) : Int) := (show ∀ i, i < 64 → kZ.getD i 0 = ((kT.getD i 0 : Nat) : Int) by decide +kernel) i h
theorem tabs_of_laid {W : World} (h : laidMetH Tryd.prog shaLaid W) : Tabs W := by
  rw [MakeChecks.laidMetH_plain _ _ _ (by kernel_rfl)] at h
  have h1 : Lib.TabIs Tryd.prog W "hoard/sha.roundWords" .u32 kZ := Lib.tabIs_of_head gWords tWords Tryd.underlying63 Tryd.underlying46 (by kernel_rfl) (by kernel_rfl) h
  intro i hi
  have := h1.cell gWords i (by simpa [kZ, kT] using hi)
  rwa [kZ_cast i hi] at this
end Go.Proofs.YtambpgfmnbkhdaaDoor
