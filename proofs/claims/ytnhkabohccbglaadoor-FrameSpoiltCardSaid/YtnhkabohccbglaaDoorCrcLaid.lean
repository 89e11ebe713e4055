/- What the rows' condition on the two tables gives the walks. It proves no statement. -/
import Derived.Test.YtnhkabohccbglaaDoorCrcImp
import Derived.LaidMore
import Derived.Stop.Joined
import Derived.Stop.LaidErr
namespace Go.Proofs.YtnhkabohccbglaaDoor
open Go.RowKit
set_option linter.unusedVariables false
set_option linter.unusedSimpArgs false

def crcLaid : List (String × DataW Unit) := [("hoard/crc.lowHalf", Rows.laid_hoard_crc_lowHalf), ("hoard/crc.highHalf", Rows.laid_hoard_crc_highHalf)]
theorem gLow : Tryd.prog.globalNamed "hoard/crc.lowHalf" = some 0 := by kernel_rfl
theorem gHigh : Tryd.prog.globalNamed "hoard/crc.highHalf" = some 1 := by kernel_rfl
theorem tLow : (Tryd.prog.globals[0]?).map (·.type) = some 86 := by kernel_rfl
theorem tHigh : (Tryd.prog.globals[1]?).map (·.type) = some 86 := by kernel_rfl
theorem tabs_of_laid {W : World} (h : laidMetH Tryd.prog crcLaid W) : Tabs W := by
  rw [MakeChecks.laidMetH_plain _ _ _ (by kernel_rfl)] at h
  have h1 : Lib.TabIs Tryd.prog W "hoard/crc.lowHalf" .u32 lowT := Lib.tabIs_of_head gLow tLow Tryd.underlying86 Tryd.underlying57 (by kernel_rfl) (by kernel_rfl) h
  have h2 : Lib.TabIs Tryd.prog W "hoard/crc.highHalf" .u32 highT := Lib.tabIs_of_head gHigh tHigh Tryd.underlying86 Tryd.underlying57 (by kernel_rfl) (by kernel_rfl) (laidMet.tail h)
  refine ⟨fun i hi => ?_, fun i hi => ?_⟩
  · have := h1.cell gLow i (by simpa [lowT] using hi)
    rwa [lowT_cast i hi] at this
  · have := h2.cell gHigh i (by simpa [highT] using hi)
    rwa [highT_cast i hi] at this
end Go.Proofs.YtnhkabohccbglaaDoor
