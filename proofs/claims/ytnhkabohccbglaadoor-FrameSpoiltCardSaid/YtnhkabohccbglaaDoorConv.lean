/- 'string(b)' of bytes that read. It proves no statement. -/
import Derived.Test.YtnhkabohccbglaaDoorBase
import Derived.Laws.IdiomStrings
import Derived.Laws.BytesArg
namespace Go.Proofs.YtnhkabohccbglaaDoor
open Go.RowKit
set_option linter.unusedVariables false
set_option linter.unusedSimpArgs false

/-- 'string(b)'. -/
theorem conv_reads {w : World} {B n : Nat} {A : Option Addr} {l : List UInt8} (h : Reads w B A n l) (c : Nat) :
    (convert 24 9 (.slice A n c)).run Tryd.prog w = .ok (.string ⟨l.toArray⟩) w := by
  obtain rfl := h.1
  rcases A with _ | ad
  · have hl : l = [] := by
      rcases l with _ | ⟨x, r⟩
      · rfl
      · obtain ⟨_, _, e, _⟩ := h.2 (by simp)
        cases e
    subst hl
    exact run_convert_bytes_nil w 24 5 Tryd.underlying24 Tryd.underlying5 0 c 9 Tryd.underlying9
  · refine run_convert_bytes_back w 24 9 5 ad c l Tryd.underlying24 Tryd.underlying5 Tryd.underlying9 fun j hj => ?_
    refine h.news ad rfl (by omega) j _ ?_
    rw [bytesV_get l j hj]
    simp [List.getD, hj]
end Go.Proofs.YtnhkabohccbglaaDoor
