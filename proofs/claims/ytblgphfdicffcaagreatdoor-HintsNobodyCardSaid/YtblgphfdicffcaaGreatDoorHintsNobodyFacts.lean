/- The closed facts of HintsNobody's row, each apart: it proves no statement. -/
import Derived.Test.YtblgphfdicffcaaGreatDoorRows
import Derived.Test.YtblgphfdicffcaaGreatDoorCards
import Derived.WalkKit
import Derived.Stop.Joined
import Derived.ProofKit
namespace Go.Proofs.YtblgphfdicffcaaGreatDoor
open Go.ChangeShapes Go.WideShapes Go.ChangeAt Go.RowKit
theorem and_twoHintsNobody {a b : Bool} (ha : a = true) (hb : b = true) : (a && b) = true := by rw [ha, hb]; rfl
set_option maxHeartbeats 0 in
theorem hintsNobody_facts : joinedFacts Tryz.prog 11 Tryz.f11 Rows.hintsNobodySpec Rows.hintsNobodyRow = true := by
  unfold joinedFacts
  repeat' (with_reducible apply and_twoHintsNobody)
  all_goals (as_aux_lemma => kernel_rfl)
end Go.Proofs.YtblgphfdicffcaaGreatDoor
