/- The closed facts of HintsNames's row, each apart: it proves no statement. -/
import Derived.Test.YtblgphfdicffcaaGreatDoorRows
import Derived.Test.YtblgphfdicffcaaGreatDoorCards
import Derived.WalkKit
import Derived.Stop.Joined
import Derived.ProofKit
namespace Go.Proofs.YtblgphfdicffcaaGreatDoor
open Go.ChangeShapes Go.WideShapes Go.ChangeAt Go.RowKit
theorem and_twoHintsNames {a b : Bool} (ha : a = true) (hb : b = true) : (a && b) = true := by rw [ha, hb]; rfl
set_option maxHeartbeats 0 in
theorem hintsNames_facts : joinedFacts Tryz.prog 10 Tryz.f10 Rows.hintsNamesSpec Rows.hintsNamesRow = true := by
  unfold joinedFacts
  repeat' (with_reducible apply and_twoHintsNames)
  all_goals (as_aux_lemma => kernel_rfl)
end Go.Proofs.YtblgphfdicffcaaGreatDoor
