/- The closed facts of SegsWhole's row, each apart: it proves no statement. -/
import Derived.Test.YtfneloobfidckaaGreatDoorRows
import Derived.Test.YtfneloobfidckaaGreatDoorCards
import Derived.WalkKit
import Derived.Stop.Joined
import Derived.ProofKit
namespace Go.Proofs.YtfneloobfidckaaGreatDoor
open Go.ChangeShapes Go.WideShapes Go.ChangeAt Go.RowKit
theorem and_twoW {a b : Bool} (ha : a = true) (hb : b = true) : (a && b) = true := by rw [ha, hb]; rfl
set_option maxHeartbeats 0 in
theorem segsWhole_facts : joinedFacts Tryz.prog 5 Tryz.f5 Rows.segsWholeSpec Rows.segsWholeRow = true := by
  unfold joinedFacts
  repeat' (with_reducible apply and_twoW)
  all_goals (as_aux_lemma => kernel_rfl)
end Go.Proofs.YtfneloobfidckaaGreatDoor
