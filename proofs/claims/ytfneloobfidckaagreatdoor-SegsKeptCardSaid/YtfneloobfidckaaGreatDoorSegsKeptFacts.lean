/- The closed facts of SegsKept's row, each apart: it proves no statement. -/
import Derived.Test.YtfneloobfidckaaGreatDoorRows
import Derived.Test.YtfneloobfidckaaGreatDoorCards
import Derived.WalkKit
import Derived.Stop.Joined
import Derived.ProofKit
namespace Go.Proofs.YtfneloobfidckaaGreatDoor
open Go.ChangeShapes Go.WideShapes Go.ChangeAt Go.RowKit
theorem and_twoK {a b : Bool} (ha : a = true) (hb : b = true) : (a && b) = true := by rw [ha, hb]; rfl
set_option maxHeartbeats 0 in
theorem segsKept_facts : joinedFacts Tryz.prog 4 Tryz.f4 Rows.segsKeptSpec Rows.segsKeptRow = true := by
  unfold joinedFacts
  repeat' (with_reducible apply and_twoK)
  all_goals (as_aux_lemma => kernel_rfl)
end Go.Proofs.YtfneloobfidckaaGreatDoor
