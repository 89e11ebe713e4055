/- Bytes told from further back, one more. It proves no statement. -/
import Derived.Test.YtcbolakhdndffaaLzLoMath
namespace Go.Proofs.Ytcbolakhdndffaa
theorem backL_next (d k : Nat) (t : List UInt8) : backL d (k + 1) t = backL d k t ++ [(backL d k t).getD ((backL d k t).length - d) 0] := by
  induction k generalizing t with
  | zero => rfl
  | succ k ih =>
    rw [backL, ih]
    rfl

end Go.Proofs.Ytcbolakhdndffaa
