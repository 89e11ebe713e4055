/- Keys that are not alike. It proves no statement. -/
import Derived.Test.YthkgnkcedoigiaaTbMem
import Derived.Laws.StructEq
namespace Go.Proofs.Ythkgnkcedoigiaa
open Go.RowKit
set_option linter.unusedVariables false

theorem neq_ids (w : World) (xs ys : List UInt8) (hx : xs.length = 32) (hy : ys.length = 32) :
    (binOp .neq 32 (.agg (bytesV xs).toArray) (.agg (bytesV ys).toArray)).run Try.prog w = .ok (.bool (!decide (xs = ys))) w := by
  have h := eql_ids w xs ys hx hy
  rw [run_eql_struct] at h
  rw [run_neq_struct]
  generalize (Op.equalIn 10000 32 (.agg (bytesV xs).toArray) (.agg (bytesV ys).toArray)).run Try.prog w = q at h ⊢
  cases q with
  | ok b w' =>
    simp only [Result.andThen_ok, Result.ok.injEq, Value.bool.injEq] at h ⊢
    exact ⟨by rw [h.1], h.2⟩
  | halt x w' => simp only [Result.andThen] at h; cases h
end Go.Proofs.Ythkgnkcedoigiaa
