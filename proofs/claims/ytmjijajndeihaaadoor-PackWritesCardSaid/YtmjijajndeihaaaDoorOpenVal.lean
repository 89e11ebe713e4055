/- A value that came in, opened. It proves no statement. -/
import Derived.Test.YtmjijajndeihaaaDoorPackGf
namespace Go.Proofs.YtmjijajndeihaaaDoor
open Go.RowKit
set_option linter.unusedVariables false

set_option maxRecDepth 100000 in
theorem open_val {H : Type} {enc : TypeId × Value → H} {w : World} {r : Reach} {b0 : Nat} {held : Bool} {v : Value} {d : DataW H} {p : List MemPlace} (hv : Value.okWide Tryd.prog w r b0 26 v) (h : DataW.Trod enc Tryd.prog w 0 (fun _ => true) held 26 v d p) :
    ∃ x cs, v = .agg cs ∧ HasW w (fun _ => True) x cs := by
  obtain ⟨cs, rfl, hsz⟩ := Go.WideShapes.okWide_struct Tryd.underlying26 hv
  obtain ⟨l⟩ := cs
  obtain ⟨fuel, hf⟩ := h
  obtain ⟨x, hx⟩ := raw_has fuel _ _ hf
  exact ⟨x, ⟨l⟩, rfl, hx⟩

end Go.Proofs.YtmjijajndeihaaaDoor
