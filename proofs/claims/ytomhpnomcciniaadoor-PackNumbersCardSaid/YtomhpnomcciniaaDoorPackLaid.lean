/- What a walk that reads no table is given of the tables: nothing. It proves no statement. -/
import Derived.Test.YtomhpnomcciniaaDoorBase
namespace Go.Proofs.YtomhpnomcciniaaDoor
open Go.RowKit
/-- No word on the tables. -/
def AnyTabs (_ : World) : Prop := True
theorem anyTabs {P : Prop} {w : World} (_ : P) : AnyTabs w := trivial
end Go.Proofs.YtomhpnomcciniaaDoor
