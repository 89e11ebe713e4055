/- Contracts: All and Size of a file that is there. It proves no statement. -/
import Derived.Test.YtlkkkifilgnhmaaMdGa
namespace Go.Proofs.Ytlkkkifilgnhmaa
open Go.RowKit Go.Maps Go.WideMaps
set_option linter.unusedVariables false
set_option linter.unusedSimpArgs false

end Go.Proofs.Ytlkkkifilgnhmaa
