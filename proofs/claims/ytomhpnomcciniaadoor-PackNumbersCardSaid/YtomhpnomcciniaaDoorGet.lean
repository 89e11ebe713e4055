/- Bytes as a number and back. It proves no statement. -/
import Derived.Test.YtomhpnomcciniaaDoorPut
import Derived.Test.YtomhpnomcciniaaDoorGet1
import Derived.Test.YtomhpnomcciniaaDoorLe
import Derived.Test.YtomhpnomcciniaaDoorBack
import Derived.Test.YtomhpnomcciniaaDoorGetBig
namespace Go.Proofs.YtomhpnomcciniaaDoor
open Go.RowKit
set_option linter.unusedVariables false
set_option linter.unusedSimpArgs false

theorem leNum_le (x n : Nat) : leNum (leBytes x n) = x % 2 ^ (8 * n) := by
  induction n with
  | zero => simp [leBytes, leNum, Nat.mod_one]
  | succ n ih =>
    rw [leBytes_succ, leNum_snoc, ih, leBytes_length]
    simp only [UInt8.toNat_ofNat']
    rw [show 8 * (n + 1) = 8 * n + 8 by omega, Nat.pow_add, Nat.mod_mul, Nat.mul_comm (x / 2 ^ (8 * n) % 2 ^ 8)]

end Go.Proofs.YtomhpnomcciniaaDoor
