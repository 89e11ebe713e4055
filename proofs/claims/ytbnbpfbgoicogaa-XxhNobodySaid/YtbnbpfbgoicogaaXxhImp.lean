/- Contracts: the landed xxh's lanes, words and what is left. It proves no statement. -/
import Derived.Test.YtbnbpfbgoicogaaXxhRSum
import Derived.Test.YtbnbpfbgoicogaaTurn64
import Derived.Test.YtbnbpfbgoicogaaGet1
namespace Go.Proofs.Ytbnbpfbgoicogaa
open Go.RowKit
set_option linter.unusedVariables false
set_option linter.unusedSimpArgs false

theorem number_any (A : Option Addr) (n c : Nat) (l : List UInt8) (w : World) (B : Nat) (h : Reads w B A n l) (h1 : 1 ≤ n) (h2 : n ≤ 8) :
    Calls Try.prog 31 #[.slice A n c] w fun e w' => e = .returned (.int .u64 (leNum l : Nat)) ∧ w = w' := by
  have k := get_yes A n c l w B h h1 h2
  generalize leNum l = z at k ⊢
  clear h h1 h2
  have K := Lib.hid k
  clear k
  go_enter Try.func31, Try.ntmps31
  go_wp2_with fail
  refine K.out.mono ?_
  rintro e w1 ⟨rfl, rfl⟩
  go_wp2_with fail
  go_ret
  exact ⟨rfl, rfl⟩

theorem turnk (x : Nat) (n : Nat) (w : World) (hx : x < m64) (hn : n < 64) :
    Calls Try.prog 29 #[.int .u64 x, .int .i64 n] w fun e w' => e = .returned (.int .u64 (rotl 64 x n : Nat)) ∧ w = w' := by
  have h := turn64_any x n w hx
  rwa [show ((n : Int) % 64).toNat = n by omega] at h

theorem lane_any (a x : Nat) (w : World) :
    Calls Try.prog 30 #[.int .u64 a, .int .u64 x] w fun e w' => e = .returned (.int .u64 (xLane a x : Nat)) ∧ w = w' := by
  have e1 : IntKind.u64.wrap ((x : Int) * 14029467366897019727) = ((x * xP2 % m64 : Nat) : Int) := wrap_mul x xP2
  have e2 := wrap_add a (x * xP2 % m64)
  rw [Nat.add_mod_mod] at e2
  have hs : (a + x * xP2) % m64 < m64 := Nat.mod_lt _ (by decide)
  have t := turnk _ 31 w hs (by omega)
  have e3 : IntKind.u64.wrap (((rotl 64 ((a + x * xP2) % m64) 31 : Nat) : Int) * 11400714785074694791) = ((rotl 64 ((a + x * xP2) % m64) 31 * xP1 % m64 : Nat) : Int) := wrap_mul (rotl 64 ((a + x * xP2) % m64) 31) xP1
  have ez : rotl 64 ((a + x * xP2) % m64) 31 * xP1 % m64 = xLane a x := rfl
  rw [ez] at e3
  generalize xLane a x = z at e3 ⊢
  clear ez
  generalize rotl 64 ((a + x * xP2) % m64) 31 = r at e3 t
  generalize (a + x * xP2) % m64 = s at e2 t hs
  generalize x * xP2 % m64 = y at e1 e2
  have T := Lib.hid t
  clear t hs
  go_enter Try.func30, Try.ntmps30
  go_wp2_with fail
  refine T.out.mono ?_
  rintro e w1 ⟨rfl, rfl⟩
  go_wp2_with fail
  go_ret
  exact ⟨rfl, rfl⟩
theorem lane0 (x : Nat) (w : World) :
    Calls Try.prog 30 #[.int .u64 0, .int .u64 x] w fun e w' => e = .returned (.int .u64 (xLane 0 x : Nat)) ∧ w = w' := lane_any 0 x w

theorem finished_any (h : Nat) (w : World) (hh : h < m64) :
    Calls Try.prog 25 #[.int .u64 h] w fun e w' => e = .returned (.int .u64 (xFin h : Nat)) ∧ w = w' := by
  obtain ⟨q1, y1, z1, q2, y2, z2, q3, f1, f2, f3, f4, f5, f6, f7, f8⟩ := fin_facts h hh
  have f3' : IntKind.u64.wrap ((y1 : Int) * 14029467366897019727) = (z1 : Int) := f3
  have f6' : IntKind.u64.wrap ((y2 : Int) * 1609587929392839161) = (z2 : Int) := f6
  generalize xFin h = R at *
  clear f3 f6
  go_enter Try.func25, Try.ntmps25
  go_wp2_with fail
  go_ret
  exact ⟨rfl, rfl⟩
end Go.Proofs.Ytbnbpfbgoicogaa
