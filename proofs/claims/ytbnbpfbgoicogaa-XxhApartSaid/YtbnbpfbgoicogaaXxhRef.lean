/- Contracts: the document's own answer for XXH64. It proves no statement. -/
import Derived.Test.YtbnbpfbgoicogaaXxhMath
namespace Go.Proofs.Ytbnbpfbgoicogaa
open Go.RowKit
set_option linter.unusedVariables false
set_option linter.unusedSimpArgs false

theorem rturn_any (x n : Nat) (w : World) (hx : x < 18446744073709551616) (hn : n < 64) :
    Calls Try.prog 21 #[.int .u64 x, .int .u64 n] w fun e w' => e = .returned (.int .u64 (rotl 64 x n : Nat)) ∧ w = w' := by
  have hr := rot_cast64 x n hx hn
  have hs : IntKind.u64.wrap (64 - (n : Int)) = ((64 - n : Nat) : Int) := by rw [IntKind.wrap_u64]; omega
  have z1 : (0 : Int) ≤ (n : Int) := by omega
  generalize rotl 64 x n = z at hr ⊢
  go_enter Try.func21, Try.ntmps21
  go_wp2
  go_ret
  exact ⟨rfl, rfl⟩
theorem rprime_any (i : Nat) (w : World) (h1 : 1 ≤ i) (h5 : i ≤ 5) :
    Calls Try.prog 19 #[.int .i64 i] w fun e w' => e = .returned (.int .u64 ((match i with | 1 => xP1 | 2 => xP2 | 3 => xP3 | 4 => xP4 | _ => xP5 : Nat))) ∧ w = w' := by
  obtain rfl | rfl | rfl | rfl | rfl : i = 1 ∨ i = 2 ∨ i = 3 ∨ i = 4 ∨ i = 5 := by omega
  all_goals
    go_enter Try.func19, Try.ntmps19
    go_wp2
    go_ret
    exact ⟨rfl, rfl⟩
theorem rnum_any (A : Option Addr) (n c : Nat) (l : List UInt8) (w : World) (B : Nat) (h : Reads w B A n l) (h1 : 1 ≤ n) (h2 : n ≤ 8) :
    Calls Try.prog 23 #[.slice A n c] w fun e w' => e = .returned (.int .u64 (leNum l : Nat)) ∧ w = w' := by
  have k := rget_yes A n c l w B h h1 h2
  generalize leNum l = z at k ⊢
  clear h h1 h2
  have K := Lib.hid k
  clear k
  go_enter Try.func23, Try.ntmps23
  go_wp2_with fail
  refine K.out.mono ?_
  rintro e w1 ⟨rfl, rfl⟩
  go_wp2_with fail
  go_ret
  exact ⟨rfl, rfl⟩

theorem wrap_mul (x y : Nat) : IntKind.u64.wrap ((x : Int) * (y : Int)) = ((x * y % m64 : Nat) : Int) := by
  rw [IntKind.wrap_u64]; simp [m64]
theorem wrap_add (x y : Nat) : IntKind.u64.wrap ((x : Int) + (y : Int)) = (((x + y) % m64 : Nat) : Int) := by
  rw [IntKind.wrap_u64]; simp [m64]
theorem wrap_sub (x y : Nat) (hy : y ≤ m64) : IntKind.u64.wrap ((x : Int) - (y : Int)) = (((x + (m64 - y)) % m64 : Nat) : Int) := by
  rw [IntKind.wrap_u64]; simp only [m64] at *; omega
theorem rprime1 (w : World) : Calls Try.prog 19 #[.int .i64 1] w fun e w' => e = .returned (.int .u64 (xP1 : Nat)) ∧ w = w' := rprime_any 1 w (by omega) (by omega)
theorem rprime2 (w : World) : Calls Try.prog 19 #[.int .i64 2] w fun e w' => e = .returned (.int .u64 (xP2 : Nat)) ∧ w = w' := rprime_any 2 w (by omega) (by omega)
theorem rprime3 (w : World) : Calls Try.prog 19 #[.int .i64 3] w fun e w' => e = .returned (.int .u64 (xP3 : Nat)) ∧ w = w' := rprime_any 3 w (by omega) (by omega)
theorem rprime4 (w : World) : Calls Try.prog 19 #[.int .i64 4] w fun e w' => e = .returned (.int .u64 (xP4 : Nat)) ∧ w = w' := rprime_any 4 w (by omega) (by omega)
theorem rprime5 (w : World) : Calls Try.prog 19 #[.int .i64 5] w fun e w' => e = .returned (.int .u64 (xP5 : Nat)) ∧ w = w' := rprime_any 5 w (by omega) (by omega)

theorem rlane_any (a x : Nat) (w : World) :
    Calls Try.prog 22 #[.int .u64 a, .int .u64 x] w fun e w' => e = .returned (.int .u64 (xLane a x : Nat)) ∧ w = w' := by
  have p1 := rprime1 w
  have p2 := rprime2 w
  have e1 := wrap_mul x xP2
  have e2 := wrap_add a (x * xP2 % m64)
  rw [Nat.add_mod_mod] at e2
  have hs : (a + x * xP2) % m64 < 18446744073709551616 := Nat.mod_lt _ (by decide)
  have t := rturn_any _ 31 w hs (by omega)
  have e3 := wrap_mul (rotl 64 ((a + x * xP2) % m64) 31) xP1
  have ez : rotl 64 ((a + x * xP2) % m64) 31 * xP1 % m64 = xLane a x := rfl
  rw [ez] at e3
  generalize xLane a x = z at e3 ⊢
  clear ez
  generalize rotl 64 ((a + x * xP2) % m64) 31 = r at e3 t
  generalize (a + x * xP2) % m64 = s at e2 t hs
  generalize x * xP2 % m64 = y at e1 e2
  generalize xP1 = P1 at p1 e3
  generalize xP2 = P2 at p2 e1
  have E1 := Lib.hid p1
  have E2 := Lib.hid p2
  have T := Lib.hid t
  clear p1 p2 t
  go_enter Try.func22, Try.ntmps22
  go_wp2_with fail
  refine E2.out.mono ?_
  rintro e w1 ⟨rfl, rfl⟩
  go_wp2_with fail
  refine T.out.mono ?_
  rintro e w1 ⟨rfl, rfl⟩
  go_wp2_with fail
  refine E1.out.mono ?_
  rintro e w1 ⟨rfl, rfl⟩
  go_wp2_with fail
  go_ret
  exact ⟨rfl, rfl⟩
theorem rlane0 (x : Nat) (w : World) :
    Calls Try.prog 22 #[.int .u64 0, .int .u64 x] w fun e w' => e = .returned (.int .u64 (xLane 0 x : Nat)) ∧ w = w' := rlane_any 0 x w
end Go.Proofs.Ytbnbpfbgoicogaa
