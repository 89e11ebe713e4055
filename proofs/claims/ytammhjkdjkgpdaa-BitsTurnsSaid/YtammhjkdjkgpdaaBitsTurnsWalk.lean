/- The walks of BitsTurns and BitsRound: they return true, and nothing that was there turns. -/
import Derived.Test.YtammhjkdjkgpdaaFlip
namespace Go.Proofs.Ytammhjkdjkgpdaa
open Go.RowKit
set_option linter.unusedVariables false
set_option linter.unusedSimpArgs false

set_option maxRecDepth 100000 in
set_option maxHeartbeats 800000 in
theorem bitsTurns_walk (x : Int) (n : Int) (w : World) (hx0 : 0 ≤ x) (hx1 : x < 18446744073709551616) :
    Calls Try.prog 5 #[.int .u64 x, .int .i64 n] w fun e w' => e = .returned (.bool true) ∧ Below w.heap.size w w' := by
  obtain ⟨x, rfl⟩ := Int.eq_ofNat_of_zero_le hx0
  have hx : x < 18446744073709551616 := by omega
  have k1 := fun w => turn64_any x n w hx
  have k2 := fun w => rturn_any x 64 n w (.inl rfl) hx
  obtain ⟨y, hy⟩ : ∃ y : Nat, ((x : Int) % 4294967296) = y := ⟨x % 4294967296, by simp⟩
  have hyb : y < 4294967296 := by omega
  have k3 := fun w => turn32_any y n w hyb
  have k4 := fun w => rturn_any y 32 n w (.inr rfl) hyb
  have k5 := fun w => flip32_any y w hyb
  have k6 := fun w => rflip_any y w hyb
  have b1 := rotl_lt 64 x (n % 64).toNat hx
  have b2 := rotl_lt 32 y (n % 32).toNat hyb
  have e1 : ((64 : Nat) : Int) = 64 := rfl
  have e2 : ((32 : Nat) : Int) = 32 := rfl
  rw [e1] at k2
  rw [e2] at k4
  generalize rotl 64 x (n % 64).toNat = r1 at *
  generalize rotl 32 y (n % 32).toNat = r2 at *
  generalize flipTo y 32 = r3 at *
  have K1 := Lib.hid k1
  have K2 := Lib.hid k2
  have K3 := Lib.hid k3
  have K4 := Lib.hid k4
  have K5 := Lib.hid k5
  have K6 := Lib.hid k6
  have b2' : (r2 : Int) < 4294967296 := by omega
  clear k1 k2 k3 k4 k5 k6 b1 b2 e1 e2 hx0 hx1
  go_enter Try.func5, Try.ntmps5
  go_wp2_with fail
  refine (K1.out _).mono ?_
  rintro e w1 ⟨rfl, rfl⟩
  go_wp2_with fail
  refine (K2.out _).mono ?_
  rintro e w1 ⟨rfl, rfl⟩
  go_wp2_with fail
  refine (K3.out _).mono ?_
  rintro e w1 ⟨rfl, rfl⟩
  go_wp2_with fail
  refine (K4.out _).mono ?_
  rintro e w1 ⟨rfl, rfl⟩
  go_wp2_with fail
  refine (K5.out _).mono ?_
  rintro e w1 ⟨rfl, rfl⟩
  go_wp2_with fail
  refine (K6.out _).mono ?_
  rintro e w1 ⟨rfl, rfl⟩
  go_wp2_with fail
  refine (lives_yes _).mono ?_
  rintro e w1 ⟨rfl, s1⟩
  go_wp2_with fail
  go_ret
  exact ⟨rfl, s1⟩
end Go.Proofs.Ytammhjkdjkgpdaa
