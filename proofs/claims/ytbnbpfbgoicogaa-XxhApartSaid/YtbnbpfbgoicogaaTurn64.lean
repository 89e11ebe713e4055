/- Contracts: numbers of 64 bits turned. It proves no statement. -/
import Derived.Test.YtbnbpfbgoicogaaBase
import Derived.Test.YtbnbpfbgoicogaaNums
import Derived.Outline
import Derived.Deep.DeepMust
namespace Go.Proofs.Ytbnbpfbgoicogaa
open Go.RowKit
set_option linter.unusedVariables false
set_option linter.unusedSimpArgs false

theorem and63 (n : Int) : bits BinOp.and IntKind.u64 (IntKind.u64.wrap n) 63 = (((n % 64).toNat : Nat) : Int) := by
  have h0 : 0 ≤ IntKind.u64.wrap n := by rw [IntKind.wrap_u64]; omega
  have h1 : IntKind.u64.wrap n < 18446744073709551616 := by rw [IntKind.wrap_u64]; omega
  rw [u64_and _ _ h0 h1 (by omega) (by omega)]
  have e : ((63 : Int).toNat) = 63 := rfl
  rw [e, nat_mask6, IntKind.wrap_u64]
  omega
theorem rot64 (x : Nat) (n : Int) (w : World) (hx : x < 18446744073709551616) :
    Calls Try.prog 32 #[.int .u64 x, .int .i64 n] w fun e w' => e = .returned (.int .u64 (rotl 64 x (n % 64).toNat : Nat)) ∧ w = w' := by
  have ha := and63 n
  have hs : (n % 64).toNat < 64 := by omega
  generalize (n % 64).toNat = s at ha hs ⊢
  have hr := rot_cast64 x s hx hs
  have HR := Lib.hid hr
  clear hr
  generalize rotl 64 x s = z at HR ⊢
  go_enter Try.func32, Try.ntmps32
  go_wp2
  go_ret
  exact ⟨congrArg (fun z => Ending.returned (Value.int IntKind.u64 z)) HR.out, rfl⟩
theorem turn64_any (x : Nat) (n : Int) (w : World) (hx : x < 18446744073709551616) :
    Calls Try.prog 29 #[.int .u64 x, .int .i64 n] w fun e w' => e = .returned (.int .u64 (rotl 64 x (n % 64).toNat : Nat)) ∧ w = w' := by
  have h := rot64 x n w hx
  generalize rotl 64 x (n % 64).toNat = z at h ⊢
  go_enter Try.func29, Try.ntmps29
  go_wp2_with fail
  refine h.mono ?_
  rintro e w1 ⟨rfl, rfl⟩
  clear h
  go_wp2_with fail
  go_ret
  exact ⟨rfl, rfl⟩
end Go.Proofs.Ytbnbpfbgoicogaa
