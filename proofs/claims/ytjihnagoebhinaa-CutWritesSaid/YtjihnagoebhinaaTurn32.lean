/- Contracts: numbers of 32 bits turned. It proves no statement. -/
import Derived.Test.YtjihnagoebhinaaBase
import Derived.Test.YtjihnagoebhinaaNums
import Derived.Outline
import Derived.Deep.DeepMust
namespace Go.Proofs.Ytjihnagoebhinaa
open Go.RowKit
set_option linter.unusedVariables false
set_option linter.unusedSimpArgs false

theorem and31 (n : Int) : bits BinOp.and IntKind.u64 (IntKind.u64.wrap n) 31 = (((n % 32).toNat : Nat) : Int) := by
  have h0 : 0 ≤ IntKind.u64.wrap n := by rw [IntKind.wrap_u64]; omega
  have h1 : IntKind.u64.wrap n < 18446744073709551616 := by rw [IntKind.wrap_u64]; omega
  rw [u64_and _ _ h0 h1 (by omega) (by omega)]
  have e : ((31 : Int).toNat) = 31 := rfl
  rw [e, nat_mask5, IntKind.wrap_u64]
  omega
theorem rot32 (x : Nat) (n : Int) (w : World) (hx : x < 4294967296) :
    Calls Try.prog 46 #[.int .u32 x, .int .i64 n] w fun e w' => e = .returned (.int .u32 (rotl 32 x (n % 32).toNat : Nat)) ∧ w = w' := by
  have ha := and31 n
  have hs : (n % 32).toNat < 32 := by omega
  generalize (n % 32).toNat = s at ha hs ⊢
  have hr := rot_cast32 x s hx hs
  have HR := Lib.hid hr
  clear hr
  generalize rotl 32 x s = z at HR ⊢
  go_enter Try.func46, Try.ntmps46
  go_wp2
  go_ret
  exact ⟨congrArg (fun z => Ending.returned (Value.int IntKind.u32 z)) HR.out, rfl⟩
theorem turn32_any (x : Nat) (n : Int) (w : World) (hx : x < 4294967296) :
    Calls Try.prog 45 #[.int .u32 x, .int .i64 n] w fun e w' => e = .returned (.int .u32 (rotl 32 x (n % 32).toNat : Nat)) ∧ w = w' := by
  have h := rot32 x n w hx
  generalize rotl 32 x (n % 32).toNat = z at h ⊢
  go_enter Try.func45, Try.ntmps45
  go_wp2_with fail
  refine h.mono ?_
  rintro e w1 ⟨rfl, rfl⟩
  clear h
  go_wp2_with fail
  go_ret
  exact ⟨rfl, rfl⟩
end Go.Proofs.Ytjihnagoebhinaa
