/- Contracts: 32 bits flipped. It proves no statement. -/
import Derived.Test.YtammhjkdjkgpdaaTurn
namespace Go.Proofs.Ytammhjkdjkgpdaa
open Go.RowKit
set_option linter.unusedVariables false
set_option linter.unusedSimpArgs false

theorem step_cast (p m x : Nat) (hx : x < 4294967296) (hm : m < 4294967296) :
    bits BinOp.or IntKind.u32 (bits BinOp.and IntKind.u32 ((x : Int) / (p : Int)) (m : Int)) (bits BinOp.and IntKind.u32 (x : Int) (m : Int) * (p : Int) % 4294967296) = ((stepN p m x : Nat) : Int) := by
  have e1 : ((x : Int) / (p : Int)) = ((x / p : Nat) : Int) := by simp
  rw [e1, u32_and_nat _ _ (Nat.lt_of_le_of_lt (Nat.div_le_self _ _) hx) hm, u32_and_nat _ _ hx hm]
  have e2 : ((x &&& m : Nat) : Int) * (p : Int) % 4294967296 = (((x &&& m) * p % 4294967296 : Nat) : Int) := by simp
  rw [e2, u32_or_nat _ _ (Nat.lt_of_le_of_lt Nat.and_le_left (Nat.lt_of_le_of_lt (Nat.div_le_self _ _) hx)) (Nat.mod_lt _ (by omega))]
  rfl

theorem rot_cast32b (x s : Nat) (hx : x < 4294967296) (hs : s < 32) :
    bits BinOp.or IntKind.u32 (↑x / 2 ^ (32 - s)) ((↑x * 2 ^ s) % 4294967296) = ((rotl 32 x s : Nat) : Int) := by
  have e1 : ((x : Int) * 2 ^ s) % 4294967296 = ((x * 2 ^ s % 2 ^ 32 : Nat) : Int) := by simp
  have e2 : ((x : Int) / 2 ^ (32 - s)) = ((x / 2 ^ (32 - s) : Nat) : Int) := by simp
  rw [e1, e2, u32_or_nat _ _ (Nat.lt_of_le_of_lt (Nat.div_le_self _ _) hx) (Nat.mod_lt _ (by omega)), Nat.or_comm]
  rfl

theorem revb_any (x : Nat) (w : World) (hx : x < 4294967296) :
    Calls Try.prog 47 #[.int .u32 x] w fun e w' => e = .returned (.int .u32 (rotl 32 (stepN 256 16711935 x) 16 : Nat)) ∧ w = w' := by
  have h1 := step_cast 256 16711935 x hx (by omega)
  have l1 : stepN 256 16711935 x < 4294967296 := stepN_lt 256 16711935 x hx
  generalize stepN 256 16711935 x = y at h1 l1 ⊢
  have h2 := rot_cast32b y 16 l1 (by omega)
  simp only [Int.cast_ofNat_Int, Int.reducePow, Nat.reduceSub] at h1 h2
  generalize rotl 32 y 16 = z at h2 ⊢
  go_enter Try.func47, Try.ntmps47
  go_wp2
  go_ret
  exact ⟨rfl, rfl⟩
theorem rev_any (x : Nat) (w : World) (hx : x < 4294967296) :
    Calls Try.prog 43 #[.int .u32 x] w fun e w' => e = .returned (.int .u32 (flipTo x 32 : Nat)) ∧ w = w' := by
  have l1 : stepN 2 1431655765 x < 4294967296 := stepN_lt 2 1431655765 x hx
  have l2 : stepN 4 858993459 (stepN 2 1431655765 x) < 4294967296 := stepN_lt 4 858993459 _ l1
  have l3 : stepN 16 252645135 (stepN 4 858993459 (stepN 2 1431655765 x)) < 4294967296 := stepN_lt 16 252645135 _ l2
  have h1 := step_cast 2 1431655765 x hx (by omega)
  have h2 := step_cast 4 858993459 _ l1 (by omega)
  have h3 := step_cast 16 252645135 _ l2 (by omega)
  have hr := revN_eq x hx
  unfold revN at hr
  have hc := fun w => revb_any _ w l3
  rw [← hr]
  simp only [Int.cast_ofNat_Int] at h1 h2 h3
  generalize stepN 16 252645135 (stepN 4 858993459 (stepN 2 1431655765 x)) = a3 at *
  generalize stepN 4 858993459 (stepN 2 1431655765 x) = a2 at *
  generalize stepN 2 1431655765 x = a1 at *
  generalize rotl 32 (stepN 256 16711935 a3) 16 = z at *
  have HC := Lib.hid hc
  clear hc hr
  go_enter Try.func43, Try.ntmps43
  go_wp2_with fail
  refine (HC.out _).mono ?_
  rintro e w1 ⟨rfl, rfl⟩
  go_wp2_with fail
  go_ret
  exact ⟨rfl, rfl⟩

theorem flip32_any (x : Nat) (w : World) (hx : x < 4294967296) :
    Calls Try.prog 25 #[.int .u32 x] w fun e w' => e = .returned (.int .u32 (flipTo x 32 : Nat)) ∧ w = w' := by
  have h := rev_any x w hx
  generalize flipTo x 32 = z at h ⊢
  go_enter Try.func25, Try.ntmps25
  go_wp2_with fail
  refine h.mono ?_
  rintro e w1 ⟨rfl, rfl⟩
  clear h
  go_wp2_with fail
  go_ret
  exact ⟨rfl, rfl⟩

theorem flip_cast (x y k : Nat) (hx : x < 4294967296) (hy : y < 2147483648) :
    bits BinOp.or IntKind.u32 (↑y * 2) (bits BinOp.and IntKind.u32 (↑x / 2 ^ k) 1) = ((y * 2 + x / 2 ^ k % 2 : Nat) : Int) := by
  have e1 : ((x : Int) / 2 ^ k) = ((x / 2 ^ k : Nat) : Int) := by simp
  have e2 := u32_and_nat (x / 2 ^ k) 1 (Nat.lt_of_le_of_lt (Nat.div_le_self _ _) hx) (by omega)
  rw [nat_mask1] at e2
  have e3 : ((y : Int) * 2) = ((y * 2 : Nat) : Int) := by simp
  rw [e1, e3]
  refine (congrArg (bits BinOp.or IntKind.u32 _) e2).trans ?_
  rw [u32_or_nat _ _ (by omega) (by omega), nat_join 1 _ _ (by omega) (by omega)]
theorem rflip_any (x : Nat) (w : World) (hx : x < 4294967296) :
    Calls Try.prog 26 #[.int .u32 x] w fun e w' => e = .returned (.int .u32 (flipTo x 32 : Nat)) ∧ w = w' := by
  obtain ⟨z, hz⟩ : ∃ z, z = flipTo x 32 := ⟨_, rfl⟩
  rw [← hz]
  have HZ := Lib.hid hz
  clear hz
  go_enter Try.func26, Try.ntmps26
  go_wp2_with fail
  go_loop [3, 4] (fun yv i => ∃ k : Nat, k ≤ 32 ∧ i = .int .i64 k ∧ ∃ y : Nat, yv = .int .u32 y ∧ Hid (y = flipTo x k)) (fun _ i => 32 - (intOf i).toNat)
  case atStart => exact ⟨0, Nat.zero_le _, rfl, 0, rfl, rfl⟩
  case round =>
    obtain ⟨k, hk, rfl, y, rfl, hy⟩ := hrel
    by_cases hlt : k < 32
    · have hyb : y < 2 ^ k := by rw [hy.out]; exact flipTo_lt x k
      have hyb2 : y < 2147483648 := Nat.lt_of_lt_of_le hyb (Nat.pow_le_pow_right (by omega) (show k ≤ 31 by omega))
      clear hyb
      go_wp2_with fail
      go_round
      case rel =>
        refine ⟨k + 1, by omega, by go_num, flipTo x (k + 1), ?_, rfl⟩
        rw [flip_cast x y k hx hyb2, flipTo, ← hy.out]
      case measure => simp [intOf]; omega
    · obtain rfl : k = 32 := by omega
      have e := hy.out
      rw [← HZ.out] at e
      subst e
      go_wp2_with fail
      go_ret
      exact ⟨rfl, rfl⟩
end Go.Proofs.Ytammhjkdjkgpdaa
