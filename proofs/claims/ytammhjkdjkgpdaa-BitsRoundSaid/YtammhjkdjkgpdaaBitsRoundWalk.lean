/- The walk of BitsRound: it returns true, and nothing that was there turns. -/
import Derived.Test.YtammhjkdjkgpdaaFlip
namespace Go.Proofs.Ytammhjkdjkgpdaa
open Go.RowKit
set_option linter.unusedVariables false
set_option linter.unusedSimpArgs false

theorem and_i64 (n : Int) (m k : Nat) (hk : k ≤ 10) (hm : m + 1 = 2 ^ k) : bits BinOp.and IntKind.i64 n (m : Int) = n % (2 ^ k : Nat) := by
  have hm2 : m < 1024 := by have := Nat.pow_le_pow_right (show 0 < 2 by omega) hk; omega
  show IntKind.i64.wrap ((BitVec.ofInt 64 n &&& BitVec.ofInt 64 (m : Int)).toNat : Int) = _
  rw [BitVec.toNat_and, ofInt_u64 m (by omega), BitVec.toNat_ofInt]
  have e : m = 2 ^ k - 1 := by omega
  have e2 : (n % ((2 ^ 64 : Nat) : Int)).toNat &&& m = (n % ((2 ^ 64 : Nat) : Int)).toNat % 2 ^ k := by rw [e, Nat.and_two_pow_sub_one_eq_mod]
  rw [e2, IntKind.wrap_i64]
  have hd : ((2 ^ k : Nat) : Int) ∣ ((2 ^ 64 : Nat) : Int) := by
    rw [Int.natCast_dvd_natCast]
    exact Nat.pow_dvd_pow 2 (by omega)
  have e3 : (((n % ((2 ^ 64 : Nat) : Int)).toNat % 2 ^ k : Nat) : Int) = n % ((2 ^ k : Nat) : Int) := by
    rw [Int.natCast_emod, Int.toNat_of_nonneg (Int.emod_nonneg _ (by omega)), Int.emod_emod_of_dvd n hd]
  rw [e3, ← hm]
  have h1 := Int.emod_nonneg n (show ((m + 1 : Nat) : Int) ≠ 0 by omega)
  have h2 := Int.emod_lt_of_pos n (show (0 : Int) < ((m + 1 : Nat) : Int) by omega)
  omega

set_option maxRecDepth 100000 in
set_option maxHeartbeats 1600000 in
theorem bitsRound_walk (x : Int) (n m : Int) (w : World) (hx0 : 0 ≤ x) (hx1 : x < 18446744073709551616) :
    Calls Try.prog 8 #[.int .u64 x, .int .i64 n, .int .i64 m] w fun e w' => e = .returned (.bool true) ∧ Below w.heap.size w w' := by
  obtain ⟨x, rfl⟩ := Int.eq_ofNat_of_zero_le hx0
  have hx : x < 18446744073709551616 := by omega
  obtain ⟨y, hy⟩ : ∃ y : Nat, ((x : Int) % 4294967296) = y := ⟨x % 4294967296, by simp⟩
  have hyb : y < 4294967296 := by omega
  obtain ⟨a, ha⟩ : ∃ a : Int, bits BinOp.and IntKind.i64 n 63 = a := ⟨_, rfl⟩
  obtain ⟨b, hb⟩ : ∃ b : Int, bits BinOp.and IntKind.i64 m 63 = b := ⟨_, rfl⟩
  obtain ⟨c, hc⟩ : ∃ c : Int, bits BinOp.and IntKind.i64 n 31 = c := ⟨_, rfl⟩
  have ha2 : a = n % 64 := ha.symm.trans (and_i64 n 63 6 (by omega) rfl)
  have hb2 : b = m % 64 := hb.symm.trans (and_i64 m 63 6 (by omega) rfl)
  have hc2 : c = n % 32 := hc.symm.trans (and_i64 n 31 5 (by omega) rfl)
  obtain ⟨r1, hr1⟩ : ∃ r1, r1 = rotl 64 x (n % 64).toNat := ⟨_, rfl⟩
  have r1b : r1 < 18446744073709551616 := by rw [hr1]; exact rotl_lt 64 _ _ hx
  obtain ⟨r2, hr2⟩ : ∃ r2, r2 = rotl 64 x ((n + m) % 64).toNat := ⟨_, rfl⟩
  obtain ⟨p1, hp1⟩ : ∃ p1, p1 = rotl 32 y (n % 32).toNat := ⟨_, rfl⟩
  have p1b : p1 < 4294967296 := by rw [hp1]; exact rotl_lt 32 _ _ hyb
  obtain ⟨p2, hp2⟩ : ∃ p2, p2 = rotl 32 y ((n + m) % 32).toNat := ⟨_, rfl⟩
  obtain ⟨f, hf⟩ : ∃ f, f = flipTo y 32 := ⟨_, rfl⟩
  have fb : f < 4294967296 := by rw [hf]; exact flipTo_lt y 32
  obtain ⟨g, hg⟩ : ∃ g, g = flipTo p1 32 := ⟨_, rfl⟩
  have c1 : ∀ w, Calls Try.prog 22 #[.int .u64 x, .int .i64 n] w fun e w' => e = .returned (.int .u64 r1) ∧ w = w' := fun w => by
    rw [hr1]; exact turn64_any x n w hx
  have c2 : ∀ w, Calls Try.prog 22 #[.int .u64 r1, .int .i64 (64 - a)] w fun e w' => e = .returned (.int .u64 x) ∧ w = w' := fun w => by
    have h := turn64_any r1 (64 - a) w r1b
    rw [hr1, rotl_add64 x _ _ hx (by omega) (by omega), show ((n % 64).toNat + ((64 - a) % 64).toNat) % 64 = 0 by omega, rotl_zero 64 x hx (by omega), ← hr1] at h
    exact h
  have c3 : ∀ w, Calls Try.prog 22 #[.int .u64 r1, .int .i64 m] w fun e w' => e = .returned (.int .u64 r2) ∧ w = w' := fun w => by
    have h := turn64_any r1 m w r1b
    rw [hr1, rotl_add64 x _ _ hx (by omega) (by omega), show ((n % 64).toNat + (m % 64).toNat) % 64 = ((n + m) % 64).toNat by omega, ← hr1, ← hr2] at h
    exact h
  have c4 : ∀ w, Calls Try.prog 22 #[.int .u64 x, .int .i64 (a + b)] w fun e w' => e = .returned (.int .u64 r2) ∧ w = w' := fun w => by
    have h := turn64_any x (a + b) w hx
    rw [show (a + b) % 64 = (n + m) % 64 by omega, ← hr2] at h
    exact h
  have c5 : ∀ w, Calls Try.prog 24 #[.int .u32 y, .int .i64 n] w fun e w' => e = .returned (.int .u32 p1) ∧ w = w' := fun w => by
    rw [hp1]; exact turn32_any y n w hyb
  have c6 : ∀ w, Calls Try.prog 24 #[.int .u32 p1, .int .i64 (32 - c)] w fun e w' => e = .returned (.int .u32 y) ∧ w = w' := fun w => by
    have h := turn32_any p1 (32 - c) w p1b
    rw [hp1, rotl_add32 y _ _ hyb (by omega) (by omega), show ((n % 32).toNat + ((32 - c) % 32).toNat) % 32 = 0 by omega, rotl_zero 32 y hyb (by omega), ← hp1] at h
    exact h
  have c7 : ∀ w, Calls Try.prog 24 #[.int .u32 p1, .int .i64 m] w fun e w' => e = .returned (.int .u32 p2) ∧ w = w' := fun w => by
    have h := turn32_any p1 m w p1b
    rw [hp1, rotl_add32 y _ _ hyb (by omega) (by omega), show ((n % 32).toNat + (m % 32).toNat) % 32 = ((n + m) % 32).toNat by omega, ← hp1, ← hp2] at h
    exact h
  have c8 : ∀ w, Calls Try.prog 24 #[.int .u32 y, .int .i64 (a + b)] w fun e w' => e = .returned (.int .u32 p2) ∧ w = w' := fun w => by
    have h := turn32_any y (a + b) w hyb
    rw [show (a + b) % 32 = (n + m) % 32 by omega, ← hp2] at h
    exact h
  have c9 : ∀ w, Calls Try.prog 25 #[.int .u32 y] w fun e w' => e = .returned (.int .u32 f) ∧ w = w' := fun w => by
    rw [hf]; exact flip32_any y w hyb
  have c10 : ∀ w, Calls Try.prog 25 #[.int .u32 f] w fun e w' => e = .returned (.int .u32 y) ∧ w = w' := fun w => by
    have h := flip32_any f w fb
    rw [hf, flipTo_flip y hyb, ← hf] at h
    exact h
  have c11 : ∀ w, Calls Try.prog 25 #[.int .u32 p1] w fun e w' => e = .returned (.int .u32 g) ∧ w = w' := fun w => by
    rw [hg]; exact flip32_any p1 w p1b
  have c12 : ∀ w, Calls Try.prog 24 #[.int .u32 f, .int .i64 (32 - c)] w fun e w' => e = .returned (.int .u32 g) ∧ w = w' := fun w => by
    have h := turn32_any f (32 - c) w fb
    have e : rotl 32 f ((32 - c) % 32).toNat = g := by
      rw [hg, hp1, flipTo_rotl y _ hyb (by omega), hf]
      congr 1
      omega
    rw [e] at h
    exact h
  have ab : 0 ≤ a ∧ a < 64 := by omega
  have bb : 0 ≤ b ∧ b < 64 := by omega
  have cb : 0 ≤ c ∧ c < 32 := by omega
  obtain ⟨ab1, ab2⟩ := ab
  obtain ⟨bb1, bb2⟩ := bb
  obtain ⟨cb1, cb2⟩ := cb
  have C1 := Lib.hid c1
  have C2 := Lib.hid c2
  have C3 := Lib.hid c3
  have C4 := Lib.hid c4
  have C5 := Lib.hid c5
  have C6 := Lib.hid c6
  have C7 := Lib.hid c7
  have C8 := Lib.hid c8
  have C9 := Lib.hid c9
  have C10 := Lib.hid c10
  have C11 := Lib.hid c11
  have C12 := Lib.hid c12
  clear c1 c2 c3 c4 c5 c6 c7 c8 c9 c10 c11 c12 hr1 hr2 hp1 hp2 hf hg r1b p1b fb ha2 hb2 hc2 hx0 hx1 hyb
  go_enter Try.func8, Try.ntmps8
  go_wp2_with fail
  refine (C1.out _).mono ?_
  rintro e w1 ⟨rfl, rfl⟩
  go_wp2_with fail
  refine (C2.out _).mono ?_
  rintro e w1 ⟨rfl, rfl⟩
  go_wp2_with fail
  refine (C1.out _).mono ?_
  rintro e w1 ⟨rfl, rfl⟩
  go_wp2_with fail
  refine (C3.out _).mono ?_
  rintro e w1 ⟨rfl, rfl⟩
  go_wp2_with fail
  refine (C4.out _).mono ?_
  rintro e w1 ⟨rfl, rfl⟩
  go_wp2_with fail
  refine (C5.out _).mono ?_
  rintro e w1 ⟨rfl, rfl⟩
  go_wp2_with fail
  refine (C6.out _).mono ?_
  rintro e w1 ⟨rfl, rfl⟩
  go_wp2_with fail
  refine (C5.out _).mono ?_
  rintro e w1 ⟨rfl, rfl⟩
  go_wp2_with fail
  refine (C7.out _).mono ?_
  rintro e w1 ⟨rfl, rfl⟩
  go_wp2_with fail
  refine (C8.out _).mono ?_
  rintro e w1 ⟨rfl, rfl⟩
  go_wp2_with fail
  refine (C9.out _).mono ?_
  rintro e w1 ⟨rfl, rfl⟩
  go_wp2_with fail
  refine (C10.out _).mono ?_
  rintro e w1 ⟨rfl, rfl⟩
  go_wp2_with fail
  refine (C5.out _).mono ?_
  rintro e w1 ⟨rfl, rfl⟩
  go_wp2_with fail
  refine (C11.out _).mono ?_
  rintro e w1 ⟨rfl, rfl⟩
  go_wp2_with fail
  refine (C9.out _).mono ?_
  rintro e w1 ⟨rfl, rfl⟩
  go_wp2_with fail
  refine (C12.out _).mono ?_
  rintro e w1 ⟨rfl, rfl⟩
  go_wp2_with fail
  refine (lives_yes _).mono ?_
  rintro e w1 ⟨rfl, s1⟩
  go_wp2_with fail
  go_ret
  exact ⟨rfl, s1⟩
end Go.Proofs.Ytammhjkdjkgpdaa
