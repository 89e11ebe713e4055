/- Plain facts on numbers: turning, flipping, masks, bit by bit. It names no program and proves no statement. -/
import Derived.Laws.BitsAllLaws
import Derived.Laws.BitsLemmas
namespace Go.Proofs.Ytjihnagoebhinaa
set_option linter.unusedVariables false
set_option linter.unusedSimpArgs false

theorem bit_high (b x j : Nat) (hx : x < 2 ^ b) (hj : b ≤ j) : x.testBit j = false :=
  Nat.testBit_lt_two_pow (Nat.lt_of_lt_of_le hx (Nat.pow_le_pow_right (by omega) hj))
theorem eq_of_bits (b x y : Nat) (hx : x < 2 ^ b) (hy : y < 2 ^ b) (h : ∀ j, j < b → x.testBit j = y.testBit j) : x = y := by
  apply Nat.eq_of_testBit_eq
  intro j
  by_cases hj : j < b
  · exact h j hj
  · rw [bit_high b x j hx (by omega), bit_high b y j hy (by omega)]

/-- x turned to the left by s places, of b bits. -/
def rotl (b x s : Nat) : Nat := (x * 2 ^ s % 2 ^ b) ||| (x / 2 ^ (b - s))
theorem rotl_lt (b x s : Nat) (hx : x < 2 ^ b) : rotl b x s < 2 ^ b :=
  Nat.or_lt_two_pow (Nat.mod_lt _ (Nat.two_pow_pos b)) (Nat.lt_of_le_of_lt (Nat.div_le_self _ _) hx)
theorem rot_cast64 (x s : Nat) (hx : x < 18446744073709551616) (hs : s < 64) :
    bits BinOp.or IntKind.u64 (IntKind.u64.wrap (↑x * 2 ^ s)) (↑x / 2 ^ (64 - s)) = ((rotl 64 x s : Nat) : Int) := by
  have e1 : IntKind.u64.wrap ((x : Int) * 2 ^ s) = ((x * 2 ^ s % 2 ^ 64 : Nat) : Int) := by rw [IntKind.wrap_u64]; simp
  have e2 : ((x : Int) / 2 ^ (64 - s)) = ((x / 2 ^ (64 - s) : Nat) : Int) := by simp
  rw [e1, e2, u64_or_nat _ _ (Nat.mod_lt _ (by omega)) (Nat.lt_of_le_of_lt (Nat.div_le_self _ _) hx)]
  rfl
theorem rot_cast32 (x s : Nat) (hx : x < 4294967296) (hs : s < 32) :
    bits BinOp.or IntKind.u32 ((↑x * 2 ^ s) % 4294967296) (↑x / 2 ^ (32 - s)) = ((rotl 32 x s : Nat) : Int) := by
  have e1 : ((x : Int) * 2 ^ s) % 4294967296 = ((x * 2 ^ s % 2 ^ 32 : Nat) : Int) := by simp
  have e2 : ((x : Int) / 2 ^ (32 - s)) = ((x / 2 ^ (32 - s) : Nat) : Int) := by simp
  rw [e1, e2, u32_or_nat _ _ (Nat.mod_lt _ (by omega)) (Nat.lt_of_le_of_lt (Nat.div_le_self _ _) hx)]
  rfl

theorem rotl_bit (b x s j : Nat) (hx : x < 2 ^ b) (hs : s < b) (hj : j < b) : (rotl b x s).testBit j = x.testBit ((j + (b - s)) % b) := by
  unfold rotl
  rw [Nat.testBit_or, Nat.testBit_mod_two_pow, Nat.testBit_mul_two_pow, Nat.testBit_div_two_pow]
  by_cases h : s ≤ j
  · rw [bit_high b x (j + (b - s)) hx (by omega), show j + (b - s) = (j - s) + b by omega, Nat.add_mod_right, Nat.mod_eq_of_lt (by omega)]
    simp [hj, h]
  · rw [Nat.mod_eq_of_lt (by omega)]
    simp [h]
theorem rotl_add64 (x s t : Nat) (hx : x < 2 ^ 64) (hs : s < 64) (ht : t < 64) : rotl 64 (rotl 64 x s) t = rotl 64 x ((s + t) % 64) := by
  have h1 := rotl_lt 64 x s hx
  refine eq_of_bits 64 _ _ (rotl_lt _ _ _ h1) (rotl_lt _ _ _ hx) fun j hj => ?_
  rw [rotl_bit 64 _ t j h1 ht hj, rotl_bit 64 x s _ hx hs (by omega), rotl_bit 64 x _ j hx (by omega) hj]
  congr 1
  omega
theorem rotl_add32 (x s t : Nat) (hx : x < 2 ^ 32) (hs : s < 32) (ht : t < 32) : rotl 32 (rotl 32 x s) t = rotl 32 x ((s + t) % 32) := by
  have h1 := rotl_lt 32 x s hx
  refine eq_of_bits 32 _ _ (rotl_lt _ _ _ h1) (rotl_lt _ _ _ hx) fun j hj => ?_
  rw [rotl_bit 32 _ t j h1 ht hj, rotl_bit 32 x s _ hx hs (by omega), rotl_bit 32 x _ j hx (by omega) hj]
  congr 1
  omega
theorem rotl_zero (b x : Nat) (hx : x < 2 ^ b) (hb : 0 < b) : rotl b x 0 = x := by
  refine eq_of_bits b _ _ (rotl_lt _ _ _ hx) hx fun j hj => ?_
  rw [rotl_bit b x 0 j hx hb hj]
  simp [Nat.mod_eq_of_lt hj]

/-- The first k bits of x, the other way round. -/
def flipTo (x : Nat) : Nat → Nat
  | 0 => 0
  | k + 1 => flipTo x k * 2 + x / 2 ^ k % 2
theorem flipTo_lt (x k : Nat) : flipTo x k < 2 ^ k := by
  induction k with
  | zero => simp [flipTo]
  | succ k ih => rw [flipTo, Nat.pow_succ]; omega
theorem flipTo_bit (x k j : Nat) (hj : j < k) : (flipTo x k).testBit j = x.testBit (k - 1 - j) := by
  induction k generalizing j with
  | zero => omega
  | succ k ih =>
    rw [flipTo]
    match j with
    | 0 =>
      rw [Nat.testBit_zero, Nat.testBit_eq_decide_div_mod_eq]
      simp only [Nat.add_sub_cancel, Nat.sub_zero]
      congr 1
      rw [Nat.add_mod, Nat.mul_mod_left]
      simp
    | j + 1 =>
      rw [Nat.testBit_succ, show (flipTo x k * 2 + x / 2 ^ k % 2) / 2 = flipTo x k by omega, ih j (by omega)]
      congr 1
      omega
theorem flipTo_flip (x : Nat) (hx : x < 2 ^ 32) : flipTo (flipTo x 32) 32 = x := by
  refine eq_of_bits 32 _ _ (flipTo_lt _ _) hx fun j hj => ?_
  rw [flipTo_bit _ 32 j hj, flipTo_bit _ 32 _ (by omega)]
  congr 1
  omega
theorem flipTo_rotl (x s : Nat) (hx : x < 2 ^ 32) (hs : s < 32) : flipTo (rotl 32 x s) 32 = rotl 32 (flipTo x 32) ((32 - s) % 32) := by
  have h1 := flipTo_lt x 32
  refine eq_of_bits 32 _ _ (flipTo_lt _ _) (rotl_lt _ _ _ h1) fun j hj => ?_
  rw [flipTo_bit _ 32 j hj, rotl_bit 32 x s _ hx hs (by omega), rotl_bit 32 _ _ j h1 (by omega) hj, flipTo_bit _ 32 _ (by omega)]
  congr 1
  omega

/-- One step of a flip: places exchanged by p = 2 ^ s under a mask. -/
def stepN (p m x : Nat) : Nat := (x / p &&& m) ||| ((x &&& m) * p % 4294967296)
theorem stepN_lt (p m x : Nat) (hx : x < 2 ^ 32) : stepN p m x < 2 ^ 32 :=
  Nat.or_lt_two_pow (Nat.lt_of_le_of_lt Nat.and_le_left (Nat.lt_of_le_of_lt (Nat.div_le_self _ _) hx)) (Nat.mod_lt _ (by omega))
def stepIx (s m j : Nat) : Nat := if m.testBit j then j + s else j - s
theorem stepN_bit (s m x j : Nat) (hj : j < 32) (h1 : m.testBit j = true → ¬ (s ≤ j ∧ m.testBit (j - s) = true)) (h2 : m.testBit j = false → s ≤ j ∧ m.testBit (j - s) = true) :
    (stepN (2 ^ s) m x).testBit j = x.testBit (stepIx s m j) := by
  unfold stepN stepIx
  rw [Nat.testBit_or, Nat.testBit_and, Nat.testBit_div_two_pow, show (4294967296 : Nat) = 2 ^ 32 by rfl, Nat.testBit_mod_two_pow, Nat.testBit_mul_two_pow, Nat.testBit_and]
  cases hm : m.testBit j
  · obtain ⟨a, b⟩ := h2 hm
    simp [hj, a, b]
  · have h := h1 hm
    by_cases a : s ≤ j
    · have b : m.testBit (j - s) = false := by simpa [a] using h
      simp [a, b, Nat.add_comm]
    · simp [a, Nat.add_comm]
/-- The five steps of a flip of 32 bits. -/
def revN (x : Nat) : Nat :=
  rotl 32 (stepN 256 16711935 (stepN 16 252645135 (stepN 4 858993459 (stepN 2 1431655765 x)))) 16
theorem revN_eq (x : Nat) (hx : x < 2 ^ 32) : revN x = flipTo x 32 := by
  have l1 := stepN_lt 2 1431655765 x hx
  have l2 := stepN_lt 4 858993459 _ l1
  have l3 := stepN_lt 16 252645135 _ l2
  have l4 := stepN_lt 256 16711935 _ l3
  refine eq_of_bits 32 _ _ (rotl_lt _ _ _ l4) (flipTo_lt _ _) fun j hj => ?_
  have d1 : ∀ j, j < 32 → (((1431655765 : Nat).testBit j = true → ¬ (1 ≤ j ∧ (1431655765 : Nat).testBit (j - 1) = true)) ∧ ((1431655765 : Nat).testBit j = false → 1 ≤ j ∧ (1431655765 : Nat).testBit (j - 1) = true) ∧ stepIx 1 1431655765 j < 32) := by decide
  have d2 : ∀ j, j < 32 → (((858993459 : Nat).testBit j = true → ¬ (2 ≤ j ∧ (858993459 : Nat).testBit (j - 2) = true)) ∧ ((858993459 : Nat).testBit j = false → 2 ≤ j ∧ (858993459 : Nat).testBit (j - 2) = true) ∧ stepIx 2 858993459 j < 32) := by decide
  have d3 : ∀ j, j < 32 → (((252645135 : Nat).testBit j = true → ¬ (4 ≤ j ∧ (252645135 : Nat).testBit (j - 4) = true)) ∧ ((252645135 : Nat).testBit j = false → 4 ≤ j ∧ (252645135 : Nat).testBit (j - 4) = true) ∧ stepIx 4 252645135 j < 32) := by decide
  have d4 : ∀ j, j < 32 → (((16711935 : Nat).testBit j = true → ¬ (8 ≤ j ∧ (16711935 : Nat).testBit (j - 8) = true)) ∧ ((16711935 : Nat).testBit j = false → 8 ≤ j ∧ (16711935 : Nat).testBit (j - 8) = true) ∧ stepIx 8 16711935 j < 32) := by decide
  have d5 : ∀ j, j < 32 → stepIx 1 1431655765 (stepIx 2 858993459 (stepIx 4 252645135 (stepIx 8 16711935 ((j + (32 - 16)) % 32)))) = 32 - 1 - j := by decide
  unfold revN
  have e5 : (j + (32 - 16)) % 32 < 32 := by omega
  obtain ⟨a4, b4, c4⟩ := d4 _ e5
  obtain ⟨a3, b3, c3⟩ := d3 _ c4
  obtain ⟨a2, b2, c2⟩ := d2 _ c3
  obtain ⟨a1, b1, c1⟩ := d1 _ c2
  rw [rotl_bit 32 _ 16 j l4 (by omega) hj]
  have s4 := stepN_bit 8 16711935 (stepN 16 252645135 (stepN 4 858993459 (stepN 2 1431655765 x))) _ e5 a4 b4
  have s3 := stepN_bit 4 252645135 (stepN 4 858993459 (stepN 2 1431655765 x)) _ c4 a3 b3
  have s2 := stepN_bit 2 858993459 (stepN 2 1431655765 x) _ c3 a2 b2
  have s1 := stepN_bit 1 1431655765 x _ c2 a1 b1
  rw [show (2 : Nat) ^ 8 = 256 by rfl] at s4
  rw [show (2 : Nat) ^ 4 = 16 by rfl] at s3
  rw [show (2 : Nat) ^ 2 = 4 by rfl] at s2
  rw [show (2 : Nat) ^ 1 = 2 by rfl] at s1
  rw [s4, s3, s2, s1, d5 j hj, flipTo_bit _ 32 j hj]
theorem turn_ix (b j k s : Nat) (hj : j < b) (hk : k < b) (hs : s < b) : (k + s) % b = j ↔ (j + (b - s)) % b = k := by
  have e1 : (k + s) % b = if k + s < b then k + s else k + s - b := by
    split
    · exact Nat.mod_eq_of_lt (by omega)
    · rw [Nat.mod_eq_sub_mod (by omega), Nat.mod_eq_of_lt (by omega)]
  have e2 : (j + (b - s)) % b = if j + (b - s) < b then j + (b - s) else j + (b - s) - b := by
    split
    · exact Nat.mod_eq_of_lt (by omega)
    · rw [Nat.mod_eq_sub_mod (by omega), Nat.mod_eq_of_lt (by omega)]
  rw [e1, e2]
  split <;> split <;> omega
/-- The first k bits of x, each brought to its place. -/
def turnTo (b x s : Nat) : Nat → Nat
  | 0 => 0
  | k + 1 => turnTo b x s k ||| (x / 2 ^ k % 2) * 2 ^ ((k + s) % b)
theorem turnTo_bit (b x s k j : Nat) (hs : s < b) (hj : j < b) (hk : k ≤ b) : (turnTo b x s k).testBit j = (decide ((j + (b - s)) % b < k) && x.testBit ((j + (b - s)) % b)) := by
  induction k with
  | zero => simp [turnTo]
  | succ k ih =>
    rw [turnTo, Nat.testBit_or, ih (by omega), Nat.testBit_mul_two_pow]
    have hix := turn_ix b j k s hj (by omega) hs
    by_cases h : (k + s) % b = j
    · rw [hix.1 h, h]
      have e : (x / 2 ^ k % 2).testBit 0 = x.testBit k := by
        rw [Nat.testBit_zero, Nat.testBit_eq_decide_div_mod_eq]
        simp
      simp [e]
    · have h2 : ¬ (j + (b - s)) % b = k := fun e => h (hix.2 e)
      have e : (decide ((k + s) % b ≤ j) && (x / 2 ^ k % 2).testBit (j - (k + s) % b)) = false := by
        by_cases h3 : (k + s) % b ≤ j
        · have h4 : (x / 2 ^ k % 2).testBit (j - (k + s) % b) = false := bit_high 1 _ _ (by omega) (by omega)
          simp [h4]
        · simp [h3]
      rw [e, Bool.or_false]
      congr 1
      by_cases h5 : (j + (b - s)) % b < k
      · simp [h5, show (j + (b - s)) % b < k + 1 by omega]
      · simp [h5, show ¬ (j + (b - s)) % b < k + 1 by omega]
theorem turnTo_lt (b x s k : Nat) (hb : 0 < b) : turnTo b x s k < 2 ^ b := by
  induction k with
  | zero => simp [turnTo, Nat.two_pow_pos]
  | succ k ih =>
    rw [turnTo]
    refine Nat.or_lt_two_pow ih ?_
    have h1 : (k + s) % b < b := Nat.mod_lt _ hb
    have h2 : x / 2 ^ k % 2 ≤ 1 := by omega
    refine Nat.lt_of_le_of_lt (Nat.mul_le_mul_right _ h2) ?_
    rw [Nat.one_mul]
    exact Nat.pow_lt_pow_right (by omega) h1
theorem turnTo_all (b x s : Nat) (hx : x < 2 ^ b) (hs : s < b) : turnTo b x s b = rotl b x s := by
  refine eq_of_bits b _ _ (turnTo_lt _ _ _ _ (by omega)) (rotl_lt _ _ _ hx) fun j hj => ?_
  rw [turnTo_bit b x s b j hs hj (Nat.le_refl _), rotl_bit b x s j hx hs hj]
  simp [Nat.mod_lt _ (show 0 < b by omega)]

end Go.Proofs.Ytjihnagoebhinaa
