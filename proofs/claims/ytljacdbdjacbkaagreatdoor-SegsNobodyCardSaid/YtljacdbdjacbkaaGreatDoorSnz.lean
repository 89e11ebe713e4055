/- Contracts and facts, several texts in one. It proves no statement. -/
import Derived.Laws.BitsAllLaws
import Derived.Test.YtljacdbdjacbkaaGreatDoorSni

/- Plain facts on CRC-32: a register moved on, additive, never lost; a product in the field; sums of pieces; bursts. It names no program and proves no statement. -/

namespace Go.Proofs.YtljacdbdjacbkaaGreatDoor
set_option linter.unusedVariables false
set_option linter.unusedSimpArgs false

/-- The polynomial, the highest power's coefficient lowest. -/
def crcPoly : Nat := 3988292384
/-- The register one place on. -/
def nx (x : Nat) : Nat := x / 2 ^^^ (if x % 2 = 1 then crcPoly else 0)
/-- So many places on. -/
def nxs : Nat → Nat → Nat
  | 0, x => x
  | k + 1, x => nxs k (nx x)

theorem xor_half (x y : Nat) : (x ^^^ y) / 2 = x / 2 ^^^ y / 2 := by
  apply Nat.eq_of_testBit_eq
  intro i
  simp [Nat.testBit_div_two]
theorem xor_odd (x y : Nat) : (x ^^^ y) % 2 = (x % 2 + y % 2) % 2 := by
  have h := Nat.testBit_xor x y 0
  simp only [Nat.testBit_zero] at h
  rcases Nat.mod_two_eq_zero_or_one x with a | a <;> rcases Nat.mod_two_eq_zero_or_one y with b | b <;> rcases Nat.mod_two_eq_zero_or_one (x ^^^ y) with c | c <;> simp [a, b, c] at h ⊢
theorem xor4 (a b c d : Nat) : (a ^^^ b) ^^^ (c ^^^ d) = (a ^^^ c) ^^^ (b ^^^ d) := by
  rw [Nat.xor_assoc, Nat.xor_assoc, ← Nat.xor_assoc b c d, Nat.xor_comm b c, Nat.xor_assoc c b d]
theorem nx_xor (x y : Nat) : nx (x ^^^ y) = nx x ^^^ nx y := by
  unfold nx
  rw [xor_half, xor4]
  congr 1
  rw [xor_odd]
  rcases Nat.mod_two_eq_zero_or_one x with a | a <;> rcases Nat.mod_two_eq_zero_or_one y with b | b <;> simp [a, b]
theorem nx_zero : nx 0 = 0 := rfl
theorem nxs_zero (k : Nat) : nxs k 0 = 0 := by
  induction k with
  | zero => rfl
  | succ k ih => rw [nxs, nx_zero, ih]
theorem nxs_xor (k x y : Nat) : nxs k (x ^^^ y) = nxs k x ^^^ nxs k y := by
  induction k generalizing x y with
  | zero => rfl
  | succ k ih => rw [nxs, nxs, nxs, nx_xor, ih]
theorem nxs_add (j k x : Nat) : nxs (j + k) x = nxs k (nxs j x) := by
  induction j generalizing x with
  | zero => simp [nxs]
  | succ j ih => rw [show j + 1 + k = (j + k) + 1 by omega, nxs, nxs, ih]
theorem nxs_succ (k x : Nat) : nxs (k + 1) x = nx (nxs k x) := by rw [nxs_add k 1]; rfl
theorem nx_lt (x : Nat) (h : x < 2 ^ 32) : nx x < 2 ^ 32 := by
  unfold nx
  apply Nat.xor_lt_two_pow
  · omega
  · split <;> decide
theorem nxs_lt (k x : Nat) (h : x < 2 ^ 32) : nxs k x < 2 ^ 32 := by
  induction k generalizing x with
  | zero => exact h
  | succ k ih => exact ih _ (nx_lt x h)
/-- Nothing is lost: the register is nought only where it was. -/
theorem nx_ne (x : Nat) (h : x < 2 ^ 32) (h0 : x ≠ 0) : nx x ≠ 0 := by
  unfold nx
  intro e
  split at e
  · have e2 : x / 2 = crcPoly := by
      have := congrArg (· ^^^ crcPoly) e
      simpa [Nat.xor_assoc] using this
    unfold crcPoly at e2
    omega
  · rw [Nat.xor_zero] at e
    omega
theorem nxs_ne (k x : Nat) (h : x < 2 ^ 32) (h0 : x ≠ 0) : nxs k x ≠ 0 := by
  induction k generalizing x with
  | zero => exact h0
  | succ k ih => exact ih _ (nx_lt x h) (nx_ne x h h0)
theorem nx_two (k : Nat) : nx (2 ^ (k + 1)) = 2 ^ k := by
  unfold nx
  rw [Nat.pow_succ]
  simp
theorem nxs_two (k j : Nat) : nxs k (2 ^ (k + j)) = 2 ^ j := by
  induction k generalizing j with
  | zero => simp [nxs]
  | succ k ih => rw [nxs, show k + 1 + j = (k + j) + 1 by omega, nx_two, ih]

/-- One byte more. -/
def crcByte (x : Nat) (b : UInt8) : Nat := nxs 8 (x ^^^ b.toNat)
/-- The register behind bytes. -/
def crcRun (x : Nat) (l : List UInt8) : Nat := l.foldl crcByte x
theorem crcRun_nil (x : Nat) : crcRun x [] = x := rfl
theorem crcRun_cons (x : Nat) (b : UInt8) (l : List UInt8) : crcRun x (b :: l) = crcRun (crcByte x b) l := rfl
theorem crcRun_append (x : Nat) (a b : List UInt8) : crcRun x (a ++ b) = crcRun (crcRun x a) b := by simp [crcRun]
theorem crcRun_lt (x : Nat) (l : List UInt8) (h : x < 2 ^ 32) : crcRun x l < 2 ^ 32 := by
  induction l generalizing x with
  | nil => exact h
  | cons b l ih => exact ih _ (nxs_lt _ _ (Nat.xor_lt_two_pow h (by have := b.toNat_lt; omega)))
/-- What the register was is moved on; what the bytes add hangs on them alone. -/
theorem crcRun_split (x : Nat) (l : List UInt8) : crcRun x l = nxs (8 * l.length) x ^^^ crcRun 0 l := by
  induction l generalizing x with
  | nil => simp [crcRun, nxs]
  | cons b l ih =>
    rw [crcRun_cons, crcRun_cons, ih, ih (crcByte 0 b)]
    unfold crcByte
    rw [nxs_xor, nxs_xor (8 * l.length), Nat.zero_xor, List.length_cons, show 8 * (l.length + 1) = 8 + 8 * l.length by omega, nxs_add, Nat.xor_assoc]

/-- 32 ones. -/
def ones32 : Nat := 4294967295
def crcAdd (s : Nat) (l : List UInt8) : Nat := crcRun (s ^^^ ones32) l ^^^ ones32
def crcSum (l : List UInt8) : Nat := crcAdd 0 l
def crcShift (s n : Nat) : Nat := nxs (8 * n) s
theorem crcAdd_lt (s : Nat) (l : List UInt8) (h : s < 2 ^ 32) : crcAdd s l < 2 ^ 32 :=
  Nat.xor_lt_two_pow (crcRun_lt _ _ (Nat.xor_lt_two_pow h (by decide))) (by decide)
theorem crcShift_lt (s n : Nat) (h : s < 2 ^ 32) : crcShift s n < 2 ^ 32 := nxs_lt _ _ h
theorem crcAdd_append (s : Nat) (a b : List UInt8) : crcAdd s (a ++ b) = crcAdd (crcAdd s a) b := by
  unfold crcAdd
  rw [crcRun_append]
  congr 2
  rw [Nat.xor_assoc, Nat.xor_self, Nat.xor_zero]
theorem xor_cancel (a b : Nat) : a ^^^ b ^^^ b = a := by rw [Nat.xor_assoc, Nat.xor_self, Nat.xor_zero]
theorem crcAdd_join (s : Nat) (b : List UInt8) : crcAdd s b = crcShift s b.length ^^^ crcSum b := by
  unfold crcSum crcAdd crcShift
  rw [crcRun_split, crcRun_split (0 ^^^ ones32), Nat.zero_xor, nxs_xor]
  rw [Nat.xor_assoc, Nat.xor_assoc, Nat.xor_assoc]
theorem crcAdd_diff (s : Nat) (a b : List UInt8) (h : a.length = b.length) : crcAdd s a ^^^ crcAdd s b = crcRun 0 a ^^^ crcRun 0 b := by
  unfold crcAdd
  rw [crcRun_split, crcRun_split (s ^^^ ones32) b, h, xor4, Nat.xor_self, Nat.xor_zero, xor4, Nat.xor_self, Nat.zero_xor]

/-- Two rows of bytes put to one another. -/
def xorBytes (a b : List UInt8) : List UInt8 := List.zipWith (· ^^^ ·) a b
theorem crcRun_xor (a b : List UInt8) (h : a.length = b.length) (x y : Nat) : crcRun x a ^^^ crcRun y b = crcRun (x ^^^ y) (xorBytes a b) := by
  induction a generalizing b x y with
  | nil =>
    rcases b with _ | ⟨c, b⟩
    · rfl
    · simp at h
  | cons c a ih =>
    rcases b with _ | ⟨d, b⟩
    · simp at h
    · rw [crcRun_cons, crcRun_cons, ih b (by simpa using h)]
      show _ = crcRun (crcByte (x ^^^ y) (c ^^^ d)) (xorBytes a b)
      congr 1
      unfold crcByte
      rw [← nxs_xor, UInt8.toNat_xor, xor4]

/-- A row of bytes, bit by bit: the register's way is the same. -/
theorem crcByte_bits (x b k : Nat) (hk : k ≤ 8) (hb : b < 256) : nxs (k + 1) (x ^^^ b % 2 ^ (k + 1)) = nx (nxs k (x ^^^ b % 2 ^ k) ^^^ b / 2 ^ k % 2) := by
  have e : b % 2 ^ (k + 1) = b % 2 ^ k ^^^ (b / 2 ^ k % 2) * 2 ^ k := by
    rw [Nat.pow_succ, Nat.mod_mul, Nat.mul_comm (2 ^ k)]
    apply Nat.eq_of_testBit_eq
    intro i
    have h1 : (b % 2 ^ k + b / 2 ^ k % 2 * 2 ^ k) = (b / 2 ^ k % 2 * 2 ^ k) ||| b % 2 ^ k := by
      rw [nat_join k _ _ (by simp) (Nat.mod_lt _ (Nat.two_pow_pos k)), Nat.add_comm]
    rw [h1, Nat.testBit_or, Nat.testBit_xor, Nat.testBit_mul_two_pow, Nat.testBit_mod_two_pow]
    by_cases h : i < k
    · simp [h, show ¬ k ≤ i by omega]
    · simp [h]
  rw [nxs_succ, e, ← Nat.xor_assoc, nxs_xor k _ (b / 2 ^ k % 2 * 2 ^ k)]
  congr 2
  rcases Nat.mod_two_eq_zero_or_one (b / 2 ^ k) with h | h
  · rw [h]; simp [nxs_zero]
  · rw [h, Nat.one_mul]
    have := nxs_two k 0
    simpa using this

/-- The product, coefficient by coefficient, the first k of them. -/
def prodTo (a b : Nat) : Nat → Nat
  | 0 => 0
  | k + 1 => prodTo a b k ^^^ (if a.testBit (31 - k) = true then nxs k b else 0)
theorem prodTo_lt (a b k : Nat) (hb : b < 2 ^ 32) : prodTo a b k < 2 ^ 32 := by
  induction k with
  | zero => simp [prodTo]
  | succ k ih =>
    rw [prodTo]
    refine Nat.xor_lt_two_pow ih ?_
    split
    · exact nxs_lt _ _ hb
    · exact Nat.two_pow_pos 32
theorem prodTo_xor (a a' b k : Nat) : prodTo (a ^^^ a') b k = prodTo a b k ^^^ prodTo a' b k := by
  induction k with
  | zero => simp [prodTo]
  | succ k ih =>
    rw [prodTo, prodTo, prodTo, ih, xor4, Nat.testBit_xor]
    congr 1
    cases a.testBit (31 - k) <;> cases a'.testBit (31 - k) <;> simp
theorem prodTo_xor' (a b b' k : Nat) : prodTo a (b ^^^ b') k = prodTo a b k ^^^ prodTo a b' k := by
  induction k with
  | zero => simp [prodTo]
  | succ k ih =>
    rw [prodTo, prodTo, prodTo, ih, xor4, nxs_xor]
    congr 1
    cases a.testBit (31 - k) <;> simp
theorem prodTo_nx (a b k : Nat) : prodTo a (nx b) k = nx (prodTo a b k) := by
  induction k with
  | zero => simp [prodTo, nx_zero]
  | succ k ih =>
    rw [prodTo, prodTo, ih, nx_xor]
    congr 1
    cases a.testBit (31 - k)
    · simp [nx_zero]
    · simp only [if_true]
      rw [← nxs_succ]
      rfl
theorem prodTo_nxs (a b k j : Nat) : prodTo a (nxs j b) k = nxs j (prodTo a b k) := by
  induction j generalizing b with
  | zero => rfl
  | succ j ih => rw [nxs, ih, prodTo_nx, nxs]
/-- What is additive on both sides and agrees on the powers of two agrees. -/
theorem lin_ext (f g : Nat → Nat) (hf : ∀ x y, f (x ^^^ y) = f x ^^^ f y) (hg : ∀ x y, g (x ^^^ y) = g x ^^^ g y) (m : Nat) (h : ∀ j, j < m → f (2 ^ j) = g (2 ^ j)) :
    ∀ x, x < 2 ^ m → f x = g x := by
  have f0 : f 0 = 0 := by have := hf 0 0; simpa using this
  have g0 : g 0 = 0 := by have := hg 0 0; simpa using this
  induction m with
  | zero =>
    intro x hx
    obtain rfl : x = 0 := by simpa using hx
    rw [f0, g0]
  | succ m ih =>
    intro x hx
    have e : x = x % 2 ^ m ^^^ (x / 2 ^ m) * 2 ^ m := by
      apply Nat.eq_of_testBit_eq
      intro i
      rw [Nat.testBit_xor, Nat.testBit_mul_two_pow, Nat.testBit_mod_two_pow, Nat.testBit_div_two_pow]
      by_cases hi : i < m
      · simp [hi, show ¬ m ≤ i by omega]
      · simp [hi, show i - m + m = i by omega, show m ≤ i by omega]
    have hd : x / 2 ^ m < 2 := by
      rw [Nat.pow_succ] at hx
      exact Nat.div_lt_of_lt_mul hx
    have hi := ih (fun j hj => h j (Nat.lt_succ_of_lt hj)) (x % 2 ^ m) (Nat.mod_lt _ (Nat.two_pow_pos m))
    rw [congrArg f e, congrArg g e, hf, hg, hi]
    congr 1
    generalize x / 2 ^ m = q at hd
    clear e hi
    rcases (show q = 0 ∨ q = 1 by omega) with h0 | h0
    · rw [h0, Nat.zero_mul, f0, g0]
    · rw [h0, Nat.one_mul]
      exact h m (by omega)
/-- The one, as sums have it. -/
def crcOne : Nat := 2147483648
theorem nxs_one (k : Nat) (h : k ≤ 31) : nxs k crcOne = 2 ^ (31 - k) := by
  have := nxs_two k (31 - k)
  rw [show k + (31 - k) = 31 by omega] at this
  exact this
theorem prod_one (b : Nat) : prodTo crcOne b 32 = b := by
  have h : ∀ k, prodTo crcOne b (k + 1) = b := by
    intro k
    induction k with
    | zero => simp [prodTo, crcOne, nxs, show Nat.testBit 2147483648 31 = true from by decide]
    | succ k ih =>
      rw [prodTo, ih]
      have e : crcOne.testBit (31 - (k + 1)) = false := by
        unfold crcOne
        rw [show (2147483648 : Nat) = 2 ^ 31 by rfl, Nat.testBit_two_pow]
        simp; omega
      rw [e]
      simp
  exact h 31
theorem prod_one' (a : Nat) (h : a < 2 ^ 32) : prodTo a crcOne 32 = a := by
  refine lin_ext (fun a => prodTo a crcOne 32) (fun a => a) (fun x y => prodTo_xor x y _ _) (fun _ _ => rfl) 32 (fun j hj => ?_) a h
  have e : (2 : Nat) ^ j = nxs (31 - j) crcOne := by rw [nxs_one _ (by omega), show 31 - (31 - j) = j by omega]
  show prodTo (2 ^ j) crcOne 32 = 2 ^ j
  have hk : ∀ k, k ≤ 32 → prodTo (2 ^ j) crcOne k = if 31 - j < k then 2 ^ j else 0 := by
    intro k hk
    induction k with
    | zero => simp [prodTo]
    | succ k ih =>
      rw [prodTo, ih (by omega), Nat.testBit_two_pow]
      by_cases c : 31 - j < k
      · simp [c, show 31 - j < k + 1 by omega, show ¬ j = 31 - k by omega]
      · by_cases d : 31 - j = k
        · have d2 : j = 31 - k := by omega
          rw [nxs_one k (by omega)]
          simp [d2, show 31 - (31 - k) = k by omega]
        · simp [c, show ¬ 31 - j < k + 1 by omega, show ¬ j = 31 - k by omega]
  rw [hk 32 (by omega), if_pos (by omega)]
theorem prod_poly (b : Nat) (h : b < 2 ^ 32) : prodTo crcPoly b 32 = nxs 32 b := by
  refine lin_ext (fun b => prodTo crcPoly b 32) (fun b => nxs 32 b) (fun x y => prodTo_xor' _ x y _) (fun x y => nxs_xor 32 x y) 32 (fun j hj => ?_) b h
  have e : (2 : Nat) ^ j = nxs (31 - j) crcOne := by rw [nxs_one _ (by omega), show 31 - (31 - j) = j by omega]
  show prodTo crcPoly (2 ^ j) 32 = nxs 32 (2 ^ j)
  rw [e, prodTo_nxs, prod_one' crcPoly (by decide), ← nxs_add, Nat.add_comm, nxs_add]
  congr 1
theorem prod_half (a b k : Nat) (ha : a < 2 ^ 32) (hk : k ≤ 31) : prodTo (a / 2) b (k + 1) = nx (prodTo a b k) := by
  induction k with
  | zero =>
    rw [prodTo, prodTo, prodTo]
    have e : (a / 2).testBit (31 - 0) = false := by
      rw [Nat.testBit_div_two]
      exact Nat.testBit_lt_two_pow ha
    simp [e, nx_zero]
  | succ k ih =>
    rw [prodTo, ih (by omega), prodTo, nx_xor, Nat.testBit_div_two, show 31 - (k + 1) + 1 = 31 - k by omega]
    congr 1
    cases a.testBit (31 - k)
    · simp [nx_zero]
    · simp [nxs_succ]
theorem prod_nx (a b : Nat) (ha : a < 2 ^ 32) (hb : b < 2 ^ 32) : prodTo (nx a) b 32 = nx (prodTo a b 32) := by
  have h1 : prodTo (a / 2) b 32 = nx (prodTo a b 31) := prod_half a b 31 ha (Nat.le_refl _)
  have h2 : prodTo a b 32 = prodTo a b 31 ^^^ (if a.testBit 0 = true then nxs 31 b else 0) := rfl
  rw [h2, nx_xor, ← h1]
  unfold nx
  rw [prodTo_xor]
  congr 1
  rw [Nat.testBit_zero]
  rcases Nat.mod_two_eq_zero_or_one a with h | h
  · have : ∀ k, prodTo 0 b k = 0 := by
      intro k
      induction k with
      | zero => rfl
      | succ k ih => rw [prodTo, ih]; simp
    simp [h, this]
  · simp only [h, if_true, decide_true]
    rw [prod_poly b hb]
    exact nxs_succ 31 b
theorem prod_nxs (i b : Nat) (hb : b < 2 ^ 32) : prodTo (nxs i crcOne) b 32 = nxs i b := by
  induction i with
  | zero => exact prod_one b
  | succ i ih => rw [nxs_succ, prod_nx _ _ (nxs_lt _ _ (by decide)) hb, ih, nxs_succ]
theorem prod_shift (s n : Nat) (hs : s < 2 ^ 32) : prodTo s (nxs n crcOne) 32 = nxs n s := by
  rw [prodTo_nxs, prod_one' s hs]
end Go.Proofs.YtljacdbdjacbkaaGreatDoor

/- Contracts: the document's own answer for CRC-32. It proves no statement. -/



namespace Go.Proofs.YtljacdbdjacbkaaGreatDoor
open Go.RowKit
set_option linter.unusedVariables false
set_option linter.unusedSimpArgs false

theorem u32_poly (x : Nat) (hx : x < 4294967296) : bits BinOp.xor IntKind.u32 (x : Int) 3988292384 = ((x ^^^ crcPoly : Nat) : Int) := u32_xor_nat x crcPoly hx (by decide)
theorem u32_ones (x : Nat) (hx : x < 4294967296) : bits BinOp.xor IntKind.u32 (x : Int) 4294967295 = ((x ^^^ ones32 : Nat) : Int) := u32_xor_nat x ones32 hx (by decide)
theorem u32_low (x : Nat) (hx : x < 4294967296) : bits BinOp.and IntKind.u32 (x : Int) 1 = ((x % 2 : Nat) : Int) := by
  have h := u32_and_nat x 1 hx (by omega)
  rw [nat_mask1] at h
  exact h
theorem u8_low (x : Nat) (hx : x < 256) : bits BinOp.and IntKind.u8 (x : Int) 1 = ((x % 2 : Nat) : Int) := by
  have h := u8_and_nat x 1 hx (by omega)
  rw [nat_mask1] at h
  exact h
theorem int_half (x : Nat) : (x : Int) / 2 = ((x / 2 : Nat) : Int) := by simp
theorem nx_odd (x : Nat) (h : x % 2 = 1) : nx x = x / 2 ^^^ crcPoly := by simp [nx, h]
theorem nx_even (x : Nat) (h : x % 2 = 0) : nx x = x / 2 := by simp [nx, h]

/-- One bit, as it is told there. -/
theorem nx_bit (x d : Nat) (hd : d = 0 ∨ d = 1) : nx (x ^^^ d) = if x % 2 = d then x / 2 else x / 2 ^^^ crcPoly := by
  unfold nx
  rw [xor_half, xor_odd]
  rcases hd with rfl | rfl <;> rcases Nat.mod_two_eq_zero_or_one x with h | h <;> simp [h]

set_option maxHeartbeats 800000 in
theorem radd_any (s : Nat) (A : Option Addr) (n c : Nat) (l : List UInt8) (w : World) (B : Nat) (hs : s < 4294967296) (h : Reads w B A n l) (hn : n ≤ 9223372036854775807) :
    Calls Tryz.prog 152 #[.int .u32 s, .slice A n c] w fun e w' => e = .returned (.int .u32 (crcAdd s l : Nat)) ∧ w = w' := by
  have hl := h.1
  have hx0 := u32_ones s hs
  have hs0 : s ^^^ ones32 < 4294967296 := Nat.xor_lt_two_pow (n := 32) hs (by decide)
  have hrun : ∀ k, crcRun (s ^^^ ones32) (l.take k) < 4294967296 := fun k => crcRun_lt _ _ hs0
  have hfin := u32_ones (crcRun (s ^^^ ones32) l) (crcRun_lt _ _ hs0)
  have hadd : crcRun (s ^^^ ones32) l ^^^ ones32 = crcAdd s l := rfl
  rw [hadd] at hfin
  generalize crcAdd s l = R at hfin ⊢
  generalize s ^^^ ones32 = s0 at hx0 hs0 hrun hfin hadd
  have HR := Lib.hid hrun
  have HF := Lib.hid hfin
  clear hrun hfin hadd
  go_enter Tryz.func152, Tryz.ntmps152
  go_wp2_with fail
  go_loop [5, 6] (fun x i => ∃ k : Nat, k ≤ n ∧ i = .int .i64 k ∧ ∃ y : Nat, x = .int .u32 y ∧ Hid (y = crcRun s0 (l.take k))) (fun _ i => n - (intOf i).toNat)
  case atStart => exact ⟨0, Nat.zero_le _, rfl, s0, rfl, rfl⟩
  case round =>
    obtain ⟨k, hk, rfl, y, rfl, hy⟩ := hrel
    by_cases hlt : k < n
    · obtain ⟨b, o, rfl, hb, hc⟩ := h.at_ (by omega)
      have c1 := hc k hlt
      obtain ⟨d, hd⟩ : ∃ d, d = (l.getD k 0).toNat := ⟨_, rfl⟩
      rw [← hd] at c1
      have hd' : d < 256 := by rw [hd]; exact (l.getD k 0).toNat_lt
      have hyb : y < 4294967296 := by rw [hy.out]; exact HR.out k
      have HD := Lib.hid hd
      clear hc hd
      go_wp2_with fail
      go_loop [5, 7] (fun x i => ∃ j : Nat, j ≤ 8 ∧ i = .int .u64 j ∧ ∃ z : Nat, x = .int .u32 z ∧ z < 4294967296 ∧ Hid (z = nxs j (y ^^^ d % 2 ^ j))) (fun _ i => 8 - (intOf i).toNat)
      case atStart => exact ⟨0, Nat.zero_le _, rfl, y, rfl, hyb, by simp [Hid, nxs, Nat.mod_one]⟩
      case round =>
        obtain ⟨j, hj, rfl, z, rfl, hzb, hz⟩ := hrel
        by_cases hj8 : j < 8
        · have hbit := crcByte_bits y d j hj hd'
          rw [← hz.out, nx_bit z _ (Nat.mod_two_eq_zero_or_one _)] at hbit
          have e1 := u32_low z hzb
          have e2 := int_half z
          have e3 : ((d : Int) / 2 ^ j) = ((d / 2 ^ j : Nat) : Int) := by simp
          have e4 := u8_low (d / 2 ^ j) (Nat.lt_of_le_of_lt (Nat.div_le_self _ _) hd')
          have e5 := u32_poly (z / 2) (by omega)
          have hz2 : z / 2 < 4294967296 := by omega
          have hz3 : z / 2 ^^^ crcPoly < 4294967296 := Nat.xor_lt_two_pow (n := 32) hz2 (by decide)
          have b1 : z % 2 < 2 := by omega
          have b2 : d / 2 ^ j % 2 < 2 := by omega
          generalize d / 2 ^ j % 2 = q at hbit e4 b2
          generalize d / 2 ^ j = q2 at e3 e4
          generalize z % 2 = p at hbit e1 b1
          generalize z / 2 = z2 at hbit e2 e5 hz2 hz3
          generalize z2 ^^^ crcPoly = z3 at hbit e5 hz3
          have HB := Lib.hid hbit
          clear hbit
          by_cases hpq : p = q
          · subst hpq
            go_wp2_with fail
            go_round
            case rel => exact ⟨j + 1, by omega, by go_num, z2, rfl, hz2, by have := HB.out; rw [if_pos rfl] at this; exact this.symm⟩
            case measure => simp [intOf]; omega
          · have hne : ((p : Int) != (q : Int)) = true := by rw [bne_iff_ne]; omega
            go_wp2_with fail
            go_round
            case rel => exact ⟨j + 1, by omega, by go_num, z3, rfl, hz3, by have := HB.out; rw [if_neg hpq] at this; exact this.symm⟩
            case measure => simp [intOf]; omega
        · obtain rfl : j = 8 := by omega
          go_wp2_with fail
          go_round
          case rel =>
            refine ⟨k + 1, by omega, by go_num, z, rfl, ?_⟩
            show _ = _
            have e : l.take (k + 1) = l.take k ++ [l.getD k 0] := by
              rw [List.take_add_one]; simp [List.getD, show k < l.length by omega]
            rw [e, crcRun_append, ← hy.out, hz.out, Nat.mod_eq_of_lt (show d < 2 ^ 8 from hd'), HD.out]
            rfl
          case measure => simp [intOf]; omega
    · obtain rfl : k = n := by omega
      have e := hy.out
      rw [List.take_of_length_le (by omega)] at e
      have f := HF.out
      rw [← e] at f
      clear e hy
      go_wp2_with fail
      go_ret
      exact ⟨rfl, rfl⟩

theorem u32_xor_cast (x y : Nat) (hx : x < 4294967296) (hy : y < 4294967296) : bits BinOp.xor IntKind.u32 (x : Int) (y : Int) = ((x ^^^ y : Nat) : Int) := u32_xor_nat x y hx hy

end Go.Proofs.YtljacdbdjacbkaaGreatDoor
