/- Contracts and facts, several texts in one. It proves no statement. -/
import Derived.Laws.BitsAllLaws
import Derived.Test.YtfneloobfidckaaGreatDoorSf06
import Derived.Deep.LoopGhost
import Derived.Lib.LaidTab
import Derived.BigQuiet
import Derived.Laws.Bits128
import Derived.BigFrame
import Derived.LaidMore
import Derived.Stop.Joined
import Derived.Stop.LaidErr

/- Plain facts on CRC-32: a register moved on, additive, never lost; a product in the field; sums of pieces; bursts. It names no program and proves no statement. -/

namespace Go.Proofs.YtfneloobfidckaaGreatDoor
set_option linter.unusedVariables false
set_option linter.unusedSimpArgs false

/-- The polynomial, the highest power's coefficient lowest. -/
def crcPoly : Nat := 3988292384
/-- The register one place on. -/
def nx (x : Nat) : Nat := x / 2 ^^^ (if x % 2 = 1 then crcPoly else 0)
/-- So many places on. -/
def nxs : Nat → Nat → Nat
  | 0, x => x
  | k + 1, x => nxs k (nx x)

theorem xor_half (x y : Nat) : (x ^^^ y) / 2 = x / 2 ^^^ y / 2 := by
  apply Nat.eq_of_testBit_eq
  intro i
  simp [Nat.testBit_div_two]
theorem xor_odd (x y : Nat) : (x ^^^ y) % 2 = (x % 2 + y % 2) % 2 := by
  have h := Nat.testBit_xor x y 0
  simp only [Nat.testBit_zero] at h
  rcases Nat.mod_two_eq_zero_or_one x with a | a <;> rcases Nat.mod_two_eq_zero_or_one y with b | b <;> rcases Nat.mod_two_eq_zero_or_one (x ^^^ y) with c | c <;> simp [a, b, c] at h ⊢
theorem xor4 (a b c d : Nat) : (a ^^^ b) ^^^ (c ^^^ d) = (a ^^^ c) ^^^ (b ^^^ d) := by
  rw [Nat.xor_assoc, Nat.xor_assoc, ← Nat.xor_assoc b c d, Nat.xor_comm b c, Nat.xor_assoc c b d]
theorem nx_xor (x y : Nat) : nx (x ^^^ y) = nx x ^^^ nx y := by
  unfold nx
  rw [xor_half, xor4]
  congr 1
  rw [xor_odd]
  rcases Nat.mod_two_eq_zero_or_one x with a | a <;> rcases Nat.mod_two_eq_zero_or_one y with b | b <;> simp [a, b]
theorem nx_zero : nx 0 = 0 := rfl
theorem nxs_zero (k : Nat) : nxs k 0 = 0 := by
  induction k with
  | zero => rfl
  | succ k ih => rw [nxs, nx_zero, ih]
theorem nxs_xor (k x y : Nat) : nxs k (x ^^^ y) = nxs k x ^^^ nxs k y := by
  induction k generalizing x y with
  | zero => rfl
  | succ k ih => rw [nxs, nxs, nxs, nx_xor, ih]
theorem nxs_add (j k x : Nat) : nxs (j + k) x = nxs k (nxs j x) := by
  induction j generalizing x with
  | zero => simp [nxs]
  | succ j ih => rw [show j + 1 + k = (j + k) + 1 by omega, nxs, nxs, ih]
theorem nxs_succ (k x : Nat) : nxs (k + 1) x = nx (nxs k x) := by rw [nxs_add k 1]; rfl
theorem nx_lt (x : Nat) (h : x < 2 ^ 32) : nx x < 2 ^ 32 := by
  unfold nx
  apply Nat.xor_lt_two_pow
  · omega
  · split <;> decide
theorem nxs_lt (k x : Nat) (h : x < 2 ^ 32) : nxs k x < 2 ^ 32 := by
  induction k generalizing x with
  | zero => exact h
  | succ k ih => exact ih _ (nx_lt x h)
/-- Nothing is lost: the register is nought only where it was. -/
theorem nx_ne (x : Nat) (h : x < 2 ^ 32) (h0 : x ≠ 0) : nx x ≠ 0 := by
  unfold nx
  intro e
  split at e
  · have e2 : x / 2 = crcPoly := by
      have := congrArg (· ^^^ crcPoly) e
      simpa [Nat.xor_assoc] using this
    unfold crcPoly at e2
    omega
  · rw [Nat.xor_zero] at e
    omega
theorem nxs_ne (k x : Nat) (h : x < 2 ^ 32) (h0 : x ≠ 0) : nxs k x ≠ 0 := by
  induction k generalizing x with
  | zero => exact h0
  | succ k ih => exact ih _ (nx_lt x h) (nx_ne x h h0)
theorem nx_two (k : Nat) : nx (2 ^ (k + 1)) = 2 ^ k := by
  unfold nx
  rw [Nat.pow_succ]
  simp
theorem nxs_two (k j : Nat) : nxs k (2 ^ (k + j)) = 2 ^ j := by
  induction k generalizing j with
  | zero => simp [nxs]
  | succ k ih => rw [nxs, show k + 1 + j = (k + j) + 1 by omega, nx_two, ih]

/-- One byte more. -/
def crcByte (x : Nat) (b : UInt8) : Nat := nxs 8 (x ^^^ b.toNat)
/-- The register behind bytes. -/
def crcRun (x : Nat) (l : List UInt8) : Nat := l.foldl crcByte x
theorem crcRun_nil (x : Nat) : crcRun x [] = x := rfl
theorem crcRun_cons (x : Nat) (b : UInt8) (l : List UInt8) : crcRun x (b :: l) = crcRun (crcByte x b) l := rfl
theorem crcRun_append (x : Nat) (a b : List UInt8) : crcRun x (a ++ b) = crcRun (crcRun x a) b := by simp [crcRun]
theorem crcRun_lt (x : Nat) (l : List UInt8) (h : x < 2 ^ 32) : crcRun x l < 2 ^ 32 := by
  induction l generalizing x with
  | nil => exact h
  | cons b l ih => exact ih _ (nxs_lt _ _ (Nat.xor_lt_two_pow h (by have := b.toNat_lt; omega)))
/-- What the register was is moved on; what the bytes add hangs on them alone. -/
theorem crcRun_split (x : Nat) (l : List UInt8) : crcRun x l = nxs (8 * l.length) x ^^^ crcRun 0 l := by
  induction l generalizing x with
  | nil => simp [crcRun, nxs]
  | cons b l ih =>
    rw [crcRun_cons, crcRun_cons, ih, ih (crcByte 0 b)]
    unfold crcByte
    rw [nxs_xor, nxs_xor (8 * l.length), Nat.zero_xor, List.length_cons, show 8 * (l.length + 1) = 8 + 8 * l.length by omega, nxs_add, Nat.xor_assoc]

/-- 32 ones. -/
def ones32 : Nat := 4294967295
def crcAdd (s : Nat) (l : List UInt8) : Nat := crcRun (s ^^^ ones32) l ^^^ ones32
def crcSum (l : List UInt8) : Nat := crcAdd 0 l
def crcShift (s n : Nat) : Nat := nxs (8 * n) s
theorem crcAdd_lt (s : Nat) (l : List UInt8) (h : s < 2 ^ 32) : crcAdd s l < 2 ^ 32 :=
  Nat.xor_lt_two_pow (crcRun_lt _ _ (Nat.xor_lt_two_pow h (by decide))) (by decide)
theorem crcShift_lt (s n : Nat) (h : s < 2 ^ 32) : crcShift s n < 2 ^ 32 := nxs_lt _ _ h
theorem crcAdd_append (s : Nat) (a b : List UInt8) : crcAdd s (a ++ b) = crcAdd (crcAdd s a) b := by
  unfold crcAdd
  rw [crcRun_append]
  congr 2
  rw [Nat.xor_assoc, Nat.xor_self, Nat.xor_zero]
theorem xor_cancel (a b : Nat) : a ^^^ b ^^^ b = a := by rw [Nat.xor_assoc, Nat.xor_self, Nat.xor_zero]
theorem crcAdd_join (s : Nat) (b : List UInt8) : crcAdd s b = crcShift s b.length ^^^ crcSum b := by
  unfold crcSum crcAdd crcShift
  rw [crcRun_split, crcRun_split (0 ^^^ ones32), Nat.zero_xor, nxs_xor]
  rw [Nat.xor_assoc, Nat.xor_assoc, Nat.xor_assoc]
theorem crcAdd_diff (s : Nat) (a b : List UInt8) (h : a.length = b.length) : crcAdd s a ^^^ crcAdd s b = crcRun 0 a ^^^ crcRun 0 b := by
  unfold crcAdd
  rw [crcRun_split, crcRun_split (s ^^^ ones32) b, h, xor4, Nat.xor_self, Nat.xor_zero, xor4, Nat.xor_self, Nat.zero_xor]

/-- Two rows of bytes put to one another. -/
def xorBytes (a b : List UInt8) : List UInt8 := List.zipWith (· ^^^ ·) a b
theorem crcRun_xor (a b : List UInt8) (h : a.length = b.length) (x y : Nat) : crcRun x a ^^^ crcRun y b = crcRun (x ^^^ y) (xorBytes a b) := by
  induction a generalizing b x y with
  | nil =>
    rcases b with _ | ⟨c, b⟩
    · rfl
    · simp at h
  | cons c a ih =>
    rcases b with _ | ⟨d, b⟩
    · simp at h
    · rw [crcRun_cons, crcRun_cons, ih b (by simpa using h)]
      show _ = crcRun (crcByte (x ^^^ y) (c ^^^ d)) (xorBytes a b)
      congr 1
      unfold crcByte
      rw [← nxs_xor, UInt8.toNat_xor, xor4]

/-- A row of bytes, bit by bit: the register's way is the same. -/
theorem crcByte_bits (x b k : Nat) (hk : k ≤ 8) (hb : b < 256) : nxs (k + 1) (x ^^^ b % 2 ^ (k + 1)) = nx (nxs k (x ^^^ b % 2 ^ k) ^^^ b / 2 ^ k % 2) := by
  have e : b % 2 ^ (k + 1) = b % 2 ^ k ^^^ (b / 2 ^ k % 2) * 2 ^ k := by
    rw [Nat.pow_succ, Nat.mod_mul, Nat.mul_comm (2 ^ k)]
    apply Nat.eq_of_testBit_eq
    intro i
    have h1 : (b % 2 ^ k + b / 2 ^ k % 2 * 2 ^ k) = (b / 2 ^ k % 2 * 2 ^ k) ||| b % 2 ^ k := by
      rw [nat_join k _ _ (by simp) (Nat.mod_lt _ (Nat.two_pow_pos k)), Nat.add_comm]
    rw [h1, Nat.testBit_or, Nat.testBit_xor, Nat.testBit_mul_two_pow, Nat.testBit_mod_two_pow]
    by_cases h : i < k
    · simp [h, show ¬ k ≤ i by omega]
    · simp [h]
  rw [nxs_succ, e, ← Nat.xor_assoc, nxs_xor k _ (b / 2 ^ k % 2 * 2 ^ k)]
  congr 2
  rcases Nat.mod_two_eq_zero_or_one (b / 2 ^ k) with h | h
  · rw [h]; simp [nxs_zero]
  · rw [h, Nat.one_mul]
    have := nxs_two k 0
    simpa using this

/-- The product, coefficient by coefficient, the first k of them. -/
def prodTo (a b : Nat) : Nat → Nat
  | 0 => 0
  | k + 1 => prodTo a b k ^^^ (if a.testBit (31 - k) = true then nxs k b else 0)
theorem prodTo_lt (a b k : Nat) (hb : b < 2 ^ 32) : prodTo a b k < 2 ^ 32 := by
  induction k with
  | zero => simp [prodTo]
  | succ k ih =>
    rw [prodTo]
    refine Nat.xor_lt_two_pow ih ?_
    split
    · exact nxs_lt _ _ hb
    · exact Nat.two_pow_pos 32
theorem prodTo_xor (a a' b k : Nat) : prodTo (a ^^^ a') b k = prodTo a b k ^^^ prodTo a' b k := by
  induction k with
  | zero => simp [prodTo]
  | succ k ih =>
    rw [prodTo, prodTo, prodTo, ih, xor4, Nat.testBit_xor]
    congr 1
    cases a.testBit (31 - k) <;> cases a'.testBit (31 - k) <;> simp
theorem prodTo_xor' (a b b' k : Nat) : prodTo a (b ^^^ b') k = prodTo a b k ^^^ prodTo a b' k := by
  induction k with
  | zero => simp [prodTo]
  | succ k ih =>
    rw [prodTo, prodTo, prodTo, ih, xor4, nxs_xor]
    congr 1
    cases a.testBit (31 - k) <;> simp
theorem prodTo_nx (a b k : Nat) : prodTo a (nx b) k = nx (prodTo a b k) := by
  induction k with
  | zero => simp [prodTo, nx_zero]
  | succ k ih =>
    rw [prodTo, prodTo, ih, nx_xor]
    congr 1
    cases a.testBit (31 - k)
    · simp [nx_zero]
    · simp only [if_true]
      rw [← nxs_succ]
      rfl
theorem prodTo_nxs (a b k j : Nat) : prodTo a (nxs j b) k = nxs j (prodTo a b k) := by
  induction j generalizing b with
  | zero => rfl
  | succ j ih => rw [nxs, ih, prodTo_nx, nxs]
/-- What is additive on both sides and agrees on the powers of two agrees. -/
theorem lin_ext (f g : Nat → Nat) (hf : ∀ x y, f (x ^^^ y) = f x ^^^ f y) (hg : ∀ x y, g (x ^^^ y) = g x ^^^ g y) (m : Nat) (h : ∀ j, j < m → f (2 ^ j) = g (2 ^ j)) :
    ∀ x, x < 2 ^ m → f x = g x := by
  have f0 : f 0 = 0 := by have := hf 0 0; simpa using this
  have g0 : g 0 = 0 := by have := hg 0 0; simpa using this
  induction m with
  | zero =>
    intro x hx
    obtain rfl : x = 0 := by simpa using hx
    rw [f0, g0]
  | succ m ih =>
    intro x hx
    have e : x = x % 2 ^ m ^^^ (x / 2 ^ m) * 2 ^ m := by
      apply Nat.eq_of_testBit_eq
      intro i
      rw [Nat.testBit_xor, Nat.testBit_mul_two_pow, Nat.testBit_mod_two_pow, Nat.testBit_div_two_pow]
      by_cases hi : i < m
      · simp [hi, show ¬ m ≤ i by omega]
      · simp [hi, show i - m + m = i by omega, show m ≤ i by omega]
    have hd : x / 2 ^ m < 2 := by
      rw [Nat.pow_succ] at hx
      exact Nat.div_lt_of_lt_mul hx
    have hi := ih (fun j hj => h j (Nat.lt_succ_of_lt hj)) (x % 2 ^ m) (Nat.mod_lt _ (Nat.two_pow_pos m))
    rw [congrArg f e, congrArg g e, hf, hg, hi]
    congr 1
    generalize x / 2 ^ m = q at hd
    clear e hi
    rcases (show q = 0 ∨ q = 1 by omega) with h0 | h0
    · rw [h0, Nat.zero_mul, f0, g0]
    · rw [h0, Nat.one_mul]
      exact h m (by omega)
/-- The one, as sums have it. -/
def crcOne : Nat := 2147483648
theorem nxs_one (k : Nat) (h : k ≤ 31) : nxs k crcOne = 2 ^ (31 - k) := by
  have := nxs_two k (31 - k)
  rw [show k + (31 - k) = 31 by omega] at this
  exact this
theorem prod_one (b : Nat) : prodTo crcOne b 32 = b := by
  have h : ∀ k, prodTo crcOne b (k + 1) = b := by
    intro k
    induction k with
    | zero => simp [prodTo, crcOne, nxs, show Nat.testBit 2147483648 31 = true from by decide]
    | succ k ih =>
      rw [prodTo, ih]
      have e : crcOne.testBit (31 - (k + 1)) = false := by
        unfold crcOne
        rw [show (2147483648 : Nat) = 2 ^ 31 by rfl, Nat.testBit_two_pow]
        simp; omega
      rw [e]
      simp
  exact h 31
theorem prod_one' (a : Nat) (h : a < 2 ^ 32) : prodTo a crcOne 32 = a := by
  refine lin_ext (fun a => prodTo a crcOne 32) (fun a => a) (fun x y => prodTo_xor x y _ _) (fun _ _ => rfl) 32 (fun j hj => ?_) a h
  have e : (2 : Nat) ^ j = nxs (31 - j) crcOne := by rw [nxs_one _ (by omega), show 31 - (31 - j) = j by omega]
  show prodTo (2 ^ j) crcOne 32 = 2 ^ j
  have hk : ∀ k, k ≤ 32 → prodTo (2 ^ j) crcOne k = if 31 - j < k then 2 ^ j else 0 := by
    intro k hk
    induction k with
    | zero => simp [prodTo]
    | succ k ih =>
      rw [prodTo, ih (by omega), Nat.testBit_two_pow]
      by_cases c : 31 - j < k
      · simp [c, show 31 - j < k + 1 by omega, show ¬ j = 31 - k by omega]
      · by_cases d : 31 - j = k
        · have d2 : j = 31 - k := by omega
          rw [nxs_one k (by omega)]
          simp [d2, show 31 - (31 - k) = k by omega]
        · simp [c, show ¬ 31 - j < k + 1 by omega, show ¬ j = 31 - k by omega]
  rw [hk 32 (by omega), if_pos (by omega)]
theorem prod_poly (b : Nat) (h : b < 2 ^ 32) : prodTo crcPoly b 32 = nxs 32 b := by
  refine lin_ext (fun b => prodTo crcPoly b 32) (fun b => nxs 32 b) (fun x y => prodTo_xor' _ x y _) (fun x y => nxs_xor 32 x y) 32 (fun j hj => ?_) b h
  have e : (2 : Nat) ^ j = nxs (31 - j) crcOne := by rw [nxs_one _ (by omega), show 31 - (31 - j) = j by omega]
  show prodTo crcPoly (2 ^ j) 32 = nxs 32 (2 ^ j)
  rw [e, prodTo_nxs, prod_one' crcPoly (by decide), ← nxs_add, Nat.add_comm, nxs_add]
  congr 1
theorem prod_half (a b k : Nat) (ha : a < 2 ^ 32) (hk : k ≤ 31) : prodTo (a / 2) b (k + 1) = nx (prodTo a b k) := by
  induction k with
  | zero =>
    rw [prodTo, prodTo, prodTo]
    have e : (a / 2).testBit (31 - 0) = false := by
      rw [Nat.testBit_div_two]
      exact Nat.testBit_lt_two_pow ha
    simp [e, nx_zero]
  | succ k ih =>
    rw [prodTo, ih (by omega), prodTo, nx_xor, Nat.testBit_div_two, show 31 - (k + 1) + 1 = 31 - k by omega]
    congr 1
    cases a.testBit (31 - k)
    · simp [nx_zero]
    · simp [nxs_succ]
theorem prod_nx (a b : Nat) (ha : a < 2 ^ 32) (hb : b < 2 ^ 32) : prodTo (nx a) b 32 = nx (prodTo a b 32) := by
  have h1 : prodTo (a / 2) b 32 = nx (prodTo a b 31) := prod_half a b 31 ha (Nat.le_refl _)
  have h2 : prodTo a b 32 = prodTo a b 31 ^^^ (if a.testBit 0 = true then nxs 31 b else 0) := rfl
  rw [h2, nx_xor, ← h1]
  unfold nx
  rw [prodTo_xor]
  congr 1
  rw [Nat.testBit_zero]
  rcases Nat.mod_two_eq_zero_or_one a with h | h
  · have : ∀ k, prodTo 0 b k = 0 := by
      intro k
      induction k with
      | zero => rfl
      | succ k ih => rw [prodTo, ih]; simp
    simp [h, this]
  · simp only [h, if_true, decide_true]
    rw [prod_poly b hb]
    exact nxs_succ 31 b
theorem prod_nxs (i b : Nat) (hb : b < 2 ^ 32) : prodTo (nxs i crcOne) b 32 = nxs i b := by
  induction i with
  | zero => exact prod_one b
  | succ i ih => rw [nxs_succ, prod_nx _ _ (nxs_lt _ _ (by decide)) hb, ih, nxs_succ]
theorem prod_shift (s n : Nat) (hs : s < 2 ^ 32) : prodTo s (nxs n crcOne) 32 = nxs n s := by
  rw [prodTo_nxs, prod_one' s hs]
end Go.Proofs.YtfneloobfidckaaGreatDoor

/- Contracts: the document's own answer for CRC-32. It proves no statement. -/



namespace Go.Proofs.YtfneloobfidckaaGreatDoor
open Go.RowKit
set_option linter.unusedVariables false
set_option linter.unusedSimpArgs false

theorem u32_poly (x : Nat) (hx : x < 4294967296) : bits BinOp.xor IntKind.u32 (x : Int) 3988292384 = ((x ^^^ crcPoly : Nat) : Int) := u32_xor_nat x crcPoly hx (by decide)
theorem u32_ones (x : Nat) (hx : x < 4294967296) : bits BinOp.xor IntKind.u32 (x : Int) 4294967295 = ((x ^^^ ones32 : Nat) : Int) := u32_xor_nat x ones32 hx (by decide)
theorem u32_low (x : Nat) (hx : x < 4294967296) : bits BinOp.and IntKind.u32 (x : Int) 1 = ((x % 2 : Nat) : Int) := by
  have h := u32_and_nat x 1 hx (by omega)
  rw [nat_mask1] at h
  exact h
theorem u8_low (x : Nat) (hx : x < 256) : bits BinOp.and IntKind.u8 (x : Int) 1 = ((x % 2 : Nat) : Int) := by
  have h := u8_and_nat x 1 hx (by omega)
  rw [nat_mask1] at h
  exact h
theorem int_half (x : Nat) : (x : Int) / 2 = ((x / 2 : Nat) : Int) := by simp
theorem nx_odd (x : Nat) (h : x % 2 = 1) : nx x = x / 2 ^^^ crcPoly := by simp [nx, h]
theorem nx_even (x : Nat) (h : x % 2 = 0) : nx x = x / 2 := by simp [nx, h]

/-- One bit, as it is told there. -/
theorem nx_bit (x d : Nat) (hd : d = 0 ∨ d = 1) : nx (x ^^^ d) = if x % 2 = d then x / 2 else x / 2 ^^^ crcPoly := by
  unfold nx
  rw [xor_half, xor_odd]
  rcases hd with rfl | rfl <;> rcases Nat.mod_two_eq_zero_or_one x with h | h <;> simp [h]

set_option maxHeartbeats 800000 in
theorem radd_any (s : Nat) (A : Option Addr) (n c : Nat) (l : List UInt8) (w : World) (B : Nat) (hs : s < 4294967296) (h : Reads w B A n l) (hn : n ≤ 9223372036854775807) :
    Calls Tryz.prog 196 #[.int .u32 s, .slice A n c] w fun e w' => e = .returned (.int .u32 (crcAdd s l : Nat)) ∧ w = w' := by
  have hl := h.1
  have hx0 := u32_ones s hs
  have hs0 : s ^^^ ones32 < 4294967296 := Nat.xor_lt_two_pow (n := 32) hs (by decide)
  have hrun : ∀ k, crcRun (s ^^^ ones32) (l.take k) < 4294967296 := fun k => crcRun_lt _ _ hs0
  have hfin := u32_ones (crcRun (s ^^^ ones32) l) (crcRun_lt _ _ hs0)
  have hadd : crcRun (s ^^^ ones32) l ^^^ ones32 = crcAdd s l := rfl
  rw [hadd] at hfin
  generalize crcAdd s l = R at hfin ⊢
  generalize s ^^^ ones32 = s0 at hx0 hs0 hrun hfin hadd
  have HR := Lib.hid hrun
  have HF := Lib.hid hfin
  clear hrun hfin hadd
  go_enter Tryz.func196, Tryz.ntmps196
  go_wp2_with fail
  go_loop [5, 6] (fun x i => ∃ k : Nat, k ≤ n ∧ i = .int .i64 k ∧ ∃ y : Nat, x = .int .u32 y ∧ Hid (y = crcRun s0 (l.take k))) (fun _ i => n - (intOf i).toNat)
  case atStart => exact ⟨0, Nat.zero_le _, rfl, s0, rfl, rfl⟩
  case round =>
    obtain ⟨k, hk, rfl, y, rfl, hy⟩ := hrel
    by_cases hlt : k < n
    · obtain ⟨b, o, rfl, hb, hc⟩ := h.at_ (by omega)
      have c1 := hc k hlt
      obtain ⟨d, hd⟩ : ∃ d, d = (l.getD k 0).toNat := ⟨_, rfl⟩
      rw [← hd] at c1
      have hd' : d < 256 := by rw [hd]; exact (l.getD k 0).toNat_lt
      have hyb : y < 4294967296 := by rw [hy.out]; exact HR.out k
      have HD := Lib.hid hd
      clear hc hd
      go_wp2_with fail
      go_loop [5, 7] (fun x i => ∃ j : Nat, j ≤ 8 ∧ i = .int .u64 j ∧ ∃ z : Nat, x = .int .u32 z ∧ z < 4294967296 ∧ Hid (z = nxs j (y ^^^ d % 2 ^ j))) (fun _ i => 8 - (intOf i).toNat)
      case atStart => exact ⟨0, Nat.zero_le _, rfl, y, rfl, hyb, by simp [Hid, nxs, Nat.mod_one]⟩
      case round =>
        obtain ⟨j, hj, rfl, z, rfl, hzb, hz⟩ := hrel
        by_cases hj8 : j < 8
        · have hbit := crcByte_bits y d j hj hd'
          rw [← hz.out, nx_bit z _ (Nat.mod_two_eq_zero_or_one _)] at hbit
          have e1 := u32_low z hzb
          have e2 := int_half z
          have e3 : ((d : Int) / 2 ^ j) = ((d / 2 ^ j : Nat) : Int) := by simp
          have e4 := u8_low (d / 2 ^ j) (Nat.lt_of_le_of_lt (Nat.div_le_self _ _) hd')
          have e5 := u32_poly (z / 2) (by omega)
          have hz2 : z / 2 < 4294967296 := by omega
          have hz3 : z / 2 ^^^ crcPoly < 4294967296 := Nat.xor_lt_two_pow (n := 32) hz2 (by decide)
          have b1 : z % 2 < 2 := by omega
          have b2 : d / 2 ^ j % 2 < 2 := by omega
          generalize d / 2 ^ j % 2 = q at hbit e4 b2
          generalize d / 2 ^ j = q2 at e3 e4
          generalize z % 2 = p at hbit e1 b1
          generalize z / 2 = z2 at hbit e2 e5 hz2 hz3
          generalize z2 ^^^ crcPoly = z3 at hbit e5 hz3
          have HB := Lib.hid hbit
          clear hbit
          by_cases hpq : p = q
          · subst hpq
            go_wp2_with fail
            go_round
            case rel => exact ⟨j + 1, by omega, by go_num, z2, rfl, hz2, by have := HB.out; rw [if_pos rfl] at this; exact this.symm⟩
            case measure => simp [intOf]; omega
          · have hne : ((p : Int) != (q : Int)) = true := by rw [bne_iff_ne]; omega
            go_wp2_with fail
            go_round
            case rel => exact ⟨j + 1, by omega, by go_num, z3, rfl, hz3, by have := HB.out; rw [if_neg hpq] at this; exact this.symm⟩
            case measure => simp [intOf]; omega
        · obtain rfl : j = 8 := by omega
          go_wp2_with fail
          go_round
          case rel =>
            refine ⟨k + 1, by omega, by go_num, z, rfl, ?_⟩
            show _ = _
            have e : l.take (k + 1) = l.take k ++ [l.getD k 0] := by
              rw [List.take_add_one]; simp [List.getD, show k < l.length by omega]
            rw [e, crcRun_append, ← hy.out, hz.out, Nat.mod_eq_of_lt (show d < 2 ^ 8 from hd'), HD.out]
            rfl
          case measure => simp [intOf]; omega
    · obtain rfl : k = n := by omega
      have e := hy.out
      rw [List.take_of_length_le (by omega)] at e
      have f := HF.out
      rw [← e] at f
      clear e hy
      go_wp2_with fail
      go_ret
      exact ⟨rfl, rfl⟩

theorem u32_xor_cast (x y : Nat) (hx : x < 4294967296) (hy : y < 4294967296) : bits BinOp.xor IntKind.u32 (x : Int) (y : Int) = ((x ^^^ y : Nat) : Int) := u32_xor_nat x y hx hy

end Go.Proofs.YtfneloobfidckaaGreatDoor

/- Contracts: sums of texts, by the program's tables and by the document. It proves no statement. -/






namespace Go.Proofs.YtfneloobfidckaaGreatDoor
open Go.RowKit
set_option linter.unusedVariables false
set_option linter.unusedSimpArgs false

/-! ### Plain facts -/
def lowT : List Int := [0, 1996959894, 3993919788, 2567524794, 124634137, 1886057615, 3915621685, 2657392035, 249268274, 2044508324, 3772115230, 2547177864, 162941995, 2125561021, 3887607047, 2428444049]
def highT : List Int := [0, 498536548, 997073096, 651767980, 1994146192, 1802195444, 1303535960, 1342533948, 3988292384, 4027552580, 3604390888, 3412177804, 2607071920, 2262029012, 2685067896, 3183342108]
def lowN (i : Nat) : Nat := (lowT.getD i 0).toNat
def highN (i : Nat) : Nat := (highT.getD i 0).toNat
theorem lowN_lt (i : Nat) (h : i < 16) : lowN i < 4294967296 := (show ∀ i, i < 16 → lowN i < 4294967296 by decide +kernel) i h
theorem highN_lt (i : Nat) (h : i < 16) : highN i < 4294967296 := (show ∀ i, i < 16 → highN i < 4294967296 by decide +kernel) i h
theorem lowT_cast (i : Nat) (h : i < 16) : lowT.getD i 0 = (lowN i : Int) := (show ∀ i, i < 16 → lowT.getD i 0 = (lowN i : Int) by decide +kernel) i h
theorem highT_cast (i : Nat) (h : i < 16) : highT.getD i 0 = (highN i : Int) := (show ∀ i, i < 16 → highT.getD i 0 = (highN i : Int) by decide +kernel) i h
theorem tab_byte (y : Nat) (h : y < 256) : nxs 8 y = lowN (y % 16) ^^^ highN (y / 16) := (show ∀ y, y < 256 → nxs 8 y = lowN (y % 16) ^^^ highN (y / 16) by decide +kernel) y h
theorem nx_double (x : Nat) : nx (2 * x) = x := by
  unfold nx
  rw [show 2 * x % 2 = 0 by omega, show 2 * x / 2 = x by omega]
  simp
theorem nxs_up (k x : Nat) : nxs k (2 ^ k * x) = x := by
  induction k generalizing x with
  | zero => simp [nxs]
  | succ k ih => rw [nxs, Nat.pow_succ, Nat.mul_comm (2 ^ k) 2, Nat.mul_assoc, nx_double, ih]
/-- A register's lowest byte parted from the rest. -/
theorem xor_parts (k x : Nat) : x = 2 ^ k * (x / 2 ^ k) ^^^ x % 2 ^ k := by
  apply Nat.eq_of_testBit_eq
  intro i
  rw [Nat.testBit_xor, Nat.mul_comm, Nat.testBit_mul_two_pow, Nat.testBit_mod_two_pow, Nat.testBit_div_two_pow]
  by_cases hi : i < k
  · simp [hi, show ¬ k ≤ i by omega]
  · simp [hi, show k ≤ i by omega, show i - k + k = i by omega]
theorem xor_div_pow (k x y : Nat) : (x ^^^ y) / 2 ^ k = x / 2 ^ k ^^^ y / 2 ^ k := by
  apply Nat.eq_of_testBit_eq
  intro i
  simp [Nat.testBit_div_two_pow]
theorem xor_mod_pow (k x y : Nat) : (x ^^^ y) % 2 ^ k = x % 2 ^ k ^^^ y % 2 ^ k := by
  apply Nat.eq_of_testBit_eq
  intro i
  rw [Nat.testBit_xor, Nat.testBit_mod_two_pow, Nat.testBit_mod_two_pow, Nat.testBit_mod_two_pow, Nat.testBit_xor]
  cases decide (i < k) <;> simp
/-- One byte by the two tables. -/
theorem crcByte_tab (r : Nat) (b : UInt8) (y : Nat) (hy : y = b.toNat ^^^ r % 256) : crcByte r b = r / 256 ^^^ lowN (y % 16) ^^^ highN (y / 16) := by
  have hb : b.toNat < 256 := b.toNat_lt
  have hy' : y < 256 := by rw [hy]; exact Nat.xor_lt_two_pow (n := 8) hb (Nat.mod_lt _ (by decide))
  unfold crcByte
  have e := xor_parts 8 (r ^^^ b.toNat)
  have e1 : (r ^^^ b.toNat) / 2 ^ 8 = r / 256 := by
    rw [xor_div_pow, Nat.div_eq_of_lt (show b.toNat < 2 ^ 8 from hb), Nat.xor_zero]
  have e2 : (r ^^^ b.toNat) % 2 ^ 8 = y := by
    rw [xor_mod_pow, Nat.mod_eq_of_lt (show b.toNat < 2 ^ 8 from hb), hy, Nat.xor_comm]
  rw [e1, e2] at e
  rw [e, nxs_xor, nxs_up, tab_byte y hy', Nat.xor_assoc]

/-! ### The tables in memory -/
structure Tabs (w : World) : Prop where
  low : ∀ i, i < 16 → w.cell? ⟨0, i, none⟩ = some (.int .u32 (lowN i : Int))
  high : ∀ i, i < 16 → w.cell? ⟨1, i, none⟩ = some (.int .u32 (highN i : Int))
theorem lt_of_cell {w : World} {b i : Nat} {v : Value} (h : w.cell? ⟨b, i, none⟩ = some v) : b < w.heap.size := block_lt_of_cell h
theorem Tabs.still {w w' : World} (h : Tabs w) (s : Still w w') : Tabs w' :=
  ⟨fun i hi => (s.cell (lt_of_cell (h.low i hi))).trans (h.low i hi), fun i hi => (s.cell (lt_of_cell (h.high i hi))).trans (h.high i hi)⟩
theorem Tabs.drew {w : World} (h : Tabs w) : Tabs w.drew := h.still ((Still.refl w).drew)

theorem Still.drewN {w w' : World} (h : Still w w') (n : Nat) : Still w (w'.drewN n) := by
  induction n with
  | zero => exact h
  | succ n ih => exact ih.drew
theorem u32_flip (x : Nat) (hx : x < 4294967296) : bits BinOp.xor IntKind.u32 IntKind.u32.max (x : Int) = ((x ^^^ ones32 : Nat) : Int) := by
  have h := u32_xor_nat ones32 x (by decide) hx
  rw [Nat.xor_comm] at h
  exact h
theorem u8_cast (x : Nat) : IntKind.u8.wrap (x : Int) = ((x % 256 : Nat) : Int) := by rw [IntKind.wrap_u8']; omega

set_option maxHeartbeats 1600000 in
theorem crcadd_any (s : Nat) (A : Option Addr) (n c : Nat) (l : List UInt8) (w : World) (B : Nat) (T : Tabs w) (hs : s < 4294967296) (h : Reads w B A n l) (hB : B ≤ w.heap.size) (hn : n ≤ 9223372036854775807) :
    Calls Tryz.prog 195 #[.int .u32 s, .slice A n c] w fun e w' => e = .returned (.int .u32 (crcAdd s l : Nat)) ∧ Still w w' := by
  have hl := h.1
  have sg : IntKind.u32.signed = false := rfl
  have hx0 := u32_flip s hs
  have hs0 : s ^^^ ones32 < 4294967296 := Nat.xor_lt_two_pow (n := 32) hs (by decide)
  have hrun : ∀ k, crcRun (s ^^^ ones32) (l.take k) < 4294967296 := fun k => crcRun_lt _ _ hs0
  have hfin := u32_flip (crcRun (s ^^^ ones32) l) (crcRun_lt _ _ hs0)
  have hadd : crcRun (s ^^^ ones32) l ^^^ ones32 = crcAdd s l := rfl
  rw [hadd] at hfin
  generalize crcAdd s l = R at hfin ⊢
  generalize s ^^^ ones32 = s0 at hx0 hs0 hrun hfin hadd
  have HR := Lib.hid hrun
  have HF := Lib.hid hfin
  have TT := Lib.hid T
  clear hrun hfin hadd T
  go_enter Tryz.func195, Tryz.ntmps195
  go_wp2_with fail
  go_loopw [5, 12] (fun x i wr => ∃ k : Nat, k ≤ n ∧ i = .int .i64 k ∧ Still w wr ∧ ∃ y : Nat, x = .int .u32 y ∧ Hid (y = crcRun s0 (l.take k))) (fun _ i _ => n - (intOf i).toNat)
  case atStart => exact ⟨0, Nat.zero_le _, rfl, Still.refl w, s0, rfl, rfl⟩
  case round =>
    obtain ⟨k, hk, rfl, st, y, rfl, hy⟩ := hrel
    by_cases hlt : k < n
    · obtain ⟨b, o, rfl, hb, hc0⟩ := h.at_ (by omega)
      have hc := ((st.cell (p := ⟨b, o + k, none⟩) (by simp; omega)).trans (hc0 k hlt))
      have T := TT.out.still st
      obtain ⟨d, hd⟩ : ∃ d, d = (l.getD k 0).toNat := ⟨_, rfl⟩
      rw [← hd] at hc
      have hd' : d < 256 := by rw [hd]; exact (l.getD k 0).toNat_lt
      have hyb : y < 4294967296 := by rw [hy.out]; exact HR.out k
      have e1 := u8_cast y
      have e2 := u8_xor_nat d (y % 256) hd' (Nat.mod_lt _ (by decide))
      have hz : d ^^^ y % 256 < 256 := Nat.xor_lt_two_pow (n := 8) hd' (Nat.mod_lt _ (by decide))
      have hbyte := crcByte_tab y (l.getD k 0) _ rfl
      rw [← hd] at hbyte
      generalize y % 256 = y8 at e1 e2 hz hbyte
      generalize d ^^^ y8 = z at e2 hz hbyte
      have e3 : ((y : Int) / 256) = ((y / 256 : Nat) : Int) := by simp
      have e4 : bits BinOp.and IntKind.u8 (z : Int) 15 = ((z % 16 : Nat) : Int) := by
        have := u8_and_nat z 15 hz (by omega)
        rw [nat_mask4] at this
        exact this
      have e5 : ((z : Int) / 16) = ((z / 16 : Nat) : Int) := by simp
      have i1 : z % 16 < 16 := by omega
      have i2 : z / 16 < 16 := by omega
      have hyq : y / 256 < 4294967296 := by omega
      generalize z % 16 = p at e4 i1 hbyte
      generalize z / 16 = q at e5 i2 hbyte
      generalize y / 256 = yq at e3 hyq hbyte
      have c1 := T.low p i1
      have c2 := T.high q i2
      have l1 := lowN_lt p i1
      have l2 := highN_lt q i2
      generalize lowN p = lp at c1 l1 hbyte
      generalize highN q = hq at c2 l2 hbyte
      have e6 := u32_xor_nat yq lp hyq l1
      have hx1 : yq ^^^ lp < 4294967296 := Nat.xor_lt_two_pow (n := 32) hyq l1
      generalize yq ^^^ lp = x1 at e6 hx1 hbyte
      have e7 := u32_xor_nat x1 hq hx1 l2
      generalize x1 ^^^ hq = x2 at e7 hbyte
      have j1 : (p : Int) < 16 := by omega
      have j2 : (q : Int) < 16 := by omega
      have HB := Lib.hid hbyte
      have ST := Lib.hid st
      clear hbyte T hd hc0 st
      go_wp2_with fail
      go_quiet (fail)
      go_wp2_with fail
      go_roundw
      case rel =>
        refine ⟨k + 1, by omega, by go_num, ?_, x2, rfl, ?_⟩
        · exact Still.drewN ST.out nq
        · show _ = _
          have e : l.take (k + 1) = l.take k ++ [l.getD k 0] := by
            rw [List.take_add_one]; simp [List.getD, show k < l.length by omega]
          rw [e, crcRun_append, ← hy.out]
          exact HB.out.symm
      case measure => simp [intOf]; omega
    · obtain rfl : k = n := by omega
      have e := hy.out
      rw [List.take_of_length_le (by omega)] at e
      have f := HF.out
      rw [← e] at f
      clear e hy
      go_wp2_with fail
      go_ret
      exact ⟨rfl, st⟩

theorem crcsum_any (A : Option Addr) (n c : Nat) (l : List UInt8) (w : World) (B : Nat) (T : Tabs w) (h : Reads w B A n l) (hB : B ≤ w.heap.size) (hn : n ≤ 9223372036854775807) :
    Calls Tryz.prog 142 #[.slice A n c] w fun e w' => e = .returned (.int .u32 (crcSum l : Nat)) ∧ Still w w' := by
  have k := crcadd_any 0 A n c l w B T (by omega) h hB hn
  have e : crcAdd 0 l = crcSum l := rfl
  rw [e] at k
  generalize crcSum l = R at k ⊢
  have K := Lib.hid k
  clear k e
  go_enter Tryz.func142, Tryz.ntmps142
  go_wp2_with fail
  refine K.out.mono ?_
  rintro e w1 ⟨rfl, s1⟩
  go_wp2_with fail
  go_ret
  exact ⟨rfl, s1⟩
theorem rsum_any (A : Option Addr) (n c : Nat) (l : List UInt8) (w : World) (B : Nat) (h : Reads w B A n l) (hn : n ≤ 9223372036854775807) :
    Calls Tryz.prog 146 #[.slice A n c] w fun e w' => e = .returned (.int .u32 (crcSum l : Nat)) ∧ w = w' := by
  have k := radd_any 0 A n c l w B (by omega) h hn
  have e : crcAdd 0 l = crcSum l := rfl
  rw [e] at k
  generalize crcSum l = R at k ⊢
  have K := Lib.hid k
  clear k e
  go_enter Tryz.func146, Tryz.ntmps146
  go_wp2_with fail
  refine K.out.mono ?_
  rintro e w1 ⟨rfl, rfl⟩
  go_wp2_with fail
  go_ret
  exact ⟨rfl, rfl⟩
end Go.Proofs.YtfneloobfidckaaGreatDoor

/- What the rows' condition on the two tables gives the walks. It proves no statement. -/




namespace Go.Proofs.YtfneloobfidckaaGreatDoor
open Go.RowKit
set_option linter.unusedVariables false
set_option linter.unusedSimpArgs false

def crcLaid : List (String × DataW Unit) := [("hoard/crc.lowHalf", Rows.laid_hoard_crc_lowHalf), ("hoard/crc.highHalf", Rows.laid_hoard_crc_highHalf)]
theorem gLow : Tryz.prog.globalNamed "hoard/crc.lowHalf" = some 0 := by kernel_rfl
theorem gHigh : Tryz.prog.globalNamed "hoard/crc.highHalf" = some 1 := by kernel_rfl
theorem tLow : (Tryz.prog.globals[0]?).map (·.type) = some 336 := by kernel_rfl
theorem tHigh : (Tryz.prog.globals[1]?).map (·.type) = some 336 := by kernel_rfl
theorem tabs_of_laid {W : World} (h : laidMetH Tryz.prog crcLaid W) : Tabs W := by
  rw [MakeChecks.laidMetH_plain _ _ _ (by kernel_rfl)] at h
  have h1 : Lib.TabIs Tryz.prog W "hoard/crc.lowHalf" .u32 lowT := Lib.tabIs_of_head gLow tLow Tryz.underlying336 Tryz.underlying250 (by kernel_rfl) (by kernel_rfl) h
  have h2 : Lib.TabIs Tryz.prog W "hoard/crc.highHalf" .u32 highT := Lib.tabIs_of_head gHigh tHigh Tryz.underlying336 Tryz.underlying250 (by kernel_rfl) (by kernel_rfl) (laidMet.tail h)
  refine ⟨fun i hi => ?_, fun i hi => ?_⟩
  · have := h1.cell gLow i (by simpa [lowT] using hi)
    rwa [lowT_cast i hi] at this
  · have := h2.cell gHigh i (by simpa [highT] using hi)
    rwa [highT_cast i hi] at this
end Go.Proofs.YtfneloobfidckaaGreatDoor
