/- Bursts: plain facts on bits and sums. It proves no statement. -/
import Derived.Test.YtchngfkbogcgaaaDoorBase
import Derived.Test.YtchngfkbogcgaaaDoorCrcImp
namespace Go.Proofs.YtchngfkbogcgaaaDoor
open Go.RowKit
set_option linter.unusedVariables false
set_option linter.unusedSimpArgs false

/-- The lowest n bytes of a number, the lowest first. -/
def loBytes (x n : Nat) : List UInt8 := (List.range n).map (fun i => UInt8.ofNat (x / 2 ^ (8 * i)))
theorem loBytes_length (x n : Nat) : (loBytes x n).length = n := by simp [loBytes]
theorem loBytes_get (x n i : Nat) (h : i < n) : (loBytes x n)[i]'(by rw [loBytes_length]; exact h) = UInt8.ofNat (x / 2 ^ (8 * i)) := by simp [loBytes]
theorem ofNat_xor (a b : Nat) : UInt8.ofNat (a ^^^ b) = UInt8.ofNat a ^^^ UInt8.ofNat b := by
  apply UInt8.toNat_inj.1
  rw [UInt8.toNat_xor]
  simp only [UInt8.toNat_ofNat']
  exact Nat.xor_mod_two_pow
theorem div_xor (x y k : Nat) : (x ^^^ y) / 2 ^ k = x / 2 ^ k ^^^ y / 2 ^ k := by
  apply Nat.eq_of_testBit_eq
  intro i
  simp [Nat.testBit_div_two_pow]
theorem mul_xor (x y k : Nat) : (x ^^^ y) * 2 ^ k = x * 2 ^ k ^^^ y * 2 ^ k := by
  apply Nat.eq_of_testBit_eq
  intro i
  simp only [Nat.testBit_mul_two_pow, Nat.testBit_xor]
  by_cases h : k ≤ i <;> simp [h]
theorem loBytes_xor (x y n : Nat) : loBytes (x ^^^ y) n = xorBytes (loBytes x n) (loBytes y n) := by
  unfold loBytes xorBytes
  rw [List.zipWith_map, List.zipWith_self]
  apply List.map_congr_left
  intro i hi
  rw [div_xor, ofNat_xor]
theorem crcRun_rep (x k : Nat) : crcRun x (List.replicate k 0) = nxs (8 * k) x := by
  induction k generalizing x with
  | zero => rfl
  | succ k ih =>
    rw [List.replicate_succ, crcRun_cons, ih, show 8 * (k + 1) = 8 + 8 * k by omega, nxs_add]
    unfold crcByte
    simp
theorem loBytes_two (p n : Nat) (h : p < 8 * n) : loBytes (2 ^ p) n = List.replicate (p / 8) 0 ++ (UInt8.ofNat (2 ^ (p % 8)) :: List.replicate (n - 1 - p / 8) 0) := by
  apply List.ext_getElem
  · simp [loBytes_length]; omega
  · intro i h1 h2
    rw [loBytes_length] at h1
    rw [loBytes_get _ _ _ h1]
    rcases Nat.lt_trichotomy i (p / 8) with c | c | c
    · rw [List.getElem_append_left (by simpa using c)]
      simp only [List.getElem_replicate]
      apply UInt8.toNat_inj.1
      have e : 2 ^ p / 2 ^ (8 * i) = 2 ^ (p - 8 * i) := Nat.pow_div (by omega) (by omega)
      rw [e, show p - 8 * i = 8 + (p - 8 * i - 8) by omega, Nat.pow_add]
      simp
    · subst c
      rw [List.getElem_append_right (by simp)]
      simp only [List.length_replicate, Nat.sub_self, List.getElem_cons_zero]
      have e : 2 ^ p / 2 ^ (8 * (p / 8)) = 2 ^ (p - 8 * (p / 8)) := Nat.pow_div (by omega) (by omega)
      rw [e, show p - 8 * (p / 8) = p % 8 by omega]
    · rw [List.getElem_append_right (by simp; omega)]
      have e2 : ∃ j, i - p / 8 = j + 1 := ⟨i - p / 8 - 1, by omega⟩
      obtain ⟨j, hj⟩ := e2
      simp only [List.length_replicate, hj, List.getElem_cons_succ, List.getElem_replicate]
      have e : 2 ^ p / 2 ^ (8 * i) = 0 := Nat.div_eq_of_lt (Nat.pow_lt_pow_right (by omega) (by omega))
      rw [e]
      rfl
theorem run_two (p n : Nat) (h : p < 8 * n) : crcRun 0 (loBytes (2 ^ p) n) = nxs (8 * n - p) 1 := by
  rw [loBytes_two p n h, crcRun_append, crcRun_rep, nxs_zero, crcRun_cons, crcRun_rep]
  unfold crcByte
  have e : (UInt8.ofNat (2 ^ (p % 8))).toNat = 2 ^ (p % 8) := by
    simp only [UInt8.toNat_ofNat']
    exact Nat.mod_eq_of_lt (Nat.pow_lt_pow_right (by omega) (Nat.mod_lt _ (by omega)))
  have e2 : nxs (p % 8) (2 ^ (p % 8)) = 1 := by
    have := nxs_two (p % 8) 0
    simpa using this
  rw [Nat.zero_xor, e, ← nxs_add, show 8 + 8 * (n - 1 - p / 8) = p % 8 + (8 * n - p) by omega, nxs_add, e2]
/-- What a burst leaves of a register that was nought. -/
theorem run_burst (at_ n m v : Nat) (hm : m ≤ 32) (h : at_ + m ≤ 8 * n) (hv : v < 2 ^ m) : crcRun 0 (loBytes (v * 2 ^ at_) n) = nxs (8 * n - at_) v := by
  refine lin_ext (fun v => crcRun 0 (loBytes (v * 2 ^ at_) n)) (fun v => nxs (8 * n - at_) v) (fun x y => ?_) (fun x y => nxs_xor _ x y) m (fun j hj => ?_) v hv
  · show crcRun 0 (loBytes ((x ^^^ y) * 2 ^ at_) n) = _
    rw [mul_xor, loBytes_xor]
    have := crcRun_xor (loBytes (x * 2 ^ at_) n) (loBytes (y * 2 ^ at_) n) (by simp [loBytes_length]) 0 0
    simpa using this.symm
  · show crcRun 0 (loBytes (2 ^ j * 2 ^ at_) n) = nxs (8 * n - at_) (2 ^ j)
    rw [← Nat.pow_add, run_two _ _ (by omega)]
    have e2 : nxs j (2 ^ j) = 1 := by
      have := nxs_two j 0
      simpa using this
    rw [show 8 * n - at_ = j + (8 * n - (j + at_)) by omega, nxs_add, e2]
/-- A burst is seen. -/
theorem burst_seen (b : List UInt8) (at_ m v : Nat) (hm : m ≤ 32) (h : at_ + m ≤ 8 * b.length) (hv : v < 2 ^ m) (h0 : v ≠ 0) :
    crcSum (xorBytes b (loBytes (v * 2 ^ at_) b.length)) ≠ crcSum b := by
  intro e
  have hl : (xorBytes b (loBytes (v * 2 ^ at_) b.length)).length = b.length := by simp [xorBytes, loBytes_length]
  have hd := crcAdd_diff 0 (xorBytes b (loBytes (v * 2 ^ at_) b.length)) b hl
  unfold crcSum at e
  rw [e, Nat.xor_self] at hd
  have hx := crcRun_xor b (loBytes (v * 2 ^ at_) b.length) (by simp [loBytes_length]) 0 0
  rw [Nat.xor_self, run_burst at_ b.length m v hm h hv] at hx
  rw [← hx, Nat.xor_comm (crcRun 0 b), Nat.xor_assoc, Nat.xor_self, Nat.xor_zero] at hd
  exact nxs_ne _ v (Nat.lt_of_lt_of_le hv (Nat.pow_le_pow_right (by omega) hm)) h0 hd.symm

/-- One bit of a burst more. -/
theorem burst_step (b : List UInt8) (at_ i v : Nat) (hv : v < 2 ^ i) (h : (at_ + i) / 8 < b.length) :
    (xorBytes b (loBytes (v * 2 ^ at_) b.length)).set ((at_ + i) / 8) ((xorBytes b (loBytes (v * 2 ^ at_) b.length)).getD ((at_ + i) / 8) 0 ^^^ UInt8.ofNat (2 ^ ((at_ + i) % 8))) =
      xorBytes b (loBytes ((v + 2 ^ i) * 2 ^ at_) b.length) := by
  have e : v + 2 ^ i = v ^^^ 2 ^ i := by
    apply Nat.eq_of_testBit_eq
    intro j
    rw [Nat.add_comm, ← nat_join i (2 ^ i) v (by simp) hv, Nat.testBit_or, Nat.testBit_xor, Nat.testBit_two_pow]
    by_cases hj : i = j
    · subst hj
      rw [Nat.testBit_lt_two_pow hv]
      simp
    · simp [hj]
  rw [e, mul_xor, ← Nat.pow_add, loBytes_xor, Nat.add_comm i at_, loBytes_two (at_ + i) b.length (by omega)]
  apply List.ext_getElem
  · simp [xorBytes, loBytes_length]; omega
  · intro j h1 h2
    rw [List.getElem_set]
    have hj : j < b.length := by simp [xorBytes, loBytes_length] at h1; omega
    have hxl : (xorBytes b (loBytes (v * 2 ^ at_) b.length)).length = b.length := by simp [xorBytes, loBytes_length]
    by_cases c : (at_ + i) / 8 = j
    · subst c
      rw [if_pos rfl]
      simp only [xorBytes, List.getD, List.getElem?_eq_getElem (show (at_ + i) / 8 < (List.zipWith (fun x1 x2 => x1 ^^^ x2) b (loBytes (v * 2 ^ at_) b.length)).length by simpa [loBytes_length] using h), Option.getD_some, List.getElem_zipWith]
      rw [List.getElem_append_right (by simp)]
      simp [UInt8.xor_assoc]
    · rw [if_neg c]
      simp only [xorBytes, List.getElem_zipWith]
      have e0 : (List.replicate ((at_ + i) / 8) (0 : UInt8) ++ (UInt8.ofNat (2 ^ ((at_ + i) % 8)) :: List.replicate (b.length - 1 - (at_ + i) / 8) 0))[j]'(by simp; omega) = 0 := by
        rcases Nat.lt_or_ge j ((at_ + i) / 8) with d | d
        · rw [List.getElem_append_left (by simpa using d)]
          simp
        · rw [List.getElem_append_right (by simpa using d)]
          obtain ⟨t, ht⟩ : ∃ t, j - (at_ + i) / 8 = t + 1 := ⟨j - (at_ + i) / 8 - 1, by omega⟩
          simp [ht]
      rw [e0]
      simp

theorem burst_cast (d k : Nat) (hd : d < 256) : bits BinOp.xor IntKind.u8 (d : Int) (2 ^ k % 256) = ((d ^^^ (UInt8.ofNat (2 ^ k)).toNat : Nat) : Int) := by
  have e : ((2 : Int) ^ k % 256) = ((2 ^ k % 256 : Nat) : Int) := by simp
  rw [e, u8_xor_nat _ _ hd (Nat.mod_lt _ (by omega))]
  simp only [UInt8.toNat_ofNat']

/-- A burst behind the first k bytes leaves them as they are. -/
theorem burst_take (b : List UInt8) (at_ v k : Nat) (h : 8 * k ≤ at_) : (xorBytes b (loBytes (v * 2 ^ at_) b.length)).take k = b.take k := by
  apply List.ext_getElem
  · simp [xorBytes, loBytes_length]
  · intro i h1 h2
    have hi : i < k ∧ i < b.length := by simp at h2; omega
    rw [List.getElem_take, List.getElem_take]
    simp only [xorBytes, List.getElem_zipWith]
    rw [loBytes_get _ _ _ hi.2]
    have e : v * 2 ^ at_ / 2 ^ (8 * i) = v * 2 ^ (at_ - 8 * i - 8) * 256 := by
      have e1 : v * 2 ^ at_ = v * 2 ^ (at_ - 8 * i - 8) * 256 * 2 ^ (8 * i) := by
        have : (2 : Nat) ^ at_ = 2 ^ (at_ - 8 * i - 8) * 256 * 2 ^ (8 * i) := by
          rw [show (256 : Nat) = 2 ^ 8 from rfl, ← Nat.pow_add, ← Nat.pow_add]
          congr 1
          omega
        rw [this, Nat.mul_assoc, Nat.mul_assoc, Nat.mul_assoc]
      rw [e1, Nat.mul_div_cancel _ (Nat.two_pow_pos _)]
    rw [e]
    have e3 : UInt8.ofNat (v * 2 ^ (at_ - 8 * i - 8) * 256) = 0 := by
      apply UInt8.toNat_inj.1
      simp [UInt8.toNat_ofNat']
    rw [e3]
    simp
theorem burst_drop (b : List UInt8) (at_ v k : Nat) (h : 8 * k ≤ at_) : (xorBytes b (loBytes (v * 2 ^ at_) b.length)).drop k = xorBytes (b.drop k) (loBytes (v * 2 ^ (at_ - 8 * k)) (b.drop k).length) := by
  apply List.ext_getElem
  · simp [xorBytes, loBytes_length]
  · intro i h1 h2
    rw [List.getElem_drop]
    simp only [xorBytes, List.getElem_zipWith, List.getElem_drop]
    have hi : k + i < b.length := by simp [xorBytes, loBytes_length] at h1; omega
    rw [loBytes_get _ _ _ hi, loBytes_get _ _ _ (by rw [List.length_drop]; omega)]
    have e : v * 2 ^ at_ / 2 ^ (8 * (k + i)) = v * 2 ^ (at_ - 8 * k) / 2 ^ (8 * i) := by
      have e1 : v * 2 ^ at_ = v * 2 ^ (at_ - 8 * k) * 2 ^ (8 * k) := by
        rw [Nat.mul_assoc, ← Nat.pow_add]
        congr 2
        omega
      rw [e1, show 8 * (k + i) = 8 * k + 8 * i by omega, Nat.pow_add, ← Nat.div_div_eq_div_mul, Nat.mul_div_cancel _ (Nat.two_pow_pos _)]
    rw [e]
end Go.Proofs.YtchngfkbogcgaaaDoor
