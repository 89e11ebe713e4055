/- Contracts and facts, several texts in one. It proves no statement. -/
import Derived.Test.YtgbkpbmilaafgaaBkGb
import Derived.Outline
import Derived.Deep.DeepMust
import Derived.Deep.QuietTactic
import Derived.BigQuiet
import Derived.RegionTactic
import Derived.ChangeAlike
import Derived.BigRegion
import Derived.Laws.BitsAllLaws
import Derived.Test.YtgbkpbmilaafgaaBkGa
import Derived.Laws.BitsLemmas

/- Contracts: rows of bytes compared. It proves no statement. -/








namespace Go.Proofs.Ytgbkpbmilaafgaa
open Go.RowKit
set_option linter.unusedVariables false
set_option linter.unusedSimpArgs false

set_option maxHeartbeats 400000 in
theorem same_yes (A A' : Option Addr) (n c c' : Nat) (l : List UInt8) (w : World) (B B' : Nat) (h : Reads w B A n l) (h' : Reads w B' A' n l) (hn : n ≤ 9223372036854775807) :
    Calls Try.prog 15 #[.slice A n c, .slice A' n c'] w fun e w' => e = .returned (.bool true) ∧ Still w w' := by
  go_enter Try.func15, Try.ntmps15
  go_wp2_with fail
  go_loopw [5] (fun i wr => ∃ k : Nat, k ≤ n ∧ i = .int .i64 k ∧ Reads wr B A n l ∧ Reads wr B' A' n l ∧ Still w wr) (fun i _ => n - (intOf i).toNat)
  case atStart => exact ⟨0, Nat.zero_le _, rfl, h, h', Below.refl _ _⟩
  case round =>
    obtain ⟨k, hk, rfl, hr, hr', hst⟩ := hrel
    by_cases hlt : k < n
    · obtain ⟨b, o, rfl, hb, hc⟩ := hr.at_ (by omega)
      obtain ⟨b', o', rfl, hb', hc'⟩ := hr'.at_ (by omega)
      have c1 := hc k hlt
      have c2 := hc' k hlt
      clear hc hc'
      generalize (l.getD k 0).toNat = y at c1 c2
      have z1 : (0 : Int) ≤ (k : Int) := by omega
      have z2 : (k : Int) < (n : Int) := by omega
      go_wp2_with fail
      go_quiet (fail)
      go_wp2_with fail
      go_roundw
      case rel => exact ⟨k + 1, by omega, by go_num, hr, hr', still_drewN hst _⟩
      case measure => simp [intOf]; omega
    · obtain rfl : k = n := by omega
      go_wp2_with fail
      go_ret
      exact ⟨rfl, hst⟩
end Go.Proofs.Ytgbkpbmilaafgaa

/- Contracts: bytes as a number, the document's own answer. It proves no statement. -/


namespace Go.Proofs.Ytgbkpbmilaafgaa
open Go.RowKit
set_option linter.unusedVariables false
set_option linter.unusedSimpArgs false

/-- The number that bytes are, the lowest first. -/
def leNum : List UInt8 → Nat
  | [] => 0
  | b :: r => b.toNat + 256 * leNum r

theorem leNum_snoc (l : List UInt8) (b : UInt8) : leNum (l ++ [b]) = leNum l + b.toNat * 2 ^ (8 * l.length) := by
  induction l with
  | nil => simp [leNum]
  | cons c r ih =>
    simp only [List.cons_append, leNum, ih, List.length_cons]
    rw [show 8 * (r.length + 1) = 8 + 8 * r.length by omega, Nat.pow_add, Nat.mul_add]
    have : 256 * (b.toNat * 2 ^ (8 * r.length)) = b.toNat * (2 ^ 8 * 2 ^ (8 * r.length)) := by
      rw [Nat.mul_left_comm]
    omega
theorem leNum_lt (l : List UInt8) : leNum l < 2 ^ (8 * l.length) := by
  induction l with
  | nil => simp [leNum]
  | cons c r ih =>
    have := c.toNat_lt
    simp only [leNum, List.length_cons]
    rw [show 8 * (r.length + 1) = 8 + 8 * r.length by omega, Nat.pow_add]
    omega
theorem leNum_take (l : List UInt8) (k : Nat) (h : k < l.length) : leNum (l.take (k + 1)) = leNum (l.take k) + (l.getD k 0).toNat * 2 ^ (8 * k) := by
  have e : l.take (k + 1) = l.take k ++ [l.getD k 0] := by
    rw [List.take_add_one]; simp [List.getD, h]
  rw [e, leNum_snoc]
  simp [show min k l.length = k by omega]
theorem pow_le8 (k : Nat) (h : k ≤ 7) : 2 ^ (8 * k) ≤ 72057594037927936 := by
  have := Nat.pow_le_pow_right (show 0 < 2 by omega) (show 8 * k ≤ 56 by omega)
  simpa using this
theorem u64_wrap_nat (x : Nat) (h : x < 18446744073709551616) : IntKind.u64.wrap (x : Int) = (x : Int) := by
  rw [IntKind.wrap_u64]; omega
theorem rget_no (A : Option Addr) (n c : Nat) (w : World) (h : n < 1 ∨ 8 < n) :
    Calls Try.prog 70 #[.slice A n c] w fun e w' => e = .returned (.tuple #[.int .u64 0, .bool false]) ∧ w = w' := by
  rcases h with h | h
  · obtain rfl : n = 0 := by omega
    go_enter Try.func70, Try.ntmps70
    go_wp2
    go_ret2
    exact ⟨rfl, rfl⟩
  · have h0 : ((n : Int) == 0) = false := by simp; omega
    go_enter Try.func70, Try.ntmps70
    go_wp2
    go_ret2
    exact ⟨rfl, rfl⟩

set_option maxHeartbeats 400000 in
theorem rget_yes (A : Option Addr) (n c : Nat) (l : List UInt8) (w : World) (B : Nat) (h : Reads w B A n l) (h1 : 1 ≤ n) (h2 : n ≤ 8) :
    Calls Try.prog 70 #[.slice A n c] w fun e w' => e = .returned (.tuple #[.int .u64 (leNum l : Int), .bool true]) ∧ w = w' := by
  have hl := h.1
  obtain ⟨b, o, rfl, hb, hc⟩ := h.at_ (by omega)
  have h0 : ((n : Int) == 0) = false := by simp; omega
  have h8 : decide ((8 : Int) < n) = false := by simp; omega
  go_enter Try.func70, Try.ntmps70
  go_wp2_with fail
  go_loop [4, 5] (fun x i => ∃ k : Nat, k ≤ n ∧ i = .int .i64 ((n : Int) - 1 - k) ∧ ∃ y : Nat, x = .int .u64 y ∧ Hid (y = leNum (l.drop (n - k)))) (fun _ i => (intOf i + 1).toNat)
  case atStart => exact ⟨0, Nat.zero_le _, by simp, 0, rfl, by show _ = _; rw [List.drop_of_length_le (by omega)]; rfl⟩
  case round =>
    obtain ⟨k, hk, rfl, y, rfl, hy⟩ := hrel
    by_cases hlt : k < n
    · obtain ⟨j, hj⟩ : ∃ j : Nat, n = k + 1 + j := ⟨n - k - 1, by omega⟩
      have hj' : ((n : Int) - 1 - (k : Int)) = (j : Int) := by omega
      rw [hj']
      have c1 := hc j (by omega)
      obtain ⟨d, hd⟩ : ∃ d, d = (l.getD j 0).toNat := ⟨_, rfl⟩
      rw [← hd] at c1
      have hd' : d < 256 := by rw [hd]; exact (l.getD j 0).toNat_lt
      have HD := Lib.hid hd
      have hyb : y < 72057594037927936 := by
        have := leNum_lt (l.drop (n - k))
        have h8 := pow_le8 k (by omega)
        rw [hy.out]
        simp only [List.length_drop, show l.length - (n - k) = k by omega] at this
        omega
      have J := Lib.hid hj
      have z1 : (j : Int) < (n : Int) := by omega
      clear hc hd hj hj'
      go_wp2_with fail
      have hj := J.out
      go_round
      case rel =>
        refine ⟨k + 1, by omega, by go_num, d + 256 * y, ?_, ?_⟩
        · go_num
        · show _ = _
          rw [show n - (k + 1) = j by omega, List.drop_eq_getElem_cons (by omega), hy.out, HD.out, show n - k = j + 1 by omega]
          simp [leNum, List.getD, show j < l.length by omega]
      case measure => simp [intOf]
    · obtain rfl : k = n := by omega
      have e := hy.out
      rw [Nat.sub_self, List.drop_zero] at e
      have E := Lib.hid e
      clear e hy
      go_wp2_with fail
      go_ret2
      rw [E.out]
      exact ⟨rfl, rfl⟩
end Go.Proofs.Ytgbkpbmilaafgaa

/- Contracts: which numbers of bytes make a number. It proves no statement. -/



namespace Go.Proofs.Ytgbkpbmilaafgaa
open Go.RowKit
set_option linter.unusedVariables false
set_option linter.unusedSimpArgs false

theorem fits_yes (n : Int) (w : World) (h1 : 1 ≤ n) (h2 : n ≤ 8) :
    Calls Try.prog 71 #[.int .i64 n] w fun e w' => e = .returned (.bool true) ∧ w = w' := by
  go_enter Try.func71, Try.ntmps71
  go_wp2
  go_ret
  exact ⟨rfl, rfl⟩
theorem fits_no (n : Int) (w : World) (h : n < 1 ∨ 8 < n) :
    Calls Try.prog 71 #[.int .i64 n] w fun e w' => e = .returned (.bool false) ∧ w = w' := by
  rcases h with h | h
  · go_enter Try.func71, Try.ntmps71
    go_wp2
    go_ret
    exact ⟨rfl, rfl⟩
  · have h1 : 1 ≤ n := by omega
    have h2 : decide (n ≤ 8) = false := by simp; omega
    go_enter Try.func71, Try.ntmps71
    go_wp2
    go_ret
    exact ⟨rfl, rfl⟩
end Go.Proofs.Ytgbkpbmilaafgaa

/- Contracts: a number as bytes. It proves no statement. -/



namespace Go.Proofs.Ytgbkpbmilaafgaa
open Go.RowKit
set_option linter.unusedVariables false

def leBytes (x n : Nat) : List UInt8 := (List.range n).map (fun i => UInt8.ofNat (x / 2 ^ (8 * i)))
theorem leBytes_length (x n : Nat) : (leBytes x n).length = n := by simp [leBytes]
theorem leBytes_succ (x n : Nat) : leBytes x (n + 1) = leBytes x n ++ [UInt8.ofNat (x / 2 ^ (8 * n))] := by simp [leBytes, List.range_succ]

theorem byte_cast (y : Nat) : ((UInt8.ofNat y).toNat : Int) = (y : Int) % 256 := by simp
theorem le_cast (x k : Nat) : ((UInt8.ofNat (x / 2 ^ (8 * k))).toNat : Int) = (x : Int) / 2 ^ (8 * k) % 256 := by
  rw [byte_cast]; simp

theorem put_step {w : World} {B g x n k : Nat} (hk : k < n) (h : w.ownsRow B 5 1 (.slice (some ⟨g, 0, none⟩) n n) n (bytesV (leBytes x k ++ List.replicate (n - k) 0))) :
    (w.setCell ⟨g, k, none⟩ (.int .u8 ((UInt8.ofNat (x / 2 ^ (8 * k))).toNat : Int))).ownsRow B 5 1 (.slice (some ⟨g, 0, none⟩) n n) n (bytesV (leBytes x (k + 1) ++ List.replicate (n - (k + 1)) 0)) := by
  have hs := (h.stored k (.int .u8 ((UInt8.ofNat (x / 2 ^ (8 * k))).toNat : Int))).1
  rw [bytesV_set] at hs
  have e : (leBytes x k ++ List.replicate (n - k) 0).set k (UInt8.ofNat (x / 2 ^ (8 * k))) = leBytes x (k + 1) ++ List.replicate (n - (k + 1)) 0 := by
    rw [leBytes_succ, List.set_append_right _ _ (by simp [leBytes_length])]
    obtain ⟨m, rfl⟩ : ∃ m, n = k + 1 + m := ⟨n - (k + 1), by omega⟩
    simp [leBytes_length, show k + 1 + m - k = m + 1 by omega, List.replicate_succ]
  rw [e] at hs
  exact hs

set_option maxRecDepth 100000 in
set_option maxHeartbeats 400000 in
theorem put_yes (x n : Nat) (w : World) (hx : x < 18446744073709551616) (h1 : 1 ≤ n) (h2 : n ≤ 8) :
    Calls Try.prog 46 #[.int .u64 x, .int .i64 n] w fun e w' =>
      e = .returned (.slice (some ⟨w.heap.size, 0, none⟩) n n) ∧ w'.ownsRow w.heap.size 5 1 (.slice (some ⟨w.heap.size, 0, none⟩) n n) n (bytesV (leBytes x n)) ∧ Still w w' := by
  obtain ⟨i0, hi, hz0, hz1, hz2⟩ := info_parts Try.infoByte
  obtain ⟨B, hB⟩ : ∃ B, B = w.heap.size := ⟨_, rfl⟩
  have HX := Lib.hid hx
  clear hx
  go_enter Try.func46, Try.ntmps46
  go_wp2_with (first | (go_at_call 71; refine (fits_yes _ _ (by omega) (by omega)).mono ?_; rintro e w' ⟨rfl, rfl⟩) | (at_make; go_must (refine wpList_make_full _ rfl _ _ 27 rfl w.heap.size 5 i0 (.int .u8 0) 1 Try.underlying27 hi hz0 hz1 _ _ _ _ n rfl rfl rfl rfl ?c1 ?c2 ?c3 ?_)))
  case c1 => rw [hz2]; omega
  case c2 => unfold maxLen; omega
  case c3 => exact Nat.le_refl _
  intro w1 hown hgrow
  have hst : Still w w1 := (Below.refl _ _).grown hgrow (Nat.le_refl _) (by intro k hk; cases hk)
  clear hgrow
  go_wp2_with fail
  go_loopw [6, 14] (fun _ i wr => ∃ k : Nat, k ≤ n ∧ i = .int .i64 k ∧ wr.ownsRow w.heap.size 5 1 (.slice (some ⟨w.heap.size, 0, none⟩) n n) n (bytesV (leBytes x k ++ List.replicate (n - k) 0)) ∧ Still w wr)
    (fun _ i _ => n - (intOf i).toNat)
  case atStart => exact ⟨0, Nat.zero_le _, rfl, by
    rw [toList_madeCells_one, bytesV_rep] at hown
    simpa [leBytes] using hown, hst⟩
  case round =>
    obtain ⟨k, hk, rfl, hownr, hstr⟩ := hrel
    have hc : k < n → wr.cell? ⟨w.heap.size, k, none⟩ = some (.int .u8 (((leBytes x k ++ List.replicate (n - k) 0).getD k 0).toNat : Int)) := fun h => by
      rw [hownr.cellAt k (by omega), bytesV_get _ _ (by simp [leBytes_length]; omega)]
    have hf : wr.frozen? ⟨w.heap.size, k, none⟩ = false := hownr.frozenAt k
    go_wp2_with fail
    · have hlt : k < n := by assumption
      go_roundw
      case rel => exact ⟨k + 1, by omega, by go_num, by
        have h := put_step hlt hownr
        rw [le_cast] at h
        exact h, hstr.setCell (Nat.le_refl _) _⟩
      case measure => simp [intOf]; omega
    · obtain rfl : k = n := by omega
      go_ret
      exact ⟨rfl, by simpa using hownr, hstr⟩
theorem put_no (x : Nat) (n : Int) (w : World) (h : n < 1 ∨ 8 < n) :
    Calls Try.prog 46 #[.int .u64 x, .int .i64 n] w fun e w' => e = .returned (.slice none 0 0) ∧ w = w' := by
  go_enter Try.func46, Try.ntmps46
  go_wp2_with (go_at_call 71; refine (fits_no _ _ h).mono ?_; rintro e w' ⟨rfl, rfl⟩)
  go_ret
  exact ⟨rfl, rfl⟩
end Go.Proofs.Ytgbkpbmilaafgaa

/- Numbers as bytes and back. It proves no statement. -/


namespace Go.Proofs.Ytgbkpbmilaafgaa
set_option linter.unusedVariables false
set_option linter.unusedSimpArgs false

theorem leNum_leB (x n : Nat) : leNum (leBytes x n) = x % 2 ^ (8 * n) := by
  induction n with
  | zero => simp [leBytes, leNum, Nat.mod_one]
  | succ n ih =>
    rw [leBytes_succ, leNum_snoc, ih, leBytes_length, UInt8.toNat_ofNat']
    rw [show 8 * (n + 1) = 8 * n + 8 by omega, Nat.pow_add, Nat.mod_mul]
    simp only [Nat.mul_comm]
theorem leNum_inj : ∀ (l m : List UInt8), l.length = m.length → leNum l = leNum m → l = m
  | [], [], _, _ => rfl
  | a :: l, b :: m, hl, h => by
    simp only [leNum] at h
    have ha := a.toNat_lt
    have hb := b.toNat_lt
    have e1 : a.toNat = b.toNat := by omega
    have e2 : leNum l = leNum m := by omega
    rw [UInt8.toNat_inj.1 e1, leNum_inj l m (by simpa using hl) e2]
  | [], _ :: _, hl, _ => by simp at hl
  | _ :: _, [], hl, _ => by simp at hl
theorem leB_leNum (l : List UInt8) : leBytes (leNum l) l.length = l := by
  refine leNum_inj _ _ (leBytes_length _ _) ?_
  rw [leNum_leB, Nat.mod_eq_of_lt (leNum_lt l)]

end Go.Proofs.Ytgbkpbmilaafgaa

/- Plain facts on numbers: turning, flipping, masks, bit by bit. It names no program and proves no statement. -/


namespace Go.Proofs.Ytgbkpbmilaafgaa
set_option linter.unusedVariables false
set_option linter.unusedSimpArgs false

theorem bit_high (b x j : Nat) (hx : x < 2 ^ b) (hj : b ≤ j) : x.testBit j = false :=
  Nat.testBit_lt_two_pow (Nat.lt_of_lt_of_le hx (Nat.pow_le_pow_right (by omega) hj))
theorem eq_of_bits (b x y : Nat) (hx : x < 2 ^ b) (hy : y < 2 ^ b) (h : ∀ j, j < b → x.testBit j = y.testBit j) : x = y := by
  apply Nat.eq_of_testBit_eq
  intro j
  by_cases hj : j < b
  · exact h j hj
  · rw [bit_high b x j hx (by omega), bit_high b y j hy (by omega)]

/-- x turned to the left by s places, of b bits. -/
def rotl (b x s : Nat) : Nat := (x * 2 ^ s % 2 ^ b) ||| (x / 2 ^ (b - s))
theorem rotl_lt (b x s : Nat) (hx : x < 2 ^ b) : rotl b x s < 2 ^ b :=
  Nat.or_lt_two_pow (Nat.mod_lt _ (Nat.two_pow_pos b)) (Nat.lt_of_le_of_lt (Nat.div_le_self _ _) hx)
theorem rot_cast64 (x s : Nat) (hx : x < 18446744073709551616) (hs : s < 64) :
    bits BinOp.or IntKind.u64 (IntKind.u64.wrap (↑x * 2 ^ s)) (↑x / 2 ^ (64 - s)) = ((rotl 64 x s : Nat) : Int) := by
  have e1 : IntKind.u64.wrap ((x : Int) * 2 ^ s) = ((x * 2 ^ s % 2 ^ 64 : Nat) : Int) := by rw [IntKind.wrap_u64]; simp
  have e2 : ((x : Int) / 2 ^ (64 - s)) = ((x / 2 ^ (64 - s) : Nat) : Int) := by simp
  rw [e1, e2, u64_or_nat _ _ (Nat.mod_lt _ (by omega)) (Nat.lt_of_le_of_lt (Nat.div_le_self _ _) hx)]
  rfl
theorem rot_cast32 (x s : Nat) (hx : x < 4294967296) (hs : s < 32) :
    bits BinOp.or IntKind.u32 ((↑x * 2 ^ s) % 4294967296) (↑x / 2 ^ (32 - s)) = ((rotl 32 x s : Nat) : Int) := by
  have e1 : ((x : Int) * 2 ^ s) % 4294967296 = ((x * 2 ^ s % 2 ^ 32 : Nat) : Int) := by simp
  have e2 : ((x : Int) / 2 ^ (32 - s)) = ((x / 2 ^ (32 - s) : Nat) : Int) := by simp
  rw [e1, e2, u32_or_nat _ _ (Nat.mod_lt _ (by omega)) (Nat.lt_of_le_of_lt (Nat.div_le_self _ _) hx)]
  rfl

theorem rotl_bit (b x s j : Nat) (hx : x < 2 ^ b) (hs : s < b) (hj : j < b) : (rotl b x s).testBit j = x.testBit ((j + (b - s)) % b) := by
  unfold rotl
  rw [Nat.testBit_or, Nat.testBit_mod_two_pow, Nat.testBit_mul_two_pow, Nat.testBit_div_two_pow]
  by_cases h : s ≤ j
  · rw [bit_high b x (j + (b - s)) hx (by omega), show j + (b - s) = (j - s) + b by omega, Nat.add_mod_right, Nat.mod_eq_of_lt (by omega)]
    simp [hj, h]
  · rw [Nat.mod_eq_of_lt (by omega)]
    simp [h]
theorem rotl_add64 (x s t : Nat) (hx : x < 2 ^ 64) (hs : s < 64) (ht : t < 64) : rotl 64 (rotl 64 x s) t = rotl 64 x ((s + t) % 64) := by
  have h1 := rotl_lt 64 x s hx
  refine eq_of_bits 64 _ _ (rotl_lt _ _ _ h1) (rotl_lt _ _ _ hx) fun j hj => ?_
  rw [rotl_bit 64 _ t j h1 ht hj, rotl_bit 64 x s _ hx hs (by omega), rotl_bit 64 x _ j hx (by omega) hj]
  congr 1
  omega
theorem rotl_add32 (x s t : Nat) (hx : x < 2 ^ 32) (hs : s < 32) (ht : t < 32) : rotl 32 (rotl 32 x s) t = rotl 32 x ((s + t) % 32) := by
  have h1 := rotl_lt 32 x s hx
  refine eq_of_bits 32 _ _ (rotl_lt _ _ _ h1) (rotl_lt _ _ _ hx) fun j hj => ?_
  rw [rotl_bit 32 _ t j h1 ht hj, rotl_bit 32 x s _ hx hs (by omega), rotl_bit 32 x _ j hx (by omega) hj]
  congr 1
  omega
theorem rotl_zero (b x : Nat) (hx : x < 2 ^ b) (hb : 0 < b) : rotl b x 0 = x := by
  refine eq_of_bits b _ _ (rotl_lt _ _ _ hx) hx fun j hj => ?_
  rw [rotl_bit b x 0 j hx hb hj]
  simp [Nat.mod_eq_of_lt hj]

/-- The first k bits of x, the other way round. -/
def flipTo (x : Nat) : Nat → Nat
  | 0 => 0
  | k + 1 => flipTo x k * 2 + x / 2 ^ k % 2
theorem flipTo_lt (x k : Nat) : flipTo x k < 2 ^ k := by
  induction k with
  | zero => simp [flipTo]
  | succ k ih => rw [flipTo, Nat.pow_succ]; omega
theorem flipTo_bit (x k j : Nat) (hj : j < k) : (flipTo x k).testBit j = x.testBit (k - 1 - j) := by
  induction k generalizing j with
  | zero => omega
  | succ k ih =>
    rw [flipTo]
    match j with
    | 0 =>
      rw [Nat.testBit_zero, Nat.testBit_eq_decide_div_mod_eq]
      simp only [Nat.add_sub_cancel, Nat.sub_zero]
      congr 1
      rw [Nat.add_mod, Nat.mul_mod_left]
      simp
    | j + 1 =>
      rw [Nat.testBit_succ, show (flipTo x k * 2 + x / 2 ^ k % 2) / 2 = flipTo x k by omega, ih j (by omega)]
      congr 1
      omega
theorem flipTo_flip (x : Nat) (hx : x < 2 ^ 32) : flipTo (flipTo x 32) 32 = x := by
  refine eq_of_bits 32 _ _ (flipTo_lt _ _) hx fun j hj => ?_
  rw [flipTo_bit _ 32 j hj, flipTo_bit _ 32 _ (by omega)]
  congr 1
  omega
theorem flipTo_rotl (x s : Nat) (hx : x < 2 ^ 32) (hs : s < 32) : flipTo (rotl 32 x s) 32 = rotl 32 (flipTo x 32) ((32 - s) % 32) := by
  have h1 := flipTo_lt x 32
  refine eq_of_bits 32 _ _ (flipTo_lt _ _) (rotl_lt _ _ _ h1) fun j hj => ?_
  rw [flipTo_bit _ 32 j hj, rotl_bit 32 x s _ hx hs (by omega), rotl_bit 32 _ _ j h1 (by omega) hj, flipTo_bit _ 32 _ (by omega)]
  congr 1
  omega

/-- One step of a flip: places exchanged by p = 2 ^ s under a mask. -/
def stepN (p m x : Nat) : Nat := (x / p &&& m) ||| ((x &&& m) * p % 4294967296)
theorem stepN_lt (p m x : Nat) (hx : x < 2 ^ 32) : stepN p m x < 2 ^ 32 :=
  Nat.or_lt_two_pow (Nat.lt_of_le_of_lt Nat.and_le_left (Nat.lt_of_le_of_lt (Nat.div_le_self _ _) hx)) (Nat.mod_lt _ (by omega))
def stepIx (s m j : Nat) : Nat := if m.testBit j then j + s else j - s
theorem stepN_bit (s m x j : Nat) (hj : j < 32) (h1 : m.testBit j = true → ¬ (s ≤ j ∧ m.testBit (j - s) = true)) (h2 : m.testBit j = false → s ≤ j ∧ m.testBit (j - s) = true) :
    (stepN (2 ^ s) m x).testBit j = x.testBit (stepIx s m j) := by
  unfold stepN stepIx
  rw [Nat.testBit_or, Nat.testBit_and, Nat.testBit_div_two_pow, show (4294967296 : Nat) = 2 ^ 32 by rfl, Nat.testBit_mod_two_pow, Nat.testBit_mul_two_pow, Nat.testBit_and]
  cases hm : m.testBit j
  · obtain ⟨a, b⟩ := h2 hm
    simp [hj, a, b]
  · have h := h1 hm
    by_cases a : s ≤ j
    · have b : m.testBit (j - s) = false := by simpa [a] using h
      simp [a, b, Nat.add_comm]
    · simp [a, Nat.add_comm]
/-- The five steps of a flip of 32 bits. -/
def revN (x : Nat) : Nat :=
  rotl 32 (stepN 256 16711935 (stepN 16 252645135 (stepN 4 858993459 (stepN 2 1431655765 x)))) 16
theorem revN_eq (x : Nat) (hx : x < 2 ^ 32) : revN x = flipTo x 32 := by
  have l1 := stepN_lt 2 1431655765 x hx
  have l2 := stepN_lt 4 858993459 _ l1
  have l3 := stepN_lt 16 252645135 _ l2
  have l4 := stepN_lt 256 16711935 _ l3
  refine eq_of_bits 32 _ _ (rotl_lt _ _ _ l4) (flipTo_lt _ _) fun j hj => ?_
  have d1 : ∀ j, j < 32 → (((1431655765 : Nat).testBit j = true → ¬ (1 ≤ j ∧ (1431655765 : Nat).testBit (j - 1) = true)) ∧ ((1431655765 : Nat).testBit j = false → 1 ≤ j ∧ (1431655765 : Nat).testBit (j - 1) = true) ∧ stepIx 1 1431655765 j < 32) := by decide
  have d2 : ∀ j, j < 32 → (((858993459 : Nat).testBit j = true → ¬ (2 ≤ j ∧ (858993459 : Nat).testBit (j - 2) = true)) ∧ ((858993459 : Nat).testBit j = false → 2 ≤ j ∧ (858993459 : Nat).testBit (j - 2) = true) ∧ stepIx 2 858993459 j < 32) := by decide
  have d3 : ∀ j, j < 32 → (((252645135 : Nat).testBit j = true → ¬ (4 ≤ j ∧ (252645135 : Nat).testBit (j - 4) = true)) ∧ ((252645135 : Nat).testBit j = false → 4 ≤ j ∧ (252645135 : Nat).testBit (j - 4) = true) ∧ stepIx 4 252645135 j < 32) := by decide
  have d4 : ∀ j, j < 32 → (((16711935 : Nat).testBit j = true → ¬ (8 ≤ j ∧ (16711935 : Nat).testBit (j - 8) = true)) ∧ ((16711935 : Nat).testBit j = false → 8 ≤ j ∧ (16711935 : Nat).testBit (j - 8) = true) ∧ stepIx 8 16711935 j < 32) := by decide
  have d5 : ∀ j, j < 32 → stepIx 1 1431655765 (stepIx 2 858993459 (stepIx 4 252645135 (stepIx 8 16711935 ((j + (32 - 16)) % 32)))) = 32 - 1 - j := by decide
  unfold revN
  have e5 : (j + (32 - 16)) % 32 < 32 := by omega
  obtain ⟨a4, b4, c4⟩ := d4 _ e5
  obtain ⟨a3, b3, c3⟩ := d3 _ c4
  obtain ⟨a2, b2, c2⟩ := d2 _ c3
  obtain ⟨a1, b1, c1⟩ := d1 _ c2
  rw [rotl_bit 32 _ 16 j l4 (by omega) hj]
  have s4 := stepN_bit 8 16711935 (stepN 16 252645135 (stepN 4 858993459 (stepN 2 1431655765 x))) _ e5 a4 b4
  have s3 := stepN_bit 4 252645135 (stepN 4 858993459 (stepN 2 1431655765 x)) _ c4 a3 b3
  have s2 := stepN_bit 2 858993459 (stepN 2 1431655765 x) _ c3 a2 b2
  have s1 := stepN_bit 1 1431655765 x _ c2 a1 b1
  rw [show (2 : Nat) ^ 8 = 256 by rfl] at s4
  rw [show (2 : Nat) ^ 4 = 16 by rfl] at s3
  rw [show (2 : Nat) ^ 2 = 4 by rfl] at s2
  rw [show (2 : Nat) ^ 1 = 2 by rfl] at s1
  rw [s4, s3, s2, s1, d5 j hj, flipTo_bit _ 32 j hj]
theorem turn_ix (b j k s : Nat) (hj : j < b) (hk : k < b) (hs : s < b) : (k + s) % b = j ↔ (j + (b - s)) % b = k := by
  have e1 : (k + s) % b = if k + s < b then k + s else k + s - b := by
    split
    · exact Nat.mod_eq_of_lt (by omega)
    · rw [Nat.mod_eq_sub_mod (by omega), Nat.mod_eq_of_lt (by omega)]
  have e2 : (j + (b - s)) % b = if j + (b - s) < b then j + (b - s) else j + (b - s) - b := by
    split
    · exact Nat.mod_eq_of_lt (by omega)
    · rw [Nat.mod_eq_sub_mod (by omega), Nat.mod_eq_of_lt (by omega)]
  rw [e1, e2]
  split <;> split <;> omega
/-- The first k bits of x, each brought to its place. -/
def turnTo (b x s : Nat) : Nat → Nat
  | 0 => 0
  | k + 1 => turnTo b x s k ||| (x / 2 ^ k % 2) * 2 ^ ((k + s) % b)
theorem turnTo_bit (b x s k j : Nat) (hs : s < b) (hj : j < b) (hk : k ≤ b) : (turnTo b x s k).testBit j = (decide ((j + (b - s)) % b < k) && x.testBit ((j + (b - s)) % b)) := by
  induction k with
  | zero => simp [turnTo]
  | succ k ih =>
    rw [turnTo, Nat.testBit_or, ih (by omega), Nat.testBit_mul_two_pow]
    have hix := turn_ix b j k s hj (by omega) hs
    by_cases h : (k + s) % b = j
    · rw [hix.1 h, h]
      have e : (x / 2 ^ k % 2).testBit 0 = x.testBit k := by
        rw [Nat.testBit_zero, Nat.testBit_eq_decide_div_mod_eq]
        simp
      simp [e]
    · have h2 : ¬ (j + (b - s)) % b = k := fun e => h (hix.2 e)
      have e : (decide ((k + s) % b ≤ j) && (x / 2 ^ k % 2).testBit (j - (k + s) % b)) = false := by
        by_cases h3 : (k + s) % b ≤ j
        · have h4 : (x / 2 ^ k % 2).testBit (j - (k + s) % b) = false := bit_high 1 _ _ (by omega) (by omega)
          simp [h4]
        · simp [h3]
      rw [e, Bool.or_false]
      congr 1
      by_cases h5 : (j + (b - s)) % b < k
      · simp [h5, show (j + (b - s)) % b < k + 1 by omega]
      · simp [h5, show ¬ (j + (b - s)) % b < k + 1 by omega]
theorem turnTo_lt (b x s k : Nat) (hb : 0 < b) : turnTo b x s k < 2 ^ b := by
  induction k with
  | zero => simp [turnTo, Nat.two_pow_pos]
  | succ k ih =>
    rw [turnTo]
    refine Nat.or_lt_two_pow ih ?_
    have h1 : (k + s) % b < b := Nat.mod_lt _ hb
    have h2 : x / 2 ^ k % 2 ≤ 1 := by omega
    refine Nat.lt_of_le_of_lt (Nat.mul_le_mul_right _ h2) ?_
    rw [Nat.one_mul]
    exact Nat.pow_lt_pow_right (by omega) h1
theorem turnTo_all (b x s : Nat) (hx : x < 2 ^ b) (hs : s < b) : turnTo b x s b = rotl b x s := by
  refine eq_of_bits b _ _ (turnTo_lt _ _ _ _ (by omega)) (rotl_lt _ _ _ hx) fun j hj => ?_
  rw [turnTo_bit b x s b j hs hj (Nat.le_refl _), rotl_bit b x s j hx hs hj]
  simp [Nat.mod_lt _ (show 0 < b by omega)]

end Go.Proofs.Ytgbkpbmilaafgaa

/- Plain facts on XXH64: the document's own answer as a function of bytes. It names no program and proves no statement. -/


namespace Go.Proofs.Ytgbkpbmilaafgaa
open Go.RowKit
set_option linter.unusedVariables false
set_option linter.unusedSimpArgs false

/-- 2^64. -/
def m64 : Nat := 18446744073709551616
/-- The five primes. -/
def xP1 : Nat := 11400714785074694791
def xP2 : Nat := 14029467366897019727
def xP3 : Nat := 1609587929392839161
def xP4 : Nat := 9650029242287828579
def xP5 : Nat := 2870177450012600261
/-- A lane takes a word. -/
def xLane (a x : Nat) : Nat := rotl 64 ((a + x * xP2) % m64) 31 * xP1 % m64
/-- The word of eight bytes at a place. -/
def xWord (l : List UInt8) (i : Nat) : Nat := leNum ((l.drop i).take 8)
/-- How the four lanes begin. -/
def xLane0 (seed k : Nat) : Nat :=
  if k = 0 then (seed + xP1 + xP2) % m64 else if k = 1 then (seed + xP2) % m64 else if k = 2 then seed else (seed + (m64 - xP1)) % m64
theorem xLane0_0 (seed : Nat) : xLane0 seed 0 = (seed + xP1 + xP2) % m64 := if_pos rfl
theorem xLane0_1 (seed : Nat) : xLane0 seed 1 = (seed + xP2) % m64 := (if_neg (by omega)).trans (if_pos rfl)
theorem xLane0_2 (seed : Nat) : xLane0 seed 2 = seed := (if_neg (by omega)).trans ((if_neg (by omega)).trans (if_pos rfl))
theorem xLane0_3 (seed : Nat) : xLane0 seed 3 = (seed + (m64 - xP1)) % m64 := (if_neg (by omega)).trans ((if_neg (by omega)).trans (if_neg (by omega)))
/-- The k-th lane behind m times 32 bytes. -/
def xRun (a k : Nat) (l : List UInt8) : Nat → Nat
  | 0 => a
  | m + 1 => xLane (xRun a k l m) (xWord l (32 * m + 8 * k))
def xMix (h a : Nat) : Nat := ((h ^^^ xLane 0 a) * xP1 + xP4) % m64
/-- The first j lanes mixed in. -/
def xMixes (h : Nat) (v : Nat → Nat) : Nat → Nat
  | 0 => h
  | j + 1 => xMix (xMixes h v j) (v j)
/-- The four lanes come together. -/
def xHead (v : Nat → Nat) : Nat :=
  xMix (xMix (xMix (xMix ((rotl 64 (v 0) 1 + rotl 64 (v 1) 7 + rotl 64 (v 2) 12 + rotl 64 (v 3) 18) % m64) (v 0)) (v 1)) (v 2)) (v 3)
def x8 (h x : Nat) : Nat := (rotl 64 (h ^^^ xLane 0 x) 27 * xP1 + xP4) % m64
def x4 (h x : Nat) : Nat := (rotl 64 (h ^^^ (x * xP1 % m64)) 23 * xP2 + xP3) % m64
def x1 (h : Nat) (b : UInt8) : Nat := rotl 64 (h ^^^ (b.toNat * xP5 % m64)) 11 * xP1 % m64
/-- The words of eight of what is left. -/
def xEights (h : Nat) (l : List UInt8) : Nat → Nat
  | 0 => h
  | j + 1 => x8 (xEights h l j) (xWord l (8 * j))
/-- What is left behind the words of eight. -/
def xEnd (h : Nat) (l : List UInt8) : Nat := if 4 ≤ l.length then (l.drop 4).foldl x1 (x4 h (leNum (l.take 4))) else l.foldl x1 h
def xTail (h : Nat) (l : List UInt8) : Nat := xEnd (xEights h l (l.length / 8)) (l.drop (8 * (l.length / 8)))
def xFin (h : Nat) : Nat :=
  let h1 := (h ^^^ h / 2 ^ 33) * xP2 % m64
  let h2 := (h1 ^^^ h1 / 2 ^ 29) * xP3 % m64
  h2 ^^^ h2 / 2 ^ 32
/-- The sum, from what the lanes are behind all whole thirty-twos. -/
def xClose (seed : Nat) (v : Nat → Nat) (n : Nat) (rest : List UInt8) : Nat :=
  xFin (xTail (((if 32 ≤ n then xHead v else (seed + xP5) % m64) + n) % m64) rest)
def xxSum (l : List UInt8) (seed : Nat) : Nat :=
  xClose seed (fun k => xRun (xLane0 seed k) k l (l.length / 32)) l.length (l.drop (32 * (l.length / 32)))

theorem xRun_zero (a k : Nat) (l : List UInt8) : xRun a k l 0 = a := rfl
theorem xRun_succ (a k : Nat) (l : List UInt8) (m : Nat) : xRun a k l (m + 1) = xLane (xRun a k l m) (xWord l (32 * m + 8 * k)) := rfl
theorem xWord_lt (l : List UInt8) (i : Nat) : xWord l i < m64 := by
  have h := leNum_lt ((l.drop i).take 8)
  refine Nat.lt_of_lt_of_le h ?_
  have : 8 * ((l.drop i).take 8).length ≤ 64 := by simp [List.length_take]; omega
  exact Nat.pow_le_pow_right (by omega) this
theorem xLane_lt (a x : Nat) : xLane a x < m64 := Nat.mod_lt _ (by decide)
theorem xMix_lt (h a : Nat) : xMix h a < m64 := Nat.mod_lt _ (by decide)
theorem x8_lt (h x : Nat) : x8 h x < m64 := Nat.mod_lt _ (by decide)
theorem x4_lt (h x : Nat) : x4 h x < m64 := Nat.mod_lt _ (by decide)
theorem x1_lt (h : Nat) (b : UInt8) : x1 h b < m64 := Nat.mod_lt _ (by decide)
theorem xLane0_lt (seed k : Nat) (h : seed < m64) : xLane0 seed k < m64 := by
  unfold xLane0
  split
  · exact Nat.mod_lt _ (by decide)
  · split
    · exact Nat.mod_lt _ (by decide)
    · split
      · exact h
      · exact Nat.mod_lt _ (by decide)
theorem xRun_lt (a k : Nat) (l : List UInt8) (m : Nat) (h : a < m64) : xRun a k l m < m64 := by
  cases m with
  | zero => exact h
  | succ m => exact xLane_lt _ _
theorem xMixes_lt (h : Nat) (v : Nat → Nat) (j : Nat) (hh : h < m64) : xMixes h v j < m64 := by
  cases j with
  | zero => exact hh
  | succ j => exact xMix_lt _ _
theorem xHead_mixes (v : Nat → Nat) : xHead v = xMixes ((rotl 64 (v 0) 1 + rotl 64 (v 1) 7 + rotl 64 (v 2) 12 + rotl 64 (v 3) 18) % m64) v 4 := rfl
theorem xHead_lt (v : Nat → Nat) : xHead v < m64 := xMix_lt _ _
theorem xEights_lt (h : Nat) (l : List UInt8) (j : Nat) (hh : h < m64) : xEights h l j < m64 := by
  cases j with
  | zero => exact hh
  | succ j => exact x8_lt _ _
theorem x1s_lt (h : Nat) (l : List UInt8) (hh : h < m64) : l.foldl x1 h < m64 := by
  induction l generalizing h with
  | nil => exact hh
  | cons b r ih => exact ih _ (x1_lt _ _)
/-- A word of what stands ahead doesn't hang on what follows. -/
theorem xWord_append (a b : List UInt8) (i : Nat) (h : i + 8 ≤ a.length) : xWord (a ++ b) i = xWord a i := by
  unfold xWord
  rw [List.drop_append_of_le_length (by omega), List.take_append_of_le_length (by simp; omega)]
theorem xRun_append (s k : Nat) (a b : List UInt8) (m : Nat) (hk : k < 4) (h : 32 * m ≤ a.length) : xRun s k (a ++ b) m = xRun s k a m := by
  induction m with
  | zero => rfl
  | succ m ih =>
    unfold xRun
    rw [ih (by omega), xWord_append _ _ _ (by omega)]
theorem xWord_drop (l : List UInt8) (i j : Nat) : xWord (l.drop i) j = xWord l (i + j) := by
  unfold xWord
  rw [List.drop_drop]
/-- The lanes go on: behind m times 32 bytes of a, j times 32 of b. -/
theorem xRun_more (s k : Nat) (a b : List UInt8) (m j : Nat) (hk : k < 4) (h : a.length = 32 * m) : xRun s k (a ++ b) (m + j) = xRun (xRun s k a m) k b j := by
  induction j with
  | zero => exact xRun_append s k a b m hk (by omega)
  | succ j ih =>
    rw [← Nat.add_assoc]
    unfold xRun
    rw [ih]
    congr 1
    have e : b = (a ++ b).drop a.length := by simp
    rw [e, xWord_drop, h]
    simp only [List.drop_left' h]
    congr 1
    omega
/-- The four lanes while they are counted one behind the other. -/
def laneVals (F : Nat → Nat → Nat) (q k m : Nat) : List Nat := [0, 1, 2, 3].map fun j => if j < k then F j q else if j = k then F j m else F j 0
theorem laneVals_next (F : Nat → Nat → Nat) (q k : Nat) (hk : k < 4) : laneVals F q k q = laneVals F q (k + 1) 0 := by
  obtain rfl | rfl | rfl | rfl : k = 0 ∨ k = 1 ∨ k = 2 ∨ k = 3 := by omega
  all_goals simp [laneVals]
theorem laneVals_set (F : Nat → Nat → Nat) (q k m : Nat) (hk : k < 4) : (laneVals F q k m).set k (F k (m + 1)) = laneVals F q k (m + 1) := by
  obtain rfl | rfl | rfl | rfl : k = 0 ∨ k = 1 ∨ k = 2 ∨ k = 3 := by omega
  all_goals simp [laneVals]
theorem laneVals_get (F : Nat → Nat → Nat) (q k m : Nat) (hk : k < 4) : (laneVals F q k m)[k]? = some (F k m) := by
  obtain rfl | rfl | rfl | rfl : k = 0 ∨ k = 1 ∨ k = 2 ∨ k = 3 := by omega
  all_goals simp [laneVals]
theorem laneVals_end (F : Nat → Nat → Nat) (q : Nat) : laneVals F q 4 0 = [F 0 q, F 1 q, F 2 q, F 3 q] := by simp [laneVals]
theorem laneVals_start (F : Nat → Nat → Nat) (q : Nat) : laneVals F q 0 0 = [F 0 0, F 1 0, F 2 0, F 3 0] := by simp [laneVals]
/-- Words as the model's values. -/
def wordsV (l : List Nat) : List Value := l.map fun (x : Nat) => Value.int .u64 (x : Int)
theorem wordsV_set (l : List Nat) (i x : Nat) : (wordsV l).set i (Value.int .u64 (x : Int)) = wordsV (l.set i x) := by simp [wordsV, List.map_set]
theorem wordsV_get (l : List Nat) (i x : Nat) (h : l[i]? = some x) : (wordsV l)[i]? = some (Value.int .u64 (x : Int)) := by simp [wordsV, h]
end Go.Proofs.Ytgbkpbmilaafgaa

/- Mathematics: a table made anew. It proves no statement. -/

namespace Go.Proofs.Ytgbkpbmilaafgaa
set_option linter.unusedVariables false
set_option linter.unusedSimpArgs false

/-- As many slots as so many keys ask for. -/
def NewCap (k n : Nat) : Prop := ∃ e, n = 8 * 2 ^ e ∧ 2 * k + 1 ≤ n ∧ (e = 0 ∨ n < 4 * k + 2)
theorem NewCap.bd {k n : Nat} (h : NewCap k n) : 8 ≤ n ∧ 2 * k + 1 ≤ n ∧ (n = 8 ∨ n < 4 * k + 2) := by
  obtain ⟨e, rfl, h2, h3⟩ := h
  have := Nat.two_pow_pos e
  refine ⟨by omega, h2, ?_⟩
  rcases h3 with rfl | h3
  · exact .inl rfl
  · exact .inr h3
theorem NewCap.uniq {k n n' : Nat} (h : NewCap k n) (h' : NewCap k n') : n = n' := by
  obtain ⟨e, rfl, h2, h3⟩ := h
  obtain ⟨e', rfl, h2', h3'⟩ := h'
  rcases Nat.lt_trichotomy e e' with hlt | rfl | hlt
  · have : 2 ^ (e + 1) ≤ 2 ^ e' := Nat.pow_le_pow_right (by omega) hlt
    rw [Nat.pow_succ] at this
    rcases h3' with rfl | h3'
    · omega
    · omega
  · rfl
  · have : 2 ^ (e' + 1) ≤ 2 ^ e := Nat.pow_le_pow_right (by omega) hlt
    rw [Nat.pow_succ] at this
    rcases h3 with rfl | h3
    · omega
    · omega
theorem keysN_take_succ {S : List Sl} {i : Nat} {s : Sl} (h : S[i]? = some s) : keysN (S.take (i + 1)) = keysN (S.take i) + (if s.isFull then 1 else 0) := by
  unfold keysN
  rw [List.take_add_one, h, List.countP_append]
  simp [List.countP_cons, List.countP_nil]
theorem keysN_take_le (S : List Sl) (i : Nat) : keysN (S.take i) ≤ keysN S := by
  unfold keysN
  have := List.countP_append (p := Sl.isFull) (l₁ := S.take i) (l₂ := S.drop i)
  rw [List.take_append_drop] at this
  omega
/-- Behind i of the elder slots. -/
structure Ren (m n : Nat) (S : List Sl) (i : Nat) (Si : List Sl) : Prop where
  len : Si.length = n
  inv : Inv m Si
  dead : deadN Si = 0
  keys : keysN Si = keysN (S.take i)
  mem : ∀ z : List UInt8 × List Int, z ∈ fulls Si ↔ ∃ q, q < i ∧ S[q]? = some (Sl.full z.1 z.2)
theorem Ren.start {m k n : Nat} (S : List Sl) (h : NewCap k n) : Ren m n S 0 (List.replicate n .empty) := by
  obtain ⟨e, rfl, _⟩ := h
  exact ⟨by simp, Inv.rep m e, deadN_rep _, by rw [keysN_rep]; rfl, fun z => by rw [fulls_rep]; simp⟩
theorem Ren.skip {m n i : Nat} {S Si : List Sl} (h : Ren m n S i Si) {s : Sl} (hs : S[i]? = some s) (hf : s.isFull = false) : Ren m n S (i + 1) Si := by
  refine ⟨h.len, h.inv, h.dead, by rw [keysN_take_succ hs, hf, h.keys]; simp, fun z => ?_⟩
  rw [h.mem]
  constructor
  · rintro ⟨q, hq, e⟩; exact ⟨q, by omega, e⟩
  · rintro ⟨q, hq, e⟩
    refine ⟨q, ?_, e⟩
    rcases Nat.lt_or_ge q i with h1 | h1
    · exact h1
    · have : q = i := by omega
      subst this
      rw [hs] at e
      cases e
      cases hf
section
variable {m n i j : Nat} {S Si : List Sl} {k : List UInt8} {v : List Int}
theorem Ren.new (h : Ren m n S i Si) (hI : Inv m S) (hs : S[i]? = some (.full k v)) (v' : List Int) : (k, v') ∉ fulls Si := by
  intro hm
  obtain ⟨q, hq, e⟩ := (h.mem _).1 hm
  have := (hI.at_uniq e hs).1
  omega
theorem Ren.room (h : Ren m n S i Si) (hc : NewCap (keysN S) n) (hs : S[i]? = some (.full k v)) : 4 * (keysN Si + 1 + deadN Si) ≤ 3 * Si.length := by
  have h1 := keysN_take_succ hs
  have h2 := keysN_take_le S (i + 1)
  have hb := hc.bd
  simp [Sl.isFull] at h1
  rw [h.dead, h.len, h.keys]
  omega
theorem Ren.stop (h : Ren m n S i Si) (hI : Inv m S) (hs : S[i]? = some (.full k v)) : ∃ j, Stop Si k j ∧ Si[pos k Si.length j]? = some Sl.empty := by
  obtain ⟨j, hj⟩ := h.inv.stop_ex k
  refine ⟨j, hj, ?_⟩
  rcases h.inv.find hj with ⟨v', e⟩ | ⟨e, _⟩
  · exact absurd (mem_fulls.2 ⟨_, e⟩) (h.new hI hs v')
  · exact e
theorem Ren.step (h : Ren m n S i Si) (hI : Inv m S) (hc : NewCap (keysN S) n) (hs : S[i]? = some (.full k v)) (hj : Stop Si k j) (he : Si[pos k Si.length j]? = some Sl.empty) : Ren m n S (i + 1) (Si.set (pos k Si.length j) (.full k v)) := by
  obtain ⟨hk, hv, _⟩ := hI.probe i k v hs
  obtain ⟨I, K, D, M⟩ := h.inv.more hj he hk hv (h.room hc hs)
  refine ⟨by rw [List.length_set]; exact h.len, I, by rw [D]; exact h.dead, by rw [K, keysN_take_succ hs, h.keys]; simp [Sl.isFull], fun z => ?_⟩
  rw [M, h.mem]
  constructor
  · rintro (rfl | ⟨q, hq, e⟩)
    · exact ⟨i, by omega, hs⟩
    · exact ⟨q, by omega, e⟩
  · rintro ⟨q, hq, e⟩
    rcases Nat.lt_or_ge q i with h1 | h1
    · exact .inr ⟨q, h1, e⟩
    · have : q = i := by omega
      subst this
      rw [hs] at e
      cases e
      exact .inl rfl
theorem Ren.all (h : Ren m n S S.length Si) : keysN Si = keysN S ∧ ∀ z, z ∈ fulls Si ↔ z ∈ fulls S := by
  refine ⟨by rw [h.keys, List.take_length], fun z => ?_⟩
  rw [h.mem, mem_fulls]
  constructor
  · rintro ⟨q, _, e⟩; exact ⟨q, e⟩
  · rintro ⟨q, e⟩; exact ⟨q, (List.getElem?_eq_some_iff.1 e).1, e⟩
end
end Go.Proofs.Ytgbkpbmilaafgaa
