/- The walk of BitsBack: it returns true, and nothing that was there turns. -/
import Derived.Test.YtammhjkdjkgpdaaBig
namespace Go.Proofs.Ytammhjkdjkgpdaa
open Go.RowKit
set_option linter.unusedVariables false
set_option linter.unusedSimpArgs false

theorem mask_and (x k : Nat) (hx : x < 18446744073709551616) (hk : k ≤ 7) :
    ((x % 2 ^ (8 * k) : Nat) : Int) = bits BinOp.and IntKind.u64 (x : Int) (IntKind.u64.wrap (IntKind.u64.wrap (2 ^ (8 * k)) - 1)) := by
  have hp := pow_le8 k hk
  have h1 : 1 ≤ 2 ^ (8 * k) := Nat.one_le_two_pow
  have e : ((2 : Int) ^ (8 * k)) = ((2 ^ (8 * k) : Nat) : Int) := by simp
  rw [e, u64_wrap_nat _ (by omega), show ((2 ^ (8 * k) : Nat) : Int) - 1 = ((2 ^ (8 * k) - 1 : Nat) : Int) by omega, u64_wrap_nat _ (by omega), u64_and_nat _ _ hx (by omega), Nat.and_two_pow_sub_one_eq_mod]

set_option maxRecDepth 100000 in
set_option maxHeartbeats 800000 in
theorem bitsBack_walk (x : Int) (n0 : Int) (w : World) (hx0 : 0 ≤ x) (hx1 : x < 18446744073709551616) :
    Calls Try.prog 7 #[.int .u64 x, .int .i64 n0] w fun e w' => e = .returned (.bool true) ∧ Below w.heap.size w w' := by
  obtain ⟨x, rfl⟩ := Int.eq_ofNat_of_zero_le hx0
  have hx : x < 18446744073709551616 := by omega
  go_enter Try.func7, Try.ntmps7
  go_wp2_with fail
  refine (within_any n0 1 8 w (by omega)).mono ?_
  rintro e w1 ⟨⟨y, hy1, hy2, rfl⟩, rfl⟩
  obtain ⟨n, rfl⟩ := Int.eq_ofNat_of_zero_le (show 0 ≤ y by omega)
  have h1 : 1 ≤ n := by omega
  have h2 : n ≤ 8 := by omega
  clear hy1 hy2
  go_wp2_with fail
  refine (put_yes x n w hx h1 h2).mono ?_
  rintro e w1 ⟨rfl, own1, s1⟩
  have r1 := Reads.of_own own1
  clear own1
  go_wp2_with fail
  refine (big_yes x n w1 hx h1 h2).mono ?_
  rintro e w2 ⟨rfl, own2, s2⟩
  have r2 := Reads.of_own own2
  have hB : w1.heap.size ≤ w2.heap.size := s2.size
  have q2 := r1.still (Nat.le_refl _) s2
  clear own2 r1
  go_wp2_with fail
  refine (get_yes _ n n _ w2 _ q2 h1 h2).mono ?_
  rintro e w3 ⟨rfl, rfl⟩
  go_wp2_with fail
  refine (getbig_yes _ n n _ w2 _ r2 h1 h2).mono ?_
  rintro e w3 ⟨rfl, rfl⟩
  rw [List.reverse_reverse]
  obtain ⟨y, hy⟩ : ∃ y, y = leNum (leBytes x n) := ⟨_, rfl⟩
  rw [← hy]
  rw [leNum_le] at hy
  have HY := Lib.hid hy
  clear hy
  go_wp2_with fail
  have hlen : (leBytes x n).length = n := leBytes_length x n
  have r0 : Still w w2 := s1.trans s2
  generalize leBytes x n = l at *
  have HL := Lib.hid hlen
  clear s1 s2 hlen
  go_loopw [11] (fun i wr => ∃ k : Nat, k ≤ n ∧ i = .int .i64 k ∧ Still w2 wr) (fun i _ => n - (intOf i).toNat)
  case atStart => exact ⟨0, Nat.zero_le _, rfl, Below.refl _ _⟩
  case round =>
    obtain ⟨k, hk, rfl, st⟩ := hrel
    by_cases hlt : k < n
    · obtain ⟨j, hj⟩ : ∃ j : Nat, n = k + 1 + j := ⟨n - k - 1, by omega⟩
      have hj' : ((n : Int) - 1 - (k : Int)) = (j : Int) := by omega
      have hj2 : ((n : Int) - 1 - (k : Int)).toNat = j := by omega
      have c1 := (q2.still hB st).cellAt k hlt
      have c2 := (r2.still (Nat.le_refl _) st).cellAt j (by omega)
      have e : l.reverse.getD j 0 = l.getD k 0 := by
        have hl := HL.out
        rw [List.getD, List.getElem?_reverse (by omega), show l.length - 1 - j = k by omega]
        rfl
      rw [e] at c2
      rw [Nat.zero_add] at c1 c2
      generalize (l.getD k 0).toNat = d at c1 c2
      have z1 : (0 : Int) ≤ (k : Int) := by omega
      have z2 : (k : Int) < (n : Int) := by omega
      have z3 : (j : Int) < (n : Int) := by omega
      have z4 : (0 : Int) ≤ (j : Int) := by omega
      have J := Lib.hid hj
      clear e hj
      go_wp2_with fail
      go_quiet (fail)
      go_wp2_with fail
      have hj := J.out
      go_roundw
      case rel => exact ⟨k + 1, by omega, by go_num, still_drewN st _⟩
      case measure => simp [intOf]; omega
    · obtain rfl : k = n := by omega
      clear q2 r2 hB hx0 hx1 h1
      by_cases h8 : k = 8
      · subst h8
        have e : y = x := by rw [HY.out]; exact Nat.mod_eq_of_lt (by simpa using hx)
        subst e
        clear HY HL
        go_wp2_with fail
        refine (lives_yes wr).mono ?_
        rintro e w7 ⟨rfl, s7⟩
        go_wp2_with fail
        go_ret
        exact ⟨rfl, r0.trans (st.trans s7)⟩
      · have h7 : k < 8 := by omega
        have e8 : ((k : Int) == 8) = false := by simp; omega
        have l8 : decide ((k : Int) < 8) = true := by simp; omega
        have hm := mask_and x k hx (by omega)
        rw [← HY.out] at hm
        have HM := Lib.hid hm
        clear hm
        go_wp2_with fail
        · refine (lives_yes wr).mono ?_
          rintro e w7 ⟨rfl, s7⟩
          go_wp2_with fail
          go_ret
          exact ⟨rfl, r0.trans (st.trans s7)⟩
end Go.Proofs.Ytammhjkdjkgpdaa
