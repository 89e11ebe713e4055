/- The walk of BitsPuts: it returns true, and nothing that was there turns. -/
import Derived.Test.YtammhjkdjkgpdaaBig
namespace Go.Proofs.Ytammhjkdjkgpdaa
open Go.RowKit
set_option linter.unusedVariables false
set_option linter.unusedSimpArgs false

set_option maxHeartbeats 800000 in
theorem bitsPuts_walk (x : Int) (n : Int) (w : World) (hx0 : 0 ≤ x) (hx1 : x < 18446744073709551616) :
    Calls Try.prog 3 #[.int .u64 x, .int .i64 n] w fun e w' => e = .returned (.bool true) ∧ Below w.heap.size w w' := by
  obtain ⟨x, rfl⟩ := Int.eq_ofNat_of_zero_le hx0
  by_cases hn : n < 1 ∨ 8 < n
  · go_enter Try.func3, Try.ntmps3
    go_wp2_with fail
    refine (rput_no x n w hn).mono ?_
    rintro e w1 ⟨rfl, rfl⟩
    go_wp2_with fail
    refine (put_no x n w hn).mono ?_
    rintro e w1 ⟨rfl, rfl⟩
    go_wp2_with fail
    refine (same_yes none none 0 0 0 [] w 0 0 Reads.nil0 Reads.nil0 (by omega)).mono ?_
    rintro e w1 ⟨rfl, s1⟩
    go_wp2_with fail
    refine (big_no x n w1 hn).mono ?_
    rintro e w1 ⟨rfl, rfl⟩
    go_wp2_with fail
    refine (back_any none 0 0 [] w1 0 Reads.nil0 (by omega) (by omega)).mono ?_
    rintro e w2 ⟨⟨v, rfl, hown⟩, s2⟩
    obtain ⟨A, c, rfl, _, _, _⟩ := own_form hown
    have r2 := Reads.of_own hown
    go_wp2_with fail
    refine (same_yes none A 0 0 c [] w2 0 _ Reads.nil0 r2 (by omega)).mono ?_
    rintro e w3 ⟨rfl, s3⟩
    go_wp2_with fail
    refine (lives_yes w3).mono ?_
    rintro e w4 ⟨rfl, s4⟩
    go_wp2_with fail
    go_ret
    exact ⟨rfl, s1.trans (s2.trans (s3.trans s4))⟩
  · obtain ⟨n, rfl⟩ := Int.eq_ofNat_of_zero_le (show 0 ≤ n by omega)
    have h1 : 1 ≤ n := by omega
    have h2 : n ≤ 8 := by omega
    have hx : x < 18446744073709551616 := by omega
    go_enter Try.func3, Try.ntmps3
    go_wp2_with fail
    refine (rput_yes x n w hx h1 h2).mono ?_
    rintro e w1 ⟨v, rfl, own1, s1⟩
    obtain ⟨A, c, rfl, _, _, _⟩ := own_form own1
    have r1 := Reads.of_own own1
    clear own1
    go_wp2_with fail
    refine (put_yes x n w1 hx h1 h2).mono ?_
    rintro e w2 ⟨rfl, own2, s2⟩
    have q2 := Reads.of_own own2
    have r2 := r1.still (Nat.le_refl _) s2
    clear own2 r1
    go_wp2_with fail
    refine (same_yes _ A n n c _ w2 _ _ q2 r2 (by omega)).mono ?_
    rintro e w3 ⟨rfl, s3⟩
    have r3 := r2.still s2.size s3
    clear r2 q2
    go_wp2_with fail
    refine (big_yes x n w3 hx h1 h2).mono ?_
    rintro e w4 ⟨rfl, own4, s4⟩
    have r4 := r3.still (by have := s3.size; have := s2.size; omega) s4
    have q4 := Reads.of_own own4
    clear own4 r3
    go_wp2_with fail
    refine (back_any A n c _ w4 _ r4 (by have := s3.size; have := s2.size; have := s4.size; omega) (by omega)).mono ?_
    rintro e w5 ⟨⟨v, rfl, own5⟩, s5⟩
    obtain ⟨A5, c5, rfl, _, _, _⟩ := own_form own5
    have r5 := Reads.of_own own5
    have q5 := q4.still (Nat.le_refl _) s5
    clear own5 q4 r4
    go_wp2_with fail
    refine (same_yes _ A5 n n c5 _ w5 _ _ q5 r5 (by omega)).mono ?_
    rintro e w6 ⟨rfl, s6⟩
    clear q5 r5
    go_wp2_with fail
    refine (lives_yes w6).mono ?_
    rintro e w7 ⟨rfl, s7⟩
    go_wp2_with fail
    go_ret
    exact ⟨rfl, s1.trans (s2.trans (s3.trans (s4.trans (s5.trans (s6.trans s7)))))⟩
end Go.Proofs.Ytammhjkdjkgpdaa
