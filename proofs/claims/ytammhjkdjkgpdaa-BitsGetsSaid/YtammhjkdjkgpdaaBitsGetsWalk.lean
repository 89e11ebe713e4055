/- The walk of BitsGets: it returns true, and nothing that was there turns. -/
import Derived.Test.YtammhjkdjkgpdaaBig
namespace Go.Proofs.Ytammhjkdjkgpdaa
open Go.RowKit
set_option linter.unusedVariables false
set_option linter.unusedSimpArgs false

set_option maxHeartbeats 800000 in
theorem bitsGets_walk (A0 : Option Addr) (n0 c0 : Nat) (z0 : List Int) (w : World) (h0 : RowIn .u8 w A0 n0 c0 z0) :
    Calls Try.prog 4 #[.slice A0 n0 c0] w fun e w' => e = .returned (.bool true) ∧ Below w.heap.size w w' := by
  obtain ⟨l0, r0, hc0, hm0, hA0⟩ := reads_of_row h0
  obtain ⟨n, l, rl, hn, hnc, hA, hcut⟩ : ∃ n l, Reads w w.heap.size A0 n l ∧ n ≤ 20 ∧ n ≤ c0 ∧ (A0 = none → n = 0 ∧ c0 = 0) ∧ Calls Try.prog 17 #[.slice A0 n0 c0, .int .i64 20] w fun e w' => e = .returned (.slice A0 n c0) ∧ w = w' :=
    ⟨_, _, r0.take 20, by omega, by omega, fun e => ⟨by have := (hA0 e).1; omega, (hA0 e).2⟩, cut_any A0 n0 c0 20 l0 w _ r0 hc0 hm0 (by omega)⟩
  have HC := Lib.hid hcut
  clear hcut h0 r0 hA0 hm0
  by_cases hn8 : n < 1 ∨ 8 < n
  · go_enter Try.func4, Try.ntmps4
    go_wp2_with fail
    refine HC.out.mono ?_
    rintro e w1 ⟨rfl, rfl⟩
    go_wp2_with fail
    refine (copy_any A0 n c0 l w _ rl (by omega) hA).mono ?_
    rintro e w1 ⟨⟨v, rfl, own1⟩, s1⟩
    obtain ⟨A1, c1, rfl, _, _, _⟩ := own_form own1
    have q1 := Reads.of_own own1
    have r1 := rl.still (Nat.le_refl _) s1
    clear own1
    go_wp2_with fail
    refine (get_no A1 n c1 w1 hn8).mono ?_
    rintro e w2 ⟨rfl, rfl⟩
    go_wp2_with fail
    refine (rget_no A0 n c0 w1 hn8).mono ?_
    rintro e w2 ⟨rfl, rfl⟩
    go_wp2_with fail
    refine (getbig_no A1 n c1 w1 hn8).mono ?_
    rintro e w2 ⟨rfl, rfl⟩
    go_wp2_with fail
    refine (back_any A0 n c0 l w1 _ r1 s1.size (by omega)).mono ?_
    rintro e w2 ⟨⟨v, rfl, own2⟩, s2⟩
    obtain ⟨A2, c2, rfl, _, _, _⟩ := own_form own2
    have q2 := q1.still (Nat.le_refl _) s2
    have r2 := r1.still s1.size s2
    clear own2 q1 r1
    go_wp2_with fail
    refine (rget_no A2 n c2 w2 hn8).mono ?_
    rintro e w3 ⟨rfl, rfl⟩
    go_wp2_with fail
    refine (same_yes A1 A0 n c1 c0 l w2 _ _ q2 r2 (by omega)).mono ?_
    rintro e w3 ⟨rfl, s3⟩
    go_wp2_with fail
    refine (lives_yes w3).mono ?_
    rintro e w4 ⟨rfl, s4⟩
    go_wp2_with fail
    go_ret
    exact ⟨rfl, s1.trans (s2.trans (s3.trans s4))⟩
  · have h1 : 1 ≤ n := by omega
    have h2 : n ≤ 8 := by omega
    go_enter Try.func4, Try.ntmps4
    go_wp2_with fail
    refine HC.out.mono ?_
    rintro e w1 ⟨rfl, rfl⟩
    go_wp2_with fail
    refine (copy_any A0 n c0 l w _ rl (by omega) hA).mono ?_
    rintro e w1 ⟨⟨v, rfl, own1⟩, s1⟩
    obtain ⟨A1, c1, rfl, _, _, _⟩ := own_form own1
    have q1 := Reads.of_own own1
    have r1 := rl.still (Nat.le_refl _) s1
    clear own1
    go_wp2_with fail
    refine (get_yes A1 n c1 l w1 _ q1 h1 h2).mono ?_
    rintro e w2 ⟨rfl, rfl⟩
    go_wp2_with fail
    refine (rget_yes A0 n c0 l w1 _ r1 h1 h2).mono ?_
    rintro e w2 ⟨rfl, rfl⟩
    go_wp2_with fail
    refine (getbig_yes A1 n c1 l w1 _ q1 h1 h2).mono ?_
    rintro e w2 ⟨rfl, rfl⟩
    go_wp2_with fail
    refine (back_any A0 n c0 l w1 _ r1 s1.size (by omega)).mono ?_
    rintro e w2 ⟨⟨v, rfl, own2⟩, s2⟩
    obtain ⟨A2, c2, rfl, _, _, _⟩ := own_form own2
    have q2 := q1.still (Nat.le_refl _) s2
    have r2 := r1.still s1.size s2
    have p2 := Reads.of_own own2
    clear own2 q1 r1
    go_wp2_with fail
    refine (rget_yes A2 n c2 _ w2 _ p2 h1 h2).mono ?_
    rintro e w3 ⟨rfl, rfl⟩
    generalize leNum l = x1
    generalize leNum l.reverse = x2
    go_wp2_with fail
    refine (same_yes A1 A0 n c1 c0 l w2 _ _ q2 r2 (by omega)).mono ?_
    rintro e w3 ⟨rfl, s3⟩
    go_wp2_with fail
    refine (lives_yes w3).mono ?_
    rintro e w4 ⟨rfl, s4⟩
    go_wp2_with fail
    go_ret
    exact ⟨rfl, s1.trans (s2.trans (s3.trans s4))⟩
end Go.Proofs.Ytammhjkdjkgpdaa
