/- The walk of WrapUnwraps: it returns true, and nothing that was there turns. -/
import Derived.Test.YtcbolakhdndffaaWrLives
import Derived.Test.YtcbolakhdndffaaOpen9
namespace Go.Proofs.Ytcbolakhdndffaa
open Go.RowKit
set_option linter.unusedVariables false
set_option linter.unusedSimpArgs false

theorem unwR_len (l : List UInt8) : (unwR l).1.length ≤ 16379 := by
  by_cases h : (unwR l).2 = 0
  · exact (unwR_one l h).1
  · rw [unwR_none l h]; simp
set_option maxRecDepth 100000 in
set_option maxHeartbeats 1600000 in
theorem wrapUnwraps_walk (A0 : Option Addr) (n0 c0 : Nat) (z0 : List Int) (w : World) (h0 : RowIn .u8 w A0 n0 c0 z0) :
    Calls Try.prog 4 #[.slice A0 n0 c0] w fun e w' => e = .returned (.bool true) ∧ Below w.heap.size w w' := by
  obtain ⟨n, l, rs, hn, hcut⟩ := cut_row h0 1500 (by omega)
  have hl := rs.reads.1
  have RS := Lib.hid (fun W (st : Still w W) => rs.still (Nat.le_refl _) st)
  have RB := Lib.hid (fun W (st : Below w.heap.size w W) => rs.reads.below st)
  have CP := Lib.hid (copy_any A0 n c0 l w w.heap.size rs.reads (by omega) rs.nil)
  have RQ := Lib.hid (fun W (st : Still w W) => runwrap_any A0 n c0 l W w.heap.size (rs.still (Nat.le_refl _) st) st.size (by omega))
  have LQ := Lib.hid (fun W (st : Still w W) => rlook_any A0 n c0 l W w.heap.size (rs.still (Nat.le_refl _) st) st.size)
  have LP := Lib.hid (fun A c W B (r : RowS W B A n c l) (hB : B ≤ W.heap.size) => look_any A n c l W B r hB)
  have UP := Lib.hid (fun A c W B (r : RowS W B A n c l) (hB : B ≤ W.heap.size) => unwrap_any A n c l W B r hB (by omega))
  have HC := Lib.hid hcut
  obtain ⟨E, hE⟩ : ∃ E, E = (unwR l).2 := ⟨_, rfl⟩
  obtain ⟨X, hX⟩ : ∃ X, X = (unwR l).1 := ⟨_, rfl⟩
  have HXL := Lib.hid (show X.length ≤ 16379 by rw [hX]; exact unwR_len l)
  rw [← hE, ← hX] at RQ UP
  obtain ⟨K, hK⟩ : ∃ K, K = (lookR l).1 := ⟨_, rfl⟩
  obtain ⟨M, hM⟩ : ∃ M, M = (lookR l).2.1 := ⟨_, rfl⟩
  obtain ⟨F, hF⟩ : ∃ F, F = (lookR l).2.2 := ⟨_, rfl⟩
  rw [← hK, ← hM, ← hF] at LQ LP
  clear hcut h0 rs hE hX hK hM hF
  go_enter Try.func4, Try.ntmps4
  go_wp2_with fail
  refine HC.out.mono ?_
  rintro e w1 ⟨rfl, rfl⟩
  go_wp2_with fail
  refine CP.out.mono ?_
  rintro e w1 ⟨⟨v, rfl, own⟩, s1⟩
  obtain ⟨A1, c1, rfl, f1, f2, f3⟩ := own_form own
  have S1 := Lib.hid s1
  have RM := Lib.hid (fun W (st : Still w1 W) => (⟨(Reads.of_own own).still (Nat.le_refl _) st, f1, f2, f3⟩ : RowS W w1.heap.size A1 n c1 l))
  have RMB := Lib.hid (fun W (st : Below w1.heap.size w1 W) => (Reads.of_own own).below st)
  have U1 := Lib.hid (UP.out A1 c1 w1 _ (RM.out w1 (Still.refl _)) (Nat.le_refl _))
  clear own s1 CP HC f1 f2 f3 UP
  go_wp2_with fail
  refine U1.out.mono ?_
  rintro e w2 ⟨⟨v2, rfl, A2, n2, c2, rfl, rd2, mi2, g1, g2, g3⟩, s2⟩
  have HX2 := Lib.hid (show X.length = n2 from rd2.1)
  have S2 := Lib.hid s2
  have R2 := Lib.hid (fun W (st : Still w2 W) => rd2.still (Nat.le_refl _) st)
  have OP := Lib.hid (open9_of rd2 mi2)
  have HN2 := Lib.hid (show n2 ≤ 16379 by have := HXL.out; have := rd2.1; omega)
  clear rd2 mi2 g1 g2 g3 s2 U1
  go_wp2_with fail
  refine (RQ.out w2 (Still.trans S1.out S2.out)).mono ?_
  rintro e w3 ⟨⟨v3, rfl, A3, n3, c3, rfl, r3⟩, s3⟩
  have S3 := Lib.hid (Still.trans S2.out s3)
  have S23 := Lib.hid s3
  have HX3 := Lib.hid (show X.length = n3 from r3.reads.1)
  have R3 := Lib.hid (fun W (st : Still w3 W) => r3.reads.still (Nat.le_refl _) st)
  have L3 := Lib.hid (LP.out A1 c1 w3 _ (RM.out w3 S3.out) S3.out.size)
  clear r3 s3 RQ LP
  go_wp2_with fail
  refine L3.out.mono ?_
  rintro e w4 ⟨rfl, s4⟩
  have S34 := Lib.hid s4
  clear s4 L3
  go_wp2_with fail
  refine (LQ.out w4 (Still.trans S1.out (Still.trans S3.out S34.out))).mono ?_
  rintro e w5 ⟨rfl, s5⟩
  have S35 := Lib.hid (Still.trans S34.out s5)
  have S25 := Lib.hid (Still.trans S23.out S35.out)
  have S15 := Lib.hid (Still.trans S2.out S25.out)
  have SA := Lib.hid (same_any A2 A3 n2 n3 c2 c3 X X w5 _ _ (R2.out w5 S25.out) (R3.out w5 S35.out) (by have := HN2.out; omega) (by have := HX2.out; have := HX3.out; have := HN2.out; omega))
  rw [show decide (X = X) = true by simp] at SA
  clear s5 LQ R3
  go_wp2_with fail
  refine SA.out.mono ?_
  rintro e w6 ⟨rfl, s6⟩
  have S16 := Lib.hid (Still.trans S15.out s6)
  have S26 := Lib.hid (Still.trans S25.out s6)
  have SB := Lib.hid (same_any A1 A0 n n c1 c0 l l w6 _ _ (RM.out w6 S16.out).reads (RS.out w6 (Still.trans S1.out S16.out)).reads (by omega) (by omega))
  rw [show decide (l = l) = true by simp] at SB
  clear s6 SA
  go_wp2_with fail
  refine SB.out.mono ?_
  rintro e w7 ⟨rfl, s7⟩
  have S17 := Lib.hid (Still.trans S16.out s7)
  have S27 := Lib.hid (Still.trans S26.out s7)
  have O7 := Lib.hid (OP.out.still S27.out (Nat.le_refl _))
  clear s7 SB OP
  have hn2 : n2 ≤ 16379 := HN2.out
  go_wp2_with fail
  go_loopw [14] (fun iv wr => ∃ k : Nat, k ≤ n2 ∧ iv = .int .i64 k ∧ Hid (Open9 wr w1.heap.size w2.heap.size A2 n2 ∧ Below w1.heap.size w1 wr)) (fun iv _ => n2 - (intOf iv).toNat)
  case atStart => exact ⟨0, Nat.zero_le _, rfl, O7.out, S17.out⟩
  case round =>
    obtain ⟨k, hk, rfl, hh⟩ := hrel
    by_cases hlt : k < n2
    · obtain ⟨b, o, hA, hlo, hhi, hc⟩ := hh.out.1 (by omega)
      obtain ⟨⟨y, q1⟩, q2⟩ := hc k hlt
      subst hA
      have HO := Lib.hid hh.out.1
      have HS := Lib.hid hh.out.2
      have HLO := Lib.hid hlo
      have z1 : (k : Int) < (n2 : Int) := by omega
      clear hc hh hlo hhi
      go_wp2_with fail
      go_roundw
      case rel => exact ⟨k + 1, by omega, by go_num, HO.out.poke _, HS.out.setCell HLO.out _⟩
      case measure => simp [intOf]; omega
    · obtain rfl : k = n2 := by omega
      have HS := Lib.hid hh.out.2
      have SC := Lib.hid (same_any A1 A0 n n c1 c0 l l wr _ _ (RMB.out wr hh.out.2) (RB.out wr (Below.trans S1.out (hh.out.2.mono S1.out.size))) (by omega) (by omega))
      rw [show decide (l = l) = true by simp] at SC
      have SW := Lib.hid (Below.trans S1.out (hh.out.2.mono S1.out.size))
      clear hh
      go_wp2_with fail
      refine SC.out.mono ?_
      rintro e w8 ⟨rfl, s8⟩
      have S8 := Lib.hid (Below.trans SW.out (s8.mono SW.out.size))
      clear s8 SC
      go_wp2_with fail
      refine (lives_any w8).mono ?_
      rintro e w9 ⟨rfl, s9⟩
      have S9 := Lib.hid (Below.trans S8.out (s9.mono S8.out.size))
      clear s9
      go_wp2_with fail
      go_ret
      exact ⟨rfl, S9.out⟩
end Go.Proofs.Ytcbolakhdndffaa
