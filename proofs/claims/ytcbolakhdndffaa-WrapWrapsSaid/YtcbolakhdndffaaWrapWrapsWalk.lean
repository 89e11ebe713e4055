/- The walk of WrapWraps: it returns true, and nothing that was there turns. -/
import Derived.Test.YtcbolakhdndffaaWrLives
namespace Go.Proofs.Ytcbolakhdndffaa
open Go.RowKit
set_option linter.unusedVariables false
set_option linter.unusedSimpArgs false

theorem wrapR_len (b : List UInt8) (s : Bool) : (wrapR b s).1.length ≤ 16384 := by
  unfold wrapR
  split
  · simp
  · have := wrB_length b s
    simp only
    omega
set_option maxRecDepth 100000 in
set_option maxHeartbeats 3200000 in
theorem wrapWraps_walk (A0 : Option Addr) (n0 c0 : Nat) (z0 : List Int) (s : Bool) (w : World) (h0 : RowIn .u8 w A0 n0 c0 z0) :
    Calls Try.prog 3 #[.slice A0 n0 c0, .bool s] w fun e w' => e = .returned (.bool true) ∧ Below w.heap.size w w' := by
  obtain ⟨n, l, rs, hn, hcut⟩ := cut_row h0 1500 (by omega)
  have hl := rs.reads.1
  have RS := Lib.hid (fun W (st : Still w W) => rs.still (Nat.le_refl _) st)
  have CP := Lib.hid (copy_any A0 n c0 l w w.heap.size rs.reads (by omega) rs.nil)
  have RQ := Lib.hid (fun W (st : Still w W) => rwrap_any A0 n c0 l s W w.heap.size (rs.still (Nat.le_refl _) st) st.size (by omega))
  have HC := Lib.hid hcut
  obtain ⟨E, hE⟩ : ∃ E, E = (wrapR l s).2 := ⟨_, rfl⟩
  obtain ⟨X, hX⟩ : ∃ X, X = (wrapR l s).1 := ⟨_, rfl⟩
  rw [← hE, ← hX] at RQ
  have HX := Lib.hid (And.intro hE hX)
  clear hcut h0 rs hE hX
  go_enter Try.func3, Try.ntmps3
  go_wp2_with fail
  refine HC.out.mono ?_
  rintro e w1 ⟨rfl, rfl⟩
  go_wp2_with fail
  refine CP.out.mono ?_
  rintro e w1 ⟨⟨v, rfl, own⟩, s1⟩
  obtain ⟨A1, c1, rfl, f1, f2, f3⟩ := own_form own
  have S1 := Lib.hid s1
  have RM := Lib.hid (fun W (st : Still w1 W) => (Reads.of_own own).still (Nat.le_refl _) st)
  have SQ := Lib.hid (wwrap_any A1 n c1 l s w1 _ ⟨RM.out w1 (Still.refl _), f1, f2, f3⟩ (Nat.le_refl _) (by omega))
  rw [← HX.out.1, ← HX.out.2] at SQ
  clear own s1 CP HC f1 f2 f3
  go_wp2_with fail
  refine SQ.out.mono ?_
  rintro e w2 ⟨⟨v2, rfl, own2⟩, s2⟩
  obtain ⟨A2, c2, rfl, f1, f2, f3⟩ := own_form own2
  obtain ⟨L, hL⟩ : ∃ L, L = X.length := ⟨_, rfl⟩
  rw [← hL] at own2 f1 f3 ⊢
  have S2 := Lib.hid (Still.trans S1.out s2)
  have R2 := Lib.hid (fun W (st : Still w2 W) => (Reads.of_own own2).still (Nat.le_refl _) st)
  have RM2 := Lib.hid (fun W (st : Still w2 W) => RM.out W (Still.trans s2 st))
  have HL := Lib.hid hL
  clear own2 s2 SQ f1 f2 f3 hL RM
  go_wp2_with fail
  refine (RQ.out w2 S2.out).mono ?_
  rintro e w3 ⟨⟨v3, rfl, own3⟩, s3⟩
  obtain ⟨A3, c3, rfl, f1, f2, f3⟩ := own_form own3
  rw [← HL.out] at own3 f1 f3 ⊢
  have S3 := Lib.hid (Still.trans S2.out s3)
  have LB := Lib.hid (show L ≤ 70368744177664 by rw [HL.out, HX.out.2]; have := wrapR_len l s; omega)
  have SA := Lib.hid (same_any A2 A3 L L c2 c3 X X w3 _ _ (R2.out w3 s3) (Reads.of_own own3) LB.out LB.out)
  rw [show decide (X = X) = true by simp] at SA
  have RM3 := Lib.hid (fun W (st : Still w3 W) => RM2.out W (Still.trans s3 st))
  clear own3 s3 f1 f2 f3 RQ R2 RM2
  go_wp2_with fail
  refine SA.out.mono ?_
  rintro e w4 ⟨rfl, s4⟩
  have S4 := Lib.hid (Still.trans S3.out s4)
  have SB := Lib.hid (same_any A1 A0 n n c1 c0 l l w4 _ _ (RM3.out w4 s4) (RS.out w4 (Still.trans S3.out s4)).reads (by omega) (by omega))
  rw [show decide (l = l) = true by simp] at SB
  clear s4 SA RM3
  go_wp2_with fail
  refine SB.out.mono ?_
  rintro e w5 ⟨rfl, s5⟩
  have S5 := Lib.hid (Still.trans S4.out s5)
  clear s5 SB
  go_wp2_with fail
  refine (lives_any w5).mono ?_
  rintro e w6 ⟨rfl, s6⟩
  have S6 := Lib.hid s6
  clear s6
  go_wp2_with fail
  go_ret
  exact ⟨rfl, S5.out.trans S6.out⟩

end Go.Proofs.Ytcbolakhdndffaa
