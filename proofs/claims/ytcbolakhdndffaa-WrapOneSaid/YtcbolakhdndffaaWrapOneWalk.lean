/- The walk of WrapOne: it returns true, and nothing that was there turns. -/
import Derived.Test.YtcbolakhdndffaaWrLives
namespace Go.Proofs.Ytcbolakhdndffaa
open Go.RowKit
set_option linter.unusedVariables false
set_option linter.unusedSimpArgs false

set_option maxRecDepth 100000 in
set_option maxHeartbeats 1600000 in
theorem wrapOne_walk (A0 : Option Addr) (n0 c0 : Nat) (z0 : List Int) (w : World) (h0 : RowIn .u8 w A0 n0 c0 z0) :
    Calls Try.prog 6 #[.slice A0 n0 c0] w fun e w' => e = .returned (.bool true) ∧ Below w.heap.size w w' := by
  obtain ⟨n, l, rs, hn, hcut⟩ := cut_row h0 1500 (by omega)
  have hl := rs.reads.1
  have RS := Lib.hid (fun W (st : Still w W) => rs.still (Nat.le_refl _) st)
  have UU := Lib.hid (unwrap_any A0 n c0 l w _ rs (Nat.le_refl _) (by omega))
  have h1 := unwR_one l
  have h2 := unwR_none l
  have HC := Lib.hid hcut
  obtain ⟨E, hE⟩ : ∃ E, E = (unwR l).2 := ⟨_, rfl⟩
  obtain ⟨X, hX⟩ : ∃ X, X = (unwR l).1 := ⟨_, rfl⟩
  rw [← hE, ← hX] at UU h1
  rw [← hE, ← hX] at h2
  have H1 := Lib.hid h1
  have H2 := Lib.hid h2
  clear hcut h0 rs hE hX h1 h2
  by_cases h0 : E = 0
  · obtain ⟨hx, hone⟩ := H1.out h0
    have WF := Lib.hid (fun A c (W : World) B (r : RowS W B A X.length c X) (hB : B ≤ W.heap.size) => wwrap_any A X.length c X false W B r hB (by omega))
    have WT := Lib.hid (fun A c (W : World) B (r : RowS W B A X.length c X) (hB : B ≤ W.heap.size) => wwrap_any A X.length c X true W B r hB (by omega))
    rw [wrapR_ok hx] at WF WT
    obtain ⟨F, hF⟩ : ∃ F, F = wrB X false := ⟨_, rfl⟩
    obtain ⟨T, hT⟩ : ∃ T, T = wrB X true := ⟨_, rfl⟩
    have HF := Lib.hid (show F.length ≤ 70000 by rw [hF]; have := wrB_length X false; omega)
    have HT := Lib.hid (show T.length ≤ 70000 by rw [hT]; have := wrB_length X true; omega)
    rw [← hF] at WF hone
    rw [← hT] at WT hone
    have key : decide (l = F) = true ∨ (decide (l = F) = false ∧ decide (l = T) = true) := by
      rcases hone with h | h
      · exact .inl (decide_eq_true h)
      · by_cases h' : l = F
        · exact .inl (decide_eq_true h')
        · exact .inr ⟨decide_eq_false h', decide_eq_true h⟩
    subst h0
    clear H1 H2 hF hT hone hx
    go_enter Try.func6, Try.ntmps6
    go_wp2_with fail
    refine HC.out.mono ?_
    rintro e w1 ⟨rfl, rfl⟩
    go_wp2_with fail
    refine UU.out.mono ?_
    rintro e w2 ⟨⟨v, rfl, A2, n2, c2, rfl, rd2, _, g1, g2, g3⟩, s2⟩
    have hn2 : X.length = n2 := rd2.1
    have S2 := Lib.hid s2
    have R2 := Lib.hid (fun W (st : Still w2 W) => (⟨rd2.still (Nat.le_refl _) st, g1, g2, g3⟩ : RowS W w2.heap.size A2 n2 c2 X))
    rw [hn2] at WF WT
    have W2 := Lib.hid (WF.out A2 c2 w2 _ (R2.out w2 (Still.refl _)) (Nat.le_refl _))
    clear rd2 g1 g2 g3 s2 UU WF HC hn2
    go_wp2_with fail
    refine W2.out.mono ?_
    rintro e w3 ⟨⟨v, rfl, own3⟩, s3⟩
    obtain ⟨A3, c3, rfl, f1, f2, f3⟩ := own_form own3
    have S3 := Lib.hid (Still.trans S2.out s3)
    have R3 := Lib.hid (fun W (st : Still w3 W) => (Reads.of_own own3).still (Nat.le_refl _) st)
    have W3 := Lib.hid (WT.out A2 c2 w3 _ (R2.out w3 s3) s3.size)
    clear own3 s3 f1 f2 f3 W2 WT R2
    go_wp2_with fail
    refine W3.out.mono ?_
    rintro e w4 ⟨⟨v, rfl, own4⟩, s4⟩
    obtain ⟨A4, c4, rfl, f1, f2, f3⟩ := own_form own4
    have S4 := Lib.hid (Still.trans S3.out s4)
    have R4 := Lib.hid (fun W (st : Still w4 W) => (Reads.of_own own4).still (Nat.le_refl _) st)
    have SA := Lib.hid (same_any A0 A3 n F.length c0 c3 l F w4 _ _ (RS.out w4 S4.out).reads (R3.out w4 s4) (by omega) (by have := HF.out; omega))
    have SB := Lib.hid (fun W (st : Still w4 W) => same_any A0 A4 n T.length c0 c4 l T W _ _ (RS.out W (Still.trans S4.out st)).reads (R4.out W st) (by omega) (by have := HT.out; omega))
    generalize F.length = fl at *
    generalize T.length = tl at *
    clear own4 s4 f1 f2 f3 W3 R3 R4 RS
    rcases key with k1 | ⟨k1, k2⟩
    · rw [k1] at SA
      clear k1 SB
      go_wp2_with fail
      refine SA.out.mono ?_
      rintro e w5 ⟨rfl, s5⟩
      have S5 := Lib.hid (Still.trans S4.out s5)
      clear s5 SA
      go_wp2_with fail
      refine (lives_any w5).mono ?_
      rintro e w6 ⟨rfl, s6⟩
      have S6 := Lib.hid s6
      clear s6
      go_wp2_with fail
      go_ret
      exact ⟨rfl, S5.out.trans S6.out⟩
    · rw [k1] at SA
      rw [k2] at SB
      clear k1 k2
      go_wp2_with fail
      refine SA.out.mono ?_
      rintro e w5 ⟨rfl, s5⟩
      have S5 := Lib.hid (Still.trans S4.out s5)
      have SC := Lib.hid (SB.out w5 s5)
      clear s5 SA SB
      go_wp2_with fail
      refine SC.out.mono ?_
      rintro e w6 ⟨rfl, s6⟩
      have S6 := Lib.hid (Still.trans S5.out s6)
      clear s6 SC
      go_wp2_with fail
      refine (lives_any w6).mono ?_
      rintro e w7 ⟨rfl, s7⟩
      have S7 := Lib.hid s7
      clear s7
      go_wp2_with fail
      go_ret
      exact ⟨rfl, S6.out.trans S7.out⟩
  · have hx := H2.out h0
    have b0 : (E != 0) = true := by simpa using h0
    subst hx
    clear H1 H2 h0
    go_enter Try.func6, Try.ntmps6
    go_wp2_with fail
    refine HC.out.mono ?_
    rintro e w1 ⟨rfl, rfl⟩
    go_wp2_with fail
    refine UU.out.mono ?_
    rintro e w2 ⟨⟨v, rfl, A2, n2, c2, rfl, rd2, _, g1, g2, g3⟩, s2⟩
    obtain rfl : 0 = n2 := rd2.1
    have S2 := Lib.hid s2
    clear rd2 g1 g2 g3 s2 UU HC
    go_wp2_with fail
    refine (lives_any w2).mono ?_
    rintro e w3 ⟨rfl, s3⟩
    have S3 := Lib.hid s3
    clear s3
    go_wp2_with fail
    go_ret
    exact ⟨rfl, S2.out.trans S3.out⟩
end Go.Proofs.Ytcbolakhdndffaa
