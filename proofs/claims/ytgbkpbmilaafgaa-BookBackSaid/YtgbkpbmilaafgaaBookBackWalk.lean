/- The walk of BookBack: it returns true, and nothing that was there turns. -/
import Derived.Test.YtgbkpbmilaafgaaBkLawB
namespace Go.Proofs.Ytgbkpbmilaafgaa
open Go.RowKit
set_option linter.unusedVariables false
set_option linter.unusedSimpArgs false

set_option maxRecDepth 100000 in
set_option maxHeartbeats 6400000 in
theorem bookBack_walk (A0 : Option Addr) (n0 c0 : Nat) (L0 : List Rw) (A1 : Option Addr) (n1 c1 : Nat) (L1 : List Rw) (A2 : Option Addr) (n2 c2 : Nat) (L2 : List Rw) (w : World) (h0 : RwRow kI w A0 n0 c0 L0) (h1 : RwRow kC w A1 n1 c1 L1) (h2 : RwRow kU w A2 n2 c2 L2) :
    Calls Try.prog 5 #[.slice A0 n0 c0, .slice A1 n1 c1, .slice A2 n2 c2] w fun e w' => e = .returned (.bool true) ∧ Below w.heap.size w w' := by
  have FW := Lib.hid (few_any h0 h1 h2)
  have LI := Lib.hid (fun W => lives_any W)
  have t0 := h0.take 30
  obtain ⟨M0, hM0⟩ : ∃ M, M = L0.take 30 := ⟨_, rfl⟩
  rw [← hM0] at t0
  obtain ⟨m0, hm0⟩ : ∃ m, m = min n0 30 := ⟨_, rfl⟩
  rw [← hm0] at t0 FW
  have Mi := Lib.hid (show m0 ≤ 1048576 by omega)
  have Ti := Lib.hid (fun W (s : Still w W) => t0.still s)
  have Si := wr_small rfl wide_i t0 (by omega)
  have Pi := Lib.hid (fun W (s : Still w W) => putW_i (t0.still s) (by omega))
  obtain ⟨Ei, hEi⟩ : ∃ z, z = (kI.wr M0).2 := ⟨_, rfl⟩
  have Gi := Lib.hid (fun A n c W1 W (e0 : Ei = 0) (q : Wrt W1 A n c (kI.wr M0).1) (s1 : Still w W1) (s : Still W1 W) (hn : n ≤ 1400) => And.intro (backR_i q rfl s (hEi.symm.trans e0) (t0.still s1) (by omega) hn) (otherR_i q rfl s (hEi.symm.trans e0) (t0.still s1) hn))
  obtain ⟨Ri, hRi⟩ : ∃ R, R = (kI.wr M0).1 := ⟨_, rfl⟩
  obtain ⟨Zi, hZi⟩ : ∃ z, z = Ri.length := ⟨_, rfl⟩
  rw [← hRi, ← hZi] at Si Pi
  rw [← hEi] at Pi
  rw [← hRi] at Gi
  have SMi := Lib.hid Si
  clear t0 hM0 hm0 hRi hZi hEi h0 Si
  have t1 := h1.take 30
  obtain ⟨M1, hM1⟩ : ∃ M, M = L1.take 30 := ⟨_, rfl⟩
  rw [← hM1] at t1
  obtain ⟨m1, hm1⟩ : ∃ m, m = min n1 30 := ⟨_, rfl⟩
  rw [← hm1] at t1 FW
  have Mc := Lib.hid (show m1 ≤ 1048576 by omega)
  have Tc := Lib.hid (fun W (s : Still w W) => t1.still s)
  have Sc := wr_small rfl wide_c t1 (by omega)
  have Pc := Lib.hid (fun W (s : Still w W) => putW_c (t1.still s) (by omega))
  obtain ⟨Ec, hEc⟩ : ∃ z, z = (kC.wr M1).2 := ⟨_, rfl⟩
  have Gc := Lib.hid (fun A n c W1 W (e0 : Ec = 0) (q : Wrt W1 A n c (kC.wr M1).1) (s1 : Still w W1) (s : Still W1 W) (hn : n ≤ 1400) => And.intro (backR_c q rfl s (hEc.symm.trans e0) (t1.still s1) (by omega) hn) (otherR_c q rfl s (hEc.symm.trans e0) (t1.still s1) hn))
  obtain ⟨Rc, hRc⟩ : ∃ R, R = (kC.wr M1).1 := ⟨_, rfl⟩
  obtain ⟨Zc, hZc⟩ : ∃ z, z = Rc.length := ⟨_, rfl⟩
  rw [← hRc, ← hZc] at Sc Pc
  rw [← hEc] at Pc
  rw [← hRc] at Gc
  have SMc := Lib.hid Sc
  clear t1 hM1 hm1 hRc hZc hEc h1 Sc
  have t2 := h2.take 30
  obtain ⟨M2, hM2⟩ : ∃ M, M = L2.take 30 := ⟨_, rfl⟩
  rw [← hM2] at t2
  obtain ⟨m2, hm2⟩ : ∃ m, m = min n2 30 := ⟨_, rfl⟩
  rw [← hm2] at t2 FW
  have Mu := Lib.hid (show m2 ≤ 1048576 by omega)
  have Tu := Lib.hid (fun W (s : Still w W) => t2.still s)
  have Su := wr_small rfl wide_u t2 (by omega)
  have Pu := Lib.hid (fun W (s : Still w W) => putW_u (t2.still s) (by omega))
  obtain ⟨Eu, hEu⟩ : ∃ z, z = (kU.wr M2).2 := ⟨_, rfl⟩
  have Gu := Lib.hid (fun A n c W1 W (e0 : Eu = 0) (q : Wrt W1 A n c (kU.wr M2).1) (s1 : Still w W1) (s : Still W1 W) (hn : n ≤ 1400) => And.intro (backR_u q rfl s (hEu.symm.trans e0) (t2.still s1) (by omega) hn) (otherR_u q rfl s (hEu.symm.trans e0) (t2.still s1) hn))
  obtain ⟨Ru, hRu⟩ : ∃ R, R = (kU.wr M2).1 := ⟨_, rfl⟩
  obtain ⟨Zu, hZu⟩ : ∃ z, z = Ru.length := ⟨_, rfl⟩
  rw [← hRu, ← hZu] at Su Pu
  rw [← hEu] at Pu
  rw [← hRu] at Gu
  have SMu := Lib.hid Su
  clear t2 hM2 hm2 hRu hZu hEu h2 Su
  by_cases ei : Ei = 0
  · subst ei
    replace Gi := Lib.hid (fun A n c W1 W => Gi.out A n c W1 W rfl)
    by_cases ec : Ec = 0
    · subst ec
      replace Gc := Lib.hid (fun A n c W1 W => Gc.out A n c W1 W rfl)
      by_cases eu : Eu = 0
      · subst eu
        replace Gu := Lib.hid (fun A n c W1 W => Gu.out A n c W1 W rfl)
        go_enter Try.func5, Try.ntmps5
        go_wp2_with (first
          | (go_at_call 8; with_reducible refine FW.out.mono ?_; rintro e w1 ⟨rfl, rfl⟩; have S0 := Lib.hid (Still.refl w))
          | (go_at_call 9; with_reducible refine (Pi.out _ S0.out).mono ?_; rintro e w1 ⟨a1, b1, rfl, q1, s1⟩; have Q1 := Lib.hid q1; have U1 := Lib.hid s1; have S1 := Lib.hid (Still.trans S0.out s1); clear q1 s1)
          | (go_at_call 19; with_reducible refine (Gi.out _ _ _ _ _ Q1.out S1.out (Still.refl _) SMi.out).1.mono ?_; rintro e w2 ⟨a2, b2, rfl, q2, s2⟩; have Q2 := Lib.hid q2; have U2 := Lib.hid s2; have S2 := Lib.hid (Still.trans S1.out s2); clear q2 s2)
          | (go_at_call 20; with_reducible refine (Gi.out _ _ _ _ _ Q1.out S1.out U2.out SMi.out).2.mono ?_; rintro e w3 ⟨a3, b3, rfl, s3⟩; have U3 := Lib.hid s3; have S3 := Lib.hid (Still.trans S2.out s3); clear s3)
          | (go_at_call 25; with_reducible refine (sameR_i (RwRow.still Q2.out U3.out) (Ti.out _ S3.out) Mi.out).mono ?_; rintro e w4 ⟨rfl, s4⟩; have S4 := Lib.hid (Still.trans S3.out s4); clear s4)
          | (go_at_call 10; with_reducible refine (Pc.out _ S4.out).mono ?_; rintro e w5 ⟨a5, b5, rfl, q5, s5⟩; have Q5 := Lib.hid q5; have U5 := Lib.hid s5; have S5 := Lib.hid (Still.trans S4.out s5); clear q5 s5)
          | (go_at_call 20; with_reducible refine (Gc.out _ _ _ _ _ Q5.out S5.out (Still.refl _) SMc.out).1.mono ?_; rintro e w6 ⟨a6, b6, rfl, q6, s6⟩; have Q6 := Lib.hid q6; have U6 := Lib.hid s6; have S6 := Lib.hid (Still.trans S5.out s6); clear q6 s6)
          | (go_at_call 21; with_reducible refine (Gc.out _ _ _ _ _ Q5.out S5.out U6.out SMc.out).2.mono ?_; rintro e w7 ⟨a7, b7, rfl, s7⟩; have U7 := Lib.hid s7; have S7 := Lib.hid (Still.trans S6.out s7); clear s7)
          | (go_at_call 26; with_reducible refine (sameR_c (RwRow.still Q6.out U7.out) (Tc.out _ S7.out) Mc.out).mono ?_; rintro e w8 ⟨rfl, s8⟩; have S8 := Lib.hid (Still.trans S7.out s8); clear s8)
          | (go_at_call 11; with_reducible refine (Pu.out _ S8.out).mono ?_; rintro e w9 ⟨a9, b9, rfl, q9, s9⟩; have Q9 := Lib.hid q9; have U9 := Lib.hid s9; have S9 := Lib.hid (Still.trans S8.out s9); clear q9 s9)
          | (go_at_call 21; with_reducible refine (Gu.out _ _ _ _ _ Q9.out S9.out (Still.refl _) SMu.out).1.mono ?_; rintro e w10 ⟨a10, b10, rfl, q10, s10⟩; have Q10 := Lib.hid q10; have U10 := Lib.hid s10; have S10 := Lib.hid (Still.trans S9.out s10); clear q10 s10)
          | (go_at_call 19; with_reducible refine (Gu.out _ _ _ _ _ Q9.out S9.out U10.out SMu.out).2.mono ?_; rintro e w11 ⟨a11, b11, rfl, s11⟩; have U11 := Lib.hid s11; have S11 := Lib.hid (Still.trans S10.out s11); clear s11)
          | (go_at_call 27; with_reducible refine (sameR_u (RwRow.still Q10.out U11.out) (Tu.out _ S11.out) Mu.out).mono ?_; rintro e w12 ⟨rfl, s12⟩; have S12 := Lib.hid (Still.trans S11.out s12); clear s12)
          | (go_at_call 16; with_reducible refine (LI.out _).mono ?_; rintro e wl ⟨rfl, sl⟩; have SL := Lib.hid (Still.trans S12.out sl); clear sl))
        go_ret
        exact ⟨rfl, SL.out⟩
      · have bu : (Eu == 0) = false := by simpa using eu
        have du : decide (Eu = 0) = false := by simpa using eu
        go_enter Try.func5, Try.ntmps5
        go_wp2_with (first
          | (go_at_call 8; with_reducible refine FW.out.mono ?_; rintro e w1 ⟨rfl, rfl⟩; have S0 := Lib.hid (Still.refl w))
          | (go_at_call 9; with_reducible refine (Pi.out _ S0.out).mono ?_; rintro e w1 ⟨a1, b1, rfl, q1, s1⟩; have Q1 := Lib.hid q1; have U1 := Lib.hid s1; have S1 := Lib.hid (Still.trans S0.out s1); clear q1 s1)
          | (go_at_call 19; with_reducible refine (Gi.out _ _ _ _ _ Q1.out S1.out (Still.refl _) SMi.out).1.mono ?_; rintro e w2 ⟨a2, b2, rfl, q2, s2⟩; have Q2 := Lib.hid q2; have U2 := Lib.hid s2; have S2 := Lib.hid (Still.trans S1.out s2); clear q2 s2)
          | (go_at_call 20; with_reducible refine (Gi.out _ _ _ _ _ Q1.out S1.out U2.out SMi.out).2.mono ?_; rintro e w3 ⟨a3, b3, rfl, s3⟩; have U3 := Lib.hid s3; have S3 := Lib.hid (Still.trans S2.out s3); clear s3)
          | (go_at_call 25; with_reducible refine (sameR_i (RwRow.still Q2.out U3.out) (Ti.out _ S3.out) Mi.out).mono ?_; rintro e w4 ⟨rfl, s4⟩; have S4 := Lib.hid (Still.trans S3.out s4); clear s4)
          | (go_at_call 10; with_reducible refine (Pc.out _ S4.out).mono ?_; rintro e w5 ⟨a5, b5, rfl, q5, s5⟩; have Q5 := Lib.hid q5; have U5 := Lib.hid s5; have S5 := Lib.hid (Still.trans S4.out s5); clear q5 s5)
          | (go_at_call 20; with_reducible refine (Gc.out _ _ _ _ _ Q5.out S5.out (Still.refl _) SMc.out).1.mono ?_; rintro e w6 ⟨a6, b6, rfl, q6, s6⟩; have Q6 := Lib.hid q6; have U6 := Lib.hid s6; have S6 := Lib.hid (Still.trans S5.out s6); clear q6 s6)
          | (go_at_call 21; with_reducible refine (Gc.out _ _ _ _ _ Q5.out S5.out U6.out SMc.out).2.mono ?_; rintro e w7 ⟨a7, b7, rfl, s7⟩; have U7 := Lib.hid s7; have S7 := Lib.hid (Still.trans S6.out s7); clear s7)
          | (go_at_call 26; with_reducible refine (sameR_c (RwRow.still Q6.out U7.out) (Tc.out _ S7.out) Mc.out).mono ?_; rintro e w8 ⟨rfl, s8⟩; have S8 := Lib.hid (Still.trans S7.out s8); clear s8)
          | (go_at_call 11; with_reducible refine (Pu.out _ S8.out).mono ?_; rintro e w9 ⟨a9, b9, rfl, q9, s9⟩; have Q9 := Lib.hid q9; have U9 := Lib.hid s9; have S9 := Lib.hid (Still.trans S8.out s9); clear q9 s9)
          | (go_at_call 16; with_reducible refine (LI.out _).mono ?_; rintro e wl ⟨rfl, sl⟩; have SL := Lib.hid (Still.trans S9.out sl); clear sl))
        go_ret
        exact ⟨rfl, SL.out⟩
    · have bc : (Ec == 0) = false := by simpa using ec
      have dc : decide (Ec = 0) = false := by simpa using ec
      by_cases eu : Eu = 0
      · subst eu
        replace Gu := Lib.hid (fun A n c W1 W => Gu.out A n c W1 W rfl)
        go_enter Try.func5, Try.ntmps5
        go_wp2_with (first
          | (go_at_call 8; with_reducible refine FW.out.mono ?_; rintro e w1 ⟨rfl, rfl⟩; have S0 := Lib.hid (Still.refl w))
          | (go_at_call 9; with_reducible refine (Pi.out _ S0.out).mono ?_; rintro e w1 ⟨a1, b1, rfl, q1, s1⟩; have Q1 := Lib.hid q1; have U1 := Lib.hid s1; have S1 := Lib.hid (Still.trans S0.out s1); clear q1 s1)
          | (go_at_call 19; with_reducible refine (Gi.out _ _ _ _ _ Q1.out S1.out (Still.refl _) SMi.out).1.mono ?_; rintro e w2 ⟨a2, b2, rfl, q2, s2⟩; have Q2 := Lib.hid q2; have U2 := Lib.hid s2; have S2 := Lib.hid (Still.trans S1.out s2); clear q2 s2)
          | (go_at_call 20; with_reducible refine (Gi.out _ _ _ _ _ Q1.out S1.out U2.out SMi.out).2.mono ?_; rintro e w3 ⟨a3, b3, rfl, s3⟩; have U3 := Lib.hid s3; have S3 := Lib.hid (Still.trans S2.out s3); clear s3)
          | (go_at_call 25; with_reducible refine (sameR_i (RwRow.still Q2.out U3.out) (Ti.out _ S3.out) Mi.out).mono ?_; rintro e w4 ⟨rfl, s4⟩; have S4 := Lib.hid (Still.trans S3.out s4); clear s4)
          | (go_at_call 10; with_reducible refine (Pc.out _ S4.out).mono ?_; rintro e w5 ⟨a5, b5, rfl, q5, s5⟩; have Q5 := Lib.hid q5; have U5 := Lib.hid s5; have S5 := Lib.hid (Still.trans S4.out s5); clear q5 s5)
          | (go_at_call 11; with_reducible refine (Pu.out _ S5.out).mono ?_; rintro e w6 ⟨a6, b6, rfl, q6, s6⟩; have Q6 := Lib.hid q6; have U6 := Lib.hid s6; have S6 := Lib.hid (Still.trans S5.out s6); clear q6 s6)
          | (go_at_call 21; with_reducible refine (Gu.out _ _ _ _ _ Q6.out S6.out (Still.refl _) SMu.out).1.mono ?_; rintro e w7 ⟨a7, b7, rfl, q7, s7⟩; have Q7 := Lib.hid q7; have U7 := Lib.hid s7; have S7 := Lib.hid (Still.trans S6.out s7); clear q7 s7)
          | (go_at_call 19; with_reducible refine (Gu.out _ _ _ _ _ Q6.out S6.out U7.out SMu.out).2.mono ?_; rintro e w8 ⟨a8, b8, rfl, s8⟩; have U8 := Lib.hid s8; have S8 := Lib.hid (Still.trans S7.out s8); clear s8)
          | (go_at_call 27; with_reducible refine (sameR_u (RwRow.still Q7.out U8.out) (Tu.out _ S8.out) Mu.out).mono ?_; rintro e w9 ⟨rfl, s9⟩; have S9 := Lib.hid (Still.trans S8.out s9); clear s9)
          | (go_at_call 16; with_reducible refine (LI.out _).mono ?_; rintro e wl ⟨rfl, sl⟩; have SL := Lib.hid (Still.trans S9.out sl); clear sl))
        go_ret
        exact ⟨rfl, SL.out⟩
      · have bu : (Eu == 0) = false := by simpa using eu
        have du : decide (Eu = 0) = false := by simpa using eu
        go_enter Try.func5, Try.ntmps5
        go_wp2_with (first
          | (go_at_call 8; with_reducible refine FW.out.mono ?_; rintro e w1 ⟨rfl, rfl⟩; have S0 := Lib.hid (Still.refl w))
          | (go_at_call 9; with_reducible refine (Pi.out _ S0.out).mono ?_; rintro e w1 ⟨a1, b1, rfl, q1, s1⟩; have Q1 := Lib.hid q1; have U1 := Lib.hid s1; have S1 := Lib.hid (Still.trans S0.out s1); clear q1 s1)
          | (go_at_call 19; with_reducible refine (Gi.out _ _ _ _ _ Q1.out S1.out (Still.refl _) SMi.out).1.mono ?_; rintro e w2 ⟨a2, b2, rfl, q2, s2⟩; have Q2 := Lib.hid q2; have U2 := Lib.hid s2; have S2 := Lib.hid (Still.trans S1.out s2); clear q2 s2)
          | (go_at_call 20; with_reducible refine (Gi.out _ _ _ _ _ Q1.out S1.out U2.out SMi.out).2.mono ?_; rintro e w3 ⟨a3, b3, rfl, s3⟩; have U3 := Lib.hid s3; have S3 := Lib.hid (Still.trans S2.out s3); clear s3)
          | (go_at_call 25; with_reducible refine (sameR_i (RwRow.still Q2.out U3.out) (Ti.out _ S3.out) Mi.out).mono ?_; rintro e w4 ⟨rfl, s4⟩; have S4 := Lib.hid (Still.trans S3.out s4); clear s4)
          | (go_at_call 10; with_reducible refine (Pc.out _ S4.out).mono ?_; rintro e w5 ⟨a5, b5, rfl, q5, s5⟩; have Q5 := Lib.hid q5; have U5 := Lib.hid s5; have S5 := Lib.hid (Still.trans S4.out s5); clear q5 s5)
          | (go_at_call 11; with_reducible refine (Pu.out _ S5.out).mono ?_; rintro e w6 ⟨a6, b6, rfl, q6, s6⟩; have Q6 := Lib.hid q6; have U6 := Lib.hid s6; have S6 := Lib.hid (Still.trans S5.out s6); clear q6 s6)
          | (go_at_call 16; with_reducible refine (LI.out _).mono ?_; rintro e wl ⟨rfl, sl⟩; have SL := Lib.hid (Still.trans S6.out sl); clear sl))
        go_ret
        exact ⟨rfl, SL.out⟩
  · have bi : (Ei == 0) = false := by simpa using ei
    have di : decide (Ei = 0) = false := by simpa using ei
    by_cases ec : Ec = 0
    · subst ec
      replace Gc := Lib.hid (fun A n c W1 W => Gc.out A n c W1 W rfl)
      by_cases eu : Eu = 0
      · subst eu
        replace Gu := Lib.hid (fun A n c W1 W => Gu.out A n c W1 W rfl)
        go_enter Try.func5, Try.ntmps5
        go_wp2_with (first
          | (go_at_call 8; with_reducible refine FW.out.mono ?_; rintro e w1 ⟨rfl, rfl⟩; have S0 := Lib.hid (Still.refl w))
          | (go_at_call 9; with_reducible refine (Pi.out _ S0.out).mono ?_; rintro e w1 ⟨a1, b1, rfl, q1, s1⟩; have Q1 := Lib.hid q1; have U1 := Lib.hid s1; have S1 := Lib.hid (Still.trans S0.out s1); clear q1 s1)
          | (go_at_call 10; with_reducible refine (Pc.out _ S1.out).mono ?_; rintro e w2 ⟨a2, b2, rfl, q2, s2⟩; have Q2 := Lib.hid q2; have U2 := Lib.hid s2; have S2 := Lib.hid (Still.trans S1.out s2); clear q2 s2)
          | (go_at_call 20; with_reducible refine (Gc.out _ _ _ _ _ Q2.out S2.out (Still.refl _) SMc.out).1.mono ?_; rintro e w3 ⟨a3, b3, rfl, q3, s3⟩; have Q3 := Lib.hid q3; have U3 := Lib.hid s3; have S3 := Lib.hid (Still.trans S2.out s3); clear q3 s3)
          | (go_at_call 21; with_reducible refine (Gc.out _ _ _ _ _ Q2.out S2.out U3.out SMc.out).2.mono ?_; rintro e w4 ⟨a4, b4, rfl, s4⟩; have U4 := Lib.hid s4; have S4 := Lib.hid (Still.trans S3.out s4); clear s4)
          | (go_at_call 26; with_reducible refine (sameR_c (RwRow.still Q3.out U4.out) (Tc.out _ S4.out) Mc.out).mono ?_; rintro e w5 ⟨rfl, s5⟩; have S5 := Lib.hid (Still.trans S4.out s5); clear s5)
          | (go_at_call 11; with_reducible refine (Pu.out _ S5.out).mono ?_; rintro e w6 ⟨a6, b6, rfl, q6, s6⟩; have Q6 := Lib.hid q6; have U6 := Lib.hid s6; have S6 := Lib.hid (Still.trans S5.out s6); clear q6 s6)
          | (go_at_call 21; with_reducible refine (Gu.out _ _ _ _ _ Q6.out S6.out (Still.refl _) SMu.out).1.mono ?_; rintro e w7 ⟨a7, b7, rfl, q7, s7⟩; have Q7 := Lib.hid q7; have U7 := Lib.hid s7; have S7 := Lib.hid (Still.trans S6.out s7); clear q7 s7)
          | (go_at_call 19; with_reducible refine (Gu.out _ _ _ _ _ Q6.out S6.out U7.out SMu.out).2.mono ?_; rintro e w8 ⟨a8, b8, rfl, s8⟩; have U8 := Lib.hid s8; have S8 := Lib.hid (Still.trans S7.out s8); clear s8)
          | (go_at_call 27; with_reducible refine (sameR_u (RwRow.still Q7.out U8.out) (Tu.out _ S8.out) Mu.out).mono ?_; rintro e w9 ⟨rfl, s9⟩; have S9 := Lib.hid (Still.trans S8.out s9); clear s9)
          | (go_at_call 16; with_reducible refine (LI.out _).mono ?_; rintro e wl ⟨rfl, sl⟩; have SL := Lib.hid (Still.trans S9.out sl); clear sl))
        go_ret
        exact ⟨rfl, SL.out⟩
      · have bu : (Eu == 0) = false := by simpa using eu
        have du : decide (Eu = 0) = false := by simpa using eu
        go_enter Try.func5, Try.ntmps5
        go_wp2_with (first
          | (go_at_call 8; with_reducible refine FW.out.mono ?_; rintro e w1 ⟨rfl, rfl⟩; have S0 := Lib.hid (Still.refl w))
          | (go_at_call 9; with_reducible refine (Pi.out _ S0.out).mono ?_; rintro e w1 ⟨a1, b1, rfl, q1, s1⟩; have Q1 := Lib.hid q1; have U1 := Lib.hid s1; have S1 := Lib.hid (Still.trans S0.out s1); clear q1 s1)
          | (go_at_call 10; with_reducible refine (Pc.out _ S1.out).mono ?_; rintro e w2 ⟨a2, b2, rfl, q2, s2⟩; have Q2 := Lib.hid q2; have U2 := Lib.hid s2; have S2 := Lib.hid (Still.trans S1.out s2); clear q2 s2)
          | (go_at_call 20; with_reducible refine (Gc.out _ _ _ _ _ Q2.out S2.out (Still.refl _) SMc.out).1.mono ?_; rintro e w3 ⟨a3, b3, rfl, q3, s3⟩; have Q3 := Lib.hid q3; have U3 := Lib.hid s3; have S3 := Lib.hid (Still.trans S2.out s3); clear q3 s3)
          | (go_at_call 21; with_reducible refine (Gc.out _ _ _ _ _ Q2.out S2.out U3.out SMc.out).2.mono ?_; rintro e w4 ⟨a4, b4, rfl, s4⟩; have U4 := Lib.hid s4; have S4 := Lib.hid (Still.trans S3.out s4); clear s4)
          | (go_at_call 26; with_reducible refine (sameR_c (RwRow.still Q3.out U4.out) (Tc.out _ S4.out) Mc.out).mono ?_; rintro e w5 ⟨rfl, s5⟩; have S5 := Lib.hid (Still.trans S4.out s5); clear s5)
          | (go_at_call 11; with_reducible refine (Pu.out _ S5.out).mono ?_; rintro e w6 ⟨a6, b6, rfl, q6, s6⟩; have Q6 := Lib.hid q6; have U6 := Lib.hid s6; have S6 := Lib.hid (Still.trans S5.out s6); clear q6 s6)
          | (go_at_call 16; with_reducible refine (LI.out _).mono ?_; rintro e wl ⟨rfl, sl⟩; have SL := Lib.hid (Still.trans S6.out sl); clear sl))
        go_ret
        exact ⟨rfl, SL.out⟩
    · have bc : (Ec == 0) = false := by simpa using ec
      have dc : decide (Ec = 0) = false := by simpa using ec
      by_cases eu : Eu = 0
      · subst eu
        replace Gu := Lib.hid (fun A n c W1 W => Gu.out A n c W1 W rfl)
        go_enter Try.func5, Try.ntmps5
        go_wp2_with (first
          | (go_at_call 8; with_reducible refine FW.out.mono ?_; rintro e w1 ⟨rfl, rfl⟩; have S0 := Lib.hid (Still.refl w))
          | (go_at_call 9; with_reducible refine (Pi.out _ S0.out).mono ?_; rintro e w1 ⟨a1, b1, rfl, q1, s1⟩; have Q1 := Lib.hid q1; have U1 := Lib.hid s1; have S1 := Lib.hid (Still.trans S0.out s1); clear q1 s1)
          | (go_at_call 10; with_reducible refine (Pc.out _ S1.out).mono ?_; rintro e w2 ⟨a2, b2, rfl, q2, s2⟩; have Q2 := Lib.hid q2; have U2 := Lib.hid s2; have S2 := Lib.hid (Still.trans S1.out s2); clear q2 s2)
          | (go_at_call 11; with_reducible refine (Pu.out _ S2.out).mono ?_; rintro e w3 ⟨a3, b3, rfl, q3, s3⟩; have Q3 := Lib.hid q3; have U3 := Lib.hid s3; have S3 := Lib.hid (Still.trans S2.out s3); clear q3 s3)
          | (go_at_call 21; with_reducible refine (Gu.out _ _ _ _ _ Q3.out S3.out (Still.refl _) SMu.out).1.mono ?_; rintro e w4 ⟨a4, b4, rfl, q4, s4⟩; have Q4 := Lib.hid q4; have U4 := Lib.hid s4; have S4 := Lib.hid (Still.trans S3.out s4); clear q4 s4)
          | (go_at_call 19; with_reducible refine (Gu.out _ _ _ _ _ Q3.out S3.out U4.out SMu.out).2.mono ?_; rintro e w5 ⟨a5, b5, rfl, s5⟩; have U5 := Lib.hid s5; have S5 := Lib.hid (Still.trans S4.out s5); clear s5)
          | (go_at_call 27; with_reducible refine (sameR_u (RwRow.still Q4.out U5.out) (Tu.out _ S5.out) Mu.out).mono ?_; rintro e w6 ⟨rfl, s6⟩; have S6 := Lib.hid (Still.trans S5.out s6); clear s6)
          | (go_at_call 16; with_reducible refine (LI.out _).mono ?_; rintro e wl ⟨rfl, sl⟩; have SL := Lib.hid (Still.trans S6.out sl); clear sl))
        go_ret
        exact ⟨rfl, SL.out⟩
      · have bu : (Eu == 0) = false := by simpa using eu
        have du : decide (Eu = 0) = false := by simpa using eu
        go_enter Try.func5, Try.ntmps5
        go_wp2_with (first
          | (go_at_call 8; with_reducible refine FW.out.mono ?_; rintro e w1 ⟨rfl, rfl⟩; have S0 := Lib.hid (Still.refl w))
          | (go_at_call 9; with_reducible refine (Pi.out _ S0.out).mono ?_; rintro e w1 ⟨a1, b1, rfl, q1, s1⟩; have Q1 := Lib.hid q1; have U1 := Lib.hid s1; have S1 := Lib.hid (Still.trans S0.out s1); clear q1 s1)
          | (go_at_call 10; with_reducible refine (Pc.out _ S1.out).mono ?_; rintro e w2 ⟨a2, b2, rfl, q2, s2⟩; have Q2 := Lib.hid q2; have U2 := Lib.hid s2; have S2 := Lib.hid (Still.trans S1.out s2); clear q2 s2)
          | (go_at_call 11; with_reducible refine (Pu.out _ S2.out).mono ?_; rintro e w3 ⟨a3, b3, rfl, q3, s3⟩; have Q3 := Lib.hid q3; have U3 := Lib.hid s3; have S3 := Lib.hid (Still.trans S2.out s3); clear q3 s3)
          | (go_at_call 16; with_reducible refine (LI.out _).mono ?_; rintro e wl ⟨rfl, sl⟩; have SL := Lib.hid (Still.trans S3.out sl); clear sl))
        go_ret
        exact ⟨rfl, SL.out⟩
end Go.Proofs.Ytgbkpbmilaafgaa
