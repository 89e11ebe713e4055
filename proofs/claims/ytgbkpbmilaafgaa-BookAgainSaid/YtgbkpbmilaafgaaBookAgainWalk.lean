/- The walk of BookAgain: it returns true, and nothing that was there turns. -/
import Derived.Test.YtgbkpbmilaafgaaBkLawB
import Derived.Test.YtgbkpbmilaafgaaBookReadsWalk
namespace Go.Proofs.Ytgbkpbmilaafgaa
open Go.RowKit
set_option linter.unusedVariables false
set_option linter.unusedSimpArgs false

theorem again_i {w1 w : World} {B : Option Addr} {n m d : Nat} {l : List UInt8} (h : RwRow kI w1 B m d (kI.rd l).1) (s : Still w1 w) (h0 : (kI.rd l).2 = 0) (hl : l.length = n) (hm : m = (kI.rd l).1.length) :
    Calls Try.prog 9 #[.slice B m d] w fun e w' => ∃ A' c', e = .returned (.tuple #[.slice A' n c', .int .i64 0]) ∧ Wrt w' A' n c' l ∧ Still w w' := by
  have e := wr_rd (k := kI) rfl h0
  have g := putW_i (h.still s) (by rw [hm]; exact rd_len l)
  rw [e] at g
  simp only [hl] at g
  exact g
theorem again_c {w1 w : World} {B : Option Addr} {n m d : Nat} {l : List UInt8} (h : RwRow kC w1 B m d (kC.rd l).1) (s : Still w1 w) (h0 : (kC.rd l).2 = 0) (hl : l.length = n) (hm : m = (kC.rd l).1.length) :
    Calls Try.prog 10 #[.slice B m d] w fun e w' => ∃ A' c', e = .returned (.tuple #[.slice A' n c', .int .i64 0]) ∧ Wrt w' A' n c' l ∧ Still w w' := by
  have e := wr_rd (k := kC) rfl h0
  have g := putW_c (h.still s) (by rw [hm]; exact rd_len l)
  rw [e] at g
  simp only [hl] at g
  exact g
theorem again_u {w1 w : World} {B : Option Addr} {n m d : Nat} {l : List UInt8} (h : RwRow kU w1 B m d (kU.rd l).1) (s : Still w1 w) (h0 : (kU.rd l).2 = 0) (hl : l.length = n) (hm : m = (kU.rd l).1.length) :
    Calls Try.prog 11 #[.slice B m d] w fun e w' => ∃ A' c', e = .returned (.tuple #[.slice A' n c', .int .i64 0]) ∧ Wrt w' A' n c' l ∧ Still w w' := by
  have e := wr_rd (k := kU) rfl h0
  have g := putW_u (h.still s) (by rw [hm]; exact rd_len l)
  rw [e] at g
  simp only [hl] at g
  exact g
set_option maxRecDepth 100000 in
set_option maxHeartbeats 6400000 in
theorem bookAgain_walk (A0 : Option Addr) (n0 c0 : Nat) (z0 : List Int) (w : World) (h0 : RowIn .u8 w A0 n0 c0 z0) :
    Calls Try.prog 6 #[.slice A0 n0 c0] w fun e w' => e = .returned (.bool true) ∧ Below w.heap.size w w' := by
  obtain ⟨n, l, rs, hn, hcut⟩ := cut_row h0 1500 (by omega)
  have hlen := rs.reads.len
  have HN := Lib.hid hn
  have LI := Lib.hid (fun W => lives_any W)
  have RQ := Lib.hid (fun W (s : Still w W) => rs.still (Nat.le_refl _) s)
  have HC := Lib.hid hcut
  have Pi := Lib.hid (fun W (s : Still w W) => getR_i (rs.still (Nat.le_refl _) s) s.size (by omega))
  obtain ⟨Ei, hEi⟩ : ∃ z, z = (kI.rd l).2 := ⟨_, rfl⟩
  obtain ⟨Li, hLi⟩ : ∃ z, z = (kI.rd l).1 := ⟨_, rfl⟩
  obtain ⟨Zi, hZi⟩ : ∃ z, z = (kI.rd l).1.length := ⟨_, rfl⟩
  have Gi := Lib.hid (fun B d W1 W (e0 : Ei = 0) (h : RwRow kI W1 B Zi d (kI.rd l).1) (s : Still W1 W) => again_i (n := n) h s (hEi.symm.trans e0) hlen hZi)
  have Pc := Lib.hid (fun W (s : Still w W) => getR_c (rs.still (Nat.le_refl _) s) s.size (by omega))
  obtain ⟨Ec, hEc⟩ : ∃ z, z = (kC.rd l).2 := ⟨_, rfl⟩
  obtain ⟨Lc, hLc⟩ : ∃ z, z = (kC.rd l).1 := ⟨_, rfl⟩
  obtain ⟨Zc, hZc⟩ : ∃ z, z = (kC.rd l).1.length := ⟨_, rfl⟩
  have Gc := Lib.hid (fun B d W1 W (e0 : Ec = 0) (h : RwRow kC W1 B Zc d (kC.rd l).1) (s : Still W1 W) => again_c (n := n) h s (hEc.symm.trans e0) hlen hZc)
  have Pu := Lib.hid (fun W (s : Still w W) => getR_u (rs.still (Nat.le_refl _) s) s.size (by omega))
  obtain ⟨Eu, hEu⟩ : ∃ z, z = (kU.rd l).2 := ⟨_, rfl⟩
  obtain ⟨Lu, hLu⟩ : ∃ z, z = (kU.rd l).1 := ⟨_, rfl⟩
  obtain ⟨Zu, hZu⟩ : ∃ z, z = (kU.rd l).1.length := ⟨_, rfl⟩
  have Gu := Lib.hid (fun B d W1 W (e0 : Eu = 0) (h : RwRow kU W1 B Zu d (kU.rd l).1) (s : Still W1 W) => again_u (n := n) h s (hEu.symm.trans e0) hlen hZu)
  have Nic : ¬ (Ei = 0 ∧ Ec = 0) := fun ⟨x, y⟩ => absurd (rd_uniq (k := kI) (k' := kC) (hEi.symm.trans x) (hEc.symm.trans y)) (by decide)
  have Niu : ¬ (Ei = 0 ∧ Eu = 0) := fun ⟨x, y⟩ => absurd (rd_uniq (k := kI) (k' := kU) (hEi.symm.trans x) (hEu.symm.trans y)) (by decide)
  have Ncu : ¬ (Ec = 0 ∧ Eu = 0) := fun ⟨x, y⟩ => absurd (rd_uniq (k := kC) (k' := kU) (hEc.symm.trans x) (hEu.symm.trans y)) (by decide)
  rw [← hEi, ← hZi, ← hLi] at Pi
  rw [← hLi] at Gi
  clear hEi hLi hZi
  rw [← hEc, ← hZc, ← hLc] at Pc
  rw [← hLc] at Gc
  clear hEc hLc hZc
  rw [← hEu, ← hZu, ← hLu] at Pu
  rw [← hLu] at Gu
  clear hEu hLu hZu
  clear hcut h0 rs hn hlen
  by_cases ei : Ei = 0
  · skip
    have ec : ¬ Ec = 0 := fun x => Nic ⟨ei, x⟩
    have eu : ¬ Eu = 0 := fun x => Niu ⟨ei, x⟩
    clear Nic Niu Ncu
    have bc : (Ec == 0) = false := by simpa using ec
    have dc : decide (Ec = 0) = false := by simpa using ec
    have fc : (Ec != 0) = true := by simpa using ec
    have bu : (Eu == 0) = false := by simpa using eu
    have du : decide (Eu = 0) = false := by simpa using eu
    have fu : (Eu != 0) = true := by simpa using eu
    subst ei
    replace Gi := Lib.hid (fun B d W1 W => Gi.out B d W1 W rfl)
    go_enter Try.func6, Try.ntmps6
    go_wp2_with (first
      | (go_at_call 17; refine HC.out.mono ?_; rintro e w1 ⟨rfl, rfl⟩; have S0 := Lib.hid (Still.refl w))
      | (go_at_call 19; with_reducible refine (Pi.out _ S0.out).mono ?_; rintro e w1 ⟨a1, b1, rfl, q1, s1⟩; have Q1 := Lib.hid q1; have U1 := Lib.hid s1; have S1 := Lib.hid (Still.trans S0.out s1); clear q1 s1)
      | (go_at_call 20; with_reducible refine (Pc.out _ S1.out).mono ?_; rintro e w2 ⟨a2, b2, rfl, q2, s2⟩; have Q2 := Lib.hid q2; have U2 := Lib.hid s2; have S2 := Lib.hid (Still.trans S1.out s2); clear q2 s2)
      | (go_at_call 21; with_reducible refine (Pu.out _ S2.out).mono ?_; rintro e w3 ⟨a3, b3, rfl, q3, s3⟩; have Q3 := Lib.hid q3; have U3 := Lib.hid s3; have S3 := Lib.hid (Still.trans S2.out s3); clear q3 s3)
      | (go_at_call 9; with_reducible refine (Gi.out _ _ _ _ Q1.out (Still.trans U2.out U3.out)).mono ?_; rintro e w4 ⟨a4, b4, rfl, q4, s4⟩; have Q4 := Lib.hid q4; have S4 := Lib.hid (Still.trans S3.out s4); clear q4 s4)
      | (go_at_call 15; with_reducible refine (same_eq (Wrt.rows Q4.out) (RQ.out _ S4.out) HN.out).mono ?_; rintro e w5 ⟨rfl, s5⟩; have S5 := Lib.hid (Still.trans S4.out s5); clear s5)
      | (go_at_call 16; with_reducible refine (LI.out _).mono ?_; rintro e wl ⟨rfl, sl⟩; have SL := Lib.hid (Still.trans S5.out sl); clear sl))
    go_ret
    refine ⟨?_, SL.out⟩
    first
      | rfl
      | (change Ending.returned (Value.bool (Ec != 0)) = _; rw [fc])
      | (change Ending.returned (Value.bool (Eu != 0)) = _; rw [fu])
      | (change Ending.returned (Value.bool (Ei != 0)) = _; rw [fi])
  · by_cases ec : Ec = 0
    · skip
      have eu : ¬ Eu = 0 := fun x => Ncu ⟨ec, x⟩
      clear Nic Niu Ncu
      have bi : (Ei == 0) = false := by simpa using ei
      have di : decide (Ei = 0) = false := by simpa using ei
      have fi : (Ei != 0) = true := by simpa using ei
      have bu : (Eu == 0) = false := by simpa using eu
      have du : decide (Eu = 0) = false := by simpa using eu
      have fu : (Eu != 0) = true := by simpa using eu
      subst ec
      replace Gc := Lib.hid (fun B d W1 W => Gc.out B d W1 W rfl)
      go_enter Try.func6, Try.ntmps6
      go_wp2_with (first
        | (go_at_call 17; refine HC.out.mono ?_; rintro e w1 ⟨rfl, rfl⟩; have S0 := Lib.hid (Still.refl w))
        | (go_at_call 19; with_reducible refine (Pi.out _ S0.out).mono ?_; rintro e w1 ⟨a1, b1, rfl, q1, s1⟩; have Q1 := Lib.hid q1; have U1 := Lib.hid s1; have S1 := Lib.hid (Still.trans S0.out s1); clear q1 s1)
        | (go_at_call 20; with_reducible refine (Pc.out _ S1.out).mono ?_; rintro e w2 ⟨a2, b2, rfl, q2, s2⟩; have Q2 := Lib.hid q2; have U2 := Lib.hid s2; have S2 := Lib.hid (Still.trans S1.out s2); clear q2 s2)
        | (go_at_call 21; with_reducible refine (Pu.out _ S2.out).mono ?_; rintro e w3 ⟨a3, b3, rfl, q3, s3⟩; have Q3 := Lib.hid q3; have U3 := Lib.hid s3; have S3 := Lib.hid (Still.trans S2.out s3); clear q3 s3)
        | (go_at_call 10; with_reducible refine (Gc.out _ _ _ _ Q2.out U3.out).mono ?_; rintro e w4 ⟨a4, b4, rfl, q4, s4⟩; have Q4 := Lib.hid q4; have S4 := Lib.hid (Still.trans S3.out s4); clear q4 s4)
        | (go_at_call 15; with_reducible refine (same_eq (Wrt.rows Q4.out) (RQ.out _ S4.out) HN.out).mono ?_; rintro e w5 ⟨rfl, s5⟩; have S5 := Lib.hid (Still.trans S4.out s5); clear s5)
        | (go_at_call 16; with_reducible refine (LI.out _).mono ?_; rintro e wl ⟨rfl, sl⟩; have SL := Lib.hid (Still.trans S5.out sl); clear sl))
      go_ret
      refine ⟨?_, SL.out⟩
      first
        | rfl
        | (change Ending.returned (Value.bool (Ec != 0)) = _; rw [fc])
        | (change Ending.returned (Value.bool (Eu != 0)) = _; rw [fu])
        | (change Ending.returned (Value.bool (Ei != 0)) = _; rw [fi])
    · by_cases eu : Eu = 0
      · skip
        clear Nic Niu Ncu
        have bi : (Ei == 0) = false := by simpa using ei
        have di : decide (Ei = 0) = false := by simpa using ei
        have fi : (Ei != 0) = true := by simpa using ei
        have bc : (Ec == 0) = false := by simpa using ec
        have dc : decide (Ec = 0) = false := by simpa using ec
        have fc : (Ec != 0) = true := by simpa using ec
        subst eu
        replace Gu := Lib.hid (fun B d W1 W => Gu.out B d W1 W rfl)
        go_enter Try.func6, Try.ntmps6
        go_wp2_with (first
          | (go_at_call 17; refine HC.out.mono ?_; rintro e w1 ⟨rfl, rfl⟩; have S0 := Lib.hid (Still.refl w))
          | (go_at_call 19; with_reducible refine (Pi.out _ S0.out).mono ?_; rintro e w1 ⟨a1, b1, rfl, q1, s1⟩; have Q1 := Lib.hid q1; have U1 := Lib.hid s1; have S1 := Lib.hid (Still.trans S0.out s1); clear q1 s1)
          | (go_at_call 20; with_reducible refine (Pc.out _ S1.out).mono ?_; rintro e w2 ⟨a2, b2, rfl, q2, s2⟩; have Q2 := Lib.hid q2; have U2 := Lib.hid s2; have S2 := Lib.hid (Still.trans S1.out s2); clear q2 s2)
          | (go_at_call 21; with_reducible refine (Pu.out _ S2.out).mono ?_; rintro e w3 ⟨a3, b3, rfl, q3, s3⟩; have Q3 := Lib.hid q3; have U3 := Lib.hid s3; have S3 := Lib.hid (Still.trans S2.out s3); clear q3 s3)
          | (go_at_call 11; with_reducible refine (Gu.out _ _ _ _ Q3.out (Still.refl _)).mono ?_; rintro e w4 ⟨a4, b4, rfl, q4, s4⟩; have Q4 := Lib.hid q4; have S4 := Lib.hid (Still.trans S3.out s4); clear q4 s4)
          | (go_at_call 15; with_reducible refine (same_eq (Wrt.rows Q4.out) (RQ.out _ S4.out) HN.out).mono ?_; rintro e w5 ⟨rfl, s5⟩; have S5 := Lib.hid (Still.trans S4.out s5); clear s5)
          | (go_at_call 16; with_reducible refine (LI.out _).mono ?_; rintro e wl ⟨rfl, sl⟩; have SL := Lib.hid (Still.trans S5.out sl); clear sl))
        go_ret
        refine ⟨?_, SL.out⟩
        first
          | rfl
          | (change Ending.returned (Value.bool (Ec != 0)) = _; rw [fc])
          | (change Ending.returned (Value.bool (Eu != 0)) = _; rw [fu])
          | (change Ending.returned (Value.bool (Ei != 0)) = _; rw [fi])
      · skip
        clear Nic Niu Ncu
        have bi : (Ei == 0) = false := by simpa using ei
        have di : decide (Ei = 0) = false := by simpa using ei
        have fi : (Ei != 0) = true := by simpa using ei
        have bc : (Ec == 0) = false := by simpa using ec
        have dc : decide (Ec = 0) = false := by simpa using ec
        have fc : (Ec != 0) = true := by simpa using ec
        have bu : (Eu == 0) = false := by simpa using eu
        have du : decide (Eu = 0) = false := by simpa using eu
        have fu : (Eu != 0) = true := by simpa using eu
        go_enter Try.func6, Try.ntmps6
        go_wp2_with (first
          | (go_at_call 17; refine HC.out.mono ?_; rintro e w1 ⟨rfl, rfl⟩; have S0 := Lib.hid (Still.refl w))
          | (go_at_call 19; with_reducible refine (Pi.out _ S0.out).mono ?_; rintro e w1 ⟨a1, b1, rfl, q1, s1⟩; have Q1 := Lib.hid q1; have U1 := Lib.hid s1; have S1 := Lib.hid (Still.trans S0.out s1); clear q1 s1)
          | (go_at_call 20; with_reducible refine (Pc.out _ S1.out).mono ?_; rintro e w2 ⟨a2, b2, rfl, q2, s2⟩; have Q2 := Lib.hid q2; have U2 := Lib.hid s2; have S2 := Lib.hid (Still.trans S1.out s2); clear q2 s2)
          | (go_at_call 21; with_reducible refine (Pu.out _ S2.out).mono ?_; rintro e w3 ⟨a3, b3, rfl, q3, s3⟩; have Q3 := Lib.hid q3; have U3 := Lib.hid s3; have S3 := Lib.hid (Still.trans S2.out s3); clear q3 s3)
          | (go_at_call 16; with_reducible refine (LI.out _).mono ?_; rintro e wl ⟨rfl, sl⟩; have SL := Lib.hid (Still.trans S3.out sl); clear sl))
        go_ret
        refine ⟨?_, SL.out⟩
        first
          | rfl
          | (change Ending.returned (Value.bool (Ec != 0)) = _; rw [fc])
          | (change Ending.returned (Value.bool (Eu != 0)) = _; rw [fu])
          | (change Ending.returned (Value.bool (Ei != 0)) = _; rw [fi])
end Go.Proofs.Ytgbkpbmilaafgaa
