/- The walk of BookWrites: it returns true, and nothing that was there turns. -/
import Derived.Test.YtgbkpbmilaafgaaBkGu
namespace Go.Proofs.Ytgbkpbmilaafgaa
open Go.RowKit
set_option linter.unusedVariables false
set_option linter.unusedSimpArgs false

theorem putW_i {w : World} {A : Option Addr} {n c : Nat} {L : List Rw} (h : RwRow kI w A n c L) (hn : n ≤ 65536) :
    Calls Try.prog 9 #[.slice A n c] w fun e w' => ∃ A' c', e = .returned (.tuple #[.slice A' (kI.wr L).1.length c', .int .i64 (kI.wr L).2]) ∧ Wrt w' A' (kI.wr L).1.length c' (kI.wr L).1 ∧ Still w w' :=
  (put_i h hn).mono fun e w' ⟨A', c', he, h1, h2, h3, h4, s⟩ => ⟨A', c', he, ⟨h1, h2, h3, h4⟩, s⟩
theorem docW_i {w : World} {A : Option Addr} {n c : Nat} {L : List Rw} (h : RwRow kI w A n c L) (hn : n ≤ 65536) :
    Calls Try.prog 12 #[.slice A n c] w fun e w' => ∃ A' c', e = .returned (.tuple #[.slice A' (kI.wr L).1.length c', .int .i64 (kI.wr L).2]) ∧ Wrt w' A' (kI.wr L).1.length c' (kI.wr L).1 ∧ Still w w' :=
  (docw_i h hn).mono fun e w' ⟨A', c', he, h1, h2, h3, h4, s⟩ => ⟨A', c', he, ⟨h1, h2, h3, h4⟩, s⟩
theorem putW_c {w : World} {A : Option Addr} {n c : Nat} {L : List Rw} (h : RwRow kC w A n c L) (hn : n ≤ 65536) :
    Calls Try.prog 10 #[.slice A n c] w fun e w' => ∃ A' c', e = .returned (.tuple #[.slice A' (kC.wr L).1.length c', .int .i64 (kC.wr L).2]) ∧ Wrt w' A' (kC.wr L).1.length c' (kC.wr L).1 ∧ Still w w' :=
  (put_c h hn).mono fun e w' ⟨A', c', he, h1, h2, h3, h4, s⟩ => ⟨A', c', he, ⟨h1, h2, h3, h4⟩, s⟩
theorem docW_c {w : World} {A : Option Addr} {n c : Nat} {L : List Rw} (h : RwRow kC w A n c L) (hn : n ≤ 65536) :
    Calls Try.prog 13 #[.slice A n c] w fun e w' => ∃ A' c', e = .returned (.tuple #[.slice A' (kC.wr L).1.length c', .int .i64 (kC.wr L).2]) ∧ Wrt w' A' (kC.wr L).1.length c' (kC.wr L).1 ∧ Still w w' :=
  (docw_c h hn).mono fun e w' ⟨A', c', he, h1, h2, h3, h4, s⟩ => ⟨A', c', he, ⟨h1, h2, h3, h4⟩, s⟩
theorem putW_u {w : World} {A : Option Addr} {n c : Nat} {L : List Rw} (h : RwRow kU w A n c L) (hn : n ≤ 65536) :
    Calls Try.prog 11 #[.slice A n c] w fun e w' => ∃ A' c', e = .returned (.tuple #[.slice A' (kU.wr L).1.length c', .int .i64 (kU.wr L).2]) ∧ Wrt w' A' (kU.wr L).1.length c' (kU.wr L).1 ∧ Still w w' :=
  (put_u h hn).mono fun e w' ⟨A', c', he, h1, h2, h3, h4, s⟩ => ⟨A', c', he, ⟨h1, h2, h3, h4⟩, s⟩
theorem docW_u {w : World} {A : Option Addr} {n c : Nat} {L : List Rw} (h : RwRow kU w A n c L) (hn : n ≤ 65536) :
    Calls Try.prog 14 #[.slice A n c] w fun e w' => ∃ A' c', e = .returned (.tuple #[.slice A' (kU.wr L).1.length c', .int .i64 (kU.wr L).2]) ∧ Wrt w' A' (kU.wr L).1.length c' (kU.wr L).1 ∧ Still w w' :=
  (docw_u h hn).mono fun e w' ⟨A', c', he, h1, h2, h3, h4, s⟩ => ⟨A', c', he, ⟨h1, h2, h3, h4⟩, s⟩
set_option maxRecDepth 100000 in
set_option maxHeartbeats 3200000 in
theorem bookWrites_walk (A0 : Option Addr) (n0 c0 : Nat) (L0 : List Rw) (A1 : Option Addr) (n1 c1 : Nat) (L1 : List Rw) (A2 : Option Addr) (n2 c2 : Nat) (L2 : List Rw) (w : World) (h0 : RwRow kI w A0 n0 c0 L0) (h1 : RwRow kC w A1 n1 c1 L1) (h2 : RwRow kU w A2 n2 c2 L2) :
    Calls Try.prog 3 #[.slice A0 n0 c0, .slice A1 n1 c1, .slice A2 n2 c2] w fun e w' => e = .returned (.bool true) ∧ Below w.heap.size w w' := by
  have FW := Lib.hid (few_any h0 h1 h2)
  have LI := Lib.hid (fun W => lives_any W)
  have t0 := h0.take 30
  obtain ⟨M0, hM0⟩ : ∃ M, M = L0.take 30 := ⟨_, rfl⟩
  rw [← hM0] at t0
  obtain ⟨m0, hm0⟩ : ∃ m, m = min n0 30 := ⟨_, rfl⟩
  rw [← hm0] at t0 FW
  have Si := wr_small rfl wide_i t0 (by omega)
  have Pi := Lib.hid (fun W (s : Still w W) => putW_i (t0.still s) (by omega))
  have Di := Lib.hid (fun W (s : Still w W) => docW_i (t0.still s) (by omega))
  obtain ⟨Ri, hRi⟩ : ∃ R, R = kI.wr M0 := ⟨_, rfl⟩
  rw [← hRi] at Si Pi Di
  obtain ⟨Zi, hZi⟩ : ∃ z, z = Ri.1.length := ⟨_, rfl⟩
  obtain ⟨Ei, hEi⟩ : ∃ z, z = Ri.2 := ⟨_, rfl⟩
  rw [← hZi] at Si Pi Di
  rw [← hEi] at Pi Di
  have SMi := Lib.hid Si
  clear t0 hM0 hm0 hRi hZi hEi h0 Si
  have t1 := h1.take 30
  obtain ⟨M1, hM1⟩ : ∃ M, M = L1.take 30 := ⟨_, rfl⟩
  rw [← hM1] at t1
  obtain ⟨m1, hm1⟩ : ∃ m, m = min n1 30 := ⟨_, rfl⟩
  rw [← hm1] at t1 FW
  have Sc := wr_small rfl wide_c t1 (by omega)
  have Pc := Lib.hid (fun W (s : Still w W) => putW_c (t1.still s) (by omega))
  have Dc := Lib.hid (fun W (s : Still w W) => docW_c (t1.still s) (by omega))
  obtain ⟨Rc, hRc⟩ : ∃ R, R = kC.wr M1 := ⟨_, rfl⟩
  rw [← hRc] at Sc Pc Dc
  obtain ⟨Zc, hZc⟩ : ∃ z, z = Rc.1.length := ⟨_, rfl⟩
  obtain ⟨Ec, hEc⟩ : ∃ z, z = Rc.2 := ⟨_, rfl⟩
  rw [← hZc] at Sc Pc Dc
  rw [← hEc] at Pc Dc
  have SMc := Lib.hid Sc
  clear t1 hM1 hm1 hRc hZc hEc h1 Sc
  have t2 := h2.take 30
  obtain ⟨M2, hM2⟩ : ∃ M, M = L2.take 30 := ⟨_, rfl⟩
  rw [← hM2] at t2
  obtain ⟨m2, hm2⟩ : ∃ m, m = min n2 30 := ⟨_, rfl⟩
  rw [← hm2] at t2 FW
  have Su := wr_small rfl wide_u t2 (by omega)
  have Pu := Lib.hid (fun W (s : Still w W) => putW_u (t2.still s) (by omega))
  have Du := Lib.hid (fun W (s : Still w W) => docW_u (t2.still s) (by omega))
  obtain ⟨Ru, hRu⟩ : ∃ R, R = kU.wr M2 := ⟨_, rfl⟩
  rw [← hRu] at Su Pu Du
  obtain ⟨Zu, hZu⟩ : ∃ z, z = Ru.1.length := ⟨_, rfl⟩
  obtain ⟨Eu, hEu⟩ : ∃ z, z = Ru.2 := ⟨_, rfl⟩
  rw [← hZu] at Su Pu Du
  rw [← hEu] at Pu Du
  have SMu := Lib.hid Su
  clear t2 hM2 hm2 hRu hZu hEu h2 Su
  go_enter Try.func3, Try.ntmps3
  go_wp2_with (first
    | (go_at_call 8; with_reducible refine FW.out.mono ?_; rintro e w1 ⟨rfl, rfl⟩; have S0 := Lib.hid (Still.refl w))
    | (go_at_call 9; with_reducible refine (Pi.out _ S0.out).mono ?_; rintro e w1 ⟨a1, b1, rfl, q1, s1⟩; have Q1 := Lib.hid q1; have U1 := Lib.hid s1; have S1 := Lib.hid (Still.trans S0.out s1); clear q1 s1)
    | (go_at_call 10; with_reducible refine (Pc.out _ S1.out).mono ?_; rintro e w2 ⟨a2, b2, rfl, q2, s2⟩; have Q2 := Lib.hid q2; have U2 := Lib.hid s2; have S2 := Lib.hid (Still.trans S1.out s2); clear q2 s2)
    | (go_at_call 11; with_reducible refine (Pu.out _ S2.out).mono ?_; rintro e w3 ⟨a3, b3, rfl, q3, s3⟩; have Q3 := Lib.hid q3; have U3 := Lib.hid s3; have S3 := Lib.hid (Still.trans S2.out s3); clear q3 s3)
    | (go_at_call 12; with_reducible refine (Di.out _ S3.out).mono ?_; rintro e w4 ⟨a4, b4, rfl, q4, s4⟩; have Q4 := Lib.hid q4; have U4 := Lib.hid s4; have S4 := Lib.hid (Still.trans S3.out s4); clear q4 s4)
    | (go_at_call 13; with_reducible refine (Dc.out _ S4.out).mono ?_; rintro e w5 ⟨a5, b5, rfl, q5, s5⟩; have Q5 := Lib.hid q5; have U5 := Lib.hid s5; have S5 := Lib.hid (Still.trans S4.out s5); clear q5 s5)
    | (go_at_call 14; with_reducible refine (Du.out _ S5.out).mono ?_; rintro e w6 ⟨a6, b6, rfl, q6, s6⟩; have Q6 := Lib.hid q6; have U6 := Lib.hid s6; have S6 := Lib.hid (Still.trans S5.out s6); clear q6 s6)
    | (go_at_call 15; with_reducible refine (Wrt.same Q1.out Q4.out SMi.out SMi.out (Still.trans (Still.trans (Still.trans (Still.trans U2.out U3.out) U4.out) U5.out) U6.out) (Still.trans U5.out U6.out)).mono ?_; rintro e w7 ⟨rfl, s7⟩; have U7 := Lib.hid s7; have S7 := Lib.hid (Still.trans S6.out s7); clear s7)
    | (go_at_call 15; with_reducible refine (Wrt.same Q2.out Q5.out SMc.out SMc.out (Still.trans (Still.trans (Still.trans (Still.trans U3.out U4.out) U5.out) U6.out) U7.out) (Still.trans U6.out U7.out)).mono ?_; rintro e w8 ⟨rfl, s8⟩; have U8 := Lib.hid s8; have S8 := Lib.hid (Still.trans S7.out s8); clear s8)
    | (go_at_call 15; with_reducible refine (Wrt.same Q3.out Q6.out SMu.out SMu.out (Still.trans (Still.trans (Still.trans (Still.trans U4.out U5.out) U6.out) U7.out) U8.out) (Still.trans U7.out U8.out)).mono ?_; rintro e w9 ⟨rfl, s9⟩; have U9 := Lib.hid s9; have S9 := Lib.hid (Still.trans S8.out s9); clear s9)
    | (go_at_call 16; with_reducible refine (LI.out _).mono ?_; rintro e wl ⟨rfl, sl⟩; have SL := Lib.hid (Still.trans S9.out sl); clear sl))
  go_ret
  exact ⟨rfl, SL.out⟩
end Go.Proofs.Ytgbkpbmilaafgaa
