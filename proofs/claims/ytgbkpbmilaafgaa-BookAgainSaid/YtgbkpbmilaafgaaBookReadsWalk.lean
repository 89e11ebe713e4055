/- The walk of BookReads: it returns true, and nothing that was there turns. -/
import Derived.Test.YtgbkpbmilaafgaaBkGy
namespace Go.Proofs.Ytgbkpbmilaafgaa
open Go.RowKit
set_option linter.unusedVariables false
set_option linter.unusedSimpArgs false

theorem same_eq {w : World} {B B' n c c' : Nat} {A A' : Option Addr} {l : List UInt8} (h : RowS w B A n c l) (h' : RowS w B' A' n c' l) (hn : n ≤ 1500) :
    Calls Try.prog 15 #[.slice A n c, .slice A' n c'] w fun e w' => e = .returned (.bool true) ∧ Still w w' :=
  (same_any A A' n n c c' l l w _ _ h.reads h'.reads (by omega) (by omega)).mono fun e w' ⟨he, s⟩ => ⟨by rw [he]; simp, s⟩
set_option maxRecDepth 100000 in
set_option maxHeartbeats 3200000 in
theorem bookReads_walk (A0 : Option Addr) (n0 c0 : Nat) (z0 : List Int) (w : World) (h0 : RowIn .u8 w A0 n0 c0 z0) :
    Calls Try.prog 4 #[.slice A0 n0 c0] w fun e w' => e = .returned (.bool true) ∧ Below w.heap.size w w' := by
  obtain ⟨n, l, rs, hn, hcut⟩ := cut_row h0 1500 (by omega)
  have HN := Lib.hid hn
  have LI := Lib.hid (fun W => lives_any W)
  have RQ := Lib.hid (fun W (s : Still w W) => rs.still (Nat.le_refl _) s)
  have CP := Lib.hid (copy_any A0 n c0 l w w.heap.size rs.reads (by omega) rs.nil)
  have HC := Lib.hid hcut
  have Pi := Lib.hid (fun A c W1 W (r : RowS W1 W1.heap.size A n c l) (s : Still W1 W) => getR_i (r.still (Nat.le_refl _) s) s.size (by omega))
  have Di := Lib.hid (fun W (s : Still w W) => docR_i (rs.still (Nat.le_refl _) s) s.size (by omega))
  have SMi := Lib.hid (show (kI.rd l).1.length ≤ 1048576 from Nat.le_trans (rd_len l) (by omega))
  obtain ⟨Ri, hRi⟩ : ∃ R, R = kI.rd l := ⟨_, rfl⟩
  rw [← hRi] at SMi Pi Di
  obtain ⟨Ei, hEi⟩ : ∃ z, z = Ri.2 := ⟨_, rfl⟩
  rw [← hEi] at Pi Di
  obtain ⟨Li, hLi⟩ : ∃ z, z = Ri.1 := ⟨_, rfl⟩
  rw [← hLi] at Pi Di SMi
  obtain ⟨Zi, hZi⟩ : ∃ z, z = Li.length := ⟨_, rfl⟩
  rw [← hZi] at Pi Di SMi
  clear hRi hLi hZi hEi
  have Pc := Lib.hid (fun A c W1 W (r : RowS W1 W1.heap.size A n c l) (s : Still W1 W) => getR_c (r.still (Nat.le_refl _) s) s.size (by omega))
  have Dc := Lib.hid (fun W (s : Still w W) => docR_c (rs.still (Nat.le_refl _) s) s.size (by omega))
  have SMc := Lib.hid (show (kC.rd l).1.length ≤ 1048576 from Nat.le_trans (rd_len l) (by omega))
  obtain ⟨Rc, hRc⟩ : ∃ R, R = kC.rd l := ⟨_, rfl⟩
  rw [← hRc] at SMc Pc Dc
  obtain ⟨Ec, hEc⟩ : ∃ z, z = Rc.2 := ⟨_, rfl⟩
  rw [← hEc] at Pc Dc
  obtain ⟨Lc, hLc⟩ : ∃ z, z = Rc.1 := ⟨_, rfl⟩
  rw [← hLc] at Pc Dc SMc
  obtain ⟨Zc, hZc⟩ : ∃ z, z = Lc.length := ⟨_, rfl⟩
  rw [← hZc] at Pc Dc SMc
  clear hRc hLc hZc hEc
  have Pu := Lib.hid (fun A c W1 W (r : RowS W1 W1.heap.size A n c l) (s : Still W1 W) => getR_u (r.still (Nat.le_refl _) s) s.size (by omega))
  have Du := Lib.hid (fun W (s : Still w W) => docR_u (rs.still (Nat.le_refl _) s) s.size (by omega))
  have SMu := Lib.hid (show (kU.rd l).1.length ≤ 1048576 from Nat.le_trans (rd_len l) (by omega))
  obtain ⟨Ru, hRu⟩ : ∃ R, R = kU.rd l := ⟨_, rfl⟩
  rw [← hRu] at SMu Pu Du
  obtain ⟨Eu, hEu⟩ : ∃ z, z = Ru.2 := ⟨_, rfl⟩
  rw [← hEu] at Pu Du
  obtain ⟨Lu, hLu⟩ : ∃ z, z = Ru.1 := ⟨_, rfl⟩
  rw [← hLu] at Pu Du SMu
  obtain ⟨Zu, hZu⟩ : ∃ z, z = Lu.length := ⟨_, rfl⟩
  rw [← hZu] at Pu Du SMu
  clear hRu hLu hZu hEu
  clear hcut h0 rs hn
  go_enter Try.func4, Try.ntmps4
  go_wp2_with (first
    | (go_at_call 17; refine HC.out.mono ?_; rintro e w1 ⟨rfl, rfl⟩)
    | (go_at_call 18; refine CP.out.mono ?_; rintro e w0 ⟨⟨v, rfl, own⟩, s0⟩; obtain ⟨A1, c1, rfl, f1, f2, f3⟩ := own_form own; have S0 := Lib.hid s0; have MI := Lib.hid ((⟨(Reads.of_own own), f1, f2, f3⟩ : RowS w0 w0.heap.size A1 n c1 l)); have V0 := Lib.hid (Still.refl w0); clear own s0 f1 f2 f3)
    | (go_at_call 19; with_reducible refine (Pi.out A1 c1 w0 _ MI.out V0.out).mono ?_; rintro e w1 ⟨a1, b1, rfl, q1, s1⟩; have Q1 := Lib.hid q1; have U1 := Lib.hid s1; have S1 := Lib.hid (Still.trans S0.out s1); have V1 := Lib.hid (Still.trans V0.out s1); clear q1 s1)
    | (go_at_call 20; with_reducible refine (Pc.out A1 c1 w0 _ MI.out V1.out).mono ?_; rintro e w2 ⟨a2, b2, rfl, q2, s2⟩; have Q2 := Lib.hid q2; have U2 := Lib.hid s2; have S2 := Lib.hid (Still.trans S1.out s2); have V2 := Lib.hid (Still.trans V1.out s2); clear q2 s2)
    | (go_at_call 21; with_reducible refine (Pu.out A1 c1 w0 _ MI.out V2.out).mono ?_; rintro e w3 ⟨a3, b3, rfl, q3, s3⟩; have Q3 := Lib.hid q3; have U3 := Lib.hid s3; have S3 := Lib.hid (Still.trans S2.out s3); have V3 := Lib.hid (Still.trans V2.out s3); clear q3 s3)
    | (go_at_call 22; with_reducible refine (Di.out _ S3.out).mono ?_; rintro e w4 ⟨a4, b4, rfl, q4, s4⟩; have Q4 := Lib.hid q4; have U4 := Lib.hid s4; have S4 := Lib.hid (Still.trans S3.out s4); have V4 := Lib.hid (Still.trans V3.out s4); clear q4 s4)
    | (go_at_call 23; with_reducible refine (Dc.out _ S4.out).mono ?_; rintro e w5 ⟨a5, b5, rfl, q5, s5⟩; have Q5 := Lib.hid q5; have U5 := Lib.hid s5; have S5 := Lib.hid (Still.trans S4.out s5); have V5 := Lib.hid (Still.trans V4.out s5); clear q5 s5)
    | (go_at_call 24; with_reducible refine (Du.out _ S5.out).mono ?_; rintro e w6 ⟨a6, b6, rfl, q6, s6⟩; have Q6 := Lib.hid q6; have U6 := Lib.hid s6; have S6 := Lib.hid (Still.trans S5.out s6); have V6 := Lib.hid (Still.trans V5.out s6); clear q6 s6)
    | (go_at_call 25; with_reducible refine (sameR_i (RwRow.still Q1.out (Still.trans (Still.trans (Still.trans (Still.trans U2.out U3.out) U4.out) U5.out) U6.out)) (RwRow.still Q4.out (Still.trans U5.out U6.out)) SMi.out).mono ?_; rintro e w7 ⟨rfl, s7⟩; have U7 := Lib.hid s7; have S7 := Lib.hid (Still.trans S6.out s7); have V7 := Lib.hid (Still.trans V6.out s7); clear s7)
    | (go_at_call 26; with_reducible refine (sameR_c (RwRow.still Q2.out (Still.trans (Still.trans (Still.trans (Still.trans U3.out U4.out) U5.out) U6.out) U7.out)) (RwRow.still Q5.out (Still.trans U6.out U7.out)) SMc.out).mono ?_; rintro e w8 ⟨rfl, s8⟩; have U8 := Lib.hid s8; have S8 := Lib.hid (Still.trans S7.out s8); have V8 := Lib.hid (Still.trans V7.out s8); clear s8)
    | (go_at_call 27; with_reducible refine (sameR_u (RwRow.still Q3.out (Still.trans (Still.trans (Still.trans (Still.trans U4.out U5.out) U6.out) U7.out) U8.out)) (RwRow.still Q6.out (Still.trans U7.out U8.out)) SMu.out).mono ?_; rintro e w9 ⟨rfl, s9⟩; have U9 := Lib.hid s9; have S9 := Lib.hid (Still.trans S8.out s9); have V9 := Lib.hid (Still.trans V8.out s9); clear s9)
    | (go_at_call 15; with_reducible refine (same_eq (RowS.still MI.out (Nat.le_refl _) V9.out) (RQ.out _ S9.out) HN.out).mono ?_; rintro e wm ⟨rfl, sm⟩; have SX := Lib.hid (Still.trans S9.out sm); clear sm)
    | (go_at_call 16; with_reducible refine (LI.out _).mono ?_; rintro e wl ⟨rfl, sl⟩; have SL := Lib.hid (Still.trans SX.out sl); clear sl))
  go_ret
  exact ⟨rfl, SL.out⟩
end Go.Proofs.Ytgbkpbmilaafgaa
