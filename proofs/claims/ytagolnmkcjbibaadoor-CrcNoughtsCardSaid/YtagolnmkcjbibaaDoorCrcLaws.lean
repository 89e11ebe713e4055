/- The walks of CrcSums, CrcShifts, CrcLinear: they return true, and nothing that was there turns. -/
import Derived.Test.YtagolnmkcjbibaaDoorCrcImp
import Derived.Lib.SlBytesConst
namespace Go.Proofs.YtagolnmkcjbibaaDoor
open Go.RowKit
set_option linter.unusedVariables false
set_option linter.unusedSimpArgs false

theorem crc_known : crcSum [49, 50, 51, 52, 53, 54, 55, 56, 57] = 3421780262 := by decide +kernel

set_option maxHeartbeats 400000 in
theorem crclives (w : World) (T : Tabs w) : Calls Tryd.prog 16 #[] w fun e w' => e = .returned (.bool true) ∧ Still w w' := by
  have kc := fun (w : World) (C : Array Value) (n c : Nat) => Lib.run_convert_bytes_const (P := Tryd.prog) w 23 5 C n c Tryd.underlying23 Tryd.underlying5
  go_enter Tryd.func16, Tryd.ntmps16
  go_wp2_with fail
  refine (crcsum_any _ 9 9 [49, 50, 51, 52, 53, 54, 55, 56, 57] _ (w.heap.size + 1) (T.still ((Below.refl _ _).alloc (Nat.le_refl _) _)) (const_reads w [49, 50, 51, 52, 53, 54, 55, 56, 57] (9, 10)) (by simp) (by omega)).mono ?_
  rintro e w1 ⟨rfl, s1⟩
  rw [crc_known]
  have s2 : Still w w1 := Still.trans ((Below.refl _ _).alloc (Nat.le_refl _) _) s1
  clear s1
  go_wp2_with fail
  go_ret
  exact ⟨rfl, s2⟩

set_option maxHeartbeats 800000 in
theorem crcSums_walk (s : Int) (A0 : Option Addr) (n0 c0 : Nat) (z0 : List Int) (w : World) (hs0 : 0 ≤ s) (hs1 : s < 4294967296) (h0 : RowIn .u8 w A0 n0 c0 z0) (T : Tabs w) :
    Calls Tryd.prog 3 #[.int .u32 s, .slice A0 n0 c0] w fun e w' => e = .returned (.bool true) ∧ Below w.heap.size w w' := by
  obtain ⟨s, rfl⟩ := Int.eq_ofNat_of_zero_le hs0
  have hs : s < 4294967296 := by omega
  obtain ⟨l0, r0, hc0, hm0, hA0⟩ := reads_of_row h0
  obtain ⟨n, l, rl, hn, hnc, hA, hcut⟩ : ∃ n l, Reads w w.heap.size A0 n l ∧ n ≤ 300 ∧ n ≤ c0 ∧ (A0 = none → n = 0 ∧ c0 = 0) ∧ Calls Tryd.prog 9 #[.slice A0 n0 c0, .int .i64 300] w fun e w' => e = .returned (.slice A0 n c0) ∧ w = w' :=
    ⟨_, _, r0.take 300, by omega, by omega, fun e => ⟨by have := (hA0 e).1; omega, (hA0 e).2⟩, cut_any A0 n0 c0 300 l0 w _ r0 hc0 hm0 (by omega)⟩
  have HC := Lib.hid hcut
  have TT := Lib.hid T
  clear hcut h0 r0 hA0 hm0 T
  go_enter Tryd.func3, Tryd.ntmps3
  go_wp2_with fail
  refine HC.out.mono ?_
  rintro e w1 ⟨rfl, rfl⟩
  go_wp2_with fail
  refine (copy_any A0 n c0 l w _ rl (by omega) hA).mono ?_
  rintro e w1 ⟨⟨v, rfl, own1⟩, s1⟩
  obtain ⟨A1, c1, rfl, _, _, _⟩ := own_form own1
  have q1 := Reads.of_own own1
  have r1 := rl.still (Nat.le_refl _) s1
  have z1 : w.heap.size ≤ w1.heap.size := s1.size
  clear own1
  go_wp2_with fail
  refine (crcsum_any A1 n c1 l w1 _ (TT.out.still s1) q1 (Nat.le_refl _) (by omega)).mono ?_
  rintro e w2 ⟨rfl, s2⟩
  have q2 := q1.still (Nat.le_refl _) s2
  have r2 := r1.still z1 s2
  have z2 : w1.heap.size ≤ w2.heap.size := s2.size
  go_wp2_with fail
  refine (rsum_any A0 n c0 l w2 _ r2 (by omega)).mono ?_
  rintro e w3 ⟨rfl, rfl⟩
  generalize crcSum l = S1
  go_wp2_with fail
  refine (crcadd_any s A1 n c1 l w2 _ (TT.out.still (s1.trans s2)) hs q2 z2 (by omega)).mono ?_
  rintro e w3 ⟨rfl, s3⟩
  have q3 := q2.still z2 s3
  have r3 := r2.still (by omega) s3
  go_wp2_with fail
  refine (radd_any s A0 n c0 l w3 _ hs r3 (by omega)).mono ?_
  rintro e w4 ⟨rfl, rfl⟩
  generalize crcAdd s l = S2
  go_wp2_with fail
  refine (same_yes A1 A0 n c1 c0 l w3 _ _ q3 r3 (by omega)).mono ?_
  rintro e w4 ⟨rfl, s4⟩
  go_wp2_with fail
  refine (crclives w4 (TT.out.still (s1.trans (s2.trans (s3.trans s4))))).mono ?_
  rintro e w5 ⟨rfl, s5⟩
  go_wp2_with fail
  go_ret
  exact ⟨rfl, s1.trans (s2.trans (s3.trans (s4.trans s5)))⟩

set_option maxHeartbeats 800000 in
theorem crcShifts_walk (s t n : Int) (w : World) (hs0 : 0 ≤ s) (hs1 : s < 4294967296) (ht0 : 0 ≤ t) (ht1 : t < 4294967296) (hn : n ≤ 9223372036854775807) (T : Tabs w) :
    Calls Tryd.prog 4 #[.int .u32 s, .int .u32 t, .int .i64 n] w fun e w' => e = .returned (.bool true) ∧ Below w.heap.size w w' := by
  obtain ⟨s, rfl⟩ := Int.eq_ofNat_of_zero_le hs0
  obtain ⟨t, rfl⟩ := Int.eq_ofNat_of_zero_le ht0
  have hs : s < 4294967296 := by omega
  have ht : t < 4294967296 := by omega
  have k1 := fun w => crcshift_any s n w hs hn
  have k2 := fun w => rshift_any s n w hs hn
  have k3 := fun w => crcjoin_any s t n w hs ht hn
  have hb := crcShift_lt s n.toNat hs
  generalize crcShift s n.toNat = R at k1 k2 k3 hb
  have hx := u32_xor_cast R t hb ht
  generalize R ^^^ t = Q at hx k3
  have K1 := Lib.hid k1
  have TT := Lib.hid T
  clear T
  have K2 := Lib.hid k2
  have K3 := Lib.hid k3
  clear k1 k2 k3
  go_enter Tryd.func4, Tryd.ntmps4
  go_wp2_with fail
  refine (K1.out _).mono ?_
  rintro e w1 ⟨rfl, s1⟩
  go_wp2_with fail
  refine (K2.out _).mono ?_
  rintro e w2 ⟨rfl, rfl⟩
  go_wp2_with fail
  refine (K3.out _).mono ?_
  rintro e w2 ⟨rfl, s2⟩
  go_wp2_with fail
  refine (K2.out _).mono ?_
  rintro e w3 ⟨rfl, rfl⟩
  go_wp2_with fail
  refine (crclives _ (TT.out.still (s1.trans s2))).mono ?_
  rintro e w3 ⟨rfl, s3⟩
  go_wp2_with fail
  go_ret
  exact ⟨rfl, s1.trans (s2.trans s3)⟩

set_option maxHeartbeats 800000 in
theorem crcLinear_walk (s t n0 m0 : Int) (w : World) (hs0 : 0 ≤ s) (hs1 : s < 4294967296) (ht0 : 0 ≤ t) (ht1 : t < 4294967296) (T : Tabs w) :
    Calls Tryd.prog 7 #[.int .u32 s, .int .u32 t, .int .i64 n0, .int .i64 m0] w fun e w' => e = .returned (.bool true) ∧ Below w.heap.size w w' := by
  obtain ⟨s, rfl⟩ := Int.eq_ofNat_of_zero_le hs0
  obtain ⟨t, rfl⟩ := Int.eq_ofNat_of_zero_le ht0
  have hs : s < 4294967296 := by omega
  have ht : t < 4294967296 := by omega
  have TT := Lib.hid T
  clear hs0 ht0 hs1 ht1 T
  go_enter Tryd.func7, Tryd.ntmps7
  go_wp2_with fail
  refine (within_any n0 0 1073741824 w (by omega)).mono ?_
  rintro e w1 ⟨⟨n, n1, n2, rfl⟩, rfl⟩
  go_wp2_with fail
  refine (within_any m0 0 1073741824 w (by omega)).mono ?_
  rintro e w1 ⟨⟨m, m1, m2, rfl⟩, rfl⟩
  have k1 := fun w => crcshift_any s n w hs (by omega)
  have hb := crcShift_lt s n.toNat hs
  have k2 := fun w => crcshift_any (crcShift s n.toNat) m w hb (by omega)
  have k3 := fun w => crcshift_any s (n + m) w hs (by omega)
  have k4 := fun w => crcshift_any t n w ht (by omega)
  have hb4 := crcShift_lt t n.toNat ht
  have hst : s ^^^ t < 4294967296 := Nat.xor_lt_two_pow (n := 32) hs ht
  have k5 := fun w => crcshift_any (s ^^^ t) n w hst (by omega)
  have k6 := fun w => crcshift_any 0 n w (by omega) (by omega)
  have e2 : crcShift (crcShift s n.toNat) m.toNat = crcShift s (n + m).toNat := by
    unfold crcShift
    rw [← nxs_add, show (n + m).toNat = n.toNat + m.toNat by omega, Nat.mul_add]
  have e5 : crcShift (s ^^^ t) n.toNat = crcShift s n.toNat ^^^ crcShift t n.toNat := nxs_xor _ _ _
  have e6 : crcShift 0 n.toNat = 0 := nxs_zero _
  have x1 := u32_xor_cast s t hs ht
  have x2 := u32_xor_cast _ _ hb hb4
  rw [e2] at k2
  rw [e5] at k5
  rw [e6] at k6
  generalize crcShift s (n + m).toNat = R1 at k2 k3
  generalize crcShift s n.toNat = R2 at *
  generalize crcShift t n.toNat = R3 at *
  generalize R2 ^^^ R3 = R4 at *
  generalize s ^^^ t = R5 at *
  have K1 := Lib.hid k1
  have K2 := Lib.hid k2
  have K3 := Lib.hid k3
  have K4 := Lib.hid k4
  have K5 := Lib.hid k5
  have K6 := Lib.hid k6
  clear k1 k2 k3 k4 k5 k6 e2 e5 e6
  go_wp2_with fail
  refine (K1.out _).mono ?_
  rintro e w1 ⟨rfl, s1⟩
  go_wp2_with fail
  refine (K2.out _).mono ?_
  rintro e w2 ⟨rfl, s2⟩
  go_wp2_with fail
  refine (K3.out _).mono ?_
  rintro e w3 ⟨rfl, s3⟩
  go_wp2_with fail
  refine (K1.out _).mono ?_
  rintro e w4 ⟨rfl, s4⟩
  go_wp2_with fail
  refine (K4.out _).mono ?_
  rintro e w5 ⟨rfl, s5⟩
  go_wp2_with fail
  refine (K5.out _).mono ?_
  rintro e w6 ⟨rfl, s6⟩
  go_wp2_with fail
  refine (K6.out _).mono ?_
  rintro e w7 ⟨rfl, s7⟩
  go_wp2_with fail
  refine (crclives _ (TT.out.still (s1.trans (s2.trans (s3.trans (s4.trans (s5.trans (s6.trans s7)))))))).mono ?_
  rintro e w8 ⟨rfl, s8⟩
  go_wp2_with fail
  go_ret
  exact ⟨rfl, s1.trans (s2.trans (s3.trans (s4.trans (s5.trans (s6.trans (s7.trans s8))))))⟩
end Go.Proofs.YtagolnmkcjbibaaDoor
