/- The walks of LzBound and LzRuns: each returns true, and nothing that was there turns. -/
import Derived.Test.YtlajdfjiehlboaaLzSqN
import Derived.Test.YtlajdfjiehlboaaLzLives
namespace Go.Proofs.Ytlajdfjiehlboaa
open Go.RowKit
set_option linter.unusedVariables false
set_option linter.unusedSimpArgs false

/-- A text that is not too big has a block. -/
theorem sq_ok {b : List UInt8} (h : b.length ≤ 65536) : sqE b = 0 ∧ sqB b = sqz b := ⟨if_pos h, if_pos h⟩
set_option maxRecDepth 100000 in
set_option maxHeartbeats 1600000 in
theorem lzBound_walk (A0 : Option Addr) (n0 c0 : Nat) (z0 : List Int) (w : World) (h0 : RowIn .u8 w A0 n0 c0 z0) :
    Calls Try.prog 6 #[.slice A0 n0 c0] w fun e w' => e = .returned (.bool true) ∧ Below w.heap.size w w' := by
  obtain ⟨n, l, rs, hn, hcut⟩ := cut_row h0 4000 (by omega)
  have hl := rs.reads.1
  obtain ⟨e1, e2⟩ := sq_ok (b := l) (by omega)
  have SQ := Lib.hid (squeeze_any A0 n c0 l w _ rs.reads (Nat.le_refl _) (by omega) rs.fit rs.cap rs.nil)
  rw [e1, e2] at SQ
  obtain ⟨b1, b2⟩ := sqz_length l (by omega)
  obtain ⟨L, hL⟩ : ∃ L, L = (sqz l).length := ⟨_, rfl⟩
  rw [← hL] at SQ b1 b2
  rw [hl] at b2
  have HC := Lib.hid hcut
  clear hcut h0 rs e1 e2 hL hl
  have d1 : (1 : Int) ≤ (L : Int) := by omega
  have d2 : (L : Int) ≤ (n : Int) + (n : Int) / 255 + 2 := by omega
  go_enter Try.func6, Try.ntmps6
  go_wp2_with fail
  refine HC.out.mono ?_
  rintro e w1 ⟨rfl, rfl⟩
  go_wp2_with fail
  refine SQ.out.mono ?_
  rintro e w2 ⟨⟨v, rfl, own⟩, s2⟩
  obtain ⟨A1, c1, rfl, f1, f2, f3⟩ := own_form own
  have S2 := Lib.hid s2
  clear own s2 SQ HC f1 f2 f3
  go_wp2_with fail
  refine (lives_any w2).mono ?_
  rintro e w3 ⟨rfl, s3⟩
  have S3 := Lib.hid s3
  clear s3
  go_wp2_with fail
  go_ret
  exact ⟨rfl, S2.out.trans S3.out⟩

set_option maxRecDepth 100000 in
set_option maxHeartbeats 1600000 in
theorem lzRuns_walk (k x : Int) (w : World) (hk : 0 ≤ k ∧ k ≤ 255) :
    Calls Try.prog 7 #[.int .u8 k, .int .i64 x] w fun e w' => e = .returned (.bool true) ∧ Below w.heap.size w w' := by
  obtain ⟨k8, rfl⟩ : ∃ k8 : UInt8, k = (k8.toNat : Int) := ⟨UInt8.ofNat k.toNat, by rw [UInt8.toNat_ofNat']; omega⟩
  have WI := Lib.hid (within_any x 0 5000 w (by omega))
  have RN := Lib.hid (fun n (hn : n ≤ 5000) => run_any k8 n w (by omega))
  have SQ := Lib.hid (fun (n : Nat) (hn : n ≤ 5000) (A : Option Addr) c W (hr : Reads W W.heap.size A n (List.replicate n k8)) (hc : n ≤ c) (hm : c ≤ 9223372036854775807) (hA : A = none → n = 0 ∧ c = 0) =>
    (show Calls Try.prog 13 #[.slice A n c] W fun e w' => (∃ v, e = .returned (.tuple #[v, .int .i64 0]) ∧ w'.ownsRow W.heap.size 5 1 v (sqz (List.replicate n k8)).length (bytesV (sqz (List.replicate n k8)))) ∧ Still W w' by
      have h := squeeze_any A n c _ W _ hr (Nat.le_refl _) (by omega) hc hm hA
      obtain ⟨e1, e2⟩ := sq_ok (b := List.replicate n k8) (by simp; omega)
      rw [e1, e2] at h
      exact h))
  have BD := Lib.hid (fun n (hn : n ≤ 5000) => sqz_runs n k8 (by omega))
  generalize (k8.toNat : Int) = kk at *
  clear hk
  go_enter Try.func7, Try.ntmps7
  go_wp2_with fail
  refine WI.out.mono ?_
  rintro e w1 ⟨⟨y, hy1, hy2, rfl⟩, rfl⟩
  obtain ⟨n, rfl⟩ := Int.eq_ofNat_of_zero_le hy1
  have hn : n ≤ 5000 := by omega
  clear WI hy1 hy2
  go_wp2_with fail
  refine (RN.out n hn).mono ?_
  rintro e w1 ⟨⟨v, rfl, own⟩, s1⟩
  obtain ⟨A1, c1, rfl, f1, f2, f3⟩ := own_form own
  have SQ2 := Lib.hid (SQ.out n hn A1 c1 w1 (Reads.of_own own) f1 f2 f3)
  have S1 := Lib.hid s1
  have hb := BD.out n hn
  obtain ⟨L, hL⟩ : ∃ L, L = (sqz (List.replicate n k8)).length := ⟨_, rfl⟩
  rw [← hL] at SQ2 hb
  have d2 : (L : Int) ≤ (n : Int) / 255 + 13 := by omega
  clear own s1 RN SQ BD hL f1 f2 f3
  go_wp2_with fail
  refine SQ2.out.mono ?_
  rintro e w2 ⟨⟨v, rfl, own⟩, s2⟩
  obtain ⟨A2, c2, rfl, f1, f2, f3⟩ := own_form own
  have S2 := Lib.hid s2
  clear own s2 SQ2 f1 f2 f3
  go_wp2_with fail
  refine (lives_any w2).mono ?_
  rintro e w3 ⟨rfl, s3⟩
  have S3 := Lib.hid s3
  clear s3
  go_wp2_with fail
  go_ret
  exact ⟨rfl, S1.out.trans (S2.out.trans S3.out)⟩
end Go.Proofs.Ytlajdfjiehlboaa
