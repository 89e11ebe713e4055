/- The walk of LzCuts: it returns true, and nothing that was there turns. -/
import Derived.Test.YtlajdfjiehlboaaLzBoundWalk
import Derived.Test.YtlajdfjiehlboaaLzLoose
namespace Go.Proofs.Ytlajdfjiehlboaa
open Go.RowKit
set_option linter.unusedVariables false
set_option linter.unusedSimpArgs false

set_option maxRecDepth 100000 in
set_option maxHeartbeats 3200000 in
theorem lzCuts_walk (A0 : Option Addr) (n0 c0 : Nat) (z0 : List Int) (x1 : Int) (w : World) (h0 : RowIn .u8 w A0 n0 c0 z0) :
    Calls Try.prog 9 #[.slice A0 n0 c0, .int .i64 x1] w fun e w' => e = .returned (.bool true) ∧ Below w.heap.size w w' := by
  obtain ⟨n, l, rs, hn, hcut⟩ := cut_row h0 2000 (by omega)
  have hl := rs.reads.1
  obtain ⟨e1, e2⟩ := sq_ok (b := l) (by omega)
  have SQ := Lib.hid (squeeze_any A0 n c0 l w _ rs.reads (Nat.le_refl _) (by omega) rs.fit rs.cap rs.nil)
  rw [e1, e2] at SQ
  obtain ⟨b1, b2⟩ := sqz_length l (by omega)
  have LS := Lib.hid (fun (m : Nat) (hm : m < (sqz l).length) => loose_cut l (by omega) m hm)
  obtain ⟨Z, hZ⟩ : ∃ Z, Z = sqz l := ⟨_, rfl⟩
  rw [← hZ] at SQ b1 b2 LS
  rw [hl] at b2
  have RS := Lib.hid (fun W (s : Still w W) => rs.still (Nat.le_refl _) s)
  have HC := Lib.hid hcut
  have hfit := rs.fit
  have hcap := rs.cap
  clear hcut h0 rs e1 e2 hZ
  go_enter Try.func9, Try.ntmps9
  go_wp2_with fail
  refine HC.out.mono ?_
  rintro e w1 ⟨rfl, rfl⟩
  go_wp2_with fail
  refine SQ.out.mono ?_
  rintro e w2 ⟨⟨v, rfl, own⟩, s2⟩
  obtain ⟨A1, c1, rfl, f1, f2, f3⟩ := own_form own
  have S2 := Lib.hid s2
  have RZ := Lib.hid (Reads.of_own own)
  obtain ⟨L, hL⟩ : ∃ L, L = Z.length := ⟨_, rfl⟩
  rw [← hL] at RZ b1 b2 LS f1 f3 ⊢
  have LO := Lib.hid (fun (m : Nat) (hm : m ≤ L) => loosen_any A1 m c1 (Z.take m) 65536 w2 _ (RZ.out.takek hm) (Nat.le_refl _) (by omega) (fun e => ⟨by have := (f3 e).1; omega, (f3 e).2⟩))
  have HL := Lib.hid hL
  have i1 : IntKind.i64.wrap ((L : Int) - 1) = ((L - 1 : Nat) : Int) := by rw [IntKind.wrap_i64]; omega
  have bL : ((L : Int) == 0) = false := by simp; omega
  obtain ⟨p, hp⟩ : ∃ p, p = L - 1 := ⟨_, rfl⟩
  have i2 : (L : Int) - 1 = (p : Int) := by omega
  have HP := Lib.hid hp
  rw [← hp] at i1
  clear own s2 SQ HC f3 hL hp
  go_wp2_with fail
  (try rw [i2])
  refine (within_any x1 0 p w2 (by omega)).mono ?_
  rintro e w3 ⟨⟨y, hy1, hy2, rfl⟩, rfl⟩
  obtain ⟨m, rfl⟩ := Int.eq_ofNat_of_zero_le hy1
  have hm : m < L := by have := HP.out; omega
  have L1 := Lib.hid (LO.out m (by omega))
  have d1 : (m : Int) ≤ (c1 : Int) := by omega
  have key := LS.out m hm
  clear LO LS
  rcases key with hk | ⟨q, hk, hq⟩
  · rw [hk] at L1
    clear hk
    go_wp2_with fail
    refine L1.out.mono ?_
    rintro e w3 ⟨⟨v, rfl, own⟩, s3⟩
    obtain ⟨A2, c2, rfl, g1, g2, g3⟩ := own_form own
    have S3 := Lib.hid s3
    rw [show ([] : List UInt8).length = 0 from rfl]
    clear own s3 L1 g1 g2 g3
    go_wp2_with fail
    refine (lives_any w3).mono ?_
    rintro e w4 ⟨rfl, s4⟩
    have S4 := Lib.hid s4
    clear s4
    go_wp2_with fail
    go_ret
    exact ⟨rfl, S2.out.trans (S3.out.trans S4.out)⟩
  · rw [hk] at L1
    clear hk
    have hql := hq.length_le
    rw [hl] at hql
    have heq : l.take q.length = q := (List.prefix_iff_eq_take.1 hq).symm
    obtain ⟨k, hkk⟩ : ∃ k, k = q.length := ⟨_, rfl⟩
    have HQ := Lib.hid (And.intro heq hkk)
    rw [← hkk] at hql
    clear heq hq
    go_wp2_with fail
    refine L1.out.mono ?_
    rintro e w3 ⟨⟨v, rfl, own⟩, s3⟩
    obtain ⟨A2, c2, rfl, g1, g2, g3⟩ := own_form own
    have S3 := Lib.hid s3
    have SM := Lib.hid (fun c => same_any A2 A0 k k c2 c q q w3 _ w.heap.size (by rw [hkk]; exact Reads.of_own own) (by
      have h := (RS.out w3 (Still.trans S2.out s3)).reads.takek hql
      rw [hkk] at h ⊢
      rw [HQ.out.1] at h
      exact h) (by omega) (by omega))
    rw [show decide (q = q) = true by simp] at SM
    rw [← hkk]
    have d2 : (k : Int) ≤ (n : Int) := by omega
    have d3 : (k : Int) ≤ (c0 : Int) := by omega
    clear own s3 L1 g1 g2 g3 hkk
    go_wp2_with fail
    refine (SM.out _).mono ?_
    rintro e w4 ⟨rfl, s4⟩
    have S4 := Lib.hid s4
    clear s4
    go_wp2_with fail
    refine (lives_any w4).mono ?_
    rintro e w5 ⟨rfl, s5⟩
    have S5 := Lib.hid s5
    clear s5
    go_wp2_with fail
    go_ret
    exact ⟨rfl, S2.out.trans (S3.out.trans (S4.out.trans S5.out))⟩
end Go.Proofs.Ytlajdfjiehlboaa
