/- The walks of LzBack and LzCuts: each returns true, and nothing that was there turns. -/
import Derived.Test.YtlajdfjiehlboaaLzBoundWalk
import Derived.Test.YtlajdfjiehlboaaLzLoose
namespace Go.Proofs.Ytlajdfjiehlboaa
open Go.RowKit
set_option linter.unusedVariables false
set_option linter.unusedSimpArgs false

set_option maxRecDepth 100000 in
set_option maxHeartbeats 3200000 in
theorem lzBack_walk (A0 : Option Addr) (n0 c0 : Nat) (z0 : List Int) (x1 x2 : Int) (w : World) (h0 : RowIn .u8 w A0 n0 c0 z0) :
    Calls Try.prog 5 #[.slice A0 n0 c0, .int .i64 x1, .int .i64 x2] w fun e w' => e = .returned (.bool true) ∧ Below w.heap.size w w' := by
  obtain ⟨n, l, rs, hn, hcut⟩ := cut_row h0 4000 (by omega)
  have hl := rs.reads.1
  obtain ⟨e1, e2⟩ := sq_ok (b := l) (by omega)
  have SQ := Lib.hid (squeeze_any A0 n c0 l w _ rs.reads (Nat.le_refl _) (by omega) rs.fit rs.cap rs.nil)
  rw [e1, e2] at SQ
  obtain ⟨b1, b2⟩ := sqz_length l (by omega)
  have LS := Lib.hid (fun (m : Nat) (hm : m ≤ 65536) => loose_sqz l (by omega) m hm)
  obtain ⟨Z, hZ⟩ : ∃ Z, Z = sqz l := ⟨_, rfl⟩
  rw [← hZ] at SQ b1 b2 LS
  rw [hl] at b2 LS
  have RS := Lib.hid (fun W (s : Still w W) => rs.still (Nat.le_refl _) s)
  have HC := Lib.hid hcut
  have FC := Lib.hid (And.intro rs.fit rs.cap)
  clear hcut h0 rs e1 e2 hZ
  go_enter Try.func5, Try.ntmps5
  go_wp2_with fail
  refine HC.out.mono ?_
  rintro e w1 ⟨rfl, rfl⟩
  go_wp2_with fail
  refine SQ.out.mono ?_
  rintro e w2 ⟨⟨v, rfl, own⟩, s2⟩
  obtain ⟨A1, c1, rfl, f1, f2, f3⟩ := own_form own
  have S2 := Lib.hid s2
  have RZ := Lib.hid (fun W (s : Still w2 W) => (Reads.of_own own).still (Nat.le_refl _) s)
  obtain ⟨L, hL⟩ : ∃ L, L = Z.length := ⟨_, rfl⟩
  rw [← hL] at RZ b1 b2 ⊢
  have LO := Lib.hid (fun W (s : Still w2 W) (m : Int) => loosen_any A1 L c1 Z m W _ (RZ.out W s) s.size (by omega) (by rw [hL]; exact f3))
  clear own s2 SQ HC f1 f2 f3 hL
  go_wp2_with fail
  refine (within_any x1 n 65536 w2 (by omega)).mono ?_
  rintro e w3 ⟨⟨y, hy1, hy2, rfl⟩, rfl⟩
  obtain ⟨m, rfl⟩ := Int.eq_ofNat_of_zero_le (show 0 ≤ y by omega)
  have L1 := Lib.hid (LO.out w2 (Still.refl _) m)
  rw [LS.out m (by omega), if_neg (by omega)] at L1
  clear hy1 hy2
  go_wp2_with fail
  refine L1.out.mono ?_
  rintro e w3 ⟨⟨v, rfl, own⟩, s3⟩
  obtain ⟨A2, c2, rfl, f1, f2, f3⟩ := own_form own
  have S3 := Lib.hid s3
  have SM := Lib.hid (same_any A2 A0 l.length n c2 c0 l l w3 _ w.heap.size (Reads.of_own own) (RS.out w3 (Still.trans S2.out s3)).reads (by omega) (by omega))
  rw [show decide (l = l) = true by simp] at SM
  rw [hl] at SM ⊢
  clear own s3 L1 f1 f2 f3
  go_wp2_with fail
  refine SM.out.mono ?_
  rintro e w4 ⟨rfl, s4⟩
  have S4 := Lib.hid (Still.trans S3.out s4)
  clear s4 SM
  by_cases hz : n = 0
  · have b0 : ((n : Int) == 0) = true := by rw [hz]; rfl
    subst hz
    go_wp2_with fail
    refine (lives_any w4).mono ?_
    rintro e w5 ⟨rfl, s5⟩
    have S5 := Lib.hid s5
    clear s5
    go_wp2_with fail
    go_ret
    exact ⟨rfl, S2.out.trans (S4.out.trans S5.out)⟩
  · have b0 : ((n : Int) == 0) = false := by simp; omega
    have i1 : IntKind.i64.wrap ((n : Int) - 1) = ((n - 1 : Nat) : Int) := by rw [IntKind.wrap_i64]; omega
    obtain ⟨p, hp⟩ : ∃ p, p = n - 1 := ⟨_, rfl⟩
    have i2 : (n : Int) - 1 = (p : Int) := by omega
    have HP := Lib.hid hp
    rw [← hp] at i1
    clear hp
    go_wp2_with fail
    (try rw [i2])
    refine (within_any x2 0 p w4 (by omega)).mono ?_
    rintro e w5 ⟨⟨y, hy1, hy2, rfl⟩, rfl⟩
    obtain ⟨q, rfl⟩ := Int.eq_ofNat_of_zero_le hy1
    have L2 := Lib.hid (LO.out w4 S4.out q)
    rw [LS.out q (by have := HP.out; omega), if_pos (by have := HP.out; omega)] at L2
    clear hy1 hy2
    go_wp2_with fail
    refine L2.out.mono ?_
    rintro e w5 ⟨⟨v, rfl, own⟩, s5⟩
    obtain ⟨A3, c3, rfl, f1, f2, f3⟩ := own_form own
    have S5 := Lib.hid s5
    rw [show ([] : List UInt8).length = 0 from rfl]
    clear own s5 L2 f1 f2 f3
    go_wp2_with fail
    refine (lives_any w5).mono ?_
    rintro e w6 ⟨rfl, s6⟩
    have S6 := Lib.hid s6
    clear s6
    go_wp2_with fail
    go_ret
    exact ⟨rfl, S2.out.trans (S4.out.trans (S5.out.trans S6.out))⟩
end Go.Proofs.Ytlajdfjiehlboaa
