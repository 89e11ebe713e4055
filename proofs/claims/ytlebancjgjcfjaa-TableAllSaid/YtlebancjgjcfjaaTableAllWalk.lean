/- The walk of TableAll: it returns true, and nothing that was there turns. -/
import Derived.Test.YtlebancjgjcfjaaTbWlk
import Derived.Test.YtlebancjgjcfjaaTbPlayed
import Derived.Test.YtlebancjgjcfjaaTbLives
namespace Go.Proofs.Ytlebancjgjcfjaa
open Go.RowKit
set_option linter.unusedVariables false
set_option linter.unusedSimpArgs false

set_option maxRecDepth 100000 in
set_option maxHeartbeats 6400000 in
theorem tableAll_walk (a0 : Option Addr) (len0 cap0 : Nat) (L0 : List Dq) (a1 : Int) (w : World) (w0 : DqRow w a0 len0 cap0 L0) (w1 : (Lit.int .i64 a1).wf = true) :
    Calls Try.prog 3 #[.slice a0 len0 cap0, .int .i64 a1] w fun e w' => e = .returned (.bool true) ∧ Below w.heap.size w w' := by
  have hb := bounds_i64 w1
  have PL := Lib.hid (played_any a0 len0 cap0 100 L0 w w (by omega) w0 (Still.refl _))
  obtain ⟨nn, hnn⟩ : ∃ nn, nn = min len0 100 := ⟨_, rfl⟩
  rw [← hnn] at PL
  obtain ⟨l, hl⟩ : ∃ l, l = (L0.take 100).take nn := ⟨_, rfl⟩
  have hlen : (playL l).length ≤ 100 := by
    have := playL_len (L0.take 100) nn
    rw [hl]; omega
  have LI := Lib.hid (fun W => lives_any W)
  have WK := Lib.hid (fun W g b cp dd (t : Tb W g b (playL l) cp dd) => walk_any t (by omega) a1 hb)
  have WZ := Lib.hid (fun W g b cp dd (t : Tb W g b (playL l) cp dd) => walk_any t (by omega) 0 (by omega))
  have LN := Lib.hid (fun W g b cp dd (t : Tb W g b (playL l) cp dd) => len_any t)
  have HL := Lib.hid hl
  have d9 : ((playL l).length : Int) ≤ 100 := by omega
  obtain ⟨len, hlen2⟩ : ∃ n, n = (playL l).length := ⟨_, rfl⟩
  rw [← hlen2] at WK WZ LN d9
  clear hnn hl hlen hlen2 hb w0 w1
  go_enter Try.func3, Try.ntmps3
  go_upto_region 6 with (first
    | (go_at_call 5; refine PL.out.mono ?_; rintro e w2 ⟨g, rfl, p⟩; obtain ⟨⟨b, cp, dd, t, hbb⟩, s2, hg⟩ := p; rw [← HL.out] at t; have T2 := Lib.hid t; have S2 := Lib.hid s2; clear t s2 hg hbb)
    | (go_at_call 6; first
        | (refine (WZ.out _ _ _ _ _ (T2.out.still S3.out)).mono ?_; rintro e w4 ⟨m2, rfl, hm2, s4⟩; have M2 := Lib.hid (show m2 = len from by rcases hm2 with h | ⟨h1, h2⟩; exact h; omega); have S4 := Lib.hid (Still.trans S3.out s4); clear hm2 s4)
        | (refine (WK.out _ _ _ _ _ T2.out).mono ?_; rintro e w3 ⟨m1, rfl, hm1, s3⟩; have M1 := Lib.hid hm1; have S3 := Lib.hid s3; clear hm1 s3)))
  obtain rfl := M2.out
  have TW := Lib.hid (show Tb w4 g b (playL l) cp dd from T2.out.still S4.out)
  have N1 := Lib.hid (LN.out _ _ _ _ _ TW.out)
  have L1 := Lib.hid (LI.out w4)
  by_cases he : m1 = m2
  · subst he
    clear WK WZ M1 M2 d9
    go_wp2_with (first
      | (go_at_call 7; with_reducible refine N1.out.mono ?_; rintro e w5 ⟨rfl, rfl⟩)
      | (go_at_call 8; with_reducible refine L1.out.mono ?_; rintro e w6 ⟨rfl, s6⟩; have S6 := Lib.hid s6; clear s6))
    go_ret
    exact ⟨rfl, Still.trans S2.out (Still.trans S4.out S6.out)⟩
  · have hst : (m1 : Int) = a1 := by rcases M1.out with h | h; exact absurd h he; exact h.1
    subst hst
    have b1 : ((m1 : Int) == (m2 : Int)) = false := by simp only [beq_eq_false_iff_ne, ne_eq, decide_eq_false_iff_not]; omega
    have b2 : decide ((m1 : Int) = (m2 : Int)) = false := by simp only [beq_eq_false_iff_ne, ne_eq, decide_eq_false_iff_not]; omega
    clear WK WZ M1 M2 d9
    go_wp2_with (first
      | (go_at_call 7; with_reducible refine N1.out.mono ?_; rintro e w5 ⟨rfl, rfl⟩)
      | (go_at_call 8; with_reducible refine L1.out.mono ?_; rintro e w6 ⟨rfl, s6⟩; have S6 := Lib.hid s6; clear s6))
    go_ret
    exact ⟨rfl, Still.trans S2.out (Still.trans S4.out S6.out)⟩
end Go.Proofs.Ytlebancjgjcfjaa
