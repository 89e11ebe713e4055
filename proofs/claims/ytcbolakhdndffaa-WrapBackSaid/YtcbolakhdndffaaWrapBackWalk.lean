/- The walk of WrapBack: it returns true, and nothing that was there turns. -/
import Derived.Test.YtcbolakhdndffaaWrLives
namespace Go.Proofs.Ytcbolakhdndffaa
open Go.RowKit
set_option linter.unusedVariables false
set_option linter.unusedSimpArgs false

set_option maxRecDepth 100000 in
set_option maxHeartbeats 3200000 in
theorem wrapBack_walk (A0 : Option Addr) (n0 c0 : Nat) (z0 : List Int) (s : Bool) (w : World) (h0 : RowIn .u8 w A0 n0 c0 z0) :
    Calls Try.prog 5 #[.slice A0 n0 c0, .bool s] w fun e w' => e = .returned (.bool true) ∧ Below w.heap.size w w' := by
  obtain ⟨n, l, rs, hn, hcut⟩ := cut_row h0 3000 (by omega)
  have hl := rs.reads.1
  have RS := Lib.hid (fun W (st : Still w W) => rs.still (Nat.le_refl _) st)
  have SQ := Lib.hid (wwrap_any A0 n c0 l s w _ rs (Nat.le_refl _) (by omega))
  rw [wrapR_ok (by omega)] at SQ
  obtain ⟨u1, u2, u3⟩ := unwR_wrB l s (by omega)
  obtain ⟨b1, b2, b3⟩ := wrB_length l s
  rw [hl] at b1 b2
  have HC := Lib.hid hcut
  obtain ⟨X, hX⟩ : ∃ X, X = wrB l s := ⟨_, rfl⟩
  rw [← hX] at SQ u1 u2 u3 b1 b2 b3
  have UU := Lib.hid (fun A c (W : World) B (r : RowS W B A X.length c X) (hB : B ≤ W.heap.size) => unwrap_any A X.length c X W B r hB (by omega))
  have LK := Lib.hid (fun A c (W : World) B (r : RowS W B A X.length c X) (hB : B ≤ W.heap.size) => look_any A X.length c X W B r hB)
  rw [u1] at UU
  rw [u2, u3, hl] at LK
  obtain ⟨L, hL⟩ : ∃ L, L = X.length := ⟨_, rfl⟩
  rw [← hL] at SQ b1 b2 b3 UU LK
  clear hcut h0 rs hX u1 u2 u3 hL
  go_enter Try.func5, Try.ntmps5
  go_wp2_with fail
  refine HC.out.mono ?_
  rintro e w1 ⟨rfl, rfl⟩
  go_wp2_with fail
  refine SQ.out.mono ?_
  rintro e w2 ⟨⟨v2, rfl, own2⟩, s2⟩
  obtain ⟨A2, c2, rfl, f1, f2, f3⟩ := own_form own2
  have S2 := Lib.hid s2
  have R2 := Lib.hid (fun W (st : Still w2 W) => (⟨(Reads.of_own own2).still (Nat.le_refl _) st, f1, f2, f3⟩ : RowS W w2.heap.size A2 L c2 X))
  have U2 := Lib.hid (UU.out A2 c2 w2 _ (R2.out w2 (Still.refl _)) (Nat.le_refl _))
  clear own2 s2 SQ f1 f2 f3 UU
  go_wp2_with fail
  refine U2.out.mono ?_
  rintro e w3 ⟨⟨v, rfl, A3, n3, c3, rfl, rd3, _, g1, g2, g3⟩, s3⟩
  have S3 := Lib.hid (Still.trans S2.out s3)
  have hn3 : l.length = n3 := rd3.1
  obtain rfl : n3 = n := by omega
  have L3 := Lib.hid (LK.out A2 c2 w3 _ (R2.out w3 s3) s3.size)
  have R3 := Lib.hid (fun W (st : Still w3 W) => rd3.still (Nat.le_refl _) st)
  clear rd3 g1 g2 g3 s3 LK U2 R2 hn3
  go_wp2_with fail
  refine L3.out.mono ?_
  rintro e w4 ⟨rfl, s4⟩
  have S4 := Lib.hid (Still.trans S3.out s4)
  have SM := Lib.hid (same_any A0 A3 n3 n3 c0 c3 l l w4 _ _ (RS.out w4 (Still.trans S3.out s4)).reads (R3.out w4 s4) (by omega) (by omega))
  rw [show decide (l = l) = true by simp] at SM
  clear s4 L3 R3 RS
  go_wp2_with fail
  refine SM.out.mono ?_
  rintro e w5 ⟨rfl, s5⟩
  have S5 := Lib.hid (Still.trans S4.out s5)
  clear s5 SM
  have k1 : (L : Int) ≤ (n3 : Int) + 5 := by omega
  cases s
  · go_wp2_with fail
    refine (lives_any w5).mono ?_
    rintro e w6 ⟨rfl, s6⟩
    have S6 := Lib.hid s6
    clear s6
    go_wp2_with fail
    go_ret
    exact ⟨rfl, S5.out.trans S6.out⟩
  · have k2 : (L : Int) = (n3 : Int) + 5 := by have := b2 rfl; omega
    have k3 : ((L : Int) == (n3 : Int) + 5) = true := by rw [k2]; simp
    clear k2 b2
    go_wp2_with fail
    refine (lives_any w5).mono ?_
    rintro e w6 ⟨rfl, s6⟩
    have S6 := Lib.hid s6
    clear s6
    go_wp2_with fail
    go_ret
    exact ⟨rfl, S5.out.trans S6.out⟩
end Go.Proofs.Ytcbolakhdndffaa
