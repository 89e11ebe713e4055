/- The walk of LzBig: it returns true, and nothing that was there turns. -/
import Derived.Test.YtlajdfjiehlboaaLzBoundWalk
import Derived.Test.YtlajdfjiehlboaaLzLoose
namespace Go.Proofs.Ytlajdfjiehlboaa
open Go.RowKit
set_option linter.unusedVariables false
set_option linter.unusedSimpArgs false

set_option maxRecDepth 100000 in
set_option maxHeartbeats 3200000 in
theorem lzBig_walk (x : Int) (k : Int) (w : World) (hk : 0 ≤ k ∧ k ≤ 255) :
    Calls Try.prog 10 #[.int .i64 x, .int .u8 k] w fun e w' => e = .returned (.bool true) ∧ Below w.heap.size w w' := by
  obtain ⟨i0, hi, hz0, hz1, hz2⟩ := info_parts Try.infoByte
  have WI := Lib.hid (within_any x 65500 65600 w (by omega))
  go_enter Try.func10, Try.ntmps10
  go_wp2_with fail
  refine WI.out.mono ?_
  rintro e w1 ⟨⟨y, hy1, hy2, rfl⟩, rfl⟩
  obtain ⟨n, rfl⟩ := Int.eq_ofNat_of_zero_le (show 0 ≤ y by omega)
  have hn1 : 65500 ≤ n := by omega
  have hn2 : n ≤ 65600 := by omega
  clear WI hy1 hy2
  go_wp2_with (at_make; go_must (refine wpList_make_full _ rfl _ _ 22 rfl w.heap.size 5 i0 (.int .u8 0) 1 Try.underlying22 hi hz0 hz1 _ _ _ _ n rfl rfl rfl rfl ?c1 ?c2 ?c3 ?_))
  case c1 => rw [hz2]; omega
  case c2 => unfold maxLen; omega
  case c3 => exact Nat.le_refl _
  intro w1 hown hgrow
  have hst : Still w w1 := (Below.refl _ _).grown hgrow (Nat.le_refl _) (by intro k hk; cases hk)
  have own0 : w1.ownsRow w.heap.size 5 1 (.slice (some ⟨w.heap.size, 0, none⟩) n n) n (bytesV (List.replicate n 0)) := by
    rw [toList_madeCells_one, bytesV_rep] at hown
    exact hown
  have OWN0 := Lib.hid own0
  have ST0 := Lib.hid hst
  clear hgrow hown own0 hst hi hz0 hz1 hz2
  obtain ⟨g, hg⟩ : ∃ g, g = w.heap.size := ⟨_, rfl⟩
  rw [← hg] at OWN0 ⊢
  have HG := Lib.hid hg
  clear hg
  go_wp2_with fail
  go_loopw [6] (fun iv wr => ∃ (i : Nat) (b : List UInt8), iv = .int .i64 i ∧ i ≤ n ∧ Hid (b.length = n ∧ wr.ownsRow g 5 1 (.slice (some ⟨g, 0, none⟩) n n) n (bytesV b) ∧ Still w wr)) (fun iv _ => n - (intOf iv).toNat)
  case atStart => exact ⟨0, _, rfl, Nat.zero_le _, by simp, OWN0.out, ST0.out⟩
  case round =>
    obtain ⟨i, b, rfl, hin, hh⟩ := hrel
    by_cases hlt : i < n
    · obtain ⟨hb, ho, hs⟩ := hh.out
      have q1 : wr.cell? ⟨g, i, none⟩ = some (.int .u8 ((b.getD i 0).toNat : Int)) := by rw [ho.cellAt i (by omega), bytesV_get _ _ (by omega)]
      have q2 : wr.frozen? ⟨g, i, none⟩ = false := ho.frozenAt i
      have HB := Lib.hid hb
      have HO := Lib.hid ho
      have HS := Lib.hid hs
      generalize ((b.getD i 0).toNat : Int) = old at *
      clear hb ho hs hh
      go_wp2_with fail
      go_roundw
      case rel =>
        have e : (k + (i : Int) / 1000) % 256 = (((UInt8.ofNat ((k + (i : Int) / 1000) % 256).toNat).toNat : Nat) : Int) := by
          rw [UInt8.toNat_ofNat']
          omega
        refine ⟨i + 1, b.set i (UInt8.ofNat ((k + (i : Int) / 1000) % 256).toNat), by go_num, by omega, by rw [List.length_set]; exact HB.out, ?_, HS.out.setCell (by rw [HG.out]; exact Nat.le_refl _) _⟩
        have h := (HO.out.stored i (.int .u8 (((UInt8.ofNat ((k + (i : Int) / 1000) % 256).toNat).toNat : Nat) : Int))).1
        rw [bytesV_set, ← e] at h
        exact h
      case measure => simp [intOf]; omega
    · obtain rfl : i = n := by omega
      have HB := Lib.hid hh.out.1
      have RD := Lib.hid (fun W (s : Still wr W) => (Reads.of_own hh.out.2.1).still (Nat.le_refl _) s)
      have ST := Lib.hid hh.out.2.2
      have SQ := Lib.hid (squeeze_any (some ⟨g, 0, none⟩) i i b wr _ (RD.out wr (Still.refl _)) (Nat.le_refl _) (by omega) (Nat.le_refl _) (by omega) (fun e => by cases e))
      clear hh
      by_cases hbig : 65536 < i
      · have e1 : sqE b = 5 := by unfold sqE; rw [if_neg (by have := HB.out; omega)]
        have e2 : sqB b = [] := by unfold sqB; rw [if_neg (by have := HB.out; omega)]
        rw [e1, e2] at SQ
        clear e1 e2
        have d1 : 65536 < (i : Int) := by omega
        go_wp2_with fail
        refine SQ.out.mono ?_
        rintro e w2 ⟨⟨v, rfl, own⟩, s2⟩
        obtain ⟨A2, c2, rfl, g1, g2, g3⟩ := own_form own
        have S2 := Lib.hid s2
        rw [show ([] : List UInt8).length = 0 from rfl]
        clear own s2 SQ g1 g2 g3
        go_wp2_with fail
        refine (lives_any w2).mono ?_
        rintro e w3 ⟨rfl, s3⟩
        have S3 := Lib.hid s3
        clear s3
        go_wp2_with fail
        go_ret
        exact ⟨rfl, ST.out.trans (S2.out.trans S3.out)⟩
      · have h6 : b.length ≤ 65536 := by have := HB.out; omega
        obtain ⟨e1, e2⟩ := sq_ok h6
        obtain ⟨b1, b2⟩ := sqz_length b h6
        have LS := Lib.hid (loose_sqz b h6 i (by omega))
        rw [e1, e2] at SQ
        obtain ⟨Z, hZ⟩ : ∃ Z, Z = sqz b := ⟨_, rfl⟩
        rw [← hZ] at SQ b1 b2 LS
        have HZL := Lib.hid (show Z.length ≤ 70000 by have := HB.out; omega)
        clear e1 e2 hZ b1 b2 h6
        have d1 : ¬ (65536 < (i : Int)) := by omega
        go_wp2_with fail
        refine SQ.out.mono ?_
        rintro e w2 ⟨⟨v, rfl, own⟩, s2⟩
        obtain ⟨A2, c2, rfl, g1, g2, g3⟩ := own_form own
        have S2 := Lib.hid s2
        have LO := Lib.hid (loosen_any A2 Z.length c2 Z i w2 _ (Reads.of_own own) (Nat.le_refl _) (by have := HZL.out; omega) g3)
        rw [LS.out, if_neg (by have := HB.out; omega)] at LO
        generalize Z.length = LZ at *
        clear own s2 SQ g1 g2 g3
        go_wp2_with fail
        refine LO.out.mono ?_
        rintro e w3 ⟨⟨v, rfl, own⟩, s3⟩
        obtain ⟨A3, c3, rfl, g1, g2, g3⟩ := own_form own
        have S3 := Lib.hid s3
        have SM := Lib.hid (same_any A3 (some ⟨g, 0, none⟩) i i c3 i b b w3 _ _ (by have h := Reads.of_own own; rw [HB.out] at h; exact h) (RD.out w3 (Still.trans S2.out s3)) (by omega) (by omega))
        rw [show decide (b = b) = true by simp] at SM
        rw [HB.out]
        clear own s3 LO g1 g2 g3
        go_wp2_with fail
        refine SM.out.mono ?_
        rintro e w4 ⟨rfl, s4⟩
        have S4 := Lib.hid s4
        clear s4
        go_wp2_with fail
        refine (lives_any w4).mono ?_
        rintro e w5 ⟨rfl, s5⟩
        have S5 := Lib.hid s5
        clear s5
        go_wp2_with fail
        go_ret
        exact ⟨rfl, ST.out.trans (S2.out.trans (S3.out.trans (S4.out.trans S5.out)))⟩
end Go.Proofs.Ytlajdfjiehlboaa
