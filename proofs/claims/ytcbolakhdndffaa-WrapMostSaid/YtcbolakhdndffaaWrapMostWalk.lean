/- The walk of WrapMost: it returns true, and nothing that was there turns. -/
import Derived.Test.YtcbolakhdndffaaWrLives
import Derived.Test.YtcbolakhdndffaaWithin
namespace Go.Proofs.Ytcbolakhdndffaa
open Go.RowKit
set_option linter.unusedVariables false
set_option linter.unusedSimpArgs false

set_option maxRecDepth 100000 in
set_option maxHeartbeats 1600000 in
theorem wrapMost_walk (x : Int) (k : Int) (s : Bool) (w : World) (hk : 0 ≤ k ∧ k ≤ 255) :
    Calls Try.prog 7 #[.int .i64 x, .int .u8 k, .bool s] w fun e w' => e = .returned (.bool true) ∧ Below w.heap.size w w' := by
  obtain ⟨i0, hi, hz0, hz1, hz2⟩ := info_parts Try.infoByte
  have WI := Lib.hid (within_any x 16359 16399 w (by omega))
  go_enter Try.func7, Try.ntmps7
  go_wp2_with fail
  refine WI.out.mono ?_
  rintro e w1 ⟨⟨y, hy1, hy2, rfl⟩, rfl⟩
  obtain ⟨n, rfl⟩ := Int.eq_ofNat_of_zero_le (show 0 ≤ y by omega)
  have hn1 : 16359 ≤ n := by omega
  have hn2 : n ≤ 16399 := by omega
  clear WI hy1 hy2
  go_wp2_with (at_make; go_must (refine wpList_make_full _ rfl _ _ 22 rfl w.heap.size 5 i0 (.int .u8 0) 1 Try.underlying22 hi hz0 hz1 _ _ _ _ n rfl rfl rfl rfl ?c1 ?c2 ?c3 ?_))
  case c1 => rw [hz2]; omega
  case c2 => unfold maxLen; omega
  case c3 => exact Nat.le_refl _
  intro w1 hown hgrow
  have hst : Still w w1 := (Below.refl _ _).grown hgrow (Nat.le_refl _) (by intro k hk; cases hk)
  have own0 : w1.ownsRow w.heap.size 5 1 (.slice (some ⟨w.heap.size, 0, none⟩) n n) n (bytesV (List.replicate n 0)) := by
    rw [toList_madeCells_one, bytesV_rep] at hown
    exact hown
  have OWN0 := Lib.hid own0
  have ST0 := Lib.hid hst
  clear hgrow hown own0 hst hi hz0 hz1 hz2
  obtain ⟨g, hg⟩ : ∃ g, g = w.heap.size := ⟨_, rfl⟩
  rw [← hg] at OWN0 ⊢
  have HG := Lib.hid hg
  clear hg
  go_wp2_with fail
  go_loopw [8] (fun iv wr => ∃ (i : Nat) (b : List UInt8), iv = .int .i64 i ∧ i ≤ n ∧ Hid (b.length = n ∧ wr.ownsRow g 5 1 (.slice (some ⟨g, 0, none⟩) n n) n (bytesV b) ∧ Still w wr)) (fun iv _ => n - (intOf iv).toNat)
  case atStart => exact ⟨0, _, rfl, Nat.zero_le _, by simp, OWN0.out, ST0.out⟩
  case round =>
    obtain ⟨i, b, rfl, hin, hh⟩ := hrel
    by_cases hlt : i < n
    · obtain ⟨hb, ho, hs⟩ := hh.out
      have q1 : wr.cell? ⟨g, i, none⟩ = some (.int .u8 ((b.getD i 0).toNat : Int)) := by rw [ho.cellAt i (by omega), bytesV_get _ _ (by omega)]
      have q2 : wr.frozen? ⟨g, i, none⟩ = false := ho.frozenAt i
      obtain ⟨q, hq, hqb⟩ : ∃ q : Nat, (i : Int) * (i : Int) = (q : Int) ∧ q ≤ 268927201 := by
        refine ⟨i * i, by simp, ?_⟩
        have := Nat.mul_le_mul (show i ≤ 16399 by omega) (show i ≤ 16399 by omega)
        omega
      have HB := Lib.hid hb
      have HO := Lib.hid ho
      have HS := Lib.hid hs
      generalize ((b.getD i 0).toNat : Int) = old at *
      clear hb ho hs hh
      go_wp2_with fail
      go_roundw
      case rel =>
        have e : (k + (q : Int) / 7) % 256 = (((UInt8.ofNat ((k + (q : Int) / 7) % 256).toNat).toNat : Nat) : Int) := by
          rw [UInt8.toNat_ofNat']
          omega
        refine ⟨i + 1, b.set i (UInt8.ofNat ((k + (q : Int) / 7) % 256).toNat), by go_num, by omega, by rw [List.length_set]; exact HB.out, ?_, HS.out.setCell (by rw [HG.out]; exact Nat.le_refl _) _⟩
        have h := (HO.out.stored i (.int .u8 (((UInt8.ofNat ((k + (q : Int) / 7) % 256).toNat).toNat : Nat) : Int))).1
        rw [bytesV_set, ← e] at h
        exact h
      case measure => simp [intOf]; omega
    · obtain rfl : i = n := by omega
      have HB := Lib.hid hh.out.1
      have RD := Lib.hid (fun W (st : Still wr W) => (Reads.of_own hh.out.2.1).still (Nat.le_refl _) st)
      have ST := Lib.hid hh.out.2.2
      have SQ := Lib.hid (wwrap_any (some ⟨g, 0, none⟩) i i b s wr _ ⟨RD.out wr (Still.refl _), Nat.le_refl _, by omega, fun e => by cases e⟩ (Nat.le_refl _) (by omega))
      clear hh
      by_cases hbig : 16379 < i
      · rw [wrapR_big (by have := HB.out; omega)] at SQ
        have d1 : 16379 < (i : Int) := by omega
        go_wp2_with fail
        refine SQ.out.mono ?_
        rintro e w2 ⟨⟨v, rfl, own⟩, s2⟩
        obtain ⟨A2, c2, rfl, g1, g2, g3⟩ := own_form own
        have S2 := Lib.hid s2
        rw [show ([] : List UInt8).length = 0 from rfl]
        clear own s2 SQ g1 g2 g3
        go_wp2_with fail
        refine (lives_any w2).mono ?_
        rintro e w3 ⟨rfl, s3⟩
        have S3 := Lib.hid s3
        clear s3
        go_wp2_with fail
        go_ret
        exact ⟨rfl, ST.out.trans (S2.out.trans S3.out)⟩
      · rw [wrapR_ok (by have := HB.out; omega)] at SQ
        obtain ⟨u1, _, _⟩ := unwR_wrB b s (by have := HB.out; omega)
        obtain ⟨b1, _, _⟩ := wrB_length b s
        obtain ⟨Z, hZ⟩ : ∃ Z, Z = wrB b s := ⟨_, rfl⟩
        rw [← hZ] at SQ u1 b1
        have UU := Lib.hid (fun A c (W : World) B (r : RowS W B A Z.length c Z) (hB : B ≤ W.heap.size) => unwrap_any A Z.length c Z W B r hB (by have := HB.out; omega))
        rw [u1] at UU
        obtain ⟨LZ, hLZ⟩ : ∃ LZ, LZ = Z.length := ⟨_, rfl⟩
        rw [← hLZ] at SQ UU b1
        have d2 : (LZ : Int) ≤ 16384 := by have := HB.out; omega
        have d1 : ¬ (16379 < (i : Int)) := by omega
        clear u1 hZ hLZ b1
        go_wp2_with fail
        refine SQ.out.mono ?_
        rintro e w2 ⟨⟨v, rfl, own⟩, s2⟩
        obtain ⟨A2, c2, rfl, g1, g2, g3⟩ := own_form own
        have S2 := Lib.hid s2
        have U2 := Lib.hid (UU.out A2 c2 w2 _ ⟨Reads.of_own own, g1, g2, g3⟩ (Nat.le_refl _))
        clear own s2 SQ g1 g2 g3 UU
        go_wp2_with fail
        refine U2.out.mono ?_
        rintro e w3 ⟨⟨v, rfl, A3, n3, c3, rfl, rd3, _, g1, g2, g3⟩, s3⟩
        have S3 := Lib.hid s3
        have hn3 : b.length = n3 := rd3.1
        have SM := Lib.hid (same_any (some ⟨g, 0, none⟩) A3 i n3 i c3 b b w3 _ _ (RD.out w3 (Still.trans S2.out s3)) rd3 (by omega) (by have := HB.out; omega))
        rw [show decide (b = b) = true by simp] at SM
        clear rd3 s3 U2 g1 g2 g3 hn3
        go_wp2_with fail
        refine SM.out.mono ?_
        rintro e w4 ⟨rfl, s4⟩
        have S4 := Lib.hid s4
        clear s4
        go_wp2_with fail
        refine (lives_any w4).mono ?_
        rintro e w5 ⟨rfl, s5⟩
        have S5 := Lib.hid s5
        clear s5
        go_wp2_with fail
        go_ret
        exact ⟨rfl, ST.out.trans (S2.out.trans (S3.out.trans (S4.out.trans S5.out)))⟩
end Go.Proofs.Ytcbolakhdndffaa
