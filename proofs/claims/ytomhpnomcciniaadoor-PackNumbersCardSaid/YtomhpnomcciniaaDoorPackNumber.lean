/- Contracts: a tag and a number laid; a number encoded. It proves no statement. -/
import Derived.Test.YtomhpnomcciniaaDoorPackLay
import Derived.Test.YtomhpnomcciniaaDoorBig1
namespace Go.Proofs.YtomhpnomcciniaaDoor
open Go.RowKit
set_option linter.unusedVariables false
set_option linter.unusedSimpArgs false

/-- What stands behind a tag. -/
def numB (t x : Nat) : List UInt8 := (leBytes x (bh t)).reverse
theorem bh_le (t : Nat) : bh t ≤ 8 := by
  unfold bh; split <;> (try split) <;> (try split) <;> (try split) <;> omega
theorem numB_length (t x : Nat) : (numB t x).length = bh t := by simp [numB, leBytes_length]
/-- A tag, and the number behind it. -/
def layN (s : List UInt8 × Bool) (t x : Nat) : List UInt8 × Bool := lay1 (lay1 s [UInt8.ofNat t]) (numB t x)
theorem one_reads (w : World) (t : Nat) (ht : t < 256) : Reads (w.alloc (.cells #[.int .u8 (t : Int)] 5)) (w.heap.size + 1) (some ⟨w.heap.size, 0, none⟩) 1 [UInt8.ofNat t] := by
  have h := const_reads w [UInt8.ofNat t] (0, 0)
  have e : (bytesV [UInt8.ofNat t]).toArray = #[.int .u8 (t : Int)] := by
    simp only [bytesV, List.map_cons, List.map_nil, UInt8.toNat_ofNat']
    rw [show t % 2 ^ 8 = t by omega]
  rw [e] at h
  exact h

set_option maxRecDepth 100000 in
set_option maxHeartbeats 800000 in
theorem number_any {w : World} {lo g : Nat} {R : Option Nat} {s : List UInt8 × Bool} (h : Wr w lo g R s) (t x : Nat) (ht : t < 256) (hx : x < 18446744073709551616) :
    Calls Tryd.prog 41 #[.pointer (some ⟨g, 0, none⟩), .int .u8 (t : Int), .int .u64 (x : Int)] w fun e w' => e = .returned (.tuple #[]) ∧ Wrote w w' lo g R (layN s t x) := by
  obtain ⟨w1, hw1⟩ : ∃ w1, w1 = w.alloc (.cells #[.int .u8 (t : Int)] 5) := ⟨_, rfl⟩
  have r1 := one_reads w t ht
  have s1 : Still w w1 := by rw [hw1]; exact (Still.refl w).alloc (Nat.le_refl _) _
  rw [← hw1] at r1
  have L1 := Lib.hid (lay_any (h.below s1) _ 1 1 _ _ r1 (by omega) (fun e => by cases e))
  have V1 := Lib.hid (Via.of_still (g := g) (R := R) s1)
  have HB := Lib.hid (fun w => behind_any t w)
  have hb8 := bh_le t
  have hnl := numB_length t x
  have HS := Lib.hid (show layN s t x = lay1 (lay1 s [UInt8.ofNat t]) (numB t x) from rfl)
  obtain ⟨N, hN⟩ : ∃ N, N = numB t x := ⟨_, rfl⟩
  obtain ⟨b, hb⟩ : ∃ b, b = bh t := ⟨_, rfl⟩
  have hN2 : N = (leBytes x b).reverse := by rw [hN, hb]; rfl
  rw [← hb] at HB hb8 hnl
  rw [← hN] at hnl HS
  have HN := Lib.hid hN2
  have HNL := Lib.hid hnl
  have HW1 := Lib.hid hw1
  have HX := Lib.hid hx
  clear hN hb hN2 hnl hw1 r1 s1 h hx ht
  go_enter Tryd.func41, Tryd.ntmps41
  go_wp2_with fail
  rw [← HW1.out]
  refine L1.out.mono ?_
  rintro e w2 ⟨rfl, wt2⟩
  obtain ⟨R2, wr2, v2⟩ := wt2
  have WR2 := Lib.hid wr2
  have V2 := Lib.hid (V1.out.trans v2)
  clear wr2 v2 L1 V1
  go_wp2_with fail
  refine (HB.out _).mono ?_
  rintro e w3 ⟨rfl, rfl⟩
  by_cases hz : b = 0
  · have d : (b : Int) < 1 ∨ 8 < (b : Int) := by omega
    have BG := Lib.hid (big_no x b w2 d)
    have hN0 : N = [] := List.eq_nil_of_length_eq_zero (by rw [HNL.out]; exact hz)
    have L2 := Lib.hid (lay_any WR2.out none 0 0 N 0 (by rw [hN0]; exact Reads.nil0) (by omega) (fun _ => rfl))
    clear hN0 d hz
    go_wp2_with fail
    refine BG.out.mono ?_
    rintro e w3 ⟨rfl, rfl⟩
    go_wp2_with fail
    refine L2.out.mono ?_
    rintro e w4 ⟨rfl, wt4⟩
    obtain ⟨R4, wr4, v4⟩ := wt4
    have WR4 := Lib.hid wr4
    have V4 := Lib.hid v4
    clear wr4 v4
    go_wp2_with fail
    first | go_end0 | refine bodyPost_ret (results_none rfl _ _ _) rfl ?_
    exact ⟨rfl, R4, by rw [HS.out]; exact WR4.out, V2.out.trans V4.out⟩
  · have d1 : 1 ≤ b := by omega
    have BG := Lib.hid (big_yes x b w2 HX.out d1 hb8)
    clear hz
    go_wp2_with fail
    refine BG.out.mono ?_
    rintro e w3 ⟨rfl, own3, s3⟩
    have q3 := Reads.of_own own3
    rw [← HN.out] at q3
    have L2 := Lib.hid (lay_any (WR2.out.below s3) _ b b N _ q3 (by omega) (fun e => by cases e))
    have V3 := Lib.hid (V2.out.trans (Via.of_still s3))
    clear own3 q3 s3
    go_wp2_with fail
    refine L2.out.mono ?_
    rintro e w4 ⟨rfl, wt4⟩
    obtain ⟨R4, wr4, v4⟩ := wt4
    have WR4 := Lib.hid wr4
    have V4 := Lib.hid v4
    clear wr4 v4
    go_wp2_with fail
    first | go_end0 | refine bodyPost_ret (results_none rfl _ _ _) rfl ?_
    exact ⟨rfl, R4, by rw [HS.out]; exact WR4.out, V3.out.trans V4.out⟩
end Go.Proofs.YtomhpnomcciniaaDoor
