/- The walks of XxhSums, XxhApart, XxhKnown, XxhNobody: each returns true, and nothing that was there turns. -/
import Derived.Test.YtbnbpfbgoicogaaXxhLives
import Derived.Lib.SlBytesConst
namespace Go.Proofs.Ytbnbpfbgoicogaa
open Go.RowKit
set_option linter.unusedVariables false
set_option linter.unusedSimpArgs false

theorem xxhSums_walk (A0 : Option Addr) (n0 c0 : Nat) (z0 : List Int) (s : Int) (w : World) (h0 : RowIn .u8 w A0 n0 c0 z0) (hs0 : 0 ≤ s) (hs1 : s < 18446744073709551616) :
    Calls Try.prog 3 #[.slice A0 n0 c0, .int .u64 s] w fun e w' => e = .returned (.bool true) ∧ Below w.heap.size w w' := by
  obtain ⟨s, rfl⟩ := Int.eq_ofNat_of_zero_le hs0
  have hs : s < m64 := by unfold m64; omega
  obtain ⟨l0, r0, hc0, hm0, hA0⟩ := reads_of_row h0
  obtain ⟨n, l, rl, hn, hnc, hA, hcut⟩ : ∃ n l, Reads w w.heap.size A0 n l ∧ n ≤ 400 ∧ n ≤ c0 ∧ (A0 = none → n = 0 ∧ c0 = 0) ∧ Calls Try.prog 9 #[.slice A0 n0 c0, .int .i64 400] w fun e w' => e = .returned (.slice A0 n c0) ∧ w = w' :=
    ⟨_, _, r0.take 400, by omega, by omega, fun e => ⟨by have := (hA0 e).1; omega, (hA0 e).2⟩, cut_any A0 n0 c0 400 l0 w _ r0 hc0 hm0 (by omega)⟩
  have HC := Lib.hid hcut
  clear hcut h0 r0 hA0
  go_enter Try.func3, Try.ntmps3
  go_wp2_with fail
  refine HC.out.mono ?_
  rintro e w1 ⟨rfl, rfl⟩
  go_wp2_with fail
  refine (copy_any A0 n c0 l w _ rl (by omega) hA).mono ?_
  rintro e w1 ⟨⟨v, rfl, own1⟩, s1⟩
  obtain ⟨A1, c1, rfl, f1, f2, f3⟩ := own_form own1
  have q1 := Reads.of_own own1
  have r1 := rl.still (Nat.le_refl _) s1
  have z1 : w.heap.size ≤ w1.heap.size := s1.size
  clear own1
  go_wp2_with fail
  refine (sum_any A1 n c1 l s w1 _ q1 (Nat.le_refl _) (by omega) f1 f2 (fun e => (f3 e).2) hs).mono ?_
  rintro e w2 ⟨rfl, s2⟩
  have q2 := q1.still (Nat.le_refl _) s2
  have r2 := r1.still z1 s2
  have z2 : w1.heap.size ≤ w2.heap.size := s2.size
  go_wp2_with fail
  refine (rsum_any A0 n c0 l s w2 _ r2 (by omega) (by omega) hnc hs).mono ?_
  rintro e w3 ⟨rfl, s3⟩
  have q3 := q2.still z2 s3
  have r3 := r2.still (by omega) s3
  generalize xxSum l s = S1
  go_wp2_with fail
  refine (same_yes A1 A0 n c1 c0 l w3 _ _ q3 r3 (by omega)).mono ?_
  rintro e w4 ⟨rfl, s4⟩
  go_wp2_with fail
  refine (lives_any w4).mono ?_
  rintro e w5 ⟨rfl, s5⟩
  go_wp2_with fail
  go_ret
  exact ⟨rfl, (((s1.trans s2).trans s3).trans s4).trans s5⟩

theorem xxhNobody_walk (b : Value) (w : World) :
    Calls Try.prog 8 #[b] w fun e w' => e = .returned (.bool true) ∧ Below w.heap.size w w' := by
  go_enter Try.func8, Try.ntmps8
  go_wp2_with fail
  refine (write_dead _ _ _ (.inl rfl)).mono ?_
  rintro e w1 ⟨rfl, hw⟩
  have s1 : Still w w1 := by rw [← hw]; exact (Still.refl w).alloc (Nat.le_refl _) _
  have d1 : Dead w1 (.pointer (some ⟨w.heap.size, 0, none⟩)) := by rw [← hw]; exact .inr ⟨_, rfl, cell_of_row _ _ 39 _ _ _ (heap_alloc_new w _)⟩
  clear hw
  go_wp2_with fail
  refine (write_dead _ _ _ d1).mono ?_
  rintro e w2 ⟨rfl, rfl⟩
  go_wp2_with fail
  refine (sum_dead _ _ (.inl rfl)).mono ?_
  rintro e w2 ⟨rfl, rfl⟩
  go_wp2_with fail
  refine (sum_dead _ _ d1).mono ?_
  rintro e w2 ⟨rfl, rfl⟩
  go_wp2_with fail
  refine (lives_any _).mono ?_
  rintro e w5 ⟨rfl, s5⟩
  go_wp2_with fail
  go_ret
  exact ⟨rfl, s1.trans s5⟩

theorem xxhKnown_walk (w : World) :
    Calls Try.prog 7 #[] w fun e w' => e = .returned (.bool true) ∧ Below w.heap.size w w' := by
  have k1 : ∀ w : World, Calls Try.prog 11 #[.slice (some ⟨w.heap.size, 0, none⟩) 1 1, .int .u64 0] (w.alloc (.cells #[.int .u8 97] 5 (1, 2))) fun e w' => e = .returned (.int .u64 15154266338359012955) ∧ Still w w' := by
    intro w
    have r : Reads (w.alloc (.cells #[.int .u8 97] 5 (1, 2))) (w.heap.size + 1) (some ⟨w.heap.size, 0, none⟩) 1 [97] := const_reads w [97] (1, 2)
    have := sum_any _ 1 1 [97] 0 _ _ r (by simp) (by omega) (Nat.le_refl _) (by omega) (fun e => by cases e) (by decide)
    rw [xx_a] at this
    exact this.mono fun e w' h => ⟨h.1, ((Still.refl w).alloc (Nat.le_refl _) _).trans (h.2.mono (by simp))⟩
  have ck1 : ∀ w : World, (convert 22 22 (.slice (some ⟨w.heap.size, 0, none⟩) 1 1)).run Try.prog (w.alloc (.cells #[.int .u8 97] 5)) = .ok (.slice (some ⟨w.heap.size, 0, none⟩) 1 1) (w.alloc (.cells #[.int .u8 97] 5 (1, 2))) :=
    fun w => Lib.run_convert_bytes_const w _ _ #[.int .u8 97] 1 1 Try.underlying22 Try.underlying5
  have k3 : ∀ w : World, Calls Try.prog 11 #[.slice (some ⟨w.heap.size, 0, none⟩) 3 3, .int .u64 0] (w.alloc (.cells #[.int .u8 97, .int .u8 98, .int .u8 99] 5 (3, 4))) fun e w' => e = .returned (.int .u64 4952883123889572249) ∧ Still w w' := by
    intro w
    have r : Reads (w.alloc (.cells #[.int .u8 97, .int .u8 98, .int .u8 99] 5 (3, 4))) (w.heap.size + 1) (some ⟨w.heap.size, 0, none⟩) 3 [97, 98, 99] := const_reads w [97, 98, 99] (3, 4)
    have := sum_any _ 3 3 [97, 98, 99] 0 _ _ r (by simp) (by omega) (Nat.le_refl _) (by omega) (fun e => by cases e) (by decide)
    rw [xx_abc] at this
    exact this.mono fun e w' h => ⟨h.1, ((Still.refl w).alloc (Nat.le_refl _) _).trans (h.2.mono (by simp))⟩
  have ck3 : ∀ w : World, (convert 22 22 (.slice (some ⟨w.heap.size, 0, none⟩) 3 3)).run Try.prog (w.alloc (.cells #[.int .u8 97, .int .u8 98, .int .u8 99] 5)) = .ok (.slice (some ⟨w.heap.size, 0, none⟩) 3 3) (w.alloc (.cells #[.int .u8 97, .int .u8 98, .int .u8 99] 5 (3, 4))) :=
    fun w => Lib.run_convert_bytes_const w _ _ #[.int .u8 97, .int .u8 98, .int .u8 99] 3 3 Try.underlying22 Try.underlying5
  have K1 := Lib.hid k1
  have K3 := Lib.hid k3
  have CV1 := Lib.hid ck1
  have CV3 := Lib.hid ck3
  clear k1 k3 ck1 ck3
  have c1 := CV1.out w
  go_enter Try.func7, Try.ntmps7
  go_wp2_with fail
  refine (K1.out w).mono ?_
  rintro e w1 ⟨rfl, s1⟩
  clear c1
  have c3 := CV3.out w1
  go_wp2_with fail
  refine (K3.out w1).mono ?_
  rintro e w2 ⟨rfl, s2⟩
  clear c3
  go_wp2_with fail
  refine (lives_any w2).mono ?_
  rintro e w3 ⟨rfl, s3⟩
  go_wp2_with fail
  go_ret
  exact ⟨rfl, (s1.trans s2).trans s3⟩

theorem xxhApart_walk (s t : Int) (A0 : Option Addr) (n0 c0 : Nat) (z0 : List Int) (A1 : Option Addr) (n1 c1 : Nat) (z1 : List Int) (A2 : Option Addr) (n2 c2 : Nat) (z2 : List Int) (w : World) (hs0 : 0 ≤ s) (hs1 : s < 18446744073709551616) (ht0 : 0 ≤ t) (ht1 : t < 18446744073709551616) (h0 : RowIn .u8 w A0 n0 c0 z0) (h1 : RowIn .u8 w A1 n1 c1 z1) (h2 : RowIn .u8 w A2 n2 c2 z2) :
    Calls Try.prog 6 #[.int .u64 s, .int .u64 t, .slice A0 n0 c0, .slice A1 n1 c1, .slice A2 n2 c2] w fun e w' => e = .returned (.bool true) ∧ Below w.heap.size w w' := by
  obtain ⟨s, rfl⟩ := Int.eq_ofNat_of_zero_le hs0
  obtain ⟨t, rfl⟩ := Int.eq_ofNat_of_zero_le ht0
  have hs : s < m64 := by unfold m64; omega
  have ht : t < m64 := by unfold m64; omega
  have cut : ∀ (A : Option Addr) (n0 c0 : Nat) (z : List Int), RowIn .u8 w A n0 c0 z → ∃ n l, Reads w w.heap.size A n l ∧ n ≤ 200 ∧ n ≤ c0 ∧ c0 ≤ 9223372036854775807 ∧ (A = none → n = 0 ∧ c0 = 0) ∧ Calls Try.prog 9 #[.slice A n0 c0, .int .i64 200] w fun e w' => e = .returned (.slice A n c0) ∧ w = w' := by
    intro A n0 c0 z h
    obtain ⟨l0, r0, hc0, hm0, hA0⟩ := reads_of_row h
    exact ⟨_, _, r0.take 200, by omega, by omega, hm0, fun e => ⟨by have := (hA0 e).1; omega, (hA0 e).2⟩, cut_any A n0 c0 200 l0 w _ r0 hc0 hm0 (by omega)⟩
  obtain ⟨na, la, ra, ba, fa, ma, ga, ka⟩ := cut A0 n0 c0 z0 h0
  obtain ⟨nb, lb, rb, bb, fb, mb, gb, kb⟩ := cut A1 n1 c1 z1 h1
  obtain ⟨nc, lc, rc, bc, fc, mc, gc, kc⟩ := cut A2 n2 c2 z2 h2
  have KA := Lib.hid ka
  have KB := Lib.hid kb
  have KC := Lib.hid kc
  clear ka kb kc cut h0 h1 h2
  have la2 := ra.1
  have lb2 := rb.1
  have lc2 := rc.1
  go_enter Try.func6, Try.ntmps6
  go_wp2_with fail
  refine KA.out.mono ?_
  rintro e w1 ⟨rfl, rfl⟩
  go_wp2_with fail
  refine KB.out.mono ?_
  rintro e w1 ⟨rfl, rfl⟩
  go_wp2_with fail
  refine KC.out.mono ?_
  rintro e w1 ⟨rfl, rfl⟩
  go_wp2_with fail
  refine (new_any s w hs).mono ?_
  rintro e w1 ⟨rfl, hx, s1⟩
  go_wp2_with fail
  refine (new_any t w1 ht).mono ?_
  rintro e w2 ⟨rfl, hy, s2⟩
  have hxl := hx.lt
  have s02 := s1.trans s2
  have hx2 := hx.still s2
  have zx : w.heap.size ≤ w.heap.size := Nat.le_refl _
  have zy : w.heap.size ≤ w1.heap.size := s1.size
  have hne : w1.heap.size ≠ w.heap.size := by omega
  clear hx s1 s2 hxl
  have ra2 := ra.still zx s02
  have W := Lib.hid (write_any w.heap.size s [] la A0 na c0 w2 _ hx2 ra2 fa ma (far_low ra2 zx) (fun e => (ga e).2) (by simp; omega))
  have HY := Lib.hid hy
  have S2 := Lib.hid s02
  clear hx2 ra2 s02 hy
  go_wp2_with fail
  refine W.out.mono ?_
  rintro e w3 ⟨rfl, hx3, gr3⟩
  rw [List.nil_append] at hx3
  have hy3 := HY.out.grown gr3 hne
  have s03 := still_grown S2.out gr3 zx
  have rb3 := rb.still zx s03
  have W2 := Lib.hid (write_any w1.heap.size t [] lb A1 nb c1 w3 _ hy3 rb3 fb mb (far_low rb3 zy) (fun e => (gb e).2) (by simp; omega))
  have HX := Lib.hid hx3
  have S3 := Lib.hid s03
  clear W gr3 hy3 s03 rb3 hx3
  go_wp2_with fail
  refine W2.out.mono ?_
  rintro e w4 ⟨rfl, hy4, gr4⟩
  rw [List.nil_append] at hy4
  have hx4 := HX.out.grown gr4 (Ne.symm hne)
  have s04 := still_grown S3.out gr4 zy
  have rc4 := rc.still zx s04
  have W3 := Lib.hid (write_any w.heap.size s la lc A2 nc c2 w4 _ hx4 rc4 fc mc (far_low rc4 zx) (fun e => (gc e).2) (by omega))
  have HY4 := Lib.hid hy4
  have S4 := Lib.hid s04
  clear W2 gr4 hx4 s04 rc4 hy4
  go_wp2_with fail
  refine W3.out.mono ?_
  rintro e w5 ⟨rfl, hx5, gr5⟩
  have hy5 := HY4.out.grown gr5 hne
  have s05 := still_grown S4.out gr5 zx
  have M := Lib.hid (msum_any w.heap.size s (la ++ lc) w5 hx5 hs)
  have HY5 := Lib.hid hy5
  have S5 := Lib.hid s05
  clear W3 gr5 hx5 s05 hy5
  go_wp2_with fail
  refine M.out.mono ?_
  rintro e w6 ⟨rfl, s56⟩
  have hy6 := HY5.out.still s56
  have s06 := S5.out.trans s56
  have ra6 := ra.still zx s06
  have rc6 := rc.still zx s06
  clear s56 M
  go_wp2_with fail
  refine (copy_any A0 na c0 la w6 _ ra6 (by omega) ga).mono ?_
  rintro e w7 ⟨⟨v7, rfl, own7⟩, s67⟩
  have z06 : w.heap.size ≤ w6.heap.size := s06.size
  have rc7 := rc6.still z06 s67
  have z67 := s67.size
  have HY6 := Lib.hid hy6
  have S6 := Lib.hid s06
  have S67 := Lib.hid s67
  clear hy6 s06 s67 ra6 rc6
  go_wp2_with (at_builtin; go_must (refine wpList_adds _ rfl _ _ rfl w6.heap.size _ na la rfl own7 _ nc c2 _ lc rfl rc7 (fun e => (gc e).2) ?c1 ?c2 ?_))
  case c1 => omega
  case c2 => exact z67
  intro v8 w8 own8 hg8 _
  have s68 : Still w6 w8 := S67.out.grown hg8 z67 (fun k hk => (own7.lt k hk).1)
  obtain ⟨A8, c8, rfl, f8, m8, g8⟩ := own_form own8
  have q8 := Reads.of_own own8
  have hy8 := HY6.out.still s68
  have s08 := S6.out.trans s68
  have rb8 := rb.still zx s08
  clear own8 own7 rc7 hg8 z67 s68
  have Q := Lib.hid (sum_any A8 (na + nc) c8 (la ++ lc) s w8 _ q8 (Nat.le_refl _) (by omega) f8 m8 (fun e => (g8 e).2) hs)
  have HY8 := Lib.hid hy8
  have S8 := Lib.hid s08
  clear q8 hy8 s08 rb8
  generalize xxSum (la ++ lc) s = X1 at *
  go_wp2_with fail
  refine Q.out.mono ?_
  rintro e w9 ⟨rfl, s89⟩
  have hy9 := HY8.out.still s89
  have s09 := S8.out.trans s89
  have M2 := Lib.hid (msum_any w1.heap.size t lb w9 hy9 ht)
  have S9 := Lib.hid s09
  clear hy9 s09 s89 Q
  go_wp2_with fail
  refine M2.out.mono ?_
  rintro e w10 ⟨rfl, s910⟩
  have s010 := S9.out.trans s910
  have rb10 := rb.still zx s010
  have Q2 := Lib.hid (sum_any A1 nb c1 lb t w10 _ rb10 s010.size (by omega) fb mb (fun e => (gb e).2) ht)
  have S10 := Lib.hid s010
  clear s910 s010 rb10 M2
  generalize xxSum lb t = X2 at *
  go_wp2_with fail
  refine Q2.out.mono ?_
  rintro e w11 ⟨rfl, s1011⟩
  have s011 := S10.out.trans s1011
  clear Q2 s1011
  go_wp2_with fail
  refine (lives_any w11).mono ?_
  rintro e w12 ⟨rfl, s12⟩
  go_wp2_with fail
  go_ret
  exact ⟨rfl, s011.trans s12⟩
end Go.Proofs.Ytbnbpfbgoicogaa
