/- The walks of ShaSums, ShaNobody, ShaKnown: each returns true, and nothing that was there turns. -/
import Derived.Test.YtambpgfmnbkhdaaDoorShaLives
import Derived.Test.YtambpgfmnbkhdaaDoorShaRSum
import Derived.Lib.SlBytesConst
namespace Go.Proofs.YtambpgfmnbkhdaaDoor
open Go.RowKit
set_option linter.unusedVariables false
set_option linter.unusedSimpArgs false

theorem sizeByteRun (w : World) : (sizeOf 5).run Tryd.prog w = .ok 1 w := by
  obtain ⟨i0, hi, _, hz, _⟩ := info_parts Tryd.infoByte
  simp [sizeOf, typeInfo, hi, hz]
theorem eql_ids (w : World) (xs ys : List UInt8) (hx : xs.length = 32) (hy : ys.length = 32) :
    (binOp .eql 26 (.agg (bytesV xs).toArray) (.agg (bytesV ys).toArray)).run Tryd.prog w = .ok (.bool (xs == ys)) w :=
  run_eql_bytes w 26 5 32 under32 (by kernel_rfl) sizeByteRun xs ys hx hy

theorem shaSums_walk (A0 : Option Addr) (n0 c0 : Nat) (z0 : List Int) (w : World) (h0 : RowIn .u8 w A0 n0 c0 z0) (T : Tabs w) :
    Calls Tryd.prog 3 #[.slice A0 n0 c0] w fun e w' => e = .returned (.bool true) ∧ Below w.heap.size w w' := by
  obtain ⟨l0, r0, hc0, hm0, hA0⟩ := reads_of_row h0
  obtain ⟨n, l, rl, hn, hnc, hA, hcut⟩ : ∃ n l, Reads w w.heap.size A0 n l ∧ n ≤ 300 ∧ n ≤ c0 ∧ (A0 = none → n = 0 ∧ c0 = 0) ∧ Calls Tryd.prog 9 #[.slice A0 n0 c0, .int .i64 300] w fun e w' => e = .returned (.slice A0 n c0) ∧ w = w' :=
    ⟨_, _, r0.take 300, by omega, by omega, fun e => ⟨by have := (hA0 e).1; omega, (hA0 e).2⟩, cut_any A0 n0 c0 300 l0 w _ r0 hc0 hm0 (by omega)⟩
  have HC := Lib.hid hcut
  have TT := Lib.hid T
  clear hcut h0 r0 hA0 T
  have eqd : ∀ w : World, (binOp .eql 26 (.agg (bytesV (shSum l)).toArray) (.agg (bytesV (shSum l)).toArray)).run Tryd.prog w = .ok (.bool true) w := fun w => by
    rw [eql_ids w _ _ (shSum_length l) (shSum_length l)]; simp
  obtain ⟨darr, hd⟩ : ∃ d, d = (bytesV (shSum l)).toArray := ⟨_, rfl⟩
  rw [← hd] at eqd
  have HD := Lib.hid hd
  clear hd
  go_enter Tryd.func3, Tryd.ntmps3
  go_wp2_with fail
  refine HC.out.mono ?_
  rintro e w1 ⟨rfl, rfl⟩
  go_wp2_with fail
  refine (copy_any A0 n c0 l w _ rl (by omega) hA).mono ?_
  rintro e w1 ⟨⟨v, rfl, own1⟩, s1⟩
  obtain ⟨A1, c1, rfl, f1, f2, f3⟩ := own_form own1
  have q1 := Reads.of_own own1
  have r1 := rl.still (Nat.le_refl _) s1
  have z1 : w.heap.size ≤ w1.heap.size := s1.size
  have S := Lib.hid (sum_any A1 n c1 l w1 _ (TT.out.still s1) q1 (Nat.le_refl _) (by omega) f1 f2)
  rw [← HD.out] at S
  clear own1
  go_wp2_with fail
  refine S.out.mono ?_
  rintro e w2 ⟨rfl, s2⟩
  have q2 := q1.still (Nat.le_refl _) s2
  have r2 := r1.still z1 s2
  have z2 : w1.heap.size ≤ w2.heap.size := s2.size
  have R := Lib.hid (rsum_any A0 n c0 l w2 _ r2 (by omega) (by omega) hA)
  rw [← HD.out] at R
  go_wp2_with fail
  refine R.out.mono ?_
  rintro e w3 ⟨rfl, s3⟩
  have q3 := q2.still z2 s3
  have r3 := r2.still (by omega) s3
  go_wp2_with fail
  refine (same_yes A1 A0 n c1 c0 l w3 _ _ q3 r3 (by omega)).mono ?_
  rintro e w4 ⟨rfl, s4⟩
  go_wp2_with fail
  refine (lives_any w4 (TT.out.still (((s1.trans s2).trans s3).trans s4))).mono ?_
  rintro e w5 ⟨rfl, s5⟩
  go_wp2_with fail
  go_ret
  exact ⟨rfl, (((s1.trans s2).trans s3).trans s4).trans s5⟩

theorem shaNobody_walk (b : Value) (w : World) (T : Tabs w) :
    Calls Tryd.prog 8 #[b] w fun e w' => e = .returned (.bool true) ∧ Below w.heap.size w w' := by
  have hbt : Tryd.prog.built 51 [] = some hzero.toArray := by kernel_rfl
  have hbz : Tryd.prog.built 26 [] = some (bytesV (List.replicate 32 0)).toArray := by kernel_rfl
  have eqd : ∀ w : World, (binOp .eql 26 (.agg (bytesV (List.replicate 32 0)).toArray) (.agg (bytesV (List.replicate 32 0)).toArray)).run Tryd.prog w = .ok (.bool true) w := fun w => by
    rw [eql_ids w _ _ rfl rfl]; simp
  have eqx : ∀ w : World, (Op.equalIn 10000 26 (.agg (bytesV (List.replicate 32 0)).toArray) (.agg #[.int .u8 0, .int .u8 0, .int .u8 0, .int .u8 0, .int .u8 0, .int .u8 0, .int .u8 0, .int .u8 0, .int .u8 0, .int .u8 0, .int .u8 0, .int .u8 0, .int .u8 0, .int .u8 0, .int .u8 0, .int .u8 0, .int .u8 0, .int .u8 0, .int .u8 0, .int .u8 0, .int .u8 0, .int .u8 0, .int .u8 0, .int .u8 0, .int .u8 0, .int .u8 0, .int .u8 0, .int .u8 0, .int .u8 0, .int .u8 0, .int .u8 0, .int .u8 0])).run Tryd.prog w = .ok true w := fun w =>
    (run_equalIn_bytes w 9998 26 5 32 under32 (by kernel_rfl) sizeByteRun (List.replicate 32 0) (List.replicate 32 0) rfl rfl).trans (by simp)
  obtain ⟨hz, hhz⟩ : ∃ a, a = hzero.toArray := ⟨_, rfl⟩
  obtain ⟨wz, hwz⟩ : ∃ x, x = w.alloc (.cells hz 51) := ⟨_, rfl⟩
  have sz : Still w wz := by rw [hwz]; exact (Still.refl w).alloc (Nat.le_refl _) _
  have d1 : Dead wz (.pointer (some ⟨w.heap.size, 0, none⟩)) := .inr ⟨_, rfl, by rw [hwz, hhz]; exact cell_of_row _ _ 73 _ _ _ (heap_alloc_last w _)⟩
  obtain ⟨darr, hd⟩ : ∃ d, d = (bytesV (List.replicate 32 0)).toArray := ⟨_, rfl⟩
  rw [← hhz] at hbt
  rw [← hd] at hbz eqd eqx
  have HD := Lib.hid hd
  have HBT := Lib.hid hbt
  have HBZ := Lib.hid hbz
  have TT := Lib.hid T
  have SZ := Lib.hid sz
  have D1 := Lib.hid d1
  clear hd hbt hbz T sz d1 hhz
  go_enter Tryd.func8, Tryd.ntmps8
  go_upto_region 2 with fail
  refine wp_region_lit ?_
  refine wpList_buildTo rfl 51 _ rfl (some 5) rfl hz (by simp only [List.map_toArray, List.map_cons, List.map_nil]; exact HBT.out) ?_
  refine wpList_box_arr rfl 51 (.tmp 5) rfl (some 6) rfl hz rfl ?_
  rw [← hwz]
  clear hwz
  go_wp2_with fail
  refine (write_dead _ _ _ (.inl rfl)).mono ?_
  rintro e w1 ⟨rfl, rfl⟩
  go_wp2_with fail
  refine (write_dead _ _ _ D1.out).mono ?_
  rintro e w1 ⟨rfl, rfl⟩
  have S0 := Lib.hid (sum_dead _ wz (.inl rfl))
  rw [← HD.out] at S0
  go_wp2_with fail
  refine S0.out.mono ?_
  rintro e w1 ⟨rfl, s1⟩
  have D2 := Lib.hid (D1.out.still s1)
  have S2 := Lib.hid (sum_dead _ w1 D2.out)
  rw [← HD.out] at S2
  go_wp2_with (refine wpList_buildTo rfl 26 #[] rfl (some 15) rfl darr (by simp only [List.map_toArray, List.map_cons, List.map_nil]; exact HBZ.out) ?_)
  refine S2.out.mono ?_
  rintro e w2 ⟨rfl, s2⟩
  have D3 := Lib.hid (D2.out.still s2)
  go_wp2_with fail
  refine (len_dead _ _ (.inl rfl)).mono ?_
  rintro e w3 ⟨rfl, rfl⟩
  go_wp2_with fail
  refine (len_dead _ _ D3.out).mono ?_
  rintro e w3 ⟨rfl, rfl⟩
  go_wp2_with fail
  refine (copy_dead _ _ (.inl rfl)).mono ?_
  rintro e w3 ⟨rfl, rfl⟩
  go_wp2_with fail
  refine (copy_dead _ _ D3.out).mono ?_
  rintro e w3 ⟨rfl, rfl⟩
  go_wp2_with fail
  refine (lives_any w2 (TT.out.still ((SZ.out.trans s1).trans s2))).mono ?_
  rintro e w5 ⟨rfl, s5⟩
  go_wp2_with fail
  go_ret
  exact ⟨rfl, ((SZ.out.trans s1).trans s2).trans s5⟩
end Go.Proofs.YtambpgfmnbkhdaaDoor
