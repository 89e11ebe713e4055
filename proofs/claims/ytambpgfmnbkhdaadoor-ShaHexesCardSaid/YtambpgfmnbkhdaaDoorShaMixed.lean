/- Contract: 64 rounds, by the program, over a world in which its table holds what the program's text lays. It proves no statement. -/
import Derived.Test.YtambpgfmnbkhdaaDoorShaRRounds
import Derived.Test.YtambpgfmnbkhdaaDoorShaIdImp
namespace Go.Proofs.YtambpgfmnbkhdaaDoor
open Go.RowKit
set_option linter.unusedVariables false
set_option linter.unusedSimpArgs false

/-- The rounds' words in memory. -/
def Tabs (w : World) : Prop := ∀ i, i < 64 → w.cell? ⟨0, i, none⟩ = some (.int .u32 (kT.getD i 0 : Nat))
theorem Tabs.still {w w' : World} (h : Tabs w) (s : Still w w') : Tabs w' := fun i hi => (s.cell (p := ⟨_, i, none⟩) (block_lt_of_cell (h i hi))).trans (h i hi)

set_option maxRecDepth 100000 in
set_option maxHeartbeats 800000 in
theorem mixed_any (s : S8) (l : List Nat) (w : World) (T : Tabs w) (hs : s.Fit) (hl : ∀ x ∈ l, x < m32) (hll : l.length = 64) :
    Calls Tryd.prog 40 #[.agg (w32 s.list).toArray, .agg (w32 l).toArray] w fun e w' => e = .returned (.agg (w32 (rnds s l 64).list).toArray) ∧ Still w w' := by
  obtain ⟨wA, hA⟩ : ∃ x, x = w.alloc (.cells (w32 s.list).toArray 48) := ⟨_, rfl⟩
  obtain ⟨wB', hB⟩ : ∃ x, x = wA.alloc (.cells (w32 l).toArray 63) := ⟨_, rfl⟩
  obtain ⟨wC, hC⟩ : ∃ x, x = wB'.alloc (.cells (w32 (List.replicate 8 0)).toArray 48) := ⟨_, rfl⟩
  have sA : wA.heap.size = w.heap.size + 1 := by rw [hA]; simp
  have sB : wB'.heap.size = w.heap.size + 2 := by rw [hB]; simp [sA]
  have sC : wC.heap.size = w.heap.size + 3 := by rw [hC]; simp [sB]
  have b1 : wC.heap[w.heap.size]? = some (.cells (w32 s.list).toArray 48 (0, 0)) := by
    rw [hC, heap_alloc_old _ _ (by omega), hB, heap_alloc_old _ _ (by omega), hA]
    exact heap_alloc_last w _
  have b2 : wC.heap[wA.heap.size]? = some (.cells (w32 l).toArray 63 (0, 0)) := by
    rw [hC, heap_alloc_old _ _ (by omega), hB]
    exact heap_alloc_last wA _
  have b3 : wC.heap[wB'.heap.size]? = some (.cells (w32 (List.replicate 8 0)).toArray 48 (0, 0)) := by
    rw [hC]
    exact heap_alloc_last wB' _
  have st : Still w wC := by
    rw [hC, hB, hA]
    exact (((Still.refl w).alloc (Nat.le_refl _) _).alloc (by simp) _).alloc (by simp; omega) _
  have hc1 := fun i hi => cells_words wC w.heap.size s.list _ _ b1 i hi
  have hc2 := fun i hi => cells_words wC wA.heap.size l _ _ b2 i hi
  have TT := T.still st
  generalize hG2 : wA.heap.size = g2 at *
  generalize hG3 : wB'.heap.size = g3 at *
  go_enter Tryd.func40, Tryd.ntmps40
  go_upto_region 0 with fail
  refine wp_region_lit ?_
  refine wpList_box_arr rfl 48 (.tmp 0) rfl (some 2) rfl _ rfl ?_
  rw [← hA]
  refine wpList_box_arr rfl 63 (.tmp 1) rfl (some 3) rfl _ rfl ?_
  rw [← hB, hG2]
  refine wpList_alloc_arr rfl 48 rfl (some 4) rfl _ _ zeroState ?_
  rw [← hC, hG3]
  refine wpList_nil ?_
  generalize (w32 s.list).toArray = arr1 at *
  generalize (w32 l).toArray = arr2 at *
  obtain ⟨g1, hg1⟩ : ∃ gb, gb = w.heap.size := ⟨_, rfl⟩
  rw [← hg1] at hc1 b1 ⊢
  have SZ := Lib.hid (show w.heap.size ≤ g1 ∧ g1 < g2 ∧ g2 < g3 ∧ g3 < wC.heap.size by omega)
  have B3 := Lib.hid b3
  have ST := Lib.hid st
  have HC2 := Lib.hid hc2
  have HS := Lib.hid hs
  have HLL := Lib.hid hl
  have HLEN := Lib.hid hll
  have HT := Lib.hid TT
  have s0 : wC.cell? ⟨g1, 0, none⟩ = some (.int .u32 (s.a : Int)) := hc1 0 (by rw [S8.list_length]; omega)
  have s1 : wC.cell? ⟨g1, 1, none⟩ = some (.int .u32 (s.b : Int)) := hc1 1 (by rw [S8.list_length]; omega)
  have s2 : wC.cell? ⟨g1, 2, none⟩ = some (.int .u32 (s.c : Int)) := hc1 2 (by rw [S8.list_length]; omega)
  have s3 : wC.cell? ⟨g1, 3, none⟩ = some (.int .u32 (s.d : Int)) := hc1 3 (by rw [S8.list_length]; omega)
  have s4 : wC.cell? ⟨g1, 4, none⟩ = some (.int .u32 (s.e : Int)) := hc1 4 (by rw [S8.list_length]; omega)
  have s5 : wC.cell? ⟨g1, 5, none⟩ = some (.int .u32 (s.f : Int)) := hc1 5 (by rw [S8.list_length]; omega)
  have s6 : wC.cell? ⟨g1, 6, none⟩ = some (.int .u32 (s.g : Int)) := hc1 6 (by rw [S8.list_length]; omega)
  have s7 : wC.cell? ⟨g1, 7, none⟩ = some (.int .u32 (s.h : Int)) := hc1 7 (by rw [S8.list_length]; omega)
  clear hA hB hC b1 b2 b3 st sA sB sC hG2 hG3 hg1 hc1 hc2 hs hl hll T TT
  go_wp2_with fail
  go_quiet (fail)
  obtain ⟨wp, hwp⟩ : ∃ wp, wp = wC.drewN nq := ⟨_, rfl⟩
  rw [← hwp]
  have sp : Still wC wp := by rw [hwp]; exact still_drewN (Still.refl _) _
  have SP := Lib.hid sp
  clear hwp sp s0 s1 s2 s3 s4 s5 s6 s7
  go_wp2_with fail
  go_loopw [5, 6, 7, 8, 9, 10, 11, 12, 32] (fun v6 v7 v8 v9 v10 v11 v12 v13 v14 wr => ∃ (k : Nat) (S : S8), k ≤ 64 ∧ v14 = .int .i64 k ∧ v6 = .int .u32 (S.a : Nat) ∧ v7 = .int .u32 (S.b : Nat) ∧ v8 = .int .u32 (S.c : Nat) ∧ v9 = .int .u32 (S.d : Nat) ∧ v10 = .int .u32 (S.e : Nat) ∧ v11 = .int .u32 (S.f : Nat) ∧ v12 = .int .u32 (S.g : Nat) ∧ v13 = .int .u32 (S.h : Nat) ∧ Hid (S = rnds s l k ∧ Still wC wr)) (fun _ _ _ _ _ _ _ _ i _ => 64 - (intOf i).toNat)
  case atStart => exact ⟨0, s, by omega, rfl, rfl, rfl, rfl, rfl, rfl, rfl, rfl, rfl, rfl, SP.out⟩
  case round =>
    obtain ⟨k, S, hk, rfl, rfl, rfl, rfl, rfl, rfl, rfl, rfl, rfl, hin⟩ := hrel
    by_cases hlt : k < 64
    · have hf : S.Fit := by rw [hin.out.1]; exact rnds_fit HS.out l k
      have d1 : (k : Int) < 64 := by omega
      have d0 : (0 : Int) ≤ (k : Int) := by omega
      have cK := HT.out.still hin.out.2 k hlt
      have cW : wr.cell? ⟨g2, k, none⟩ = some (.int .u32 (l.getD k 0 : Nat)) := (hin.out.2.cell (p := ⟨g2, k, none⟩) (block_lt_of_cell (HC2.out k (by rw [HLEN.out]; exact hlt)))).trans (HC2.out k (by rw [HLEN.out]; exact hlt))
      have hst : rnds s l (k + 1) = S.step (kT.getD k 0) (l.getD k 0) := by rw [hin.out.1]; rfl
      generalize kT.getD k 0 = kk at *
      generalize l.getD k 0 = ww at *
      obtain ⟨a, b, c, d, e, f, g, h⟩ := S
      simp only at *
      obtain ⟨e1, e2, e3, ex, ez, hE, te1, te2, te3, fe1, fe2⟩ := bgE_facts e hf.e
      obtain ⟨a1, a2, a3, ax, az, hA, ta1, ta2, ta3, fa1, fa2⟩ := bgA_facts a hf.a
      obtain ⟨n1, n2, n3, cz, hC, fc1, fc2, fc3, fc4, fc5, fc6⟩ := ch_facts e f g hf.e hf.f hf.g
      obtain ⟨m1, m2, m3, mo, mx, mz, hM, fm1, fm2, fm3, fm4, fm5, fm6, fm7⟩ := mj_facts a b c hf.a hf.b hf.c
      have hT : tN ⟨a, b, c, d, e, f, g, h⟩ kk ww = (h + ez + cz + kk + ww) % m32 := by rw [hE, hC]; rfl
      have hU : uN ⟨a, b, c, d, e, f, g, h⟩ = (az + mz) % m32 := by rw [hA, hM]; rfl
      obtain ⟨t, ht⟩ : ∃ t, t = tN ⟨a, b, c, d, e, f, g, h⟩ kk ww := ⟨_, rfl⟩
      have hst2 : rnds s l (k + 1) = ⟨(t + uN ⟨a, b, c, d, e, f, g, h⟩) % m32, a, b, c, (d + t) % m32, e, f, g⟩ := by rw [hst, ht]; rfl
      rw [hU] at hst2
      rw [hT] at ht
      obtain ⟨na, hna⟩ : ∃ x, x = (t + (az + mz) % m32) % m32 := ⟨_, rfl⟩
      obtain ⟨nd, hnd⟩ : ∃ x, x = (d + t) % m32 := ⟨_, rfl⟩
      rw [← hna, ← hnd] at hst2
      have NUM := Lib.hid (And.intro ht (And.intro hna hnd))
      have sg : IntKind.u32.signed = false := rfl
      clear hna hnd
      have HST := Lib.hid hst2
      have TE1 := Lib.hid te1
      have TE2 := Lib.hid te2
      have TE3 := Lib.hid te3
      have TA1 := Lib.hid ta1
      have TA2 := Lib.hid ta2
      have TA3 := Lib.hid ta3
      clear te1 te2 te3 ta1 ta2 ta3 hst hst2 hE hA hC hM hT hU ht hf fc2 fc4 fm4 fm5
      go_wp2_with fail
      go_quiet ((first | (go_at_call_has 44 (Value.int .i64 6); exact Calls.quiet_of_same (TE1.out.2 _)) | (go_at_call_has 44 (Value.int .i64 11); exact Calls.quiet_of_same (TE2.out.2 _)) | (go_at_call_has 44 (Value.int .i64 25); exact Calls.quiet_of_same (TE3.out.2 _))))
      go_wp2_with fail
      refine (TA1.out.2 _).mono ?_
      rintro e w1 ⟨rfl, rfl⟩
      go_wp2_with fail
      refine (TA2.out.2 _).mono ?_
      rintro e w1 ⟨rfl, rfl⟩
      go_wp2_with fail
      refine (TA3.out.2 _).mono ?_
      rintro e w1 ⟨rfl, rfl⟩
      go_wp2_with fail
      go_roundw
      case rel => exact ⟨k + 1, ⟨na, a, b, c, nd, e, f, g⟩, by omega, by go_num, by obtain ⟨q1, q2, q3⟩ := NUM.out; simp only [m32] at q1 q2 q3; exact congrArg (Value.int .u32) (show _ = ((na : Nat) : Int) by omega), rfl, rfl, rfl, by obtain ⟨q1, q2, q3⟩ := NUM.out; simp only [m32] at q1 q2 q3; exact congrArg (Value.int .u32) (show _ = ((nd : Nat) : Int) by omega), rfl, rfl, rfl, HST.out.symm, still_drewN hin.out.2 _⟩
      case measure => simp [intOf]; omega
    · obtain rfl : k = 64 := by omega
      rw [show ((64 : Nat) : Int) = 64 from rfl]
      have a3 : wr.heap[g3]? = some (.cells (w32 (List.replicate 8 0)).toArray 48 (0, 0)) := (hin.out.2.block g3 SZ.out.2.2.2).trans B3.out
      have stw := ST.out.trans hin.out.2
      have hF : S = rnds s l 64 := hin.out.1
      have hle : w.heap.size ≤ g3 := by have := SZ.out; omega
      have HF := Lib.hid hF
      have STW := Lib.hid stw
      have HLE := Lib.hid hle
      have A3 := Lib.hid a3
      clear stw hF hin a3 hle
      obtain ⟨a, b, c, d, e, f, g, h⟩ := S
      simp only at *
      go_wp2_with (refine wpList_store_rowTo rfl 48 (.tmp 4) (.tmp 103) rfl rfl g3 (w32 [a, b, c, d, e, f, g, h]).toArray rfl rfl 48 _ A3.out (by rw [sizeState]; rfl) rfl (w32_all _) ?_)
      have r3 : (wr.setRow g3 (w32 [a, b, c, d, e, f, g, h]).toArray).heap[g3]? = some (.cells (w32 [a, b, c, d, e, f, g, h]).toArray 48 (0, 0)) := setRow_heap wr g3 _ _ _ _ A3.out
      have st3 : Still w (wr.setRow g3 (w32 [a, b, c, d, e, f, g, h]).toArray) := below_setRow STW.out HLE.out _
      refine bodyPost_ret (results_cell_row rfl _ _ g3 _ _ _ _ rfl r3 underState rfl (by rw [sizeState]; rfl)) rfl ?_
      have e0 : (rnds s l 64).list = [a, b, c, d, e, f, g, h] := by rw [← HF.out]; rfl
      exact ⟨congrArg (fun L => Ending.returned (Value.agg (w32 L).toArray)) e0.symm, st3⟩
end Go.Proofs.YtambpgfmnbkhdaaDoor
