/- Contracts: a text's sum at once; whether anything is summed; a dead hasher's sum. It proves no statement. -/
import Derived.Test.YtambpgfmnbkhdaaDoorShaMsum
import Derived.Stop.BytesEq
namespace Go.Proofs.YtambpgfmnbkhdaaDoor
open Go.RowKit
set_option linter.unusedVariables false
set_option linter.unusedSimpArgs false

set_option maxHeartbeats 800000 in
theorem sum_any (A : Option Addr) (n c : Nat) (l : List UInt8) (w : World) (B : Nat) (T : Tabs w) (h : Reads w B A n l) (hB : B ≤ w.heap.size) (hn : n ≤ 35184372088832) (hnc : n ≤ c) (hc : c ≤ 9223372036854775807) :
    Calls Tryd.prog 11 #[.slice A n c] w fun e w' => e = .returned (.agg (bytesV (shSum l)).toArray) ∧ Still w w' := by
  obtain ⟨wA, hwA⟩ : ∃ x, x = w.alloc (.cells (bytesV (List.replicate 32 0)).toArray 26) := ⟨_, rfl⟩
  have sA : Still w wA := by rw [hwA]; exact (Still.refl w).alloc (Nat.le_refl _) _
  have aA : Arr wA w.heap.size (List.replicate 32 0) := by rw [hwA]; exact Arr.new _ _
  have hl := h.1
  obtain ⟨D, hD⟩ : ∃ D, D = shSum l := ⟨_, rfl⟩
  have hD32 : D.length = 32 := by rw [hD]; exact shSum_length l
  rw [← hD]
  obtain ⟨darr, hdarr⟩ : ∃ d, d = (bytesV D).toArray := ⟨_, rfl⟩
  have hds : darr.size = 32 := by rw [hdarr]; simp [bytesV_length, hD32]
  have SA := Lib.hid sA
  have AA := Lib.hid aA
  have HR := Lib.hid (h.still hB sA)
  have TA := Lib.hid (T.still sA)
  have HD := Lib.hid hD
  have HDA := Lib.hid hdarr
  have HDS := Lib.hid hds
  have HD32 := Lib.hid hD32
  have HL := Lib.hid hl
  clear sA aA h T hD hdarr hds hD32 hl
  go_enter Tryd.func11, Tryd.ntmps11
  go_upto_region 0 with fail
  refine wp_region_lit ?_
  refine wpList_alloc_arr rfl 26 rfl (some 2) rfl _ _ zero32 ?_
  rw [← hwA]
  refine wpList_nil ?_
  clear hwA
  go_wp2_with fail
  refine (new_any wA).mono ?_
  rintro e w1 ⟨g, rfl, hg, hd1, s1⟩
  have W := Lib.hid (write_any g [] l A n c w1 B (TA.out.still s1) hd1 (HR.out.still (Nat.le_trans hB SA.out.size) s1) hnc hc (far_low (HR.out.still (Nat.le_trans hB SA.out.size) s1) (Nat.le_trans hB (Nat.le_trans SA.out.size hg))) (by simp; omega))
  have S1 := Lib.hid (SA.out.trans s1)
  have A1 := Lib.hid (AA.out.still s1)
  have T1 := Lib.hid (TA.out.still s1)
  have HG := Lib.hid (show w.heap.size ≤ g ∧ w.heap.size < g from ⟨by have := SA.out.size; omega, by have := AA.out.lt; omega⟩)
  have HD1 := Lib.hid hd1
  clear hd1 s1 hg
  go_wp2_with fail
  refine W.out.mono ?_
  rintro e w2 ⟨rfl, hd2, gr2⟩
  rw [List.nil_append] at hd2
  have T2 : Tabs w2 := by
    obtain ⟨R, hb, _, _⟩ := HD1.out
    exact Tabs.grown T1.out hb gr2
  have M := Lib.hid (msum_any g l w2 T2 hd2 (by have := HL.out; omega))
  have S2 := Lib.hid (still_grown S1.out gr2 HG.out.1)
  have A2 := Lib.hid (A1.out.grown gr2 (by have := HG.out; omega))
  rw [← HD.out, ← HDA.out] at M
  clear hd2 gr2 T2 W
  go_wp2_with fail
  refine M.out.mono ?_
  rintro e w3 ⟨rfl, s3⟩
  have a3 := A2.out.still s3
  have st3 := S2.out.trans s3
  go_wp2_with (refine wpList_store_rowTo rfl 26 (.tmp 2) (.tmp 9) rfl rfl w.heap.size darr rfl rfl 26 _ a3 (by rw [size32, HDS.out]) (by rw [HDS.out]; rfl) (by rw [HDA.out]; exact bytes_all _) ?_)
  have r2 : Arr (w3.setRow w.heap.size darr) w.heap.size D := by rw [HDA.out]; exact setRow_heap w3 _ _ _ _ _ a3
  have st2 : Still w (w3.setRow w.heap.size darr) := below_setRow st3 (Nat.le_refl _) _
  refine bodyPost_ret (results_arr rfl _ _ w.heap.size D rfl r2 HD32.out) rfl ?_
  exact ⟨rfl, st2⟩

theorem index_byte (w : World) (l : List UInt8) (hl : l.length = 32) (i : Nat) (hi : i < 32) : (Instr.index 26 (.agg (bytesV l).toArray) (.int .i64 (i : Int))).run Tryd.prog w = .ok (.int .u8 ((l.getD i 0).toNat : Int)) w :=
  run_index_arr w _ _ 32 .u8 under32 (by kernel_rfl) (by kernel_rfl) _ (by rw [bytesV_length, hl]) i hi _ (bytesV_get _ _ (by omega))

theorem lives_any (w : World) (T : Tabs w) : Calls Tryd.prog 14 #[] w fun e w' => e = .returned (.bool true) ∧ Still w w' := by
  have S := sum_any none 0 0 [] w 0 T Reads.nil0 (Nat.zero_le _) (by omega) (Nat.le_refl _) (by omega)
  have ix : ∀ w : World, (Instr.index 26 (.agg (bytesV (shSum [])).toArray) (.int .i64 0)).run Tryd.prog w = .ok (.int .u8 227) w := fun w => by
    have := index_byte w (shSum []) (shSum_length []) 0 (by omega)
    rw [sh_nil] at this
    exact this
  generalize (bytesV (shSum [])).toArray = darr at S ix
  have S' := Lib.hid S
  have IX := Lib.hid ix
  have TT := Lib.hid T
  clear S ix T
  go_enter Tryd.func14, Tryd.ntmps14
  go_wp2_with fail
  refine S'.out.mono ?_
  rintro e w1 ⟨rfl, s1⟩
  have ix := IX.out
  go_wp2_with fail
  refine (new_any w1).mono ?_
  rintro e w2 ⟨g, rfl, hg, _, s2⟩
  go_wp2_with fail
  go_ret
  exact ⟨rfl, s1.trans s2⟩
set_option maxHeartbeats 800000 in
theorem sum_dead (v : Value) (w : World) (h : Dead w v) : Calls Tryd.prog 18 #[v] w fun e w' => e = .returned (.agg (bytesV (List.replicate 32 0)).toArray) ∧ Still w w' := by
  obtain ⟨wA, hwA⟩ : ∃ x, x = w.alloc (.cells (bytesV (List.replicate 32 0)).toArray 26) := ⟨_, rfl⟩
  have sA : Still w wA := by rw [hwA]; exact (Still.refl w).alloc (Nat.le_refl _) _
  have aA : Arr wA w.heap.size (List.replicate 32 0) := by rw [hwA]; exact Arr.new _ _
  have k := Lib.hid (works_no v wA (h.still sA))
  have hbt : Tryd.prog.built 26 [] = some (bytesV (List.replicate 32 0)).toArray := by kernel_rfl
  obtain ⟨D, hD⟩ : ∃ D : List UInt8, D = List.replicate 32 0 := ⟨_, rfl⟩
  have hD32 : D.length = 32 := by rw [hD]; rfl
  obtain ⟨darr, hdarr⟩ : ∃ d, d = (bytesV D).toArray := ⟨_, rfl⟩
  have hds : darr.size = 32 := by rw [hdarr]; simp [bytesV_length, hD32]
  have hda := bytes_all D
  rw [← hdarr] at hda
  rw [← hD] at hbt aA ⊢
  rw [← hdarr] at hbt
  have HBT := Lib.hid hbt
  have HDA := Lib.hid hdarr
  have AA := Lib.hid aA
  have SA := Lib.hid sA
  have HDALL := Lib.hid hda
  have HDS := Lib.hid hds
  clear hbt hdarr h hda sA hds aA
  go_enter Tryd.func18, Tryd.ntmps18
  go_upto_region 0 with fail
  refine wp_region_lit ?_
  refine wpList_alloc_arr rfl 26 rfl (some 2) rfl _ _ zero32 ?_
  rw [← hwA]
  refine wpList_nil ?_
  clear hwA hD
  go_upto_region 2 with (go_at_call 31; refine k.out.mono ?_; rintro e w1 ⟨rfl, rfl⟩)
  refine wp_region_lit ?_
  refine wpList_buildTo rfl 26 _ rfl (some 7) rfl darr (by simp only [List.map_toArray, List.map_cons, List.map_nil]; exact HBT.out) ?_
  refine wpList_store_rowTo rfl 26 (.tmp 2) (.tmp 7) rfl rfl w.heap.size darr rfl rfl 26 _ AA.out (by rw [size32, HDS.out]) (by rw [HDS.out]; simp [bytesV_length, hD32]) HDALL.out ?_
  refine wpList_nil ?_
  have r2 : Arr (wA.setRow w.heap.size darr) w.heap.size D := by rw [HDA.out]; exact setRow_heap wA _ _ _ _ _ AA.out
  have st2 : Still w (wA.setRow w.heap.size darr) := below_setRow SA.out (Nat.le_refl _) _
  go_wp2_with fail
  (try simp only [Exit.inBlock, Exit.then])
  refine bodyPost_ret (results_arr rfl _ _ w.heap.size D rfl r2 hD32) rfl ?_
  exact ⟨rfl, st2⟩
end Go.Proofs.YtambpgfmnbkhdaaDoor
