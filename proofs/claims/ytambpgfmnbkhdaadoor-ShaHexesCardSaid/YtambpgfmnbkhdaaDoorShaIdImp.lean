/- Contract: a state as a sum, by the program. It proves no statement. -/
import Derived.Test.YtambpgfmnbkhdaaDoorShaId
import Derived.Test.YtambpgfmnbkhdaaDoorBig1
import Derived.Laws.CopyOwn
import Derived.Deep.RegionHeld3
import Derived.Deep.RegionLaw
namespace Go.Proofs.YtambpgfmnbkhdaaDoor
open Go.RowKit
set_option linter.unusedVariables false
set_option linter.unusedSimpArgs false

theorem underState : Tryd.prog.underlying 48 = some (.array 8 46) := by kernel_rfl
theorem sizeState : (Tryd.prog.info? 48).map (·.size) = some 8 := by kernel_rfl
theorem zeroState : (Tryd.prog.info? 48).map (fun i => (i.zero, i.size)) = some (some (.agg (w32 (List.replicate 8 0)).toArray), 8) := by kernel_rfl
theorem sizeByte : (Tryd.prog.info? 5).map (·.size) = some 1 := by kernel_rfl
theorem fillTo_copy (L : List UInt8) (j : Nat) (x : List UInt8) (hx : x = (L.drop j).take x.length) (h : j + x.length ≤ L.length) : (fillTo L j).take j ++ (x ++ (fillTo L j).drop (j + x.length)) = fillTo L (j + x.length) := by
  unfold fillTo
  have e1 : (L.take j).length = j := by simp; omega
  rw [List.take_left' e1, List.drop_append, e1, show j + x.length - j = x.length by omega, List.drop_of_length_le (show (L.take j).length ≤ j + x.length by omega), List.nil_append, List.drop_replicate,
    List.take_add, ← hx, List.append_assoc, show L.length - j - x.length = L.length - (j + x.length) by omega]

theorem idB_word (l : List Nat) (i : Nat) (hi : i < l.length) : ((idB l).drop (4 * i)).take 4 = wB (l.getD i 0) := by
  induction l generalizing i with
  | nil => simp at hi
  | cons x r ih =>
    have e : idB (x :: r) = wB x ++ idB r := rfl
    match i with
    | 0 =>
      rw [e, Nat.mul_zero, List.drop_zero, List.take_left' (wB_length x)]
      rfl
    | i + 1 =>
      have h2 := ih i (by simpa using hi)
      rw [e, List.drop_append, List.drop_of_length_le (by rw [wB_length]; omega), List.nil_append, wB_length, show 4 * (i + 1) - 4 = 4 * i by omega, h2]
      rfl

set_option maxRecDepth 100000 in
set_option maxHeartbeats 800000 in
theorem id_any (l : List Nat) (w : World) (hl : l.length = 8) (hb : ∀ x ∈ l, x < m32) :
    Calls Tryd.prog 34 #[.agg (w32 l).toArray] w fun e w' => e = .returned (.agg (bytesV (idB l)).toArray) ∧ Still w w' := by
  have hL : (idB l).length = 32 := by rw [idB_length, hl]
  obtain ⟨wA, hA⟩ : ∃ x, x = w.alloc (.cells (w32 l).toArray 48) := ⟨_, rfl⟩
  obtain ⟨wB', hB⟩ : ∃ x, x = wA.alloc (.cells (bytesV (List.replicate 32 0)).toArray 26) := ⟨_, rfl⟩
  obtain ⟨wC, hC⟩ : ∃ x, x = wB'.alloc (.cells (bytesV (List.replicate 32 0)).toArray 26) := ⟨_, rfl⟩
  have sA : wA.heap.size = w.heap.size + 1 := by rw [hA]; simp
  have sB : wB'.heap.size = w.heap.size + 2 := by rw [hB]; simp [sA]
  have sC : wC.heap.size = w.heap.size + 3 := by rw [hC]; simp [sB]
  have b1 : wC.heap[w.heap.size]? = some (.cells (w32 l).toArray 48 (0, 0)) := by
    rw [hC, heap_alloc_old _ _ (by omega), hB, heap_alloc_old _ _ (by omega), hA]
    exact heap_alloc_last w _
  have b2 : Arr wC wA.heap.size (List.replicate 32 0) := by
    unfold Arr
    rw [hC, heap_alloc_old _ _ (by omega), hB]
    exact heap_alloc_last wA _
  have b3 : Arr wC wB'.heap.size (List.replicate 32 0) := by rw [hC]; exact Arr.new _ _
  have st : Still w wC := by
    rw [hC, hB, hA]
    exact (((Still.refl w).alloc (Nat.le_refl _) _).alloc (by simp) _).alloc (by simp; omega) _
  obtain ⟨arr, harr⟩ : ∃ a, a = (w32 l).toArray := ⟨_, rfl⟩
  have ix : ∀ (k : Nat) (w : World), k < 8 → (Instr.index 48 (.agg arr) (.int .i64 (k : Int))).run Tryd.prog w = .ok (.int .u32 (l.getD k 0 : Nat)) w := fun k w hk => by
    rw [harr]
    exact run_index_arr w _ _ 8 .u32 underState (by kernel_rfl) (by kernel_rfl) _ (by rw [w32_length, hl]) k hk _ (w32_get _ _ (by omega))
  have harrs : arr.size = 8 := by rw [harr]; simp [w32_length, hl]
  rw [← harr] at hA b1 ⊢
  have HB := Lib.hid hb
  have HL := Lib.hid hL
  have HLL := Lib.hid hl
  have IX := Lib.hid ix
  clear hb hL hl ix harr
  generalize hG2 : wA.heap.size = g2 at *
  generalize hG3 : wB'.heap.size = g3 at *
  go_enter Tryd.func34, Tryd.ntmps34
  go_upto_region 0 with fail
  refine wp_region_lit ?_
  refine wpList_box_arr rfl 48 (.tmp 0) rfl (some 1) rfl _ rfl ?_
  rw [← hA]
  refine wpList_alloc_arr rfl 26 rfl (some 2) rfl _ _ zero32 ?_
  rw [← hB, hG2]
  refine wpList_nil ?_
  go_upto_region 1 with fail
  refine wp_region_lit ?_
  refine wpList_alloc_arr rfl 26 rfl (some 3) rfl _ _ zero32 ?_
  rw [← hC, hG3]
  refine wpList_nil ?_
  go_upto_region 2 with fail
  refine wp_region_lit ?_
  refine wpList_load_row rfl 48 (.tmp 1) rfl w.heap.size rfl _ _ _ _ b1 underState rfl (by rw [sizeState, harrs]) ?_
  clear hA hB hC
  have B2 := Lib.hid b2
  have B3 := Lib.hid b3
  have ST := Lib.hid st
  have SZ := Lib.hid (show w.heap.size ≤ g2 ∧ g2 < g3 ∧ g3 < wC.heap.size by omega)
  clear b1 b2 b3 st sA sB sC hG2 hG3
  go_wp2_with fail
  go_loopw [7] (fun i wr => ∃ k : Nat, k ≤ 8 ∧ i = .int .i64 k ∧ Hid (Arr wr g3 (fillTo (idB l) (4 * k)) ∧ Arr wr g2 (List.replicate 32 0) ∧ Still w wr)) (fun i _ => 8 - (intOf i).toNat)
  case atStart => exact ⟨0, by omega, rfl, by rw [Nat.mul_zero, fillTo_zero, HL.out]; exact B3.out, B2.out, ST.out⟩
  case round =>
    obtain ⟨k, hk, rfl, hin⟩ := hrel
    by_cases hlt : k < 8
    · have d1 : (k : Int) < 8 := by omega
      have d0 : (0 : Int) ≤ (k : Int) := by omega
      have ix := fun w => IX.out k w hlt
      obtain ⟨x, hx⟩ : ∃ x, x = l.getD k 0 := ⟨_, rfl⟩
      rw [← hx] at ix
      have hxl : x < m32 := by rw [hx]; exact getD_lt32 HB.out k
      obtain ⟨t, ht⟩ : ∃ t, t = 4 * k := ⟨_, rfl⟩
      have e1 : IntKind.i64.wrap (4 * (k : Int)) = (t : Int) := by rw [IntKind.wrap_i64]; omega
      have e2 : IntKind.u64.wrap (x : Int) = (x : Int) := by rw [IntKind.wrap_u64]; simp only [m32] at hxl; omega
      have d3 : (0 : Int) ≤ (t : Int) := by omega
      have d4 : (t : Int) ≤ 32 := by omega
      have d5 : ¬ 32 = t := by omega
      have ht28 : t ≤ 28 := by omega
      have hsz := hin.out.2.2.size
      have BG := Lib.hid (big_yes x 4 wr.drew (by simp only [m32] at hxl; omega) (by omega) (by omega))
      have HX := Lib.hid hx
      have HT := Lib.hid ht
      have HK := Lib.hid hlt
      clear hx ht hk hlt hxl
      go_wp2_with fail
      go_region_held3 (fun _ => True) (trivial)
        (first
          | (go_at_call 42; refine BG.out.mono ?_; rintro e w1 ⟨rfl, own1, s1⟩)
          | (have a3 : Arr w1 g3 (fillTo (idB l) t) := by rw [HT.out]; exact hin.out.1.still (Still.trans (show Still wr wr.drew from (Still.refl wr).drew) s1)
             have q1 := Reads.of_own own1
             refine step_copy_splice (by rfl) (.tmp 13) (.tmp 16) 22 22 (by rfl) 5 Tryd.underlying22 sizeByte _ _ _ _ _ _ (by rfl) (by rfl) g3 t _ _ a3 (bytesV (wB x)) (by rw [bytesV_length, wB_length]; show 4 = min 4 (32 - t); omega) ?cpos ?cfit (bytesV_one _) g3 w1 (Below.refl _ _) (Nat.le_refl _) ?_
             case cpos => exact fun _ => ⟨rfl, _, rfl, fun j v hv => q1.news _ rfl (by omega) j v hv⟩
             case cfit => simp [bytesV_length, wB_length, fillTo_length _ _ (show t ≤ (idB l).length by rw [HL.out]; omega), HL.out]; omega
             intro w2 hg2' hb2'))
      go_wp2_with fail
      go_roundw
      case rel =>
        have hk := HK.out
        have st1 : Still w w1 := hin.out.2.2.trans (Still.trans (show Still wr wr.drew from (Still.refl wr).drew) s1)
        have a2 : Arr w1 g2 (List.replicate 32 0) := hin.out.2.1.still (Still.trans (show Still wr wr.drew from (Still.refl wr).drew) s1)
        refine ⟨k + 1, by omega, by go_num, ?_, ?_, ?_⟩
        · have h := hg2'.out
          have hw : wB x = ((idB l).drop t).take (wB x).length := by rw [wB_length, HT.out, idB_word l k (by rw [HLL.out]; omega), HX.out]
          have hc := fillTo_copy (idB l) t (wB x) hw (by rw [wB_length, HL.out]; omega)
          unfold Arr
          rw [h]
          unfold splice
          rw [bytesV_length, ← bytesV_take, ← bytesV_drop, ← bytesV_append, ← bytesV_append, hc, wB_length, HT.out, show 4 * k + 4 = 4 * (k + 1) by omega]
        · exact (hb2'.block g2 SZ.out.2.1).trans a2
        · exact Below.trans st1 (hb2'.mono (by have := SZ.out; omega))
      case measure => simp [intOf]; have := HK.out; omega
    · obtain rfl : k = 8 := by omega
      rw [show ((8 : Nat) : Int) = 8 from rfl]
      have a3 := hin.out.1
      rw [show 4 * 8 = (idB l).length from HL.out.symm, fillTo_all] at a3
      have a2 := hin.out.2.1
      have st := hin.out.2.2
      have hle := SZ.out.1
      have hL := HL.out
      have hls : (bytesV (idB l)).toArray.size = 32 := by simp [bytesV_length, hL]
      have hl1 : (bytesV (idB l)).toArray.all (·.oneCell') = true := by
        rw [Array.all_eq_true_iff_forall_mem]
        intro v hv
        exact bytesV_one (idB l) v (by simpa using hv)
      obtain ⟨L, hLe⟩ : ∃ L, L = idB l := ⟨_, rfl⟩
      rw [← hLe] at a3 hL hls hl1
      have HLE := Lib.hid hLe
      clear hLe
      go_upto_region 7 with fail
      refine wp_region_lit ?_
      refine wpList_load_row rfl 26 (.tmp 3) rfl g3 rfl _ _ _ _ a3 under32 rfl (by rw [size32, hls]) ?_
      refine wpList_store_rowTo rfl 26 (.tmp 2) (.tmp 19) rfl rfl g2 (bytesV L).toArray rfl rfl 26 _ a2 (by rw [size32, hls]) (by rw [hls]; rfl) hl1 ?_
      refine wpList_nil ?_
      have r2 : Arr (wr.setRow g2 (bytesV L).toArray) g2 L := setRow_heap wr g2 _ _ _ _ a2
      have st2 : Still w (wr.setRow g2 (bytesV L).toArray) := below_setRow st hle _
      go_wp2_with fail
      refine bodyPost_ret (results_arr rfl _ _ g2 L rfl r2 hL) rfl ?_
      exact ⟨congrArg (fun L => Ending.returned (Value.agg (bytesV L).toArray)) HLE.out, st2⟩
end Go.Proofs.YtambpgfmnbkhdaaDoor
