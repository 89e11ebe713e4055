/- Contract: the words of a block, by the program. It proves no statement. -/
import Derived.Test.YtambpgfmnbkhdaaDoorShaRSpread
import Derived.Test.YtambpgfmnbkhdaaDoorShaRRounds
import Derived.Test.YtambpgfmnbkhdaaDoorShaIdImp
import Derived.Test.YtambpgfmnbkhdaaDoorGetBig
namespace Go.Proofs.YtambpgfmnbkhdaaDoor
open Go.RowKit
set_option linter.unusedVariables false
set_option linter.unusedSimpArgs false

theorem underWords : Tryd.prog.underlying 63 = some (.array 64 46) := by kernel_rfl
theorem sizeWords : (Tryd.prog.info? 63).map (·.size) = some 64 := by kernel_rfl
theorem underBlock : Tryd.prog.underlying 49 = some (.array 64 5) := by kernel_rfl
theorem sizeBlock : (Tryd.prog.info? 49).map (·.size) = some 64 := by kernel_rfl
/-- A block that is an array of 64 words. -/
def WArr (w : World) (g : Nat) (D : List Nat) : Prop := w.heap[g]? = some (.cells (w32 D).toArray 63 (0, 0))
section
variable {w w' : World} {g : Nat} {D : List Nat}
theorem WArr.lt (h : WArr w g D) : g < w.heap.size := (Array.getElem?_eq_some_iff.1 h).1
theorem WArr.cell (h : WArr w g D) (i : Nat) (hi : i < D.length) : w.cell? ⟨g, i, none⟩ = some (.int .u32 (D.getD i 0 : Nat)) := by
  rw [cell_of_row w g i _ _ _ h, List.getElem?_toArray, w32_get _ _ hi]
theorem WArr.frozen (h : WArr w g D) (i : Nat) : w.frozen? ⟨g, i, none⟩ = false := frozen_of_row w g i _ _ h
theorem WArr.set (h : WArr w g D) (i x : Nat) : WArr (w.setCell ⟨g, i, none⟩ (.int .u32 (x : Int))) g (D.set i x) := by
  unfold WArr
  rw [heap_setCell_same w g i _ _ _ h]
  simp [w32_set]
theorem WArr.still (h : WArr w g D) (s : Still w w') : WArr w' g D := (s.block g h.lt).trans h
theorem WArr.new (w : World) (D : List Nat) : WArr (w.alloc (.cells (w32 D).toArray 63)) w.heap.size D := heap_alloc_last w _
end
/-- The first k words stand, the rest are noughts. -/
def wFill (b : List UInt8) (k : Nat) : List Nat := wTo b k ++ List.replicate (64 - k) 0
theorem wFill_length (b : List UInt8) (k : Nat) (h : k ≤ 64) : (wFill b k).length = 64 := by simp [wFill, wTo_length]; omega
theorem wFill_get (b : List UInt8) (k i : Nat) (h : i < k) : (wFill b k).getD i 0 = (wTo b k).getD i 0 := by
  simp [wFill, List.getD, List.getElem?_append_left (show i < (wTo b k).length by rw [wTo_length]; exact h)]
theorem wFill_next (b : List UInt8) (k : Nat) (h : k < 64) : (wFill b k).set k (wAt b (wTo b k) k) = wFill b (k + 1) := by
  unfold wFill
  rw [List.set_append_right _ _ (by rw [wTo_length]; omega), wTo_length, Nat.sub_self]
  obtain ⟨m, hm⟩ : ∃ m, 64 - k = m + 1 := ⟨64 - k - 1, by omega⟩
  rw [hm, List.replicate_succ, List.set_cons_zero, wTo_succ, show 64 - (k + 1) = m by omega]
  simp

set_option maxRecDepth 100000 in
set_option maxHeartbeats 1600000 in
theorem spread_any (R : List UInt8) (w : World) (hR : R.length = 64) :
    Calls Tryd.prog 41 #[.agg (bytesV R).toArray] w fun e w' => e = .returned (.agg (w32 (wTo R 64)).toArray) ∧ Still w w' := by
  obtain ⟨wA, hA⟩ : ∃ x, x = w.alloc (.cells (bytesV R).toArray 49) := ⟨_, rfl⟩
  obtain ⟨wB', hB⟩ : ∃ x, x = wA.alloc (.cells (w32 (List.replicate 64 0)).toArray 63) := ⟨_, rfl⟩
  obtain ⟨wC, hC⟩ : ∃ x, x = wB'.alloc (.cells (w32 (List.replicate 64 0)).toArray 63) := ⟨_, rfl⟩
  have sA : wA.heap.size = w.heap.size + 1 := by rw [hA]; simp
  have sB : wB'.heap.size = w.heap.size + 2 := by rw [hB]; simp [sA]
  have sC : wC.heap.size = w.heap.size + 3 := by rw [hC]; simp [sB]
  have b1 : wC.heap[w.heap.size]? = some (.cells (bytesV R).toArray 49 (0, 0)) := by
    rw [hC, heap_alloc_old _ _ (by omega), hB, heap_alloc_old _ _ (by omega), hA]
    exact heap_alloc_last w _
  have b2 : WArr wC wA.heap.size (List.replicate 64 0) := by
    unfold WArr
    rw [hC, heap_alloc_old _ _ (by omega), hB]
    exact heap_alloc_last wA _
  have b3 : WArr wC wB'.heap.size (List.replicate 64 0) := by rw [hC]; exact WArr.new _ _
  have st : Still w wC := by
    rw [hC, hB, hA]
    exact (((Still.refl w).alloc (Nat.le_refl _) _).alloc (by simp) _).alloc (by simp; omega) _
  have rb : Reads wC (w.heap.size + 1) (some ⟨w.heap.size, 0, none⟩) 64 R := ⟨hR, fun _ => ⟨_, 0, rfl, by omega, fun i hi => by rw [Nat.zero_add, cell_of_row _ _ i _ _ _ b1, List.getElem?_toArray, bytesV_get _ _ (by omega)]⟩⟩
  generalize hG2 : wA.heap.size = g2 at *
  generalize hG3 : wB'.heap.size = g3 at *
  go_enter Tryd.func41, Tryd.ntmps41
  go_upto_region 0 with fail
  refine wp_region_lit ?_
  refine wpList_box_arr rfl 49 (.tmp 0) rfl (some 1) rfl _ rfl ?_
  rw [← hA]
  refine wpList_alloc_arr rfl 63 rfl (some 2) rfl _ _ zero64 ?_
  rw [← hB, hG2]
  refine wpList_nil ?_
  go_upto_region 1 with fail
  refine wp_region_lit ?_
  refine wpList_alloc_arr rfl 63 rfl (some 3) rfl _ _ zero64 ?_
  rw [← hC, hG3]
  refine wpList_nil ?_
  generalize (bytesV R).toArray = barr
  obtain ⟨gb, hgb⟩ : ∃ gb, gb = w.heap.size := ⟨_, rfl⟩
  rw [← hgb] at rb ⊢
  have SZ := Lib.hid (show w.heap.size ≤ g2 ∧ g2 < g3 ∧ g3 < wC.heap.size ∧ gb = w.heap.size ∧ gb < g2 ∧ gb < wC.heap.size by omega)
  have B2 := Lib.hid b2
  have B3 := Lib.hid b3
  have ST := Lib.hid st
  have RB := Lib.hid rb
  clear hA hB hC b1 b2 b3 st rb sA sB sC hG2 hG3 hgb
  go_wp2_with fail
  go_loopw [10] (fun i wr => ∃ k : Nat, k ≤ 16 ∧ i = .int .i64 k ∧ Hid (WArr wr g3 (wFill R k) ∧ WArr wr g2 (List.replicate 64 0) ∧ Reads wr (gb + 1) (some ⟨gb, 0, none⟩) 64 R ∧ Still w wr)) (fun i _ => 16 - (intOf i).toNat)
  case atStart => exact ⟨0, by omega, rfl, B3.out, B2.out, RB.out, ST.out⟩
  case round =>
    obtain ⟨k, hk, rfl, hin⟩ := hrel
    by_cases hlt : k < 16
    · have d1' : (k : Int) < 16 := by omega
      have d0' : (0 : Int) ≤ (k : Int) := by omega
      have d64 : (k : Int) < 64 := by omega
      obtain ⟨t, ht⟩ : ∃ t, t = 4 * k := ⟨_, rfl⟩
      have e1 : IntKind.i64.wrap (4 * (k : Int)) = (t : Int) := by rw [IntKind.wrap_i64]; omega
      obtain ⟨u, hu⟩ : ∃ u, u = t + 4 := ⟨_, rfl⟩
      have e2' : (t : Int) + 4 = (u : Int) := by omega
      have e2 : IntKind.i64.wrap (u : Int) = (u : Int) := by rw [IntKind.wrap_i64]; omega
      have d3 : (0 : Int) ≤ (t : Int) := by omega
      have d3' : (0 : Int) ≤ (u : Int) := by omega
      have d3'' : (t : Int) ≤ (u : Int) := by omega
      have d4 : (u : Int) ≤ 64 := by omega
      have d10 : u - t = 4 := by omega
      have d11 : ¬ 64 = t := by omega
      have rw1 := (hin.out.2.2.1.dropk (k := t) (by omega)).takek (k := 4) (by omega)
      simp only [Option.map_some, Addr.add_lit, Nat.zero_add] at rw1
      have GB := Lib.hid (getbig_yes _ 4 (64 - t) _ wr _ rw1 (by omega) (by omega))
      have hx : wAt R (wTo R k) k = leNum ((R.drop t).take 4).reverse := by
        unfold wAt
        rw [if_pos hlt, ht]; rfl
      have hz := wAt_lt R (wTo R k) k
      obtain ⟨z, hzz⟩ : ∃ z, z = wAt R (wTo R k) k := ⟨_, rfl⟩
      rw [← hzz] at hx hz
      rw [← hx] at GB
      have e5 : IntKind.u32.wrap (z : Int) = (z : Int) := by rw [IntKind.wrap_u32]; simp only [m32] at hz; omega
      have hcell : wr.cell? ⟨g3, k, none⟩ = some (.int .u32 ((wFill R k).getD k 0 : Nat)) := hin.out.1.cell k (by rw [wFill_length _ _ (by omega)]; omega)
      have hfro : wr.frozen? ⟨g3, k, none⟩ = false := hin.out.1.frozen k
      have HZ := Lib.hid hzz
      have HT := Lib.hid ht
      have HK := Lib.hid hlt
      clear rw1 hx hzz ht hz hlt hk hu
      generalize (wFill R k).getD k 0 = old at *
      go_wp2_with fail
      refine GB.out.mono ?_
      rintro e w2 ⟨rfl, rfl⟩
      go_wp2_with fail
      go_roundw
      case rel =>
        have hk := HK.out
        refine ⟨k + 1, by omega, by go_num, ?_, ?_, ?_, ?_⟩
        · have h := hin.out.1.set k z
          rw [HZ.out, wFill_next R k (by omega), ← HZ.out] at h
          exact h
        · exact (Below.heap_setCell _ _ _ _ (show g2 ≠ g3 by have := SZ.out; omega)).trans hin.out.2.1
        · exact hin.out.2.2.1.keep fun p hp => World.cell?_setCell_other _ _ _ _ (by rintro rfl; have := SZ.out; simp at hp; omega)
        · exact Below.setCell hin.out.2.2.2 (p := ⟨g3, k, none⟩) (by have := SZ.out; simp; omega) _
      case measure => simp [intOf]; have := HK.out; omega
    · obtain rfl : k = 16 := by omega
      rw [show ((16 : Nat) : Int) = 16 from rfl]
      have S0 := Lib.hid (show WArr wr g3 (wFill R 16) ∧ WArr wr g2 (List.replicate 64 0) ∧ Still w wr from ⟨hin.out.1, hin.out.2.1, hin.out.2.2.2⟩)
      clear hin B2 B3 ST RB hk hlt
      go_wp2_with fail
      go_loopw [7] (fun i wr => ∃ k : Nat, k ≤ 64 ∧ 16 ≤ k ∧ i = .int .i64 k ∧ Hid (WArr wr g3 (wFill R k) ∧ WArr wr g2 (List.replicate 64 0) ∧ Still w wr)) (fun i _ => 64 - (intOf i).toNat)
      case atStart => exact ⟨16, by omega, by omega, rfl, S0.out⟩
      case round =>
        obtain ⟨k, hk, hk16, rfl, hin⟩ := hrel
        by_cases hlt : k < 64
        · have d1 : (k : Int) < 64 := by omega
          have d0 : (0 : Int) ≤ (k : Int) := by omega
          obtain ⟨p15, hp15⟩ : ∃ p, p = k - 15 := ⟨_, rfl⟩
          obtain ⟨p2, hp2⟩ : ∃ p, p = k - 2 := ⟨_, rfl⟩
          obtain ⟨p16, hp16⟩ : ∃ p, p = k - 16 := ⟨_, rfl⟩
          obtain ⟨p7, hp7⟩ : ∃ p, p = k - 7 := ⟨_, rfl⟩
          have hlen := wFill_length R k hk
          have cl : ∀ p, p < k → wr.cell? ⟨g3, p, none⟩ = some (.int .u32 ((wTo R k).getD p 0 : Nat)) := fun p hp => by
            rw [hin.out.1.cell p (by omega), wFill_get R k p hp]
          have c15 := cl p15 (by omega)
          have c2 := cl p2 (by omega)
          have c16 := cl p16 (by omega)
          have c7 := cl p7 (by omega)
          have ck : wr.cell? ⟨g3, k, none⟩ = some (.int .u32 ((wFill R k).getD k 0 : Nat)) := hin.out.1.cell k (by omega)
          have hfro : wr.frozen? ⟨g3, k, none⟩ = false := hin.out.1.frozen k
          have i15 : (k : Int) - 15 = (p15 : Int) := by omega
          have i2 : (k : Int) - 2 = (p2 : Int) := by omega
          have i16 : (k : Int) - 16 = (p16 : Int) := by omega
          have i7 : (k : Int) - 7 = (p7 : Int) := by omega
          have w15 : IntKind.i64.wrap (p15 : Int) = (p15 : Int) := by rw [IntKind.wrap_i64]; omega
          have w2 : IntKind.i64.wrap (p2 : Int) = (p2 : Int) := by rw [IntKind.wrap_i64]; omega
          have w16 : IntKind.i64.wrap (p16 : Int) = (p16 : Int) := by rw [IntKind.wrap_i64]; omega
          have w7 : IntKind.i64.wrap (p7 : Int) = (p7 : Int) := by rw [IntKind.wrap_i64]; omega
          have l15 : (p15 : Int) < 64 := by omega
          have l2 : (p2 : Int) < 64 := by omega
          have l16 : (p16 : Int) < 64 := by omega
          have l7 : (p7 : Int) < 64 := by omega
          have o15 : (0 : Int) ≤ (p15 : Int) := by omega
          have o2 : (0 : Int) ≤ (p2 : Int) := by omega
          have o16 : (0 : Int) ≤ (p16 : Int) := by omega
          have o7 : (0 : Int) ≤ (p7 : Int) := by omega
          have hx : wAt R (wTo R k) k = ((wTo R k).getD p16 0 + sgA ((wTo R k).getD p15 0) + (wTo R k).getD p7 0 + sgB ((wTo R k).getD p2 0)) % m32 := by
            unfold wAt wNext
            rw [if_neg (by omega), hp15, hp2, hp16, hp7]
          have b15 := getD_lt32 (wTo_lt R k) p15
          have b2 := getD_lt32 (wTo_lt R k) p2
          generalize (wTo R k).getD p15 0 = y15 at *
          generalize (wTo R k).getD p2 0 = y2 at *
          generalize (wTo R k).getD p16 0 = y16 at *
          generalize (wTo R k).getD p7 0 = y7 at *
          generalize (wFill R k).getD k 0 = old at *
          obtain ⟨a7, a18, ax, aq, az, hA, hAl, _, _, ta7, ta18, fa1, fa2, fa4, fa3⟩ := sgA_facts y15 b15
          obtain ⟨b7, b18, bx, bq, bz, hBz, hBl, _, _, tb7, tb18, fb1, fb2, fb4, fb3⟩ := sgB_facts y2 b2
          rw [← hA, ← hBz] at hx
          obtain ⟨z, hzz⟩ : ∃ z, z = wAt R (wTo R k) k := ⟨_, rfl⟩
          rw [← hzz] at hx
          have es : ((y16 : Int) + (az : Int) + (y7 : Int) + (bz : Int)) % 4294967296 = (z : Int) := by rw [hx]; simp [m32]
          have HX := Lib.hid hx
          have HZ := Lib.hid hzz
          have TA7 := Lib.hid ta7
          have TA18 := Lib.hid ta18
          have TB7 := Lib.hid tb7
          have TB18 := Lib.hid tb18
          have HK := Lib.hid (And.intro hlt hk16)
          clear hx hzz hA hBz ta7 ta18 tb7 tb18 cl hlen hp15 hp2 hp16 hp7 hAl hBl b15 b2 hk hlt hk16
          go_wp2_with fail
          go_quiet (fail)
          obtain ⟨wq, hwq⟩ : ∃ wq, wq = wr.drewN nq := ⟨_, rfl⟩
          rw [← hwq]
          have sq : Still wr wq := by rw [hwq]; exact still_drewN (Still.refl _) _
          have c16 : wq.cell? ⟨g3, p16, none⟩ = some (.int .u32 (y16 : Int)) := by rw [hwq]; exact c16
          have c7 : wq.cell? ⟨g3, p7, none⟩ = some (.int .u32 (y7 : Int)) := by rw [hwq]; exact c7
          have ck : wq.cell? ⟨g3, k, none⟩ = some (.int .u32 (old : Int)) := by rw [hwq]; exact ck
          have hfro : wq.frozen? ⟨g3, k, none⟩ = false := by rw [hwq]; exact hfro
          clear hwq
          go_wp2_with fail
          go_still_tail 29, (by kernel_rfl)
          · still_call (TA7.out _)
            repeat still_step
            still_call (TA18.out _)
            repeat still_step
            still_call (TB7.out _)
            repeat still_step
            still_call (TB18.out _)
            repeat still_step
            refine wpStill_nil ?_
            change wpList _ _ _ _ _ wq.drew
            go_wp2_with fail
            go_roundw
            case rel =>
              have sd : Still wr wq.drew := sq.drew
              obtain ⟨hlt, hk16⟩ := HK.out
              refine ⟨k + 1, by omega, by omega, by go_num, ?_, ?_, ?_⟩
              · have h := (hin.out.1.still sd).set k z
                rw [HZ.out, wFill_next R k hlt, ← HZ.out] at h
                exact h
              · exact (Below.heap_setCell _ _ _ _ (show g2 ≠ g3 by have := SZ.out; omega)).trans (hin.out.2.1.still sq)
              · exact Below.setCell (hin.out.2.2.trans sd) (p := ⟨g3, k, none⟩) (by have := SZ.out; simp; omega) _
            case measure => simp [intOf]; have := HK.out; omega
        · obtain rfl : k = 64 := by omega
          rw [show ((64 : Nat) : Int) = 64 from rfl]
          have a3 : WArr wr g3 (wTo R 64) := by
            have := hin.out.1
            simpa [wFill] using this
          have a2 := hin.out.2.1
          have st := hin.out.2.2
          have hle := SZ.out.1
          obtain ⟨L, hLe⟩ : ∃ L, L = wTo R 64 := ⟨_, rfl⟩
          have hls : (w32 L).toArray.size = 64 := by rw [hLe]; simp [w32_length, wTo_length]
          rw [← hLe] at a3
          have HLE := Lib.hid hLe
          clear hLe
          go_upto_region 13 with fail
          refine wp_region_lit ?_
          refine wpList_load_row rfl 63 (.tmp 3) rfl g3 rfl _ _ _ _ a3 underWords rfl (by rw [sizeWords, hls]) ?_
          refine wpList_store_rowTo rfl 63 (.tmp 2) (.tmp 69) rfl rfl g2 (w32 L).toArray rfl rfl 63 _ a2 (by rw [sizeWords, hls]) (by rw [hls]; rfl) (w32_all _) ?_
          refine wpList_nil ?_
          have r2 : WArr (wr.setRow g2 (w32 L).toArray) g2 L := setRow_heap wr g2 _ _ _ _ a2
          have st2 : Still w (wr.setRow g2 (w32 L).toArray) := below_setRow st hle _
          go_wp2_with fail
          refine bodyPost_ret (results_cell_row rfl _ _ g2 _ _ _ _ rfl r2 underWords rfl (by rw [sizeWords, hls])) rfl ?_
          exact ⟨congrArg (fun L => Ending.returned (Value.agg (w32 L).toArray)) HLE.out, st2⟩
end Go.Proofs.YtambpgfmnbkhdaaDoor
