/- Contract: a text of digits read, by the program. It proves no statement. -/
import Derived.Test.YtambpgfmnbkhdaaDoorShaFromRef
namespace Go.Proofs.YtambpgfmnbkhdaaDoor
open Go.RowKit
set_option linter.unusedVariables false
set_option linter.unusedSimpArgs false

/-- What two digits make. -/
theorem two_digits : ∀ a : Nat, a < 16 → ∀ b : Nat, b < 16 → bits .or .i64 (wrap64 ((a : Int) * 16)) (b : Int) % 256 = ((UInt8.ofNat (a * 16 + b)).toNat : Int) := by decide +kernel
theorem sbs_get (l : List UInt8) (k : Nat) (h : k < 32) : ((List.range 32).map (sbL l)).getD k 0 = sbL l k := by
  simp [List.getD, h]
theorem ixb_bad (c : Nat) (h : nb c = 16) : ixb c = -1 := by unfold ixb; rw [if_pos h]
theorem ixb_good (c : Nat) (h : ¬ nb c = 16) : ixb c = (nb c : Int) := by unfold ixb; rw [if_neg h]

set_option maxRecDepth 100000 in
set_option maxHeartbeats 800000 in
theorem from_any (s : ByteArray) (w : World) :
    Calls Tryd.prog 22 #[.string s] w (Told s.data.toList w) := by
  obtain ⟨l, hl⟩ : ∃ l, l = s.data.toList := ⟨_, rfl⟩
  have hls : l.length = s.size := by rw [hl]; simp
  have hix : ∀ (k : Nat) (w : World), k < s.size → (Instr.index 9 (.string s) (.int .i64 (k : Int))).run Tryd.prog w = .ok (.int .u8 ((l.getD k 0).toNat : Int)) w := fun k w h => by rw [hl]; exact index_text s w k h
  rw [← hl]
  obtain ⟨Z, hZ⟩ : ∃ Z : List UInt8, Z = List.replicate 32 0 := ⟨_, rfl⟩
  have hZl : Z.length = 32 := by rw [hZ]; rfl
  obtain ⟨zarr, hzarr⟩ : ∃ z, z = (bytesV Z).toArray := ⟨_, rfl⟩
  have hzs : zarr.size = 32 := by rw [hzarr]; simp [bytesV_length, hZl]
  have hzall := byte_all Z
  rw [← hzarr] at hzall
  have hbt : Tryd.prog.built 26 [] = some zarr := by rw [hzarr, hZ]; kernel_rfl
  obtain ⟨wA, hA⟩ : ∃ x, x = w.alloc (.cells (bytesV (List.replicate 32 0)).toArray 26) := ⟨_, rfl⟩
  obtain ⟨wB, hB⟩ : ∃ x, x = wA.alloc (.cells (bytesV (List.replicate 32 0)).toArray 26) := ⟨_, rfl⟩
  have sA : wA.heap.size = w.heap.size + 1 := by rw [hA]; simp
  have sB : wB.heap.size = w.heap.size + 2 := by rw [hB]; simp [sA]
  have b2 : Arr wB w.heap.size Z := by
    rw [hZ]; unfold Arr
    rw [hB, heap_alloc_old _ _ (by omega), hA]
    exact heap_alloc_last w _
  have b4 : Arr wB wA.heap.size Z := by rw [hZ, hB]; exact Arr.new _ _
  have st : Still w wB := by
    rw [hB, hA]
    exact ((Still.refl w).alloc (Nat.le_refl _) _).alloc (by simp) _
  have z32 := zero32
  rw [← hZ, ← hzarr] at z32
  rw [← hZ, ← hzarr] at hA hB
  have b2' : wB.heap[w.heap.size]? = some (.cells zarr 26 (0, 0)) := by rw [hzarr]; exact b2
  generalize hG4 : wA.heap.size = g4 at *
  obtain ⟨L, hL⟩ : ∃ L, L = (List.range 32).map (sbL l) := ⟨_, rfl⟩
  have hLl : L.length = 32 := by rw [hL]; simp
  have b4z : Arr wB g4 (fillTo L 0) := by rw [fillTo_zero, hLl, ← hZ]; exact b4
  have HA := Lib.hid hA
  have HB := Lib.hid hB
  have HG4 := Lib.hid hG4
  have IX := Lib.hid hix
  have LS := Lib.hid hls
  have HZ := Lib.hid hZ
  have HZA := Lib.hid hzarr
  have ZS := Lib.hid hzs
  have ZALL := Lib.hid hzall
  have BT := Lib.hid hbt
  have Z32 := Lib.hid z32
  have B2 := Lib.hid b2'
  have A2 := Lib.hid b2
  have A4 := Lib.hid b4z
  have ST := Lib.hid st
  have HL := Lib.hid hL
  have HLL := Lib.hid hLl
  have SZ := Lib.hid (show w.heap.size < g4 ∧ g4 < wB.heap.size by omega)
  clear hA hB hG4 hix hls hl hZ hzarr hzs hzall hbt z32 b2' b2 b4 b4z st sA sB hZl hL hLl
  go_enter Tryd.func22, Tryd.ntmps22
  go_upto_region 0 with fail
  refine wp_region_lit ?_
  refine wpList_alloc_arr rfl 26 rfl (some 2) rfl _ _ Z32.out ?_
  rw [← HA.out]
  go_upto_region 1 with fail
  refine wp_region_lit ?_
  refine wpList_alloc_arr rfl 26 rfl (some 4) rfl _ _ Z32.out ?_
  rw [← HB.out, HG4.out]
  clear HA HB HG4
  by_cases h64 : s.size = 64
  · have h64' : ((s.size : Int) = 64) := by omega
    have hlt64 : ∀ k : Nat, k < 64 → k < s.size := by omega
    have HLT := Lib.hid hlt64
    have LS64 := Lib.hid (show l.length = 64 from LS.out.trans h64)
    clear hlt64 h64
    go_wp2_with fail
    go_loopw [12] (fun i wr => ∃ k : Nat, k ≤ 32 ∧ i = .int .i64 k ∧ Hid (∀ j < 2 * k, nbL l j ≠ 16) ∧ Hid (Arr wr g4 (fillTo L k) ∧ Arr wr w.heap.size Z ∧ Still w wr)) (fun i _ => 32 - (intOf i).toNat)
    case atStart => exact ⟨0, by omega, rfl, Lib.hid (fun j hj => by omega), A4.out, A2.out, ST.out⟩
    case round =>
      obtain ⟨k, hk, rfl, hno, hin⟩ := hrel
      by_cases hlt : k < 32
      · have d1 : (k : Int) < 32 := by omega
        obtain ⟨t1, ht1⟩ : ∃ t, t = 2 * k := ⟨_, rfl⟩
        obtain ⟨t2, ht2⟩ : ∃ t, t = 2 * k + 1 := ⟨_, rfl⟩
        have e1 : IntKind.i64.wrap (2 * (k : Int)) = (t1 : Int) := by rw [IntKind.wrap_i64]; omega
        have e2 : IntKind.i64.wrap ((t1 : Int) + 1) = (t2 : Int) := by rw [IntKind.wrap_i64]; omega
        have e3 : 2 * (k : Int) = (t1 : Int) := by omega
        have e4 : (t1 : Int) + 1 = (t2 : Int) := by omega
        have e5 : IntKind.i64.wrap (t1 : Int) = (t1 : Int) := by rw [IntKind.wrap_i64]; omega
        have e6 : IntKind.i64.wrap (t2 : Int) = (t2 : Int) := by rw [IntKind.wrap_i64]; omega
        have ix1 := fun w => IX.out t1 w (HLT.out t1 (by omega))
        have ix2 := fun w => IX.out t2 w (HLT.out t2 (by omega))
        have hs1 : sbL l k = UInt8.ofNat (nb (l.getD t1 0).toNat * 16 + nb (l.getD t2 0).toNat) := by rw [ht1, ht2]; rfl
        have hn1 : nbL l t1 = nb (l.getD t1 0).toNat := rfl
        have hn2 : nbL l t2 = nb (l.getD t2 0).toNat := rfl
        have hc1 := (l.getD t1 0).toNat_lt
        have hc2 := (l.getD t2 0).toNat_lt
        generalize (l.getD t1 0).toNat = c1 at *
        generalize (l.getD t2 0).toNat = c2 at *
        have X1 := Lib.hid (fun w => index_any c1 hc1 w)
        have X2 := Lib.hid (fun w => index_any c2 hc2 w)
        have l1 := nb_le c1
        have l2 := nb_le c2
        obtain ⟨i1, hi1⟩ : ∃ i, i = ixb c1 := ⟨_, rfl⟩
        obtain ⟨i2, hi2⟩ : ∃ i, i = ixb c2 := ⟨_, rfl⟩
        rw [← hi1] at X1
        rw [← hi2] at X2
        have HK := Lib.hid hlt
        clear hk hlt hc1 hc2
        have bad : (nb c1 = 16 ∨ nb c2 = 16) → Hid (isL l = false) := by
          intro h
          refine Lib.hid ?_
          unfold isL
          rcases h with h | h
          · rw [goodL_not l t1 (by have := HK.out; omega) (hn1.trans h), Bool.and_false]
          · rw [goodL_not l t2 (by have := HK.out; omega) (hn2.trans h), Bool.and_false]
        by_cases hg : nb c1 = 16 ∨ nb c2 = 16
        · have BAD := bad hg
          have W2 : wr.heap[w.heap.size]? = some (.cells zarr 26 (0, 0)) := by rw [HZA.out]; exact hin.out.2.1
          have r2 : ∀ n, Arr ((wr.drewN n).setRow w.heap.size zarr) w.heap.size Z := fun n => by rw [HZA.out]; exact setRow_heap (wr.drewN n) _ _ _ _ _ hin.out.2.1
          have st2 : ∀ n, Still w ((wr.drewN n).setRow w.heap.size zarr) := fun n => below_setRow (rstill_drewN hin.out.2.2 n) (Nat.le_refl _) _
          have W2H := Lib.hid W2
          have R2 := Lib.hid r2
          have ST2 := Lib.hid st2
          have hcase : i1 < 0 ∨ (¬ i1 < 0 ∧ i2 < 0) := by
            rw [hi1, hi2]
            by_cases h1 : nb c1 = 16
            · exact .inl (by rw [ixb_bad _ h1]; omega)
            · rcases hg with h | h
              · exact absurd h h1
              · exact .inr ⟨by rw [ixb_good _ h1]; omega, by rw [ixb_bad _ h]; omega⟩
          clear W2 r2 st2 hin hno bad hg hs1 hn1 hn2 hi1 hi2 l1 l2 ht1 ht2
          rcases hcase with h1 | ⟨h1, h2⟩
          all_goals
            go_wp2_with fail
            go_quiet ((first | (go_at_call_has 35 (Value.int .u8 (c1 : Int)); exact Calls.quiet_of_same (X1.out _)) | (go_at_call_has 35 (Value.int .u8 (c2 : Int)); exact Calls.quiet_of_same (X2.out _))))
            go_upto_region 9 with fail
            refine wp_region_lit ?_
            refine wpList_buildTo rfl 26 _ rfl (some 32) rfl zarr (by simp only [List.map_toArray, List.map_cons, List.map_nil]; exact BT.out) ?_
            refine wpList_store_rowTo rfl 26 (.tmp 2) (.tmp 32) rfl rfl w.heap.size zarr rfl rfl 26 _ W2H.out (by rw [size32, ZS.out]) (by rw [ZS.out]) ZALL.out ?_
            go_wp2_with fail
            (try simp only [Exit.inBlock, Exit.then])
            refine bodyPost_ret (results_arr2 rfl _ _ w.heap.size Z rfl (R2.out _) (by rw [HZ.out]; rfl) false rfl) rfl ?_
            rw [HZ.out]
            exact told_bad BAD.out (ST2.out _)
        · have g1 : ¬ nb c1 = 16 := fun h => hg (.inl h)
          have g2 : ¬ nb c2 = 16 := fun h => hg (.inr h)
          obtain ⟨b1, hb1⟩ : ∃ b, b = nb c1 := ⟨_, rfl⟩
          obtain ⟨b2, hb2⟩ : ∃ b, b = nb c2 := ⟨_, rfl⟩
          have q1 : i1 = (b1 : Int) := by rw [hi1, ixb_good _ g1, hb1]
          have q2 : i2 = (b2 : Int) := by rw [hi2, ixb_good _ g2, hb2]
          subst q1
          subst q2
          have ev := two_digits b1 (by omega) b2 (by omega)
          have hnew := fun n => (show Arr (wr.drewN n) g4 (fillTo L k) from hin.out.1).set k (sbL l k)
          have hnx : (fillTo L k).set k (sbL l k) = fillTo L (k + 1) := by
            rw [← sbs_get l k HK.out, ← HL.out]
            exact fillTo_next L k (by rw [HLL.out]; exact HK.out)
          have hcell := hin.out.1.cell k (by rw [fillTo_length _ _ (by rw [HLL.out]; have := HK.out; omega), HLL.out]; exact HK.out)
          have hfro := hin.out.1.frozen k
          rw [hs1, ← hb1, ← hb2, ← ev] at hnew
          have f1 : ¬ (b1 : Int) < 0 := by omega
          have f2 : ¬ (b2 : Int) < 0 := by omega
          have d3 : (0 : Int) ≤ (k : Int) := by omega
          have HNN := Lib.hid (show nbL l t1 ≠ 16 ∧ nbL l t2 ≠ 16 by rw [hn1, hn2]; exact ⟨g1, g2⟩)
          have HT := Lib.hid (show t1 = 2 * k ∧ t2 = 2 * k + 1 from ⟨ht1, ht2⟩)
          have HNEW := Lib.hid hnew
          have HNX := Lib.hid hnx
          have HB12 := Lib.hid (show sbL l k = UInt8.ofNat (b1 * 16 + b2) by rw [hs1, hb1, hb2])
          have EV := Lib.hid ev
          clear hs1 hn1 hn2 hb1 hb2 hi1 hi2 ht1 ht2 hnew hnx ev l1 l2 bad hg g1 g2
          go_wp2_with fail
          go_quiet ((first | (go_at_call_has 35 (Value.int .u8 (c1 : Int)); exact Calls.quiet_of_same (X1.out _)) | (go_at_call_has 35 (Value.int .u8 (c2 : Int)); exact Calls.quiet_of_same (X2.out _))))
          go_wp2_with fail
          go_roundw
          case rel =>
            have hk := HK.out
            have hne : w.heap.size ≠ g4 := by have := SZ.out; omega
            refine ⟨k + 1, by omega, by go_num, Lib.hid (fun j hj => ?_), ?_, ?_, ?_⟩
            · have ht := HT.out
              by_cases h1 : j = t1
              · rw [h1]; exact HNN.out.1
              · by_cases h2 : j = t2
                · rw [h2]; exact HNN.out.2
                · exact hno.out j (by omega)
            · have h := HNEW.out nq
              rw [← HB12.out, HNX.out] at h
              exact h
            · unfold Arr
              rw [heap_setCell_other _ _ _ _ (by exact hne)]
              exact hin.out.2.1
            · exact Below.setCell (rstill_drewN hin.out.2.2 nq) (by have := SZ.out; simp; omega) _
          case measure => simp [intOf]; have := HK.out; omega
      · obtain rfl : k = 32 := by omega
        rw [show ((32 : Nat) : Int) = 32 from rfl]
        have a4 := hin.out.1
        rw [show fillTo L 32 = L by have := fillTo_all L; rwa [HLL.out] at this] at a4
        obtain ⟨darr, hda⟩ : ∃ d, d = (bytesV L).toArray := ⟨_, rfl⟩
        have hds : darr.size = 32 := by rw [hda]; simp [bytesV_length, HLL.out]
        have hdall := byte_all L
        rw [← hda] at hdall
        have a4' : wr.heap[g4]? = some (.cells darr 26 (0, 0)) := by rw [hda]; exact a4
        have W2 : wr.heap[w.heap.size]? = some (.cells zarr 26 (0, 0)) := by rw [HZA.out]; exact hin.out.2.1
        have r2 : Arr (wr.setRow w.heap.size darr) w.heap.size L := by rw [hda]; exact setRow_heap wr _ _ _ _ _ hin.out.2.1
        have st2 : Still w (wr.setRow w.heap.size darr) := below_setRow hin.out.2.2 (Nat.le_refl _) _
        have GG := Lib.hid (goodL_of l (by exact hno.out))
        have A4' := Lib.hid a4'
        have W2H := Lib.hid W2
        have R2 := Lib.hid r2
        have ST2 := Lib.hid st2
        have DS := Lib.hid hds
        have DALL := Lib.hid hdall
        clear a4 a4' W2 r2 st2 hds hdall hin hno hda
        go_upto_region 12 with fail
        refine wp_region_lit ?_
        refine wpList_load_row rfl 26 (.tmp 4) rfl g4 rfl _ _ _ _ A4'.out under32 rfl (by rw [size32, DS.out]) ?_
        refine wpList_store_rowTo rfl 26 (.tmp 2) (.tmp 41) rfl rfl w.heap.size darr rfl rfl 26 _ W2H.out (by rw [size32, DS.out]) (by rw [DS.out, ZS.out]) DALL.out ?_
        go_wp2_with fail
        refine bodyPost_ret (results_arr2 rfl _ _ w.heap.size L rfl R2.out HLL.out true rfl) rfl ?_
        rw [HL.out]
        exact told_good LS64.out GG.out ST2.out
  · have hne : ¬ ((s.size : Int) = 64) := by omega
    have r2 : Arr (wB.setRow w.heap.size zarr) w.heap.size Z := by rw [HZA.out]; exact setRow_heap wB _ _ _ _ _ A2.out
    have st2 : Still w (wB.setRow w.heap.size zarr) := below_setRow ST.out (Nat.le_refl _) _
    have GB := Lib.hid (show isL l = false by unfold isL; rw [show (l.length == 64) = false by rw [LS.out]; simpa using h64]; rfl)
    have R2 := Lib.hid r2
    have ST2 := Lib.hid st2
    clear r2 st2 h64
    go_upto_region 3 with fail
    refine wp_region_lit ?_
    refine wpList_buildTo rfl 26 _ rfl (some 11) rfl zarr (by simp only [List.map_toArray, List.map_cons, List.map_nil]; exact BT.out) ?_
    refine wpList_store_rowTo rfl 26 (.tmp 2) (.tmp 11) rfl rfl w.heap.size zarr rfl rfl 26 _ B2.out (by rw [size32, ZS.out]) (by rw [ZS.out]) ZALL.out ?_
    go_wp2_with fail
    (try simp only [Exit.inBlock, Exit.then])
    refine bodyPost_ret (results_arr2 rfl _ _ w.heap.size Z rfl R2.out (by rw [HZ.out]; rfl) false rfl) rfl ?_
    rw [HZ.out]
    exact told_bad GB.out ST2.out
end Go.Proofs.YtambpgfmnbkhdaaDoor
