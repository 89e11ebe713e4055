/- Contract: the state behind a block, by the program. It proves no statement. -/
import Derived.Test.YtambpgfmnbkhdaaDoorShaSpread
import Derived.Test.YtambpgfmnbkhdaaDoorShaMixed
namespace Go.Proofs.YtambpgfmnbkhdaaDoor
open Go.RowKit
set_option linter.unusedVariables false
set_option linter.unusedSimpArgs false

theorem step_of_wp {P : Program} {ops : Array Oper} {o : Oper} {a : Act} {w : World} {K : Act → World → Prop} {Q : Exit → Act → World → Prop} {E : Prop} (hgd : o.guard = none) (h : Oper.wp P o a w K Q) :
    if Region.wanted o (yielded ops a.tmps) = true then Oper.wp P o a w K Q else E := by
  rw [if_pos (by simp [Region.wanted, hgd])]
  exact h
theorem wp_alloc_arr {P : Program} {o : Oper} {a : Act} {w : World} {K : Act → World → Prop} {Q : Exit → Act → World → Prop} (t : TypeId) (ho : o.op = .alloc t) (cs : Array Value) (n : Nat)
    (hi : (P.info? t).map (fun i => (i.zero, i.size)) = some (some (.agg cs), n)) (h : K (a.put o.dst (.pointer (some ⟨w.heap.size, 0, none⟩))) (w.alloc (.cells cs t))) : Oper.wp P o a w K Q := by
  unfold Oper.wp
  rw [run_alloc_arr _ o t ho cs n hi w, Oper.upon_value]
  exact h
/-- A whole array is read. -/
theorem load_row {P : Program} (w : World) (g : Nat) (t ty : TypeId) (cs : Array Value) (fr : Nat × Nat) (n : Nat) (e : TypeId) (hg : w.heap[g]? = some (.cells cs t fr)) (hu : P.underlying ty = some (.array n e)) (hi : (P.info? ty).map (·.size) = some cs.size) :
    (Instr.loadAt ty (.pointer (some ⟨g, 0, none⟩))).run P w = .ok (.agg cs) w := by
  simp only [Instr.loadAt, Instr.sureAddr, Sem.run_bind, Sem.run_pure, Result.andThen]
  exact run_loadVar_row w g t ty cs fr _ hg hu rfl hi
/-- The first k sums, then what was there. -/
def addTo (a b : List Nat) (k : Nat) : List Nat := (List.range 8).map fun i => if i < k then (a.getD i 0 + b.getD i 0) % m32 else a.getD i 0
theorem addTo_length (a b : List Nat) (k : Nat) : (addTo a b k).length = 8 := by simp [addTo]
theorem addTo_zero (s : S8) (b : List Nat) : addTo s.list b 0 = s.list := by simp [addTo, S8.list, List.range_succ]
theorem addTo_all (s t : S8) : addTo s.list t.list 8 = (s.add t).list := by simp [addTo, S8.list, S8.add, List.range_succ]
theorem addTo_get (a b : List Nat) (k : Nat) (hk : k < 8) : (addTo a b k).getD k 0 = a.getD k 0 := by simp [addTo, List.getD, hk]
theorem addTo_next (a b : List Nat) (k : Nat) (hk : k < 8) : (addTo a b k).set k ((a.getD k 0 + b.getD k 0) % m32) = addTo a b (k + 1) := by
  apply List.ext_getElem?
  intro i
  by_cases hi : i < 8
  · by_cases h : k = i
    · subst h
      rw [List.getElem?_set_self (by rw [addTo_length]; exact hk)]
      simp [addTo, hk]
    · rw [List.getElem?_set_ne h]
      simp only [addTo, List.getElem?_map, List.getElem?_range hi, Option.map_some]
      by_cases h2 : i < k
      · simp [h2, show i < k + 1 by omega]
      · simp [h2, show ¬ i < k + 1 by omega]
  · rw [List.getElem?_eq_none (by rw [List.length_set, addTo_length]; omega), List.getElem?_eq_none (by rw [addTo_length]; omega)]

set_option maxRecDepth 100000 in
set_option maxHeartbeats 1600000 in
theorem behind_any (s : S8) (R : List UInt8) (w : World) (T : Tabs w) (hs : s.Fit) (hR : R.length = 64) :
    Calls Tryd.prog 32 #[.agg (w32 s.list).toArray, .agg (bytesV R).toArray] w fun e w' => e = .returned (.agg (w32 (blkN s R).list).toArray) ∧ Still w w' := by
  obtain ⟨wA, hA⟩ : ∃ x, x = w.alloc (.cells (w32 s.list).toArray 48) := ⟨_, rfl⟩
  obtain ⟨wB', hB⟩ : ∃ x, x = wA.alloc (.cells (bytesV R).toArray 49) := ⟨_, rfl⟩
  obtain ⟨wC, hC⟩ : ∃ x, x = wB'.alloc (.cells (w32 (List.replicate 8 0)).toArray 48) := ⟨_, rfl⟩
  have sA : wA.heap.size = w.heap.size + 1 := by rw [hA]; simp
  have sB : wB'.heap.size = w.heap.size + 2 := by rw [hB]; simp [sA]
  have sC : wC.heap.size = w.heap.size + 3 := by rw [hC]; simp [sB]
  have b1 : wC.heap[w.heap.size]? = some (.cells (w32 s.list).toArray 48 (0, 0)) := by
    rw [hC, heap_alloc_old _ _ (by omega), hB, heap_alloc_old _ _ (by omega), hA]
    exact heap_alloc_last w _
  have b2 : wC.heap[wA.heap.size]? = some (.cells (bytesV R).toArray 49 (0, 0)) := by
    rw [hC, heap_alloc_old _ _ (by omega), hB]
    exact heap_alloc_last wA _
  have b3 : wC.heap[wB'.heap.size]? = some (.cells (w32 (List.replicate 8 0)).toArray 48 (0, 0)) := by
    rw [hC]
    exact heap_alloc_last wB' _
  have st : Still w wC := by
    rw [hC, hB, hA]
    exact (((Still.refl w).alloc (Nat.le_refl _) _).alloc (by simp) _).alloc (by simp; omega) _
  have TT := T.still st
  generalize hG2 : wA.heap.size = g2 at *
  generalize hG3 : wB'.heap.size = g3 at *
  obtain ⟨M, hM⟩ : ∃ M, M = rnds s (wTo R 64) 64 := ⟨_, rfl⟩
  have hMx := fun w T => mixed_any s (wTo R 64) w T hs (wTo_lt R 64) (wTo_length R 64)
  rw [← hM] at hMx
  have hSp := fun w => spread_any R w hR
  have hB0 : blkN s R = s.add M := by rw [hM]; rfl
  rw [hB0]
  have hMf : M.Fit := by rw [hM]; exact rnds_fit hs _ _
  have hBz : (bytesV R).toArray.size = 64 := by simp [bytesV_length, hR]
  have hSz : (w32 s.list).toArray.size = 8 := by simp [w32_length, S8.list_length]
  have hMz : (w32 M.list).toArray.size = 8 := by simp [w32_length, S8.list_length]
  have ix : ∀ (k : Nat) (w : World), k < 8 → (Instr.index 48 (.agg (w32 M.list).toArray) (.int .i64 (k : Int))).run Tryd.prog w = .ok (.int .u32 (M.list.getD k 0 : Nat)) w := fun k w hk =>
    run_index_arr w _ _ 8 .u32 underState (by kernel_rfl) (by kernel_rfl) _ (by rw [w32_length, S8.list_length]) k hk _ (w32_get _ _ (by rw [S8.list_length]; exact hk))
  obtain ⟨bl, hbl⟩ : ∃ b, b = bytesV R := ⟨_, rfl⟩
  have hbz : bl.length = 64 := by rw [hbl, bytesV_length, hR]
  rw [← hbl] at b2 hSp hBz hB ⊢
  have lim : ∀ w' : World, Still wC w' → (w'.cell? ⟨w.heap.size, 0, none⟩ = some (.int .u32 (s.a : Int)) ∧ w'.cell? ⟨w.heap.size, 1, none⟩ = some (.int .u32 (s.b : Int)) ∧ w'.cell? ⟨w.heap.size, 2, none⟩ = some (.int .u32 (s.c : Int)) ∧ w'.cell? ⟨w.heap.size, 3, none⟩ = some (.int .u32 (s.d : Int)) ∧ w'.cell? ⟨w.heap.size, 4, none⟩ = some (.int .u32 (s.e : Int)) ∧ w'.cell? ⟨w.heap.size, 5, none⟩ = some (.int .u32 (s.f : Int)) ∧ w'.cell? ⟨w.heap.size, 6, none⟩ = some (.int .u32 (s.g : Int)) ∧ w'.cell? ⟨w.heap.size, 7, none⟩ = some (.int .u32 (s.h : Int)) ∧ w'.rangeAt g2 0 bl) := fun w' h => by
    have c1 := fun i hi => (h.cell (p := ⟨w.heap.size, i, none⟩) (show w.heap.size < wC.heap.size by omega)).trans (cells_words wC w.heap.size s.list _ _ b1 i hi)
    refine ⟨c1 0 (by rw [S8.list_length]; omega), c1 1 (by rw [S8.list_length]; omega), c1 2 (by rw [S8.list_length]; omega), c1 3 (by rw [S8.list_length]; omega), c1 4 (by rw [S8.list_length]; omega), c1 5 (by rw [S8.list_length]; omega), c1 6 (by rw [S8.list_length]; omega), c1 7 (by rw [S8.list_length]; omega), fun j v hj => ?_⟩
    rw [Nat.zero_add, h.cell (p := ⟨g2, j, none⟩) (show g2 < wC.heap.size by omega), cell_of_row _ _ _ _ _ _ b2]
    simpa using hj
  have hu49 := underBlock
  have hi49 : (Tryd.prog.info? 49).map (·.size) = some bl.length := by rw [hbz]; exact sizeBlock
  go_enter Tryd.func32, Tryd.ntmps32
  go_upto_region 0 with fail
  refine wp_region_lit ?_
  refine wpList_box_arr rfl 48 (.tmp 0) rfl (some 2) rfl _ rfl ?_
  rw [← hA]
  refine wpList_box_arr rfl 49 (.tmp 1) rfl (some 3) rfl _ rfl ?_
  rw [← hB, hG2]
  refine wpList_alloc_arr rfl 48 rfl (some 4) rfl _ _ zeroState ?_
  rw [← hC, hG3]
  refine wpList_nil ?_
  obtain ⟨arrM, hArrM⟩ : ∃ a, a = (w32 M.list).toArray := ⟨_, rfl⟩
  obtain ⟨arrW, hArrW⟩ : ∃ a, a = (w32 (wTo R 64)).toArray := ⟨_, rfl⟩
  have hMx2 : ∀ w, Tabs w → Calls Tryd.prog 40 #[.agg #[.int .u32 (s.a : Int), .int .u32 (s.b : Int), .int .u32 (s.c : Int), .int .u32 (s.d : Int), .int .u32 (s.e : Int), .int .u32 (s.f : Int), .int .u32 (s.g : Int), .int .u32 (s.h : Int)], .agg arrW] w fun e w' => e = .returned (.agg arrM) ∧ Still w w' := by
    rw [hArrW, hArrM]
    exact hMx
  rw [← hArrW] at hSp
  rw [← hArrM] at ix hMz
  obtain ⟨g1, hg1⟩ : ∃ gb, gb = w.heap.size := ⟨_, rfl⟩
  rw [← hg1] at lim b1 ⊢
  have SZ := Lib.hid (show w.heap.size ≤ g1 ∧ g1 < g2 ∧ g2 < g3 ∧ g3 < wC.heap.size by omega)
  have B3 := Lib.hid b3
  have ST := Lib.hid st
  have HMF := Lib.hid hMf
  have HSF := Lib.hid hs
  have TT := Lib.hid TT
  have MX := Lib.hid hMx2
  have SP := Lib.hid hSp
  have LM := Lib.hid lim
  have IX := Lib.hid ix
  have HAM := Lib.hid hArrM
  have stM := Lib.hid (fun (W : World) (g : Nat) (h : W.heap[g]? = some (.cells (w32 (List.replicate 8 0)).toArray 48 (0, 0))) => show (storeCells ⟨g, 0, none⟩ arrM.toList 0).run Tryd.prog W = .ok () (W.setRow g arrM) by
    have := run_storeCells_from (P := Tryd.prog) g 48 arrM.toList 0 _ W h (by simp [hMz, w32_length]) (fun v hv => by rw [hArrM] at hv; exact w32_one _ v (by simpa using hv))
    simpa using this)
  obtain ⟨arrS, hAS⟩ : ∃ a, a = (w32 s.list).toArray := ⟨_, rfl⟩
  rw [← hAS] at b1 hSz ⊢
  have HAS := Lib.hid hAS
  have B1 := Lib.hid b1
  clear hA hB hC b1 b2 b3 st sA sB sC hG2 hG3 hg1 hs T hMx hMx2 hSp lim ix hM hB0 hMf hArrM hArrW hBz hbl hbz hR hAS
  go_upto_region 1 with fail
  simp only [Act.put, List.setIfInBounds_toArray, List.set_cons_zero, List.set_cons_succ]
  go_cut [5] (fun s5 wx => ∃ g5, s5 = .pointer (some ⟨g5, 0, none⟩) ∧ wC.heap.size ≤ g5 ∧ Still wC wx ∧ wx.heap[g5]? = some (.cells arrM 48 (0, 0)))
  case first =>
    have RUN := fun (W : World) (g : Nat) (h : W.heap[g]? = some (.cells #[.int .u32 0, .int .u32 0, .int .u32 0, .int .u32 0, .int .u32 0, .int .u32 0, .int .u32 0, .int .u32 0] 48 (0, 0))) => setRow_heap W g _ arrM _ _ h
    go_wp2_with fail
    go_region_held3 (fun w' => (w'.cell? ⟨g1, 0, none⟩ = some (.int .u32 (s.a : Int)) ∧ w'.cell? ⟨g1, 1, none⟩ = some (.int .u32 (s.b : Int)) ∧ w'.cell? ⟨g1, 2, none⟩ = some (.int .u32 (s.c : Int)) ∧ w'.cell? ⟨g1, 3, none⟩ = some (.int .u32 (s.d : Int)) ∧ w'.cell? ⟨g1, 4, none⟩ = some (.int .u32 (s.e : Int)) ∧ w'.cell? ⟨g1, 5, none⟩ = some (.int .u32 (s.f : Int)) ∧ w'.cell? ⟨g1, 6, none⟩ = some (.int .u32 (s.g : Int)) ∧ w'.cell? ⟨g1, 7, none⟩ = some (.int .u32 (s.h : Int)) ∧ w'.rangeAt g2 0 bl)) (first | exact LM.out _ ((Still.refl _).drew) | exact LM.out _ (((Still.refl _).drew).alloc (Nat.le_refl _) _) | exact LM.out _ (s2'.alloc s2'.size _) | exact LM.out _ s2' | exact LM.out _ (s1'.alloc s1'.size _) | exact LM.out _ s1' | exact LM.out _ (below_setRow s2' (by first | exact zle | exact Nat.le_refl _) _) | exact LM.out _ (below_setRow (s2'.alloc s2'.size _) s2'.size _))
      (first
        | (go_at_call 41; refine (SP.out _).mono ?_; rintro e w1 ⟨rfl, s1⟩
           first
             | (have zz : w1.heap[wC.heap.size]? = some (.cells #[.int .u32 0, .int .u32 0, .int .u32 0, .int .u32 0, .int .u32 0, .int .u32 0, .int .u32 0, .int .u32 0] 48 (0, 0)) := (Below.block s1 wC.heap.size (by simp)).trans (heap_alloc_last wC.drew _)
                have zle : wC.heap.size ≤ wC.heap.size := Nat.le_refl _
                have s1' : Still wC w1 := Still.trans (((Still.refl wC).drew).alloc (Nat.le_refl _) _) s1)
             | have s1' : Still wC w1 := Still.trans ((Still.refl wC).drew) s1)
        | (go_at_call 40
           first
             | (refine (MX.out w1 (TT.out.still s1')).mono ?_; rintro e w2 ⟨rfl, s2⟩; have s2' : Still wC w2 := Still.trans s1' s2
                first
                  | (have zz2 : w2.heap[wC.heap.size]? = some (.cells #[.int .u32 0, .int .u32 0, .int .u32 0, .int .u32 0, .int .u32 0, .int .u32 0, .int .u32 0, .int .u32 0] 48 (0, 0)) := (Below.block s2 wC.heap.size ((Array.getElem?_eq_some_iff.1 zz).1)).trans zz
                     have hst : (storeCells ⟨wC.heap.size, 0, none⟩ arrM.toList 0).run Tryd.prog w2 = .ok () (w2.setRow wC.heap.size arrM) := stM.out w2 wC.heap.size zz2
                     have r5 := RUN w2 _ zz2)
                  | (have hst : (storeCells ⟨w2.heap.size, 0, none⟩ arrM.toList 0).run Tryd.prog (w2.alloc (.cells #[.int .u32 0, .int .u32 0, .int .u32 0, .int .u32 0, .int .u32 0, .int .u32 0, .int .u32 0, .int .u32 0] 48)) = .ok () ((w2.alloc (.cells #[.int .u32 0, .int .u32 0, .int .u32 0, .int .u32 0, .int .u32 0, .int .u32 0, .int .u32 0, .int .u32 0] 48)).setRow w2.heap.size arrM) := stM.out _ _ (heap_alloc_last w2 _)
                     have r5 := RUN _ _ (heap_alloc_last w2 (.cells #[.int .u32 0, .int .u32 0, .int .u32 0, .int .u32 0, .int .u32 0, .int .u32 0, .int .u32 0, .int .u32 0] 48))))
             | (refine (MX.out (w1.alloc _) (TT.out.still (s1'.alloc s1'.size _))).mono ?_; rintro e w2 ⟨rfl, s2⟩; have s2' : Still wC w2 := Still.trans (s1'.alloc s1'.size _) s2
                have zz2 : w2.heap[w1.heap.size]? = some (.cells #[.int .u32 0, .int .u32 0, .int .u32 0, .int .u32 0, .int .u32 0, .int .u32 0, .int .u32 0, .int .u32 0] 48 (0, 0)) := (Below.block s2 w1.heap.size (by simp)).trans (heap_alloc_last w1 _)
                have zle : wC.heap.size ≤ w1.heap.size := s1'.size
                have hst : (storeCells ⟨w1.heap.size, 0, none⟩ arrM.toList 0).run Tryd.prog w2 = .ok () (w2.setRow w1.heap.size arrM) := stM.out w2 w1.heap.size zz2
                have r5 := RUN w2 _ zz2)))
    all_goals
      go_wp2_with fail
      go_meet
      case rel => first
        | exact ⟨_, rfl, zle, below_setRow s2' zle _, r5⟩
        | exact ⟨_, rfl, s2'.size, below_setRow (s2'.alloc s2'.size _) s2'.size _, r5⟩
  case rest =>
    obtain ⟨g5, rfl, hg5, st5, b5⟩ := hcut
    go_upto_region 2 with fail
    refine wp_region_lit ?_
    refine wpList_load_row rfl 48 (.tmp 5) rfl g5 rfl _ _ _ _ b5 underState rfl (by rw [sizeState, hMz]) ?_
    have a1 : wc.heap[g1]? = some (.cells (w32 (addTo s.list M.list 0)).toArray 48 (0, 0)) := by
      rw [addTo_zero, ← HAS.out]
      exact (st5.block g1 (by have := SZ.out; omega)).trans B1.out
    have a3 : wc.heap[g3]? = some (.cells (w32 (List.replicate 8 0)).toArray 48 (0, 0)) := (st5.block g3 SZ.out.2.2.2).trans B3.out
    have stw := ST.out.trans st5
    have A1 := Lib.hid a1
    have A3 := Lib.hid a3
    have STW := Lib.hid stw
    clear a1 a3 stw st5 b5 hg5
    go_wp2_with fail
    go_loopw [13] (fun i wr => ∃ k : Nat, k ≤ 8 ∧ i = .int .i64 k ∧ Hid (wr.heap[g1]? = some (.cells (w32 (addTo s.list M.list k)).toArray 48 (0, 0)) ∧ wr.heap[g3]? = some (.cells (w32 (List.replicate 8 0)).toArray 48 (0, 0)) ∧ Still w wr)) (fun i _ => 8 - (intOf i).toNat)
    case atStart => exact ⟨0, by omega, rfl, A1.out, A3.out, STW.out⟩
    case round =>
      obtain ⟨k, hk, rfl, hin⟩ := hrel
      by_cases hlt : k < 8
      · have d1 : (k : Int) < 8 := by omega
        have d0 : (0 : Int) ≤ (k : Int) := by omega
        have ix := fun w => IX.out k w hlt
        have cc := cells_words wr g1 _ _ _ hin.out.1 k (by rw [addTo_length]; exact hlt)
        rw [addTo_get _ _ _ hlt] at cc
        have hfro : wr.frozen? ⟨g1, k, none⟩ = false := frozen_of_row wr g1 k _ _ hin.out.1
        have hnx := addTo_next s.list M.list k hlt
        generalize s.list.getD k 0 = x at *
        generalize M.list.getD k 0 = y at *
        have es : ((x : Int) + (y : Int)) % 4294967296 = (((x + y) % m32 : Nat) : Int) := by simp [m32]
        generalize (x + y) % m32 = z at *
        have HN := Lib.hid hnx
        have HK := Lib.hid hlt
        clear hnx hk hlt
        go_wp2_with fail
        go_roundw
        case rel =>
          have hk := HK.out
          refine ⟨k + 1, by omega, by go_num, ?_, ?_, ?_⟩
          · have h := heap_setCell_same wr g1 k _ _ (.int .u32 (z : Int)) hin.out.1
            simp only [List.setIfInBounds_toArray, w32_set, HN.out] at h
            exact h
          · exact (Below.heap_setCell _ _ _ _ (show g3 ≠ g1 by have := SZ.out; omega)).trans hin.out.2.1
          · exact Below.setCell hin.out.2.2 (p := ⟨g1, k, none⟩) (by have := SZ.out; simp; omega) _
        case measure => simp [intOf]; have := HK.out; omega
      · obtain rfl : k = 8 := by omega
        rw [show ((8 : Nat) : Int) = 8 from rfl]
        have a1 := hin.out.1
        rw [addTo_all] at a1
        have a3 := hin.out.2.1
        have st := hin.out.2.2
        have hle : w.heap.size ≤ g3 := by have := SZ.out; omega
        have hls : (w32 (s.add M).list).toArray.size = 8 := by simp [w32_length, S8.list_length]
        obtain ⟨L, hLe⟩ : ∃ L, L = (s.add M).list := ⟨_, rfl⟩
        rw [← hLe] at a1 hls
        have HLE := Lib.hid hLe
        clear hLe
        go_upto_region 7 with fail
        refine wp_region_lit ?_
        refine wpList_load_row rfl 48 (.tmp 2) rfl g1 rfl _ _ _ _ a1 underState rfl (by rw [sizeState, hls]) ?_
        refine wpList_store_rowTo rfl 48 (.tmp 4) (.tmp 24) rfl rfl g3 (w32 L).toArray rfl rfl 48 _ a3 (by rw [sizeState, hls]) (by rw [hls]; rfl) (w32_all _) ?_
        refine wpList_nil ?_
        have r2 : (wr.setRow g3 (w32 L).toArray).heap[g3]? = some (.cells (w32 L).toArray 48 (0, 0)) := setRow_heap wr g3 _ _ _ _ a3
        have st2 : Still w (wr.setRow g3 (w32 L).toArray) := below_setRow st hle _
        go_wp2_with fail
        refine bodyPost_ret (results_cell_row rfl _ _ g3 _ _ _ _ rfl r2 underState rfl (by rw [sizeState, hls])) rfl ?_
        exact ⟨congrArg (fun L => Ending.returned (Value.agg (w32 L).toArray)) HLE.out, st2⟩
end Go.Proofs.YtambpgfmnbkhdaaDoor
