/- Contract: a text of digits read, by the document's own answer. It proves no statement. -/
import Derived.Test.YtambpgfmnbkhdaaDoorShaFromMath
import Derived.Test.YtambpgfmnbkhdaaDoorShaSpread
import Derived.Laws.ResultCell
import Derived.StillTailTactics
namespace Go.Proofs.YtambpgfmnbkhdaaDoor
open Go.RowKit
set_option linter.unusedVariables false
set_option linter.unusedSimpArgs false

/-- The 32 bytes behind k digits. -/
def accL (l : List UInt8) : Nat → List UInt8
  | 0 => List.replicate 32 0
  | k + 1 => (accL l k).set (k / 2) (UInt8.ofNat (((accL l k).getD (k / 2) 0).toNat * 16 + nbL l k))
theorem accL_length (l : List UInt8) (k : Nat) : (accL l k).length = 32 := by
  induction k with
  | zero => simp [accL]
  | succ k ih => simp [accL, ih]
theorem nbL_le (l : List UInt8) (j : Nat) : nbL l j ≤ 16 := nb_le _
theorem accL_get (l : List UInt8) (k : Nat) (hk : k ≤ 64) (j : Nat) (hj : j < 32) :
    (accL l k).getD j 0 = if 2 * j + 1 < k then sbL l j else if 2 * j < k then UInt8.ofNat (nbL l (2 * j)) else 0 := by
  induction k with
  | zero =>
    rw [if_neg (by omega), if_neg (by omega)]
    exact (show ∀ j < 32, (List.replicate 32 (0 : UInt8)).getD j 0 = 0 by decide +kernel) j hj
  | succ k ih =>
    have ih := ih (by omega)
    have hl := accL_length l k
    by_cases hkj : k / 2 = j
    · have hset : (accL l (k + 1)).getD j 0 = UInt8.ofNat (((accL l k).getD j 0).toNat * 16 + nbL l k) := by
        rw [accL, hkj]
        simp [List.getD, List.getElem?_set, hl, hj]
      rw [hset, ih, if_neg (by omega)]
      by_cases hp : k % 2 = 0
      · rw [if_neg (by omega), if_neg (by omega), if_pos (by omega), show 2 * j = k by omega]
        simp
      · rw [if_pos (by omega), if_pos (by omega)]
        unfold sbL
        rw [show 2 * j + 1 = k by omega]
        have h16 := nbL_le l (2 * j)
        rw [UInt8.toNat_ofNat', show nbL l (2 * j) % 2 ^ 8 = nbL l (2 * j) by omega]
    · have hset : (accL l (k + 1)).getD j 0 = (accL l k).getD j 0 := by
        rw [accL]
        simp [List.getD, List.getElem?_set, hkj]
      rw [hset, ih]
      by_cases h1 : 2 * j + 1 < k
      · rw [if_pos h1, if_pos (by omega)]
      · by_cases h2 : 2 * j < k
        · omega
        · rw [if_neg h1, if_neg h2, if_neg (by omega), if_neg (by omega)]
theorem accL_all (l : List UInt8) : accL l 64 = (List.range 32).map (sbL l) := by
  apply List.ext_getElem
  · simp [accL_length]
  · intro j h1 h2
    have hj : j < 32 := by simpa using h2
    have h := accL_get l 64 (by omega) j hj
    rw [if_pos (by omega)] at h
    rw [List.getElem_map, List.getElem_range, ← h]
    simp [List.getD, h1]
theorem goodL_of (l : List UInt8) (h : ∀ j < 64, nbL l j ≠ 16) : goodL l = true := by
  unfold goodL
  rw [List.all_eq_true]
  intro j hj
  have := h j (List.mem_range.1 hj)
  simpa using this
theorem goodL_not (l : List UInt8) (k : Nat) (hk : k < 64) (h : nbL l k = 16) : goodL l = false := by
  rw [Bool.eq_false_iff]
  intro hg
  unfold goodL at hg
  rw [List.all_eq_true] at hg
  have := hg k (List.mem_range.2 hk)
  simp [h] at this
theorem results_arr2 {fn : Func} {p u : Tmp} (h : fn.results = #[.cell p 26, .tmp u]) (tmps : Array Value) (w : World) (g : Nat) (D : List UInt8) (hp : tmps.getD p undef = .pointer (some ⟨g, 0, none⟩)) (hg : Arr w g D) (hD : D.length = 32) (b : Bool) (hb : tmps.getD u undef = .bool b) :
    (results fn tmps).run Tryd.prog w = .ok (.tuple #[.agg (bytesV D).toArray, .bool b]) w := by
  rw [results_cell_tmp h, hp, hb]
  simp only [asAddr, Sem.run_pure, Result.andThen_ok, run_loadVar_row w g _ 26 _ _ _ hg under32 rfl (by rw [size32]; simp [bytesV, hD])]
theorem byte_all (l : List UInt8) : (bytesV l).toArray.all (·.oneCell') = true := by
  rw [Array.all_eq_true_iff_forall_mem]
  intro v hv
  exact bytesV_one l v (by simpa using hv)

/-- The end of either function: what it says of a text. -/
def Told (l : List UInt8) (w : World) (e : Ending) (w' : World) : Prop := e = .returned (.tuple #[.agg (bytesV (fromL l)).toArray, .bool (isL l)]) ∧ Still w w'
theorem told_bad {l : List UInt8} {w w' : World} (h : isL l = false) (s : Still w w') : Told l w (.returned (.tuple #[.agg (bytesV (List.replicate 32 0)).toArray, .bool false])) w' := by
  unfold Told
  rw [fromL_bad l h, h]
  exact ⟨rfl, s⟩
theorem told_good {l : List UInt8} {w w' : World} (h : l.length = 64) (g : goodL l = true) (s : Still w w') : Told l w (.returned (.tuple #[.agg (bytesV ((List.range 32).map (sbL l))).toArray, .bool true])) w' := by
  unfold Told fromL isL
  rw [if_pos ⟨h, g⟩, h, g]
  exact ⟨rfl, s⟩
/-- A byte of the text. -/
theorem index_text (s : ByteArray) (w : World) (k : Nat) (h : k < s.size) : (Instr.index 9 (.string s) (.int .i64 (k : Int))).run Tryd.prog w = .ok (.int .u8 ((s.data.toList.getD k 0).toNat : Int)) w := by
  rw [run_index_string w 9 s .i64 (k : Int) (by kernel_rfl), dif_pos ⟨by omega, by omega⟩]
  congr 3
  simp only [List.getD, Array.getElem?_toList]
  rw [Array.getElem?_eq_getElem (show k < s.data.size from h)]
  rfl

set_option maxRecDepth 100000 in
set_option maxHeartbeats 800000 in
theorem rfrom_any (s : ByteArray) (w : World) :
    Calls Tryd.prog 23 #[.string s] w (Told s.data.toList w) := by
  obtain ⟨l, hl⟩ : ∃ l, l = s.data.toList := ⟨_, rfl⟩
  have hls : l.length = s.size := by rw [hl]; simp
  have hix : ∀ (k : Nat) (w : World), k < s.size → (Instr.index 9 (.string s) (.int .i64 (k : Int))).run Tryd.prog w = .ok (.int .u8 ((l.getD k 0).toNat : Int)) w := fun k w h => by rw [hl]; exact index_text s w k h
  rw [← hl]
  obtain ⟨Z, hZ⟩ : ∃ Z : List UInt8, Z = List.replicate 32 0 := ⟨_, rfl⟩
  have hZl : Z.length = 32 := by rw [hZ]; rfl
  obtain ⟨zarr, hzarr⟩ : ∃ z, z = (bytesV Z).toArray := ⟨_, rfl⟩
  have hzs : zarr.size = 32 := by rw [hzarr]; simp [bytesV_length, hZl]
  have hzall := byte_all Z
  rw [← hzarr] at hzall
  have hbt : Tryd.prog.built 26 [] = some zarr := by rw [hzarr, hZ]; kernel_rfl
  obtain ⟨wA, hA⟩ : ∃ x, x = w.alloc (.cells (bytesV (List.replicate 32 0)).toArray 26) := ⟨_, rfl⟩
  obtain ⟨wB, hB⟩ : ∃ x, x = wA.alloc (.cells (bytesV (List.replicate 32 0)).toArray 26) := ⟨_, rfl⟩
  have sA : wA.heap.size = w.heap.size + 1 := by rw [hA]; simp
  have sB : wB.heap.size = w.heap.size + 2 := by rw [hB]; simp [sA]
  have b2 : Arr wB w.heap.size Z := by
    rw [hZ]; unfold Arr
    rw [hB, heap_alloc_old _ _ (by omega), hA]
    exact heap_alloc_last w _
  have b4 : Arr wB wA.heap.size Z := by rw [hZ, hB]; exact Arr.new _ _
  have st : Still w wB := by
    rw [hB, hA]
    exact ((Still.refl w).alloc (Nat.le_refl _) _).alloc (by simp) _
  have z32 := zero32
  rw [← hZ, ← hzarr] at z32
  rw [← hZ, ← hzarr] at hA hB
  have b2' : wB.heap[w.heap.size]? = some (.cells zarr 26 (0, 0)) := by rw [hzarr]; exact b2
  have b4' : wB.heap[wA.heap.size]? = some (.cells zarr 26 (0, 0)) := by rw [hzarr]; exact b4
  generalize hG4 : wA.heap.size = g4 at *
  have HA := Lib.hid hA
  have HB := Lib.hid hB
  have HG4 := Lib.hid hG4
  have IX := Lib.hid hix
  have LS := Lib.hid hls
  have HZ := Lib.hid hZ
  have HZA := Lib.hid hzarr
  have ZS := Lib.hid hzs
  have ZALL := Lib.hid hzall
  have BT := Lib.hid hbt
  have Z32 := Lib.hid z32
  have B2 := Lib.hid b2'
  have B4 := Lib.hid b4'
  have A2 := Lib.hid b2
  have A4 := Lib.hid b4
  have ST := Lib.hid st
  have SZ := Lib.hid (show w.heap.size < g4 ∧ g4 < wB.heap.size by omega)
  clear hA hB hG4 hix hls hl hZ hzarr hzs hzall hbt z32 b2' b4' b2 b4 st sA sB hZl
  go_enter Tryd.func23, Tryd.ntmps23
  go_upto_region 0 with fail
  refine wp_region_lit ?_
  refine wpList_alloc_arr rfl 26 rfl (some 2) rfl _ _ Z32.out ?_
  rw [← HA.out]
  go_upto_region 1 with fail
  refine wp_region_lit ?_
  refine wpList_alloc_arr rfl 26 rfl (some 4) rfl _ _ Z32.out ?_
  rw [← HB.out, HG4.out]
  clear HA HB HG4
  by_cases h64 : s.size = 64
  · have h64' : ((s.size : Int) = 64) := by omega
    have hlt64 : ∀ k : Nat, k < 64 → k < s.size := by omega
    have HLT := Lib.hid hlt64
    have LS64 := Lib.hid (show l.length = 64 from LS.out.trans h64)
    clear hlt64 h64
    go_wp2_with fail
    go_loopw [5] (fun i wr => ∃ k : Nat, k ≤ 64 ∧ i = .int .i64 k ∧ Hid (∀ j < k, nbL l j ≠ 16) ∧ Hid (Arr wr g4 (accL l k) ∧ Arr wr w.heap.size Z ∧ Still w wr)) (fun i _ => 64 - (intOf i).toNat)
    case atStart => exact ⟨0, by omega, rfl, Lib.hid (fun j hj => by omega), by show Arr _ _ (List.replicate 32 0); rw [← HZ.out]; exact A4.out, A2.out, ST.out⟩
    case round =>
      obtain ⟨k, hk, rfl, hno, hin⟩ := hrel
      by_cases hlt : k < 64
      · have d1 : (k : Int) < 64 := by omega
        have ix := fun w => IX.out k w (HLT.out k hlt)
        have hnb : nbL l k = nb (l.getD k 0).toNat := rfl
        have hclt := (l.getD k 0).toNat_lt
        generalize (l.getD k 0).toNat = c at *
        have NB := Lib.hid (fun w => nibble_any c hclt w)
        rw [← hnb] at NB
        have hb16 := nbL_le l k
        obtain ⟨b, hb⟩ : ∃ b, b = nbL l k := ⟨_, rfl⟩
        rw [← hb] at NB hb16
        have HB := Lib.hid hb
        have HK := Lib.hid hlt
        clear hb hnb hk hlt hclt
        by_cases hbad : b = 16
        · have hbad' : (b : Int) = 16 := by omega
          have W2 : wr.heap[w.heap.size]? = some (.cells zarr 26 (0, 0)) := by rw [HZA.out]; exact hin.out.2.1
          have r2 : Arr (wr.setRow w.heap.size zarr) w.heap.size Z := by rw [HZA.out]; exact setRow_heap wr _ _ _ _ _ hin.out.2.1
          have st2 : Still w (wr.setRow w.heap.size zarr) := below_setRow hin.out.2.2 (Nat.le_refl _) _
          have GB := Lib.hid (show isL l = false by unfold isL; rw [goodL_not l k HK.out (HB.out.symm.trans hbad), Bool.and_false])
          have W2H := Lib.hid W2
          have R2 := Lib.hid r2
          have ST2 := Lib.hid st2
          clear W2 r2 st2 hin hno hbad hb16
          go_upto_region 8 with (go_at_call 36; refine (NB.out _).mono ?_; rintro e w1 ⟨rfl, rfl⟩)
          refine wp_region_lit ?_
          refine wpList_buildTo rfl 26 _ rfl (some 19) rfl zarr (by simp only [List.map_toArray, List.map_cons, List.map_nil]; exact BT.out) ?_
          refine wpList_store_rowTo rfl 26 (.tmp 2) (.tmp 19) rfl rfl w.heap.size zarr rfl rfl 26 _ W2H.out (by rw [size32, ZS.out]) (by rw [ZS.out]) ZALL.out ?_
          go_wp2_with fail
          (try simp only [Exit.inBlock, Exit.then])
          refine bodyPost_ret (results_arr2 rfl _ _ w.heap.size Z rfl R2.out (by rw [HZ.out]; rfl) false rfl) rfl ?_
          rw [HZ.out]
          exact told_bad GB.out ST2.out
        · have hbad' : ¬ ((b : Int) = 16) := by omega
          obtain ⟨q, hq⟩ : ∃ q, q = k / 2 := ⟨_, rfl⟩
          have e1 : (k : Int) / 2 = (q : Int) := by omega
          have hq32 : q < 32 := by have := HK.out; omega
          have hget := accL_get l k (by have := HK.out; omega) q hq32
          have hx15 : ((accL l k).getD q 0).toNat ≤ 15 := by
            rw [hget, if_neg (by omega)]
            by_cases h2 : 2 * q < k
            · rw [if_pos h2, UInt8.toNat_ofNat']
              have := hno.out (2 * q) h2
              have := nbL_le l (2 * q)
              omega
            · rw [if_neg h2]; decide
          have hcell := hin.out.1.cell q (by rw [accL_length]; exact hq32)
          have hfro := hin.out.1.frozen q
          have hnx : accL l (k + 1) = (accL l k).set q (UInt8.ofNat (((accL l k).getD q 0).toNat * 16 + b)) := by rw [HB.out, hq]; rfl
          have hnew := hin.out.1.set q (UInt8.ofNat (((accL l k).getD q 0).toNat * 16 + b))
          rw [← hnx] at hnew
          have hv : ((UInt8.ofNat (((accL l k).getD q 0).toNat * 16 + b)).toNat : Int) = (((accL l k).getD q 0).toNat : Int) * 16 + (b : Int) := by
            rw [UInt8.toNat_ofNat']; omega
          rw [hv] at hnew
          generalize ((accL l k).getD q 0).toNat = x at *
          have e2 : IntKind.u8.wrap ((x : Int) * 16) = (x : Int) * 16 := by rw [IntKind.wrap_u8]; omega
          have e3 : IntKind.u8.wrap (b : Int) = (b : Int) := by rw [IntKind.wrap_u8]; omega
          have e4 : IntKind.u8.wrap ((x : Int) * 16 + (b : Int)) = (x : Int) * 16 + (b : Int) := by rw [IntKind.wrap_u8]; omega
          have d3 : (0 : Int) ≤ (q : Int) := by omega
          have d4 : (q : Int) < 32 := by omega
          have hne : w.heap.size ≠ g4 := by have := SZ.out; omega
          have n2 : Arr (wr.setCell ⟨g4, q, none⟩ (.int .u8 ((x : Int) * 16 + (b : Int)))) w.heap.size Z := by
            unfold Arr
            rw [heap_setCell_other _ _ _ _ (by exact hne)]
            exact hin.out.2.1
          have n3 : Still w (wr.setCell ⟨g4, q, none⟩ (.int .u8 ((x : Int) * 16 + (b : Int)))) := Below.setCell hin.out.2.2 (by have := SZ.out; simp; omega) _
          have NEW := Lib.hid hnew
          have N2 := Lib.hid n2
          have N3 := Lib.hid n3
          have NBQ := Lib.hid (fun w => (NB.out w).mono fun e w' h => (⟨h.1, h.2.symm⟩ : e = Ending.returned (.int .i64 (b : Int)) ∧ w = w'))
          have HNO := hno
          have HBAD := Lib.hid hbad
          clear hnew n2 n3 hget hv hnx hin hx15 hb16 hq hne hq32 hno hbad
          have e5 : IntKind.i64.wrap (q : Int) = (q : Int) := by rw [IntKind.wrap_i64]; omega
          go_upto_region 9 with (go_at_call 36; refine (NBQ.out _).mono ?_; rintro e w1 ⟨rfl, rfl⟩)
          have NBD := Lib.hid ((NB.out wr.drew).mono fun e w' h => (⟨h.1, h.2⟩ : e = Ending.returned (.int .i64 (b : Int)) ∧ w' = wr.drew))
          clear NB NBQ
          go_still_tail 14, (by kernel_rfl)
          still_call NBD.out
          repeat still_step
          refine wpStill_nil ?_
          change wpList _ _ _ _ _ wr.drew
          go_wp2_with fail
          go_roundw
          case rel =>
            refine ⟨k + 1, by have := HK.out; omega, by go_num, Lib.hid (fun j hj => ?_), ?_, ?_, ?_⟩
            · by_cases h : j = k
              · subst h; rw [← HB.out]; exact HBAD.out
              · exact HNO.out j (by omega)
            · exact NEW.out
            · exact N2.out
            · exact N3.out.drew
          case measure => simp [intOf]; have := HK.out; omega
      · obtain rfl : k = 64 := by omega
        rw [show ((64 : Nat) : Int) = 64 from rfl]
        have hall := accL_all l
        obtain ⟨D, hD⟩ : ∃ D, D = accL l 64 := ⟨_, rfl⟩
        have hDl : D.length = 32 := by rw [hD]; exact accL_length _ _
        have a4 := hin.out.1
        rw [← hD] at a4 hall
        obtain ⟨darr, hda⟩ : ∃ d, d = (bytesV D).toArray := ⟨_, rfl⟩
        have hds : darr.size = 32 := by rw [hda]; simp [bytesV_length, hDl]
        have hdall := byte_all D
        rw [← hda] at hdall
        have a4' : wr.heap[g4]? = some (.cells darr 26 (0, 0)) := by rw [hda]; exact a4
        have W2 : wr.heap[w.heap.size]? = some (.cells zarr 26 (0, 0)) := by rw [HZA.out]; exact hin.out.2.1
        have r2 : Arr (wr.setRow w.heap.size darr) w.heap.size D := by rw [hda]; exact setRow_heap wr _ _ _ _ _ hin.out.2.1
        have st2 : Still w (wr.setRow w.heap.size darr) := below_setRow hin.out.2.2 (Nat.le_refl _) _
        have GG := Lib.hid (goodL_of l hno.out)
        have A4' := Lib.hid a4'
        have W2H := Lib.hid W2
        have R2 := Lib.hid r2
        have ST2 := Lib.hid st2
        have DS := Lib.hid hds
        have DALL := Lib.hid hdall
        have HALL := Lib.hid hall
        have HDL := Lib.hid hDl
        clear a4 a4' W2 r2 st2 hds hdall hall hin hno hD hda hDl
        go_upto_region 10 with fail
        refine wp_region_lit ?_
        refine wpList_load_row rfl 26 (.tmp 4) rfl g4 rfl _ _ _ _ A4'.out under32 rfl (by rw [size32, DS.out]) ?_
        refine wpList_store_rowTo rfl 26 (.tmp 2) (.tmp 34) rfl rfl w.heap.size darr rfl rfl 26 _ W2H.out (by rw [size32, DS.out]) (by rw [DS.out, ZS.out]) DALL.out ?_
        go_wp2_with fail
        refine bodyPost_ret (results_arr2 rfl _ _ w.heap.size D rfl R2.out HDL.out true rfl) rfl ?_
        rw [HALL.out]
        exact told_good LS64.out GG.out ST2.out
  · have hne : ¬ ((s.size : Int) = 64) := by omega
    have r2 : Arr (wB.setRow w.heap.size zarr) w.heap.size Z := by rw [HZA.out]; exact setRow_heap wB _ _ _ _ _ A2.out
    have st2 : Still w (wB.setRow w.heap.size zarr) := below_setRow ST.out (Nat.le_refl _) _
    have GB := Lib.hid (show isL l = false by unfold isL; rw [show (l.length == 64) = false by rw [LS.out]; simpa using h64]; rfl)
    have R2 := Lib.hid r2
    have ST2 := Lib.hid st2
    clear r2 st2 h64
    go_upto_region 3 with fail
    refine wp_region_lit ?_
    refine wpList_load_row rfl 26 (.tmp 4) rfl g4 rfl _ _ _ _ B4.out under32 rfl (by rw [size32, ZS.out]) ?_
    refine wpList_store_rowTo rfl 26 (.tmp 2) (.tmp 9) rfl rfl w.heap.size zarr rfl rfl 26 _ B2.out (by rw [size32, ZS.out]) (by rw [ZS.out]) ZALL.out ?_
    go_wp2_with fail
    (try simp only [Exit.inBlock, Exit.then])
    refine bodyPost_ret (results_arr2 rfl _ _ w.heap.size Z rfl R2.out (by rw [HZ.out]; rfl) false rfl) rfl ?_
    rw [HZ.out]
    exact told_bad GB.out ST2.out
end Go.Proofs.YtambpgfmnbkhdaaDoor
