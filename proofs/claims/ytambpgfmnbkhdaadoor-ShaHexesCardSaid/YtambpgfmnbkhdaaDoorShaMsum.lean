/- Contracts: a hasher's sum; a text's sum at once; whether anything is summed. It proves no statement. -/
import Derived.Test.YtambpgfmnbkhdaaDoorShaWrite
import Derived.Test.YtambpgfmnbkhdaaDoorShaRSum
namespace Go.Proofs.YtambpgfmnbkhdaaDoor
open Go.RowKit
set_option linter.unusedVariables false
set_option linter.unusedSimpArgs false

theorem shSum_length (l : List UInt8) : (shSum l).length = 32 := by
  unfold shSum
  rw [idB_length, S8.list_length]

set_option maxRecDepth 100000 in
set_option maxHeartbeats 1600000 in
theorem msum_any (g : Nat) (l : List UInt8) (w : World) (T : Tabs w) (h : Had w g l) (hl : l.length ≤ 35184372088832) :
    Calls Tryd.prog 18 #[.pointer (some ⟨g, 0, none⟩)] w fun e w' => e = .returned (.agg (bytesV (shSum l)).toArray) ∧ Still w w' := by
  obtain ⟨wA, hwA⟩ : ∃ x, x = w.alloc (.cells (bytesV (List.replicate 32 0)).toArray 26) := ⟨_, rfl⟩
  have sA : Still w wA := by rw [hwA]; exact (Still.refl w).alloc (Nat.le_refl _) _
  have aA : Arr wA w.heap.size (List.replicate 32 0) := by rw [hwA]; exact Arr.new _ _
  have hA := h.still sA
  obtain ⟨R, hb, h2, h3⟩ := hA
  have k := Lib.hid (works_yes g _ _ R wA hb)
  have hc := hcells_length (shRun sh0 l (l.length / 64)) R l.length hb.len
  have h1 := hcells_one (shRun sh0 l (l.length / 64)) R l.length
  obtain ⟨cs, hcs⟩ : ∃ cs, cs = hcells (shRun sh0 l (l.length / 64)) R l.length := ⟨_, rfl⟩
  have hbl := hb.blk
  have cz := hb.sizec
  rw [← hcs] at hc h1 hbl
  obtain ⟨wB', hwB⟩ : ∃ x, x = wA.alloc (.cells cs.toArray 51) := ⟨_, rfl⟩
  have sB : Still wA wB' := by rw [hwB]; exact (Still.refl wA).alloc (Nat.le_refl _) _
  have hdB : Had wB' wA.heap.size l := by
    refine ⟨R, ⟨?_, hb.len⟩, h2, h3⟩
    rw [← hcs, hwB]
    exact heap_alloc_last wA _
  obtain ⟨n, hn⟩ : ∃ n, n = l.length := ⟨_, rfl⟩
  have hrun : shSum l = idB (shRun sh0 (l ++ shEnd n) ((l ++ shEnd n).length / 64)).list := by rw [hn]; rfl
  have hmod : (l ++ shEnd n).length % 64 = 0 := by rw [hn]; exact pad_mod l
  have hel : (shEnd n).length ≤ 72 := by rw [shEnd_length]; omega
  rw [← hn] at cz hl
  have czB : wB'.cell? ⟨g, 72, none⟩ = some (.int .i64 (n : Int)) := (sB.cell (p := ⟨g, 72, none⟩) hb.lt).trans cz
  have END := Lib.hid (ending_any n wB' (by omega))
  have TB := (T.still sA).still sB
  have hlt : w.heap.size < wA.heap.size := aA.lt
  have HBL := Lib.hid hbl
  have H1 := Lib.hid h1
  have HDB := Lib.hid hdB
  have AB := Lib.hid (aA.still sB)
  have SA := Lib.hid sA
  have SB := Lib.hid sB
  have TB := Lib.hid TB
  have HN := Lib.hid hn
  have HRUN := Lib.hid hrun
  have HMOD := Lib.hid hmod
  obtain ⟨fs, hfs⟩ := isRowHasher
  have HFS := Lib.hid hfs
  obtain ⟨g3, hg3⟩ : ∃ x, x = wA.heap.size := ⟨_, rfl⟩
  rw [← hg3] at HDB hlt
  obtain ⟨D, hD⟩ : ∃ D, D = shSum l := ⟨_, rfl⟩
  rw [← hD]
  have HD := Lib.hid hD
  have HD32 := Lib.hid (show D.length = 32 by rw [hD]; exact shSum_length l)
  clear hb hcs hbl h1 h2 hfs hdB aA sA sB T h hn hrun hmod hD
  go_enter Tryd.func18, Tryd.ntmps18
  go_upto_region 0 with fail
  refine wp_region_lit ?_
  refine wpList_alloc_arr rfl 26 rfl (some 2) rfl _ _ zero32 ?_
  rw [← hwA]
  refine wpList_nil ?_
  clear hwA
  go_upto_region 3 with (go_at_call 31; refine k.out.mono ?_; rintro e w1 ⟨rfl, rfl⟩)
  refine wp_region_lit ?_
  go_wp2_with (first
    | (guard_target =~ wpList _ _ _ (Oper.mk (some 10) _ _ _ _ _ :: _) _ _
       refine wpList_load_row rfl 51 (.tmp 9) rfl g rfl _ _ _ _ HBL.out HFS.out rfl (by rw [sizeHasher]; simp [hc]) ?_
       refine wpList_alloc_arr rfl 51 rfl (some 3) rfl _ _ zeroHasher ?_
       refine wpList_store_rowTo rfl 51 (.tmp 3) (.tmp 10) rfl rfl wA.heap.size cs.toArray rfl rfl 51 _ (heap_alloc_last wA _) (by rw [sizeHasher]; simp [hc]) (by simp [hc, hzero, w32, bytesV]) H1.out ?_
       rw [World.setRow_alloc_new, ← hwB, ← hg3]
       clear hwB hg3
       refine wpList_nil ?_))
  refine END.out.mono ?_
  rintro e w2 ⟨⟨v2, rfl, own2⟩, s2⟩
  obtain ⟨A2, c2, rfl, f1, f2, f3⟩ := own_form own2
  have q2 := Reads.of_own own2
  have far2 := far_own own2 HDB.out.lt
  have hd2 := HDB.out.still s2
  have W := Lib.hid (write_any g3 l (shEnd n) A2 _ c2 w2 _ (TB.out.still s2) hd2 q2 f1 f2 far2 (by have := HN.out; omega))
  have S2 := Lib.hid (SB.out.trans s2)
  have A2h := Lib.hid (AB.out.still s2)
  have T2 := Lib.hid (TB.out.still s2)
  clear own2 q2 far2 hd2 s2 f1 f2 f3 czB
  go_wp2_with fail
  refine W.out.mono ?_
  rintro e w3 ⟨rfl, hd3, gr3⟩
  have s3 : Still w w3 := still_grown (SA.out.trans S2.out) gr3 (by omega)
  have a3 : Arr w3 w.heap.size (List.replicate 32 0) := A2h.out.grown gr3 (by omega)
  obtain ⟨R3, hb3, _, _⟩ := hd3
  have hst3 := hb3.statec
  obtain ⟨S3, hS3⟩ : ∃ S, S = shRun sh0 (l ++ shEnd n) ((l ++ shEnd n).length / 64) := ⟨_, rfl⟩
  rw [← hS3] at hst3
  have hf3 : S3.Fit := by rw [hS3]; exact shRun_fit sh0_fit _ _
  have hDe : idB S3.list = D := by rw [HD.out, HRUN.out, hS3]
  have ID := Lib.hid (id_any S3.list w3 rfl (S8.list_lt hf3))
  rw [hDe] at ID
  have c0 : w3.cell? ⟨g3, 0, none⟩ = some (.int .u32 (S3.a : Int)) := hst3 0 (by omega)
  have c1 : w3.cell? ⟨g3, 1, none⟩ = some (.int .u32 (S3.b : Int)) := hst3 1 (by omega)
  have c2' : w3.cell? ⟨g3, 2, none⟩ = some (.int .u32 (S3.c : Int)) := hst3 2 (by omega)
  have c3 : w3.cell? ⟨g3, 3, none⟩ = some (.int .u32 (S3.d : Int)) := hst3 3 (by omega)
  have c4 : w3.cell? ⟨g3, 4, none⟩ = some (.int .u32 (S3.e : Int)) := hst3 4 (by omega)
  have c5 : w3.cell? ⟨g3, 5, none⟩ = some (.int .u32 (S3.f : Int)) := hst3 5 (by omega)
  have c6 : w3.cell? ⟨g3, 6, none⟩ = some (.int .u32 (S3.g : Int)) := hst3 6 (by omega)
  have c7 : w3.cell? ⟨g3, 7, none⟩ = some (.int .u32 (S3.h : Int)) := hst3 7 (by omega)
  have ID2 : Calls Tryd.prog 34 #[.agg #[.int .u32 (S3.a : Int), .int .u32 (S3.b : Int), .int .u32 (S3.c : Int), .int .u32 (S3.d : Int), .int .u32 (S3.e : Int), .int .u32 (S3.f : Int), .int .u32 (S3.g : Int), .int .u32 (S3.h : Int)]] w3 fun e w' => e = .returned (.agg (bytesV D).toArray) ∧ Still w3 w' := ID.out
  have hDs : (bytesV D).toArray.size = 32 := by simp [bytesV_length, HD32.out]
  have ID2 := Lib.hid ID2
  have S3h := Lib.hid s3
  have A3h := Lib.hid a3
  have HDS := Lib.hid hDs
  obtain ⟨darr, hdarr⟩ : ∃ d, d = (bytesV D).toArray := ⟨_, rfl⟩
  rw [← hdarr] at ID2 HDS
  have HDA := Lib.hid hdarr
  clear hb3 hst3 hS3 hf3 hDe ID gr3 W s3 a3 hDs hdarr
  go_wp2_with fail
  refine ID2.out.mono ?_
  rintro e w4 ⟨rfl, s4⟩
  have a4 := A3h.out.still s4
  have st4 := S3h.out.trans s4
  go_wp2_with (refine wpList_store_rowTo rfl 26 (.tmp 2) (.tmp 19) rfl rfl w.heap.size darr rfl rfl 26 _ a4 (by rw [size32, HDS.out]) (by rw [HDS.out]; rfl) (by rw [HDA.out]; exact bytes_all _) ?_)
  have r2 : Arr (w4.setRow w.heap.size darr) w.heap.size D := by rw [HDA.out]; exact setRow_heap w4 _ _ _ _ _ a4
  have st2 : Still w (w4.setRow w.heap.size darr) := below_setRow st4 (Nat.le_refl _) _
  refine bodyPost_ret (results_arr rfl _ _ w.heap.size D rfl r2 HD32.out) rfl ?_
  exact ⟨rfl, st2⟩
end Go.Proofs.YtambpgfmnbkhdaaDoor
