/- Contracts and facts, several texts in one. It proves no statement. -/
import Derived.Test.YtfneloobfidckaaGreatDoorSf29
import Derived.StillTailTactics
import Derived.Deep.Upon
import Derived.Laws.Cover3
import Derived.Laws.CopyOwn

/- The entry that bytes say, and frame.Read. It proves no statement. -/





namespace Go.Proofs.YtfneloobfidckaaGreatDoor
open Go.RowKit
set_option linter.unusedVariables false
set_option linter.unusedSimpArgs false

theorem zentA (t : Int) : #[.int .i64 t, .int .u8 0, .int .u8 0, .int .u8 0, .int .u8 0, .int .u8 0, .int .u8 0, .int .u8 0, .int .u8 0, .int .u8 0, .int .u8 0, .int .u8 0, .int .u8 0, .int .u8 0, .int .u8 0, .int .u8 0, .int .u8 0, .int .u8 0, .int .u8 0, .int .u8 0, .int .u8 0, .int .u8 0, .int .u8 0, .int .u8 0, .int .u8 0, .int .u8 0, .int .u8 0, .int .u8 0, .int .u8 0, .int .u8 0, .int .u8 0, .int .u8 0, .int .u8 0, .slice none 0 0] = entV t (List.replicate 32 0) (.slice none 0 0) := rfl
theorem setCells_blk {g : Nat} {T : TypeId} : ∀ (vs : List Value) (o : Nat) (w : World) (arr : Array Value), Blk w g T arr → ∃ arr', Blk (w.setCells g o vs) g T arr' ∧ arr'.size = arr.size
  | [], o, w, arr, h => ⟨arr, h, rfl⟩
  | v :: r, o, w, arr, h => by
    obtain ⟨arr', h1, h2⟩ := setCells_blk r (o + 1) (w.setCell ⟨g, o, none⟩ v) _ (h.setc o v)
    exact ⟨arr', h1, by rw [h2]; simp⟩
theorem grown_set1 {w w' : World} {g i : Nat} {u : Value} (gr : w.grownBy w' (some g)) : w.grownBy (w'.setCell ⟨g, i, none⟩ u) (some g) :=
  ⟨gr.os, gr.tape, gr.output, by simpa [World.setCell] using gr.size, fun k hk hne => (Below.heap_setCell _ _ _ k (fun e => hne (by simp only at e; rw [e]))).trans (gr.block k hk hne)⟩
theorem grown_setCells {g : Nat} : ∀ (vs : List Value) (o : Nat) (w w' : World), w.grownBy w' (some g) → w.grownBy (w'.setCells g o vs) (some g)
  | [], o, w, w', h => h
  | v :: r, o, w, w', h => grown_setCells r (o + 1) w (w'.setCell ⟨g, o, none⟩ v) (grown_set1 h)

theorem storeVar_cell0F (P : Program) (e : TypeId) (hi : (P.info? e).map (·.size) = some 1) (a : Addr) (v o : Value) (hv : v.oneCell' = true) (w : World) (hc : w.cell? a = some o) (hf : w.frozen? a = false) :
    (storeVar e a v).run P w = .ok () (w.setCell a v) := by
  have h1 : v.cells = #[v] := by cases v <;> first | rfl | simp [Value.oneCell'] at hv
  cases hq : P.info? e with
  | none => simp [hq] at hi
  | some i =>
    have hs : i.size = 1 := by simpa [hq] using hi
    simp [storeVar, h1, sizeOf, typeInfo, hq, hs, storeCells, run_store P _ _ v _ hv, Addr.add_zero', hc, hf, Result.andThen]
theorem wpList_store_cell0 {P : Program} {ops : Array Oper} {rest : List Oper} {op : Oper} {a : Act} {w : World} {Q : Exit → Act → World → Prop} (hgd : op.guard = none) (ty : TypeId) (x y : Operand) (ho : op.op = .store ty x y) (hd : op.dst = none)
    (b i : Nat) (v old : Value) (hx : a.eval x = .pointer (some ⟨b, i, none⟩)) (hy : a.eval y = v) (hv : v.oneCell' = true) (hi : (P.info? ty).map (·.size) = some 1) (hc : w.cell? ⟨b, i, none⟩ = some old) (hf : w.frozen? ⟨b, i, none⟩ = false)
    (h : wpList P ops Q rest a (w.setCell ⟨b, i, none⟩ v)) : wpList P ops Q (op :: rest) a w :=
  wpList_plain hgd fun _ hK => by
    unfold Oper.wp execOp
    simp only [ho, hx, hy, Instr.storeAt, Instr.sureAddr, Sem.run_bind, Sem.run_pure, Result.andThen_ok, storeVar_cell0F P ty hi ⟨b, i, none⟩ v old hv w hc hf]
    exact hK _ _ (by rw [hd]; exact h)


theorem heap_setRow_ne (w : World) {g b : Nat} {cs : Array Value} (h : b ≠ g) : (w.setRow g cs).heap[b]? = w.heap[b]? := setRow_other w g b _ h
/-- The key of an entry's box laid anew. -/
theorem EntB.setKey {w : World} {g : Nat} {t : Int} {K K' : List UInt8} {v : Value} (h : EntB w g t K v) (hK : K.length = 32) (hK' : K'.length = 32) : EntB (w.setCells g 1 (bytesV K')) g t K' v := by
  obtain ⟨arr, h1, h2⟩ := setCells_blk (bytesV K') 1 w _ h
  have hth : ∀ j, j < (bytesV K').length → (w.cell? ⟨g, 1 + j, none⟩).isSome = true := fun j hj => by
    rw [Blk.cell h (1 + j)]
    have h3 : 1 + j < (entV t K v).size := by rw [entV_size _ _ _ hK]; rw [bytesV_length] at hj; omega
    simp [h3]
  have e : arr = entV t K' v := by
    apply Array.ext_getElem?
    intro i
    rw [← h1.cell i]
    by_cases hi : 1 ≤ i ∧ i < 33
    · have h4 := World.cell?_setCells_in g (bytesV K') 1 w hth (i - 1) (by rw [bytesV_length]; omega)
      rw [show 1 + (i - 1) = i by omega] at h4
      rw [h4]
      have h5 := entV_key t K' v _ (i - 1) (List.getElem?_eq_getElem (show i - 1 < (bytesV K').length by rw [bytesV_length]; omega))
      rw [show 1 + (i - 1) = i by omega] at h5
      exact h5.symm
    · rw [World.cell?_setCells_out g (bytesV K') 1 w ⟨g, i, none⟩ (fun _ _ => by rw [bytesV_length]; simp only; omega), Blk.cell h i]
      by_cases h0 : i = 0
      · subst h0
        rw [entV_0, entV_0]
      · by_cases h33 : i = 33
        · subst h33
          rw [entV_33 _ _ _ hK, entV_33 _ _ _ hK']
        · rw [Array.getElem?_eq_none (by rw [entV_size _ _ _ hK]; omega), Array.getElem?_eq_none (by rw [entV_size _ _ _ hK']; omega)]
  show Blk _ _ _ _
  rw [← e]
  exact h1
theorem EntB.setData {w : World} {g : Nat} {t : Int} {K : List UInt8} {v u : Value} (h : EntB w g t K v) (hK : K.length = 32) : EntB (w.setCell ⟨g, 33, none⟩ u) g t K u := by
  have h1 := Blk.setc h 33 u
  have e : (entV t K v).setIfInBounds 33 u = entV t K u := by
    apply Array.ext_getElem?
    intro i
    by_cases h33 : i = 33
    · subst h33
      rw [entV_33 _ _ _ hK]
      simp [entV_size _ _ _ hK]
    · rw [Array.getElem?_setIfInBounds_ne (by omega)]
      by_cases hi : i < 33
      · by_cases h0 : i = 0
        · subst h0; rw [entV_0, entV_0]
        · have hk : (i - 1) < (bytesV K).length := by rw [bytesV_length]; omega
          have a := entV_key t K v _ (i - 1) (List.getElem?_eq_getElem hk)
          have b := entV_key t K u _ (i - 1) (List.getElem?_eq_getElem hk)
          rw [show 1 + (i - 1) = i by omega] at a b
          rw [a, b]
      · rw [Array.getElem?_eq_none (by rw [entV_size _ _ _ hK]; omega), Array.getElem?_eq_none (by rw [entV_size _ _ _ hK]; omega)]
  show Blk _ _ _ _
  rw [← e]
  exact h1
/-- The key and the data that an entry's bytes say. -/
def keyR (y : Nat) (l : List UInt8) : List UInt8 := if y = 2 then List.replicate 32 0 else (l.drop 9).take 32
def datR (y : Nat) (l : List UInt8) : List UInt8 := if y = 2 then [] else l.drop 41
theorem keyR_len (y : Nat) (l : List UInt8) (h : y ≠ 2 → 41 ≤ l.length) : (keyR y l).length = 32 := by
  unfold keyR
  by_cases h2 : y = 2
  · rw [if_pos h2]; simp
  · rw [if_neg h2]; have := h h2; simp; omega
set_option maxRecDepth 100000 in
set_option maxHeartbeats 3200000 in
theorem entry_any (A : Option Addr) (n c : Nat) (l : List UInt8) (w : World) (B : Nat) (hr : Reads w B A n l) (hB : B ≤ w.heap.size) (hn : n ≤ 1048576) (h9 : 9 ≤ n) (h41 : tagE l ≠ 2 → 41 ≤ n) (hc : n ≤ c) (hcm : c ≤ 9223372036854775807) :
    Calls Tryz.prog 170 #[.slice A n c] w fun e w' => (∃ v, e = .returned (.agg (entV (tagE l : Nat) (keyR (tagE l) l) v)) ∧ w'.ownsRow w.heap.size 5 1 v (datR (tagE l) l).length (bytesV (datR (tagE l) l))) ∧ Still w w' := by
  obtain ⟨b, o, rfl, hb, hcell⟩ := hr.at_ (by omega)
  have hk := hcell 8 (by omega)
  have hlen := hr.1
  have ht : ((l.getD 8 0).toNat : Int) = (tagE l : Nat) := rfl
  rw [ht] at hk
  have tl := tagE_lt l
  obtain ⟨y, hy⟩ : ∃ y, y = tagE l := ⟨_, rfl⟩
  rw [← hy] at hk tl h41 ⊢
  obtain ⟨g, hg⟩ : ∃ g, g = w.heap.size := ⟨_, rfl⟩
  obtain ⟨wA, hwA⟩ : ∃ wA, wA = w.alloc (.cells (entV 0 (List.replicate 32 0) (.slice none 0 0)) 44) := ⟨_, rfl⟩
  have sA : Still w wA := by rw [hwA]; exact (Still.refl w).alloc (Nat.le_refl _) _
  have bA : Blk wA g 44 (entV 0 (List.replicate 32 0) (.slice none 0 0)) := by rw [hwA, hg]; exact Blk.new _ _ _
  have zA : wA.heap.size = g + 1 := by rw [hwA, hg]; simp
  obtain ⟨w2, hw2⟩ : ∃ w2, w2 = (wA.alloc (.cells (entV 0 (List.replicate 32 0) (.slice none 0 0)) 44)).setRow wA.heap.size (entV (y : Int) (List.replicate 32 0) (.slice none 0 0)) := ⟨_, rfl⟩
  have s2 : Still wA w2 := by rw [hw2]; exact below_setRow ((Still.refl wA).alloc (Nat.le_refl _) _) (Nat.le_refl _) _
  have e2 : EntB w2 (g + 1) (y : Int) (List.replicate 32 0) (.slice none 0 0) := by
    have h : Blk w2 wA.heap.size 44 (entV (y : Int) (List.replicate 32 0) (.slice none 0 0)) := by rw [hw2]; exact setRow_heap _ _ _ _ _ _ (heap_alloc_new wA _)
    rwa [zA] at h
  have HWA := Lib.hid (show wA = w.alloc (.cells #[.int .i64 0, .int .u8 0, .int .u8 0, .int .u8 0, .int .u8 0, .int .u8 0, .int .u8 0, .int .u8 0, .int .u8 0, .int .u8 0, .int .u8 0, .int .u8 0, .int .u8 0, .int .u8 0, .int .u8 0, .int .u8 0, .int .u8 0, .int .u8 0, .int .u8 0, .int .u8 0, .int .u8 0, .int .u8 0, .int .u8 0, .int .u8 0, .int .u8 0, .int .u8 0, .int .u8 0, .int .u8 0, .int .u8 0, .int .u8 0, .int .u8 0, .int .u8 0, .int .u8 0, .slice none 0 0] 44) by rw [hwA]; rfl)
  have HW2 := Lib.hid (show w2 = (wA.alloc (.cells #[.int .i64 0, .int .u8 0, .int .u8 0, .int .u8 0, .int .u8 0, .int .u8 0, .int .u8 0, .int .u8 0, .int .u8 0, .int .u8 0, .int .u8 0, .int .u8 0, .int .u8 0, .int .u8 0, .int .u8 0, .int .u8 0, .int .u8 0, .int .u8 0, .int .u8 0, .int .u8 0, .int .u8 0, .int .u8 0, .int .u8 0, .int .u8 0, .int .u8 0, .int .u8 0, .int .u8 0, .int .u8 0, .int .u8 0, .int .u8 0, .int .u8 0, .int .u8 0, .int .u8 0, .slice none 0 0] 44)).setRow wA.heap.size #[.int .i64 (y : Int), .int .u8 0, .int .u8 0, .int .u8 0, .int .u8 0, .int .u8 0, .int .u8 0, .int .u8 0, .int .u8 0, .int .u8 0, .int .u8 0, .int .u8 0, .int .u8 0, .int .u8 0, .int .u8 0, .int .u8 0, .int .u8 0, .int .u8 0, .int .u8 0, .int .u8 0, .int .u8 0, .int .u8 0, .int .u8 0, .int .u8 0, .int .u8 0, .int .u8 0, .int .u8 0, .int .u8 0, .int .u8 0, .int .u8 0, .int .u8 0, .int .u8 0, .int .u8 0, .slice none 0 0] by rw [hw2]; rfl)
  have kt : wA.cell? ⟨b, o + 8, none⟩ = some (.int .u8 (y : Int)) := (sA.cell (p := ⟨b, o + 8, none⟩) (by have : b < B := hb; simp only; omega)).trans hk
  have BA := Lib.hid (bA.still s2)
  have E2 := Lib.hid e2
  have SA := Lib.hid (Still.trans sA s2)
  have RD := Lib.hid (hr.still hB (Still.trans sA s2))
  have HBB := Lib.hid (show B ≤ w2.heap.size from Nat.le_trans hB (Still.trans sA s2).size)
  have HG := Lib.hid hg
  have ZA := Lib.hid zA
  have HLN := Lib.hid hlen
  have HBO := Lib.hid (show b < B ∧ B ≤ g from ⟨hb, by rw [hg]; exact hB⟩)
  have H41 := Lib.hid h41
  have d1 : (8 : Int) < (n : Int) := by omega
  have d2 : (0 : Int) ≤ (y : Int) := by omega
  have d3 : (y : Int) < 256 := by omega
  have d4 : (n : Int) ≤ 1048576 := by omega
  have d5 : (n : Int) ≤ (c : Int) := by omega
  have DC := Lib.hid hcm
  obtain ⟨fs, hu⟩ := underEnt
  have HU := Lib.hid hu
  clear hr hB hn h9 hc hcm hcell hlen ht hy hwA hw2 sA s2 bA e2 hk hg zA hb h41 hu tl
  go_enter Tryz.func170, Tryz.ntmps170
  go_upto_region 1 with fail
  rw [← HWA.out, ← HG.out]
  go_upto_region 2 with (guard_target =~ wpList _ _ _ (Oper.mk none (Op.store _ _ _) _ _ _ _ :: _) _ _; go_must (refine wpList_store_rowTo rfl 44 (.tmp 3) (.tmp 8) rfl rfl wA.heap.size #[.int .i64 (y : Int), .int .u8 0, .int .u8 0, .int .u8 0, .int .u8 0, .int .u8 0, .int .u8 0, .int .u8 0, .int .u8 0, .int .u8 0, .int .u8 0, .int .u8 0, .int .u8 0, .int .u8 0, .int .u8 0, .int .u8 0, .int .u8 0, .int .u8 0, .int .u8 0, .int .u8 0, .int .u8 0, .int .u8 0, .int .u8 0, .int .u8 0, .int .u8 0, .int .u8 0, .int .u8 0, .int .u8 0, .int .u8 0, .int .u8 0, .int .u8 0, .int .u8 0, .int .u8 0, .slice none 0 0] rfl rfl 44 _ (heap_alloc_new wA _) (by rw [sizeEnt]; rfl) (by rfl) (by kernel_rfl) ?_))
  rw [← HW2.out, ZA.out]
  clear HWA HW2 kt
  have k0 : w2.cell? ⟨g + 1, 0, none⟩ = some (.int .i64 (y : Int)) := E2.out.tag
  by_cases h2 : y = 2
  · subst h2
    have HK := Lib.hid (show keyR 2 l = List.replicate 32 0 by unfold keyR; rw [if_pos rfl])
    have HD := Lib.hid (show datR 2 l = [] by unfold datR; rw [if_pos rfl])
    go_upto_region 5 with fail
    refine wp_region_lit ?_
    refine wpList_load_row rfl 44 (.tmp 3) rfl (g + 1) rfl _ _ _ _ E2.out HU.out rfl (by rw [sizeEnt, entV_size _ _ _ (by simp)]) ?_
    go_wp2_with (guard_target =~ wpList _ _ _ (Oper.mk none (Op.store _ _ _) _ _ _ _ :: _) _ _; go_must (refine wpList_store_rowTo rfl 44 (.tmp 2) (.tmp 23) rfl rfl g (entV ((2 : Nat) : Int) (List.replicate 32 0) (.slice none 0 0)) rfl rfl 44 _ BA.out (by rw [sizeEnt]; rfl) (by rfl) (by exact entV_one _ _ _ rfl) ?_))
    (try simp only [Exit.inBlock, Exit.then])
    refine bodyPost_ret (results_cell_row rfl _ _ g _ _ _ _ rfl (setRow_heap w2 _ _ _ _ _ BA.out) HU.out rfl (by rw [sizeEnt]; rfl)) rfl ?_
    rw [HK.out, HD.out]
    exact ⟨⟨_, rfl, World.ownsRow_nil _ _ _ _⟩, below_setRow SA.out (by rw [HG.out]; exact Nat.le_refl _) _⟩
  · have b2 : ((y : Int) == 2) = false := by simp; omega
    have b3 : ((y : Int) != 2) = true := by simp; omega
    have h41 := H41.out h2
    have HK := Lib.hid (show keyR y l = (l.drop 9).take 32 by unfold keyR; rw [if_neg h2])
    have HD := Lib.hid (show datR y l = l.drop 41 by unfold datR; rw [if_neg h2])
    have HKL := Lib.hid (show ((l.drop 9).take 32).length = 32 by have := HLN.out; simp; omega)
    have HLE := Lib.hid h41
    have d6 : (41 : Int) ≤ (n : Int) := by omega
    have d7 : (41 : Int) ≤ (c : Int) := by omega
    have dcm := DC.out
    have d8 : (c : Int) ≤ 9223372036854775807 := by omega
    have RNG := Lib.hid (show w2.rangeAt b (o + 9) (bytesV ((l.drop 9).take 32)) from fun j u hj => by
      have hjl : j < 32 := by have h := (List.getElem?_eq_some_iff.1 hj).1; rw [bytesV_length, HKL.out] at h; exact h
      have h := RD.out.cellAt (9 + j) (by omega)
      rw [bytesV_get _ _ (by rw [HKL.out]; exact hjl)] at hj
      rw [show o + 9 + j = o + (9 + j) by omega, h, ← hj]
      congr 4
      simp [List.getD, List.getElem?_take, hjl])
    obtain ⟨K, hKK⟩ : ∃ K, K = (l.drop 9).take 32 := ⟨_, rfl⟩
    rw [← hKK] at HK HKL RNG
    obtain ⟨w3, hw3⟩ : ∃ w3, w3 = w2.setCells (g + 1) 1 (bytesV K) := ⟨_, rfl⟩
    have E3 := Lib.hid (show EntB w3 (g + 1) (y : Int) K (.slice none 0 0) by rw [hw3]; exact E2.out.setKey (by simp) HKL.out)
    have s23 : Below (g + 1) w2 w3 := by
      rw [hw3]
      exact Below.grown (Below.refl _ _) (grown_setCells (bytesV K) 1 w2 w2 (World.grownBy.refl _ _)) (by have := Blk.lt E2.out; omega) (fun k hk => by have h := Option.some.inj hk; omega)
    have TH := Lib.hid (show w2.there (g + 1) 1 (bytesV K).toArray.size from fun j hj => by
      have hjl : j < 32 := by have h := hj; rw [List.size_toArray, bytesV_length, HKL.out] at h; exact h
      refine ⟨?_, Blk.frozen E2.out _⟩
      rw [Blk.cell E2.out (1 + j)]
      have h3 : 1 + j < (entV (y : Int) (List.replicate 32 0) (.slice none 0 0)).size := by rw [entV_size _ _ _ (by simp)]; omega
      rw [Array.getElem?_eq_getElem h3]
      rfl)
    have S3 := Lib.hid (show Still w w3 from Below.trans SA.out (s23.mono (by rw [← HG.out]; omega)))
    have BA3 := Lib.hid (show Blk w3 g 44 (entV 0 (List.replicate 32 0) (.slice none 0 0)) from (s23.block g (by omega)).trans BA.out)
    have RD3 := Lib.hid (RD.out.below (s23.mono (by have := HBO.out; omega)))
    have HW3 := Lib.hid (show w3 = w2.setCells (g + 1) 1 (bytesV K).toArray.toList by rw [hw3])
    have Z3 := Lib.hid (show B ≤ w3.heap.size from Nat.le_trans HBB.out s23.size)
    have hat : ∀ w, (Instr.arrayAt 41 (.slice (some ⟨b, o + 9, none⟩) 32 (c - 9))).run Tryz.prog w = .ok (.pointer (some ⟨b, o + 9, none⟩)) w := fun w => run_arrayAt w _ _ 32 _ _ _ under32 (Nat.le_refl _)
    clear hw3 s23 hKK h2 h41 dcm
    go_upto_region 4 with (first
      | (guard_target =~ wpList _ _ _ (Oper.mk (some 15) _ _ _ _ _ :: _) _ _; go_must (refine wpList_load_mid rfl 41 (.tmp 14) rfl b (o + 9) rfl (bytesV K) _ RNG.out under32 rfl (by rw [size32, bytesV_length, HKL.out]) ?_))
      | (guard_target =~ wpList _ _ _ (Oper.mk none (Op.store _ _ _) _ _ _ _ :: _) _ _; go_must (refine wpList_store_mid rfl 41 (.tmp 16) (.tmp 15) rfl (g + 1) 1 (bytesV K).toArray rfl rfl TH.out (by rw [size32]; simp [bytesV_length, HKL.out]) (all_oneCell_toArray (fun v hv => bytesV_one _ v hv)) ?_)))
    rw [← HW3.out]
    clear HW3 RNG TH BA RD SA k0
    have k33 : w3.cell? ⟨g + 1, 33, none⟩ = some (.slice none 0 0) := E3.out.data HKL.out
    have dl : ((l.drop 41).length : Nat) = n - 41 := by rw [List.length_drop, HLN.out]
    have e1 : (0 : Int) ≤ (n : Int) - 41 := by omega
    have RDD := Lib.hid (show Reads w3 B (some ⟨b, o + 41, none⟩) (n - 41) (l.drop 41) from RD3.out.dropk (k := 41) (by omega))
    obtain ⟨m, hm⟩ : ∃ m : Nat, m = n - 41 := ⟨_, rfl⟩
    have e2 : (n : Int) - 41 = (m : Int) := by omega
    have e2n : n - 41 = m := hm.symm
    obtain ⟨cm, hcm2⟩ : ∃ cm : Nat, cm = c - 41 := ⟨_, rfl⟩
    have e3 : (c : Int) - 41 = (cm : Int) := by omega
    rw [← hm] at RDD dl
    have DL := Lib.hid dl
    have ML := Lib.hid (show m ≤ 1048576 by omega)
    obtain ⟨Aq, hAq⟩ : ∃ Aq : Option Addr, Aq = (if c = 41 then some ⟨b, o, none⟩ else some ⟨b, o + 41, none⟩) := ⟨_, rfl⟩
    have AQ := Lib.hid hAq
    have AN := Lib.hid (show Aq ≠ none by rw [hAq]; split <;> simp)
    have RQ := Lib.hid (show Reads w3 B Aq m (l.drop 41) by
      rw [hAq]
      by_cases q : c = 41
      · have hm0 : m = 0 := by omega
        have h0 : l.drop 41 = [] := List.eq_nil_of_length_eq_zero (by omega)
        rw [hm0, h0]
        exact Reads.nil0
      · rw [if_neg q]; exact RDD.out)
    clear hm hcm2 dl hAq RDD
    go_still_tail 4, (by kernel_rfl)
    repeat still_step
    change wpList _ _ _ _ _ w3.drew
    obtain ⟨w4, hw4⟩ : ∃ w4, w4 = w3.drew := ⟨_, rfl⟩
    have S34 := Lib.hid (show Still w3 w4 by rw [hw4]; exact (Still.refl _).drew)
    rw [← hw4]
    clear hw4
    rw [← AQ.out]
    go_wp2_with (at_builtin; go_must (refine wpList_adds_at w4 rfl (.tmp 18) (.tmp 20) rfl w4.heap.size (.slice none 0 0) 0 [] rfl (World.ownsRow_nil _ _ _ _) Aq m (c - 41) B (l.drop 41) rfl (RQ.out.still Z3.out S34.out) (fun e => absurd e AN.out) (by have := ML.out; omega) (Nat.le_refl _) ?_))
    intro v5 w5 own5 gr5 loc5
    have G5 := Lib.hid (show Still w3 w5 from S34.out.grown gr5 (by exact S34.out.size) (fun k hk => by cases hk))
    have O5 := Lib.hid own5
    have E5 := Lib.hid (E3.out.still G5.out)
    have q5 : w5.cell? ⟨g + 1, 33, none⟩ = some (.slice none 0 0) := E5.out.data HKL.out
    have f5 : w5.frozen? ⟨g + 1, 33, none⟩ = false := Blk.frozen E5.out _
    have V5 := Lib.hid (show v5.oneCell' = true by rcases own5.2 with ⟨h, _⟩ | ⟨_, _, _, h, _⟩ <;> (rw [h]; rfl))
    have L5 := Lib.hid loc5
    clear own5 gr5 loc5 k33
    obtain ⟨w6, hw6⟩ : ∃ w6, w6 = w5.setCell ⟨g + 1, 33, none⟩ v5 := ⟨_, rfl⟩
    have G36 : Below (g + 1) w3 w6 := by
      rw [hw6]
      exact Below.grown (G5.out.mono (by have := Blk.lt E3.out; omega)) (grown_set1 (World.grownBy.refl _ _)) (by have := Blk.lt E5.out; omega) (fun k hk => by have h := Option.some.inj hk; omega)
    have E6 := Lib.hid (show EntB w6 (g + 1) (y : Int) K v5 by rw [hw6]; exact E5.out.setData HKL.out)
    have BA6 := Lib.hid (show Blk w6 g 44 (entV 0 (List.replicate 32 0) (.slice none 0 0)) from (G36.block g (by omega)).trans BA3.out)
    have S6 := Lib.hid (show Still w w6 from Below.trans S3.out (G36.mono (by rw [← HG.out]; omega)))
    have O6 := Lib.hid (show w6.ownsRow (g + 1) 5 1 v5 m (bytesV (l.drop 41)) by
      have hlo : ∀ k, v5.ownBlock = some k → g + 1 < k := fun k hk => by
        have h := (O5.out.lt k hk).1
        have h2 := S34.out.size
        have h3 := Blk.lt E3.out
        omega
      have h := own_rebase0 O5.out (show g + 1 ≤ w4.heap.size from by have h2 := S34.out.size; have h3 := Blk.lt E3.out; omega)
      rw [hw6]
      exact h.kept (grown_set1 (g := g + 1) (World.grownBy.refl w5 _)) (by
        rcases hv : v5.ownBlock with _ | k
        · exact .inl rfl
        · exact .inr (fun e => by have := hlo k hv; have e2 := Option.some.inj e; omega)))
    have HW6 := Lib.hid hw6
    clear hw6 G36
    go_upto_region 5 with (guard_target =~ wpList _ _ _ (Oper.mk none (Op.store _ _ _) _ _ _ _ :: _) _ _; go_must (refine wpList_store_cell0 rfl 42 (.tmp 22) (.tmp 21) rfl rfl (g + 1) 33 v5 (.slice none 0 0) rfl rfl V5.out (by kernel_rfl) q5 f5 ?_))
    rw [← HW6.out]
    clear HW6 q5 f5
    refine wp_region_lit ?_
    refine wpList_load_row rfl 44 (.tmp 3) rfl (g + 1) rfl _ _ _ _ E6.out HU.out rfl (by rw [sizeEnt, entV_size _ _ _ HKL.out]) ?_
    go_wp2_with (guard_target =~ wpList _ _ _ (Oper.mk none (Op.store _ _ _) _ _ _ _ :: _) _ _; go_must (refine wpList_store_rowTo rfl 44 (.tmp 2) (.tmp 23) rfl rfl g (entV (y : Int) K v5) rfl rfl 44 _ BA6.out (by rw [sizeEnt]; rw [entV_size _ _ _ HKL.out]) (by rw [entV_size _ _ _ HKL.out, entV_size _ _ _ (by simp)]) (by exact entV_one _ _ _ V5.out) ?_))
    (try simp only [Exit.inBlock, Exit.then])
    refine bodyPost_ret (results_cell_row rfl _ _ g _ _ _ _ rfl (setRow_heap w6 _ _ _ _ _ BA6.out) HU.out rfl (by rw [sizeEnt, entV_size _ _ _ HKL.out])) rfl ?_
    rw [HK.out, HD.out]
    refine ⟨⟨v5, rfl, ?_⟩, below_setRow S6.out (by rw [HG.out]; exact Nat.le_refl _) _⟩
    have h := O6.out
    rw [show (l.drop 41).length = m from DL.out]
    refine ⟨h.1, ?_⟩
    rcases h.2 with q | ⟨gx, cap, cur, hv, hlo, hb, r⟩
    · exact .inl q
    · exact .inr ⟨gx, cap, cur, hv, by rw [← HG.out]; omega, (heap_setRow_ne w6 (by omega)).trans hb, r⟩
end Go.Proofs.YtfneloobfidckaaGreatDoor
