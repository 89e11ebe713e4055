/- Contracts and facts, several texts in one. It proves no statement. -/
import Derived.Test.YtmpnehhndhepgaaDoorPackGk
import Derived.Test.YtmpnehhndhepgaaDoorPackGe
import Derived.Test.YtmpnehhndhepgaaDoorPackGc

/- The document's own reader of values: simple values, great numbers, tags of none. It proves no statement. -/

namespace Go.Proofs.YtmpnehhndhepgaaDoor
open Go.RowKit
set_option linter.unusedVariables false
set_option linter.unusedSimpArgs false

set_option maxRecDepth 100000 in
set_option maxHeartbeats 1600000 in
theorem do_192 {w : World} {B g : Nat} {A : Option Addr} {N c : Nat} {bs : List UInt8} {p : Nat} (r : DRd w B g A N c bs p 0) (depth : Int) :
    Calls Tryd.prog 60 #[.pointer (some ⟨g, 0, none⟩), .int .i64 192, .int .i64 depth] w (DVPost w B g A N c bs (0, .mk 0 0 [] ByteArray.empty [] [], bs.drop p)) := by
  obtain ⟨wA, hA⟩ : ∃ wA, wA = w.alloc (.cells cellsZ 26) := ⟨_, rfl⟩
  have sA : Still w wA := by rw [hA]; exact (Still.refl w).alloc (Nat.le_refl _) _
  have bA : Blk wA w.heap.size 26 cellsZ := by rw [hA]; exact Blk.new _ _ _
  have hgl := r.blk.lt
  have rA := r.still sA
  obtain ⟨fs, hu⟩ := underValue
  have HU := Lib.hid hu
  have BA := Lib.hid bA
  have HA := Lib.hid hA
  have SA := Lib.hid sA
  have HGL := Lib.hid hgl
  have RA := Lib.hid rA
  have B1 := Lib.hid bA
  have G1 := Lib.hid (show w.grownBy wA (some g) from grown_of_still sA)
  clear hA sA bA rA hu r hgl
  go_enter Tryd.func60, Tryd.ntmps60
  go_upto_region 1 with fail
  rw [show (w.alloc (.cells #[.int .i64 0, .int .i64 0, .slice none 0 0, .string ⟨#[]⟩, .slice none 0 0, .slice none 0 0] 26)) = wA from HA.out.symm]
  go_wp2_with (guard_target =~ wpList _ _ _ (Oper.mk none (Op.store _ _ _) _ _ _ _ :: _) _ _; go_must (refine wpList_store_rowTo rfl 26 (.tmp 6) (.tmp 11) rfl rfl w.heap.size cellsZ rfl rfl 26 _ B1.out (by rw [sizeValue]; first | rfl | simp) (by first | rfl | simp [cellsZ]) (by first | decide +kernel | simp [Value.oneCell']) ?_))
  (try simp only [Exit.inBlock, Exit.then])
  refine bodyPost_ret (results_cell_row rfl _ _ w.heap.size _ _ _ _ rfl (setRow_heap wA _ _ _ _ _ B1.out) HU.out rfl (by rw [sizeValue]; first | rfl | simp)) rfl ?_
  exact dv_flat (cs := [.int .i64 0, .int .i64 0, .slice none 0 0, .string ⟨#[]⟩, .slice none 0 0, .slice none 0 0]) (D := (0, .mk 0 0 [] ByteArray.empty [] [], bs.drop p)) G1.out (by have := B1.out.lt; omega) HGL.out rfl (by simp [Value.oneCell']) RA.out (fun _ => ⟨rfl, hasP_flat 0 0 _ (by omega) (by omega) (by decide)⟩)

set_option maxRecDepth 100000 in
set_option maxHeartbeats 1600000 in
theorem do_194 {w : World} {B g : Nat} {A : Option Addr} {N c : Nat} {bs : List UInt8} {p : Nat} (r : DRd w B g A N c bs p 0) (depth : Int) :
    Calls Tryd.prog 60 #[.pointer (some ⟨g, 0, none⟩), .int .i64 194, .int .i64 depth] w (DVPost w B g A N c bs (0, .mk 1 0 [] ByteArray.empty [] [], bs.drop p)) := by
  obtain ⟨wA, hA⟩ : ∃ wA, wA = w.alloc (.cells cellsZ 26) := ⟨_, rfl⟩
  have sA : Still w wA := by rw [hA]; exact (Still.refl w).alloc (Nat.le_refl _) _
  have bA : Blk wA w.heap.size 26 cellsZ := by rw [hA]; exact Blk.new _ _ _
  have hgl := r.blk.lt
  have rA := r.still sA
  obtain ⟨fs, hu⟩ := underValue
  have HU := Lib.hid hu
  have BA := Lib.hid bA
  have HA := Lib.hid hA
  have SA := Lib.hid sA
  have HGL := Lib.hid hgl
  have RA := Lib.hid rA
  have B1 := Lib.hid bA
  have G1 := Lib.hid (show w.grownBy wA (some g) from grown_of_still sA)
  clear hA sA bA rA hu r hgl
  go_enter Tryd.func60, Tryd.ntmps60
  go_upto_region 1 with fail
  rw [show (w.alloc (.cells #[.int .i64 0, .int .i64 0, .slice none 0 0, .string ⟨#[]⟩, .slice none 0 0, .slice none 0 0] 26)) = wA from HA.out.symm]
  go_wp2_with (guard_target =~ wpList _ _ _ (Oper.mk none (Op.store _ _ _) _ _ _ _ :: _) _ _; go_must (refine wpList_store_rowTo rfl 26 (.tmp 6) (.tmp 17) rfl rfl w.heap.size #[.int .i64 1, .int .i64 0, .slice none 0 0, .string ⟨#[]⟩, .slice none 0 0, .slice none 0 0] rfl rfl 26 _ B1.out (by rw [sizeValue]; first | rfl | simp) (by first | rfl | simp [cellsZ]) (by first | decide +kernel | simp [Value.oneCell']) ?_))
  (try simp only [Exit.inBlock, Exit.then])
  refine bodyPost_ret (results_cell_row rfl _ _ w.heap.size _ _ _ _ rfl (setRow_heap wA _ _ _ _ _ B1.out) HU.out rfl (by rw [sizeValue]; first | rfl | simp)) rfl ?_
  exact dv_flat (cs := [.int .i64 1, .int .i64 0, .slice none 0 0, .string ⟨#[]⟩, .slice none 0 0, .slice none 0 0]) (D := (0, .mk 1 0 [] ByteArray.empty [] [], bs.drop p)) G1.out (by have := B1.out.lt; omega) HGL.out rfl (by simp [Value.oneCell']) RA.out (fun _ => ⟨rfl, hasP_flat 1 0 _ (by omega) (by omega) (by decide)⟩)

set_option maxRecDepth 100000 in
set_option maxHeartbeats 1600000 in
theorem do_195 {w : World} {B g : Nat} {A : Option Addr} {N c : Nat} {bs : List UInt8} {p : Nat} (r : DRd w B g A N c bs p 0) (depth : Int) :
    Calls Tryd.prog 60 #[.pointer (some ⟨g, 0, none⟩), .int .i64 195, .int .i64 depth] w (DVPost w B g A N c bs (0, .mk 2 0 [] ByteArray.empty [] [], bs.drop p)) := by
  obtain ⟨wA, hA⟩ : ∃ wA, wA = w.alloc (.cells cellsZ 26) := ⟨_, rfl⟩
  have sA : Still w wA := by rw [hA]; exact (Still.refl w).alloc (Nat.le_refl _) _
  have bA : Blk wA w.heap.size 26 cellsZ := by rw [hA]; exact Blk.new _ _ _
  have hgl := r.blk.lt
  have rA := r.still sA
  obtain ⟨fs, hu⟩ := underValue
  have HU := Lib.hid hu
  have BA := Lib.hid bA
  have HA := Lib.hid hA
  have SA := Lib.hid sA
  have HGL := Lib.hid hgl
  have RA := Lib.hid rA
  have B1 := Lib.hid bA
  have G1 := Lib.hid (show w.grownBy wA (some g) from grown_of_still sA)
  clear hA sA bA rA hu r hgl
  go_enter Tryd.func60, Tryd.ntmps60
  go_upto_region 1 with fail
  rw [show (w.alloc (.cells #[.int .i64 0, .int .i64 0, .slice none 0 0, .string ⟨#[]⟩, .slice none 0 0, .slice none 0 0] 26)) = wA from HA.out.symm]
  go_wp2_with (guard_target =~ wpList _ _ _ (Oper.mk none (Op.store _ _ _) _ _ _ _ :: _) _ _; go_must (refine wpList_store_rowTo rfl 26 (.tmp 6) (.tmp 17) rfl rfl w.heap.size #[.int .i64 2, .int .i64 0, .slice none 0 0, .string ⟨#[]⟩, .slice none 0 0, .slice none 0 0] rfl rfl 26 _ B1.out (by rw [sizeValue]; first | rfl | simp) (by first | rfl | simp [cellsZ]) (by first | decide +kernel | simp [Value.oneCell']) ?_))
  (try simp only [Exit.inBlock, Exit.then])
  refine bodyPost_ret (results_cell_row rfl _ _ w.heap.size _ _ _ _ rfl (setRow_heap wA _ _ _ _ _ B1.out) HU.out rfl (by rw [sizeValue]; first | rfl | simp)) rfl ?_
  exact dv_flat (cs := [.int .i64 2, .int .i64 0, .slice none 0 0, .string ⟨#[]⟩, .slice none 0 0, .slice none 0 0]) (D := (0, .mk 2 0 [] ByteArray.empty [] [], bs.drop p)) G1.out (by have := B1.out.lt; omega) HGL.out rfl (by simp [Value.oneCell']) RA.out (fun _ => ⟨rfl, hasP_flat 2 0 _ (by omega) (by omega) (by decide)⟩)

set_option maxRecDepth 100000 in
set_option maxHeartbeats 1600000 in
theorem do_bad {w : World} {B g : Nat} {A : Option Addr} {N c : Nat} {bs : List UInt8} {p : Nat} (r : DRd w B g A N c bs p 0) (depth : Int) (y : Nat) (hy : 192 ≤ y) (hy2 : y < 224) (n192 : y ≠ 192) (n194 : y ≠ 194) (n195 : y ≠ 195) (n196 : y ≠ 196) (n197 : y ≠ 197) (n204 : y ≠ 204) (n205 : y ≠ 205) (n206 : y ≠ 206) (n207 : y ≠ 207) (n208 : y ≠ 208) (n209 : y ≠ 209) (n210 : y ≠ 210) (n211 : y ≠ 211) (n217 : y ≠ 217) (n218 : y ≠ 218) (n220 : y ≠ 220) (n222 : y ≠ 222) (T : Tr) (L : List UInt8) :
    Calls Tryd.prog 60 #[.pointer (some ⟨g, 0, none⟩), .int .i64 (y : Int), .int .i64 depth] w (DVPost w B g A N c bs (4, T, L)) := by
  obtain ⟨wA, hA⟩ : ∃ wA, wA = w.alloc (.cells cellsZ 26) := ⟨_, rfl⟩
  have sA : Still w wA := by rw [hA]; exact (Still.refl w).alloc (Nat.le_refl _) _
  have bA : Blk wA w.heap.size 26 cellsZ := by rw [hA]; exact Blk.new _ _ _
  have hgl := r.blk.lt
  have rA := r.still sA
  obtain ⟨fs, hu⟩ := underValue
  have HU := Lib.hid hu
  have BA := Lib.hid bA
  have HA := Lib.hid hA
  have SA := Lib.hid sA
  have HGL := Lib.hid hgl
  have b192 : ((y : Int) == 192) = false := by rw [beq_eq_false_iff_ne]; omega
  have b194 : ((y : Int) == 194) = false := by rw [beq_eq_false_iff_ne]; omega
  have b195 : ((y : Int) == 195) = false := by rw [beq_eq_false_iff_ne]; omega
  have b196 : ((y : Int) == 196) = false := by rw [beq_eq_false_iff_ne]; omega
  have b197 : ((y : Int) == 197) = false := by rw [beq_eq_false_iff_ne]; omega
  have b204 : ((y : Int) == 204) = false := by rw [beq_eq_false_iff_ne]; omega
  have b205 : ((y : Int) == 205) = false := by rw [beq_eq_false_iff_ne]; omega
  have b206 : ((y : Int) == 206) = false := by rw [beq_eq_false_iff_ne]; omega
  have b207 : ((y : Int) == 207) = false := by rw [beq_eq_false_iff_ne]; omega
  have b208 : ((y : Int) == 208) = false := by rw [beq_eq_false_iff_ne]; omega
  have b209 : ((y : Int) == 209) = false := by rw [beq_eq_false_iff_ne]; omega
  have b210 : ((y : Int) == 210) = false := by rw [beq_eq_false_iff_ne]; omega
  have b211 : ((y : Int) == 211) = false := by rw [beq_eq_false_iff_ne]; omega
  have b217 : ((y : Int) == 217) = false := by rw [beq_eq_false_iff_ne]; omega
  have b218 : ((y : Int) == 218) = false := by rw [beq_eq_false_iff_ne]; omega
  have b220 : ((y : Int) == 220) = false := by rw [beq_eq_false_iff_ne]; omega
  have b222 : ((y : Int) == 222) = false := by rw [beq_eq_false_iff_ne]; omega
  have B1 := Lib.hid bA
  have f2 : wA.frozen? ⟨g, 2, none⟩ = false := rA.blk.frozen 2
  have k2 : wA.cell? ⟨g, 2, none⟩ = some (.int .i64 0) := rA.blk.cell 2
  have FIN := Lib.hid (show DRd (wA.setCell ⟨g, 2, none⟩ (.int .i64 4)) B g A N c bs p 4 ∧ w.grownBy (wA.setCell ⟨g, 2, none⟩ (.int .i64 4)) (some g) from
    ⟨rA.set p 4 rA.at_ (by have h := rA.blk.setc 2 (.int .i64 4); simpa using h) (grown_setc (World.grownBy.refl _ _)), grown_setc (grown_of_still sA)⟩)
  obtain ⟨w2, hw2⟩ : ∃ w2, w2 = wA.setCell ⟨g, 2, none⟩ (.int .i64 4) := ⟨_, rfl⟩
  have HW2 := Lib.hid hw2
  have B2 : Hid (Blk w2 w.heap.size 26 cellsZ) := Lib.hid (by rw [hw2]; exact B1.out.far (by have := HGL.out; simp only; omega) _)
  rw [← hw2] at FIN
  clear hw2 hA sA bA rA hu r hgl n192 n194 n195 n196 n197 n204 n205 n206 n207 n208 n209 n210 n211 n217 n218 n220 n222
  go_enter Tryd.func60, Tryd.ntmps60
  go_upto_region 1 with fail
  rw [show (w.alloc (.cells #[.int .i64 0, .int .i64 0, .slice none 0 0, .string ⟨#[]⟩, .slice none 0 0, .slice none 0 0] 26)) = wA from HA.out.symm]
  go_upto_region 39 with fail
  rw [← HW2.out]
  go_wp2_with (guard_target =~ wpList _ _ _ (Oper.mk none (Op.store _ _ _) _ _ _ _ :: _) _ _; go_must (refine wpList_store_rowTo rfl 26 (.tmp 6) (.tmp 126) rfl rfl w.heap.size cellsZ rfl rfl 26 _ B2.out (by rw [sizeValue]; first | rfl | simp) (by first | rfl | simp [cellsZ]) (by first | decide +kernel | simp [Value.oneCell']) ?_))
  (try simp only [Exit.inBlock, Exit.then])
  refine bodyPost_ret (results_cell_row rfl _ _ w.heap.size _ _ _ _ rfl (setRow_heap w2 _ _ _ _ _ B2.out) HU.out rfl (by rw [sizeValue]; first | rfl | simp)) rfl ?_
  exact dv_flat (cs := [.int .i64 0, .int .i64 0, .slice none 0 0, .string ⟨#[]⟩, .slice none 0 0, .slice none 0 0]) (D := (4, T, L)) FIN.out.2 (by have := B2.out.lt; omega) HGL.out rfl (by simp [Value.oneCell']) FIN.out.1 (fun h => absurd (show (4 : Int) = 0 from h) (by decide))

set_option maxRecDepth 100000 in
set_option maxHeartbeats 1600000 in
theorem do_208 {w : World} {B g : Nat} {A : Option Addr} {N c : Nat} {bs : List UInt8} {p : Nat} (r : DRd w B g A N c bs p 0) (depth : Int) :
    Calls Tryd.prog 60 #[.pointer (some ⟨g, 0, none⟩), .int .i64 208, .int .i64 depth] w (DVPost w B g A N c bs ((nuD 208 (bs.drop p)).1, .mk 3 (nuD 208 (bs.drop p)).2.1 [] ByteArray.empty [] [], (nuD 208 (bs.drop p)).2.2)) := by
  obtain ⟨wA, hA⟩ : ∃ wA, wA = w.alloc (.cells cellsZ 26) := ⟨_, rfl⟩
  have sA : Still w wA := by rw [hA]; exact (Still.refl w).alloc (Nat.le_refl _) _
  have bA : Blk wA w.heap.size 26 cellsZ := by rw [hA]; exact Blk.new _ _ _
  have hgl := r.blk.lt
  have rA := r.still sA
  obtain ⟨fs, hu⟩ := underValue
  have HU := Lib.hid hu
  have BA := Lib.hid bA
  have HA := Lib.hid hA
  have SA := Lib.hid sA
  have HGL := Lib.hid hgl
  have C : Calls Tryd.prog 76 #[.pointer (some ⟨g, 0, none⟩), .int .i64 1, .int .i64 (-32)] wA (DVPost wA B g A N c bs ((nuD 208 (bs.drop p)).1, .mk 3 (nuD 208 (bs.drop p)).2.1 [] ByteArray.empty [] [], (nuD 208 (bs.drop p)).2.2)) := by
    by_cases hs : (bs.drop p).length < 1
    · exact db_208_no rA hs
    · exact db_208_yes rA hs
  obtain ⟨D, hD⟩ : ∃ D : Int × Tr × List UInt8, D = ((nuD 208 (bs.drop p)).1, .mk 3 (nuD 208 (bs.drop p)).2.1 [] ByteArray.empty [] [], (nuD 208 (bs.drop p)).2.2) := ⟨_, rfl⟩
  rw [← hD] at C ⊢
  have CC := Lib.hid C
  have GA := Lib.hid (show w.grownBy wA (some g) from grown_of_still sA)
  have ZA := Lib.hid bA.lt
  clear hA sA bA rA hu r hgl hD C
  go_enter Tryd.func60, Tryd.ntmps60
  go_upto_region 1 with fail
  rw [show (w.alloc (.cells #[.int .i64 0, .int .i64 0, .slice none 0 0, .string ⟨#[]⟩, .slice none 0 0, .slice none 0 0] 26)) = wA from HA.out.symm]
  go_wp2_with fail
  refine CC.out.mono ?_
  rintro e w3 ⟨⟨cs, rfl, h6, hall, p', r3, h3⟩, g3⟩
  have B3 : Hid (Blk w3 w.heap.size 26 cellsZ) := Lib.hid ((g3.block _ BA.out.lt (fun e => by have := HGL.out; cases e; omega)).trans BA.out)
  have H6 := Lib.hid h6
  have HALL := Lib.hid hall
  have FIN := Lib.hid (dv_fin (old := #[]) GA.out ZA.out HGL.out g3 h6 hall r3 h3)
  clear h6 hall r3 h3 g3 CC
  go_wp2_with (guard_target =~ wpList _ _ _ (Oper.mk none (Op.store _ _ _) _ _ _ _ :: _) _ _; go_must (refine wpList_store_rowTo rfl 26 (.tmp 6) (.tmp 76) rfl rfl w.heap.size cs.toArray rfl rfl 26 _ B3.out (by rw [sizeValue]; simp [H6.out]) (by simp [H6.out, cellsZ]) HALL.out ?_))
  (try simp only [Exit.inBlock, Exit.then])
  refine bodyPost_ret (results_cell_row rfl _ _ w.heap.size _ _ _ _ rfl (setRow_heap w3 _ _ _ _ _ B3.out) HU.out rfl (by rw [sizeValue]; simp [H6.out])) rfl ?_
  exact FIN.out

set_option maxRecDepth 100000 in
set_option maxHeartbeats 1600000 in
theorem do_209 {w : World} {B g : Nat} {A : Option Addr} {N c : Nat} {bs : List UInt8} {p : Nat} (r : DRd w B g A N c bs p 0) (depth : Int) :
    Calls Tryd.prog 60 #[.pointer (some ⟨g, 0, none⟩), .int .i64 209, .int .i64 depth] w (DVPost w B g A N c bs ((nuD 209 (bs.drop p)).1, .mk 3 (nuD 209 (bs.drop p)).2.1 [] ByteArray.empty [] [], (nuD 209 (bs.drop p)).2.2)) := by
  obtain ⟨wA, hA⟩ : ∃ wA, wA = w.alloc (.cells cellsZ 26) := ⟨_, rfl⟩
  have sA : Still w wA := by rw [hA]; exact (Still.refl w).alloc (Nat.le_refl _) _
  have bA : Blk wA w.heap.size 26 cellsZ := by rw [hA]; exact Blk.new _ _ _
  have hgl := r.blk.lt
  have rA := r.still sA
  obtain ⟨fs, hu⟩ := underValue
  have HU := Lib.hid hu
  have BA := Lib.hid bA
  have HA := Lib.hid hA
  have SA := Lib.hid sA
  have HGL := Lib.hid hgl
  have C : Calls Tryd.prog 76 #[.pointer (some ⟨g, 0, none⟩), .int .i64 2, .int .i64 (-128)] wA (DVPost wA B g A N c bs ((nuD 209 (bs.drop p)).1, .mk 3 (nuD 209 (bs.drop p)).2.1 [] ByteArray.empty [] [], (nuD 209 (bs.drop p)).2.2)) := by
    by_cases hs : (bs.drop p).length < 2
    · exact db_209_no rA hs
    · exact db_209_yes rA hs
  obtain ⟨D, hD⟩ : ∃ D : Int × Tr × List UInt8, D = ((nuD 209 (bs.drop p)).1, .mk 3 (nuD 209 (bs.drop p)).2.1 [] ByteArray.empty [] [], (nuD 209 (bs.drop p)).2.2) := ⟨_, rfl⟩
  rw [← hD] at C ⊢
  have CC := Lib.hid C
  have GA := Lib.hid (show w.grownBy wA (some g) from grown_of_still sA)
  have ZA := Lib.hid bA.lt
  clear hA sA bA rA hu r hgl hD C
  go_enter Tryd.func60, Tryd.ntmps60
  go_upto_region 1 with fail
  rw [show (w.alloc (.cells #[.int .i64 0, .int .i64 0, .slice none 0 0, .string ⟨#[]⟩, .slice none 0 0, .slice none 0 0] 26)) = wA from HA.out.symm]
  go_wp2_with fail
  refine CC.out.mono ?_
  rintro e w3 ⟨⟨cs, rfl, h6, hall, p', r3, h3⟩, g3⟩
  have B3 : Hid (Blk w3 w.heap.size 26 cellsZ) := Lib.hid ((g3.block _ BA.out.lt (fun e => by have := HGL.out; cases e; omega)).trans BA.out)
  have H6 := Lib.hid h6
  have HALL := Lib.hid hall
  have FIN := Lib.hid (dv_fin (old := #[]) GA.out ZA.out HGL.out g3 h6 hall r3 h3)
  clear h6 hall r3 h3 g3 CC
  go_wp2_with (guard_target =~ wpList _ _ _ (Oper.mk none (Op.store _ _ _) _ _ _ _ :: _) _ _; go_must (refine wpList_store_rowTo rfl 26 (.tmp 6) (.tmp 80) rfl rfl w.heap.size cs.toArray rfl rfl 26 _ B3.out (by rw [sizeValue]; simp [H6.out]) (by simp [H6.out, cellsZ]) HALL.out ?_))
  (try simp only [Exit.inBlock, Exit.then])
  refine bodyPost_ret (results_cell_row rfl _ _ w.heap.size _ _ _ _ rfl (setRow_heap w3 _ _ _ _ _ B3.out) HU.out rfl (by rw [sizeValue]; simp [H6.out])) rfl ?_
  exact FIN.out

set_option maxRecDepth 100000 in
set_option maxHeartbeats 1600000 in
theorem do_210 {w : World} {B g : Nat} {A : Option Addr} {N c : Nat} {bs : List UInt8} {p : Nat} (r : DRd w B g A N c bs p 0) (depth : Int) :
    Calls Tryd.prog 60 #[.pointer (some ⟨g, 0, none⟩), .int .i64 210, .int .i64 depth] w (DVPost w B g A N c bs ((nuD 210 (bs.drop p)).1, .mk 3 (nuD 210 (bs.drop p)).2.1 [] ByteArray.empty [] [], (nuD 210 (bs.drop p)).2.2)) := by
  obtain ⟨wA, hA⟩ : ∃ wA, wA = w.alloc (.cells cellsZ 26) := ⟨_, rfl⟩
  have sA : Still w wA := by rw [hA]; exact (Still.refl w).alloc (Nat.le_refl _) _
  have bA : Blk wA w.heap.size 26 cellsZ := by rw [hA]; exact Blk.new _ _ _
  have hgl := r.blk.lt
  have rA := r.still sA
  obtain ⟨fs, hu⟩ := underValue
  have HU := Lib.hid hu
  have BA := Lib.hid bA
  have HA := Lib.hid hA
  have SA := Lib.hid sA
  have HGL := Lib.hid hgl
  have C : Calls Tryd.prog 76 #[.pointer (some ⟨g, 0, none⟩), .int .i64 4, .int .i64 (-32768)] wA (DVPost wA B g A N c bs ((nuD 210 (bs.drop p)).1, .mk 3 (nuD 210 (bs.drop p)).2.1 [] ByteArray.empty [] [], (nuD 210 (bs.drop p)).2.2)) := by
    by_cases hs : (bs.drop p).length < 4
    · exact db_210_no rA hs
    · exact db_210_yes rA hs
  obtain ⟨D, hD⟩ : ∃ D : Int × Tr × List UInt8, D = ((nuD 210 (bs.drop p)).1, .mk 3 (nuD 210 (bs.drop p)).2.1 [] ByteArray.empty [] [], (nuD 210 (bs.drop p)).2.2) := ⟨_, rfl⟩
  rw [← hD] at C ⊢
  have CC := Lib.hid C
  have GA := Lib.hid (show w.grownBy wA (some g) from grown_of_still sA)
  have ZA := Lib.hid bA.lt
  clear hA sA bA rA hu r hgl hD C
  go_enter Tryd.func60, Tryd.ntmps60
  go_upto_region 1 with fail
  rw [show (w.alloc (.cells #[.int .i64 0, .int .i64 0, .slice none 0 0, .string ⟨#[]⟩, .slice none 0 0, .slice none 0 0] 26)) = wA from HA.out.symm]
  go_wp2_with fail
  refine CC.out.mono ?_
  rintro e w3 ⟨⟨cs, rfl, h6, hall, p', r3, h3⟩, g3⟩
  have B3 : Hid (Blk w3 w.heap.size 26 cellsZ) := Lib.hid ((g3.block _ BA.out.lt (fun e => by have := HGL.out; cases e; omega)).trans BA.out)
  have H6 := Lib.hid h6
  have HALL := Lib.hid hall
  have FIN := Lib.hid (dv_fin (old := #[]) GA.out ZA.out HGL.out g3 h6 hall r3 h3)
  clear h6 hall r3 h3 g3 CC
  go_wp2_with (guard_target =~ wpList _ _ _ (Oper.mk none (Op.store _ _ _) _ _ _ _ :: _) _ _; go_must (refine wpList_store_rowTo rfl 26 (.tmp 6) (.tmp 84) rfl rfl w.heap.size cs.toArray rfl rfl 26 _ B3.out (by rw [sizeValue]; simp [H6.out]) (by simp [H6.out, cellsZ]) HALL.out ?_))
  (try simp only [Exit.inBlock, Exit.then])
  refine bodyPost_ret (results_cell_row rfl _ _ w.heap.size _ _ _ _ rfl (setRow_heap w3 _ _ _ _ _ B3.out) HU.out rfl (by rw [sizeValue]; simp [H6.out])) rfl ?_
  exact FIN.out

set_option maxRecDepth 100000 in
set_option maxHeartbeats 1600000 in
theorem do_211 {w : World} {B g : Nat} {A : Option Addr} {N c : Nat} {bs : List UInt8} {p : Nat} (r : DRd w B g A N c bs p 0) (depth : Int) :
    Calls Tryd.prog 60 #[.pointer (some ⟨g, 0, none⟩), .int .i64 211, .int .i64 depth] w (DVPost w B g A N c bs ((nuD 211 (bs.drop p)).1, .mk 3 (nuD 211 (bs.drop p)).2.1 [] ByteArray.empty [] [], (nuD 211 (bs.drop p)).2.2)) := by
  obtain ⟨wA, hA⟩ : ∃ wA, wA = w.alloc (.cells cellsZ 26) := ⟨_, rfl⟩
  have sA : Still w wA := by rw [hA]; exact (Still.refl w).alloc (Nat.le_refl _) _
  have bA : Blk wA w.heap.size 26 cellsZ := by rw [hA]; exact Blk.new _ _ _
  have hgl := r.blk.lt
  have rA := r.still sA
  obtain ⟨fs, hu⟩ := underValue
  have HU := Lib.hid hu
  have BA := Lib.hid bA
  have HA := Lib.hid hA
  have SA := Lib.hid sA
  have HGL := Lib.hid hgl
  have C : Calls Tryd.prog 76 #[.pointer (some ⟨g, 0, none⟩), .int .i64 8, .int .i64 (-2147483648)] wA (DVPost wA B g A N c bs ((nuD 211 (bs.drop p)).1, .mk 3 (nuD 211 (bs.drop p)).2.1 [] ByteArray.empty [] [], (nuD 211 (bs.drop p)).2.2)) := by
    by_cases hs : (bs.drop p).length < 8
    · exact db_211_no rA hs
    · exact db_211_yes rA hs
  obtain ⟨D, hD⟩ : ∃ D : Int × Tr × List UInt8, D = ((nuD 211 (bs.drop p)).1, .mk 3 (nuD 211 (bs.drop p)).2.1 [] ByteArray.empty [] [], (nuD 211 (bs.drop p)).2.2) := ⟨_, rfl⟩
  rw [← hD] at C ⊢
  have CC := Lib.hid C
  have GA := Lib.hid (show w.grownBy wA (some g) from grown_of_still sA)
  have ZA := Lib.hid bA.lt
  clear hA sA bA rA hu r hgl hD C
  go_enter Tryd.func60, Tryd.ntmps60
  go_upto_region 1 with fail
  rw [show (w.alloc (.cells #[.int .i64 0, .int .i64 0, .slice none 0 0, .string ⟨#[]⟩, .slice none 0 0, .slice none 0 0] 26)) = wA from HA.out.symm]
  go_wp2_with fail
  refine CC.out.mono ?_
  rintro e w3 ⟨⟨cs, rfl, h6, hall, p', r3, h3⟩, g3⟩
  have B3 : Hid (Blk w3 w.heap.size 26 cellsZ) := Lib.hid ((g3.block _ BA.out.lt (fun e => by have := HGL.out; cases e; omega)).trans BA.out)
  have H6 := Lib.hid h6
  have HALL := Lib.hid hall
  have FIN := Lib.hid (dv_fin (old := #[]) GA.out ZA.out HGL.out g3 h6 hall r3 h3)
  clear h6 hall r3 h3 g3 CC
  go_wp2_with (guard_target =~ wpList _ _ _ (Oper.mk none (Op.store _ _ _) _ _ _ _ :: _) _ _; go_must (refine wpList_store_rowTo rfl 26 (.tmp 6) (.tmp 88) rfl rfl w.heap.size cs.toArray rfl rfl 26 _ B3.out (by rw [sizeValue]; simp [H6.out]) (by simp [H6.out, cellsZ]) HALL.out ?_))
  (try simp only [Exit.inBlock, Exit.then])
  refine bodyPost_ret (results_cell_row rfl _ _ w.heap.size _ _ _ _ rfl (setRow_heap w3 _ _ _ _ _ B3.out) HU.out rfl (by rw [sizeValue]; simp [H6.out])) rfl ?_
  exact FIN.out

set_option maxRecDepth 100000 in
set_option maxHeartbeats 1600000 in
theorem do_207_no {w : World} {B g : Nat} {A : Option Addr} {N c : Nat} {bs : List UInt8} {p : Nat} (r : DRd w B g A N c bs p 0) (depth : Int) (hs : (bs.drop p).length < 8) :
    Calls Tryd.prog 60 #[.pointer (some ⟨g, 0, none⟩), .int .i64 207, .int .i64 depth] w (DVPost w B g A N c bs ((nuD 207 (bs.drop p)).1, .mk 3 (nuD 207 (bs.drop p)).2.1 [] ByteArray.empty [] [], (nuD 207 (bs.drop p)).2.2)) := by
  obtain ⟨wA, hA⟩ : ∃ wA, wA = w.alloc (.cells cellsZ 26) := ⟨_, rfl⟩
  have sA : Still w wA := by rw [hA]; exact (Still.refl w).alloc (Nat.le_refl _) _
  have bA : Blk wA w.heap.size 26 cellsZ := by rw [hA]; exact Blk.new _ _ _
  have hgl := r.blk.lt
  have rA := r.still sA
  obtain ⟨fs, hu⟩ := underValue
  have HU := Lib.hid hu
  have BA := Lib.hid bA
  have HA := Lib.hid hA
  have SA := Lib.hid sA
  have HGL := Lib.hid hgl
  have hD : nuD 207 (bs.drop p) = (3, 0, []) := by unfold nuD; rw [show bh 207 = 8 from rfl, if_neg (by decide), if_pos hs]
  rw [hD]
  have TN := Lib.hid (rnm_no rA 8 (by have h1 := r.len; rw [List.length_drop] at hs; omega) (by omega) 4294967296)
  clear hA sA bA rA hu r hs hgl hD
  go_enter Tryd.func60, Tryd.ntmps60
  go_upto_region 1 with fail
  rw [show (w.alloc (.cells #[.int .i64 0, .int .i64 0, .slice none 0 0, .string ⟨#[]⟩, .slice none 0 0, .slice none 0 0] 26)) = wA from HA.out.symm]
  go_wp2_with fail
  refine TN.out.mono ?_
  rintro e w1 ⟨rfl, r1, g1⟩
  have R1 := Lib.hid r1
  have G1 := Lib.hid (grown_trans (grown_of_still SA.out) g1)
  have B1 : Hid (Blk w1 w.heap.size 26 cellsZ) := Lib.hid ((g1.block _ BA.out.lt (fun e => by have := HGL.out; cases e; omega)).trans BA.out)
  have k2 : w1.cell? ⟨g, 2, none⟩ = some (.int .i64 3) := r1.blk.cell 2
  clear r1 g1 TN BA HA SA
  go_wp2_with (guard_target =~ wpList _ _ _ (Oper.mk none (Op.store _ _ _) _ _ _ _ :: _) _ _; go_must (refine wpList_store_rowTo rfl 26 (.tmp 6) (.tmp 72) rfl rfl w.heap.size #[.int .i64 3, .int .i64 0, .slice none 0 0, .string ⟨#[]⟩, .slice none 0 0, .slice none 0 0] rfl rfl 26 _ B1.out (by rw [sizeValue]; first | rfl | simp) (by first | rfl | simp [cellsZ]) (by first | decide +kernel | simp [Value.oneCell']) ?_))
  (try simp only [Exit.inBlock, Exit.then])
  refine bodyPost_ret (results_cell_row rfl _ _ w.heap.size _ _ _ _ rfl (setRow_heap w1 _ _ _ _ _ B1.out) HU.out rfl (by rw [sizeValue]; first | rfl | simp)) rfl ?_
  exact dv_flat (cs := [.int .i64 3, .int .i64 0, .slice none 0 0, .string ⟨#[]⟩, .slice none 0 0, .slice none 0 0]) (D := (3, .mk 3 0 [] ByteArray.empty [] [], [])) G1.out (by have := B1.out.lt; omega) HGL.out rfl (by simp [Value.oneCell']) R1.out (fun h => absurd (show (3 : Int) = 0 from h) (by decide))

set_option maxRecDepth 100000 in
set_option maxHeartbeats 1600000 in
theorem do_207_lo {w : World} {B g : Nat} {A : Option Addr} {N c : Nat} {bs : List UInt8} {p : Nat} (r : DRd w B g A N c bs p 0) (depth : Int) (hs : ¬ (bs.drop p).length < 8) (x : Nat) (hx : x = leNum ((bs.drop p).take 8).reverse) (hl : x < 4294967296) :
    Calls Tryd.prog 60 #[.pointer (some ⟨g, 0, none⟩), .int .i64 207, .int .i64 depth] w (DVPost w B g A N c bs ((nuD 207 (bs.drop p)).1, .mk 3 (nuD 207 (bs.drop p)).2.1 [] ByteArray.empty [] [], (nuD 207 (bs.drop p)).2.2)) := by
  obtain ⟨wA, hA⟩ : ∃ wA, wA = w.alloc (.cells cellsZ 26) := ⟨_, rfl⟩
  have sA : Still w wA := by rw [hA]; exact (Still.refl w).alloc (Nat.le_refl _) _
  have bA : Blk wA w.heap.size 26 cellsZ := by rw [hA]; exact Blk.new _ _ _
  have hgl := r.blk.lt
  have rA := r.still sA
  obtain ⟨fs, hu⟩ := underValue
  have HU := Lib.hid hu
  have BA := Lib.hid bA
  have HA := Lib.hid hA
  have SA := Lib.hid sA
  have HGL := Lib.hid hgl
  have hb := leNum_bd (bs.drop p) 8
  have hpk : p + 8 ≤ N := by have h1 := r.len; rw [List.length_drop] at hs; have := r.at_; omega
  have TN := rnm_yes rA 8 hpk (by omega) (by omega) 4294967296 x hx (by omega)
  rw [← hx] at hb
  simp only [show (2 : Nat) ^ (8 * 8) = 18446744073709551616 from rfl] at hb
  have hD : nuD 207 (bs.drop p) = (if nt (decK false 8 x) = 207 then 0 else 4, decK false 8 x, bs.drop (p + 8)) := by
    unfold nuD
    rw [show bh 207 = 8 from rfl, if_neg (by decide), if_neg hs, ← hx, show decide (208 ≤ 207) = false from rfl, List.drop_drop]
  rw [hD]
  rw [decK_pos 8 x (by omega), iff_er _ x 4294967296 (nt_207 x (by omega)), if_pos hl]
  rw [if_pos hl] at TN
  have d1 : (x : Int) < 9223372036854775808 := by omega
  have d2 : (0 : Int) ≤ (x : Int) := by omega
  have d3 : ¬ (9223372036854775808 : Int) ≤ (x : Int) := by omega
  have TY := Lib.hid TN
  have HPK := Lib.hid hpk
  clear hA sA bA rA hu r hs hgl hD TN hx hpk
  go_enter Tryd.func60, Tryd.ntmps60
  go_upto_region 1 with fail
  rw [show (w.alloc (.cells #[.int .i64 0, .int .i64 0, .slice none 0 0, .string ⟨#[]⟩, .slice none 0 0, .slice none 0 0] 26)) = wA from HA.out.symm]
  go_wp2_with fail
  refine TY.out.mono ?_
  rintro e w1 ⟨rfl, r1, g1⟩
  have R1 := Lib.hid r1
  have G1 := Lib.hid (grown_trans (grown_of_still SA.out) g1)
  have B1 : Hid (Blk w1 w.heap.size 26 cellsZ) := Lib.hid ((g1.block _ BA.out.lt (fun e => by have := HGL.out; cases e; omega)).trans BA.out)
  have k2 : w1.cell? ⟨g, 2, none⟩ = some (.int .i64 4) := r1.blk.cell 2
  have f2 : w1.frozen? ⟨g, 2, none⟩ = false := r1.blk.frozen 2
  clear r1 g1 TY BA HA SA
  go_wp2_with (guard_target =~ wpList _ _ _ (Oper.mk none (Op.store _ _ _) _ _ _ _ :: _) _ _; go_must (refine wpList_store_rowTo rfl 26 (.tmp 6) (.tmp 72) rfl rfl w.heap.size #[.int .i64 3, .int .i64 (x : Int), .slice none 0 0, .string ⟨#[]⟩, .slice none 0 0, .slice none 0 0] rfl rfl 26 _ B1.out (by rw [sizeValue]; first | rfl | simp) (by first | rfl | simp [cellsZ]) (by first | decide +kernel | simp [Value.oneCell']) ?_))
  (try simp only [Exit.inBlock, Exit.then])
  refine bodyPost_ret (results_cell_row rfl _ _ w.heap.size _ _ _ _ rfl (setRow_heap w1 _ _ _ _ _ B1.out) HU.out rfl (by rw [sizeValue]; first | rfl | simp)) rfl ?_
  exact dv_flat (cs := [.int .i64 3, .int .i64 (x : Int), .slice none 0 0, .string ⟨#[]⟩, .slice none 0 0, .slice none 0 0]) (D := (4, .mk 3 (x : Int) [] ByteArray.empty [] [], bs.drop (p + 8))) G1.out (by have := B1.out.lt; omega) HGL.out rfl (by simp [Value.oneCell']) R1.out (fun h => absurd (show (4 : Int) = 0 from h) (by decide))

set_option maxRecDepth 100000 in
set_option maxHeartbeats 1600000 in
theorem do_207_ok {w : World} {B g : Nat} {A : Option Addr} {N c : Nat} {bs : List UInt8} {p : Nat} (r : DRd w B g A N c bs p 0) (depth : Int) (hs : ¬ (bs.drop p).length < 8) (x : Nat) (hx : x = leNum ((bs.drop p).take 8).reverse) (hl : ¬ x < 4294967296) (h63 : x < 9223372036854775808) :
    Calls Tryd.prog 60 #[.pointer (some ⟨g, 0, none⟩), .int .i64 207, .int .i64 depth] w (DVPost w B g A N c bs ((nuD 207 (bs.drop p)).1, .mk 3 (nuD 207 (bs.drop p)).2.1 [] ByteArray.empty [] [], (nuD 207 (bs.drop p)).2.2)) := by
  obtain ⟨wA, hA⟩ : ∃ wA, wA = w.alloc (.cells cellsZ 26) := ⟨_, rfl⟩
  have sA : Still w wA := by rw [hA]; exact (Still.refl w).alloc (Nat.le_refl _) _
  have bA : Blk wA w.heap.size 26 cellsZ := by rw [hA]; exact Blk.new _ _ _
  have hgl := r.blk.lt
  have rA := r.still sA
  obtain ⟨fs, hu⟩ := underValue
  have HU := Lib.hid hu
  have BA := Lib.hid bA
  have HA := Lib.hid hA
  have SA := Lib.hid sA
  have HGL := Lib.hid hgl
  have hb := leNum_bd (bs.drop p) 8
  have hpk : p + 8 ≤ N := by have h1 := r.len; rw [List.length_drop] at hs; have := r.at_; omega
  have TN := rnm_yes rA 8 hpk (by omega) (by omega) 4294967296 x hx (by omega)
  rw [← hx] at hb
  simp only [show (2 : Nat) ^ (8 * 8) = 18446744073709551616 from rfl] at hb
  have hD : nuD 207 (bs.drop p) = (if nt (decK false 8 x) = 207 then 0 else 4, decK false 8 x, bs.drop (p + 8)) := by
    unfold nuD
    rw [show bh 207 = 8 from rfl, if_neg (by decide), if_neg hs, ← hx, show decide (208 ≤ 207) = false from rfl, List.drop_drop]
  rw [hD]
  rw [decK_pos 8 x (by omega), iff_er _ x 4294967296 (nt_207 x (by omega)), if_neg hl]
  rw [if_neg hl] at TN
  obtain ⟨X, hX⟩ : ∃ X : Int, X = (x : Int) := ⟨_, rfl⟩
  have dq : decide ((9223372036854775808 : Int) ≤ X) = false := decide_eq_false (by omega)
  have ew : IntKind.i64.wrap X = X := by rw [IntKind.wrap_i64]; omega
  have ew2 : wrap64 X = X := by unfold wrap64; omega
  have XB := Lib.hid (show 0 ≤ X ∧ X ≤ 9223372036854775807 by omega)
  rw [← hX] at TN ⊢
  clear h63 hl
  have TY := Lib.hid TN
  have HPK := Lib.hid hpk
  clear hA sA bA rA hu r hs hgl hD TN hx hpk hb hX
  go_enter Tryd.func60, Tryd.ntmps60
  go_upto_region 1 with fail
  rw [show (w.alloc (.cells #[.int .i64 0, .int .i64 0, .slice none 0 0, .string ⟨#[]⟩, .slice none 0 0, .slice none 0 0] 26)) = wA from HA.out.symm]
  go_wp2_with fail
  refine TY.out.mono ?_
  rintro e w1 ⟨rfl, r1, g1⟩
  have R1 := Lib.hid r1
  have G1 := Lib.hid (grown_trans (grown_of_still SA.out) g1)
  have B1 : Hid (Blk w1 w.heap.size 26 cellsZ) := Lib.hid ((g1.block _ BA.out.lt (fun e => by have := HGL.out; cases e; omega)).trans BA.out)
  have k2 : w1.cell? ⟨g, 2, none⟩ = some (.int .i64 0) := r1.blk.cell 2
  have f2 : w1.frozen? ⟨g, 2, none⟩ = false := r1.blk.frozen 2
  clear r1 g1 TY BA HA SA
  go_wp2_with (guard_target =~ wpList _ _ _ (Oper.mk none (Op.store _ _ _) _ _ _ _ :: _) _ _; go_must (refine wpList_store_rowTo rfl 26 (.tmp 6) (.tmp 72) rfl rfl w.heap.size #[.int .i64 3, .int .i64 X, .slice none 0 0, .string ⟨#[]⟩, .slice none 0 0, .slice none 0 0] rfl rfl 26 _ B1.out (by rw [sizeValue]; first | rfl | simp) (by first | rfl | simp [cellsZ]) (by first | decide +kernel | simp [Value.oneCell']) ?_))
  (try simp only [Exit.inBlock, Exit.then])
  refine bodyPost_ret (results_cell_row rfl _ _ w.heap.size _ _ _ _ rfl (setRow_heap w1 _ _ _ _ _ B1.out) HU.out rfl (by rw [sizeValue]; first | rfl | simp)) rfl ?_
  exact dv_flat (cs := [.int .i64 3, .int .i64 X, .slice none 0 0, .string ⟨#[]⟩, .slice none 0 0, .slice none 0 0]) (D := (0, .mk 3 X [] ByteArray.empty [] [], bs.drop (p + 8))) G1.out (by have := B1.out.lt; omega) HGL.out rfl (by simp [Value.oneCell']) R1.out (fun _ => ⟨rfl, hasP_flat 3 _ _ (by omega) (by have := XB.out; omega) (by decide)⟩)

set_option maxRecDepth 100000 in
set_option maxHeartbeats 1600000 in
theorem do_207_hi {w : World} {B g : Nat} {A : Option Addr} {N c : Nat} {bs : List UInt8} {p : Nat} (r : DRd w B g A N c bs p 0) (depth : Int) (hs : ¬ (bs.drop p).length < 8) (x : Nat) (hx : x = leNum ((bs.drop p).take 8).reverse) (hl : ¬ x < 4294967296) (h63 : ¬ x < 9223372036854775808) :
    Calls Tryd.prog 60 #[.pointer (some ⟨g, 0, none⟩), .int .i64 207, .int .i64 depth] w (DVPost w B g A N c bs ((nuD 207 (bs.drop p)).1, .mk 3 (nuD 207 (bs.drop p)).2.1 [] ByteArray.empty [] [], (nuD 207 (bs.drop p)).2.2)) := by
  obtain ⟨wA, hA⟩ : ∃ wA, wA = w.alloc (.cells cellsZ 26) := ⟨_, rfl⟩
  have sA : Still w wA := by rw [hA]; exact (Still.refl w).alloc (Nat.le_refl _) _
  have bA : Blk wA w.heap.size 26 cellsZ := by rw [hA]; exact Blk.new _ _ _
  have hgl := r.blk.lt
  have rA := r.still sA
  obtain ⟨fs, hu⟩ := underValue
  have HU := Lib.hid hu
  have BA := Lib.hid bA
  have HA := Lib.hid hA
  have SA := Lib.hid sA
  have HGL := Lib.hid hgl
  have hb := leNum_bd (bs.drop p) 8
  have hpk : p + 8 ≤ N := by have h1 := r.len; rw [List.length_drop] at hs; have := r.at_; omega
  have TN := rnm_yes rA 8 hpk (by omega) (by omega) 4294967296 x hx (by omega)
  rw [← hx] at hb
  simp only [show (2 : Nat) ^ (8 * 8) = 18446744073709551616 from rfl] at hb
  have hD : nuD 207 (bs.drop p) = (if nt (decK false 8 x) = 207 then 0 else 4, decK false 8 x, bs.drop (p + 8)) := by
    unfold nuD
    rw [show bh 207 = 8 from rfl, if_neg (by decide), if_neg hs, ← hx, show decide (208 ≤ 207) = false from rfl, List.drop_drop]
  rw [hD]
  rw [if_neg (nt_207_no x (by omega) hb)]
  rw [if_neg hl] at TN
  generalize decK false 8 x = dk
  have d3 : (9223372036854775808 : Int) ≤ (x : Int) := by omega
  have ew : IntKind.i64.wrap (x : Int) = (x : Int) - 18446744073709551616 := by rw [IntKind.wrap_i64]; omega
  have ew2 : wrap64 (x : Int) = (x : Int) - 18446744073709551616 := by unfold wrap64; omega
  have TY := Lib.hid TN
  have HPK := Lib.hid hpk
  clear hA sA bA rA hu r hs hgl hD TN hx hpk
  go_enter Tryd.func60, Tryd.ntmps60
  go_upto_region 1 with fail
  rw [show (w.alloc (.cells #[.int .i64 0, .int .i64 0, .slice none 0 0, .string ⟨#[]⟩, .slice none 0 0, .slice none 0 0] 26)) = wA from HA.out.symm]
  go_wp2_with fail
  refine TY.out.mono ?_
  rintro e w1 ⟨rfl, r1, g1⟩
  have R1 := Lib.hid r1
  have G1 := Lib.hid (grown_trans (grown_of_still SA.out) g1)
  have B1 : Hid (Blk w1 w.heap.size 26 cellsZ) := Lib.hid ((g1.block _ BA.out.lt (fun e => by have := HGL.out; cases e; omega)).trans BA.out)
  have k2 : w1.cell? ⟨g, 2, none⟩ = some (.int .i64 0) := r1.blk.cell 2
  have f2 : w1.frozen? ⟨g, 2, none⟩ = false := r1.blk.frozen 2
  clear r1 g1 TY BA HA SA
  have FIN := Lib.hid (show DRd (w1.setCell ⟨g, 2, none⟩ (.int .i64 4)) B g A N c bs (p + 8) 4 ∧ w.grownBy (w1.setCell ⟨g, 2, none⟩ (.int .i64 4)) (some g) from
    ⟨R1.out.set (p + 8) 4 HPK.out (by have h := R1.out.blk.setc 2 (.int .i64 4); simpa using h) (grown_setc (World.grownBy.refl _ _)), grown_setc G1.out⟩)
  obtain ⟨w2, hw2⟩ : ∃ w2, w2 = w1.setCell ⟨g, 2, none⟩ (.int .i64 4) := ⟨_, rfl⟩
  have HW2 := Lib.hid hw2
  have B2 : Hid (Blk w2 w.heap.size 26 cellsZ) := Lib.hid (by rw [hw2]; exact B1.out.far (by have := HGL.out; simp only; omega) _)
  rw [← hw2] at FIN
  clear hw2
  go_upto_region 21 with fail
  rw [← HW2.out]
  go_wp2_with (guard_target =~ wpList _ _ _ (Oper.mk none (Op.store _ _ _) _ _ _ _ :: _) _ _; go_must (refine wpList_store_rowTo rfl 26 (.tmp 6) (.tmp 72) rfl rfl w.heap.size #[.int .i64 3, .int .i64 ((x : Int) - 18446744073709551616), .slice none 0 0, .string ⟨#[]⟩, .slice none 0 0, .slice none 0 0] rfl rfl 26 _ B2.out (by rw [sizeValue]; first | rfl | simp) (by first | rfl | simp [cellsZ]) (by first | decide +kernel | simp [Value.oneCell']) ?_))
  (try simp only [Exit.inBlock, Exit.then])
  refine bodyPost_ret (results_cell_row rfl _ _ w.heap.size _ _ _ _ rfl (setRow_heap w2 _ _ _ _ _ B2.out) HU.out rfl (by rw [sizeValue]; first | rfl | simp)) rfl ?_
  exact dv_flat (cs := [.int .i64 3, .int .i64 ((x : Int) - 18446744073709551616), .slice none 0 0, .string ⟨#[]⟩, .slice none 0 0, .slice none 0 0]) (D := (4, .mk 3 dk [] ByteArray.empty [] [], bs.drop (p + 8))) FIN.out.2 (by have := B2.out.lt; omega) HGL.out rfl (by simp [Value.oneCell']) FIN.out.1 (fun h => absurd (show (4 : Int) = 0 from h) (by decide))

end Go.Proofs.YtmpnehhndhepgaaDoor

/- The document's own reader of values: bytes and texts with a count. It proves no statement. -/


namespace Go.Proofs.YtmpnehhndhepgaaDoor
open Go.RowKit
set_option linter.unusedVariables false
set_option linter.unusedSimpArgs false

theorem st_196 (x : Nat) (h : x < 256) : st 4 x = 196 ↔ ¬ x < 0 := by rw [st4]; split <;> omega
theorem st_197 (x : Nat) (h : x < 65536) : st 4 x = 197 ↔ ¬ x < 256 := by rw [st4]; split <;> omega
theorem st_217 (x : Nat) (h : x < 256) : st 5 x = 217 ↔ ¬ x < 32 := by rw [st5]; split <;> (try split) <;> omega
theorem st_218 (x : Nat) (h : x < 65536) : st 5 x = 218 ↔ ¬ x < 256 := by rw [st5]; split <;> (try split) <;> omega
theorem st_220 (x : Nat) (h : x < 65536) : st 6 x = 220 ↔ ¬ x < 16 := by rw [st6]; split <;> omega
theorem st_222 (x : Nat) (h : x < 65536) : st 7 x = 222 ↔ ¬ x < 16 := by rw [st7]; split <;> omega
/-- A row of bytes of the call's own. -/
theorem readsP_own {w : World} {base n : Nat} {A : Option Addr} {c : Nat} {l : List UInt8} (h : w.ownsRow base 5 1 (.slice A n c) n (bytesV l)) : ReadsP w (fun b => base ≤ b) A n l := by
  have rd := Reads.of_own h
  refine ⟨rd.1, fun hn => ?_⟩
  obtain ⟨b, o, rfl, hb, hc⟩ := rd.2 hn
  exact ⟨b, o, rfl, (h.lt b rfl).1, (h.lt b rfl).2, hc⟩
/-- A count behind a tag. -/
theorem szD_cnt (kk t k lo : Nat) (hk : bh t = k) (h0 : k ≠ 0) (L : List UInt8) (x : Nat) (hx : x = leNum (L.take k).reverse) (h : st kk x = t ↔ ¬ x < lo) :
    szD kk t L = if L.length < k then (3, 0, L) else (if x < lo then 4 else 0, x, L.drop k) := by
  unfold szD
  rw [hk, if_neg h0, ← hx, iff_er _ x lo h]
theorem szD_short (kk t k : Nat) (hk : bh t = k) (h0 : k ≠ 0) (L : List UInt8) (h : L.length < k) : szD kk t L = (3, 0, L) := by
  unfold szD
  rw [hk, if_neg h0, if_pos h]
set_option maxRecDepth 100000 in
set_option maxHeartbeats 1600000 in
theorem do_196_A {w : World} {B g : Nat} {A : Option Addr} {N c : Nat} {bs : List UInt8} {p : Nat} (r : DRd w B g A N c bs p 0) (depth : Int) (hs : (bs.drop p).length < 1) :
    Calls Tryd.prog 60 #[.pointer (some ⟨g, 0, none⟩), .int .i64 196, .int .i64 depth] w (DVPost w B g A N c bs ((byD 196 (bs.drop p)).1, .mk 4 0 (byD 196 (bs.drop p)).2.1 ByteArray.empty [] [], (byD 196 (bs.drop p)).2.2)) := by
  obtain ⟨wA, hA⟩ : ∃ wA, wA = w.alloc (.cells cellsZ 26) := ⟨_, rfl⟩
  have sA : Still w wA := by rw [hA]; exact (Still.refl w).alloc (Nat.le_refl _) _
  have bA : Blk wA w.heap.size 26 cellsZ := by rw [hA]; exact Blk.new _ _ _
  have hgl := r.blk.lt
  have rA := r.still sA
  obtain ⟨fs, hu⟩ := underValue
  have HU := Lib.hid hu
  have BA := Lib.hid bA
  have HA := Lib.hid hA
  have SA := Lib.hid sA
  have HGL := Lib.hid hgl
  have hS := szD_short 4 196 1 rfl (by decide) (bs.drop p) hs
  have hD : byD 196 (bs.drop p) = (3, [], bs.drop p) := by unfold byD; rw [hS, if_pos (show (3 : Int) ≠ 0 by decide)]
  rw [hD]
  have TN := Lib.hid (rnm_no rA 1 (by have h1 := r.len; rw [List.length_drop] at hs; omega) (by omega) 0)
  clear hA sA bA rA hu r hs hgl hD hS
  go_enter Tryd.func60, Tryd.ntmps60
  go_upto_region 1 with fail
  rw [show (w.alloc (.cells #[.int .i64 0, .int .i64 0, .slice none 0 0, .string ⟨#[]⟩, .slice none 0 0, .slice none 0 0] 26)) = wA from HA.out.symm]
  go_wp2_with fail
  refine TN.out.mono ?_
  rintro e w1 ⟨rfl, r1, g1⟩
  have R1 := Lib.hid r1
  have G1 := Lib.hid (grown_trans (grown_of_still SA.out) g1)
  have B1 : Hid (Blk w1 w.heap.size 26 cellsZ) := Lib.hid ((g1.block _ BA.out.lt (fun e => by have := HGL.out; cases e; omega)).trans BA.out)
  clear r1 g1 TN BA HA SA
  have TK := Lib.hid (rtk_err R1.out (by decide) (0 : Int))
  go_wp2_with fail
  refine TK.out.mono ?_
  rintro e w2 ⟨rfl, s2⟩
  have R2 := Lib.hid (R1.out.still s2)
  have G2 := Lib.hid (grown_trans G1.out (grown_of_still s2))
  have B2 : Hid (Blk w2 w.heap.size 26 cellsZ) := Lib.hid (B1.out.still s2)
  clear s2 TK
  have CP := Lib.hid (copy_any none 0 0 [] w2 0 Reads.nil0 (by omega) (fun _ => ⟨rfl, rfl⟩))
  go_wp2_with fail
  refine CP.out.mono ?_
  rintro e w3 ⟨⟨v3, rfl, own3⟩, s3⟩
  obtain ⟨A3, c3, rfl, f1, f2, f3⟩ := own_form own3
  have R3 := Lib.hid (R2.out.still s3)
  have B3 : Hid (Blk w3 w.heap.size 26 cellsZ) := Lib.hid (B2.out.still s3)
  have G3 := Lib.hid (grown_of_still (r := some g) s3)
  clear own3 f1 f2 f3 s3 CP
  go_wp2_with (guard_target =~ wpList _ _ _ (Oper.mk none (Op.store _ _ _) _ _ _ _ :: _) _ _; go_must (refine wpList_store_rowTo rfl 26 (.tmp 6) (.tmp 26) rfl rfl w.heap.size #[.int .i64 4, .int .i64 0, .slice A3 0 c3, .string ⟨#[]⟩, .slice none 0 0, .slice none 0 0] rfl rfl 26 _ B3.out (by rw [sizeValue]; first | rfl | simp) (by first | rfl | simp [cellsZ]) (by first | decide +kernel | simp [Value.oneCell']) ?_))
  (try simp only [Exit.inBlock, Exit.then])
  refine bodyPost_ret (results_cell_row rfl _ _ w.heap.size _ _ _ _ rfl (setRow_heap w3 _ _ _ _ _ B3.out) HU.out rfl (by rw [sizeValue]; first | rfl | simp)) rfl ?_
  exact dv_fin (old := #[]) (cs := [.int .i64 4, .int .i64 0, .slice A3 0 c3, .string ⟨#[]⟩, .slice none 0 0, .slice none 0 0]) (D := (3, .mk 4 0 [] ByteArray.empty [] [], bs.drop p)) G2.out (by have := B2.out.lt; omega) HGL.out G3.out rfl (by simp [Value.oneCell']) R3.out (fun h => absurd (show (3 : Int) = 0 from h) (by decide))

set_option maxRecDepth 100000 in
set_option maxHeartbeats 1600000 in
theorem do_196_C {w : World} {B g : Nat} {A : Option Addr} {N c : Nat} {bs : List UInt8} {p : Nat} (r : DRd w B g A N c bs p 0) (depth : Int) (hs : ¬ (bs.drop p).length < 1) (x : Nat) (hx : x = leNum ((bs.drop p).take 1).reverse) (hl : ¬ x < 0) (hf : ((bs.drop p).drop 1).length < x) :
    Calls Tryd.prog 60 #[.pointer (some ⟨g, 0, none⟩), .int .i64 196, .int .i64 depth] w (DVPost w B g A N c bs ((byD 196 (bs.drop p)).1, .mk 4 0 (byD 196 (bs.drop p)).2.1 ByteArray.empty [] [], (byD 196 (bs.drop p)).2.2)) := by
  obtain ⟨wA, hA⟩ : ∃ wA, wA = w.alloc (.cells cellsZ 26) := ⟨_, rfl⟩
  have sA : Still w wA := by rw [hA]; exact (Still.refl w).alloc (Nat.le_refl _) _
  have bA : Blk wA w.heap.size 26 cellsZ := by rw [hA]; exact Blk.new _ _ _
  have hgl := r.blk.lt
  have rA := r.still sA
  obtain ⟨fs, hu⟩ := underValue
  have HU := Lib.hid hu
  have BA := Lib.hid bA
  have HA := Lib.hid hA
  have SA := Lib.hid sA
  have HGL := Lib.hid hgl
  have hb := leNum_bd (bs.drop p) 1
  have hpk : p + 1 ≤ N := by have h1 := r.len; rw [List.length_drop] at hs; have := r.at_; omega
  have TN := rnm_yes rA 1 hpk (by omega) (by omega) 0 x hx (by omega)
  rw [← hx] at hb
  simp only [show (2 : Nat) ^ (8 * 1) = 256 from rfl] at hb
  have hS := szD_cnt 4 196 1 0 rfl (by decide) (bs.drop p) x hx (st_196 x hb)
  rw [if_neg hs] at hS
  rw [if_neg hl] at hS TN
  have hD : byD 196 (bs.drop p) = (3, [], bs.drop p) := by unfold byD; rw [hS, if_neg (show ¬ (0 : Int) ≠ 0 by decide), if_pos hf]
  rw [hD]
  have HF := Lib.hid hf
  have DD := Lib.hid (show (bs.drop p).drop 1 = bs.drop (p + 1) from List.drop_drop)
  have LEN := Lib.hid (show ((bs.drop p).drop 1).length + (p + 1) = N by have h1 := r.len; simp only [List.length_drop]; omega)
  have TN' := Lib.hid TN
  have d1 : (x : Int) < 9223372036854775808 := by omega
  have d2 : (0 : Int) ≤ (x : Int) := by omega
  have XB := Lib.hid (show x ≤ 65536 by omega)
  clear hA sA bA rA hu r hs hgl hD hS TN hx hpk hb hl hf
  go_enter Tryd.func60, Tryd.ntmps60
  go_upto_region 1 with fail
  rw [show (w.alloc (.cells #[.int .i64 0, .int .i64 0, .slice none 0 0, .string ⟨#[]⟩, .slice none 0 0, .slice none 0 0] 26)) = wA from HA.out.symm]
  go_wp2_with fail
  refine TN'.out.mono ?_
  rintro e w1 ⟨rfl, r1, g1⟩
  have R1 := Lib.hid r1
  have G1 := Lib.hid (grown_trans (grown_of_still SA.out) g1)
  have B1 : Hid (Blk w1 w.heap.size 26 cellsZ) := Lib.hid ((g1.block _ BA.out.lt (fun e => by have := HGL.out; cases e; omega)).trans BA.out)
  clear r1 g1 TN' BA HA SA
  have TK := Lib.hid (rtk_no R1.out x (by have := HF.out; have := LEN.out; omega) (by have := XB.out; omega))
  go_wp2_with fail
  refine TK.out.mono ?_
  rintro e w2 ⟨rfl, r2, g2⟩
  have R2 := Lib.hid r2
  have G2 := Lib.hid (grown_trans G1.out g2)
  have B2 : Hid (Blk w2 w.heap.size 26 cellsZ) := Lib.hid ((g2.block _ B1.out.lt (fun e => by have := HGL.out; cases e; omega)).trans B1.out)
  clear r2 g2 TK
  have CP := Lib.hid (copy_any none 0 0 [] w2 0 Reads.nil0 (by omega) (fun _ => ⟨rfl, rfl⟩))
  go_wp2_with fail
  refine CP.out.mono ?_
  rintro e w3 ⟨⟨v3, rfl, own3⟩, s3⟩
  obtain ⟨A3, c3, rfl, f1, f2, f3⟩ := own_form own3
  have R3 := Lib.hid (R2.out.still s3)
  have B3 : Hid (Blk w3 w.heap.size 26 cellsZ) := Lib.hid (B2.out.still s3)
  have G3 := Lib.hid (grown_of_still (r := some g) s3)
  clear own3 f1 f2 f3 s3 CP
  go_wp2_with (guard_target =~ wpList _ _ _ (Oper.mk none (Op.store _ _ _) _ _ _ _ :: _) _ _; go_must (refine wpList_store_rowTo rfl 26 (.tmp 6) (.tmp 26) rfl rfl w.heap.size #[.int .i64 4, .int .i64 0, .slice A3 0 c3, .string ⟨#[]⟩, .slice none 0 0, .slice none 0 0] rfl rfl 26 _ B3.out (by rw [sizeValue]; first | rfl | simp) (by first | rfl | simp [cellsZ]) (by first | decide +kernel | simp [Value.oneCell']) ?_))
  (try simp only [Exit.inBlock, Exit.then])
  refine bodyPost_ret (results_cell_row rfl _ _ w.heap.size _ _ _ _ rfl (setRow_heap w3 _ _ _ _ _ B3.out) HU.out rfl (by rw [sizeValue]; first | rfl | simp)) rfl ?_
  exact dv_fin (old := #[]) (cs := [.int .i64 4, .int .i64 0, .slice A3 0 c3, .string ⟨#[]⟩, .slice none 0 0, .slice none 0 0]) (D := (3, .mk 4 0 [] ByteArray.empty [] [], bs.drop p)) G2.out (by have := B2.out.lt; omega) HGL.out G3.out rfl (by simp [Value.oneCell']) R3.out (fun h => absurd (show (3 : Int) = 0 from h) (by decide))

set_option maxRecDepth 100000 in
set_option maxHeartbeats 1600000 in
theorem do_196_D {w : World} {B g : Nat} {A : Option Addr} {N c : Nat} {bs : List UInt8} {p : Nat} (r : DRd w B g A N c bs p 0) (depth : Int) (hs : ¬ (bs.drop p).length < 1) (x : Nat) (hx : x = leNum ((bs.drop p).take 1).reverse) (hl : ¬ x < 0) (hf : ¬ ((bs.drop p).drop 1).length < x) :
    Calls Tryd.prog 60 #[.pointer (some ⟨g, 0, none⟩), .int .i64 196, .int .i64 depth] w (DVPost w B g A N c bs ((byD 196 (bs.drop p)).1, .mk 4 0 (byD 196 (bs.drop p)).2.1 ByteArray.empty [] [], (byD 196 (bs.drop p)).2.2)) := by
  obtain ⟨wA, hA⟩ : ∃ wA, wA = w.alloc (.cells cellsZ 26) := ⟨_, rfl⟩
  have sA : Still w wA := by rw [hA]; exact (Still.refl w).alloc (Nat.le_refl _) _
  have bA : Blk wA w.heap.size 26 cellsZ := by rw [hA]; exact Blk.new _ _ _
  have hgl := r.blk.lt
  have rA := r.still sA
  obtain ⟨fs, hu⟩ := underValue
  have HU := Lib.hid hu
  have BA := Lib.hid bA
  have HA := Lib.hid hA
  have SA := Lib.hid sA
  have HGL := Lib.hid hgl
  have hb := leNum_bd (bs.drop p) 1
  have hpk : p + 1 ≤ N := by have h1 := r.len; rw [List.length_drop] at hs; have := r.at_; omega
  have TN := rnm_yes rA 1 hpk (by omega) (by omega) 0 x hx (by omega)
  rw [← hx] at hb
  simp only [show (2 : Nat) ^ (8 * 1) = 256 from rfl] at hb
  have hS := szD_cnt 4 196 1 0 rfl (by decide) (bs.drop p) x hx (st_196 x hb)
  rw [if_neg hs] at hS
  rw [if_neg hl] at hS TN
  have hD : byD 196 (bs.drop p) = (0, ((bs.drop p).drop 1).take x, ((bs.drop p).drop 1).drop x) := by unfold byD; rw [hS, if_neg (show ¬ (0 : Int) ≠ 0 by decide), if_neg hf]
  rw [hD]
  have HF := Lib.hid hf
  have DD := Lib.hid (show (bs.drop p).drop 1 = bs.drop (p + 1) from List.drop_drop)
  have LEN := Lib.hid (show ((bs.drop p).drop 1).length + (p + 1) = N by have h1 := r.len; simp only [List.length_drop]; omega)
  have TN' := Lib.hid TN
  have d1 : (x : Int) < 9223372036854775808 := by omega
  have d2 : (0 : Int) ≤ (x : Int) := by omega
  have XB := Lib.hid (show x ≤ 65536 by omega)
  clear hA sA bA rA hu r hs hgl hD hS TN hx hpk hb hl hf
  obtain ⟨xs, hxs⟩ : ∃ xs, xs = ((bs.drop p).drop 1).take x := ⟨_, rfl⟩
  have HXS := Lib.hid hxs
  rw [← hxs]
  clear hxs
  go_enter Tryd.func60, Tryd.ntmps60
  go_upto_region 1 with fail
  rw [show (w.alloc (.cells #[.int .i64 0, .int .i64 0, .slice none 0 0, .string ⟨#[]⟩, .slice none 0 0, .slice none 0 0] 26)) = wA from HA.out.symm]
  go_wp2_with fail
  refine TN'.out.mono ?_
  rintro e w1 ⟨rfl, r1, g1⟩
  have R1 := Lib.hid r1
  have G1 := Lib.hid (grown_trans (grown_of_still SA.out) g1)
  have B1 : Hid (Blk w1 w.heap.size 26 cellsZ) := Lib.hid ((g1.block _ BA.out.lt (fun e => by have := HGL.out; cases e; omega)).trans BA.out)
  clear r1 g1 TN' BA HA SA
  have TK0 := rtk_yes R1.out x (by have := HF.out; have := LEN.out; omega)
  rw [← DD.out, ← HXS.out] at TK0
  have TK := Lib.hid TK0
  clear TK0
  go_wp2_with fail
  refine TK.out.mono ?_
  rintro e w2 ⟨⟨A2, c2, rfl, rd2, na2, _, _⟩, r2, g2⟩
  have R2 := Lib.hid r2
  have G2 := Lib.hid (grown_trans G1.out g2)
  have B2 : Hid (Blk w2 w.heap.size 26 cellsZ) := Lib.hid ((g2.block _ B1.out.lt (fun e => by have := HGL.out; cases e; omega)).trans B1.out)
  have RD2 := Lib.hid rd2
  have NA2 := Lib.hid na2
  clear r2 g2 TK rd2 na2
  have CP := Lib.hid (copy_any A2 x c2 xs w2 B RD2.out (by have := XB.out; omega) (fun e => NA2.out e))
  go_wp2_with fail
  refine CP.out.mono ?_
  rintro e w3 ⟨⟨v3, rfl, own3⟩, s3⟩
  obtain ⟨A3, c3, rfl, f1, f2, f3⟩ := own_form own3
  have R3 := Lib.hid (R2.out.still s3)
  have B3 : Hid (Blk w3 w.heap.size 26 cellsZ) := Lib.hid (B2.out.still s3)
  have G3 := Lib.hid (grown_of_still (r := some g) s3)
  have HP := Lib.hid (show HasP w3 (fun b => w2.heap.size ≤ b) (.mk 4 0 xs ByteArray.empty [] []) #[.int .i64 4, .int .i64 0, .slice A3 x c3, .string ⟨#[]⟩, .slice none 0 0, .slice none 0 0] from by
    unfold HasP
    refine ⟨A3, x, c3, none, 0, none, 0, rfl, by omega, by omega, ⟨readsP_own own3, by have := XB.out; omega, fun e => (f3 e).2⟩, by decide, ⟨⟨fun s h => by simp at h, fun h => absurd h (by simp)⟩, by simp⟩, by simp, fun h => absurd h (by simp)⟩)
  clear own3 f1 f2 f3 s3 CP
  go_wp2_with (guard_target =~ wpList _ _ _ (Oper.mk none (Op.store _ _ _) _ _ _ _ :: _) _ _; go_must (refine wpList_store_rowTo rfl 26 (.tmp 6) (.tmp 26) rfl rfl w.heap.size #[.int .i64 4, .int .i64 0, .slice A3 x c3, .string ⟨#[]⟩, .slice none 0 0, .slice none 0 0] rfl rfl 26 _ B3.out (by rw [sizeValue]; first | rfl | simp) (by first | rfl | simp [cellsZ]) (by first | decide +kernel | simp [Value.oneCell']) ?_))
  (try simp only [Exit.inBlock, Exit.then])
  refine bodyPost_ret (results_cell_row rfl _ _ w.heap.size _ _ _ _ rfl (setRow_heap w3 _ _ _ _ _ B3.out) HU.out rfl (by rw [sizeValue]; first | rfl | simp)) rfl ?_
  refine dv_fin (old := #[]) (cs := [.int .i64 4, .int .i64 0, .slice A3 x c3, .string ⟨#[]⟩, .slice none 0 0, .slice none 0 0]) (D := (0, .mk 4 0 xs ByteArray.empty [] [], ((bs.drop p).drop 1).drop x)) G2.out (by have := B2.out.lt; omega) HGL.out G3.out rfl (by simp [Value.oneCell']) R3.out (fun _ => ⟨?_, HP.out⟩)
  rw [DD.out, List.drop_drop]

set_option maxRecDepth 100000 in
set_option maxHeartbeats 1600000 in
theorem do_197_A {w : World} {B g : Nat} {A : Option Addr} {N c : Nat} {bs : List UInt8} {p : Nat} (r : DRd w B g A N c bs p 0) (depth : Int) (hs : (bs.drop p).length < 2) :
    Calls Tryd.prog 60 #[.pointer (some ⟨g, 0, none⟩), .int .i64 197, .int .i64 depth] w (DVPost w B g A N c bs ((byD 197 (bs.drop p)).1, .mk 4 0 (byD 197 (bs.drop p)).2.1 ByteArray.empty [] [], (byD 197 (bs.drop p)).2.2)) := by
  obtain ⟨wA, hA⟩ : ∃ wA, wA = w.alloc (.cells cellsZ 26) := ⟨_, rfl⟩
  have sA : Still w wA := by rw [hA]; exact (Still.refl w).alloc (Nat.le_refl _) _
  have bA : Blk wA w.heap.size 26 cellsZ := by rw [hA]; exact Blk.new _ _ _
  have hgl := r.blk.lt
  have rA := r.still sA
  obtain ⟨fs, hu⟩ := underValue
  have HU := Lib.hid hu
  have BA := Lib.hid bA
  have HA := Lib.hid hA
  have SA := Lib.hid sA
  have HGL := Lib.hid hgl
  have hS := szD_short 4 197 2 rfl (by decide) (bs.drop p) hs
  have hD : byD 197 (bs.drop p) = (3, [], bs.drop p) := by unfold byD; rw [hS, if_pos (show (3 : Int) ≠ 0 by decide)]
  rw [hD]
  have TN := Lib.hid (rnm_no rA 2 (by have h1 := r.len; rw [List.length_drop] at hs; omega) (by omega) 256)
  clear hA sA bA rA hu r hs hgl hD hS
  go_enter Tryd.func60, Tryd.ntmps60
  go_upto_region 1 with fail
  rw [show (w.alloc (.cells #[.int .i64 0, .int .i64 0, .slice none 0 0, .string ⟨#[]⟩, .slice none 0 0, .slice none 0 0] 26)) = wA from HA.out.symm]
  go_wp2_with fail
  refine TN.out.mono ?_
  rintro e w1 ⟨rfl, r1, g1⟩
  have R1 := Lib.hid r1
  have G1 := Lib.hid (grown_trans (grown_of_still SA.out) g1)
  have B1 : Hid (Blk w1 w.heap.size 26 cellsZ) := Lib.hid ((g1.block _ BA.out.lt (fun e => by have := HGL.out; cases e; omega)).trans BA.out)
  clear r1 g1 TN BA HA SA
  have TK := Lib.hid (rtk_err R1.out (by decide) (0 : Int))
  go_wp2_with fail
  refine TK.out.mono ?_
  rintro e w2 ⟨rfl, s2⟩
  have R2 := Lib.hid (R1.out.still s2)
  have G2 := Lib.hid (grown_trans G1.out (grown_of_still s2))
  have B2 : Hid (Blk w2 w.heap.size 26 cellsZ) := Lib.hid (B1.out.still s2)
  clear s2 TK
  have CP := Lib.hid (copy_any none 0 0 [] w2 0 Reads.nil0 (by omega) (fun _ => ⟨rfl, rfl⟩))
  go_wp2_with fail
  refine CP.out.mono ?_
  rintro e w3 ⟨⟨v3, rfl, own3⟩, s3⟩
  obtain ⟨A3, c3, rfl, f1, f2, f3⟩ := own_form own3
  have R3 := Lib.hid (R2.out.still s3)
  have B3 : Hid (Blk w3 w.heap.size 26 cellsZ) := Lib.hid (B2.out.still s3)
  have G3 := Lib.hid (grown_of_still (r := some g) s3)
  clear own3 f1 f2 f3 s3 CP
  go_wp2_with (guard_target =~ wpList _ _ _ (Oper.mk none (Op.store _ _ _) _ _ _ _ :: _) _ _; go_must (refine wpList_store_rowTo rfl 26 (.tmp 6) (.tmp 35) rfl rfl w.heap.size #[.int .i64 4, .int .i64 0, .slice A3 0 c3, .string ⟨#[]⟩, .slice none 0 0, .slice none 0 0] rfl rfl 26 _ B3.out (by rw [sizeValue]; first | rfl | simp) (by first | rfl | simp [cellsZ]) (by first | decide +kernel | simp [Value.oneCell']) ?_))
  (try simp only [Exit.inBlock, Exit.then])
  refine bodyPost_ret (results_cell_row rfl _ _ w.heap.size _ _ _ _ rfl (setRow_heap w3 _ _ _ _ _ B3.out) HU.out rfl (by rw [sizeValue]; first | rfl | simp)) rfl ?_
  exact dv_fin (old := #[]) (cs := [.int .i64 4, .int .i64 0, .slice A3 0 c3, .string ⟨#[]⟩, .slice none 0 0, .slice none 0 0]) (D := (3, .mk 4 0 [] ByteArray.empty [] [], bs.drop p)) G2.out (by have := B2.out.lt; omega) HGL.out G3.out rfl (by simp [Value.oneCell']) R3.out (fun h => absurd (show (3 : Int) = 0 from h) (by decide))

set_option maxRecDepth 100000 in
set_option maxHeartbeats 1600000 in
theorem do_197_B {w : World} {B g : Nat} {A : Option Addr} {N c : Nat} {bs : List UInt8} {p : Nat} (r : DRd w B g A N c bs p 0) (depth : Int) (hs : ¬ (bs.drop p).length < 2) (x : Nat) (hx : x = leNum ((bs.drop p).take 2).reverse) (hl : x < 256) :
    Calls Tryd.prog 60 #[.pointer (some ⟨g, 0, none⟩), .int .i64 197, .int .i64 depth] w (DVPost w B g A N c bs ((byD 197 (bs.drop p)).1, .mk 4 0 (byD 197 (bs.drop p)).2.1 ByteArray.empty [] [], (byD 197 (bs.drop p)).2.2)) := by
  obtain ⟨wA, hA⟩ : ∃ wA, wA = w.alloc (.cells cellsZ 26) := ⟨_, rfl⟩
  have sA : Still w wA := by rw [hA]; exact (Still.refl w).alloc (Nat.le_refl _) _
  have bA : Blk wA w.heap.size 26 cellsZ := by rw [hA]; exact Blk.new _ _ _
  have hgl := r.blk.lt
  have rA := r.still sA
  obtain ⟨fs, hu⟩ := underValue
  have HU := Lib.hid hu
  have BA := Lib.hid bA
  have HA := Lib.hid hA
  have SA := Lib.hid sA
  have HGL := Lib.hid hgl
  have hb := leNum_bd (bs.drop p) 2
  have hpk : p + 2 ≤ N := by have h1 := r.len; rw [List.length_drop] at hs; have := r.at_; omega
  have TN := rnm_yes rA 2 hpk (by omega) (by omega) 256 x hx (by omega)
  rw [← hx] at hb
  simp only [show (2 : Nat) ^ (8 * 2) = 65536 from rfl] at hb
  have hS := szD_cnt 4 197 2 256 rfl (by decide) (bs.drop p) x hx (st_197 x hb)
  rw [if_neg hs] at hS
  rw [if_pos hl] at hS TN
  have hD : byD 197 (bs.drop p) = (4, [], bs.drop p) := by unfold byD; rw [hS, if_pos (show (4 : Int) ≠ 0 by decide)]
  rw [hD]
  have TN' := Lib.hid TN
  have d1 : (x : Int) < 9223372036854775808 := by omega
  have d2 : (0 : Int) ≤ (x : Int) := by omega
  have XB := Lib.hid (show x ≤ 65536 by omega)
  clear hA sA bA rA hu r hs hgl hD hS TN hx hpk hb hl
  go_enter Tryd.func60, Tryd.ntmps60
  go_upto_region 1 with fail
  rw [show (w.alloc (.cells #[.int .i64 0, .int .i64 0, .slice none 0 0, .string ⟨#[]⟩, .slice none 0 0, .slice none 0 0] 26)) = wA from HA.out.symm]
  go_wp2_with fail
  refine TN'.out.mono ?_
  rintro e w1 ⟨rfl, r1, g1⟩
  have R1 := Lib.hid r1
  have G1 := Lib.hid (grown_trans (grown_of_still SA.out) g1)
  have B1 : Hid (Blk w1 w.heap.size 26 cellsZ) := Lib.hid ((g1.block _ BA.out.lt (fun e => by have := HGL.out; cases e; omega)).trans BA.out)
  clear r1 g1 TN' BA HA SA
  have TK := Lib.hid (rtk_err R1.out (by decide) ((x : Nat) : Int))
  go_wp2_with fail
  refine TK.out.mono ?_
  rintro e w2 ⟨rfl, s2⟩
  have R2 := Lib.hid (R1.out.still s2)
  have G2 := Lib.hid (grown_trans G1.out (grown_of_still s2))
  have B2 : Hid (Blk w2 w.heap.size 26 cellsZ) := Lib.hid (B1.out.still s2)
  clear s2 TK
  have CP := Lib.hid (copy_any none 0 0 [] w2 0 Reads.nil0 (by omega) (fun _ => ⟨rfl, rfl⟩))
  go_wp2_with fail
  refine CP.out.mono ?_
  rintro e w3 ⟨⟨v3, rfl, own3⟩, s3⟩
  obtain ⟨A3, c3, rfl, f1, f2, f3⟩ := own_form own3
  have R3 := Lib.hid (R2.out.still s3)
  have B3 : Hid (Blk w3 w.heap.size 26 cellsZ) := Lib.hid (B2.out.still s3)
  have G3 := Lib.hid (grown_of_still (r := some g) s3)
  clear own3 f1 f2 f3 s3 CP
  go_wp2_with (guard_target =~ wpList _ _ _ (Oper.mk none (Op.store _ _ _) _ _ _ _ :: _) _ _; go_must (refine wpList_store_rowTo rfl 26 (.tmp 6) (.tmp 35) rfl rfl w.heap.size #[.int .i64 4, .int .i64 0, .slice A3 0 c3, .string ⟨#[]⟩, .slice none 0 0, .slice none 0 0] rfl rfl 26 _ B3.out (by rw [sizeValue]; first | rfl | simp) (by first | rfl | simp [cellsZ]) (by first | decide +kernel | simp [Value.oneCell']) ?_))
  (try simp only [Exit.inBlock, Exit.then])
  refine bodyPost_ret (results_cell_row rfl _ _ w.heap.size _ _ _ _ rfl (setRow_heap w3 _ _ _ _ _ B3.out) HU.out rfl (by rw [sizeValue]; first | rfl | simp)) rfl ?_
  exact dv_fin (old := #[]) (cs := [.int .i64 4, .int .i64 0, .slice A3 0 c3, .string ⟨#[]⟩, .slice none 0 0, .slice none 0 0]) (D := (4, .mk 4 0 [] ByteArray.empty [] [], bs.drop p)) G2.out (by have := B2.out.lt; omega) HGL.out G3.out rfl (by simp [Value.oneCell']) R3.out (fun h => absurd (show (4 : Int) = 0 from h) (by decide))

set_option maxRecDepth 100000 in
set_option maxHeartbeats 1600000 in
theorem do_197_C {w : World} {B g : Nat} {A : Option Addr} {N c : Nat} {bs : List UInt8} {p : Nat} (r : DRd w B g A N c bs p 0) (depth : Int) (hs : ¬ (bs.drop p).length < 2) (x : Nat) (hx : x = leNum ((bs.drop p).take 2).reverse) (hl : ¬ x < 256) (hf : ((bs.drop p).drop 2).length < x) :
    Calls Tryd.prog 60 #[.pointer (some ⟨g, 0, none⟩), .int .i64 197, .int .i64 depth] w (DVPost w B g A N c bs ((byD 197 (bs.drop p)).1, .mk 4 0 (byD 197 (bs.drop p)).2.1 ByteArray.empty [] [], (byD 197 (bs.drop p)).2.2)) := by
  obtain ⟨wA, hA⟩ : ∃ wA, wA = w.alloc (.cells cellsZ 26) := ⟨_, rfl⟩
  have sA : Still w wA := by rw [hA]; exact (Still.refl w).alloc (Nat.le_refl _) _
  have bA : Blk wA w.heap.size 26 cellsZ := by rw [hA]; exact Blk.new _ _ _
  have hgl := r.blk.lt
  have rA := r.still sA
  obtain ⟨fs, hu⟩ := underValue
  have HU := Lib.hid hu
  have BA := Lib.hid bA
  have HA := Lib.hid hA
  have SA := Lib.hid sA
  have HGL := Lib.hid hgl
  have hb := leNum_bd (bs.drop p) 2
  have hpk : p + 2 ≤ N := by have h1 := r.len; rw [List.length_drop] at hs; have := r.at_; omega
  have TN := rnm_yes rA 2 hpk (by omega) (by omega) 256 x hx (by omega)
  rw [← hx] at hb
  simp only [show (2 : Nat) ^ (8 * 2) = 65536 from rfl] at hb
  have hS := szD_cnt 4 197 2 256 rfl (by decide) (bs.drop p) x hx (st_197 x hb)
  rw [if_neg hs] at hS
  rw [if_neg hl] at hS TN
  have hD : byD 197 (bs.drop p) = (3, [], bs.drop p) := by unfold byD; rw [hS, if_neg (show ¬ (0 : Int) ≠ 0 by decide), if_pos hf]
  rw [hD]
  have HF := Lib.hid hf
  have DD := Lib.hid (show (bs.drop p).drop 2 = bs.drop (p + 2) from List.drop_drop)
  have LEN := Lib.hid (show ((bs.drop p).drop 2).length + (p + 2) = N by have h1 := r.len; simp only [List.length_drop]; omega)
  have TN' := Lib.hid TN
  have d1 : (x : Int) < 9223372036854775808 := by omega
  have d2 : (0 : Int) ≤ (x : Int) := by omega
  have XB := Lib.hid (show x ≤ 65536 by omega)
  clear hA sA bA rA hu r hs hgl hD hS TN hx hpk hb hl hf
  go_enter Tryd.func60, Tryd.ntmps60
  go_upto_region 1 with fail
  rw [show (w.alloc (.cells #[.int .i64 0, .int .i64 0, .slice none 0 0, .string ⟨#[]⟩, .slice none 0 0, .slice none 0 0] 26)) = wA from HA.out.symm]
  go_wp2_with fail
  refine TN'.out.mono ?_
  rintro e w1 ⟨rfl, r1, g1⟩
  have R1 := Lib.hid r1
  have G1 := Lib.hid (grown_trans (grown_of_still SA.out) g1)
  have B1 : Hid (Blk w1 w.heap.size 26 cellsZ) := Lib.hid ((g1.block _ BA.out.lt (fun e => by have := HGL.out; cases e; omega)).trans BA.out)
  clear r1 g1 TN' BA HA SA
  have TK := Lib.hid (rtk_no R1.out x (by have := HF.out; have := LEN.out; omega) (by have := XB.out; omega))
  go_wp2_with fail
  refine TK.out.mono ?_
  rintro e w2 ⟨rfl, r2, g2⟩
  have R2 := Lib.hid r2
  have G2 := Lib.hid (grown_trans G1.out g2)
  have B2 : Hid (Blk w2 w.heap.size 26 cellsZ) := Lib.hid ((g2.block _ B1.out.lt (fun e => by have := HGL.out; cases e; omega)).trans B1.out)
  clear r2 g2 TK
  have CP := Lib.hid (copy_any none 0 0 [] w2 0 Reads.nil0 (by omega) (fun _ => ⟨rfl, rfl⟩))
  go_wp2_with fail
  refine CP.out.mono ?_
  rintro e w3 ⟨⟨v3, rfl, own3⟩, s3⟩
  obtain ⟨A3, c3, rfl, f1, f2, f3⟩ := own_form own3
  have R3 := Lib.hid (R2.out.still s3)
  have B3 : Hid (Blk w3 w.heap.size 26 cellsZ) := Lib.hid (B2.out.still s3)
  have G3 := Lib.hid (grown_of_still (r := some g) s3)
  clear own3 f1 f2 f3 s3 CP
  go_wp2_with (guard_target =~ wpList _ _ _ (Oper.mk none (Op.store _ _ _) _ _ _ _ :: _) _ _; go_must (refine wpList_store_rowTo rfl 26 (.tmp 6) (.tmp 35) rfl rfl w.heap.size #[.int .i64 4, .int .i64 0, .slice A3 0 c3, .string ⟨#[]⟩, .slice none 0 0, .slice none 0 0] rfl rfl 26 _ B3.out (by rw [sizeValue]; first | rfl | simp) (by first | rfl | simp [cellsZ]) (by first | decide +kernel | simp [Value.oneCell']) ?_))
  (try simp only [Exit.inBlock, Exit.then])
  refine bodyPost_ret (results_cell_row rfl _ _ w.heap.size _ _ _ _ rfl (setRow_heap w3 _ _ _ _ _ B3.out) HU.out rfl (by rw [sizeValue]; first | rfl | simp)) rfl ?_
  exact dv_fin (old := #[]) (cs := [.int .i64 4, .int .i64 0, .slice A3 0 c3, .string ⟨#[]⟩, .slice none 0 0, .slice none 0 0]) (D := (3, .mk 4 0 [] ByteArray.empty [] [], bs.drop p)) G2.out (by have := B2.out.lt; omega) HGL.out G3.out rfl (by simp [Value.oneCell']) R3.out (fun h => absurd (show (3 : Int) = 0 from h) (by decide))

set_option maxRecDepth 100000 in
set_option maxHeartbeats 1600000 in
theorem do_197_D {w : World} {B g : Nat} {A : Option Addr} {N c : Nat} {bs : List UInt8} {p : Nat} (r : DRd w B g A N c bs p 0) (depth : Int) (hs : ¬ (bs.drop p).length < 2) (x : Nat) (hx : x = leNum ((bs.drop p).take 2).reverse) (hl : ¬ x < 256) (hf : ¬ ((bs.drop p).drop 2).length < x) :
    Calls Tryd.prog 60 #[.pointer (some ⟨g, 0, none⟩), .int .i64 197, .int .i64 depth] w (DVPost w B g A N c bs ((byD 197 (bs.drop p)).1, .mk 4 0 (byD 197 (bs.drop p)).2.1 ByteArray.empty [] [], (byD 197 (bs.drop p)).2.2)) := by
  obtain ⟨wA, hA⟩ : ∃ wA, wA = w.alloc (.cells cellsZ 26) := ⟨_, rfl⟩
  have sA : Still w wA := by rw [hA]; exact (Still.refl w).alloc (Nat.le_refl _) _
  have bA : Blk wA w.heap.size 26 cellsZ := by rw [hA]; exact Blk.new _ _ _
  have hgl := r.blk.lt
  have rA := r.still sA
  obtain ⟨fs, hu⟩ := underValue
  have HU := Lib.hid hu
  have BA := Lib.hid bA
  have HA := Lib.hid hA
  have SA := Lib.hid sA
  have HGL := Lib.hid hgl
  have hb := leNum_bd (bs.drop p) 2
  have hpk : p + 2 ≤ N := by have h1 := r.len; rw [List.length_drop] at hs; have := r.at_; omega
  have TN := rnm_yes rA 2 hpk (by omega) (by omega) 256 x hx (by omega)
  rw [← hx] at hb
  simp only [show (2 : Nat) ^ (8 * 2) = 65536 from rfl] at hb
  have hS := szD_cnt 4 197 2 256 rfl (by decide) (bs.drop p) x hx (st_197 x hb)
  rw [if_neg hs] at hS
  rw [if_neg hl] at hS TN
  have hD : byD 197 (bs.drop p) = (0, ((bs.drop p).drop 2).take x, ((bs.drop p).drop 2).drop x) := by unfold byD; rw [hS, if_neg (show ¬ (0 : Int) ≠ 0 by decide), if_neg hf]
  rw [hD]
  have HF := Lib.hid hf
  have DD := Lib.hid (show (bs.drop p).drop 2 = bs.drop (p + 2) from List.drop_drop)
  have LEN := Lib.hid (show ((bs.drop p).drop 2).length + (p + 2) = N by have h1 := r.len; simp only [List.length_drop]; omega)
  have TN' := Lib.hid TN
  have d1 : (x : Int) < 9223372036854775808 := by omega
  have d2 : (0 : Int) ≤ (x : Int) := by omega
  have XB := Lib.hid (show x ≤ 65536 by omega)
  clear hA sA bA rA hu r hs hgl hD hS TN hx hpk hb hl hf
  obtain ⟨xs, hxs⟩ : ∃ xs, xs = ((bs.drop p).drop 2).take x := ⟨_, rfl⟩
  have HXS := Lib.hid hxs
  rw [← hxs]
  clear hxs
  go_enter Tryd.func60, Tryd.ntmps60
  go_upto_region 1 with fail
  rw [show (w.alloc (.cells #[.int .i64 0, .int .i64 0, .slice none 0 0, .string ⟨#[]⟩, .slice none 0 0, .slice none 0 0] 26)) = wA from HA.out.symm]
  go_wp2_with fail
  refine TN'.out.mono ?_
  rintro e w1 ⟨rfl, r1, g1⟩
  have R1 := Lib.hid r1
  have G1 := Lib.hid (grown_trans (grown_of_still SA.out) g1)
  have B1 : Hid (Blk w1 w.heap.size 26 cellsZ) := Lib.hid ((g1.block _ BA.out.lt (fun e => by have := HGL.out; cases e; omega)).trans BA.out)
  clear r1 g1 TN' BA HA SA
  have TK0 := rtk_yes R1.out x (by have := HF.out; have := LEN.out; omega)
  rw [← DD.out, ← HXS.out] at TK0
  have TK := Lib.hid TK0
  clear TK0
  go_wp2_with fail
  refine TK.out.mono ?_
  rintro e w2 ⟨⟨A2, c2, rfl, rd2, na2, _, _⟩, r2, g2⟩
  have R2 := Lib.hid r2
  have G2 := Lib.hid (grown_trans G1.out g2)
  have B2 : Hid (Blk w2 w.heap.size 26 cellsZ) := Lib.hid ((g2.block _ B1.out.lt (fun e => by have := HGL.out; cases e; omega)).trans B1.out)
  have RD2 := Lib.hid rd2
  have NA2 := Lib.hid na2
  clear r2 g2 TK rd2 na2
  have CP := Lib.hid (copy_any A2 x c2 xs w2 B RD2.out (by have := XB.out; omega) (fun e => NA2.out e))
  go_wp2_with fail
  refine CP.out.mono ?_
  rintro e w3 ⟨⟨v3, rfl, own3⟩, s3⟩
  obtain ⟨A3, c3, rfl, f1, f2, f3⟩ := own_form own3
  have R3 := Lib.hid (R2.out.still s3)
  have B3 : Hid (Blk w3 w.heap.size 26 cellsZ) := Lib.hid (B2.out.still s3)
  have G3 := Lib.hid (grown_of_still (r := some g) s3)
  have HP := Lib.hid (show HasP w3 (fun b => w2.heap.size ≤ b) (.mk 4 0 xs ByteArray.empty [] []) #[.int .i64 4, .int .i64 0, .slice A3 x c3, .string ⟨#[]⟩, .slice none 0 0, .slice none 0 0] from by
    unfold HasP
    refine ⟨A3, x, c3, none, 0, none, 0, rfl, by omega, by omega, ⟨readsP_own own3, by have := XB.out; omega, fun e => (f3 e).2⟩, by decide, ⟨⟨fun s h => by simp at h, fun h => absurd h (by simp)⟩, by simp⟩, by simp, fun h => absurd h (by simp)⟩)
  clear own3 f1 f2 f3 s3 CP
  go_wp2_with (guard_target =~ wpList _ _ _ (Oper.mk none (Op.store _ _ _) _ _ _ _ :: _) _ _; go_must (refine wpList_store_rowTo rfl 26 (.tmp 6) (.tmp 35) rfl rfl w.heap.size #[.int .i64 4, .int .i64 0, .slice A3 x c3, .string ⟨#[]⟩, .slice none 0 0, .slice none 0 0] rfl rfl 26 _ B3.out (by rw [sizeValue]; first | rfl | simp) (by first | rfl | simp [cellsZ]) (by first | decide +kernel | simp [Value.oneCell']) ?_))
  (try simp only [Exit.inBlock, Exit.then])
  refine bodyPost_ret (results_cell_row rfl _ _ w.heap.size _ _ _ _ rfl (setRow_heap w3 _ _ _ _ _ B3.out) HU.out rfl (by rw [sizeValue]; first | rfl | simp)) rfl ?_
  refine dv_fin (old := #[]) (cs := [.int .i64 4, .int .i64 0, .slice A3 x c3, .string ⟨#[]⟩, .slice none 0 0, .slice none 0 0]) (D := (0, .mk 4 0 xs ByteArray.empty [] [], ((bs.drop p).drop 2).drop x)) G2.out (by have := B2.out.lt; omega) HGL.out G3.out rfl (by simp [Value.oneCell']) R3.out (fun _ => ⟨?_, HP.out⟩)
  rw [DD.out, List.drop_drop]

set_option maxRecDepth 100000 in
set_option maxHeartbeats 1600000 in
theorem do_217_A {w : World} {B g : Nat} {A : Option Addr} {N c : Nat} {bs : List UInt8} {p : Nat} (r : DRd w B g A N c bs p 0) (depth : Int) (hs : (bs.drop p).length < 1) :
    Calls Tryd.prog 60 #[.pointer (some ⟨g, 0, none⟩), .int .i64 217, .int .i64 depth] w (DVPost w B g A N c bs ((txD 217 (bs.drop p)).1, .mk 5 0 [] ⟨(txD 217 (bs.drop p)).2.1.toArray⟩ [] [], (txD 217 (bs.drop p)).2.2)) := by
  obtain ⟨wA, hA⟩ : ∃ wA, wA = w.alloc (.cells cellsZ 26) := ⟨_, rfl⟩
  have sA : Still w wA := by rw [hA]; exact (Still.refl w).alloc (Nat.le_refl _) _
  have bA : Blk wA w.heap.size 26 cellsZ := by rw [hA]; exact Blk.new _ _ _
  have hgl := r.blk.lt
  have rA := r.still sA
  obtain ⟨fs, hu⟩ := underValue
  have HU := Lib.hid hu
  have BA := Lib.hid bA
  have HA := Lib.hid hA
  have SA := Lib.hid sA
  have HGL := Lib.hid hgl
  have hS := szD_short 5 217 1 rfl (by decide) (bs.drop p) hs
  have hD : txD 217 (bs.drop p) = (3, [], bs.drop p) := by unfold txD; rw [hS, if_pos (show (3 : Int) ≠ 0 by decide)]
  rw [hD]
  have TN := Lib.hid (rnm_no rA 1 (by have h1 := r.len; rw [List.length_drop] at hs; omega) (by omega) 32)
  clear hA sA bA rA hu r hs hgl hD hS
  go_enter Tryd.func60, Tryd.ntmps60
  go_upto_region 1 with fail
  rw [show (w.alloc (.cells #[.int .i64 0, .int .i64 0, .slice none 0 0, .string ⟨#[]⟩, .slice none 0 0, .slice none 0 0] 26)) = wA from HA.out.symm]
  go_wp2_with fail
  refine TN.out.mono ?_
  rintro e w1 ⟨rfl, r1, g1⟩
  have R1 := Lib.hid r1
  have G1 := Lib.hid (grown_trans (grown_of_still SA.out) g1)
  have B1 : Hid (Blk w1 w.heap.size 26 cellsZ) := Lib.hid ((g1.block _ BA.out.lt (fun e => by have := HGL.out; cases e; omega)).trans BA.out)
  clear r1 g1 TN BA HA SA
  have TK := Lib.hid (rtk_err R1.out (by decide) (0 : Int))
  go_wp2_with fail
  refine TK.out.mono ?_
  rintro e w2 ⟨rfl, s2⟩
  have R2 := Lib.hid (R1.out.still s2)
  have G2 := Lib.hid (grown_trans G1.out (grown_of_still s2))
  have B2 : Hid (Blk w2 w.heap.size 26 cellsZ) := Lib.hid (B1.out.still s2)
  clear s2 TK
  have CV := conv_reads (w := w2) (A := none) (B := 0) Reads.nil0 0
  go_wp2_with (guard_target =~ wpList _ _ _ (Oper.mk none (Op.store _ _ _) _ _ _ _ :: _) _ _; go_must (refine wpList_store_rowTo rfl 26 (.tmp 6) (.tmp 97) rfl rfl w.heap.size #[.int .i64 5, .int .i64 0, .slice none 0 0, .string ⟨([] : List UInt8).toArray⟩, .slice none 0 0, .slice none 0 0] rfl rfl 26 _ B2.out (by rw [sizeValue]; first | rfl | simp) (by first | rfl | simp [cellsZ]) (by first | decide +kernel | simp [Value.oneCell']) ?_))
  (try simp only [Exit.inBlock, Exit.then])
  refine bodyPost_ret (results_cell_row rfl _ _ w.heap.size _ _ _ _ rfl (setRow_heap w2 _ _ _ _ _ B2.out) HU.out rfl (by rw [sizeValue]; first | rfl | simp)) rfl ?_
  exact dv_flat (cs := [.int .i64 5, .int .i64 0, .slice none 0 0, .string ⟨([] : List UInt8).toArray⟩, .slice none 0 0, .slice none 0 0]) (D := (3, .mk 5 0 [] ⟨([] : List UInt8).toArray⟩ [] [], bs.drop p)) G2.out (by have := B2.out.lt; omega) HGL.out rfl (by simp [Value.oneCell']) R2.out (fun h => absurd (show (3 : Int) = 0 from h) (by decide))

set_option maxRecDepth 100000 in
set_option maxHeartbeats 1600000 in
theorem do_217_B {w : World} {B g : Nat} {A : Option Addr} {N c : Nat} {bs : List UInt8} {p : Nat} (r : DRd w B g A N c bs p 0) (depth : Int) (hs : ¬ (bs.drop p).length < 1) (x : Nat) (hx : x = leNum ((bs.drop p).take 1).reverse) (hl : x < 32) :
    Calls Tryd.prog 60 #[.pointer (some ⟨g, 0, none⟩), .int .i64 217, .int .i64 depth] w (DVPost w B g A N c bs ((txD 217 (bs.drop p)).1, .mk 5 0 [] ⟨(txD 217 (bs.drop p)).2.1.toArray⟩ [] [], (txD 217 (bs.drop p)).2.2)) := by
  obtain ⟨wA, hA⟩ : ∃ wA, wA = w.alloc (.cells cellsZ 26) := ⟨_, rfl⟩
  have sA : Still w wA := by rw [hA]; exact (Still.refl w).alloc (Nat.le_refl _) _
  have bA : Blk wA w.heap.size 26 cellsZ := by rw [hA]; exact Blk.new _ _ _
  have hgl := r.blk.lt
  have rA := r.still sA
  obtain ⟨fs, hu⟩ := underValue
  have HU := Lib.hid hu
  have BA := Lib.hid bA
  have HA := Lib.hid hA
  have SA := Lib.hid sA
  have HGL := Lib.hid hgl
  have hb := leNum_bd (bs.drop p) 1
  have hpk : p + 1 ≤ N := by have h1 := r.len; rw [List.length_drop] at hs; have := r.at_; omega
  have TN := rnm_yes rA 1 hpk (by omega) (by omega) 32 x hx (by omega)
  rw [← hx] at hb
  simp only [show (2 : Nat) ^ (8 * 1) = 256 from rfl] at hb
  have hS := szD_cnt 5 217 1 32 rfl (by decide) (bs.drop p) x hx (st_217 x hb)
  rw [if_neg hs] at hS
  rw [if_pos hl] at hS TN
  have hD : txD 217 (bs.drop p) = (4, [], bs.drop p) := by unfold txD; rw [hS, if_pos (show (4 : Int) ≠ 0 by decide)]
  rw [hD]
  have TN' := Lib.hid TN
  have d1 : (x : Int) < 9223372036854775808 := by omega
  have d2 : (0 : Int) ≤ (x : Int) := by omega
  have XB := Lib.hid (show x ≤ 65536 by omega)
  clear hA sA bA rA hu r hs hgl hD hS TN hx hpk hb hl
  go_enter Tryd.func60, Tryd.ntmps60
  go_upto_region 1 with fail
  rw [show (w.alloc (.cells #[.int .i64 0, .int .i64 0, .slice none 0 0, .string ⟨#[]⟩, .slice none 0 0, .slice none 0 0] 26)) = wA from HA.out.symm]
  go_wp2_with fail
  refine TN'.out.mono ?_
  rintro e w1 ⟨rfl, r1, g1⟩
  have R1 := Lib.hid r1
  have G1 := Lib.hid (grown_trans (grown_of_still SA.out) g1)
  have B1 : Hid (Blk w1 w.heap.size 26 cellsZ) := Lib.hid ((g1.block _ BA.out.lt (fun e => by have := HGL.out; cases e; omega)).trans BA.out)
  clear r1 g1 TN' BA HA SA
  have TK := Lib.hid (rtk_err R1.out (by decide) ((x : Nat) : Int))
  go_wp2_with fail
  refine TK.out.mono ?_
  rintro e w2 ⟨rfl, s2⟩
  have R2 := Lib.hid (R1.out.still s2)
  have G2 := Lib.hid (grown_trans G1.out (grown_of_still s2))
  have B2 : Hid (Blk w2 w.heap.size 26 cellsZ) := Lib.hid (B1.out.still s2)
  clear s2 TK
  have CV := conv_reads (w := w2) (A := none) (B := 0) Reads.nil0 0
  go_wp2_with (guard_target =~ wpList _ _ _ (Oper.mk none (Op.store _ _ _) _ _ _ _ :: _) _ _; go_must (refine wpList_store_rowTo rfl 26 (.tmp 6) (.tmp 97) rfl rfl w.heap.size #[.int .i64 5, .int .i64 0, .slice none 0 0, .string ⟨([] : List UInt8).toArray⟩, .slice none 0 0, .slice none 0 0] rfl rfl 26 _ B2.out (by rw [sizeValue]; first | rfl | simp) (by first | rfl | simp [cellsZ]) (by first | decide +kernel | simp [Value.oneCell']) ?_))
  (try simp only [Exit.inBlock, Exit.then])
  refine bodyPost_ret (results_cell_row rfl _ _ w.heap.size _ _ _ _ rfl (setRow_heap w2 _ _ _ _ _ B2.out) HU.out rfl (by rw [sizeValue]; first | rfl | simp)) rfl ?_
  exact dv_flat (cs := [.int .i64 5, .int .i64 0, .slice none 0 0, .string ⟨([] : List UInt8).toArray⟩, .slice none 0 0, .slice none 0 0]) (D := (4, .mk 5 0 [] ⟨([] : List UInt8).toArray⟩ [] [], bs.drop p)) G2.out (by have := B2.out.lt; omega) HGL.out rfl (by simp [Value.oneCell']) R2.out (fun h => absurd (show (4 : Int) = 0 from h) (by decide))

set_option maxRecDepth 100000 in
set_option maxHeartbeats 1600000 in
theorem do_217_C {w : World} {B g : Nat} {A : Option Addr} {N c : Nat} {bs : List UInt8} {p : Nat} (r : DRd w B g A N c bs p 0) (depth : Int) (hs : ¬ (bs.drop p).length < 1) (x : Nat) (hx : x = leNum ((bs.drop p).take 1).reverse) (hl : ¬ x < 32) (hf : ((bs.drop p).drop 1).length < x) :
    Calls Tryd.prog 60 #[.pointer (some ⟨g, 0, none⟩), .int .i64 217, .int .i64 depth] w (DVPost w B g A N c bs ((txD 217 (bs.drop p)).1, .mk 5 0 [] ⟨(txD 217 (bs.drop p)).2.1.toArray⟩ [] [], (txD 217 (bs.drop p)).2.2)) := by
  obtain ⟨wA, hA⟩ : ∃ wA, wA = w.alloc (.cells cellsZ 26) := ⟨_, rfl⟩
  have sA : Still w wA := by rw [hA]; exact (Still.refl w).alloc (Nat.le_refl _) _
  have bA : Blk wA w.heap.size 26 cellsZ := by rw [hA]; exact Blk.new _ _ _
  have hgl := r.blk.lt
  have rA := r.still sA
  obtain ⟨fs, hu⟩ := underValue
  have HU := Lib.hid hu
  have BA := Lib.hid bA
  have HA := Lib.hid hA
  have SA := Lib.hid sA
  have HGL := Lib.hid hgl
  have hb := leNum_bd (bs.drop p) 1
  have hpk : p + 1 ≤ N := by have h1 := r.len; rw [List.length_drop] at hs; have := r.at_; omega
  have TN := rnm_yes rA 1 hpk (by omega) (by omega) 32 x hx (by omega)
  rw [← hx] at hb
  simp only [show (2 : Nat) ^ (8 * 1) = 256 from rfl] at hb
  have hS := szD_cnt 5 217 1 32 rfl (by decide) (bs.drop p) x hx (st_217 x hb)
  rw [if_neg hs] at hS
  rw [if_neg hl] at hS TN
  have hD : txD 217 (bs.drop p) = (3, [], bs.drop p) := by unfold txD; rw [hS, if_neg (show ¬ (0 : Int) ≠ 0 by decide), if_pos hf]
  rw [hD]
  have HF := Lib.hid hf
  have DD := Lib.hid (show (bs.drop p).drop 1 = bs.drop (p + 1) from List.drop_drop)
  have LEN := Lib.hid (show ((bs.drop p).drop 1).length + (p + 1) = N by have h1 := r.len; simp only [List.length_drop]; omega)
  have TN' := Lib.hid TN
  have d1 : (x : Int) < 9223372036854775808 := by omega
  have d2 : (0 : Int) ≤ (x : Int) := by omega
  have XB := Lib.hid (show x ≤ 65536 by omega)
  clear hA sA bA rA hu r hs hgl hD hS TN hx hpk hb hl hf
  go_enter Tryd.func60, Tryd.ntmps60
  go_upto_region 1 with fail
  rw [show (w.alloc (.cells #[.int .i64 0, .int .i64 0, .slice none 0 0, .string ⟨#[]⟩, .slice none 0 0, .slice none 0 0] 26)) = wA from HA.out.symm]
  go_wp2_with fail
  refine TN'.out.mono ?_
  rintro e w1 ⟨rfl, r1, g1⟩
  have R1 := Lib.hid r1
  have G1 := Lib.hid (grown_trans (grown_of_still SA.out) g1)
  have B1 : Hid (Blk w1 w.heap.size 26 cellsZ) := Lib.hid ((g1.block _ BA.out.lt (fun e => by have := HGL.out; cases e; omega)).trans BA.out)
  clear r1 g1 TN' BA HA SA
  have TK := Lib.hid (rtk_no R1.out x (by have := HF.out; have := LEN.out; omega) (by have := XB.out; omega))
  go_wp2_with fail
  refine TK.out.mono ?_
  rintro e w2 ⟨rfl, r2, g2⟩
  have R2 := Lib.hid r2
  have G2 := Lib.hid (grown_trans G1.out g2)
  have B2 : Hid (Blk w2 w.heap.size 26 cellsZ) := Lib.hid ((g2.block _ B1.out.lt (fun e => by have := HGL.out; cases e; omega)).trans B1.out)
  clear r2 g2 TK
  have CV := conv_reads (w := w2) (A := none) (B := 0) Reads.nil0 0
  go_wp2_with (guard_target =~ wpList _ _ _ (Oper.mk none (Op.store _ _ _) _ _ _ _ :: _) _ _; go_must (refine wpList_store_rowTo rfl 26 (.tmp 6) (.tmp 97) rfl rfl w.heap.size #[.int .i64 5, .int .i64 0, .slice none 0 0, .string ⟨([] : List UInt8).toArray⟩, .slice none 0 0, .slice none 0 0] rfl rfl 26 _ B2.out (by rw [sizeValue]; first | rfl | simp) (by first | rfl | simp [cellsZ]) (by first | decide +kernel | simp [Value.oneCell']) ?_))
  (try simp only [Exit.inBlock, Exit.then])
  refine bodyPost_ret (results_cell_row rfl _ _ w.heap.size _ _ _ _ rfl (setRow_heap w2 _ _ _ _ _ B2.out) HU.out rfl (by rw [sizeValue]; first | rfl | simp)) rfl ?_
  exact dv_flat (cs := [.int .i64 5, .int .i64 0, .slice none 0 0, .string ⟨([] : List UInt8).toArray⟩, .slice none 0 0, .slice none 0 0]) (D := (3, .mk 5 0 [] ⟨([] : List UInt8).toArray⟩ [] [], bs.drop p)) G2.out (by have := B2.out.lt; omega) HGL.out rfl (by simp [Value.oneCell']) R2.out (fun h => absurd (show (3 : Int) = 0 from h) (by decide))

set_option maxRecDepth 100000 in
set_option maxHeartbeats 1600000 in
theorem do_217_D {w : World} {B g : Nat} {A : Option Addr} {N c : Nat} {bs : List UInt8} {p : Nat} (r : DRd w B g A N c bs p 0) (depth : Int) (hs : ¬ (bs.drop p).length < 1) (x : Nat) (hx : x = leNum ((bs.drop p).take 1).reverse) (hl : ¬ x < 32) (hf : ¬ ((bs.drop p).drop 1).length < x) :
    Calls Tryd.prog 60 #[.pointer (some ⟨g, 0, none⟩), .int .i64 217, .int .i64 depth] w (DVPost w B g A N c bs ((txD 217 (bs.drop p)).1, .mk 5 0 [] ⟨(txD 217 (bs.drop p)).2.1.toArray⟩ [] [], (txD 217 (bs.drop p)).2.2)) := by
  obtain ⟨wA, hA⟩ : ∃ wA, wA = w.alloc (.cells cellsZ 26) := ⟨_, rfl⟩
  have sA : Still w wA := by rw [hA]; exact (Still.refl w).alloc (Nat.le_refl _) _
  have bA : Blk wA w.heap.size 26 cellsZ := by rw [hA]; exact Blk.new _ _ _
  have hgl := r.blk.lt
  have rA := r.still sA
  obtain ⟨fs, hu⟩ := underValue
  have HU := Lib.hid hu
  have BA := Lib.hid bA
  have HA := Lib.hid hA
  have SA := Lib.hid sA
  have HGL := Lib.hid hgl
  have hb := leNum_bd (bs.drop p) 1
  have hpk : p + 1 ≤ N := by have h1 := r.len; rw [List.length_drop] at hs; have := r.at_; omega
  have TN := rnm_yes rA 1 hpk (by omega) (by omega) 32 x hx (by omega)
  rw [← hx] at hb
  simp only [show (2 : Nat) ^ (8 * 1) = 256 from rfl] at hb
  have hS := szD_cnt 5 217 1 32 rfl (by decide) (bs.drop p) x hx (st_217 x hb)
  rw [if_neg hs] at hS
  rw [if_neg hl] at hS TN
  have hD : txD 217 (bs.drop p) = (0, ((bs.drop p).drop 1).take x, ((bs.drop p).drop 1).drop x) := by unfold txD; rw [hS, if_neg (show ¬ (0 : Int) ≠ 0 by decide), if_neg hf]
  rw [hD]
  have HF := Lib.hid hf
  have DD := Lib.hid (show (bs.drop p).drop 1 = bs.drop (p + 1) from List.drop_drop)
  have LEN := Lib.hid (show ((bs.drop p).drop 1).length + (p + 1) = N by have h1 := r.len; simp only [List.length_drop]; omega)
  have TN' := Lib.hid TN
  have d1 : (x : Int) < 9223372036854775808 := by omega
  have d2 : (0 : Int) ≤ (x : Int) := by omega
  have XB := Lib.hid (show x ≤ 65536 by omega)
  clear hA sA bA rA hu r hs hgl hD hS TN hx hpk hb hl hf
  obtain ⟨xs, hxs⟩ : ∃ xs, xs = ((bs.drop p).drop 1).take x := ⟨_, rfl⟩
  have HXS := Lib.hid hxs
  rw [← hxs]
  clear hxs
  go_enter Tryd.func60, Tryd.ntmps60
  go_upto_region 1 with fail
  rw [show (w.alloc (.cells #[.int .i64 0, .int .i64 0, .slice none 0 0, .string ⟨#[]⟩, .slice none 0 0, .slice none 0 0] 26)) = wA from HA.out.symm]
  go_wp2_with fail
  refine TN'.out.mono ?_
  rintro e w1 ⟨rfl, r1, g1⟩
  have R1 := Lib.hid r1
  have G1 := Lib.hid (grown_trans (grown_of_still SA.out) g1)
  have B1 : Hid (Blk w1 w.heap.size 26 cellsZ) := Lib.hid ((g1.block _ BA.out.lt (fun e => by have := HGL.out; cases e; omega)).trans BA.out)
  clear r1 g1 TN' BA HA SA
  have TK0 := rtk_yes R1.out x (by have := HF.out; have := LEN.out; omega)
  rw [← DD.out, ← HXS.out] at TK0
  have TK := Lib.hid TK0
  clear TK0
  go_wp2_with fail
  refine TK.out.mono ?_
  rintro e w2 ⟨⟨A2, c2, rfl, rd2, na2, _, _⟩, r2, g2⟩
  have R2 := Lib.hid r2
  have G2 := Lib.hid (grown_trans G1.out g2)
  have B2 : Hid (Blk w2 w.heap.size 26 cellsZ) := Lib.hid ((g2.block _ B1.out.lt (fun e => by have := HGL.out; cases e; omega)).trans B1.out)
  have RD2 := Lib.hid rd2
  have NA2 := Lib.hid na2
  clear r2 g2 TK rd2 na2
  have CV := conv_reads RD2.out c2
  have XL := Lib.hid (show xs.length = x from RD2.out.1)
  go_wp2_with (guard_target =~ wpList _ _ _ (Oper.mk none (Op.store _ _ _) _ _ _ _ :: _) _ _; go_must (refine wpList_store_rowTo rfl 26 (.tmp 6) (.tmp 97) rfl rfl w.heap.size #[.int .i64 5, .int .i64 0, .slice none 0 0, .string ⟨xs.toArray⟩, .slice none 0 0, .slice none 0 0] rfl rfl 26 _ B2.out (by rw [sizeValue]; first | rfl | simp) (by first | rfl | simp [cellsZ]) (by first | decide +kernel | simp [Value.oneCell']) ?_))
  (try simp only [Exit.inBlock, Exit.then])
  refine bodyPost_ret (results_cell_row rfl _ _ w.heap.size _ _ _ _ rfl (setRow_heap w2 _ _ _ _ _ B2.out) HU.out rfl (by rw [sizeValue]; first | rfl | simp)) rfl ?_
  refine dv_flat (cs := [.int .i64 5, .int .i64 0, .slice none 0 0, .string ⟨xs.toArray⟩, .slice none 0 0, .slice none 0 0]) (D := (0, .mk 5 0 [] ⟨(xs : List UInt8).toArray⟩ [] [], ((bs.drop p).drop 1).drop x)) G2.out (by have := B2.out.lt; omega) HGL.out rfl (by simp [Value.oneCell']) R2.out (fun _ => ⟨?_, hasP_flat 5 _ _ (by omega) (by omega) (by have := XL.out; have := XB.out; show (⟨xs.toArray⟩ : ByteArray).data.size ≤ 1048576; simp; omega)⟩)
  rw [DD.out, List.drop_drop]

set_option maxRecDepth 100000 in
set_option maxHeartbeats 1600000 in
theorem do_218_A {w : World} {B g : Nat} {A : Option Addr} {N c : Nat} {bs : List UInt8} {p : Nat} (r : DRd w B g A N c bs p 0) (depth : Int) (hs : (bs.drop p).length < 2) :
    Calls Tryd.prog 60 #[.pointer (some ⟨g, 0, none⟩), .int .i64 218, .int .i64 depth] w (DVPost w B g A N c bs ((txD 218 (bs.drop p)).1, .mk 5 0 [] ⟨(txD 218 (bs.drop p)).2.1.toArray⟩ [] [], (txD 218 (bs.drop p)).2.2)) := by
  obtain ⟨wA, hA⟩ : ∃ wA, wA = w.alloc (.cells cellsZ 26) := ⟨_, rfl⟩
  have sA : Still w wA := by rw [hA]; exact (Still.refl w).alloc (Nat.le_refl _) _
  have bA : Blk wA w.heap.size 26 cellsZ := by rw [hA]; exact Blk.new _ _ _
  have hgl := r.blk.lt
  have rA := r.still sA
  obtain ⟨fs, hu⟩ := underValue
  have HU := Lib.hid hu
  have BA := Lib.hid bA
  have HA := Lib.hid hA
  have SA := Lib.hid sA
  have HGL := Lib.hid hgl
  have hS := szD_short 5 218 2 rfl (by decide) (bs.drop p) hs
  have hD : txD 218 (bs.drop p) = (3, [], bs.drop p) := by unfold txD; rw [hS, if_pos (show (3 : Int) ≠ 0 by decide)]
  rw [hD]
  have TN := Lib.hid (rnm_no rA 2 (by have h1 := r.len; rw [List.length_drop] at hs; omega) (by omega) 256)
  clear hA sA bA rA hu r hs hgl hD hS
  go_enter Tryd.func60, Tryd.ntmps60
  go_upto_region 1 with fail
  rw [show (w.alloc (.cells #[.int .i64 0, .int .i64 0, .slice none 0 0, .string ⟨#[]⟩, .slice none 0 0, .slice none 0 0] 26)) = wA from HA.out.symm]
  go_wp2_with fail
  refine TN.out.mono ?_
  rintro e w1 ⟨rfl, r1, g1⟩
  have R1 := Lib.hid r1
  have G1 := Lib.hid (grown_trans (grown_of_still SA.out) g1)
  have B1 : Hid (Blk w1 w.heap.size 26 cellsZ) := Lib.hid ((g1.block _ BA.out.lt (fun e => by have := HGL.out; cases e; omega)).trans BA.out)
  clear r1 g1 TN BA HA SA
  have TK := Lib.hid (rtk_err R1.out (by decide) (0 : Int))
  go_wp2_with fail
  refine TK.out.mono ?_
  rintro e w2 ⟨rfl, s2⟩
  have R2 := Lib.hid (R1.out.still s2)
  have G2 := Lib.hid (grown_trans G1.out (grown_of_still s2))
  have B2 : Hid (Blk w2 w.heap.size 26 cellsZ) := Lib.hid (B1.out.still s2)
  clear s2 TK
  have CV := conv_reads (w := w2) (A := none) (B := 0) Reads.nil0 0
  go_wp2_with (guard_target =~ wpList _ _ _ (Oper.mk none (Op.store _ _ _) _ _ _ _ :: _) _ _; go_must (refine wpList_store_rowTo rfl 26 (.tmp 6) (.tmp 106) rfl rfl w.heap.size #[.int .i64 5, .int .i64 0, .slice none 0 0, .string ⟨([] : List UInt8).toArray⟩, .slice none 0 0, .slice none 0 0] rfl rfl 26 _ B2.out (by rw [sizeValue]; first | rfl | simp) (by first | rfl | simp [cellsZ]) (by first | decide +kernel | simp [Value.oneCell']) ?_))
  (try simp only [Exit.inBlock, Exit.then])
  refine bodyPost_ret (results_cell_row rfl _ _ w.heap.size _ _ _ _ rfl (setRow_heap w2 _ _ _ _ _ B2.out) HU.out rfl (by rw [sizeValue]; first | rfl | simp)) rfl ?_
  exact dv_flat (cs := [.int .i64 5, .int .i64 0, .slice none 0 0, .string ⟨([] : List UInt8).toArray⟩, .slice none 0 0, .slice none 0 0]) (D := (3, .mk 5 0 [] ⟨([] : List UInt8).toArray⟩ [] [], bs.drop p)) G2.out (by have := B2.out.lt; omega) HGL.out rfl (by simp [Value.oneCell']) R2.out (fun h => absurd (show (3 : Int) = 0 from h) (by decide))

set_option maxRecDepth 100000 in
set_option maxHeartbeats 1600000 in
theorem do_218_B {w : World} {B g : Nat} {A : Option Addr} {N c : Nat} {bs : List UInt8} {p : Nat} (r : DRd w B g A N c bs p 0) (depth : Int) (hs : ¬ (bs.drop p).length < 2) (x : Nat) (hx : x = leNum ((bs.drop p).take 2).reverse) (hl : x < 256) :
    Calls Tryd.prog 60 #[.pointer (some ⟨g, 0, none⟩), .int .i64 218, .int .i64 depth] w (DVPost w B g A N c bs ((txD 218 (bs.drop p)).1, .mk 5 0 [] ⟨(txD 218 (bs.drop p)).2.1.toArray⟩ [] [], (txD 218 (bs.drop p)).2.2)) := by
  obtain ⟨wA, hA⟩ : ∃ wA, wA = w.alloc (.cells cellsZ 26) := ⟨_, rfl⟩
  have sA : Still w wA := by rw [hA]; exact (Still.refl w).alloc (Nat.le_refl _) _
  have bA : Blk wA w.heap.size 26 cellsZ := by rw [hA]; exact Blk.new _ _ _
  have hgl := r.blk.lt
  have rA := r.still sA
  obtain ⟨fs, hu⟩ := underValue
  have HU := Lib.hid hu
  have BA := Lib.hid bA
  have HA := Lib.hid hA
  have SA := Lib.hid sA
  have HGL := Lib.hid hgl
  have hb := leNum_bd (bs.drop p) 2
  have hpk : p + 2 ≤ N := by have h1 := r.len; rw [List.length_drop] at hs; have := r.at_; omega
  have TN := rnm_yes rA 2 hpk (by omega) (by omega) 256 x hx (by omega)
  rw [← hx] at hb
  simp only [show (2 : Nat) ^ (8 * 2) = 65536 from rfl] at hb
  have hS := szD_cnt 5 218 2 256 rfl (by decide) (bs.drop p) x hx (st_218 x hb)
  rw [if_neg hs] at hS
  rw [if_pos hl] at hS TN
  have hD : txD 218 (bs.drop p) = (4, [], bs.drop p) := by unfold txD; rw [hS, if_pos (show (4 : Int) ≠ 0 by decide)]
  rw [hD]
  have TN' := Lib.hid TN
  have d1 : (x : Int) < 9223372036854775808 := by omega
  have d2 : (0 : Int) ≤ (x : Int) := by omega
  have XB := Lib.hid (show x ≤ 65536 by omega)
  clear hA sA bA rA hu r hs hgl hD hS TN hx hpk hb hl
  go_enter Tryd.func60, Tryd.ntmps60
  go_upto_region 1 with fail
  rw [show (w.alloc (.cells #[.int .i64 0, .int .i64 0, .slice none 0 0, .string ⟨#[]⟩, .slice none 0 0, .slice none 0 0] 26)) = wA from HA.out.symm]
  go_wp2_with fail
  refine TN'.out.mono ?_
  rintro e w1 ⟨rfl, r1, g1⟩
  have R1 := Lib.hid r1
  have G1 := Lib.hid (grown_trans (grown_of_still SA.out) g1)
  have B1 : Hid (Blk w1 w.heap.size 26 cellsZ) := Lib.hid ((g1.block _ BA.out.lt (fun e => by have := HGL.out; cases e; omega)).trans BA.out)
  clear r1 g1 TN' BA HA SA
  have TK := Lib.hid (rtk_err R1.out (by decide) ((x : Nat) : Int))
  go_wp2_with fail
  refine TK.out.mono ?_
  rintro e w2 ⟨rfl, s2⟩
  have R2 := Lib.hid (R1.out.still s2)
  have G2 := Lib.hid (grown_trans G1.out (grown_of_still s2))
  have B2 : Hid (Blk w2 w.heap.size 26 cellsZ) := Lib.hid (B1.out.still s2)
  clear s2 TK
  have CV := conv_reads (w := w2) (A := none) (B := 0) Reads.nil0 0
  go_wp2_with (guard_target =~ wpList _ _ _ (Oper.mk none (Op.store _ _ _) _ _ _ _ :: _) _ _; go_must (refine wpList_store_rowTo rfl 26 (.tmp 6) (.tmp 106) rfl rfl w.heap.size #[.int .i64 5, .int .i64 0, .slice none 0 0, .string ⟨([] : List UInt8).toArray⟩, .slice none 0 0, .slice none 0 0] rfl rfl 26 _ B2.out (by rw [sizeValue]; first | rfl | simp) (by first | rfl | simp [cellsZ]) (by first | decide +kernel | simp [Value.oneCell']) ?_))
  (try simp only [Exit.inBlock, Exit.then])
  refine bodyPost_ret (results_cell_row rfl _ _ w.heap.size _ _ _ _ rfl (setRow_heap w2 _ _ _ _ _ B2.out) HU.out rfl (by rw [sizeValue]; first | rfl | simp)) rfl ?_
  exact dv_flat (cs := [.int .i64 5, .int .i64 0, .slice none 0 0, .string ⟨([] : List UInt8).toArray⟩, .slice none 0 0, .slice none 0 0]) (D := (4, .mk 5 0 [] ⟨([] : List UInt8).toArray⟩ [] [], bs.drop p)) G2.out (by have := B2.out.lt; omega) HGL.out rfl (by simp [Value.oneCell']) R2.out (fun h => absurd (show (4 : Int) = 0 from h) (by decide))

set_option maxRecDepth 100000 in
set_option maxHeartbeats 1600000 in
theorem do_218_C {w : World} {B g : Nat} {A : Option Addr} {N c : Nat} {bs : List UInt8} {p : Nat} (r : DRd w B g A N c bs p 0) (depth : Int) (hs : ¬ (bs.drop p).length < 2) (x : Nat) (hx : x = leNum ((bs.drop p).take 2).reverse) (hl : ¬ x < 256) (hf : ((bs.drop p).drop 2).length < x) :
    Calls Tryd.prog 60 #[.pointer (some ⟨g, 0, none⟩), .int .i64 218, .int .i64 depth] w (DVPost w B g A N c bs ((txD 218 (bs.drop p)).1, .mk 5 0 [] ⟨(txD 218 (bs.drop p)).2.1.toArray⟩ [] [], (txD 218 (bs.drop p)).2.2)) := by
  obtain ⟨wA, hA⟩ : ∃ wA, wA = w.alloc (.cells cellsZ 26) := ⟨_, rfl⟩
  have sA : Still w wA := by rw [hA]; exact (Still.refl w).alloc (Nat.le_refl _) _
  have bA : Blk wA w.heap.size 26 cellsZ := by rw [hA]; exact Blk.new _ _ _
  have hgl := r.blk.lt
  have rA := r.still sA
  obtain ⟨fs, hu⟩ := underValue
  have HU := Lib.hid hu
  have BA := Lib.hid bA
  have HA := Lib.hid hA
  have SA := Lib.hid sA
  have HGL := Lib.hid hgl
  have hb := leNum_bd (bs.drop p) 2
  have hpk : p + 2 ≤ N := by have h1 := r.len; rw [List.length_drop] at hs; have := r.at_; omega
  have TN := rnm_yes rA 2 hpk (by omega) (by omega) 256 x hx (by omega)
  rw [← hx] at hb
  simp only [show (2 : Nat) ^ (8 * 2) = 65536 from rfl] at hb
  have hS := szD_cnt 5 218 2 256 rfl (by decide) (bs.drop p) x hx (st_218 x hb)
  rw [if_neg hs] at hS
  rw [if_neg hl] at hS TN
  have hD : txD 218 (bs.drop p) = (3, [], bs.drop p) := by unfold txD; rw [hS, if_neg (show ¬ (0 : Int) ≠ 0 by decide), if_pos hf]
  rw [hD]
  have HF := Lib.hid hf
  have DD := Lib.hid (show (bs.drop p).drop 2 = bs.drop (p + 2) from List.drop_drop)
  have LEN := Lib.hid (show ((bs.drop p).drop 2).length + (p + 2) = N by have h1 := r.len; simp only [List.length_drop]; omega)
  have TN' := Lib.hid TN
  have d1 : (x : Int) < 9223372036854775808 := by omega
  have d2 : (0 : Int) ≤ (x : Int) := by omega
  have XB := Lib.hid (show x ≤ 65536 by omega)
  clear hA sA bA rA hu r hs hgl hD hS TN hx hpk hb hl hf
  go_enter Tryd.func60, Tryd.ntmps60
  go_upto_region 1 with fail
  rw [show (w.alloc (.cells #[.int .i64 0, .int .i64 0, .slice none 0 0, .string ⟨#[]⟩, .slice none 0 0, .slice none 0 0] 26)) = wA from HA.out.symm]
  go_wp2_with fail
  refine TN'.out.mono ?_
  rintro e w1 ⟨rfl, r1, g1⟩
  have R1 := Lib.hid r1
  have G1 := Lib.hid (grown_trans (grown_of_still SA.out) g1)
  have B1 : Hid (Blk w1 w.heap.size 26 cellsZ) := Lib.hid ((g1.block _ BA.out.lt (fun e => by have := HGL.out; cases e; omega)).trans BA.out)
  clear r1 g1 TN' BA HA SA
  have TK := Lib.hid (rtk_no R1.out x (by have := HF.out; have := LEN.out; omega) (by have := XB.out; omega))
  go_wp2_with fail
  refine TK.out.mono ?_
  rintro e w2 ⟨rfl, r2, g2⟩
  have R2 := Lib.hid r2
  have G2 := Lib.hid (grown_trans G1.out g2)
  have B2 : Hid (Blk w2 w.heap.size 26 cellsZ) := Lib.hid ((g2.block _ B1.out.lt (fun e => by have := HGL.out; cases e; omega)).trans B1.out)
  clear r2 g2 TK
  have CV := conv_reads (w := w2) (A := none) (B := 0) Reads.nil0 0
  go_wp2_with (guard_target =~ wpList _ _ _ (Oper.mk none (Op.store _ _ _) _ _ _ _ :: _) _ _; go_must (refine wpList_store_rowTo rfl 26 (.tmp 6) (.tmp 106) rfl rfl w.heap.size #[.int .i64 5, .int .i64 0, .slice none 0 0, .string ⟨([] : List UInt8).toArray⟩, .slice none 0 0, .slice none 0 0] rfl rfl 26 _ B2.out (by rw [sizeValue]; first | rfl | simp) (by first | rfl | simp [cellsZ]) (by first | decide +kernel | simp [Value.oneCell']) ?_))
  (try simp only [Exit.inBlock, Exit.then])
  refine bodyPost_ret (results_cell_row rfl _ _ w.heap.size _ _ _ _ rfl (setRow_heap w2 _ _ _ _ _ B2.out) HU.out rfl (by rw [sizeValue]; first | rfl | simp)) rfl ?_
  exact dv_flat (cs := [.int .i64 5, .int .i64 0, .slice none 0 0, .string ⟨([] : List UInt8).toArray⟩, .slice none 0 0, .slice none 0 0]) (D := (3, .mk 5 0 [] ⟨([] : List UInt8).toArray⟩ [] [], bs.drop p)) G2.out (by have := B2.out.lt; omega) HGL.out rfl (by simp [Value.oneCell']) R2.out (fun h => absurd (show (3 : Int) = 0 from h) (by decide))

set_option maxRecDepth 100000 in
set_option maxHeartbeats 1600000 in
theorem do_218_D {w : World} {B g : Nat} {A : Option Addr} {N c : Nat} {bs : List UInt8} {p : Nat} (r : DRd w B g A N c bs p 0) (depth : Int) (hs : ¬ (bs.drop p).length < 2) (x : Nat) (hx : x = leNum ((bs.drop p).take 2).reverse) (hl : ¬ x < 256) (hf : ¬ ((bs.drop p).drop 2).length < x) :
    Calls Tryd.prog 60 #[.pointer (some ⟨g, 0, none⟩), .int .i64 218, .int .i64 depth] w (DVPost w B g A N c bs ((txD 218 (bs.drop p)).1, .mk 5 0 [] ⟨(txD 218 (bs.drop p)).2.1.toArray⟩ [] [], (txD 218 (bs.drop p)).2.2)) := by
  obtain ⟨wA, hA⟩ : ∃ wA, wA = w.alloc (.cells cellsZ 26) := ⟨_, rfl⟩
  have sA : Still w wA := by rw [hA]; exact (Still.refl w).alloc (Nat.le_refl _) _
  have bA : Blk wA w.heap.size 26 cellsZ := by rw [hA]; exact Blk.new _ _ _
  have hgl := r.blk.lt
  have rA := r.still sA
  obtain ⟨fs, hu⟩ := underValue
  have HU := Lib.hid hu
  have BA := Lib.hid bA
  have HA := Lib.hid hA
  have SA := Lib.hid sA
  have HGL := Lib.hid hgl
  have hb := leNum_bd (bs.drop p) 2
  have hpk : p + 2 ≤ N := by have h1 := r.len; rw [List.length_drop] at hs; have := r.at_; omega
  have TN := rnm_yes rA 2 hpk (by omega) (by omega) 256 x hx (by omega)
  rw [← hx] at hb
  simp only [show (2 : Nat) ^ (8 * 2) = 65536 from rfl] at hb
  have hS := szD_cnt 5 218 2 256 rfl (by decide) (bs.drop p) x hx (st_218 x hb)
  rw [if_neg hs] at hS
  rw [if_neg hl] at hS TN
  have hD : txD 218 (bs.drop p) = (0, ((bs.drop p).drop 2).take x, ((bs.drop p).drop 2).drop x) := by unfold txD; rw [hS, if_neg (show ¬ (0 : Int) ≠ 0 by decide), if_neg hf]
  rw [hD]
  have HF := Lib.hid hf
  have DD := Lib.hid (show (bs.drop p).drop 2 = bs.drop (p + 2) from List.drop_drop)
  have LEN := Lib.hid (show ((bs.drop p).drop 2).length + (p + 2) = N by have h1 := r.len; simp only [List.length_drop]; omega)
  have TN' := Lib.hid TN
  have d1 : (x : Int) < 9223372036854775808 := by omega
  have d2 : (0 : Int) ≤ (x : Int) := by omega
  have XB := Lib.hid (show x ≤ 65536 by omega)
  clear hA sA bA rA hu r hs hgl hD hS TN hx hpk hb hl hf
  obtain ⟨xs, hxs⟩ : ∃ xs, xs = ((bs.drop p).drop 2).take x := ⟨_, rfl⟩
  have HXS := Lib.hid hxs
  rw [← hxs]
  clear hxs
  go_enter Tryd.func60, Tryd.ntmps60
  go_upto_region 1 with fail
  rw [show (w.alloc (.cells #[.int .i64 0, .int .i64 0, .slice none 0 0, .string ⟨#[]⟩, .slice none 0 0, .slice none 0 0] 26)) = wA from HA.out.symm]
  go_wp2_with fail
  refine TN'.out.mono ?_
  rintro e w1 ⟨rfl, r1, g1⟩
  have R1 := Lib.hid r1
  have G1 := Lib.hid (grown_trans (grown_of_still SA.out) g1)
  have B1 : Hid (Blk w1 w.heap.size 26 cellsZ) := Lib.hid ((g1.block _ BA.out.lt (fun e => by have := HGL.out; cases e; omega)).trans BA.out)
  clear r1 g1 TN' BA HA SA
  have TK0 := rtk_yes R1.out x (by have := HF.out; have := LEN.out; omega)
  rw [← DD.out, ← HXS.out] at TK0
  have TK := Lib.hid TK0
  clear TK0
  go_wp2_with fail
  refine TK.out.mono ?_
  rintro e w2 ⟨⟨A2, c2, rfl, rd2, na2, _, _⟩, r2, g2⟩
  have R2 := Lib.hid r2
  have G2 := Lib.hid (grown_trans G1.out g2)
  have B2 : Hid (Blk w2 w.heap.size 26 cellsZ) := Lib.hid ((g2.block _ B1.out.lt (fun e => by have := HGL.out; cases e; omega)).trans B1.out)
  have RD2 := Lib.hid rd2
  have NA2 := Lib.hid na2
  clear r2 g2 TK rd2 na2
  have CV := conv_reads RD2.out c2
  have XL := Lib.hid (show xs.length = x from RD2.out.1)
  go_wp2_with (guard_target =~ wpList _ _ _ (Oper.mk none (Op.store _ _ _) _ _ _ _ :: _) _ _; go_must (refine wpList_store_rowTo rfl 26 (.tmp 6) (.tmp 106) rfl rfl w.heap.size #[.int .i64 5, .int .i64 0, .slice none 0 0, .string ⟨xs.toArray⟩, .slice none 0 0, .slice none 0 0] rfl rfl 26 _ B2.out (by rw [sizeValue]; first | rfl | simp) (by first | rfl | simp [cellsZ]) (by first | decide +kernel | simp [Value.oneCell']) ?_))
  (try simp only [Exit.inBlock, Exit.then])
  refine bodyPost_ret (results_cell_row rfl _ _ w.heap.size _ _ _ _ rfl (setRow_heap w2 _ _ _ _ _ B2.out) HU.out rfl (by rw [sizeValue]; first | rfl | simp)) rfl ?_
  refine dv_flat (cs := [.int .i64 5, .int .i64 0, .slice none 0 0, .string ⟨xs.toArray⟩, .slice none 0 0, .slice none 0 0]) (D := (0, .mk 5 0 [] ⟨(xs : List UInt8).toArray⟩ [] [], ((bs.drop p).drop 2).drop x)) G2.out (by have := B2.out.lt; omega) HGL.out rfl (by simp [Value.oneCell']) R2.out (fun _ => ⟨?_, hasP_flat 5 _ _ (by omega) (by omega) (by have := XL.out; have := XB.out; show (⟨xs.toArray⟩ : ByteArray).data.size ≤ 1048576; simp; omega)⟩)
  rw [DD.out, List.drop_drop]

end Go.Proofs.YtmpnehhndhepgaaDoor

/- The document's own reader of values: rows that grow inside a value. It proves no statement. -/



namespace Go.Proofs.YtmpnehhndhepgaaDoor
open Go.RowKit
set_option linter.unusedVariables false
set_option linter.unusedSimpArgs false

/-- A value that grows in a box: a row of keys, a row of values, all in blocks from base on. -/
structure AccV (W : World) (base g gv : Nat) (kv : Value) (nk : Nat) (ks : List Value) (lv : Value) (nv : Nat) (xs : List Value) (al : List Tr) : Prop where
  ownk : W.ownsRow base 9 1 kv nk ks
  ownl : W.ownsRow base 26 6 lv nv xs
  ne : ∀ b, kv.ownBlock = some b → lv.ownBlock ≠ some b
  row : HasR W (fun b => base ≤ b ∧ lv.ownBlock ≠ some b ∧ kv.ownBlock ≠ some b) al xs
  z : base ≤ W.heap.size
  hg : g < base
  hv : gv < base
section
variable {W W' : World} {base g gv : Nat} {kv : Value} {nk : Nat} {ks : List Value} {lv : Value} {nv : Nat} {xs : List Value} {al : List Tr}
/-- Blocks from base on stay. -/
theorem AccV.high (J : AccV W base g gv kv nk ks lv nv xs al) (h : ∀ b, base ≤ b → b < W.heap.size → W'.heap[b]? = W.heap[b]?) (hz : W.heap.size ≤ W'.heap.size) : AccV W' base g gv kv nk ks lv nv xs al := by
  have own : ∀ {e : TypeId} {z n : Nat} {v : Value} {ys : List Value}, W.ownsRow base e z v n ys → W'.ownsRow base e z v n ys := by
    intro e z n v ys o
    refine ⟨o.1, ?_⟩
    rcases o.2 with q | ⟨b, cap, cur, e1, e2, e3, e4⟩
    · exact .inl q
    · exact .inr ⟨b, cap, cur, e1, e2, by rw [h b e2 (Array.getElem?_eq_some_iff.1 e3).1]; exact e3, e4⟩
  exact
  { ownk := own J.ownk
    ownl := own J.ownl
    ne := J.ne
    row := HasR.keep (fun b hb hl => h b hb.1 hl) hz (fun _ hb _ => hb) _ _ J.row
    z := Nat.le_trans J.z hz
    hg := J.hg
    hv := J.hv }
theorem AccV.grown (J : AccV W base g gv kv nk ks lv nv xs al) (gr : W.grownBy W' (some g)) : AccV W' base g gv kv nk ks lv nv xs al :=
  J.high (fun b hb hl => gr.block b hl (fun e => by have := Option.some.inj e; have := J.hg; omega)) gr.size
theorem AccV.set (J : AccV W base g gv kv nk ks lv nv xs al) (i : Nat) (u : Value) : AccV (W.setCell ⟨gv, i, none⟩ u) base g gv kv nk ks lv nv xs al :=
  J.high (fun b hb hl => Below.heap_setCell _ _ _ b (by have := J.hv; simp only; omega)) (by simp [World.setCell])
theorem AccV.pushV (J : AccV W base g gv kv nk ks lv nv xs al) {cs : List Value} {tr : Tr} (h6 : cs.length = 6) {v' : Value} (own : W'.ownsRow base 26 6 v' (nv + 1) (xs ++ cs)) (gr : W.grownBy W' lv.ownBlock) (loc : v'.ownBlock = lv.ownBlock ∨ v'.ownBlock = some W.heap.size)
    (val : HasP W (fun b => base ≤ b ∧ lv.ownBlock ≠ some b ∧ kv.ownBlock ≠ some b) tr cs.toArray) : AccV W' base g gv kv nk ks v' (nv + 1) (xs ++ cs) (al ++ [tr]) := by
  have oldk : ∀ b, kv.ownBlock = some b → base ≤ b ∧ b < W.heap.size := fun b e => J.ownk.lt b e
  have new : ∀ b, v'.ownBlock = some b → lv.ownBlock = some b ∨ b = W.heap.size := fun b e => by
    rcases loc with h | h
    · exact .inl (h ▸ e)
    · rw [h] at e; exact .inr (Option.some.inj e).symm
  have q : ∀ b, (base ≤ b ∧ lv.ownBlock ≠ some b ∧ kv.ownBlock ≠ some b) → b < W.heap.size → (base ≤ b ∧ v'.ownBlock ≠ some b ∧ kv.ownBlock ≠ some b) := fun b hb hl => ⟨hb.1, fun e => by
    rcases new b e with h | h
    · exact hb.2.1 h
    · omega, hb.2.2⟩
  have k : ∀ b, (base ≤ b ∧ lv.ownBlock ≠ some b ∧ kv.ownBlock ≠ some b) → b < W.heap.size → W'.heap[b]? = W.heap[b]? := fun b hb hl => gr.block b hl fun e => hb.2.1 e.symm
  exact
  { ownk := J.ownk.kept gr (by
      rcases hl : kv.ownBlock with _ | b
      · exact .inl rfl
      · exact .inr fun e => J.ne b hl e.symm)
    ownl := own
    ne := fun b e1 e2 => by
      rcases new b e2 with h | h
      · exact J.ne b e1 h
      · have := (oldk b e1).2; omega
    row := HasR.snoc (HasP.keep k gr.size q _ _ val) h6 _ _ (HasR.keep k gr.size q _ _ J.row)
    z := Nat.le_trans J.z gr.size
    hg := J.hg
    hv := J.hv }
theorem AccV.pushK (J : AccV W base g gv kv nk ks lv nv xs al) {u : Value} {v' : Value} (own : W'.ownsRow base 9 1 v' (nk + 1) (ks ++ [u])) (gr : W.grownBy W' kv.ownBlock) (loc : v'.ownBlock = kv.ownBlock ∨ v'.ownBlock = some W.heap.size) : AccV W' base g gv v' (nk + 1) (ks ++ [u]) lv nv xs al := by
  have oldl : ∀ b, lv.ownBlock = some b → base ≤ b ∧ b < W.heap.size := fun b e => J.ownl.lt b e
  have new : ∀ b, v'.ownBlock = some b → kv.ownBlock = some b ∨ b = W.heap.size := fun b e => by
    rcases loc with h | h
    · exact .inl (h ▸ e)
    · rw [h] at e; exact .inr (Option.some.inj e).symm
  have q : ∀ b, (base ≤ b ∧ lv.ownBlock ≠ some b ∧ kv.ownBlock ≠ some b) → b < W.heap.size → (base ≤ b ∧ lv.ownBlock ≠ some b ∧ v'.ownBlock ≠ some b) := fun b hb hl => ⟨hb.1, hb.2.1, fun e => by
    rcases new b e with h | h
    · exact hb.2.2 h
    · omega⟩
  have k : ∀ b, (base ≤ b ∧ lv.ownBlock ≠ some b ∧ kv.ownBlock ≠ some b) → b < W.heap.size → W'.heap[b]? = W.heap[b]? := fun b hb hl => gr.block b hl fun e => hb.2.2 e.symm
  exact
  { ownk := own
    ownl := J.ownl.kept gr (by
      rcases hl : lv.ownBlock with _ | b
      · exact .inl rfl
      · exact .inr fun e => J.ne b e.symm hl)
    ne := fun b e1 e2 => by
      rcases new b e1 with h | h
      · exact J.ne b h e2
      · have := (oldl b e2).2; omega
    row := HasR.keep k gr.size q _ _ J.row
    z := Nat.le_trans J.z gr.size
    hg := J.hg
    hv := J.hv }
end
/-- What lies below base stays, but for the box. -/
theorem acc_low {W W' : World} {base gv i : Nat} {r : Option Nat} {u : Value} (gr : W.grownBy W' r) (hr : ∀ b, r = some b → base ≤ b) (hz : base ≤ W.heap.size) : ∀ b, b < base → b ≠ gv → (W'.setCell ⟨gv, i, none⟩ u).heap[b]? = W.heap[b]? := fun b hb hne =>
  (Below.heap_setCell _ _ _ b (by simp only; omega)).trans (gr.block b (by omega) (fun e => by have := hr b e.symm; omega))

/-- A load of one cell, one operation. -/
theorem step_loadS (w : World) {o : Oper} {a : Act} {K : Act → World → Prop} {Q : Exit → Act → World → Prop} (x : Operand) (ho : o.op = .load 24 x) (p : Addr) (v : Value) (hx : a.eval x = .pointer (some p)) (hc : w.cell? p = some v)
    (h : K (a.put o.dst v) w) : o.wp Tryd.prog a w K Q := by
  unfold Oper.wp execOp
  simp only [ho, hx, Instr.loadAt, Instr.sureAddr, Sem.run_bind, Sem.run_pure, Result.andThen_ok]
  simp [loadVar, hc]
  exact h
end Go.Proofs.YtmpnehhndhepgaaDoor
