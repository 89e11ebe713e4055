/- A hasher's memory, cell by cell. It proves no statement. -/
import Derived.Test.YtbnbpfbgoicogaaXxhRest
import Derived.Laws.CopyOwn
namespace Go.Proofs.Ytbnbpfbgoicogaa
open Go.RowKit
set_option linter.unusedVariables false
set_option linter.unusedSimpArgs false

/-- The forty cells: the seed, four lanes, the size, 32 bytes, how many are kept, made. -/
def hcells (seed : Nat) (v : Nat → Nat) (size : Nat) (R : List UInt8) (kept : Nat) : List Value :=
  Value.int .u64 (seed : Int) :: Value.int .u64 (v 0 : Int) :: Value.int .u64 (v 1 : Int) :: Value.int .u64 (v 2 : Int) :: Value.int .u64 (v 3 : Int) :: Value.int .u64 (size : Int) :: (bytesV R ++ [Value.int .i64 (kept : Int), Value.bool true])

structure HB (w : World) (g : Nat) (seed : Nat) (v : Nat → Nat) (size : Nat) (R : List UInt8) (kept : Nat) : Prop where
  blk : w.heap[g]? = some (.cells (hcells seed v size R kept).toArray 43 (0, 0))
  len : R.length = 32

section
variable {w w' : World} {g seed size kept : Nat} {v : Nat → Nat} {R : List UInt8}
theorem HB.lt (h : HB w g seed v size R kept) : g < w.heap.size := (Array.getElem?_eq_some_iff.1 h.blk).1
theorem HB.cell (h : HB w g seed v size R kept) (i : Nat) : w.cell? ⟨g, i, none⟩ = (hcells seed v size R kept)[i]? := by
  rw [cell_of_row w g i _ _ _ h.blk]; simp
theorem HB.frozen (h : HB w g seed v size R kept) (i : Nat) : w.frozen? ⟨g, i, none⟩ = false := frozen_of_row w g i _ _ h.blk
theorem HB.seedc (h : HB w g seed v size R kept) : w.cell? ⟨g, 0, none⟩ = some (.int .u64 (seed : Int)) := h.cell 0
theorem HB.lane0 (h : HB w g seed v size R kept) : w.cell? ⟨g, 1, none⟩ = some (.int .u64 (v 0 : Int)) := h.cell 1
theorem HB.lane1 (h : HB w g seed v size R kept) : w.cell? ⟨g, 2, none⟩ = some (.int .u64 (v 1 : Int)) := h.cell 2
theorem HB.lane2 (h : HB w g seed v size R kept) : w.cell? ⟨g, 3, none⟩ = some (.int .u64 (v 2 : Int)) := h.cell 3
theorem HB.lane3 (h : HB w g seed v size R kept) : w.cell? ⟨g, 4, none⟩ = some (.int .u64 (v 3 : Int)) := h.cell 4
theorem HB.lane (h : HB w g seed v size R kept) (k : Nat) (hk : k < 4) : w.cell? ⟨g, 1 + k, none⟩ = some (.int .u64 (v k : Int)) := by
  obtain rfl | rfl | rfl | rfl : k = 0 ∨ k = 1 ∨ k = 2 ∨ k = 3 := by omega
  · exact h.lane0
  · exact h.lane1
  · exact h.lane2
  · exact h.lane3
theorem HB.sizec (h : HB w g seed v size R kept) : w.cell? ⟨g, 5, none⟩ = some (.int .u64 (size : Int)) := h.cell 5
theorem hcells_tail (seed : Nat) (v : Nat → Nat) (size : Nat) (R : List UInt8) (kept i : Nat) : (hcells seed v size R kept)[6 + i]? = (bytesV R ++ [Value.int .i64 (kept : Int), Value.bool true])[i]? := by
  rw [Nat.add_comm]; rfl
theorem HB.byte (h : HB w g seed v size R kept) (i : Nat) (hi : i < 32) : w.cell? ⟨g, 6 + i, none⟩ = some (.int .u8 ((R.getD i 0).toNat : Int)) := by
  rw [h.cell, hcells_tail, List.getElem?_append_left (by rw [bytesV_length, h.len]; exact hi), bytesV_get _ _ (by rw [h.len]; exact hi)]
theorem HB.keptc (h : HB w g seed v size R kept) : w.cell? ⟨g, 38, none⟩ = some (.int .i64 (kept : Int)) := by
  rw [h.cell, show 38 = 6 + 32 from rfl, hcells_tail, List.getElem?_append_right (by rw [bytesV_length, h.len]; omega), bytesV_length, h.len]; rfl
theorem HB.made (h : HB w g seed v size R kept) : w.cell? ⟨g, 39, none⟩ = some (.bool true) := by
  rw [h.cell, show 39 = 6 + 33 from rfl, hcells_tail, List.getElem?_append_right (by rw [bytesV_length, h.len]; omega), bytesV_length, h.len]; rfl
theorem HB.reads (h : HB w g seed v size R kept) : Reads w (g + 1) (some ⟨g, 6, none⟩) 32 R := ⟨h.len, fun _ => ⟨g, 6, rfl, by omega, fun i hi => h.byte i hi⟩⟩
theorem HB.keepb (h : HB w g seed v size R kept) (hb : w'.heap[g]? = w.heap[g]?) : HB w' g seed v size R kept := ⟨hb.trans h.blk, h.len⟩
theorem HB.still (h : HB w g seed v size R kept) (hs : Still w w') : HB w' g seed v size R kept := h.keepb (hs.block g h.lt)
theorem HB.setSize (h : HB w g seed v size R kept) (s : Nat) : HB (w.setCell ⟨g, 5, none⟩ (.int .u64 (s : Int))) g seed v s R kept := by
  refine ⟨?_, h.len⟩
  rw [heap_setCell_same w g 5 _ _ _ h.blk]
  simp [hcells]
theorem HB.setKept (h : HB w g seed v size R kept) (k : Nat) : HB (w.setCell ⟨g, 38, none⟩ (.int .i64 (k : Int))) g seed v size R k := by
  refine ⟨?_, h.len⟩
  rw [heap_setCell_same w g 38 _ _ _ h.blk]
  have e : (hcells seed v size R kept).set 38 (.int .i64 (k : Int)) = hcells seed v size R k := by
    simp only [hcells, List.set_cons_succ]
    rw [List.set_append_right _ _ (by rw [bytesV_length, h.len]; omega), bytesV_length, h.len]
    rfl
  simp only [List.setIfInBounds_toArray, e]
/-- One lane set. -/
def setLane (v : Nat → Nat) (k x : Nat) : Nat → Nat := fun i => if i = k then x else v i
theorem HB.setLane (h : HB w g seed v size R kept) (k x : Nat) (hk : k < 4) : HB (w.setCell ⟨g, 1 + k, none⟩ (.int .u64 (x : Int))) g seed (setLane v k x) size R kept := by
  refine ⟨?_, h.len⟩
  rw [heap_setCell_same w g (1 + k) _ _ _ h.blk]
  obtain rfl | rfl | rfl | rfl : k = 0 ∨ k = 1 ∨ k = 2 ∨ k = 3 := by omega
  all_goals simp [hcells, Go.Proofs.Ytbnbpfbgoicogaa.setLane]
theorem hcells_congr (seed : Nat) (v v' : Nat → Nat) (size : Nat) (R : List UInt8) (kept : Nat) (e : ∀ k, k < 4 → v k = v' k) : hcells seed v size R kept = hcells seed v' size R kept := by
  simp only [hcells, e 0 (by omega), e 1 (by omega), e 2 (by omega), e 3 (by omega)]
theorem HB.congr (h : HB w g seed v size R kept) {v' : Nat → Nat} (e : ∀ k, k < 4 → v k = v' k) : HB w g seed v' size R kept := by
  refine ⟨?_, h.len⟩
  rw [← hcells_congr seed v v' size R kept e]
  exact h.blk
theorem hcells_length (h : R.length = 32) : (hcells seed v size R kept).length = 40 := by simp [hcells, bytesV_length, h]
theorem hcells_splice (hR : R.length = 32) (o : Nat) (l : List UInt8) (ho : o + l.length ≤ 32) : splice (hcells seed v size R kept) (6 + o) (bytesV l) = hcells seed v size (R.take o ++ (l ++ R.drop (o + l.length))) kept := by
  unfold splice
  rw [bytesV_length, Nat.add_assoc, Nat.add_comm 6 o, Nat.add_comm 6 (o + l.length)]
  simp only [hcells, List.take_succ_cons, List.drop_succ_cons, bytesV_append, bytesV_take, bytesV_drop]
  rw [List.take_append_of_le_length (by rw [bytesV_length, hR]; omega), List.drop_append_of_le_length (by rw [bytesV_length, hR]; omega)]
  simp
/-- A store of a word into the hasher's own block leaves all bytes that read. -/
theorem Reads.setWord {B n : Nat} {A : Option Addr} {l : List UInt8} (h : Reads w B A n l) {b o : Nat} {k : IntKind} {x : Int} (hk : k ≠ .u8) (hc : w.cell? ⟨b, o, none⟩ = some (.int k x)) (u : Value) :
    Reads (w.setCell ⟨b, o, none⟩ u) B A n l := by
  refine ⟨h.1, fun hn => ?_⟩
  obtain ⟨b1, o1, e, hlt, hcc⟩ := h.2 hn
  refine ⟨b1, o1, e, hlt, fun i hi => ?_⟩
  rw [World.cell?_setCell_other]
  · exact hcc i hi
  · rintro e2
    have h1 := hcc i hi
    first | rw [e2] at h1 | rw [← e2] at h1
    rw [h1] at hc
    injection hc with hc
    injection hc with hc1 hc2
    exact hk hc1.symm
end
end Go.Proofs.Ytbnbpfbgoicogaa
