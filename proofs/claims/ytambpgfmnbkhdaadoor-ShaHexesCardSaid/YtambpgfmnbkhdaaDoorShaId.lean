/- Arrays of bytes in memory; a state as 32 bytes. It proves no statement. -/
import Derived.Test.YtambpgfmnbkhdaaDoorShaFact
import Derived.Test.YtambpgfmnbkhdaaDoorAllocArr
import Derived.Deep.MidRow
import Derived.Deep.DeepCutAuto
namespace Go.Proofs.YtambpgfmnbkhdaaDoor
open Go.RowKit
set_option linter.unusedVariables false
set_option linter.unusedSimpArgs false

theorem zero32 : (Tryd.prog.info? 26).map (fun i => (i.zero, i.size)) = some (some (.agg (bytesV (List.replicate 32 0)).toArray), 32) := by kernel_rfl
theorem under32 : Tryd.prog.underlying 26 = some (.array 32 5) := by kernel_rfl
theorem size32 : (Tryd.prog.info? 26).map (·.size) = some 32 := by kernel_rfl
/-- A block that is an array of bytes. -/
def Arr (w : World) (g : Nat) (D : List UInt8) : Prop := w.heap[g]? = some (.cells (bytesV D).toArray 26 (0, 0))
section
variable {w w' : World} {g : Nat} {D : List UInt8}
theorem Arr.lt (h : Arr w g D) : g < w.heap.size := (Array.getElem?_eq_some_iff.1 h).1
theorem Arr.cell (h : Arr w g D) (i : Nat) (hi : i < D.length) : w.cell? ⟨g, i, none⟩ = some (.int .u8 ((D.getD i 0).toNat : Int)) := by
  rw [cell_of_row w g i _ _ _ h, List.getElem?_toArray, bytesV_get _ _ hi]
theorem Arr.frozen (h : Arr w g D) (i : Nat) : w.frozen? ⟨g, i, none⟩ = false := frozen_of_row w g i _ _ h
theorem Arr.set (h : Arr w g D) (i : Nat) (b : UInt8) : Arr (w.setCell ⟨g, i, none⟩ (.int .u8 (b.toNat : Int))) g (D.set i b) := by
  unfold Arr
  rw [heap_setCell_same w g i _ _ _ h]
  simp [bytesV_set]
theorem Arr.still (h : Arr w g D) (s : Still w w') : Arr w' g D := (s.block g h.lt).trans h
theorem Arr.grown {g' : Nat} (h : Arr w g D) (hg : w.grownBy w' (some g')) (hne : g ≠ g') : Arr w' g D := (hg.block g h.lt (fun e => hne (Option.some.inj e))).trans h
theorem Arr.new (w : World) (D : List UInt8) : Arr (w.alloc (.cells (bytesV D).toArray 26)) w.heap.size D := heap_alloc_last w _
theorem Arr.reads (h : Arr w g D) : Reads w (g + 1) (some ⟨g, 0, none⟩) D.length D := ⟨rfl, fun _ => ⟨g, 0, rfl, by omega, fun i hi => by rw [Nat.zero_add]; exact h.cell i hi⟩⟩
end
/-- The first j bytes stand, the rest are noughts. -/
def fillTo (L : List UInt8) (j : Nat) : List UInt8 := L.take j ++ List.replicate (L.length - j) 0
theorem fillTo_zero (L : List UInt8) : fillTo L 0 = List.replicate L.length 0 := by simp [fillTo]
theorem fillTo_all (L : List UInt8) : fillTo L L.length = L := by simp [fillTo]
theorem fillTo_length (L : List UInt8) (j : Nat) (h : j ≤ L.length) : (fillTo L j).length = L.length := by simp [fillTo]; omega
theorem fillTo_next (L : List UInt8) (j : Nat) (h : j < L.length) : (fillTo L j).set j (L.getD j 0) = fillTo L (j + 1) := by
  unfold fillTo
  rw [List.set_append_right _ _ (by simp; omega)]
  have e1 : (L.take j).length = j := by simp; omega
  rw [e1, Nat.sub_self]
  obtain ⟨m, hm⟩ : ∃ m, L.length - j = m + 1 := ⟨L.length - j - 1, by omega⟩
  rw [hm, List.replicate_succ, List.set_cons_zero, List.take_add_one]
  have e2 : L[j]? = some (L.getD j 0) := by simp [List.getD, h]
  rw [e2, show L.length - (j + 1) = m by omega]
  simp
theorem idB_get (l : List Nat) (i k : Nat) (hi : i < l.length) (hk : k < 4) : (idB l).getD (4 * i + k) 0 = (wB (l.getD i 0)).getD k 0 := by
  induction l generalizing i with
  | nil => simp at hi
  | cons x r ih =>
    have e : idB (x :: r) = wB x ++ idB r := rfl
    match i with
    | 0 =>
      rw [e, Nat.mul_zero, Nat.zero_add]
      simp [List.getD, List.getElem?_append_left (show k < (wB x).length by rw [wB_length]; exact hk)]
    | i + 1 =>
      have h2 := ih i (by simpa using hi)
      rw [e]
      simp only [List.getD, List.getElem?_append_right (show (wB x).length ≤ 4 * (i + 1) + k by rw [wB_length]; omega), wB_length, List.getElem?_cons_succ] at h2 ⊢
      rw [show 4 * (i + 1) + k - 4 = 4 * i + k by omega]
      exact h2
theorem wB_get (x k : Nat) (hk : k < 4) : (wB x).getD k 0 = (leBytes x 4).getD (3 - k) 0 := by
  unfold wB
  simp only [List.getD]
  rw [List.getElem?_reverse (by rw [leBytes_length]; exact hk), leBytes_length]
/-- The end of a function that lays its answer into a cell: the array read whole. -/
theorem results_arr {fn : Func} {p : Tmp} (h : fn.results = #[.cell p 26]) (tmps : Array Value) (w : World) (g : Nat) (D : List UInt8) (hp : tmps.getD p undef = .pointer (some ⟨g, 0, none⟩)) (hg : Arr w g D) (hD : D.length = 32) :
    (results fn tmps).run Tryd.prog w = .ok (.agg (bytesV D).toArray) w :=
  results_cell_row h tmps w g _ _ _ _ hp hg under32 rfl (by rw [size32]; simp [bytesV, hD])
end Go.Proofs.YtambpgfmnbkhdaaDoor
