/- A hasher's memory, cell by cell; a new one. It proves no statement. -/
import Derived.Test.YtambpgfmnbkhdaaDoorShaBehind
import Derived.Test.YtambpgfmnbkhdaaDoorShaPad
namespace Go.Proofs.YtambpgfmnbkhdaaDoor
open Go.RowKit
set_option linter.unusedVariables false
set_option linter.unusedSimpArgs false

/-- The 74 cells: eight words, 64 bytes, the size, made. -/
def hcells (s : S8) (R : List UInt8) (size : Nat) : List Value := w32 s.list ++ (bytesV R ++ [Value.int .i64 (size : Int), Value.bool true])
structure HB (w : World) (g : Nat) (s : S8) (R : List UInt8) (size : Nat) : Prop where
  blk : w.heap[g]? = some (.cells (hcells s R size).toArray 51 (0, 0))
  len : R.length = 64
theorem w32s_length (s : S8) : (w32 s.list).length = 8 := rfl
theorem hcells_length (s : S8) (R : List UInt8) (size : Nat) (h : R.length = 64) : (hcells s R size).length = 74 := by simp [hcells, w32s_length, bytesV_length, h]
theorem hcells_state (s : S8) (R : List UInt8) (size i : Nat) (h : i < 8) : (hcells s R size)[i]? = some (.int .u32 (s.list.getD i 0 : Nat)) := by
  unfold hcells
  rw [List.getElem?_append_left (by rw [w32s_length]; exact h), w32_get _ _ (by rw [S8.list_length]; exact h)]
theorem hcells_rest (s : S8) (R : List UInt8) (size i : Nat) : (hcells s R size)[8 + i]? = (bytesV R ++ [Value.int .i64 (size : Int), Value.bool true])[i]? := by
  unfold hcells
  rw [List.getElem?_append_right (by rw [w32s_length]; omega), w32s_length, Nat.add_sub_cancel_left]
theorem hcells_byte (s : S8) (R : List UInt8) (size i : Nat) (h : i < R.length) : (hcells s R size)[8 + i]? = some (.int .u8 ((R.getD i 0).toNat : Int)) := by
  rw [hcells_rest, List.getElem?_append_left (by rw [bytesV_length]; exact h), bytesV_get _ _ h]
section
variable {w w' : World} {g size : Nat} {s : S8} {R : List UInt8}
theorem HB.lt (h : HB w g s R size) : g < w.heap.size := (Array.getElem?_eq_some_iff.1 h.blk).1
theorem HB.cell (h : HB w g s R size) (i : Nat) : w.cell? ⟨g, i, none⟩ = (hcells s R size)[i]? := by
  rw [cell_of_row w g i _ _ _ h.blk, List.getElem?_toArray]
theorem HB.frozen (h : HB w g s R size) (i : Nat) : w.frozen? ⟨g, i, none⟩ = false := frozen_of_row w g i _ _ h.blk
theorem HB.statec (h : HB w g s R size) (i : Nat) (hi : i < 8) : w.cell? ⟨g, i, none⟩ = some (.int .u32 (s.list.getD i 0 : Nat)) := by rw [h.cell, hcells_state _ _ _ _ hi]
theorem HB.byte (h : HB w g s R size) (i : Nat) (hi : i < 64) : w.cell? ⟨g, 8 + i, none⟩ = some (.int .u8 ((R.getD i 0).toNat : Int)) := by rw [h.cell, hcells_byte _ _ _ _ (by rw [h.len]; exact hi)]
theorem HB.sizec (h : HB w g s R size) : w.cell? ⟨g, 72, none⟩ = some (.int .i64 (size : Int)) := by
  rw [h.cell, show 72 = 8 + 64 from rfl, hcells_rest, List.getElem?_append_right (by rw [bytesV_length, h.len]; omega), bytesV_length, h.len]; rfl
theorem HB.made (h : HB w g s R size) : w.cell? ⟨g, 73, none⟩ = some (.bool true) := by
  rw [h.cell, show 73 = 8 + 65 from rfl, hcells_rest, List.getElem?_append_right (by rw [bytesV_length, h.len]; omega), bytesV_length, h.len]; rfl
theorem HB.range (h : HB w g s R size) : w.rangeAt g 8 (bytesV R) := fun j v hj => by
  have hlt : j < R.length := by have := (List.getElem?_eq_some_iff.1 hj).1; rwa [bytesV_length] at this
  rw [h.byte j (by rw [← h.len]; exact hlt), ← hj, bytesV_get _ _ hlt]
theorem HB.reads (h : HB w g s R size) : Reads w (g + 1) (some ⟨g, 8, none⟩) 64 R := ⟨h.len, fun _ => ⟨g, 8, rfl, by omega, fun i hi => h.byte i hi⟩⟩
theorem HB.keepb (h : HB w g s R size) (hb : w'.heap[g]? = w.heap[g]?) : HB w' g s R size := ⟨hb.trans h.blk, h.len⟩
theorem HB.still (h : HB w g s R size) (hs : Still w w') : HB w' g s R size := h.keepb (hs.block g h.lt)
theorem HB.setSize (h : HB w g s R size) (n : Nat) : HB (w.setCell ⟨g, 72, none⟩ (.int .i64 (n : Int))) g s R n := by
  refine ⟨?_, h.len⟩
  rw [heap_setCell_same w g 72 _ _ _ h.blk]
  have e : (hcells s R size).set 72 (.int .i64 (n : Int)) = hcells s R n := by
    unfold hcells
    rw [List.set_append_right _ _ (by rw [w32s_length]; omega), w32s_length, List.set_append_right _ _ (by rw [bytesV_length, h.len]; omega), bytesV_length, h.len]
    rfl
  simp only [List.setIfInBounds_toArray, e]
theorem hcells_splice (hR : R.length = 64) (o : Nat) (l : List UInt8) (ho : o + l.length ≤ 64) : splice (hcells s R size) (8 + o) (bytesV l) = hcells s (R.take o ++ (l ++ R.drop (o + l.length))) size := by
  unfold splice hcells
  rw [bytesV_length, List.take_append, List.drop_append, w32s_length, List.take_of_length_le (by rw [w32s_length]; omega), List.drop_of_length_le (by rw [w32s_length]; omega), show 8 + o - 8 = o by omega, show 8 + o + l.length - 8 = o + l.length by omega,
    List.take_append_of_le_length (by rw [bytesV_length, hR]; omega), List.drop_append_of_le_length (by rw [bytesV_length, hR]; omega), ← bytesV_take, ← bytesV_drop]
  simp [bytesV_append]
theorem hcells_setState (t : S8) : splice (hcells s R size) 0 (w32 t.list) = hcells t R size := by
  unfold splice hcells
  rw [List.take_zero, List.nil_append, w32s_length, Nat.zero_add, List.drop_left' (w32s_length s)]
end
/-- A hasher at block g that was given l. -/
def Had (w : World) (g : Nat) (l : List UInt8) : Prop :=
  ∃ R, HB w g (shRun sh0 l (l.length / 64)) R l.length ∧ R.take (l.length % 64) = l.drop (64 * (l.length / 64)) ∧ l.length ≤ 70368744177664
theorem Had.lt {w : World} {g : Nat} {l : List UInt8} (h : Had w g l) : g < w.heap.size := h.choose_spec.1.lt
theorem Had.keepb {w w' : World} {g : Nat} {l : List UInt8} (h : Had w g l) (hb : w'.heap[g]? = w.heap[g]?) : Had w' g l := by
  obtain ⟨R, hb1, h2, h3⟩ := h
  exact ⟨R, hb1.keepb hb, h2, h3⟩
theorem Had.still {w w' : World} {g : Nat} {l : List UInt8} (h : Had w g l) (hs : Still w w') : Had w' g l := h.keepb (hs.block g h.lt)
theorem Had.grown {w w' : World} {g g' : Nat} {l : List UInt8} (h : Had w g l) (hs : w.grownBy w' (some g')) (hne : g ≠ g') : Had w' g l :=
  h.keepb (hs.block g h.lt (fun e => hne (Option.some.inj e)))
/-- The same hasher at another block. -/
theorem Had.copy {w w' : World} {g g' : Nat} {l : List UInt8} (h : Had w g l) (hb : w'.heap[g']? = w.heap[g]?) : Had w' g' l := by
  obtain ⟨R, hb1, h2, h3⟩ := h
  exact ⟨R, ⟨hb.trans hb1.blk, hb1.len⟩, h2, h3⟩

theorem underHasher : Tryd.prog.underlying 51 = Tryd.prog.underlying 51 := rfl
theorem sizeHasher : (Tryd.prog.info? 51).map (·.size) = some 74 := by kernel_rfl
theorem sh0Z : ([1779033703, 3144134277, 1013904242, 2773480762, 1359893119, 2600822924, 528734635, 1541459225] : List Int).map (Value.int .u32) = w32 sh0.list := rfl

set_option maxRecDepth 100000 in
set_option maxHeartbeats 800000 in
theorem beginning_any (w : World) :
    Calls Tryd.prog 30 #[] w fun e w' => e = .returned (.agg (w32 sh0.list).toArray) ∧ Still w w' := by
  go_enter Tryd.func30, Tryd.ntmps30
  go_upto_region 0 with fail
  refine wp_region_lit ?_
  refine wpList_alloc_arr rfl 48 rfl (some 0) rfl _ _ zeroState ?_
  refine wpList_nil ?_
  go_upto_region 1 with fail
  refine wp_region_lit ?_
  refine wpList_buildFlatArrTo rfl 48 46 8 _ rfl .u32 [1779033703, 3144134277, 1013904242, 2773480762, 1359893119, 2600822924, 528734635, 1541459225] (some 1) rfl underState (by as_aux_lemma => kernel_rfl) (by as_aux_lemma => kernel_rfl) (by as_aux_lemma => kernel_rfl) ?_
  rw [sh0Z]
  refine wpList_store_rowTo rfl 48 (.tmp 0) (.tmp 1) rfl rfl w.heap.size (w32 sh0.list).toArray rfl rfl 48 _ (heap_alloc_last w _) (by rw [sizeState]; rfl) rfl (w32_all _) ?_
  rw [World.setRow_alloc_new]
  refine wpList_nil ?_
  have r2 := heap_alloc_last w (.cells (w32 sh0.list).toArray 48)
  have st2 : Still w (w.alloc (.cells (w32 sh0.list).toArray 48)) := (Still.refl w).alloc (Nat.le_refl _) _
  generalize w.alloc (.cells (w32 sh0.list).toArray 48) = w2 at *
  go_wp2_with fail
  refine bodyPost_ret (results_cell_row rfl _ _ w.heap.size _ _ _ _ rfl r2 underState rfl (by rw [sizeState]; rfl)) rfl ?_
  exact ⟨rfl, st2⟩
set_option maxRecDepth 100000 in
set_option maxHeartbeats 800000 in
theorem new_any (w : World) :
    Calls Tryd.prog 15 #[] w fun e w' => ∃ g, e = .returned (.pointer (some ⟨g, 0, none⟩)) ∧ w.heap.size ≤ g ∧ Had w' g [] ∧ Still w w' := by
  have hbt : Tryd.prog.built 51 [(0, .agg (w32 sh0.list).toArray), (3, .bool true)] = some (hcells sh0 (List.replicate 64 0) 0).toArray := by kernel_rfl
  obtain ⟨arr, harr⟩ : ∃ a, a = (hcells sh0 (List.replicate 64 0) 0).toArray := ⟨_, rfl⟩
  rw [← harr] at hbt
  have HBT := Lib.hid hbt
  have HARR := Lib.hid harr
  clear hbt harr
  go_enter Tryd.func15, Tryd.ntmps15
  go_wp2_with (go_at_call 30; refine (beginning_any _).mono ?_; rintro e w1 ⟨rfl, st⟩; (apply_assumption; refine wpList_buildTo rfl 51 _ rfl (some 2) rfl arr (by simp only [List.map_toArray, List.map_cons, List.map_nil]; exact HBT.out) ?_; refine wpList_box_arr rfl 51 (.tmp 2) rfl (some 3) rfl arr rfl ?_))
  go_ret
  refine ⟨w1.heap.size, rfl, st.size, ⟨List.replicate 64 0, ⟨?_, rfl⟩, rfl, by simp⟩, st.alloc st.size _⟩
  rw [HARR.out]
  exact heap_alloc_last w1 _
end Go.Proofs.YtambpgfmnbkhdaaDoor
