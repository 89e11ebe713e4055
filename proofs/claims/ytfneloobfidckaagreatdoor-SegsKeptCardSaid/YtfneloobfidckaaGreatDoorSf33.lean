/- Contracts and facts, several texts in one. It proves no statement. -/
import Derived.Test.YtfneloobfidckaaGreatDoorSf26

/- Contracts: a log that no call made. It proves no statement. -/

namespace Go.Proofs.YtfneloobfidckaaGreatDoor
open Go.RowKit Go.Maps Go.WideMaps Go.Sort
set_option linter.unusedVariables false
set_option linter.unusedSimpArgs false

/-- A log that no call made: nil, or a struct of noughts. -/
def NoLog (w : World) (P : Value) : Prop := P = .pointer none ∨ ∃ gl, P = .pointer (some ⟨gl, 0, none⟩) ∧ Blk w gl 156 #[.pointer none, .int .i64 0, .slice none 0 0, .int .i64 0, .bool false]
theorem NoLog.still {w w' : World} {P : Value} (h : NoLog w P) (s : Still w w') : NoLog w' P := by
  rcases h with h | ⟨g, h, hb⟩
  · exact .inl h
  · exact .inr ⟨g, h, hb.still s⟩
theorem lworks_no (P : Value) (w : World) (h : NoLog w P) : Calls Tryz.prog 80 #[P] w fun e w' => e = .returned (.bool false) ∧ w = w' := by
  rcases h with rfl | ⟨g, rfl, hb⟩
  · go_enter Tryz.func80, Tryz.ntmps80
    go_wp2_with fail
    go_ret
    exact ⟨rfl, rfl⟩
  · have c0 : w.cell? ⟨g, 0, none⟩ = some (.pointer none) := hb.cell 0
    clear hb
    go_enter Tryz.func80, Tryz.ntmps80
    go_wp2_with fail
    go_ret
    exact ⟨rfl, rfl⟩
theorem lfind_no (P : Value) (n : Int) (w : World) (h : NoLog w P) : Calls Tryz.prog 92 #[P, .int .i64 n] w fun e w' => e = .returned (.tuple #[.int .i64 0, .int .i64 1]) ∧ w = w' := by
  have HW := Lib.hid (lworks_no P w h)
  clear h
  go_enter Tryz.func92, Tryz.ntmps92
  go_wp2_with fail
  refine HW.out.mono ?_
  rintro e w1 ⟨rfl, rfl⟩
  go_wp2_with fail
  go_ret2
  exact ⟨rfl, rfl⟩
theorem lrollback_no (P : Value) (w : World) (h : NoLog w P) : Calls Tryz.prog 24 #[P] w fun e w' => e = .returned (.int .i64 1) ∧ w = w' := by
  have HW := Lib.hid (lworks_no P w h)
  clear h
  go_enter Tryz.func24, Tryz.ntmps24
  go_wp2_with fail
  refine HW.out.mono ?_
  rintro e w1 ⟨rfl, rfl⟩
  go_wp2_with fail
  go_ret
  exact ⟨rfl, rfl⟩
theorem lremove_no (P : Value) (n : Int) (w : World) (h : NoLog w P) : Calls Tryz.prog 26 #[P, .int .i64 n] w fun e w' => e = .returned (.int .i64 1) ∧ w = w' := by
  have HW := Lib.hid (lfind_no P n w h)
  clear h
  go_enter Tryz.func26, Tryz.ntmps26
  go_wp2_with fail
  refine HW.out.mono ?_
  rintro e w1 ⟨rfl, rfl⟩
  go_wp2_with fail
  go_ret
  exact ⟨rfl, rfl⟩
theorem lsync_no (P : Value) (w : World) (h : NoLog w P) : Calls Tryz.prog 28 #[P] w fun e w' => e = .returned (.int .i64 1) ∧ w = w' := by
  have HW := Lib.hid (lworks_no P w h)
  clear h
  go_enter Tryz.func28, Tryz.ntmps28
  go_wp2_with fail
  refine HW.out.mono ?_
  rintro e w1 ⟨rfl, rfl⟩
  go_wp2_with fail
  go_ret
  exact ⟨rfl, rfl⟩
theorem lnext_no (P : Value) (w : World) (h : NoLog w P) : Calls Tryz.prog 113 #[P] w fun e w' => e = .returned (.int .i64 0) ∧ w = w' := by
  have HW := Lib.hid (lworks_no P w h)
  clear h
  go_enter Tryz.func113, Tryz.ntmps113
  go_wp2_with fail
  refine HW.out.mono ?_
  rintro e w1 ⟨rfl, rfl⟩
  go_wp2_with fail
  go_ret
  exact ⟨rfl, rfl⟩
theorem lsegments_no (P : Value) (w : World) (h : NoLog w P) : Calls Tryz.prog 40 #[P] w fun e w' => e = .returned (.slice none 0 0) ∧ w = w' := by
  have HW := Lib.hid (lworks_no P w h)
  clear h
  go_enter Tryz.func40, Tryz.ntmps40
  go_wp2_with fail
  refine HW.out.mono ?_
  rintro e w1 ⟨rfl, rfl⟩
  go_wp2_with fail
  go_ret
  exact ⟨rfl, rfl⟩
theorem lfresh_no (P : Value) (w : World) (h : NoLog w P) : Calls Tryz.prog 49 #[P] w fun e w' => e = .returned (.int .i64 0) ∧ w = w' := by
  have HW := Lib.hid (lworks_no P w h)
  clear h
  go_enter Tryz.func49, Tryz.ntmps49
  go_wp2_with fail
  refine HW.out.mono ?_
  rintro e w1 ⟨rfl, rfl⟩
  go_wp2_with fail
  go_ret
  exact ⟨rfl, rfl⟩
theorem lsize_no (P : Value) (n : Int) (w : World) (h : NoLog w P) : Calls Tryz.prog 43 #[P, .int .i64 n] w fun e w' => e = .returned (.int .i64 0) ∧ w = w' := by
  have HW := Lib.hid (lfind_no P n w h)
  clear h
  go_enter Tryz.func43, Tryz.ntmps43
  go_wp2_with fail
  refine HW.out.mono ?_
  rintro e w1 ⟨rfl, rfl⟩
  go_wp2_with fail
  go_ret
  exact ⟨rfl, rfl⟩
theorem lbytes_no (P : Value) (n : Int) (w : World) (h : NoLog w P) : Calls Tryz.prog 41 #[P, .int .i64 n] w fun e w' => e = .returned (.tuple #[.slice none 0 0, .int .i64 1]) ∧ w = w' := by
  have HW := Lib.hid (lfind_no P n w h)
  clear h
  go_enter Tryz.func41, Tryz.ntmps41
  go_wp2_with fail
  refine HW.out.mono ?_
  rintro e w1 ⟨rfl, rfl⟩
  go_wp2_with fail
  go_ret2
  exact ⟨rfl, rfl⟩
theorem zeroEnt : (Tryz.prog.info? 44).map (fun i => (i.zero, i.size)) = some (some (.agg #[.int .i64 0, .int .u8 0, .int .u8 0, .int .u8 0, .int .u8 0, .int .u8 0, .int .u8 0, .int .u8 0, .int .u8 0, .int .u8 0, .int .u8 0, .int .u8 0, .int .u8 0, .int .u8 0, .int .u8 0, .int .u8 0, .int .u8 0, .int .u8 0, .int .u8 0, .int .u8 0, .int .u8 0, .int .u8 0, .int .u8 0, .int .u8 0, .int .u8 0, .int .u8 0, .int .u8 0, .int .u8 0, .int .u8 0, .int .u8 0, .int .u8 0, .int .u8 0, .int .u8 0, .slice none 0 0]), 34) := by kernel_rfl
set_option maxRecDepth 100000 in
set_option maxHeartbeats 1600000 in
theorem lappend_no (P : Value) (ent : Array Value) (w : World) (h : NoLog w P) : Calls Tryz.prog 20 #[P, .agg ent] w fun e w' => e = .returned (.tuple #[.agg #[.int .i64 0, .int .i64 0, .int .i64 0], .int .i64 1]) ∧ Still w w' := by
  obtain ⟨wA, hwA⟩ : ∃ wA, wA = w.alloc (.cells ent 44) := ⟨_, rfl⟩
  obtain ⟨wB, hwB⟩ : ∃ wB, wB = wA.alloc (.cells #[.int .i64 0, .int .i64 0, .int .i64 0] 39) := ⟨_, rfl⟩
  have SA : Still w wA := by rw [hwA]; exact (Still.refl w).alloc (Nat.le_refl _) _
  have hsA : wA.heap.size = w.heap.size + 1 := by rw [hwA]; simp
  have SB : Still wA wB := by rw [hwB]; exact (Still.refl wA).alloc (Nat.le_refl _) _
  have BP : Blk wB (w.heap.size + 1) 39 #[.int .i64 0, .int .i64 0, .int .i64 0] := by rw [hwB, ← hsA]; exact Blk.new _ _ _
  have SAB := Lib.hid (Still.trans SA SB)
  have WK := Lib.hid (lworks_no P wB (h.still SAB.out))
  have HBP := Lib.hid BP
  have HSA := Lib.hid hsA
  have HWA := Lib.hid hwA
  have HWB := Lib.hid hwB
  have UP := Lib.hid (show Tryz.prog.underlying 39 = some _ from Tryz.underlying39)
  clear h hwA hwB SA SB hsA BP
  go_enter Tryz.func20, Tryz.ntmps20
  go_wp2_with (first
    | (guard_target =~ wpList _ _ _ (Oper.mk (some 3) _ _ _ _ _ :: _) _ _; go_must (refine wpList_box_val rfl 44 (.tmp 1) rfl (some 3) rfl ent rfl ?_); rw [← HWA.out])
    | (guard_target =~ wpList _ _ _ (Oper.mk (some 4) _ _ _ _ _ :: _) _ _; go_must (refine wpList_alloc_arr rfl 39 rfl (some 4) rfl #[.int .i64 0, .int .i64 0, .int .i64 0] 3 zeroPl ?_); rw [← HWB.out, HSA.out])
    | (go_at_call 80; refine WK.out.mono ?_; rintro e w2 ⟨rfl, rfl⟩)
    | (guard_target =~ wpList _ _ _ (Oper.mk none (Op.store _ _ _) _ _ _ _ :: _) _ _; go_must (refine wpList_store_rowTo rfl 39 (.tmp 4) (.tmp 12) rfl rfl (w.heap.size + 1) #[.int .i64 0, .int .i64 0, .int .i64 0] rfl rfl 39 _ HBP.out (sizePl.trans rfl) rfl (by simp [Value.oneCell']) ?_)))
  refine bodyPost_ret (results_cellP rfl _ _ (w.heap.size + 1) 39 _ (0, 0) _ rfl (setRow_heap _ _ _ _ _ _ HBP.out) UP.out rfl (sizePl.trans rfl)) rfl ?_
  exact ⟨rfl, below_setRow SAB.out (by omega) _⟩
set_option maxRecDepth 100000 in
set_option maxHeartbeats 1600000 in
theorem lcommit_no (P : Value) (w : World) (h : NoLog w P) : Calls Tryz.prog 22 #[P] w fun e w' => e = .returned (.tuple #[.int .i64 0, .int .i64 1]) ∧ Still w w' := by
  have AP := Lib.hid (fun ent => lappend_no P ent w h)
  clear h
  go_enter Tryz.func22, Tryz.ntmps22
  go_wp2_with (first
    | (go_at_call 20; refine (AP.out _).mono ?_; rintro e w2 ⟨rfl, s2⟩; have S2 := Lib.hid s2; clear s2)
    | (guard_target =~ wpList _ _ _ (Oper.mk (some 4) (Op.alloc _) _ _ _ _ :: _) _ _; go_must (refine wpList_alloc_arr rfl 39 rfl (some 4) rfl #[.int .i64 0, .int .i64 0, .int .i64 0] 3 zeroPl ?_))
    | (guard_target =~ wpList _ _ _ (Oper.mk none (Op.store _ _ _) _ _ _ _ :: _) _ _; go_must (refine wpList_store_rowTo rfl 39 (.tmp 4) (.tmp 10) rfl rfl w2.heap.size #[.int .i64 0, .int .i64 0, .int .i64 0] rfl rfl 39 _ (Blk.new w2 _ _) (sizePl.trans rfl) rfl (by simp [Value.oneCell']) ?_)))
  go_ret2
  exact ⟨rfl, below_setRow (S2.out.alloc S2.out.size _) S2.out.size _⟩
set_option maxRecDepth 100000 in
set_option maxHeartbeats 1600000 in
theorem lread_no (P : Value) (x y z : Int) (w : World) (h : NoLog w P) : Calls Tryz.prog 34 #[P, .agg #[.int .i64 x, .int .i64 y, .int .i64 z]] w fun e w' => e = .returned (.tuple #[.agg #[.int .i64 0, .int .u8 0, .int .u8 0, .int .u8 0, .int .u8 0, .int .u8 0, .int .u8 0, .int .u8 0, .int .u8 0, .int .u8 0, .int .u8 0, .int .u8 0, .int .u8 0, .int .u8 0, .int .u8 0, .int .u8 0, .int .u8 0, .int .u8 0, .int .u8 0, .int .u8 0, .int .u8 0, .int .u8 0, .int .u8 0, .int .u8 0, .int .u8 0, .int .u8 0, .int .u8 0, .int .u8 0, .int .u8 0, .int .u8 0, .int .u8 0, .int .u8 0, .int .u8 0, .slice none 0 0], .int .i64 1]) ∧ Still w w' := by
  obtain ⟨wA, hwA⟩ : ∃ wA, wA = w.alloc (.cells #[.int .i64 x, .int .i64 y, .int .i64 z] 39) := ⟨_, rfl⟩
  obtain ⟨wB, hwB⟩ : ∃ wB, wB = wA.alloc (.cells #[.int .i64 0, .int .u8 0, .int .u8 0, .int .u8 0, .int .u8 0, .int .u8 0, .int .u8 0, .int .u8 0, .int .u8 0, .int .u8 0, .int .u8 0, .int .u8 0, .int .u8 0, .int .u8 0, .int .u8 0, .int .u8 0, .int .u8 0, .int .u8 0, .int .u8 0, .int .u8 0, .int .u8 0, .int .u8 0, .int .u8 0, .int .u8 0, .int .u8 0, .int .u8 0, .int .u8 0, .int .u8 0, .int .u8 0, .int .u8 0, .int .u8 0, .int .u8 0, .int .u8 0, .slice none 0 0] 44) := ⟨_, rfl⟩
  have SA : Still w wA := by rw [hwA]; exact (Still.refl w).alloc (Nat.le_refl _) _
  have hsA : wA.heap.size = w.heap.size + 1 := by rw [hwA]; simp
  have SB : Still wA wB := by rw [hwB]; exact (Still.refl wA).alloc (Nat.le_refl _) _
  have BA : Blk wA w.heap.size 39 #[.int .i64 x, .int .i64 y, .int .i64 z] := by rw [hwA]; exact Blk.new _ _ _
  have BP : Blk wB (w.heap.size + 1) 44 #[.int .i64 0, .int .u8 0, .int .u8 0, .int .u8 0, .int .u8 0, .int .u8 0, .int .u8 0, .int .u8 0, .int .u8 0, .int .u8 0, .int .u8 0, .int .u8 0, .int .u8 0, .int .u8 0, .int .u8 0, .int .u8 0, .int .u8 0, .int .u8 0, .int .u8 0, .int .u8 0, .int .u8 0, .int .u8 0, .int .u8 0, .int .u8 0, .int .u8 0, .int .u8 0, .int .u8 0, .int .u8 0, .int .u8 0, .int .u8 0, .int .u8 0, .int .u8 0, .int .u8 0, .slice none 0 0] := by rw [hwB, ← hsA]; exact Blk.new _ _ _
  have k0 := (BA.still SB).cell 0
  have SAB := Lib.hid (Still.trans SA SB)
  have WK := Lib.hid (fun n => lfind_no P n wB (h.still SAB.out))
  have HBP := Lib.hid BP
  have HSA := Lib.hid hsA
  have HWA := Lib.hid hwA
  have HWB := Lib.hid hwB
  obtain ⟨fs, hu⟩ := underEnt
  have HU := Lib.hid hu
  clear h hwA hwB SA SB hsA BP BA hu
  go_enter Tryz.func34, Tryz.ntmps34
  go_wp2_with (first
    | (guard_target =~ wpList _ _ _ (Oper.mk (some 3) _ _ _ _ _ :: _) _ _; go_must (refine wpList_box_val rfl 39 (.tmp 1) rfl (some 3) rfl #[.int .i64 x, .int .i64 y, .int .i64 z] rfl ?_); rw [← HWA.out])
    | (guard_target =~ wpList _ _ _ (Oper.mk (some 4) _ _ _ _ _ :: _) _ _; go_must (refine wpList_alloc_arr rfl 44 rfl (some 4) rfl #[.int .i64 0, .int .u8 0, .int .u8 0, .int .u8 0, .int .u8 0, .int .u8 0, .int .u8 0, .int .u8 0, .int .u8 0, .int .u8 0, .int .u8 0, .int .u8 0, .int .u8 0, .int .u8 0, .int .u8 0, .int .u8 0, .int .u8 0, .int .u8 0, .int .u8 0, .int .u8 0, .int .u8 0, .int .u8 0, .int .u8 0, .int .u8 0, .int .u8 0, .int .u8 0, .int .u8 0, .int .u8 0, .int .u8 0, .int .u8 0, .int .u8 0, .int .u8 0, .int .u8 0, .slice none 0 0] 34 zeroEnt ?_); rw [← HWB.out, HSA.out])
    | (go_at_call 92; refine (WK.out _).mono ?_; rintro e w2 ⟨rfl, rfl⟩)
    | (guard_target =~ wpList _ _ _ (Oper.mk none (Op.store _ _ _) _ _ _ _ :: _) _ _; go_must (refine wpList_store_rowTo rfl 44 (.tmp 4) (.tmp 37) rfl rfl (w.heap.size + 1) #[.int .i64 0, .int .u8 0, .int .u8 0, .int .u8 0, .int .u8 0, .int .u8 0, .int .u8 0, .int .u8 0, .int .u8 0, .int .u8 0, .int .u8 0, .int .u8 0, .int .u8 0, .int .u8 0, .int .u8 0, .int .u8 0, .int .u8 0, .int .u8 0, .int .u8 0, .int .u8 0, .int .u8 0, .int .u8 0, .int .u8 0, .int .u8 0, .int .u8 0, .int .u8 0, .int .u8 0, .int .u8 0, .int .u8 0, .int .u8 0, .int .u8 0, .int .u8 0, .int .u8 0, .slice none 0 0] rfl rfl 44 _ HBP.out (sizeEnt0.trans rfl) rfl (by simp [Value.oneCell']) ?_)))
  refine bodyPost_ret (results_cellP rfl _ _ (w.heap.size + 1) 44 _ (0, 0) _ rfl (setRow_heap _ _ _ _ _ _ HBP.out) HU.out rfl (sizeEnt0.trans rfl)) rfl ?_
  exact ⟨rfl, below_setRow SAB.out (by omega) _⟩
/-- The medium's own nil. -/
theorem msize_nil (s : ByteArray) (w : World) : Calls Tryz.prog 76 #[.pointer none, .string s] w fun e w' => e = .returned (.tuple #[.int .i64 0, .int .i64 1]) ∧ w = w' := by
  have HW : Calls Tryz.prog 98 #[.pointer none] w fun e w' => e = .returned (.int .i64 1) ∧ w = w' := by
    go_enter Tryz.func98, Tryz.ntmps98
    go_wp2
    go_ret
    exact ⟨rfl, rfl⟩
  have HW := Lib.hid HW
  have HF : Calls Tryz.prog 137 #[.pointer none, .string s] w fun e w' => e = .returned (.tuple #[.pointer none, .int .i64 1]) ∧ w = w' := by
    go_enter Tryz.func137, Tryz.ntmps137
    go_wp2_with fail
    refine HW.out.mono ?_
    rintro e w1 ⟨rfl, rfl⟩
    go_wp2_with fail
    go_ret2
    exact ⟨rfl, rfl⟩
  have HF := Lib.hid HF
  clear HW
  go_enter Tryz.func76, Tryz.ntmps76
  go_wp2_with fail
  refine HF.out.mono ?_
  rintro e w1 ⟨rfl, rfl⟩
  go_wp2_with fail
  go_ret2
  exact ⟨rfl, rfl⟩
theorem open_nil (limit : Int) (w : World) : Calls Tryz.prog 18 #[.pointer none, .int .i64 limit] w fun e w' => e = .returned (.tuple #[.pointer none, .int .i64 1]) ∧ w = w' := by
  have HF := Lib.hid (msize_nil ⟨#[]⟩ w)
  go_enter Tryz.func18, Tryz.ntmps18
  go_wp2_with fail
  refine HF.out.mono ?_
  rintro e w1 ⟨rfl, rfl⟩
  go_wp2_with fail
  go_ret2
  exact ⟨rfl, rfl⟩
end Go.Proofs.YtfneloobfidckaaGreatDoor

/- Contract: where a segment stands. It proves no statement. -/


namespace Go.Proofs.YtfneloobfidckaaGreatDoor
open Go.RowKit Go.Maps Go.WideMaps Go.Sort
set_option linter.unusedVariables false
set_option linter.unusedSimpArgs false

def cmpI (x y : Int) : Int := if x < y then -1 else if y < x then 1 else 0
theorem cnan_any (x : Int) (w : World) : Calls Tryz.prog 205 #[.int .i64 x] w fun e w' => e = .returned (.bool false) ∧ w = w' := by
  go_enter Tryz.func205, Tryz.ntmps205
  go_wp2_with fail
  go_ret
  exact ⟨by simp, rfl⟩
set_option maxRecDepth 100000 in
theorem ccmp_any (x y : Int) (w : World) : Calls Tryz.prog 157 #[.int .i64 x, .int .i64 y] w fun e w' => e = .returned (.int .i64 (cmpI x y)) ∧ w = w' := by
  unfold cmpI
  by_cases h : x < y
  · rw [if_pos h]
    go_enter Tryz.func157, Tryz.ntmps157
    go_wp2_with fail
    refine (cnan_any x w).mono ?_
    rintro e w1 ⟨rfl, rfl⟩
    go_wp2_with fail
    refine (cnan_any y w).mono ?_
    rintro e w1 ⟨rfl, rfl⟩
    go_wp2_with fail
    go_ret
    exact ⟨rfl, rfl⟩
  · rw [if_neg h]
    by_cases h2 : y < x
    · rw [if_pos h2]
      go_enter Tryz.func157, Tryz.ntmps157
      go_wp2_with fail
      refine (cnan_any x w).mono ?_
      rintro e w1 ⟨rfl, rfl⟩
      go_wp2_with fail
      refine (cnan_any y w).mono ?_
      rintro e w1 ⟨rfl, rfl⟩
      go_wp2_with fail
      go_ret
      exact ⟨rfl, rfl⟩
    · rw [if_neg h2]
      go_enter Tryz.func157, Tryz.ntmps157
      go_wp2_with fail
      refine (cnan_any x w).mono ?_
      rintro e w1 ⟨rfl, rfl⟩
      go_wp2_with fail
      refine (cnan_any y w).mono ?_
      rintro e w1 ⟨rfl, rfl⟩
      go_wp2_with fail
      go_ret
      exact ⟨rfl, rfl⟩
/-- What find's own function answers: a segment's number beside n. -/
theorem fcmp_any (a z n : Int) (w : World) : Calls Tryz.prog 156 #[.agg #[.int .i64 a, .int .i64 z], .int .i64 n] w fun e w' => e = .returned (.int .i64 (cmpI a n)) ∧ Still w w' := by
  have CC := Lib.hid (fun W => ccmp_any a n W)
  obtain ⟨wA, hwA⟩ : ∃ wA, wA = w.alloc (.cells #[.int .i64 a, .int .i64 z] 160) := ⟨_, rfl⟩
  have SA := Lib.hid (show Still w wA by rw [hwA]; exact (Still.refl w).alloc (Nat.le_refl _) _)
  have BA : Blk wA w.heap.size 160 #[.int .i64 a, .int .i64 z] := by rw [hwA]; exact Blk.new _ _ _
  have k0 := BA.cell 0
  have HWA := Lib.hid hwA
  clear hwA BA
  go_enter Tryz.func156, Tryz.ntmps156
  go_upto_region 1 with (guard_target =~ wpList _ _ _ (Oper.mk (some 2) (Op.box _ _) _ _ _ _ :: _) _ _; go_must (refine wpList_box_val rfl 160 (.tmp 0) rfl (some 2) rfl #[.int .i64 a, .int .i64 z] rfl ?_); rw [← HWA.out])
  go_wp2_with fail
  refine (CC.out _).mono ?_
  rintro e w1 ⟨rfl, rfl⟩
  go_wp2_with fail
  go_ret
  exact ⟨rfl, SA.out⟩
def bsF : Value := .func (.func 156) #[] #[]
/-- The row of the segments in memory. -/
structure SegR (w : World) (A : Option Addr) (n c : Nat) (X : List (Nat × Nat)) : Prop where
  len : X.length = n
  fit : n ≤ c
  cap : c ≤ 9223372036854775807
  at_ : ∀ (i : Nat) (p : Nat × Nat), X[i]? = some p → ∃ b, A = some ⟨b, 0, none⟩ ∧ b < w.heap.size ∧ w.rangeAt b (i * 2) [.int .i64 (p.1 : Int), .int .i64 (p.2 : Int)]
theorem SegR.still {w w' : World} {A : Option Addr} {n c : Nat} {X : List (Nat × Nat)} (h : SegR w A n c X) (s : Still w w') : SegR w' A n c X :=
  ⟨h.len, h.fit, h.cap, fun i p hp => by
    obtain ⟨b, e, hb, hr⟩ := h.at_ i p hp
    exact ⟨b, e, Nat.lt_of_lt_of_le hb s.size, fun j u hj => (s.cell (p := ⟨b, i * 2 + j, none⟩) hb).trans (hr j u hj)⟩⟩
theorem LogI.segR {w : World} {base g gl : Nat} {lo : LOwn} {S : Lg} {sv : Value} (h : LogI w base lo g gl S sv) : ∃ A c, sv = .slice A S.segs.length c ∧ SegR w A S.segs.length c S.segs := by
  obtain ⟨A, c, e, h1, h2, h3⟩ := h.form
  refine ⟨A, c, e, rfl, h1, h2, fun i p hp => ?_⟩
  obtain ⟨b, eA, hb, d1, d2⟩ := h3 i p hp
  refine ⟨b, eA, (h.dom b (by rw [hb]; simp)).2, fun j u hj => ?_⟩
  match j, hj with
  | 0, hj => obtain rfl : _ = u := by simpa using hj
             exact d1
  | 1, hj => obtain rfl : _ = u := by simpa using hj
             exact d2
  | j + 2, hj => simp at hj
theorem sizeSeg : (Tryz.prog.info? 160).map (·.size) = some 2 := by kernel_rfl
set_option maxRecDepth 100000 in
set_option maxHeartbeats 6400000 in
theorem bs_any {w : World} {A : Option Addr} {n c : Nat} {X : List (Nat × Nat)} (t : Int) (h : SegR w A n c X) (hn : n ≤ 1048577) (rise : X.Pairwise fun p q => p.1 < q.1) :
    Calls Tryz.prog 155 #[.slice A n c, .int .i64 t, bsF] w fun e w' => ∃ (i : Nat) (b : Bool), e = .returned (.tuple #[.int .i64 (i : Int), .bool b]) ∧ Still w w' ∧ (b = false → ∀ p ∈ X, (p.1 : Int) ≠ t) ∧ (b = true → ∃ p, X[i]? = some p ∧ (p.1 : Int) = t) := by
  have HR := Lib.hid (fun W (s : Still w W) => h.still s)
  have HN := Lib.hid hn
  have RS := Lib.hid rise
  have FC := Lib.hid (fun a z W => fcmp_any a z t W)
  have US := Lib.hid (show Tryz.prog.underlying 160 = some _ from Tryz.underlying160)
  have hnc := h.fit
  have hcm := h.cap
  have hlen := Lib.hid h.len
  unfold bsF
  clear h hn rise
  go_enter Tryz.func155, Tryz.ntmps155
  go_wp2_with fail
  go_loopw [9, 10] (fun iv jv wr => ∃ i j : Nat, i ≤ j ∧ j ≤ n ∧ iv = .int .i64 i ∧ jv = .int .i64 j ∧ Hid (Still w wr ∧ (∀ k p, k < i → X[k]? = some p → (p.1 : Int) < t) ∧ (∀ k p, j ≤ k → X[k]? = some p → t ≤ (p.1 : Int)))) (fun iv jv _ => (intOf jv).toNat - (intOf iv).toNat)
  case atStart => exact ⟨0, n, Nat.zero_le _, Nat.le_refl _, rfl, rfl, Lib.hid ⟨Still.refl _, fun k p hk => by omega, fun k p hk hp => by have := (List.getElem?_eq_some_iff.1 hp).1; have := hlen.out; omega⟩⟩
  case round =>
    obtain ⟨i, j, hij, hj, rfl, rfl, hh⟩ := hrel
    by_cases hlt : i < j
    · obtain ⟨q, hq⟩ : ∃ q, q = (i + j) / 2 := ⟨_, rfl⟩
      have hqn : q < n := by omega
      obtain ⟨p, hp⟩ : ∃ p, X[q]? = some p := ⟨_, List.getElem?_eq_getElem (by have := hlen.out; omega)⟩
      have e1 : wrap64 ((i : Int) + (j : Int)) = (i : Int) + (j : Int) := by have := HN.out; unfold wrap64; omega
      have e2 : IntKind.u64.wrap ((i : Int) + (j : Int)) = (i : Int) + (j : Int) := by have := HN.out; rw [IntKind.wrap_u64]; omega
      have e3 : wrap64 (((i : Int) + (j : Int)) / 2) = (q : Int) := by have := HN.out; unfold wrap64; omega
      have EE := Lib.hid (And.intro e1 (And.intro e2 e3))
      clear e1 e2 e3
      obtain ⟨b, hA, hb, rng⟩ := (HR.out _ hh.out.1).at_ q p hp
      subst hA
      have RNG := Lib.hid rng
      have RNG1 := Lib.hid (show ∀ k u, X[k]? = some u → k ≤ q → u.1 ≤ p.1 from fun k u hk hkq => by
        by_cases hkk : k = q
        · subst hkk; rw [hp] at hk; injection hk with hk; rw [hk]; omega
        · obtain ⟨k1, e1⟩ := List.getElem?_eq_some_iff.1 hk
          obtain ⟨k2, e2⟩ := List.getElem?_eq_some_iff.1 hp
          have := List.pairwise_iff_getElem.1 RS.out k q k1 k2 (by omega)
          rw [e1, e2] at this
          omega)
      have RNG2 := Lib.hid (show ∀ k u, X[k]? = some u → q ≤ k → p.1 ≤ u.1 from fun k u hk hkq => by
        by_cases hkk : k = q
        · subst hkk; rw [hp] at hk; injection hk with hk; rw [hk]; omega
        · obtain ⟨k1, e1⟩ := List.getElem?_eq_some_iff.1 hk
          obtain ⟨k2, e2⟩ := List.getElem?_eq_some_iff.1 hp
          have := List.pairwise_iff_getElem.1 RS.out q k k2 k1 (by omega)
          rw [e1, e2] at this
          omega)
      have HIJ := Lib.hid (show i ≤ q ∧ q < j from by omega)
      obtain ⟨pa, hpa⟩ : ∃ pa, pa = p.1 := ⟨_, rfl⟩
      obtain ⟨pb, hpb⟩ : ∃ pb, pb = p.2 := ⟨_, rfl⟩
      rw [← hpa, ← hpb] at RNG
      rw [← hpa] at RNG1 RNG2
      have S1 := Lib.hid hh.out.1
      have H2 := Lib.hid hh.out.2
      have z3 : (0 : Int) ≤ (q : Int) := by omega
      have z4 : (q : Int) < (n : Int) := by omega
      clear hp hb rng hq hpa hpb hh hqn hij
      go_upto_region 5 with fail
      rw [EE.out.1, EE.out.2.1, EE.out.2.2]
      go_wp2_with (guard_target =~ wpList _ _ _ (Oper.mk (some 28) _ _ _ _ _ :: _) _ _; go_must (refine wpList_load_mid rfl 160 (.tmp 27) rfl b (q * 2) rfl [.int .i64 (pa : Int), .int .i64 (pb : Int)] _ RNG.out US.out rfl sizeSeg ?_))
      refine (FC.out _ _ _).mono ?_
      rintro e w1 ⟨rfl, s1⟩
      have S2 := Lib.hid (Still.trans S1.out s1)
      clear s1
      by_cases hc1 : (pa : Int) < t
      · have ec : cmpI (pa : Int) t = -1 := by unfold cmpI; rw [if_pos hc1]
        rw [ec]
        have NX := Lib.hid (show Still w w1 ∧ (∀ k p, k < q + 1 → X[k]? = some p → (p.1 : Int) < t) ∧ (∀ k p, j ≤ k → X[k]? = some p → t ≤ (p.1 : Int)) from ⟨S2.out, fun k u hk hu => by have := RNG1.out k u hu (by omega); omega, H2.out.2⟩)
        clear ec hc1
        go_wp2_with fail
        go_roundw
        case rel => exact ⟨q + 1, j, by have := HIJ.out; omega, hj, by go_num, rfl, NX⟩
        case measure => simp [intOf]; have := HIJ.out; omega
      · have ec : ¬ (cmpI (pa : Int) t < 0) := by unfold cmpI; rw [if_neg hc1]; split <;> omega
        obtain ⟨cv, hcv⟩ : ∃ cv, cv = cmpI (pa : Int) t := ⟨_, rfl⟩
        rw [← hcv] at ec ⊢
        have NX := Lib.hid (show Still w w1 ∧ (∀ k p, k < i → X[k]? = some p → (p.1 : Int) < t) ∧ (∀ k p, q ≤ k → X[k]? = some p → t ≤ (p.1 : Int)) from ⟨S2.out, H2.out.1, fun k u hk hu => by have := RNG2.out k u hu (by omega); omega⟩)
        clear hc1 hcv
        go_wp2_with fail
        go_roundw
        case rel => exact ⟨i, q, HIJ.out.1, by have := HIJ.out; omega, rfl, rfl, NX⟩
        case measure => simp [intOf]; have := HIJ.out; omega
    · obtain rfl : i = j := by omega
      by_cases hin : i < n
      · obtain ⟨p, hp⟩ : ∃ p, X[i]? = some p := ⟨_, List.getElem?_eq_getElem (by have := hlen.out; omega)⟩
        obtain ⟨b, hA, hb, rng⟩ := (HR.out _ hh.out.1).at_ i p hp
        subst hA
        have RNG := Lib.hid rng
        have hge := hh.out.2.2 i p (Nat.le_refl _) hp
        have OUT := Lib.hid (show (¬ (p.1 : Int) = t → ∀ u ∈ X, (u.1 : Int) ≠ t) ∧ ((p.1 : Int) = t → ∃ u, X[i]? = some u ∧ (u.1 : Int) = t) from ⟨fun hne u hu e => by
          obtain ⟨k, hk⟩ := List.mem_iff_getElem?.1 hu
          by_cases hki : k < i
          · have := hh.out.2.1 k u hki hk; omega
          · by_cases hkk : k = i
            · subst hkk; rw [hp] at hk; injection hk with hk; rw [hk] at hne; exact hne e
            · obtain ⟨k1, e1⟩ := List.getElem?_eq_some_iff.1 hk
              obtain ⟨k2, e2⟩ := List.getElem?_eq_some_iff.1 hp
              have := List.pairwise_iff_getElem.1 RS.out i k k2 k1 (by omega)
              rw [e1, e2] at this
              omega, fun e => ⟨p, hp, e⟩⟩)
        obtain ⟨pa, hpa⟩ : ∃ pa, pa = p.1 := ⟨_, rfl⟩
        obtain ⟨pb, hpb⟩ : ∃ pb, pb = p.2 := ⟨_, rfl⟩
        rw [← hpa, ← hpb] at RNG
        rw [← hpa] at OUT hge
        have S1 := Lib.hid hh.out.1
        have z3 : (0 : Int) ≤ (i : Int) := by omega
        have z4 : (i : Int) < (n : Int) := by omega
        clear hp hb rng hpa hpb hh hlt hij hj
        go_wp2_with (guard_target =~ wpList _ _ _ (Oper.mk (some 44) _ _ _ _ _ :: _) _ _; go_must (refine load_midM (by kernel_rfl) 160 (.tmp 43) rfl b (i * 2) rfl [.int .i64 (pa : Int), .int .i64 (pb : Int)] _ RNG.out US.out rfl sizeSeg ?_))
        refine (FC.out _ _ _).mono ?_
        rintro e w1 ⟨rfl, s1⟩
        have S2 := Lib.hid (Still.trans S1.out s1)
        clear s1
        by_cases hc1 : (pa : Int) = t
        · have ec : cmpI (pa : Int) t = 0 := by unfold cmpI; rw [if_neg (by omega), if_neg (by omega)]
          rw [ec]
          have O2 := Lib.hid (OUT.out.2 hc1)
          clear ec hc1 OUT hge
          go_wp2_with fail
          go_ret2
          exact ⟨i, true, (by first | rfl | trivial), S2.out, fun h => (by cases h), fun _ => O2.out⟩
        · have ec : cmpI (pa : Int) t = 1 := by unfold cmpI; rw [if_neg (by omega), if_pos (by omega)]
          rw [ec]
          have O1 := Lib.hid (OUT.out.1 hc1)
          clear ec hc1 OUT hge
          go_wp2_with fail
          go_ret2
          exact ⟨i, false, (by first | rfl | trivial), S2.out, fun _ => O1.out, fun h => (by cases h)⟩
      · obtain rfl : i = n := by omega
        have S1 := Lib.hid hh.out.1
        have O1 := Lib.hid (show ∀ u ∈ X, (u.1 : Int) ≠ t from fun u hu => by
          obtain ⟨k, hk⟩ := List.mem_iff_getElem?.1 hu
          have h1 := (List.getElem?_eq_some_iff.1 hk).1
          have := hh.out.2.1 k u (by have := hlen.out; omega) hk
          omega)
        clear hh hlt hij hj hin
        go_wp2_with fail
        go_ret2
        exact ⟨i, false, (by first | rfl | trivial), S1.out, fun _ => O1.out, fun h => (by cases h)⟩
/-- Where a segment stands. -/
theorem lfind_any {w : World} {base g gl : Nat} {lo : LOwn} {S : Lg} {sv : Value} (hl : LogI w base lo g gl S sv) (hok : S.ok) (n : Int) :
    Calls Tryz.prog 92 #[.pointer (some ⟨gl, 0, none⟩), .int .i64 n] w fun e w' => Still w w' ∧ (((∀ p ∈ S.segs, (p.1 : Int) ≠ n) ∧ e = .returned (.tuple #[.int .i64 0, .int .i64 9])) ∨ (∃ (i : Nat) (p : Nat × Nat), S.segs[i]? = some p ∧ (p.1 : Int) = n ∧ e = .returned (.tuple #[.int .i64 (i : Int), .int .i64 0]))) := by
  obtain ⟨A, c, hsv, hr⟩ := hl.segR
  have k2 := hl.cells.2.2.1
  rw [hsv] at k2
  have WK := Lib.hid (lworks_any hl)
  have BS := Lib.hid (bs_any n hr (by have := hok.few; omega) hok.rise)
  unfold bsF at BS
  obtain ⟨ml, hml⟩ : ∃ ml, ml = S.segs.length := ⟨_, rfl⟩
  rw [← hml] at k2 BS
  have hnc : ml ≤ c := by rw [hml]; exact hr.fit
  have hcm := hr.cap
  clear hl hok hsv hr hml
  go_enter Tryz.func92, Tryz.ntmps92
  go_wp2_with fail
  refine WK.out.mono ?_
  rintro e w1 ⟨rfl, rfl⟩
  go_wp2_with fail
  refine BS.out.mono ?_
  rintro e w2 ⟨i, b, rfl, s2, h1, h2⟩
  have S2 := Lib.hid s2
  cases b with
  | true =>
    have H := Lib.hid (h2 rfl)
    clear h1 h2 s2
    go_wp2_with fail
    go_ret2
    obtain ⟨p, hp, e⟩ := H.out
    exact ⟨S2.out, .inr ⟨i, p, hp, e, rfl⟩⟩
  | false =>
    have H := Lib.hid (h1 rfl)
    clear h1 h2 s2
    go_wp2_with fail
    go_ret2
    exact ⟨S2.out, .inl ⟨H.out, rfl⟩⟩
end Go.Proofs.YtfneloobfidckaaGreatDoor
