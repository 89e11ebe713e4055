/- Contracts and facts, several texts in one. It proves no statement. -/
import Derived.Test.YtljacdbdjacbkaaGreatMpGc
import Derived.OwnWalk

/- Contracts: what the document says of a call, by what the disk's method answers. It proves no statement. -/



namespace Go.Proofs.YtljacdbdjacbkaaGreat
open Go.RowKit Go.Maps Go.WideMaps
set_option linter.unusedVariables false
set_option linter.unusedSimpArgs false

set_option maxRecDepth 100000 in
set_option maxHeartbeats 3200000 in
theorem told_by0 (P : Value) (nn mm : Int) (s t : ByteArray) (A : Option Addr) (m c : Nat) (A2 : Option Addr) (n2 c2 : Nat) (w : World) (R : Int → World → World → Prop)
    (hM : ∀ W, Still w W → Calls Tryz.prog 31 #[P, .string s] W fun e w' => ∃ E : Int, e = .returned (.int .i64 E) ∧ R E W w') :
    Calls Tryz.prog 8 #[P, .agg #[.int .i64 0, .string s, .string t, .int .i64 nn, .int .i64 mm, .slice A m c, .slice A2 n2 c2]] w fun e w' => ∃ (E : Int) (W : World), Still w W ∧ e = .returned (.tuple #[.slice none 0 0, .int .i64 E, .bool false]) ∧ R E W w' := by
  have NO := Lib.hid hM
  obtain ⟨wb, hwb⟩ : ∃ wb, wb = w.alloc (.cells #[.int .i64 0, .string s, .string t, .int .i64 nn, .int .i64 mm, .slice A m c, .slice A2 n2 c2] 36) := ⟨_, rfl⟩
  obtain ⟨g, hg⟩ : ∃ g, g = w.heap.size := ⟨_, rfl⟩
  have SB := Lib.hid (show Still w wb by rw [hwb]; exact (Still.refl _).alloc (Nat.le_refl _) _)
  have BB := Lib.hid (show Blk wb g 36 #[.int .i64 0, .string s, .string t, .int .i64 nn, .int .i64 mm, .slice A m c, .slice A2 n2 c2] by rw [hwb, hg]; exact Blk.new _ _ _)
  have HW := Lib.hid hwb
  have HG := Lib.hid hg
  clear hM hwb hg
  go_enter Tryz.func8, Tryz.ntmps8
  go_upto_region 1 with (guard_target =~ wpList _ _ _ (Oper.mk _ (Op.box _ _) _ _ _ _ :: _) _ _; go_must (refine wpList_box_arr rfl 36 (.tmp 1) rfl (some 3) rfl #[.int .i64 0, .string s, .string t, .int .i64 nn, .int .i64 mm, .slice A m c, .slice A2 n2 c2] (by kernel_rfl) ?_))
  rw [← HW.out, ← HG.out]
  have e0 : wb.cell? ⟨g, 0, none⟩ = some (.int .i64 0) := BB.out.cell 0
  have e1 : wb.cell? ⟨g, 1, none⟩ = some (.string s) := BB.out.cell 1
  have e2 : wb.cell? ⟨g, 2, none⟩ = some (.string t) := BB.out.cell 2
  have e3 : wb.cell? ⟨g, 3, none⟩ = some (.int .i64 nn) := BB.out.cell 3
  have e4 : wb.cell? ⟨g, 4, none⟩ = some (.int .i64 mm) := BB.out.cell 4
  have e5 : wb.cell? ⟨g, 5, none⟩ = some (.slice A m c) := BB.out.cell 5
  have e6 : wb.cell? ⟨g, 6, none⟩ = some (.slice A2 n2 c2) := BB.out.cell 6
  go_wp2_with (go_at_call 31; refine (NO.out _ SB.out).mono ?_; rintro e w3 ⟨E, rfl, r3⟩; have R3 := Lib.hid r3; clear r3)
  go_ret3
  exact ⟨_, _, SB.out, rfl, R3.out⟩

set_option maxRecDepth 100000 in
set_option maxHeartbeats 3200000 in
theorem told_by1 (P : Value) (nn mm : Int) (s t : ByteArray) (A : Option Addr) (m c : Nat) (A2 : Option Addr) (n2 c2 : Nat) (w : World) (R : Int → World → World → Prop)
    (hM : ∀ W, Still w W → Calls Tryz.prog 32 #[P, .string s, .agg #[.bool false, .int .i64 0, .slice A m c]] W fun e w' => ∃ E : Int, e = .returned (.int .i64 E) ∧ R E W w') :
    Calls Tryz.prog 8 #[P, .agg #[.int .i64 1, .string s, .string t, .int .i64 nn, .int .i64 mm, .slice A m c, .slice A2 n2 c2]] w fun e w' => ∃ (E : Int) (W : World), Still w W ∧ e = .returned (.tuple #[.slice none 0 0, .int .i64 E, .bool false]) ∧ R E W w' := by
  have NO := Lib.hid hM
  obtain ⟨wb, hwb⟩ : ∃ wb, wb = w.alloc (.cells #[.int .i64 1, .string s, .string t, .int .i64 nn, .int .i64 mm, .slice A m c, .slice A2 n2 c2] 36) := ⟨_, rfl⟩
  obtain ⟨g, hg⟩ : ∃ g, g = w.heap.size := ⟨_, rfl⟩
  have SB := Lib.hid (show Still w wb by rw [hwb]; exact (Still.refl _).alloc (Nat.le_refl _) _)
  have BB := Lib.hid (show Blk wb g 36 #[.int .i64 1, .string s, .string t, .int .i64 nn, .int .i64 mm, .slice A m c, .slice A2 n2 c2] by rw [hwb, hg]; exact Blk.new _ _ _)
  have HW := Lib.hid hwb
  have HG := Lib.hid hg
  clear hM hwb hg
  go_enter Tryz.func8, Tryz.ntmps8
  go_upto_region 1 with (guard_target =~ wpList _ _ _ (Oper.mk _ (Op.box _ _) _ _ _ _ :: _) _ _; go_must (refine wpList_box_arr rfl 36 (.tmp 1) rfl (some 3) rfl #[.int .i64 1, .string s, .string t, .int .i64 nn, .int .i64 mm, .slice A m c, .slice A2 n2 c2] (by kernel_rfl) ?_))
  rw [← HW.out, ← HG.out]
  have e0 : wb.cell? ⟨g, 0, none⟩ = some (.int .i64 1) := BB.out.cell 0
  have e1 : wb.cell? ⟨g, 1, none⟩ = some (.string s) := BB.out.cell 1
  have e2 : wb.cell? ⟨g, 2, none⟩ = some (.string t) := BB.out.cell 2
  have e3 : wb.cell? ⟨g, 3, none⟩ = some (.int .i64 nn) := BB.out.cell 3
  have e4 : wb.cell? ⟨g, 4, none⟩ = some (.int .i64 mm) := BB.out.cell 4
  have e5 : wb.cell? ⟨g, 5, none⟩ = some (.slice A m c) := BB.out.cell 5
  have e6 : wb.cell? ⟨g, 6, none⟩ = some (.slice A2 n2 c2) := BB.out.cell 6
  go_wp2_with (go_at_call 32; refine (NO.out _ SB.out).mono ?_; rintro e w3 ⟨E, rfl, r3⟩; have R3 := Lib.hid r3; clear r3)
  go_ret3
  exact ⟨_, _, SB.out, rfl, R3.out⟩

set_option maxRecDepth 100000 in
set_option maxHeartbeats 3200000 in
theorem told_by2 (P : Value) (nn mm : Int) (s t : ByteArray) (A : Option Addr) (m c : Nat) (A2 : Option Addr) (n2 c2 : Nat) (w : World) (R : Int → World → World → Prop)
    (hM : ∀ W, Still w W → Calls Tryz.prog 32 #[P, .string s, .agg #[.bool true, .int .i64 nn, .slice none 0 0]] W fun e w' => ∃ E : Int, e = .returned (.int .i64 E) ∧ R E W w') :
    Calls Tryz.prog 8 #[P, .agg #[.int .i64 2, .string s, .string t, .int .i64 nn, .int .i64 mm, .slice A m c, .slice A2 n2 c2]] w fun e w' => ∃ (E : Int) (W : World), Still w W ∧ e = .returned (.tuple #[.slice none 0 0, .int .i64 E, .bool false]) ∧ R E W w' := by
  have NO := Lib.hid hM
  obtain ⟨wb, hwb⟩ : ∃ wb, wb = w.alloc (.cells #[.int .i64 2, .string s, .string t, .int .i64 nn, .int .i64 mm, .slice A m c, .slice A2 n2 c2] 36) := ⟨_, rfl⟩
  obtain ⟨g, hg⟩ : ∃ g, g = w.heap.size := ⟨_, rfl⟩
  have SB := Lib.hid (show Still w wb by rw [hwb]; exact (Still.refl _).alloc (Nat.le_refl _) _)
  have BB := Lib.hid (show Blk wb g 36 #[.int .i64 2, .string s, .string t, .int .i64 nn, .int .i64 mm, .slice A m c, .slice A2 n2 c2] by rw [hwb, hg]; exact Blk.new _ _ _)
  have HW := Lib.hid hwb
  have HG := Lib.hid hg
  clear hM hwb hg
  go_enter Tryz.func8, Tryz.ntmps8
  go_upto_region 1 with (guard_target =~ wpList _ _ _ (Oper.mk _ (Op.box _ _) _ _ _ _ :: _) _ _; go_must (refine wpList_box_arr rfl 36 (.tmp 1) rfl (some 3) rfl #[.int .i64 2, .string s, .string t, .int .i64 nn, .int .i64 mm, .slice A m c, .slice A2 n2 c2] (by kernel_rfl) ?_))
  rw [← HW.out, ← HG.out]
  have e0 : wb.cell? ⟨g, 0, none⟩ = some (.int .i64 2) := BB.out.cell 0
  have e1 : wb.cell? ⟨g, 1, none⟩ = some (.string s) := BB.out.cell 1
  have e2 : wb.cell? ⟨g, 2, none⟩ = some (.string t) := BB.out.cell 2
  have e3 : wb.cell? ⟨g, 3, none⟩ = some (.int .i64 nn) := BB.out.cell 3
  have e4 : wb.cell? ⟨g, 4, none⟩ = some (.int .i64 mm) := BB.out.cell 4
  have e5 : wb.cell? ⟨g, 5, none⟩ = some (.slice A m c) := BB.out.cell 5
  have e6 : wb.cell? ⟨g, 6, none⟩ = some (.slice A2 n2 c2) := BB.out.cell 6
  go_wp2_with (go_at_call 32; refine (NO.out _ SB.out).mono ?_; rintro e w3 ⟨E, rfl, r3⟩; have R3 := Lib.hid r3; clear r3)
  go_ret3
  exact ⟨_, _, SB.out, rfl, R3.out⟩

set_option maxRecDepth 100000 in
set_option maxHeartbeats 3200000 in
theorem told_by3 (P : Value) (nn mm : Int) (s t : ByteArray) (A : Option Addr) (m c : Nat) (A2 : Option Addr) (n2 c2 : Nat) (w : World) (R : Int → World → World → Prop)
    (hM : ∀ W, Still w W → Calls Tryz.prog 33 #[P, .string s, .string t, .bool false] W fun e w' => ∃ E : Int, e = .returned (.int .i64 E) ∧ R E W w') :
    Calls Tryz.prog 8 #[P, .agg #[.int .i64 3, .string s, .string t, .int .i64 nn, .int .i64 mm, .slice A m c, .slice A2 n2 c2]] w fun e w' => ∃ (E : Int) (W : World), Still w W ∧ e = .returned (.tuple #[.slice none 0 0, .int .i64 E, .bool false]) ∧ R E W w' := by
  have NO := Lib.hid hM
  obtain ⟨wb, hwb⟩ : ∃ wb, wb = w.alloc (.cells #[.int .i64 3, .string s, .string t, .int .i64 nn, .int .i64 mm, .slice A m c, .slice A2 n2 c2] 36) := ⟨_, rfl⟩
  obtain ⟨g, hg⟩ : ∃ g, g = w.heap.size := ⟨_, rfl⟩
  have SB := Lib.hid (show Still w wb by rw [hwb]; exact (Still.refl _).alloc (Nat.le_refl _) _)
  have BB := Lib.hid (show Blk wb g 36 #[.int .i64 3, .string s, .string t, .int .i64 nn, .int .i64 mm, .slice A m c, .slice A2 n2 c2] by rw [hwb, hg]; exact Blk.new _ _ _)
  have HW := Lib.hid hwb
  have HG := Lib.hid hg
  clear hM hwb hg
  go_enter Tryz.func8, Tryz.ntmps8
  go_upto_region 1 with (guard_target =~ wpList _ _ _ (Oper.mk _ (Op.box _ _) _ _ _ _ :: _) _ _; go_must (refine wpList_box_arr rfl 36 (.tmp 1) rfl (some 3) rfl #[.int .i64 3, .string s, .string t, .int .i64 nn, .int .i64 mm, .slice A m c, .slice A2 n2 c2] (by kernel_rfl) ?_))
  rw [← HW.out, ← HG.out]
  have e0 : wb.cell? ⟨g, 0, none⟩ = some (.int .i64 3) := BB.out.cell 0
  have e1 : wb.cell? ⟨g, 1, none⟩ = some (.string s) := BB.out.cell 1
  have e2 : wb.cell? ⟨g, 2, none⟩ = some (.string t) := BB.out.cell 2
  have e3 : wb.cell? ⟨g, 3, none⟩ = some (.int .i64 nn) := BB.out.cell 3
  have e4 : wb.cell? ⟨g, 4, none⟩ = some (.int .i64 mm) := BB.out.cell 4
  have e5 : wb.cell? ⟨g, 5, none⟩ = some (.slice A m c) := BB.out.cell 5
  have e6 : wb.cell? ⟨g, 6, none⟩ = some (.slice A2 n2 c2) := BB.out.cell 6
  go_wp2_with (go_at_call 33; refine (NO.out _ SB.out).mono ?_; rintro e w3 ⟨E, rfl, r3⟩; have R3 := Lib.hid r3; clear r3)
  go_ret3
  exact ⟨_, _, SB.out, rfl, R3.out⟩

set_option maxRecDepth 100000 in
set_option maxHeartbeats 3200000 in
theorem told_by4 (P : Value) (nn mm : Int) (s t : ByteArray) (A : Option Addr) (m c : Nat) (A2 : Option Addr) (n2 c2 : Nat) (w : World) (R : Int → World → World → Prop)
    (hM : ∀ W, Still w W → Calls Tryz.prog 33 #[P, .string s, .string ⟨#[]⟩, .bool true] W fun e w' => ∃ E : Int, e = .returned (.int .i64 E) ∧ R E W w') :
    Calls Tryz.prog 8 #[P, .agg #[.int .i64 4, .string s, .string t, .int .i64 nn, .int .i64 mm, .slice A m c, .slice A2 n2 c2]] w fun e w' => ∃ (E : Int) (W : World), Still w W ∧ e = .returned (.tuple #[.slice none 0 0, .int .i64 E, .bool false]) ∧ R E W w' := by
  have NO := Lib.hid hM
  obtain ⟨wb, hwb⟩ : ∃ wb, wb = w.alloc (.cells #[.int .i64 4, .string s, .string t, .int .i64 nn, .int .i64 mm, .slice A m c, .slice A2 n2 c2] 36) := ⟨_, rfl⟩
  obtain ⟨g, hg⟩ : ∃ g, g = w.heap.size := ⟨_, rfl⟩
  have SB := Lib.hid (show Still w wb by rw [hwb]; exact (Still.refl _).alloc (Nat.le_refl _) _)
  have BB := Lib.hid (show Blk wb g 36 #[.int .i64 4, .string s, .string t, .int .i64 nn, .int .i64 mm, .slice A m c, .slice A2 n2 c2] by rw [hwb, hg]; exact Blk.new _ _ _)
  have HW := Lib.hid hwb
  have HG := Lib.hid hg
  clear hM hwb hg
  go_enter Tryz.func8, Tryz.ntmps8
  go_upto_region 1 with (guard_target =~ wpList _ _ _ (Oper.mk _ (Op.box _ _) _ _ _ _ :: _) _ _; go_must (refine wpList_box_arr rfl 36 (.tmp 1) rfl (some 3) rfl #[.int .i64 4, .string s, .string t, .int .i64 nn, .int .i64 mm, .slice A m c, .slice A2 n2 c2] (by kernel_rfl) ?_))
  rw [← HW.out, ← HG.out]
  have e0 : wb.cell? ⟨g, 0, none⟩ = some (.int .i64 4) := BB.out.cell 0
  have e1 : wb.cell? ⟨g, 1, none⟩ = some (.string s) := BB.out.cell 1
  have e2 : wb.cell? ⟨g, 2, none⟩ = some (.string t) := BB.out.cell 2
  have e3 : wb.cell? ⟨g, 3, none⟩ = some (.int .i64 nn) := BB.out.cell 3
  have e4 : wb.cell? ⟨g, 4, none⟩ = some (.int .i64 mm) := BB.out.cell 4
  have e5 : wb.cell? ⟨g, 5, none⟩ = some (.slice A m c) := BB.out.cell 5
  have e6 : wb.cell? ⟨g, 6, none⟩ = some (.slice A2 n2 c2) := BB.out.cell 6
  go_wp2_with (go_at_call 33; refine (NO.out _ SB.out).mono ?_; rintro e w3 ⟨E, rfl, r3⟩; have R3 := Lib.hid r3; clear r3)
  go_ret3
  exact ⟨_, _, SB.out, rfl, R3.out⟩

set_option maxRecDepth 100000 in
set_option maxHeartbeats 3200000 in
theorem told_by5 (P : Value) (nn mm : Int) (s t : ByteArray) (A : Option Addr) (m c : Nat) (A2 : Option Addr) (n2 c2 : Nat) (w : World) (R : Int → World → World → Prop)
    (hM : ∀ W, Still w W → Calls Tryz.prog 34 #[P, .string s, .bool false] W fun e w' => ∃ E : Int, e = .returned (.int .i64 E) ∧ R E W w') :
    Calls Tryz.prog 8 #[P, .agg #[.int .i64 5, .string s, .string t, .int .i64 nn, .int .i64 mm, .slice A m c, .slice A2 n2 c2]] w fun e w' => ∃ (E : Int) (W : World), Still w W ∧ e = .returned (.tuple #[.slice none 0 0, .int .i64 E, .bool false]) ∧ R E W w' := by
  have NO := Lib.hid hM
  obtain ⟨wb, hwb⟩ : ∃ wb, wb = w.alloc (.cells #[.int .i64 5, .string s, .string t, .int .i64 nn, .int .i64 mm, .slice A m c, .slice A2 n2 c2] 36) := ⟨_, rfl⟩
  obtain ⟨g, hg⟩ : ∃ g, g = w.heap.size := ⟨_, rfl⟩
  have SB := Lib.hid (show Still w wb by rw [hwb]; exact (Still.refl _).alloc (Nat.le_refl _) _)
  have BB := Lib.hid (show Blk wb g 36 #[.int .i64 5, .string s, .string t, .int .i64 nn, .int .i64 mm, .slice A m c, .slice A2 n2 c2] by rw [hwb, hg]; exact Blk.new _ _ _)
  have HW := Lib.hid hwb
  have HG := Lib.hid hg
  clear hM hwb hg
  go_enter Tryz.func8, Tryz.ntmps8
  go_upto_region 1 with (guard_target =~ wpList _ _ _ (Oper.mk _ (Op.box _ _) _ _ _ _ :: _) _ _; go_must (refine wpList_box_arr rfl 36 (.tmp 1) rfl (some 3) rfl #[.int .i64 5, .string s, .string t, .int .i64 nn, .int .i64 mm, .slice A m c, .slice A2 n2 c2] (by kernel_rfl) ?_))
  rw [← HW.out, ← HG.out]
  have e0 : wb.cell? ⟨g, 0, none⟩ = some (.int .i64 5) := BB.out.cell 0
  have e1 : wb.cell? ⟨g, 1, none⟩ = some (.string s) := BB.out.cell 1
  have e2 : wb.cell? ⟨g, 2, none⟩ = some (.string t) := BB.out.cell 2
  have e3 : wb.cell? ⟨g, 3, none⟩ = some (.int .i64 nn) := BB.out.cell 3
  have e4 : wb.cell? ⟨g, 4, none⟩ = some (.int .i64 mm) := BB.out.cell 4
  have e5 : wb.cell? ⟨g, 5, none⟩ = some (.slice A m c) := BB.out.cell 5
  have e6 : wb.cell? ⟨g, 6, none⟩ = some (.slice A2 n2 c2) := BB.out.cell 6
  go_wp2_with (go_at_call 34; refine (NO.out _ SB.out).mono ?_; rintro e w3 ⟨E, rfl, r3⟩; have R3 := Lib.hid r3; clear r3)
  go_ret3
  exact ⟨_, _, SB.out, rfl, R3.out⟩

set_option maxRecDepth 100000 in
set_option maxHeartbeats 3200000 in
theorem told_by6 (P : Value) (nn mm : Int) (s t : ByteArray) (A : Option Addr) (m c : Nat) (A2 : Option Addr) (n2 c2 : Nat) (w : World) (R : Int → World → World → Prop)
    (hM : ∀ W, Still w W → Calls Tryz.prog 34 #[P, .string ⟨#[]⟩, .bool true] W fun e w' => ∃ E : Int, e = .returned (.int .i64 E) ∧ R E W w') :
    Calls Tryz.prog 8 #[P, .agg #[.int .i64 6, .string s, .string t, .int .i64 nn, .int .i64 mm, .slice A m c, .slice A2 n2 c2]] w fun e w' => ∃ (E : Int) (W : World), Still w W ∧ e = .returned (.tuple #[.slice none 0 0, .int .i64 E, .bool false]) ∧ R E W w' := by
  have NO := Lib.hid hM
  obtain ⟨wb, hwb⟩ : ∃ wb, wb = w.alloc (.cells #[.int .i64 6, .string s, .string t, .int .i64 nn, .int .i64 mm, .slice A m c, .slice A2 n2 c2] 36) := ⟨_, rfl⟩
  obtain ⟨g, hg⟩ : ∃ g, g = w.heap.size := ⟨_, rfl⟩
  have SB := Lib.hid (show Still w wb by rw [hwb]; exact (Still.refl _).alloc (Nat.le_refl _) _)
  have BB := Lib.hid (show Blk wb g 36 #[.int .i64 6, .string s, .string t, .int .i64 nn, .int .i64 mm, .slice A m c, .slice A2 n2 c2] by rw [hwb, hg]; exact Blk.new _ _ _)
  have HW := Lib.hid hwb
  have HG := Lib.hid hg
  clear hM hwb hg
  go_enter Tryz.func8, Tryz.ntmps8
  go_upto_region 1 with (guard_target =~ wpList _ _ _ (Oper.mk _ (Op.box _ _) _ _ _ _ :: _) _ _; go_must (refine wpList_box_arr rfl 36 (.tmp 1) rfl (some 3) rfl #[.int .i64 6, .string s, .string t, .int .i64 nn, .int .i64 mm, .slice A m c, .slice A2 n2 c2] (by kernel_rfl) ?_))
  rw [← HW.out, ← HG.out]
  have e0 : wb.cell? ⟨g, 0, none⟩ = some (.int .i64 6) := BB.out.cell 0
  have e1 : wb.cell? ⟨g, 1, none⟩ = some (.string s) := BB.out.cell 1
  have e2 : wb.cell? ⟨g, 2, none⟩ = some (.string t) := BB.out.cell 2
  have e3 : wb.cell? ⟨g, 3, none⟩ = some (.int .i64 nn) := BB.out.cell 3
  have e4 : wb.cell? ⟨g, 4, none⟩ = some (.int .i64 mm) := BB.out.cell 4
  have e5 : wb.cell? ⟨g, 5, none⟩ = some (.slice A m c) := BB.out.cell 5
  have e6 : wb.cell? ⟨g, 6, none⟩ = some (.slice A2 n2 c2) := BB.out.cell 6
  go_wp2_with (go_at_call 34; refine (NO.out _ SB.out).mono ?_; rintro e w3 ⟨E, rfl, r3⟩; have R3 := Lib.hid r3; clear r3)
  go_ret3
  exact ⟨_, _, SB.out, rfl, R3.out⟩

set_option maxRecDepth 100000 in
set_option maxHeartbeats 3200000 in
theorem told_by7 (P : Value) (nn mm : Int) (s t : ByteArray) (A : Option Addr) (m c : Nat) (A2 : Option Addr) (n2 c2 : Nat) (w : World) (R : Int → World → World → Prop)
    (hM : ∀ W, Still w W → Calls Tryz.prog 35 #[P, .int .i64 nn] W fun e w' => ∃ E : Int, e = .returned (.int .i64 E) ∧ R E W w') :
    Calls Tryz.prog 8 #[P, .agg #[.int .i64 7, .string s, .string t, .int .i64 nn, .int .i64 mm, .slice A m c, .slice A2 n2 c2]] w fun e w' => ∃ (E : Int) (W : World), Still w W ∧ e = .returned (.tuple #[.slice none 0 0, .int .i64 E, .bool false]) ∧ R E W w' := by
  have NO := Lib.hid hM
  obtain ⟨wb, hwb⟩ : ∃ wb, wb = w.alloc (.cells #[.int .i64 7, .string s, .string t, .int .i64 nn, .int .i64 mm, .slice A m c, .slice A2 n2 c2] 36) := ⟨_, rfl⟩
  obtain ⟨g, hg⟩ : ∃ g, g = w.heap.size := ⟨_, rfl⟩
  have SB := Lib.hid (show Still w wb by rw [hwb]; exact (Still.refl _).alloc (Nat.le_refl _) _)
  have BB := Lib.hid (show Blk wb g 36 #[.int .i64 7, .string s, .string t, .int .i64 nn, .int .i64 mm, .slice A m c, .slice A2 n2 c2] by rw [hwb, hg]; exact Blk.new _ _ _)
  have HW := Lib.hid hwb
  have HG := Lib.hid hg
  clear hM hwb hg
  go_enter Tryz.func8, Tryz.ntmps8
  go_upto_region 1 with (guard_target =~ wpList _ _ _ (Oper.mk _ (Op.box _ _) _ _ _ _ :: _) _ _; go_must (refine wpList_box_arr rfl 36 (.tmp 1) rfl (some 3) rfl #[.int .i64 7, .string s, .string t, .int .i64 nn, .int .i64 mm, .slice A m c, .slice A2 n2 c2] (by kernel_rfl) ?_))
  rw [← HW.out, ← HG.out]
  have e0 : wb.cell? ⟨g, 0, none⟩ = some (.int .i64 7) := BB.out.cell 0
  have e1 : wb.cell? ⟨g, 1, none⟩ = some (.string s) := BB.out.cell 1
  have e2 : wb.cell? ⟨g, 2, none⟩ = some (.string t) := BB.out.cell 2
  have e3 : wb.cell? ⟨g, 3, none⟩ = some (.int .i64 nn) := BB.out.cell 3
  have e4 : wb.cell? ⟨g, 4, none⟩ = some (.int .i64 mm) := BB.out.cell 4
  have e5 : wb.cell? ⟨g, 5, none⟩ = some (.slice A m c) := BB.out.cell 5
  have e6 : wb.cell? ⟨g, 6, none⟩ = some (.slice A2 n2 c2) := BB.out.cell 6
  go_wp2_with (go_at_call 35; refine (NO.out _ SB.out).mono ?_; rintro e w3 ⟨E, rfl, r3⟩; have R3 := Lib.hid r3; clear r3)
  go_ret3
  exact ⟨_, _, SB.out, rfl, R3.out⟩

set_option maxRecDepth 100000 in
set_option maxHeartbeats 3200000 in
theorem told_by8 (P : Value) (nn mm : Int) (s t : ByteArray) (A : Option Addr) (m c : Nat) (A2 : Option Addr) (n2 c2 : Nat) (w : World) (R : World → World → Prop)
    (hM : ∀ W, Still w W → Calls Tryz.prog 36 #[P, .slice A2 n2 c2] W fun e w' => e = .returned (.tuple #[]) ∧ R W w') :
    Calls Tryz.prog 8 #[P, .agg #[.int .i64 8, .string s, .string t, .int .i64 nn, .int .i64 mm, .slice A m c, .slice A2 n2 c2]] w fun e w' => ∃ W, Still w W ∧ e = .returned (.tuple #[.slice none 0 0, .int .i64 0, .bool false]) ∧ R W w' := by
  have NO := Lib.hid hM
  obtain ⟨wb, hwb⟩ : ∃ wb, wb = w.alloc (.cells #[.int .i64 8, .string s, .string t, .int .i64 nn, .int .i64 mm, .slice A m c, .slice A2 n2 c2] 36) := ⟨_, rfl⟩
  obtain ⟨g, hg⟩ : ∃ g, g = w.heap.size := ⟨_, rfl⟩
  have SB := Lib.hid (show Still w wb by rw [hwb]; exact (Still.refl _).alloc (Nat.le_refl _) _)
  have BB := Lib.hid (show Blk wb g 36 #[.int .i64 8, .string s, .string t, .int .i64 nn, .int .i64 mm, .slice A m c, .slice A2 n2 c2] by rw [hwb, hg]; exact Blk.new _ _ _)
  have HW := Lib.hid hwb
  have HG := Lib.hid hg
  clear hM hwb hg
  go_enter Tryz.func8, Tryz.ntmps8
  go_upto_region 1 with (guard_target =~ wpList _ _ _ (Oper.mk _ (Op.box _ _) _ _ _ _ :: _) _ _; go_must (refine wpList_box_arr rfl 36 (.tmp 1) rfl (some 3) rfl #[.int .i64 8, .string s, .string t, .int .i64 nn, .int .i64 mm, .slice A m c, .slice A2 n2 c2] (by kernel_rfl) ?_))
  rw [← HW.out, ← HG.out]
  have e0 : wb.cell? ⟨g, 0, none⟩ = some (.int .i64 8) := BB.out.cell 0
  have e1 : wb.cell? ⟨g, 1, none⟩ = some (.string s) := BB.out.cell 1
  have e2 : wb.cell? ⟨g, 2, none⟩ = some (.string t) := BB.out.cell 2
  have e3 : wb.cell? ⟨g, 3, none⟩ = some (.int .i64 nn) := BB.out.cell 3
  have e4 : wb.cell? ⟨g, 4, none⟩ = some (.int .i64 mm) := BB.out.cell 4
  have e5 : wb.cell? ⟨g, 5, none⟩ = some (.slice A m c) := BB.out.cell 5
  have e6 : wb.cell? ⟨g, 6, none⟩ = some (.slice A2 n2 c2) := BB.out.cell 6
  go_wp2_with (go_at_call 36; refine (NO.out _ SB.out).mono ?_; rintro e w3 ⟨rfl, r3⟩; have R3 := Lib.hid r3; clear r3)
  go_ret3
  exact ⟨_, SB.out, rfl, R3.out⟩

set_option maxRecDepth 100000 in
set_option maxHeartbeats 3200000 in
theorem told_by9 (P : Value) (nn mm : Int) (s t : ByteArray) (A : Option Addr) (m c : Nat) (A2 : Option Addr) (n2 c2 : Nat) (w : World) (R : Int → World → World → Prop)
    (hM : ∀ W, Still w W → Calls Tryz.prog 37 #[P, .int .i64 nn] W fun e w' => ∃ E : Int, e = .returned (.int .i64 E) ∧ R E W w') :
    Calls Tryz.prog 8 #[P, .agg #[.int .i64 9, .string s, .string t, .int .i64 nn, .int .i64 mm, .slice A m c, .slice A2 n2 c2]] w fun e w' => ∃ (E : Int) (W : World), Still w W ∧ e = .returned (.tuple #[.slice none 0 0, .int .i64 E, .bool false]) ∧ R E W w' := by
  have NO := Lib.hid hM
  obtain ⟨wb, hwb⟩ : ∃ wb, wb = w.alloc (.cells #[.int .i64 9, .string s, .string t, .int .i64 nn, .int .i64 mm, .slice A m c, .slice A2 n2 c2] 36) := ⟨_, rfl⟩
  obtain ⟨g, hg⟩ : ∃ g, g = w.heap.size := ⟨_, rfl⟩
  have SB := Lib.hid (show Still w wb by rw [hwb]; exact (Still.refl _).alloc (Nat.le_refl _) _)
  have BB := Lib.hid (show Blk wb g 36 #[.int .i64 9, .string s, .string t, .int .i64 nn, .int .i64 mm, .slice A m c, .slice A2 n2 c2] by rw [hwb, hg]; exact Blk.new _ _ _)
  have HW := Lib.hid hwb
  have HG := Lib.hid hg
  clear hM hwb hg
  go_enter Tryz.func8, Tryz.ntmps8
  go_upto_region 1 with (guard_target =~ wpList _ _ _ (Oper.mk _ (Op.box _ _) _ _ _ _ :: _) _ _; go_must (refine wpList_box_arr rfl 36 (.tmp 1) rfl (some 3) rfl #[.int .i64 9, .string s, .string t, .int .i64 nn, .int .i64 mm, .slice A m c, .slice A2 n2 c2] (by kernel_rfl) ?_))
  rw [← HW.out, ← HG.out]
  have e0 : wb.cell? ⟨g, 0, none⟩ = some (.int .i64 9) := BB.out.cell 0
  have e1 : wb.cell? ⟨g, 1, none⟩ = some (.string s) := BB.out.cell 1
  have e2 : wb.cell? ⟨g, 2, none⟩ = some (.string t) := BB.out.cell 2
  have e3 : wb.cell? ⟨g, 3, none⟩ = some (.int .i64 nn) := BB.out.cell 3
  have e4 : wb.cell? ⟨g, 4, none⟩ = some (.int .i64 mm) := BB.out.cell 4
  have e5 : wb.cell? ⟨g, 5, none⟩ = some (.slice A m c) := BB.out.cell 5
  have e6 : wb.cell? ⟨g, 6, none⟩ = some (.slice A2 n2 c2) := BB.out.cell 6
  go_wp2_with (go_at_call 37; refine (NO.out _ SB.out).mono ?_; rintro e w3 ⟨E, rfl, r3⟩; have R3 := Lib.hid r3; clear r3)
  go_ret3
  exact ⟨_, _, SB.out, rfl, R3.out⟩

set_option maxRecDepth 100000 in
set_option maxHeartbeats 3200000 in
theorem told_by10 (P : Value) (nn mm : Int) (s t : ByteArray) (A : Option Addr) (m c : Nat) (A2 : Option Addr) (n2 c2 : Nat) (w : World) (R : Bool → World → World → Prop)
    (hM : ∀ W, Still w W → Calls Tryz.prog 38 #[P, .string s, .int .i64 nn, .int .u8 (IntKind.u8.wrap mm)] W fun e w' => ∃ E : Bool, e = .returned (.bool E) ∧ R E W w') :
    Calls Tryz.prog 8 #[P, .agg #[.int .i64 10, .string s, .string t, .int .i64 nn, .int .i64 mm, .slice A m c, .slice A2 n2 c2]] w fun e w' => ∃ (E : Bool) (W : World), Still w W ∧ e = .returned (.tuple #[.slice none 0 0, .int .i64 0, .bool E]) ∧ R E W w' := by
  have NO := Lib.hid hM
  obtain ⟨wb, hwb⟩ : ∃ wb, wb = w.alloc (.cells #[.int .i64 10, .string s, .string t, .int .i64 nn, .int .i64 mm, .slice A m c, .slice A2 n2 c2] 36) := ⟨_, rfl⟩
  obtain ⟨g, hg⟩ : ∃ g, g = w.heap.size := ⟨_, rfl⟩
  have SB := Lib.hid (show Still w wb by rw [hwb]; exact (Still.refl _).alloc (Nat.le_refl _) _)
  have BB := Lib.hid (show Blk wb g 36 #[.int .i64 10, .string s, .string t, .int .i64 nn, .int .i64 mm, .slice A m c, .slice A2 n2 c2] by rw [hwb, hg]; exact Blk.new _ _ _)
  have HW := Lib.hid hwb
  have HG := Lib.hid hg
  clear hM hwb hg
  go_enter Tryz.func8, Tryz.ntmps8
  go_upto_region 1 with (guard_target =~ wpList _ _ _ (Oper.mk _ (Op.box _ _) _ _ _ _ :: _) _ _; go_must (refine wpList_box_arr rfl 36 (.tmp 1) rfl (some 3) rfl #[.int .i64 10, .string s, .string t, .int .i64 nn, .int .i64 mm, .slice A m c, .slice A2 n2 c2] (by kernel_rfl) ?_))
  rw [← HW.out, ← HG.out]
  have e0 : wb.cell? ⟨g, 0, none⟩ = some (.int .i64 10) := BB.out.cell 0
  have e1 : wb.cell? ⟨g, 1, none⟩ = some (.string s) := BB.out.cell 1
  have e2 : wb.cell? ⟨g, 2, none⟩ = some (.string t) := BB.out.cell 2
  have e3 : wb.cell? ⟨g, 3, none⟩ = some (.int .i64 nn) := BB.out.cell 3
  have e4 : wb.cell? ⟨g, 4, none⟩ = some (.int .i64 mm) := BB.out.cell 4
  have e5 : wb.cell? ⟨g, 5, none⟩ = some (.slice A m c) := BB.out.cell 5
  have e6 : wb.cell? ⟨g, 6, none⟩ = some (.slice A2 n2 c2) := BB.out.cell 6
  go_wp2_with (go_at_call 38; refine (NO.out _ SB.out).mono ?_; rintro e w3 ⟨E, rfl, r3⟩; have R3 := Lib.hid r3; clear r3)
  go_ret3
  exact ⟨_, _, SB.out, rfl, R3.out⟩

set_option maxRecDepth 100000 in
set_option maxHeartbeats 3200000 in
theorem told_byR (P : Value) (k : Int) (hk : ¬ k = 0 ∧ ¬ k = 1 ∧ ¬ k = 2 ∧ ¬ k = 3 ∧ ¬ k = 4 ∧ ¬ k = 5 ∧ ¬ k = 6 ∧ ¬ k = 7 ∧ ¬ k = 8 ∧ ¬ k = 9 ∧ ¬ k = 10) (nn mm : Int) (s t : ByteArray) (A : Option Addr) (m c : Nat) (A2 : Option Addr) (n2 c2 : Nat) (w : World) (R : Nat → Value → Int → World → World → Prop)
    (hM : ∀ W, Still w W → Calls Tryz.prog 39 #[P, .string s, .int .i64 nn, .int .i64 mm] W fun e w' => ∃ (q : Nat) (Av : Option Addr) (cv : Nat) (E : Int), e = .returned (.tuple #[.slice Av q cv, .int .i64 E]) ∧ R q (.slice Av q cv) E W w') :
    Calls Tryz.prog 8 #[P, .agg #[.int .i64 k, .string s, .string t, .int .i64 nn, .int .i64 mm, .slice A m c, .slice A2 n2 c2]] w fun e w' => ∃ (q : Nat) (Av : Option Addr) (cv : Nat) (E : Int) (W : World), Still w W ∧ e = .returned (.tuple #[.slice Av q cv, .int .i64 E, .bool false]) ∧ R q (.slice Av q cv) E W w' := by
  have NO := Lib.hid hM
  obtain ⟨wb, hwb⟩ : ∃ wb, wb = w.alloc (.cells #[.int .i64 k, .string s, .string t, .int .i64 nn, .int .i64 mm, .slice A m c, .slice A2 n2 c2] 36) := ⟨_, rfl⟩
  obtain ⟨g, hg⟩ : ∃ g, g = w.heap.size := ⟨_, rfl⟩
  have SB := Lib.hid (show Still w wb by rw [hwb]; exact (Still.refl _).alloc (Nat.le_refl _) _)
  have BB := Lib.hid (show Blk wb g 36 #[.int .i64 k, .string s, .string t, .int .i64 nn, .int .i64 mm, .slice A m c, .slice A2 n2 c2] by rw [hwb, hg]; exact Blk.new _ _ _)
  have HW := Lib.hid hwb
  have HG := Lib.hid hg
  clear hM hwb hg
  obtain ⟨k0, k1, k2, k3, k4, k5, k6, k7, k8, k9, k10⟩ := hk
  go_enter Tryz.func8, Tryz.ntmps8
  go_upto_region 1 with (guard_target =~ wpList _ _ _ (Oper.mk _ (Op.box _ _) _ _ _ _ :: _) _ _; go_must (refine wpList_box_arr rfl 36 (.tmp 1) rfl (some 3) rfl #[.int .i64 k, .string s, .string t, .int .i64 nn, .int .i64 mm, .slice A m c, .slice A2 n2 c2] (by kernel_rfl) ?_))
  rw [← HW.out, ← HG.out]
  have e0 : wb.cell? ⟨g, 0, none⟩ = some (.int .i64 k) := BB.out.cell 0
  have e1 : wb.cell? ⟨g, 1, none⟩ = some (.string s) := BB.out.cell 1
  have e2 : wb.cell? ⟨g, 2, none⟩ = some (.string t) := BB.out.cell 2
  have e3 : wb.cell? ⟨g, 3, none⟩ = some (.int .i64 nn) := BB.out.cell 3
  have e4 : wb.cell? ⟨g, 4, none⟩ = some (.int .i64 mm) := BB.out.cell 4
  have e5 : wb.cell? ⟨g, 5, none⟩ = some (.slice A m c) := BB.out.cell 5
  have e6 : wb.cell? ⟨g, 6, none⟩ = some (.slice A2 n2 c2) := BB.out.cell 6
  go_wp2_with (go_at_call 39; refine (NO.out _ SB.out).mono ?_; rintro e w3 ⟨q, Av, cv, E, rfl, r3⟩; have R3 := Lib.hid r3; clear r3)
  go_ret3
  exact ⟨_, _, _, _, _, SB.out, rfl, R3.out⟩
end Go.Proofs.YtljacdbdjacbkaaGreat
