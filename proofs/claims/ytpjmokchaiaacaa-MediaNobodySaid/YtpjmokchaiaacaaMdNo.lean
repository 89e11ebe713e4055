/- Contracts: a medium that no call made. It proves no statement. -/
import Derived.Test.YtpjmokchaiaacaaMdMap
import Derived.Test.YtpjmokchaiaacaaFar
namespace Go.Proofs.Ytpjmokchaiaacaa
open Go.RowKit Go.Maps Go.WideMaps
set_option linter.unusedVariables false
set_option linter.unusedSimpArgs false

/-- A medium that no call made: nil, or a struct of noughts. -/
def NoMed (w : World) (P : Value) : Prop := P = .pointer none ∨ ∃ g, P = .pointer (some ⟨g, 0, none⟩) ∧ Blk w g 64 #[.int .i64 0, .map none, .map none, .slice none 0 0, .int .i64 0, .bool false, .bool false]
theorem NoMed.still {w w' : World} {P : Value} (h : NoMed w P) (s : Still w w') : NoMed w' P := by
  rcases h with h | ⟨g, h, hb⟩
  · exact .inl h
  · exact .inr ⟨g, h, hb.still s⟩
theorem works_no (P : Value) (w : World) (h : NoMed w P) : Calls Try.prog 35 #[P] w fun e w' => e = .returned (.int .i64 1) ∧ w = w' := by
  rcases h with rfl | ⟨g, rfl, hb⟩
  · go_enter Try.func35, Try.ntmps35
    go_wp2
    go_ret
    exact ⟨rfl, rfl⟩
  · have c6 : w.cell? ⟨g, 6, none⟩ = some (.bool false) := hb.cell 6
    have HB := Lib.hid hb
    clear hb
    go_enter Try.func35, Try.ntmps35
    go_wp2
    go_ret
    exact ⟨rfl, rfl⟩
theorem find_no (P : Value) (s : ByteArray) (w : World) (h : NoMed w P) : Calls Try.prog 32 #[P, .string s] w fun e w' => e = .returned (.tuple #[.pointer none, .int .i64 1]) ∧ w = w' := by
  have HW := Lib.hid (works_no P w h)
  clear h
  go_enter Try.func32, Try.ntmps32
  go_wp2_with fail
  refine HW.out.mono ?_
  rintro e w1 ⟨rfl, rfl⟩
  go_wp2_with fail
  go_ret2
  exact ⟨rfl, rfl⟩
theorem create_no (P : Value) (s : ByteArray) (w : World) (h : NoMed w P) : Calls Try.prog 23 #[P, .string s] w fun e w' => e = .returned (.int .i64 1) ∧ w = w' := by
  have HW := Lib.hid (works_no P w h)
  clear h
  go_enter Try.func23, Try.ntmps23
  go_wp2_with fail
  refine HW.out.mono ?_
  rintro e w1 ⟨rfl, rfl⟩
  go_wp2_with fail
  go_ret
  exact ⟨rfl, rfl⟩
theorem append_no (P : Value) (s : ByteArray) (A : Option Addr) (n c : Nat) (w : World) (h : NoMed w P) : Calls Try.prog 24 #[P, .string s, .slice A n c] w fun e w' => e = .returned (.int .i64 1) ∧ w = w' := by
  have HW := Lib.hid (find_no P s w h)
  clear h
  go_enter Try.func24, Try.ntmps24
  go_wp2_with fail
  refine HW.out.mono ?_
  rintro e w1 ⟨rfl, rfl⟩
  go_wp2_with fail
  go_ret
  exact ⟨rfl, rfl⟩
theorem truncate_no (P : Value) (s : ByteArray) (x : Int) (w : World) (h : NoMed w P) : Calls Try.prog 45 #[P, .string s, .int .i64 x] w fun e w' => e = .returned (.int .i64 1) ∧ w = w' := by
  have HW := Lib.hid (find_no P s w h)
  clear h
  go_enter Try.func45, Try.ntmps45
  go_wp2_with fail
  refine HW.out.mono ?_
  rintro e w1 ⟨rfl, rfl⟩
  go_wp2_with fail
  go_ret
  exact ⟨rfl, rfl⟩
theorem rename_no (P : Value) (s t : ByteArray) (w : World) (h : NoMed w P) : Calls Try.prog 46 #[P, .string s, .string t] w fun e w' => e = .returned (.int .i64 1) ∧ w = w' := by
  have HW := Lib.hid (find_no P s w h)
  clear h
  go_enter Try.func46, Try.ntmps46
  go_wp2_with fail
  refine HW.out.mono ?_
  rintro e w1 ⟨rfl, rfl⟩
  go_wp2_with fail
  go_ret
  exact ⟨rfl, rfl⟩
theorem remove_no (P : Value) (s : ByteArray) (w : World) (h : NoMed w P) : Calls Try.prog 47 #[P, .string s] w fun e w' => e = .returned (.int .i64 1) ∧ w = w' := by
  have HW := Lib.hid (find_no P s w h)
  clear h
  go_enter Try.func47, Try.ntmps47
  go_wp2_with fail
  refine HW.out.mono ?_
  rintro e w1 ⟨rfl, rfl⟩
  go_wp2_with fail
  go_ret
  exact ⟨rfl, rfl⟩
theorem sync_no (P : Value) (s : ByteArray) (w : World) (h : NoMed w P) : Calls Try.prog 11 #[P, .string s] w fun e w' => e = .returned (.int .i64 1) ∧ w = w' := by
  have HW := Lib.hid (find_no P s w h)
  clear h
  go_enter Try.func11, Try.ntmps11
  go_wp2_with fail
  refine HW.out.mono ?_
  rintro e w1 ⟨rfl, rfl⟩
  go_wp2_with fail
  go_ret
  exact ⟨rfl, rfl⟩
theorem syncDir_no (P : Value) (w : World) (h : NoMed w P) : Calls Try.prog 12 #[P] w fun e w' => e = .returned (.int .i64 1) ∧ w = w' := by
  have HW := Lib.hid (works_no P w h)
  clear h
  go_enter Try.func12, Try.ntmps12
  go_wp2_with fail
  refine HW.out.mono ?_
  rintro e w1 ⟨rfl, rfl⟩
  go_wp2_with fail
  go_ret
  exact ⟨rfl, rfl⟩
theorem read_no (P : Value) (s : ByteArray) (x y : Int) (w : World) (h : NoMed w P) : Calls Try.prog 50 #[P, .string s, .int .i64 x, .int .i64 y] w fun e w' => e = .returned (.tuple #[.slice none 0 0, .int .i64 1]) ∧ w = w' := by
  have HW := Lib.hid (find_no P s w h)
  clear h
  go_enter Try.func50, Try.ntmps50
  go_wp2_with fail
  refine HW.out.mono ?_
  rintro e w1 ⟨rfl, rfl⟩
  go_wp2_with fail
  go_ret2
  exact ⟨rfl, rfl⟩
theorem all_no (P : Value) (s : ByteArray) (w : World) (h : NoMed w P) : Calls Try.prog 25 #[P, .string s] w fun e w' => e = .returned (.tuple #[.slice none 0 0, .int .i64 1]) ∧ w = w' := by
  have HW := Lib.hid (find_no P s w h)
  clear h
  go_enter Try.func25, Try.ntmps25
  go_wp2_with fail
  refine HW.out.mono ?_
  rintro e w1 ⟨rfl, rfl⟩
  go_wp2_with fail
  go_ret2
  exact ⟨rfl, rfl⟩
theorem size_no (P : Value) (s : ByteArray) (w : World) (h : NoMed w P) : Calls Try.prog 31 #[P, .string s] w fun e w' => e = .returned (.tuple #[.int .i64 0, .int .i64 1]) ∧ w = w' := by
  have HW := Lib.hid (find_no P s w h)
  clear h
  go_enter Try.func31, Try.ntmps31
  go_wp2_with fail
  refine HW.out.mono ?_
  rintro e w1 ⟨rfl, rfl⟩
  go_wp2_with fail
  go_ret2
  exact ⟨rfl, rfl⟩
theorem list_no (P : Value) (w : World) (h : NoMed w P) : Calls Try.prog 17 #[P] w fun e w' => e = .returned (.slice none 0 0) ∧ w = w' := by
  have HW := Lib.hid (works_no P w h)
  clear h
  go_enter Try.func17, Try.ntmps17
  go_wp2_with fail
  refine HW.out.mono ?_
  rintro e w1 ⟨rfl, rfl⟩
  go_wp2_with fail
  go_ret
  exact ⟨rfl, rfl⟩
theorem used_no (P : Value) (w : World) (h : NoMed w P) : Calls Try.prog 30 #[P] w fun e w' => e = .returned (.int .i64 0) ∧ w = w' := by
  have HW := Lib.hid (works_no P w h)
  clear h
  go_enter Try.func30, Try.ntmps30
  go_wp2_with fail
  refine HW.out.mono ?_
  rintro e w1 ⟨rfl, rfl⟩
  go_wp2_with fail
  go_ret
  exact ⟨rfl, rfl⟩
theorem setRoom_no (P : Value) (x : Int) (w : World) (h : NoMed w P) : Calls Try.prog 48 #[P, .int .i64 x] w fun e w' => e = .returned (.int .i64 1) ∧ w = w' := by
  have HW := Lib.hid (works_no P w h)
  clear h
  go_enter Try.func48, Try.ntmps48
  go_wp2_with fail
  refine HW.out.mono ?_
  rintro e w1 ⟨rfl, rfl⟩
  go_wp2_with fail
  go_ret
  exact ⟨rfl, rfl⟩
theorem power_no (P : Value) (w : World) (h : NoMed w P) : Calls Try.prog 29 #[P] w fun e w' => e = .returned (.bool false) ∧ w = w' := by
  have HW := Lib.hid (works_no P w h)
  clear h
  go_enter Try.func29, Try.ntmps29
  go_wp2_with fail
  refine HW.out.mono ?_
  rintro e w1 ⟨rfl, rfl⟩
  go_wp2_with fail
  go_ret
  exact ⟨rfl, rfl⟩
theorem arm_no (P : Value) (x : Int) (w : World) (h : NoMed w P) : Calls Try.prog 28 #[P, .int .i64 x] w fun e w' => e = .returned (.int .i64 1) ∧ w = w' := by
  have HW := Lib.hid (works_no P w h)
  clear h
  go_enter Try.func28, Try.ntmps28
  go_wp2_with fail
  refine HW.out.mono ?_
  rintro e w1 ⟨rfl, rfl⟩
  go_wp2_with fail
  go_ret
  exact ⟨rfl, rfl⟩
theorem crash_no (P : Value) (A : Option Addr) (n c : Nat) (w : World) (h : NoMed w P) : Calls Try.prog 13 #[P, .slice A n c] w fun e w' => e = .returned (.tuple #[]) ∧ w = w' := by
  rcases h with rfl | ⟨g, rfl, hb⟩
  · go_enter Try.func13, Try.ntmps13
    go_wp2_with fail
    (try simp only [Exit.inBlock, Exit.then])
    refine bodyPost_ret (results_none rfl _ _ _) rfl ?_
    exact ⟨rfl, rfl⟩
  · have c6 : w.cell? ⟨g, 6, none⟩ = some (.bool false) := hb.cell 6
    have HB := Lib.hid hb
    clear hb
    go_enter Try.func13, Try.ntmps13
    go_wp2_with fail
    (try simp only [Exit.inBlock, Exit.then])
    refine bodyPost_ret (results_none rfl _ _ _) rfl ?_
    exact ⟨rfl, rfl⟩
theorem rot_no (P : Value) (s : ByteArray) (hs : s.size ≤ maxLen) (x y : Int) (w : World) (h : NoMed w P) : Calls Try.prog 49 #[P, .string s, .int .i64 x, .int .u8 y] w fun e w' => e = .returned (.bool false) ∧ w = w' := by
  rcases h with rfl | ⟨g, rfl, hb⟩
  · go_enter Try.func49, Try.ntmps49
    go_wp2_with fail
    go_ret
    exact ⟨rfl, rfl⟩
  · have c1 : w.cell? ⟨g, 1, none⟩ = some (.map none) := hb.cell 1
    have HB := Lib.hid hb
    have hrun := look_nil (w := w) false mapLaw underNames (zeroPtr _) (key_of s hs)
    clear hb
    go_enter Try.func49, Try.ntmps49
    go_wp2_with fail
    go_ret
    exact ⟨rfl, rfl⟩
end Go.Proofs.Ytpjmokchaiaacaa
