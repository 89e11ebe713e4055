/- Contracts: a medium's calls where works or find answers an error. It proves no statement. -/
import Derived.Test.YtlddmgofjeibaaaMdGa
namespace Go.Proofs.Ytlddmgofjeibaaa
open Go.RowKit Go.Maps Go.WideMaps
set_option linter.unusedVariables false
set_option linter.unusedSimpArgs false

theorem create_err (P : Value) (s : ByteArray) (w : World) (E : Int) (b1 : (E != 0) = true) (h : Calls Try.prog 35 #[P] w fun e w' => e = .returned (.int .i64 E) ∧ w = w') : Calls Try.prog 23 #[P, .string s] w fun e w' => e = .returned (.int .i64 E) ∧ w = w' := by
  have HW := Lib.hid h
  clear h
  go_enter Try.func23, Try.ntmps23
  go_wp2_with fail
  refine HW.out.mono ?_
  rintro e w1 ⟨rfl, rfl⟩
  go_wp2_with fail
  go_ret
  exact ⟨rfl, rfl⟩
theorem append_err (P : Value) (s : ByteArray) (A : Option Addr) (n c : Nat) (w : World) (E : Int) (b1 : (E != 0) = true) (h : Calls Try.prog 32 #[P, .string s] w fun e w' => e = .returned (.tuple #[.pointer none, .int .i64 E]) ∧ w = w') : Calls Try.prog 24 #[P, .string s, .slice A n c] w fun e w' => e = .returned (.int .i64 E) ∧ w = w' := by
  have HW := Lib.hid h
  clear h
  go_enter Try.func24, Try.ntmps24
  go_wp2_with fail
  refine HW.out.mono ?_
  rintro e w1 ⟨rfl, rfl⟩
  go_wp2_with fail
  go_ret
  exact ⟨rfl, rfl⟩
theorem truncate_err (P : Value) (s : ByteArray) (x : Int) (w : World) (E : Int) (b1 : (E != 0) = true) (h : Calls Try.prog 32 #[P, .string s] w fun e w' => e = .returned (.tuple #[.pointer none, .int .i64 E]) ∧ w = w') : Calls Try.prog 45 #[P, .string s, .int .i64 x] w fun e w' => e = .returned (.int .i64 E) ∧ w = w' := by
  have HW := Lib.hid h
  clear h
  go_enter Try.func45, Try.ntmps45
  go_wp2_with fail
  refine HW.out.mono ?_
  rintro e w1 ⟨rfl, rfl⟩
  go_wp2_with fail
  go_ret
  exact ⟨rfl, rfl⟩
theorem rename_err (P : Value) (s t : ByteArray) (w : World) (E : Int) (b1 : (E != 0) = true) (h : Calls Try.prog 32 #[P, .string s] w fun e w' => e = .returned (.tuple #[.pointer none, .int .i64 E]) ∧ w = w') : Calls Try.prog 46 #[P, .string s, .string t] w fun e w' => e = .returned (.int .i64 E) ∧ w = w' := by
  have HW := Lib.hid h
  clear h
  go_enter Try.func46, Try.ntmps46
  go_wp2_with fail
  refine HW.out.mono ?_
  rintro e w1 ⟨rfl, rfl⟩
  go_wp2_with fail
  go_ret
  exact ⟨rfl, rfl⟩
theorem remove_err (P : Value) (s : ByteArray) (w : World) (E : Int) (b1 : (E != 0) = true) (h : Calls Try.prog 32 #[P, .string s] w fun e w' => e = .returned (.tuple #[.pointer none, .int .i64 E]) ∧ w = w') : Calls Try.prog 47 #[P, .string s] w fun e w' => e = .returned (.int .i64 E) ∧ w = w' := by
  have HW := Lib.hid h
  clear h
  go_enter Try.func47, Try.ntmps47
  go_wp2_with fail
  refine HW.out.mono ?_
  rintro e w1 ⟨rfl, rfl⟩
  go_wp2_with fail
  go_ret
  exact ⟨rfl, rfl⟩
theorem sync_err (P : Value) (s : ByteArray) (w : World) (E : Int) (b1 : (E != 0) = true) (h : Calls Try.prog 32 #[P, .string s] w fun e w' => e = .returned (.tuple #[.pointer none, .int .i64 E]) ∧ w = w') : Calls Try.prog 11 #[P, .string s] w fun e w' => e = .returned (.int .i64 E) ∧ w = w' := by
  have HW := Lib.hid h
  clear h
  go_enter Try.func11, Try.ntmps11
  go_wp2_with fail
  refine HW.out.mono ?_
  rintro e w1 ⟨rfl, rfl⟩
  go_wp2_with fail
  go_ret
  exact ⟨rfl, rfl⟩
theorem syncDir_err (P : Value) (w : World) (E : Int) (b1 : (E != 0) = true) (h : Calls Try.prog 35 #[P] w fun e w' => e = .returned (.int .i64 E) ∧ w = w') : Calls Try.prog 12 #[P] w fun e w' => e = .returned (.int .i64 E) ∧ w = w' := by
  have HW := Lib.hid h
  clear h
  go_enter Try.func12, Try.ntmps12
  go_wp2_with fail
  refine HW.out.mono ?_
  rintro e w1 ⟨rfl, rfl⟩
  go_wp2_with fail
  go_ret
  exact ⟨rfl, rfl⟩
theorem read_err (P : Value) (s : ByteArray) (x y : Int) (w : World) (E : Int) (b1 : (E != 0) = true) (h : Calls Try.prog 32 #[P, .string s] w fun e w' => e = .returned (.tuple #[.pointer none, .int .i64 E]) ∧ w = w') : Calls Try.prog 50 #[P, .string s, .int .i64 x, .int .i64 y] w fun e w' => e = .returned (.tuple #[.slice none 0 0, .int .i64 E]) ∧ w = w' := by
  have HW := Lib.hid h
  clear h
  go_enter Try.func50, Try.ntmps50
  go_wp2_with fail
  refine HW.out.mono ?_
  rintro e w1 ⟨rfl, rfl⟩
  go_wp2_with fail
  go_ret2
  exact ⟨rfl, rfl⟩
theorem all_err (P : Value) (s : ByteArray) (w : World) (E : Int) (b1 : (E != 0) = true) (h : Calls Try.prog 32 #[P, .string s] w fun e w' => e = .returned (.tuple #[.pointer none, .int .i64 E]) ∧ w = w') : Calls Try.prog 25 #[P, .string s] w fun e w' => e = .returned (.tuple #[.slice none 0 0, .int .i64 E]) ∧ w = w' := by
  have HW := Lib.hid h
  clear h
  go_enter Try.func25, Try.ntmps25
  go_wp2_with fail
  refine HW.out.mono ?_
  rintro e w1 ⟨rfl, rfl⟩
  go_wp2_with fail
  go_ret2
  exact ⟨rfl, rfl⟩
theorem size_err (P : Value) (s : ByteArray) (w : World) (E : Int) (b1 : (E != 0) = true) (h : Calls Try.prog 32 #[P, .string s] w fun e w' => e = .returned (.tuple #[.pointer none, .int .i64 E]) ∧ w = w') : Calls Try.prog 31 #[P, .string s] w fun e w' => e = .returned (.tuple #[.int .i64 0, .int .i64 E]) ∧ w = w' := by
  have HW := Lib.hid h
  clear h
  go_enter Try.func31, Try.ntmps31
  go_wp2_with fail
  refine HW.out.mono ?_
  rintro e w1 ⟨rfl, rfl⟩
  go_wp2_with fail
  go_ret2
  exact ⟨rfl, rfl⟩
theorem list_err (P : Value) (w : World) (E : Int) (b1 : (E != 0) = true) (h : Calls Try.prog 35 #[P] w fun e w' => e = .returned (.int .i64 E) ∧ w = w') : Calls Try.prog 17 #[P] w fun e w' => e = .returned (.slice none 0 0) ∧ w = w' := by
  have HW := Lib.hid h
  clear h
  go_enter Try.func17, Try.ntmps17
  go_wp2_with fail
  refine HW.out.mono ?_
  rintro e w1 ⟨rfl, rfl⟩
  go_wp2_with fail
  go_ret
  exact ⟨rfl, rfl⟩
theorem used_err (P : Value) (w : World) (E : Int) (b1 : (E != 0) = true) (h : Calls Try.prog 35 #[P] w fun e w' => e = .returned (.int .i64 E) ∧ w = w') : Calls Try.prog 30 #[P] w fun e w' => e = .returned (.int .i64 0) ∧ w = w' := by
  have HW := Lib.hid h
  clear h
  go_enter Try.func30, Try.ntmps30
  go_wp2_with fail
  refine HW.out.mono ?_
  rintro e w1 ⟨rfl, rfl⟩
  go_wp2_with fail
  go_ret
  exact ⟨rfl, rfl⟩
theorem setRoom_err (P : Value) (x : Int) (w : World) (E : Int) (b1 : (E != 0) = true) (h : Calls Try.prog 35 #[P] w fun e w' => e = .returned (.int .i64 E) ∧ w = w') : Calls Try.prog 48 #[P, .int .i64 x] w fun e w' => e = .returned (.int .i64 E) ∧ w = w' := by
  have HW := Lib.hid h
  clear h
  go_enter Try.func48, Try.ntmps48
  go_wp2_with fail
  refine HW.out.mono ?_
  rintro e w1 ⟨rfl, rfl⟩
  go_wp2_with fail
  go_ret
  exact ⟨rfl, rfl⟩
theorem power_err (P : Value) (w : World) (E : Int) (b1 : (E != 0) = true) (h : Calls Try.prog 35 #[P] w fun e w' => e = .returned (.int .i64 E) ∧ w = w') : Calls Try.prog 29 #[P] w fun e w' => e = .returned (.bool false) ∧ w = w' := by
  have HW := Lib.hid h
  clear h
  have b2 : (E == 0) = false := by simpa [bne] using b1
  go_enter Try.func29, Try.ntmps29
  go_wp2_with fail
  refine HW.out.mono ?_
  rintro e w1 ⟨rfl, rfl⟩
  go_wp2_with fail
  go_ret
  exact ⟨rfl, rfl⟩
theorem arm_err (P : Value) (x : Int) (w : World) (E : Int) (b1 : (E != 0) = true) (h : Calls Try.prog 35 #[P] w fun e w' => e = .returned (.int .i64 E) ∧ w = w') : Calls Try.prog 28 #[P, .int .i64 x] w fun e w' => e = .returned (.int .i64 E) ∧ w = w' := by
  have HW := Lib.hid h
  clear h
  go_enter Try.func28, Try.ntmps28
  go_wp2_with fail
  refine HW.out.mono ?_
  rintro e w1 ⟨rfl, rfl⟩
  go_wp2_with fail
  go_ret
  exact ⟨rfl, rfl⟩
end Go.Proofs.Ytlddmgofjeibaaa
