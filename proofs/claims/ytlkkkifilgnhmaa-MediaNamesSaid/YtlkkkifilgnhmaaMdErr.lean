/- Contracts: a medium's calls where works or find answers an error. It proves no statement. -/
import Derived.Test.YtlkkkifilgnhmaaMdGa
namespace Go.Proofs.Ytlkkkifilgnhmaa
open Go.RowKit Go.Maps Go.WideMaps
set_option linter.unusedVariables false
set_option linter.unusedSimpArgs false

theorem create_err (P : Value) (s : ByteArray) (w : World) (E : Int) (b1 : (E != 0) = true) (h : Calls Try.prog 14 #[P] w fun e w' => e = .returned (.int .i64 E) ∧ w = w') : Calls Try.prog 22 #[P, .string s] w fun e w' => e = .returned (.int .i64 E) ∧ w = w' := by
  have HW := Lib.hid h
  clear h
  go_enter Try.func22, Try.ntmps22
  go_wp2_with fail
  refine HW.out.mono ?_
  rintro e w1 ⟨rfl, rfl⟩
  go_wp2_with fail
  go_ret
  exact ⟨rfl, rfl⟩
theorem append_err (P : Value) (s : ByteArray) (A : Option Addr) (n c : Nat) (w : World) (E : Int) (b1 : (E != 0) = true) (h : Calls Try.prog 43 #[P, .string s] w fun e w' => e = .returned (.tuple #[.pointer none, .int .i64 E]) ∧ w = w') : Calls Try.prog 23 #[P, .string s, .slice A n c] w fun e w' => e = .returned (.int .i64 E) ∧ w = w' := by
  have HW := Lib.hid h
  clear h
  go_enter Try.func23, Try.ntmps23
  go_wp2_with fail
  refine HW.out.mono ?_
  rintro e w1 ⟨rfl, rfl⟩
  go_wp2_with fail
  go_ret
  exact ⟨rfl, rfl⟩
theorem truncate_err (P : Value) (s : ByteArray) (x : Int) (w : World) (E : Int) (b1 : (E != 0) = true) (h : Calls Try.prog 43 #[P, .string s] w fun e w' => e = .returned (.tuple #[.pointer none, .int .i64 E]) ∧ w = w') : Calls Try.prog 24 #[P, .string s, .int .i64 x] w fun e w' => e = .returned (.int .i64 E) ∧ w = w' := by
  have HW := Lib.hid h
  clear h
  go_enter Try.func24, Try.ntmps24
  go_wp2_with fail
  refine HW.out.mono ?_
  rintro e w1 ⟨rfl, rfl⟩
  go_wp2_with fail
  go_ret
  exact ⟨rfl, rfl⟩
theorem rename_err (P : Value) (s t : ByteArray) (w : World) (E : Int) (b1 : (E != 0) = true) (h : Calls Try.prog 43 #[P, .string s] w fun e w' => e = .returned (.tuple #[.pointer none, .int .i64 E]) ∧ w = w') : Calls Try.prog 25 #[P, .string s, .string t] w fun e w' => e = .returned (.int .i64 E) ∧ w = w' := by
  have HW := Lib.hid h
  clear h
  go_enter Try.func25, Try.ntmps25
  go_wp2_with fail
  refine HW.out.mono ?_
  rintro e w1 ⟨rfl, rfl⟩
  go_wp2_with fail
  go_ret
  exact ⟨rfl, rfl⟩
theorem remove_err (P : Value) (s : ByteArray) (w : World) (E : Int) (b1 : (E != 0) = true) (h : Calls Try.prog 43 #[P, .string s] w fun e w' => e = .returned (.tuple #[.pointer none, .int .i64 E]) ∧ w = w') : Calls Try.prog 26 #[P, .string s] w fun e w' => e = .returned (.int .i64 E) ∧ w = w' := by
  have HW := Lib.hid h
  clear h
  go_enter Try.func26, Try.ntmps26
  go_wp2_with fail
  refine HW.out.mono ?_
  rintro e w1 ⟨rfl, rfl⟩
  go_wp2_with fail
  go_ret
  exact ⟨rfl, rfl⟩
theorem sync_err (P : Value) (s : ByteArray) (w : World) (E : Int) (b1 : (E != 0) = true) (h : Calls Try.prog 43 #[P, .string s] w fun e w' => e = .returned (.tuple #[.pointer none, .int .i64 E]) ∧ w = w') : Calls Try.prog 27 #[P, .string s] w fun e w' => e = .returned (.int .i64 E) ∧ w = w' := by
  have HW := Lib.hid h
  clear h
  go_enter Try.func27, Try.ntmps27
  go_wp2_with fail
  refine HW.out.mono ?_
  rintro e w1 ⟨rfl, rfl⟩
  go_wp2_with fail
  go_ret
  exact ⟨rfl, rfl⟩
theorem syncDir_err (P : Value) (w : World) (E : Int) (b1 : (E != 0) = true) (h : Calls Try.prog 14 #[P] w fun e w' => e = .returned (.int .i64 E) ∧ w = w') : Calls Try.prog 5 #[P] w fun e w' => e = .returned (.int .i64 E) ∧ w = w' := by
  have HW := Lib.hid h
  clear h
  go_enter Try.func5, Try.ntmps5
  go_wp2_with fail
  refine HW.out.mono ?_
  rintro e w1 ⟨rfl, rfl⟩
  go_wp2_with fail
  go_ret
  exact ⟨rfl, rfl⟩
theorem read_err (P : Value) (s : ByteArray) (x y : Int) (w : World) (E : Int) (b1 : (E != 0) = true) (h : Calls Try.prog 43 #[P, .string s] w fun e w' => e = .returned (.tuple #[.pointer none, .int .i64 E]) ∧ w = w') : Calls Try.prog 31 #[P, .string s, .int .i64 x, .int .i64 y] w fun e w' => e = .returned (.tuple #[.slice none 0 0, .int .i64 E]) ∧ w = w' := by
  have HW := Lib.hid h
  clear h
  go_enter Try.func31, Try.ntmps31
  go_wp2_with fail
  refine HW.out.mono ?_
  rintro e w1 ⟨rfl, rfl⟩
  go_wp2_with fail
  go_ret2
  exact ⟨rfl, rfl⟩
theorem list_err (P : Value) (w : World) (E : Int) (b1 : (E != 0) = true) (h : Calls Try.prog 14 #[P] w fun e w' => e = .returned (.int .i64 E) ∧ w = w') : Calls Try.prog 6 #[P] w fun e w' => e = .returned (.slice none 0 0) ∧ w = w' := by
  have HW := Lib.hid h
  clear h
  go_enter Try.func6, Try.ntmps6
  go_wp2_with fail
  refine HW.out.mono ?_
  rintro e w1 ⟨rfl, rfl⟩
  go_wp2_with fail
  go_ret
  exact ⟨rfl, rfl⟩
theorem used_err (P : Value) (w : World) (E : Int) (b1 : (E != 0) = true) (h : Calls Try.prog 14 #[P] w fun e w' => e = .returned (.int .i64 E) ∧ w = w') : Calls Try.prog 35 #[P] w fun e w' => e = .returned (.int .i64 0) ∧ w = w' := by
  have HW := Lib.hid h
  clear h
  go_enter Try.func35, Try.ntmps35
  go_wp2_with fail
  refine HW.out.mono ?_
  rintro e w1 ⟨rfl, rfl⟩
  go_wp2_with fail
  go_ret
  exact ⟨rfl, rfl⟩
theorem setRoom_err (P : Value) (x : Int) (w : World) (E : Int) (b1 : (E != 0) = true) (h : Calls Try.prog 14 #[P] w fun e w' => e = .returned (.int .i64 E) ∧ w = w') : Calls Try.prog 29 #[P, .int .i64 x] w fun e w' => e = .returned (.int .i64 E) ∧ w = w' := by
  have HW := Lib.hid h
  clear h
  go_enter Try.func29, Try.ntmps29
  go_wp2_with fail
  refine HW.out.mono ?_
  rintro e w1 ⟨rfl, rfl⟩
  go_wp2_with fail
  go_ret
  exact ⟨rfl, rfl⟩
theorem arm_err (P : Value) (x : Int) (w : World) (E : Int) (b1 : (E != 0) = true) (h : Calls Try.prog 14 #[P] w fun e w' => e = .returned (.int .i64 E) ∧ w = w') : Calls Try.prog 28 #[P, .int .i64 x] w fun e w' => e = .returned (.int .i64 E) ∧ w = w' := by
  have HW := Lib.hid h
  clear h
  go_enter Try.func28, Try.ntmps28
  go_wp2_with fail
  refine HW.out.mono ?_
  rintro e w1 ⟨rfl, rfl⟩
  go_wp2_with fail
  go_ret
  exact ⟨rfl, rfl⟩
end Go.Proofs.Ytlkkkifilgnhmaa
