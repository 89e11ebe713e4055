/- Contracts: lives; rollers that nobody made. It proves no statement. -/
import Derived.Test.YtaijilmafdoaoaaRlHad
import Derived.Test.YtaijilmafdoaoaaRowS
namespace Go.Proofs.Ytaijilmafdoaoaa
open Go.RowKit
set_option linter.unusedVariables false
set_option linter.unusedSimpArgs false

theorem still_of_grown {w w' : World} {B g : Nat} (h : w.grownBy w' (some g)) (hB : B ≤ w.heap.size) (hg : B ≤ g) : Below B w w' :=
  ⟨h.os, h.tape, h.output, h.size, fun k hk => h.block k (by omega) (fun e => by have := Option.some.inj e; omega)⟩
theorem Still.put {a w w' : World} {g : Nat} (h : Still a w) (hg : w.grownBy w' (some g)) (hge : a.heap.size ≤ g) : Still a w' := Below.trans h (still_of_grown hg h.size hge)
theorem drewN_some {w w' : World} (h : ∃ m, w' = w.drewN m) : Still w w' := by obtain ⟨m, rfl⟩ := h; exact still_drewN (Still.refl w) m
theorem lives_nums : sm 1 (lastL 4 ([] ++ [7])) = wd 1 7 ∧ ¬ wd 1 7 = 0 := by decide +kernel
set_option maxRecDepth 100000 in
set_option maxHeartbeats 800000 in
theorem lives_any (w : World) : Calls Try.prog 14 #[] w fun e w' => e = .returned (.bool true) ∧ Still w w' := by
  have NW := Lib.hid (had_new 1 4 w (by omega) (by omega) (by omega))
  have PT := Lib.hid (fun W (h : Had W w.heap.size 1 4 []) => had_put 7 h (by omega) (by omega))
  have W1 := Lib.hid (fun W => word_any 1 7 W (by omega) (by omega))
  have W2 := Lib.hid (fun W => rword_any 1 7 W (by omega) (by omega))
  rw [lives_nums.1] at PT
  have hne := lives_nums.2
  have hlt := wd_lt 1 7
  generalize wd 1 7 = q at *
  have hq : ((q : Int) == 0) = false := by rw [beq_eq_false_iff_ne]; omega
  have hq2 : ¬ (q : Int) = 0 := by omega
  simp only [Int.cast_ofNat_Int, UInt8.reduceToNat] at NW PT W1 W2
  go_enter Try.func14, Try.ntmps14
  go_wp2_with fail
  refine NW.out.mono ?_
  rintro e w1 ⟨rfl, h1, s1⟩
  have H1 := Lib.hid (And.intro h1 s1)
  clear h1 s1
  go_wp2_with fail
  refine (PT.out _ H1.out.1).mono ?_
  rintro e w2 ⟨rfl, h2, g2⟩
  have S2 := Lib.hid (Still.put H1.out.2 g2 (Nat.le_refl _))
  clear h2 g2 H1
  go_wp2_with fail
  refine (W2.out _).mono ?_
  rintro e w3 ⟨rfl, rfl⟩
  go_wp2_with fail
  refine (W1.out _).mono ?_
  rintro e w3 ⟨rfl, rfl⟩
  go_wp2_with fail
  go_ret
  refine ⟨?_, S2.out⟩
  show Ending.returned (Value.bool ((q : Int) != 0)) = _
  rw [show ((q : Int) != 0) = true by rw [bne, hq]; rfl]

/-! ### Rollers that nobody made -/
theorem works_nil (w : World) : Calls Try.prog 25 #[.pointer none] w fun e w' => e = .returned (.bool false) ∧ w' = w := by
  go_enter Try.func25, Try.ntmps25
  go_wp2_with fail
  go_ret
  exact ⟨rfl, rfl⟩
theorem works_zero {g a k s : Nat} {f R : Nat → Nat} (w : World) (h : RB w g f R a k 0 s) :
    Calls Try.prog 25 #[.pointer (some ⟨g, 0, none⟩)] w fun e w' => e = .returned (.bool false) ∧ w' = w := by
  have cw := h.winc
  simp only [Int.cast_ofNat_Int] at cw
  clear h
  go_enter Try.func25, Try.ntmps25
  go_wp2_with fail
  go_ret
  exact ⟨rfl, rfl⟩
/-- A roller that nobody made. -/
def NoR (w : World) (A : Option Addr) : Prop := A = none ∨ ∃ g f R a k s, A = some ⟨g, 0, none⟩ ∧ RB w g f R a k 0 s
theorem NoR.still {w w' : World} {A : Option Addr} (h : NoR w A) (s : Still w w') : NoR w' A := by
  rcases h with h | ⟨g, f, R, a, k, x, e, h⟩
  · exact .inl h
  · exact .inr ⟨g, f, R, a, k, x, e, h.still s⟩
theorem no_works {w : World} {A : Option Addr} (h : NoR w A) : Calls Try.prog 25 #[.pointer A] w fun e w' => e = .returned (.bool false) ∧ w' = w := by
  rcases h with rfl | ⟨g, f, R, a, k, x, rfl, h⟩
  · exact works_nil w
  · exact works_zero w h
theorem no_value {w : World} {A : Option Addr} (h : NoR w A) : Calls Try.prog 16 #[.pointer A] w fun e w' => e = .returned (.int .u32 0) ∧ w' = w := by
  have HW := Lib.hid (no_works h)
  clear h
  go_enter Try.func16, Try.ntmps16
  go_wp2_with fail
  refine HW.out.mono ?_
  rintro e w1 ⟨rfl, rfl⟩
  go_wp2_with fail
  go_ret
  exact ⟨rfl, rfl⟩
theorem no_put {w : World} {A : Option Addr} (c : Nat) (h : NoR w A) : Calls Try.prog 20 #[.pointer A, .int .u8 c] w fun e w' => e = .returned (.int .u32 0) ∧ w' = w := by
  have HW := Lib.hid (no_works h)
  clear h
  go_enter Try.func20, Try.ntmps20
  go_wp2_with fail
  refine HW.out.mono ?_
  rintro e w1 ⟨rfl, rfl⟩
  go_wp2_with fail
  go_ret
  exact ⟨rfl, rfl⟩
theorem no_clear {w : World} {A : Option Addr} (h : NoR w A) : Calls Try.prog 18 #[.pointer A] w fun e w' => e = .returned (.tuple #[]) ∧ w' = w := by
  have HW := Lib.hid (no_works h)
  clear h
  go_enter Try.func18, Try.ntmps18
  go_wp2_with fail
  refine HW.out.mono ?_
  rintro e w1 ⟨rfl, rfl⟩
  go_wp2_with fail
  go_end0
  exact ⟨rfl, rfl⟩
set_option maxHeartbeats 800000 in
theorem no_full {w : World} {A : Option Addr} (h : NoR w A) : Calls Try.prog 17 #[.pointer A] w fun e w' => e = .returned (.bool false) ∧ ∃ m, w' = w.drewN m := by
  have HW := Lib.hid (fun m => no_works (h.still (still_drewN (Still.refl w) m)))
  clear h
  go_enter Try.func17, Try.ntmps17
  go_wp2_with fail
  go_quiet ((go_at_call 25; exact Calls.quiet_of_same (HW.out _)))
  go_wp2_with fail
  go_ret
  exact ⟨rfl, nq, rfl⟩
set_option maxRecDepth 1000000 in
theorem built_ok0 : okO (Try.prog.built 45 []) = true := by kernel_rfl
set_option maxRecDepth 1000000 in
theorem built_win0 : (Try.prog.built 45 []).map (fun c => c[321]?) = some (some (.int .i64 0)) := by kernel_rfl
/-- What a roller is made of that nobody made. -/
theorem built_zero : ∃ cs, Try.prog.built 45 [] = some cs ∧ RC cs (fun _ => 0) (fun _ => 0) 0 0 0 0 := by
  have h1 := built_ok0
  have h2 := built_win0
  revert h1 h2
  generalize Try.prog.built 45 [] = o
  intro h1 h2
  cases o with
  | none => cases h1
  | some cs => exact ⟨cs, rfl, newC_is h1 (by simpa using h2)⟩
end Go.Proofs.Ytaijilmafdoaoaa
