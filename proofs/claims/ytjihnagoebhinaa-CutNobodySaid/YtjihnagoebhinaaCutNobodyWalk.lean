/- The walk of CutNobody: it returns true, and nothing that was there turns. -/
import Derived.Test.YtjihnagoebhinaaCtLives
import Derived.Test.YtjihnagoebhinaaCtCut
namespace Go.Proofs.Ytjihnagoebhinaa
open Go.RowKit
set_option linter.unusedVariables false
set_option linter.unusedSimpArgs false

/-- A cutter that no call made. -/
def NoC (w : World) (A : Option Addr) : Prop := A = none ∨ ∃ g, A = some ⟨g, 0, none⟩ ∧ Blk w g 56 #[.pointer none, .slice none 0 0]
theorem works_not (w : World) (A : Option Addr) (h : NoC w A) : Calls Try.prog 31 #[.pointer A] w fun e w' => e = .returned (.bool false) ∧ w' = w := by
  rcases h with rfl | ⟨g, rfl, h⟩
  · go_enter Try.func31, Try.ntmps31
    go_wp2_with fail
    go_ret
    exact ⟨rfl, rfl⟩
  · have c0 := h.cell 0
    simp only [List.getElem?_toArray, List.getElem?_cons_zero] at c0
    clear h
    go_enter Try.func31, Try.ntmps31
    go_wp2_with fail
    go_ret
    exact ⟨rfl, rfl⟩
theorem write_not (w : World) (A : Option Addr) (h : NoC w A) (b : Value) : Calls Try.prog 21 #[.pointer A, b] w fun e w' => e = .returned (.slice none 0 0) ∧ w' = w := by
  have HW := Lib.hid (works_not w A h)
  clear h
  go_enter Try.func21, Try.ntmps21
  go_wp2_with fail
  refine HW.out.mono ?_
  rintro e w1 ⟨rfl, rfl⟩
  go_wp2_with fail
  go_ret
  exact ⟨rfl, rfl⟩
theorem end_not (w : World) (A : Option Addr) (h : NoC w A) : Calls Try.prog 23 #[.pointer A] w fun e w' => e = .returned (.slice none 0 0) ∧ w' = w := by
  have HW := Lib.hid (works_not w A h)
  clear h
  go_enter Try.func23, Try.ntmps23
  go_wp2_with fail
  refine HW.out.mono ?_
  rintro e w1 ⟨rfl, rfl⟩
  go_wp2_with fail
  go_ret
  exact ⟨rfl, rfl⟩
theorem held_not (w : World) (A : Option Addr) (h : NoC w A) : Calls Try.prog 22 #[.pointer A] w fun e w' => e = .returned (.int .i64 0) ∧ w' = w := by
  have HW := Lib.hid (works_not w A h)
  clear h
  go_enter Try.func22, Try.ntmps22
  go_wp2_with fail
  refine HW.out.mono ?_
  rintro e w1 ⟨rfl, rfl⟩
  go_wp2_with fail
  go_ret
  exact ⟨rfl, rfl⟩
set_option maxRecDepth 100000 in
set_option maxHeartbeats 3200000 in
theorem cutNobody_walk (a0 : Option Addr) (len0 cap0 : Nat) (z0 : List Int) (w : World) (h : RowIn .u8 w a0 len0 cap0 z0) :
    Calls Try.prog 9 #[.slice a0 len0 cap0] w fun e w' => e = .returned (.bool true) ∧ Below w.heap.size w w' := by
  have W1 := Lib.hid (fun W => write_not W none (.inl rfl) (.slice a0 len0 cap0))
  have E1 := Lib.hid (fun W => end_not W none (.inl rfl))
  have H1 := Lib.hid (fun W => held_not W none (.inl rfl))
  have st := (Still.refl w).alloc (Nat.le_refl _) (.cells #[.pointer none, .slice none 0 0] 56)
  have hb := Blk.new w 56 #[.pointer none, .slice none 0 0]
  have nc : NoC (w.alloc (.cells #[.pointer none, .slice none 0 0] 56)) (some ⟨w.heap.size, 0, none⟩) := .inr ⟨_, rfl, hb⟩
  have W2 := Lib.hid (write_not _ _ nc (.slice a0 len0 cap0))
  have E2 := Lib.hid (end_not _ _ nc)
  have H2 := Lib.hid (held_not _ _ nc)
  have ST := Lib.hid st
  have LV := Lib.hid (fun W => lives_any W)
  clear st hb nc h
  go_enter Try.func9, Try.ntmps9
  go_wp2_with fail
  refine (W1.out _).mono ?_
  rintro e w1 ⟨rfl, rfl⟩
  go_wp2_with fail
  refine W2.out.mono ?_
  rintro e w1 ⟨rfl, rfl⟩
  go_wp2_with fail
  refine (E1.out _).mono ?_
  rintro e w1 ⟨rfl, rfl⟩
  go_wp2_with fail
  refine E2.out.mono ?_
  rintro e w1 ⟨rfl, rfl⟩
  go_wp2_with fail
  refine (H1.out _).mono ?_
  rintro e w1 ⟨rfl, rfl⟩
  go_wp2_with fail
  refine H2.out.mono ?_
  rintro e w1 ⟨rfl, rfl⟩
  go_wp2_with fail
  refine (LV.out _).mono ?_
  rintro e w2 ⟨rfl, t2⟩
  have T2 := Lib.hid (Still.trans ST.out t2)
  clear t2
  go_wp2_with fail
  go_ret
  exact ⟨rfl, T2.out⟩
end Go.Proofs.Ytjihnagoebhinaa
