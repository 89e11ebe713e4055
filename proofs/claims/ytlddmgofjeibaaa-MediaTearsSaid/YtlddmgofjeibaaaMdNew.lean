/- Contracts: a medium that New made: New, works, step. It proves no statement. -/
import Derived.Test.YtlddmgofjeibaaaMdMap
import Derived.Test.YtlddmgofjeibaaaFar
namespace Go.Proofs.Ytlddmgofjeibaaa
open Go.RowKit Go.Maps Go.WideMaps
set_option linter.unusedVariables false
set_option linter.unusedSimpArgs false

/-- A medium's block. -/
def MedB (w : World) (g : Nat) (room : Int) (bn bf : Nat) (wv : Value) (left : Int) (off : Bool) : Prop := Blk w g 64 #[.int .i64 room, .map (some bn), .map (some bf), wv, .int .i64 left, .bool off, .bool true]
theorem MedB.still {w w' : World} {g : Nat} {room : Int} {bn bf : Nat} {wv : Value} {left : Int} {off : Bool} (h : MedB w g room bn bf wv left off) (s : Still w w') : MedB w' g room bn bf wv left off := Blk.still h s
theorem isRoom_any (x : Int) (w : World) : Calls Try.prog 51 #[.int .i64 x] w fun e w' => e = .returned (.bool (decide (0 ≤ x ∧ x ≤ 16777216))) ∧ w = w' := by
  by_cases h1 : 0 ≤ x
  · by_cases h2 : x ≤ 16777216
    · rw [decide_eq_true ⟨h1, h2⟩]
      go_enter Try.func51, Try.ntmps51
      go_wp2_with fail
      go_ret
      exact ⟨rfl, rfl⟩
    · rw [decide_eq_false (fun h => h2 h.2)]
      go_enter Try.func51, Try.ntmps51
      go_wp2_with fail
      go_ret
      exact ⟨by first | rfl | (simp; omega), rfl⟩
  · rw [decide_eq_false (fun h => h1 h.1)]
    go_enter Try.func51, Try.ntmps51
    go_wp2_with fail
    go_ret
    exact ⟨by first | rfl | (simp; omega), rfl⟩
theorem new_no (x : Int) (w : World) (h : ¬ (0 ≤ x ∧ x ≤ 16777216)) : Calls Try.prog 21 #[.int .i64 x] w fun e w' => e = .returned (.tuple #[.pointer none, .int .i64 2]) ∧ w = w' := by
  have HR := Lib.hid (isRoom_any x w)
  rw [decide_eq_false h] at HR
  clear h
  go_enter Try.func21, Try.ntmps21
  go_wp2_with fail
  refine HR.out.mono ?_
  rintro e w1 ⟨rfl, rfl⟩
  go_wp2_with fail
  go_ret2
  exact ⟨rfl, rfl⟩
set_option maxRecDepth 100000 in
set_option maxHeartbeats 800000 in
theorem new_yes (x : Int) (w : World) (h : 0 ≤ x ∧ x ≤ 16777216) : Calls Try.prog 21 #[.int .i64 x] w fun e w' => ∃ g bn bf, e = .returned (.tuple #[.pointer (some ⟨g, 0, none⟩), .int .i64 0]) ∧ MedB w' g x bn bf (.slice none 0 0) (-1) false ∧ NM w' bn 0 (.map []) ∧ NM w' bf 0 (.map []) ∧ w.heap.size ≤ bn ∧ w.heap.size ≤ bf ∧ w.heap.size ≤ g ∧ bn ≠ bf ∧ Still w w' := by
  have HR := Lib.hid (isRoom_any x w)
  rw [decide_eq_true h] at HR
  have hmm := @run_makeMap Try.prog
  clear h
  go_enter Try.func21, Try.ntmps21
  go_wp2_with fail
  refine HR.out.mono ?_
  rintro e w1 ⟨rfl, rfl⟩
  go_wp2_with fail
  go_ret2
  have S1 : Still w (w.alloc (.map #[] 0)) := (Still.refl w).alloc (Nat.le_refl _) _
  have S2 : Still (w.alloc (.map #[] 0)) ((w.alloc (.map #[] 0)).alloc (.map #[] 0)) := (Still.refl _).alloc (Nat.le_refl _) _
  have e1 : (w.alloc (.map #[] 0)).heap.size = w.heap.size + 1 := by simp
  have e2 : ((w.alloc (.map #[] 0)).alloc (.map #[] 0)).heap.size = w.heap.size + 1 + 1 := by simp
  refine ⟨w.heap.size + 1 + 1, w.heap.size, w.heap.size + 1, rfl, ?_, (((World.ownsMap_made w _ _ _).alloc _).alloc _), ?_, Nat.le_refl _, by omega, by omega, by omega, (S1.trans S2).trans ((Still.refl _).alloc (Nat.le_refl _) _)⟩
  · have h := Blk.new ((w.alloc (.map #[] 0)).alloc (.map #[] 0)) 64 #[.int .i64 x, .map (some w.heap.size), .map (some (w.heap.size + 1)), .slice none 0 0, .int .i64 (-1), .bool false, .bool true]
    rw [e2] at h
    exact h
  · have h := (World.ownsMap_made (w.alloc (.map #[] 0)) Try.prog 9 ptrElem).alloc (.cells #[.int .i64 x, .map (some w.heap.size), .map (some (w.heap.size + 1)), .slice none 0 0, .int .i64 (-1), .bool false, .bool true] 64)
    rw [e1] at h
    exact h
theorem works_yes {w : World} {g : Nat} {room : Int} {bn bf : Nat} {wv : Value} {left : Int} {off : Bool} (h : MedB w g room bn bf wv left off) :
    Calls Try.prog 35 #[.pointer (some ⟨g, 0, none⟩)] w fun e w' => e = .returned (.int .i64 (if off = true then 12 else 0)) ∧ w = w' := by
  have c5 : w.cell? ⟨g, 5, none⟩ = some (.bool off) := Blk.cell h 5
  have c6 : w.cell? ⟨g, 6, none⟩ = some (.bool true) := Blk.cell h 6
  have HB := Lib.hid h
  clear h
  cases off
  · go_enter Try.func35, Try.ntmps35
    go_wp2
    go_ret
    exact ⟨rfl, rfl⟩
  · go_enter Try.func35, Try.ntmps35
    go_wp2
    go_ret
    exact ⟨rfl, rfl⟩
theorem MedB.setc {w : World} {g : Nat} {room : Int} {bn bf : Nat} {wv : Value} {left : Int} {off : Bool} (h : MedB w g room bn bf wv left off) (left' : Int) : MedB (w.setCell ⟨g, 4, none⟩ (.int .i64 left')) g room bn bf wv left' off := Blk.setc h 4 _
theorem MedB.setoff {w : World} {g : Nat} {room : Int} {bn bf : Nat} {wv : Value} {left : Int} {off : Bool} (h : MedB w g room bn bf wv left off) (off' : Bool) : MedB (w.setCell ⟨g, 5, none⟩ (.bool off')) g room bn bf wv left off' := Blk.setc h 5 _
theorem MedB.setwait {w : World} {g : Nat} {room : Int} {bn bf : Nat} {wv : Value} {left : Int} {off : Bool} (h : MedB w g room bn bf wv left off) (wv' : Value) : MedB (w.setCell ⟨g, 3, none⟩ wv') g room bn bf wv' left off := Blk.setc h 3 _
/-- What a step leaves: the counter, the power, the error. -/
def stepR (left : Int) (off : Bool) : Int × Bool × Int := if left = 0 then (left, true, 12) else if 0 < left then (left - 1, off, 0) else (left, off, 0)
theorem step_yes {w : World} {g : Nat} {room : Int} {bn bf : Nat} {wv : Value} {left : Int} {off : Bool} (h : MedB w g room bn bf wv left off) (hl : left ≤ 9223372036854775807) :
    Calls Try.prog 33 #[.pointer (some ⟨g, 0, none⟩)] w fun e w' => e = .returned (.int .i64 (stepR left off).2.2) ∧ MedB w' g room bn bf wv (stepR left off).1 (stepR left off).2.1 ∧ w.grownBy w' (some g) := by
  have c4 : w.cell? ⟨g, 4, none⟩ = some (.int .i64 left) := Blk.cell h 4
  have c5 : w.cell? ⟨g, 5, none⟩ = some (.bool off) := Blk.cell h 5
  have f4 := Blk.frozen h 4
  have f5 := Blk.frozen h 5
  by_cases h0 : left = 0
  · have E : stepR left off = (left, true, 12) := by unfold stepR; rw [if_pos h0]
    rw [E]
    have M := Lib.hid (h.setoff true)
    subst h0
    clear h E
    go_enter Try.func33, Try.ntmps33
    go_wp2
    go_ret
    exact ⟨rfl, M.out, grownBy_set _ _ _ _⟩
  · have b0 : (left == 0) = false := by simpa using h0
    by_cases h1 : 0 < left
    · have E : stepR left off = (left - 1, off, 0) := by unfold stepR; rw [if_neg h0, if_pos h1]
      rw [E]
      have M := Lib.hid (h.setc (left - 1))
      clear h E
      go_enter Try.func33, Try.ntmps33
      go_wp2
      go_ret
      exact ⟨rfl, M.out, grownBy_set _ _ _ _⟩
    · have E : stepR left off = (left, off, 0) := by unfold stepR; rw [if_neg h0, if_neg h1]
      rw [E]
      have M := Lib.hid h
      clear h E
      go_enter Try.func33, Try.ntmps33
      go_wp2
      go_ret
      exact ⟨rfl, M.out, World.grownBy.refl _ _⟩
end Go.Proofs.Ytlddmgofjeibaaa
