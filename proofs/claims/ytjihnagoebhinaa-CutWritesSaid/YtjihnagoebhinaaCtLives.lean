/- Contract: lives. It proves no statement. -/
import Derived.Test.YtjihnagoebhinaaCtSplit
namespace Go.Proofs.Ytjihnagoebhinaa
open Go.RowKit
set_option linter.unusedVariables false
set_option linter.unusedSimpArgs false

def sh0 : Shp := ⟨2, 9, 0, 1, 0⟩
theorem sh0_ok : sh0.Ok := by constructor <;> decide
theorem sh0_len : (chunks sh0 [1, 2, 3]).length = 2 := by decide +kernel
theorem sh0_lens : lens (chunks sh0 [1, 2, 3]) = [2, 1] := by decide +kernel
set_option maxRecDepth 100000 in
set_option maxHeartbeats 800000 in
theorem lives_any (w : World) : Calls Try.prog 16 #[] w fun e w' => e = .returned (.bool true) ∧ Still w w' := by
  have st := (Still.refl w).alloc (Nat.le_refl _) (.cells #[.int .u8 1, .int .u8 2, .int .u8 3] 5)
  have hr : RowS (w.alloc (.cells #[.int .u8 1, .int .u8 2, .int .u8 3] 5)) (w.heap.size + 1) (some ⟨w.heap.size, 0, none⟩) 3 3 [1, 2, 3] := ⟨const_reads w [1, 2, 3] (0, 0), Nat.le_refl _, by omega, fun e => by cases e⟩
  have HS := Lib.hid (sizes_yes sh0 sh0_ok _ 3 3 [1, 2, 3] _ _ hr (by simp) (by omega))
  rw [sh0_len, sh0_lens] at HS
  simp only [sh0, Int.cast_ofNat_Int] at HS
  have ST := Lib.hid st
  clear st hr
  go_enter Try.func16, Try.ntmps16
  go_wp2_with fail
  refine HS.out.mono ?_
  rintro e w1 ⟨v, rfl, o1, s1⟩
  obtain ⟨A, c, rfl, h1, h2, h3⟩ := own_formB o1
  obtain ⟨g, rfl, c0⟩ := own_at o1 0 (by omega) _ rfl
  obtain ⟨g', e, c1⟩ := own_at o1 1 (by omega) _ rfl
  obtain rfl : g = g' := by injection e with e; injection e
  have S1 := Lib.hid (Still.trans ST.out s1)
  simp only [Int.cast_ofNat_Int] at c0 c1
  clear o1 s1 e h3
  go_wp2_with fail
  go_ret
  exact ⟨rfl, S1.out⟩
end Go.Proofs.Ytjihnagoebhinaa
