/- The walk of HintsNames: it returns true, and nothing that was there turns. -/
import Derived.Test.YtblgphfdicffcaaGreatDoorHfp
namespace Go.Proofs.YtblgphfdicffcaaGreatDoor
open Go.RowKit Go.Maps Go.WideMaps Go.Sort
set_option linter.unusedVariables false
set_option linter.unusedSimpArgs false

set_option maxRecDepth 100000 in
set_option maxHeartbeats 3200000 in
theorem hintsNames_walk (n : Int) (w : World) (T : SgT0 w) :
    Calls Tryz.prog 10 #[.int .i64 n] w fun e w' => e = .returned (.bool true) ∧ Still w w' := by
  have IX := Lib.hid (idx_any n w T)
  have UX := Lib.hid (fun W (s : Still w W) => use_any n W (T.still s))
  have RI := Lib.hid (fun W => rhname_any idxF rfl n W)
  have RU := Lib.hid (fun W => rhname_any useF rfl n W)
  have LV := Lib.hid (fun W (s : Still w W) => hlives W (T.still s))
  obtain ⟨X, hX⟩ : ∃ X, X = nameF idxF n := ⟨_, rfl⟩
  obtain ⟨Y, hY⟩ : ∃ Y, Y = nameF useF n := ⟨_, rfl⟩
  rw [← hX] at IX RI
  rw [← hY] at UX RU
  have e1 : (⟨idxF.toArray⟩ : ByteArray) = ⟨#[105, 100, 120, 46]⟩ := rfl
  have e2 : (⟨useF.toArray⟩ : ByteArray) = ⟨#[117, 115, 101, 46]⟩ := rfl
  rw [e1] at RI
  rw [e2] at RU
  clear T hX hY e1 e2
  go_enter Tryz.func10, Tryz.ntmps10
  go_wp2_with fail
  refine IX.out.mono ?_
  rintro e w1 ⟨rfl, s1⟩
  have S1 := Lib.hid s1
  clear s1
  go_wp2_with fail
  refine (RI.out _).mono ?_
  rintro e w2 ⟨rfl, rfl⟩
  go_wp2_with fail
  refine (UX.out _ S1.out).mono ?_
  rintro e w3 ⟨rfl, s3⟩
  have S3 := Lib.hid (Still.trans S1.out s3)
  clear s3
  go_wp2_with fail
  refine (RU.out _).mono ?_
  rintro e w4 ⟨rfl, rfl⟩
  go_wp2_with fail
  refine (LV.out _ S3.out).mono ?_
  rintro e w5 ⟨rfl, s5⟩
  have S5 := Lib.hid (Still.trans S3.out s5)
  clear s5
  go_wp2_with fail
  go_ret
  exact ⟨rfl, S5.out⟩
end Go.Proofs.YtblgphfdicffcaaGreatDoor
