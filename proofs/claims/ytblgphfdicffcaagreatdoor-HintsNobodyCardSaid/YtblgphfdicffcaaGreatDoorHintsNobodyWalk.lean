/- The walk of HintsNobody: it returns true, and nothing that was there turns. -/
import Derived.Test.YtblgphfdicffcaaGreatDoorHfr
namespace Go.Proofs.YtblgphfdicffcaaGreatDoor
open Go.RowKit Go.Maps Go.WideMaps Go.Sort
set_option linter.unusedVariables false
set_option linter.unusedSimpArgs false

def logZ : Array Value := #[.pointer none, .int .i64 0, .slice none 0 0, .int .i64 0, .bool false]
theorem builtLog0 : Tryz.prog.built 103 [] = some logZ := by kernel_rfl
theorem builtSt0 : Tryz.prog.built 44 [] = some #[.int .i64 0, .pointer none, .slice none 0 0, .slice none 0 0] := by kernel_rfl
theorem builtSt1 (n : Int) : Tryz.prog.built 44 [(0, .int .i64 n)] = some #[.int .i64 n, .pointer none, .slice none 0 0, .slice none 0 0] := by kernel_rfl
theorem builtSt2 (n : Int) (g : Nat) : Tryz.prog.built 44 [(0, .int .i64 n), (1, .pointer (some ⟨g, 0, none⟩))] = some #[.int .i64 n, .pointer (some ⟨g, 0, none⟩), .slice none 0 0, .slice none 0 0] := by kernel_rfl
set_option maxRecDepth 100000 in
set_option maxHeartbeats 6400000 in
theorem hintsNobody_walk (n : Int) (w : World) (T : SgT0 w) :
    Calls Tryz.prog 11 #[.int .i64 n] w fun e w' => e = .returned (.bool true) ∧ Still w w' := by
  have NW := Lib.hid (new_I 100 w ⟨by decide, by decide⟩)
  have HT := Lib.hid (fun W (s : Still w W) => T.still s)
  have B0 := Lib.hid builtLog0
  have B1 := Lib.hid builtSt0
  have B2 := Lib.hid (builtSt1 n)
  clear T
  go_enter Tryz.func11, Tryz.ntmps11
  go_wp2_with fail
  refine NW.out.mono ?_
  rintro e w1 ⟨g, own, rfl, hg, med, s1⟩
  have S1 := Lib.hid s1
  have MD := Lib.hid (fun W (s : Still w1 W) => med.still s)
  have L1 := Lib.hid (load_no (.pointer none) (.pointer (some ⟨g, 0, none⟩)) n w1 (.inl rfl))
  clear med s1 NW hg
  go_wp2_with fail
  refine L1.out.mono ?_
  rintro e w2 ⟨rfl, rfl⟩
  have NL := Lib.hid (show NoLog (w1.alloc (.cells logZ 103)) (.pointer (some ⟨w1.heap.size, 0, none⟩)) from .inr ⟨_, rfl, Blk.new w1 _ _⟩)
  have L2 := Lib.hid (load_no (.pointer (some ⟨w1.heap.size, 0, none⟩)) (.pointer none) n _ NL.out)
  have s12 : Still w1 (w1.alloc (.cells logZ 103)) := (Still.refl w1).alloc (Nat.le_refl _) _
  obtain ⟨w3, hw3⟩ : ∃ w3, w3 = w1.alloc (.cells logZ 103) := ⟨_, rfl⟩
  rw [← hw3] at L2 s12
  have HW3 := Lib.hid hw3
  have S3 := Lib.hid s12
  clear hw3 s12 NL L1
  go_wp2_with (first
    | (guard_target =~ wpList _ _ _ (Oper.mk (some 21) _ _ _ _ _ :: _) _ _; go_must (refine wpList_buildTo rfl 103 _ rfl (some 21) rfl logZ (by simp only [List.map_toArray, List.map_cons, List.map_nil]; exact B0.out) ?_))
    | (guard_target =~ wpList _ _ _ (Oper.mk (some 22) _ _ _ _ _ :: _) _ _; go_must (refine wpList_box_val rfl 103 (.tmp 21) rfl (some 22) rfl logZ rfl ?_); rw [← HW3.out])
    | (go_at_call 36; refine L2.out.mono ?_; rintro e w4 ⟨rfl, rfl⟩))
  have SV1 := Lib.hid (fun W gs => save_nomed (.pointer (some ⟨gs, 0, none⟩)) W ⟨_, rfl⟩)
  have SV2 := Lib.hid (fun W (s : Still w1 W) => save_nostate (MD.out W s) (Me.new_ok ⟨by decide, by decide⟩) rfl rfl)
  have SV3 := Lib.hid (fun W (s : Still w1 W) gs (h : Blk W gs 44 #[.int .i64 n, .pointer none, .slice none 0 0, .slice none 0 0]) => save_noindex (MD.out W s) (Me.new_ok ⟨by decide, by decide⟩) rfl rfl n h)
  clear B0 B1 B2 L2
  go_wp2_with fail
  refine (SV1.out _ _).mono ?_
  rintro e w6 ⟨rfl, s6⟩
  have S6 := Lib.hid (show Still w1 w6 from Still.trans S3.out (Still.trans ((Still.refl w3).alloc (Nat.le_refl _) _) s6))
  clear s6 SV1
  go_wp2_with fail
  refine (SV2.out _ S6.out).mono ?_
  rintro e w7 ⟨rfl, s7⟩
  have S7 := Lib.hid (Still.trans S6.out s7)
  clear s7 SV2
  go_wp2_with fail
  refine (SV3.out _ (S7.out.alloc S7.out.size _) _ (Blk.new w7 _ _)).mono ?_
  rintro e w8 ⟨rfl, s8⟩
  have S8 := Lib.hid (show Still w1 w8 from Still.trans (S7.out.alloc S7.out.size _) s8)
  have TN := Lib.hid (Pl.tnew_any w8)
  clear s8 SV3
  go_wp2_with fail
  refine TN.out.mono ?_
  rintro e w9 ⟨gt, bt, rfl, t9, s9, hg9, hb9⟩
  have S9 := Lib.hid (Still.trans S8.out s9)
  have T9 := Lib.hid t9
  have SV4 := Lib.hid (fun W (s : Still w1 W) (s9 : Still w9 W) gs (h : Blk W gs 44 #[.int .i64 (-1), .pointer (some ⟨gt, 0, none⟩), .slice none 0 0, .slice none 0 0]) => save_arg (MD.out W s) (Me.new_ok ⟨by decide, by decide⟩) rfl rfl (HT.out W (Still.trans S1.out s)) h (T9.out.still s9) (by decide))
  have NN := Lib.hid (fun W => newest_no W)
  have CN := Lib.hid (fun W => clean_no W)
  have LV := Lib.hid (fun W (s : Still w1 W) => hlives W (HT.out W (Still.trans S1.out s)))
  clear t9 s9 hg9 hb9 TN
  go_wp2_with fail
  refine (SV4.out _ (S9.out.alloc S9.out.size _) ((Still.refl w9).alloc (Nat.le_refl _) _) _ (Blk.new w9 _ _)).mono ?_
  rintro e w10 ⟨rfl, s10⟩
  have S10 := Lib.hid (show Still w1 w10 from Still.trans (S9.out.alloc S9.out.size _) s10)
  clear s10 SV4
  go_wp2_with fail
  refine (NN.out _).mono ?_
  rintro e w11 ⟨rfl, s11⟩
  have S11 := Lib.hid (Still.trans S10.out s11)
  clear s11 NN
  go_wp2_with fail
  refine (CN.out _).mono ?_
  rintro e w12 ⟨rfl, rfl⟩
  go_wp2_with fail
  refine (LV.out _ S11.out).mono ?_
  rintro e w13 ⟨rfl, s13⟩
  have S13 := Lib.hid (Still.trans S11.out s13)
  clear s13
  go_wp2_with fail
  go_ret
  exact ⟨rfl, Still.trans S1.out S13.out⟩
end Go.Proofs.YtblgphfdicffcaaGreatDoor
