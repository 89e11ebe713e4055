/- The walk of TableNobody: it returns true, and nothing that was there turns. -/
import Derived.Test.YthkgnkcedoigiaaTbNo
import Derived.Test.YthkgnkcedoigiaaTbLives
import Derived.Test.YthkgnkcedoigiaaOpenId
import Derived.Test.YthkgnkcedoigiaaQuiet3
namespace Go.Proofs.Ythkgnkcedoigiaa
open Go.RowKit
set_option linter.unusedVariables false
set_option linter.unusedSimpArgs false

theorem built_table0 : Try.prog.built 75 [] = some #[.slice none 0 0, .int .i64 0, .int .i64 0] := by kernel_rfl
set_option maxRecDepth 100000 in
set_option maxHeartbeats 6400000 in
theorem tableNobody_walk (l0 : List UInt8) (a1 : Int) (w : World) (w0 : l0.length = 32) :
    Calls Try.prog 10 #[.agg (bytesV l0).toArray, .int .i64 a1] w fun e w' => e = .returned (.bool true) ∧ Below w.heap.size w w' := by
  obtain ⟨wA, gk, kv, KB⟩ := keyBox w l0 w0
  have LI := Lib.hid (fun W => lives_any W)
  have HB := Lib.hid KB
  have HL := Lib.hid w0
  have BT := Lib.hid built_table0
  rw [← KB.hkv]
  clear KB w0
  go_enter Try.func10, Try.ntmps10
  go_upto_region 1 with (guard_target =~ wpList _ _ _ (Oper.mk (some 2) _ _ _ _ _ :: _) _ _; go_must (refine wpList_box_val rfl 32 (.tmp 0) rfl (some 2) rfl kv rfl ?_))
  rw [← HB.out.hwA, ← HB.out.hgk]
  go_wp2_with fail
  go_loopw [5] (fun iv wr => ∃ i : Nat, i ≤ 2 ∧ iv = .int .i64 i ∧ Hid (Still wA wr)) (fun iv _ => 2 - (intOf iv).toNat)
  case atStart => exact ⟨0, by omega, rfl, Lib.hid (Still.refl _)⟩
  case round =>
    obtain ⟨i, hi, rfl, SW⟩ := hrel
    by_cases h2 : i = 2
    · subst h2
      go_wp2_with (go_at_call 20; refine (LI.out _).mono ?_; rintro e w9 ⟨rfl, s9⟩; have S9 := Lib.hid s9; clear s9)
      go_ret
      exact ⟨rfl, Still.trans HB.out.still (Still.trans SW.out S9.out)⟩
    by_cases h1 : i = 1
    · subst h1
      clear h2 hi
      obtain ⟨wt, hwt⟩ : ∃ wt, wt = wr.alloc (.cells #[.slice none 0 0, .int .i64 0, .int .i64 0] 75) := ⟨_, rfl⟩
      obtain ⟨g, hg⟩ : ∃ g, g = wr.heap.size := ⟨_, rfl⟩
      have st : Still wr wt := by rw [hwt]; exact (Still.refl wr).alloc (Nat.le_refl _) _
      have ST := Lib.hid (Still.trans SW.out st)
      have NT := Lib.hid (show NoT wt (some ⟨g, 0, none⟩) from .inr ⟨g, rfl, by rw [hwt, hg]; simp, by rw [hwt, hg]; exact (Blk.new wr _ _).cell 0⟩)
      have HWT := Lib.hid hwt
      have HG := Lib.hid hg
      clear st hwt hg
      go_upto_region 7 with (first
        | (guard_target =~ wpList _ _ _ (Oper.mk (some 15) _ _ _ _ _ :: _) _ _; go_must (refine wpList_buildTo rfl 75 _ rfl (some 15) rfl #[.slice none 0 0, .int .i64 0, .int .i64 0] (by simp only [List.map_toArray, List.map_nil]; exact BT.out) ?_))
        | (guard_target =~ wpList _ _ _ (Oper.mk (some 16) _ _ _ _ _ :: _) _ _; go_must (refine wpList_box_val rfl 75 (.tmp 15) rfl (some 16) rfl #[.slice none 0 0, .int .i64 0, .int .i64 0] rfl ?_)))
      rw [← HWT.out, ← HG.out]
      have NP := Lib.hid (fun W (s : Still wt W) => put_none (NT.out.still s) l0 a1 HL.out)
      have NG := Lib.hid (fun W (s : Still wt W) => get_none (NT.out.still s) l0 HL.out)
      have ND := Lib.hid (fun (q : StillBy wt) => del_none (NT.out.still q.still) l0 HL.out)
      have NL := Lib.hid (fun (q : StillBy wt) => len_none (NT.out.still q.still))
      have NC := Lib.hid (fun (q : StillBy wt) => cap_none (NT.out.still q.still))
      have NDE := Lib.hid (fun (q : StillBy wt) => dead_none (NT.out.still q.still))
      have NS := Lib.hid (fun (q : StillBy wt) => steps_none (NT.out.still q.still) l0 HL.out)
      have NK := Lib.hid (fun (q : StillBy wt) => keys_none (NT.out.still q.still))
      have NCO := Lib.hid (fun (q : StillBy wt) => copy_none (NT.out.still q.still))
      rw [← HB.out.hkv] at NP NG ND NS
      have RK := Lib.hid (fun W (hW : ∃ q : StillBy wt, W = q.W) => show W.rangeAt gk 0 (bytesV l0) from by obtain ⟨q, rfl⟩ := hW; exact HB.out.reads _ (Still.trans ST.out q.still))
      go_upto_region 9 with (first
        | (guard_target =~ wpList _ _ _ (Oper.mk (some 18) _ _ _ _ _ :: _) _ _; go_must (refine wpList_load_mid rfl 32 (.tmp 2) rfl gk 0 rfl (bytesV l0) _ (RK.out _ ⟨⟨_, Still.refl _⟩, rfl⟩) under32 rfl HB.out.size ?_); rw [← HB.out.hkv])
        | (guard_target =~ wpList _ _ _ (Oper.mk (some 23) _ _ _ _ _ :: _) _ _; go_must (refine wpList_load_mid rfl 32 (.tmp 2) rfl gk 0 rfl (bytesV l0) _ (RK.out _ ⟨⟨_, S1.out⟩, rfl⟩) under32 rfl HB.out.size ?_); rw [← HB.out.hkv])
        | (go_at_call 14; refine (NP.out _ (Still.refl _)).mono ?_; rintro e w1 ⟨rfl, s1⟩; have S1 := Lib.hid s1; clear s1)
        | (go_at_call 18; refine (NG.out _ S1.out).mono ?_; rintro e w2 ⟨rfl, s2⟩; have S2 := Lib.hid (Still.trans S1.out s2); clear s2))
      refine wp_plain_quiet_still wt S2.out ?_
      repeat (first
        | (guard_target =~ wpQuiet _ _ _ _ (Oper.mk (some 34) _ _ _ _ _ :: _) _; go_must (refine quiet_load_mid (by kernel_rfl) 32 (.tmp 2) rfl gk 0 (by kernel_rfl) (bytesV l0) _ RK.out under32 rfl HB.out.size ?_); rw [← HB.out.hkv])
        | (guard_target =~ wpQuiet _ _ _ _ (Oper.mk (some 54) _ _ _ _ _ :: _) _; go_must (refine quiet_load_mid (by kernel_rfl) 32 (.tmp 2) rfl gk 0 (by kernel_rfl) (bytesV l0) _ RK.out under32 rfl HB.out.size ?_); rw [← HB.out.hkv])
        | quiet_step (((first | (go_at_call 16; with_reducible exact Calls.stillby _ (ND.out _)) | (go_at_call 22; with_reducible exact Calls.stillby _ (NL.out _)) | (go_at_call 25; with_reducible exact Calls.stillby _ (NC.out _)) | (go_at_call 23; with_reducible exact Calls.stillby _ (NDE.out _)) | (go_at_call 24; with_reducible exact Calls.stillby _ (NS.out _)) | (go_at_call 29; with_reducible exact Calls.stillby _ (NK.out _)) | (go_at_call 27; with_reducible exact Calls.stillby _ (NCO.out _))))))
      refine wpQuiet_nil ?_
      intro wr hw'
      have SR := Lib.hid (show Still wt wr from by obtain ⟨p, rfl⟩ := hw'; exact p.still)
      clear hw'
      go_wp2_with fail
      go_roundw
      case rel => exact ⟨2, by omega, by go_num, Lib.hid (Still.trans ST.out SR.out)⟩
      case measure => simp [intOf]
    · obtain rfl : i = 0 := by omega
      clear h1 h2 hi
      obtain ⟨wt, hwt⟩ : ∃ wt, wt = wr := ⟨_, rfl⟩
      have ST := Lib.hid (show Still wA wt from by rw [hwt]; exact SW.out)
      have NT := Lib.hid (show NoT wt none from .inl rfl)
      rw [← hwt]
      clear hwt
      go_upto_region 7 with fail
      have NP := Lib.hid (fun W (s : Still wt W) => put_none (NT.out.still s) l0 a1 HL.out)
      have NG := Lib.hid (fun W (s : Still wt W) => get_none (NT.out.still s) l0 HL.out)
      have ND := Lib.hid (fun (q : StillBy wt) => del_none (NT.out.still q.still) l0 HL.out)
      have NL := Lib.hid (fun (q : StillBy wt) => len_none (NT.out.still q.still))
      have NC := Lib.hid (fun (q : StillBy wt) => cap_none (NT.out.still q.still))
      have NDE := Lib.hid (fun (q : StillBy wt) => dead_none (NT.out.still q.still))
      have NS := Lib.hid (fun (q : StillBy wt) => steps_none (NT.out.still q.still) l0 HL.out)
      have NK := Lib.hid (fun (q : StillBy wt) => keys_none (NT.out.still q.still))
      have NCO := Lib.hid (fun (q : StillBy wt) => copy_none (NT.out.still q.still))
      rw [← HB.out.hkv] at NP NG ND NS
      have RK := Lib.hid (fun W (hW : ∃ q : StillBy wt, W = q.W) => show W.rangeAt gk 0 (bytesV l0) from by obtain ⟨q, rfl⟩ := hW; exact HB.out.reads _ (Still.trans ST.out q.still))
      go_upto_region 9 with (first
        | (guard_target =~ wpList _ _ _ (Oper.mk (some 18) _ _ _ _ _ :: _) _ _; go_must (refine wpList_load_mid rfl 32 (.tmp 2) rfl gk 0 rfl (bytesV l0) _ (RK.out _ ⟨⟨_, Still.refl _⟩, rfl⟩) under32 rfl HB.out.size ?_); rw [← HB.out.hkv])
        | (guard_target =~ wpList _ _ _ (Oper.mk (some 23) _ _ _ _ _ :: _) _ _; go_must (refine wpList_load_mid rfl 32 (.tmp 2) rfl gk 0 rfl (bytesV l0) _ (RK.out _ ⟨⟨_, S1.out⟩, rfl⟩) under32 rfl HB.out.size ?_); rw [← HB.out.hkv])
        | (go_at_call 14; refine (NP.out _ (Still.refl _)).mono ?_; rintro e w1 ⟨rfl, s1⟩; have S1 := Lib.hid s1; clear s1)
        | (go_at_call 18; refine (NG.out _ S1.out).mono ?_; rintro e w2 ⟨rfl, s2⟩; have S2 := Lib.hid (Still.trans S1.out s2); clear s2))
      refine wp_plain_quiet_still wt S2.out ?_
      repeat (first
        | (guard_target =~ wpQuiet _ _ _ _ (Oper.mk (some 34) _ _ _ _ _ :: _) _; go_must (refine quiet_load_mid (by kernel_rfl) 32 (.tmp 2) rfl gk 0 (by kernel_rfl) (bytesV l0) _ RK.out under32 rfl HB.out.size ?_); rw [← HB.out.hkv])
        | (guard_target =~ wpQuiet _ _ _ _ (Oper.mk (some 54) _ _ _ _ _ :: _) _; go_must (refine quiet_load_mid (by kernel_rfl) 32 (.tmp 2) rfl gk 0 (by kernel_rfl) (bytesV l0) _ RK.out under32 rfl HB.out.size ?_); rw [← HB.out.hkv])
        | quiet_step (((first | (go_at_call 16; with_reducible exact Calls.stillby _ (ND.out _)) | (go_at_call 22; with_reducible exact Calls.stillby _ (NL.out _)) | (go_at_call 25; with_reducible exact Calls.stillby _ (NC.out _)) | (go_at_call 23; with_reducible exact Calls.stillby _ (NDE.out _)) | (go_at_call 24; with_reducible exact Calls.stillby _ (NS.out _)) | (go_at_call 29; with_reducible exact Calls.stillby _ (NK.out _)) | (go_at_call 27; with_reducible exact Calls.stillby _ (NCO.out _))))))
      refine wpQuiet_nil ?_
      intro wr hw'
      have SR := Lib.hid (show Still wt wr from by obtain ⟨p, rfl⟩ := hw'; exact p.still)
      clear hw'
      go_wp2_with fail
      go_roundw
      case rel => exact ⟨1, by omega, by go_num, Lib.hid (Still.trans ST.out SR.out)⟩
      case measure => simp [intOf]
end Go.Proofs.Ythkgnkcedoigiaa
