/- The walk of TableOrder: it returns true, and nothing that was there turns. -/
import Derived.Test.YthkgnkcedoigiaaTbLives
import Derived.Test.YthkgnkcedoigiaaOpenId
import Derived.Test.YthkgnkcedoigiaaQuiet3
import Derived.Laws.StructEq
namespace Go.Proofs.Ythkgnkcedoigiaa
open Go.RowKit
set_option linter.unusedVariables false
set_option linter.unusedSimpArgs false

theorem neq_ids (w : World) (xs ys : List UInt8) (hx : xs.length = 32) (hy : ys.length = 32) :
    (binOp .neq 32 (.agg (bytesV xs).toArray) (.agg (bytesV ys).toArray)).run Try.prog w = .ok (.bool (!decide (xs = ys))) w := by
  have h := eql_ids w xs ys hx hy
  rw [run_eql_struct] at h
  rw [run_neq_struct]
  generalize (Op.equalIn 10000 32 (.agg (bytesV xs).toArray) (.agg (bytesV ys).toArray)).run Try.prog w = q at h ⊢
  cases q with
  | ok b w' =>
    simp only [Result.andThen_ok, Result.ok.injEq, Value.bool.injEq] at h ⊢
    exact ⟨by rw [h.1], h.2⟩
  | halt x w' => simp only [Result.andThen] at h; cases h
set_option maxRecDepth 100000 in
set_option maxHeartbeats 6400000 in
theorem tableOrder_walk (l0 l1 l2 : List UInt8) (w : World) (h0 : l0.length = 32) (h1 : l1.length = 32) (h2 : l2.length = 32) :
    Calls Try.prog 9 #[.agg (bytesV l0).toArray, .agg (bytesV l1).toArray, .agg (bytesV l2).toArray] w fun e w' => e = .returned (.bool true) ∧ Below w.heap.size w w' := by
  obtain ⟨wA, ga, ka, KA⟩ := keyBox w l0 h0
  obtain ⟨wB, gb, kb, KB⟩ := keyBox wA l1 h1
  obtain ⟨wC, gc, kc, KC⟩ := keyBox wB l2 h2
  have RA := Lib.hid (fun W (hW : ∃ p : StillBy wC, W = p.W) => show W.rangeAt ga 0 (bytesV l0) from by obtain ⟨p, rfl⟩ := hW; exact KA.reads _ (Still.trans KB.still (Still.trans KC.still p.still)))
  have RB := Lib.hid (fun W (hW : ∃ p : StillBy wC, W = p.W) => show W.rangeAt gb 0 (bytesV l1) from by obtain ⟨p, rfl⟩ := hW; exact KB.reads _ (Still.trans KC.still p.still))
  have RC := Lib.hid (fun W (hW : ∃ p : StillBy wC, W = p.W) => show W.rangeAt gc 0 (bytesV l2) from by obtain ⟨p, rfl⟩ := hW; exact KC.reads _ p.still)
  have S0 := Lib.hid (Still.trans KA.still (Still.trans KB.still KC.still))
  have LI := Lib.hid (fun W => lives_any W)
  have LAB := Lib.hid (fun W => less_any l0 l1 W h0 h1)
  have LBC := Lib.hid (fun W => less_any l1 l2 W h1 h2)
  have LAC := Lib.hid (fun W => less_any l0 l2 W h0 h2)
  have LAA := Lib.hid (fun W => less_any l0 l0 W h0 h0)
  have LBA := Lib.hid (fun W => less_any l1 l0 W h1 h0)
  have RAB := Lib.hid (fun W => rless_any l0 l1 W h0 h1)
  have NE := Lib.hid (fun W => neq_ids W l0 l1 h0 h1)
  have HA := Lib.hid KA
  have HB := Lib.hid KB
  have HC := Lib.hid KC
  rw [← KA.hkv] at LAB LAC LAA LBA RAB NE
  rw [← KB.hkv] at LAB LBC LBA RAB NE
  rw [← KC.hkv] at LBC LAC
  rw [← KA.hkv, ← KB.hkv, ← KC.hkv]
  rw [ltK_irrefl] at LAA
  have go : ∀ (x y z r : Bool) (d : Bool) (hx : x = true → r = false ∧ d = false) (hxd : x = false → d = false → r = true) (hxyz : x = true → y = true → z = true)
      (LAB : Hid (∀ W, Calls Try.prog 38 #[.agg ka, .agg kb] W fun e w' => e = .returned (.bool x) ∧ Still W w'))
      (LBC : Hid (∀ W, Calls Try.prog 38 #[.agg kb, .agg kc] W fun e w' => e = .returned (.bool y) ∧ Still W w'))
      (LAC : Hid (∀ W, Calls Try.prog 38 #[.agg ka, .agg kc] W fun e w' => e = .returned (.bool z) ∧ Still W w'))
      (LAA : Hid (∀ W, Calls Try.prog 38 #[.agg ka, .agg ka] W fun e w' => e = .returned (.bool false) ∧ Still W w'))
      (LBA : Hid (∀ W, Calls Try.prog 38 #[.agg kb, .agg ka] W fun e w' => e = .returned (.bool r) ∧ Still W w'))
      (RAB : Hid (∀ W, Calls Try.prog 39 #[.agg ka, .agg kb] W fun e w' => e = .returned (.bool x) ∧ Still W w'))
      (NE : Hid (∀ W, (binOp .neq 32 (.agg ka) (.agg kb)).run Try.prog W = .ok (.bool (!d)) W)),
      Calls Try.prog 9 #[.agg ka, .agg kb, .agg kc] w fun e w' => e = .returned (.bool true) ∧ Below w.heap.size w w' := by
    clear LAB LBC LAC LAA LBA RAB NE KA KB KC h0 h1 h2
    intro x y z r d hx hxd hxyz LAB LBC LAC LAA LBA RAB NE
    have ne := NE.out
    go_enter Try.func9, Try.ntmps9
    go_upto_region 1 with (first
      | (guard_target =~ wpList _ _ _ (Oper.mk (some 3) _ _ _ _ _ :: _) _ _; go_must (refine wpList_box_val rfl 32 (.tmp 0) rfl (some 3) rfl ka rfl ?_); rw [← HA.out.hwA, ← HA.out.hgk])
      | (guard_target =~ wpList _ _ _ (Oper.mk (some 4) _ _ _ _ _ :: _) _ _; go_must (refine wpList_box_val rfl 32 (.tmp 1) rfl (some 4) rfl kb rfl ?_); rw [← HB.out.hwA, ← HB.out.hgk])
      | (guard_target =~ wpList _ _ _ (Oper.mk (some 5) _ _ _ _ _ :: _) _ _; go_must (refine wpList_box_val rfl 32 (.tmp 2) rfl (some 5) rfl kc rfl ?_); rw [← HC.out.hwA, ← HC.out.hgk]))
    refine wp_region_quiet_still wC (Still.refl _) (by kernel_rfl) (by kernel_rfl) ?_
    repeat (first
      | (guard_target =~ wpQuiet _ _ _ _ (Oper.mk (some 10) _ _ _ _ _ :: _) _; go_must (refine quiet_load_mid (by kernel_rfl) 32 (.tmp 3) rfl ga 0 (by kernel_rfl) (bytesV l0) _ RA.out under32 rfl HA.out.size ?_); rw [← HA.out.hkv])
      | (guard_target =~ wpQuiet _ _ _ _ (Oper.mk (some 11) _ _ _ _ _ :: _) _; go_must (refine quiet_load_mid (by kernel_rfl) 32 (.tmp 4) rfl gb 0 (by kernel_rfl) (bytesV l1) _ RB.out under32 rfl HB.out.size ?_); rw [← HB.out.hkv])
      | (guard_target =~ wpQuiet _ _ _ _ (Oper.mk (some 13) _ _ _ _ _ :: _) _; go_must (refine quiet_load_mid (by kernel_rfl) 32 (.tmp 4) rfl gb 0 (by kernel_rfl) (bytesV l1) _ RB.out under32 rfl HB.out.size ?_); rw [← HB.out.hkv])
      | (guard_target =~ wpQuiet _ _ _ _ (Oper.mk (some 14) _ _ _ _ _ :: _) _; go_must (refine quiet_load_mid (by kernel_rfl) 32 (.tmp 5) rfl gc 0 (by kernel_rfl) (bytesV l2) _ RC.out under32 rfl HC.out.size ?_); rw [← HC.out.hkv])
      | (guard_target =~ wpQuiet _ _ _ _ (Oper.mk (some 16) _ _ _ _ _ :: _) _; go_must (refine quiet_load_mid (by kernel_rfl) 32 (.tmp 3) rfl ga 0 (by kernel_rfl) (bytesV l0) _ RA.out under32 rfl HA.out.size ?_); rw [← HA.out.hkv])
      | (guard_target =~ wpQuiet _ _ _ _ (Oper.mk (some 17) _ _ _ _ _ :: _) _; go_must (refine quiet_load_mid (by kernel_rfl) 32 (.tmp 5) rfl gc 0 (by kernel_rfl) (bytesV l2) _ RC.out under32 rfl HC.out.size ?_); rw [← HC.out.hkv])
      | quiet_step (((first | (go_at_call 38; first | with_reducible exact Calls.stillby _ (LAB.out _) | with_reducible exact Calls.stillby _ (LBC.out _) | with_reducible exact Calls.stillby _ (LAC.out _))))))
    refine wpQuiet_nil ?_
    intro wq hw'
    have SQ := Lib.hid (show Still wC wq from by obtain ⟨p, rfl⟩ := hw'; exact p.still)
    clear hw'
    cases x
    · cases d
      · obtain rfl := hxd rfl rfl
        go_upto_region 2 with fail
        refine wp_plain_quiet_still wC SQ.out ?_
        repeat (first
          | (guard_target =~ wpQuiet _ _ _ _ (Oper.mk (some 20) _ _ _ _ _ :: _) _; go_must (refine quiet_load_mid (by kernel_rfl) 32 (.tmp 3) rfl ga 0 (by kernel_rfl) (bytesV l0) _ RA.out under32 rfl HA.out.size ?_); rw [← HA.out.hkv])
          | (guard_target =~ wpQuiet _ _ _ _ (Oper.mk (some 21) _ _ _ _ _ :: _) _; go_must (refine quiet_load_mid (by kernel_rfl) 32 (.tmp 4) rfl gb 0 (by kernel_rfl) (bytesV l1) _ RB.out under32 rfl HB.out.size ?_); rw [← HB.out.hkv])
          | (guard_target =~ wpQuiet _ _ _ _ (Oper.mk (some 25) _ _ _ _ _ :: _) _; go_must (refine quiet_load_mid (by kernel_rfl) 32 (.tmp 3) rfl ga 0 (by kernel_rfl) (bytesV l0) _ RA.out under32 rfl HA.out.size ?_); rw [← HA.out.hkv])
          | (guard_target =~ wpQuiet _ _ _ _ (Oper.mk (some 26) _ _ _ _ _ :: _) _; go_must (refine quiet_load_mid (by kernel_rfl) 32 (.tmp 3) rfl ga 0 (by kernel_rfl) (bytesV l0) _ RA.out under32 rfl HA.out.size ?_); rw [← HA.out.hkv])
          | (guard_target =~ wpQuiet _ _ _ _ (Oper.mk (some 38) _ _ _ _ _ :: _) _; go_must (refine quiet_load_mid (by kernel_rfl) 32 (.tmp 3) rfl ga 0 (by kernel_rfl) (bytesV l0) _ RA.out under32 rfl HA.out.size ?_); rw [← HA.out.hkv])
          | (guard_target =~ wpQuiet _ _ _ _ (Oper.mk (some 39) _ _ _ _ _ :: _) _; go_must (refine quiet_load_mid (by kernel_rfl) 32 (.tmp 4) rfl gb 0 (by kernel_rfl) (bytesV l1) _ RB.out under32 rfl HB.out.size ?_); rw [← HB.out.hkv])
          | (guard_target =~ wpQuiet _ _ _ _ (Oper.mk (some 46) _ _ _ _ _ :: _) _; go_must (refine quiet_load_mid (by kernel_rfl) 32 (.tmp 4) rfl gb 0 (by kernel_rfl) (bytesV l1) _ RB.out under32 rfl HB.out.size ?_); rw [← HB.out.hkv])
          | (guard_target =~ wpQuiet _ _ _ _ (Oper.mk (some 47) _ _ _ _ _ :: _) _; go_must (refine quiet_load_mid (by kernel_rfl) 32 (.tmp 3) rfl ga 0 (by kernel_rfl) (bytesV l0) _ RA.out under32 rfl HA.out.size ?_); rw [← HA.out.hkv])
          | quiet_step (((first | (go_at_call 39; with_reducible exact Calls.stillby _ (RAB.out _)) | (go_at_call 38; first | with_reducible exact Calls.stillby _ (LAA.out _) | with_reducible exact Calls.stillby _ (LBA.out _))))))
        refine wpQuiet_nil ?_
        intro wr hw'
        have SR := Lib.hid (show Still wC wr from by obtain ⟨p, rfl⟩ := hw'; exact p.still)
        clear hw'
        go_wp2_with (go_at_call 20; refine (LI.out _).mono ?_; rintro e w9 ⟨rfl, s9⟩; have S9 := Lib.hid s9; clear s9)
        go_ret
        exact ⟨rfl, Still.trans S0.out (Still.trans SR.out S9.out)⟩
      · clear hxd
        go_upto_region 2 with fail
        refine wp_plain_quiet_still wC SQ.out ?_
        repeat (first
          | (guard_target =~ wpQuiet _ _ _ _ (Oper.mk (some 20) _ _ _ _ _ :: _) _; go_must (refine quiet_load_mid (by kernel_rfl) 32 (.tmp 3) rfl ga 0 (by kernel_rfl) (bytesV l0) _ RA.out under32 rfl HA.out.size ?_); rw [← HA.out.hkv])
          | (guard_target =~ wpQuiet _ _ _ _ (Oper.mk (some 21) _ _ _ _ _ :: _) _; go_must (refine quiet_load_mid (by kernel_rfl) 32 (.tmp 4) rfl gb 0 (by kernel_rfl) (bytesV l1) _ RB.out under32 rfl HB.out.size ?_); rw [← HB.out.hkv])
          | (guard_target =~ wpQuiet _ _ _ _ (Oper.mk (some 25) _ _ _ _ _ :: _) _; go_must (refine quiet_load_mid (by kernel_rfl) 32 (.tmp 3) rfl ga 0 (by kernel_rfl) (bytesV l0) _ RA.out under32 rfl HA.out.size ?_); rw [← HA.out.hkv])
          | (guard_target =~ wpQuiet _ _ _ _ (Oper.mk (some 26) _ _ _ _ _ :: _) _; go_must (refine quiet_load_mid (by kernel_rfl) 32 (.tmp 3) rfl ga 0 (by kernel_rfl) (bytesV l0) _ RA.out under32 rfl HA.out.size ?_); rw [← HA.out.hkv])
          | (guard_target =~ wpQuiet _ _ _ _ (Oper.mk (some 38) _ _ _ _ _ :: _) _; go_must (refine quiet_load_mid (by kernel_rfl) 32 (.tmp 3) rfl ga 0 (by kernel_rfl) (bytesV l0) _ RA.out under32 rfl HA.out.size ?_); rw [← HA.out.hkv])
          | (guard_target =~ wpQuiet _ _ _ _ (Oper.mk (some 39) _ _ _ _ _ :: _) _; go_must (refine quiet_load_mid (by kernel_rfl) 32 (.tmp 4) rfl gb 0 (by kernel_rfl) (bytesV l1) _ RB.out under32 rfl HB.out.size ?_); rw [← HB.out.hkv])
          | quiet_step (((first | (go_at_call 39; with_reducible exact Calls.stillby _ (RAB.out _)) | (go_at_call 38; first | with_reducible exact Calls.stillby _ (LAA.out _) | with_reducible exact Calls.stillby _ (LBA.out _))))))
        refine wpQuiet_nil ?_
        intro wr hw'
        have SR := Lib.hid (show Still wC wr from by obtain ⟨p, rfl⟩ := hw'; exact p.still)
        clear hw'
        go_wp2_with (go_at_call 20; refine (LI.out _).mono ?_; rintro e w9 ⟨rfl, s9⟩; have S9 := Lib.hid s9; clear s9)
        go_ret
        exact ⟨rfl, Still.trans S0.out (Still.trans SR.out S9.out)⟩
    · obtain ⟨rfl, rfl⟩ := hx rfl
      go_upto_region 2 with fail
      refine wp_plain_quiet_still wC SQ.out ?_
      repeat (first
        | (guard_target =~ wpQuiet _ _ _ _ (Oper.mk (some 20) _ _ _ _ _ :: _) _; go_must (refine quiet_load_mid (by kernel_rfl) 32 (.tmp 3) rfl ga 0 (by kernel_rfl) (bytesV l0) _ RA.out under32 rfl HA.out.size ?_); rw [← HA.out.hkv])
        | (guard_target =~ wpQuiet _ _ _ _ (Oper.mk (some 21) _ _ _ _ _ :: _) _; go_must (refine quiet_load_mid (by kernel_rfl) 32 (.tmp 4) rfl gb 0 (by kernel_rfl) (bytesV l1) _ RB.out under32 rfl HB.out.size ?_); rw [← HB.out.hkv])
        | (guard_target =~ wpQuiet _ _ _ _ (Oper.mk (some 25) _ _ _ _ _ :: _) _; go_must (refine quiet_load_mid (by kernel_rfl) 32 (.tmp 3) rfl ga 0 (by kernel_rfl) (bytesV l0) _ RA.out under32 rfl HA.out.size ?_); rw [← HA.out.hkv])
        | (guard_target =~ wpQuiet _ _ _ _ (Oper.mk (some 26) _ _ _ _ _ :: _) _; go_must (refine quiet_load_mid (by kernel_rfl) 32 (.tmp 3) rfl ga 0 (by kernel_rfl) (bytesV l0) _ RA.out under32 rfl HA.out.size ?_); rw [← HA.out.hkv])
        | (guard_target =~ wpQuiet _ _ _ _ (Oper.mk (some 32) _ _ _ _ _ :: _) _; go_must (refine quiet_load_mid (by kernel_rfl) 32 (.tmp 4) rfl gb 0 (by kernel_rfl) (bytesV l1) _ RB.out under32 rfl HB.out.size ?_); rw [← HB.out.hkv])
        | (guard_target =~ wpQuiet _ _ _ _ (Oper.mk (some 33) _ _ _ _ _ :: _) _; go_must (refine quiet_load_mid (by kernel_rfl) 32 (.tmp 3) rfl ga 0 (by kernel_rfl) (bytesV l0) _ RA.out under32 rfl HA.out.size ?_); rw [← HA.out.hkv])
        | (guard_target =~ wpQuiet _ _ _ _ (Oper.mk (some 38) _ _ _ _ _ :: _) _; go_must (refine quiet_load_mid (by kernel_rfl) 32 (.tmp 3) rfl ga 0 (by kernel_rfl) (bytesV l0) _ RA.out under32 rfl HA.out.size ?_); rw [← HA.out.hkv])
        | (guard_target =~ wpQuiet _ _ _ _ (Oper.mk (some 39) _ _ _ _ _ :: _) _; go_must (refine quiet_load_mid (by kernel_rfl) 32 (.tmp 4) rfl gb 0 (by kernel_rfl) (bytesV l1) _ RB.out under32 rfl HB.out.size ?_); rw [← HB.out.hkv])
        | quiet_step (((first | (go_at_call 39; with_reducible exact Calls.stillby _ (RAB.out _)) | (go_at_call 38; first | with_reducible exact Calls.stillby _ (LAA.out _) | with_reducible exact Calls.stillby _ (LBA.out _))))))
      refine wpQuiet_nil ?_
      intro wr hw'
      have SR := Lib.hid (show Still wC wr from by obtain ⟨p, rfl⟩ := hw'; exact p.still)
      clear hw'
      cases y
      · go_wp2_with (go_at_call 20; refine (LI.out _).mono ?_; rintro e w9 ⟨rfl, s9⟩; have S9 := Lib.hid s9; clear s9)
        go_ret
        exact ⟨rfl, Still.trans S0.out (Still.trans SR.out S9.out)⟩
      · obtain rfl := hxyz rfl rfl
        go_wp2_with (go_at_call 20; refine (LI.out _).mono ?_; rintro e w9 ⟨rfl, s9⟩; have S9 := Lib.hid s9; clear s9)
        go_ret
        exact ⟨rfl, Still.trans S0.out (Still.trans SR.out S9.out)⟩
  refine go (ltK l0 l1) (ltK l1 l2) (ltK l0 l2) (ltK l1 l0) (decide (l0 = l1)) (fun h => ⟨ltK_asym h, by simpa using ltK_ne h⟩) (fun h h' => ltK_tri (by simpa using h') h) (fun h h' => ltK_trans h h') LAB LBC LAC LAA LBA RAB NE
end Go.Proofs.Ythkgnkcedoigiaa
