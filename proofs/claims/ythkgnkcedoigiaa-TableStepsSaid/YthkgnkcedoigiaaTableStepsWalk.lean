/- The walk of TableSteps: it returns true, and nothing that was there turns. -/
import Derived.Test.YthkgnkcedoigiaaTbPlayed
import Derived.Test.YthkgnkcedoigiaaQuiet3
namespace Go.Proofs.Ythkgnkcedoigiaa
open Go.RowKit
set_option linter.unusedVariables false
set_option linter.unusedSimpArgs false

set_option maxRecDepth 100000 in
set_option maxHeartbeats 1600000 in
theorem steps_fix {w : World} {g b cp dd : Nat} {L : List KV} (h : Tb w g b L cp dd) (k : List UInt8) (hk : k.length = 32) (hl : L.length ≤ 1073741824) :
    ∃ s : Nat, 1 ≤ s ∧ s ≤ L.length + dd + 1 ∧ ∀ W, Still w W → Calls Try.prog 24 #[.pointer (some ⟨g, 0, none⟩), .agg (bytesV k).toArray] W fun e w' => e = .returned (.int .i64 (s : Nat)) ∧ Still W w' := by
  have hcp := h.cpb hl
  obtain ⟨⟨c, S, t, a, rfl, rfl⟩, gd⟩ := h
  obtain ⟨j, hj⟩ := t.inv.stop_ex k
  have hle := hj.steps
  rw [a.len] at hle
  refine ⟨j + 1, by omega, by omega, fun W sW => ?_⟩
  have tW := t.still sW
  obtain ⟨wA, gk, kv, KB⟩ := keyBox W k hk
  have SE := Lib.hid (search_any (tW.still KB.still) k hk (by omega) j hj)
  have WY := Lib.hid (works_yes (tW.still KB.still))
  have HB := Lib.hid KB
  rw [← KB.hkv] at SE ⊢
  generalize pos k S.length j = x at SE
  clear tW KB t a gd hle hj hcp hl hk
  go_enter Try.func24, Try.ntmps24
  go_upto_region 1 with (guard_target =~ wpList _ _ _ (Oper.mk (some 3) _ _ _ _ _ :: _) _ _; go_must (refine wpList_box_val rfl 32 (.tmp 1) rfl (some 3) rfl kv rfl ?_))
  rw [← HB.out.hwA, ← HB.out.hgk]
  go_wp2_with (first
    | (guard_target =~ wpList _ _ _ (Oper.mk (some 12) _ _ _ _ _ :: _) _ _; go_must (refine wpList_load_mid rfl 32 (.tmp 3) rfl gk 0 rfl (bytesV k) _ (HB.out.reads _ (Still.refl _)) under32 rfl HB.out.size ?_); rw [← HB.out.hkv])
    | (go_at_call 40; refine WY.out.mono ?_; rintro e w1 ⟨rfl, rfl⟩)
    | (go_at_call 45; refine SE.out.mono ?_; rintro e w1 ⟨rfl, s1⟩; have S1 := Lib.hid s1; clear s1))
  go_ret
  exact ⟨by first | rfl | simp, Still.trans HB.out.still S1.out⟩
set_option maxRecDepth 100000 in
set_option maxHeartbeats 6400000 in
theorem tableSteps_walk (a0 : Option Addr) (len0 cap0 : Nat) (L0 : List Dq) (l1 : List UInt8) (w : World) (w0 : DqRow w a0 len0 cap0 L0) (w1 : l1.length = 32) :
    Calls Try.prog 5 #[.slice a0 len0 cap0, .agg (bytesV l1).toArray] w fun e w' => e = .returned (.bool true) ∧ Below w.heap.size w w' := by
  obtain ⟨wA, gk, kv, KB⟩ := keyBox w l1 w1
  have PL := Lib.hid (played_any a0 len0 cap0 300 L0 w wA (by omega) w0 KB.still)
  have LI := Lib.hid (fun (q : World) => lives_any q)
  have HB := Lib.hid KB
  have HL := Lib.hid w1
  rw [← KB.hkv]
  clear KB w1 w0
  go_enter Try.func5, Try.ntmps5
  go_upto_region 1 with (guard_target =~ wpList _ _ _ (Oper.mk (some 3) _ _ _ _ _ :: _) _ _; go_must (refine wpList_box_val rfl 32 (.tmp 1) rfl (some 3) rfl kv rfl ?_))
  rw [← HB.out.hwA, ← HB.out.hgk]
  go_upto_region 2 with (go_at_call 21; refine PL.out.mono ?_; rintro e w2 ⟨g, rfl, p2⟩; have P2 := Lib.hid p2; clear p2)
  obtain ⟨⟨b, cp, dd, T, hb⟩, s2, hg⟩ := P2.out
  have hlen := playL_len (L0.take 300) (min len0 300)
  obtain ⟨L, hL⟩ : ∃ L, L = playL ((L0.take 300).take (min len0 300)) := ⟨_, rfl⟩
  rw [← hL] at T hlen
  obtain ⟨s, hs1, hs2, ST⟩ := steps_fix T l1 HL.out (by omega)
  have hload := T.load
  have LE := Lib.hid (len_any T)
  have DE := Lib.hid (dead_any T)
  have CA := Lib.hid (fun (q : StillBy w2) => show Calls Try.prog 25 #[.pointer (some ⟨g, 0, none⟩)] q.W fun e w3 => e = .returned (.int .i64 (cp : Nat)) ∧ Still q.W w3 from (cap_any (T.still q.still)).mono fun e w3 ⟨he, hw⟩ => ⟨he, by rw [← hw]; exact Still.refl _⟩)
  have SP := Lib.hid (fun (q : StillBy w2) => ST q.W q.still)
  rw [← HB.out.hkv] at SP
  have RK := Lib.hid (fun W (hW : ∃ q : StillBy w2, W = q.W) => show W.rangeAt gk 0 (bytesV l1) from by obtain ⟨q, rfl⟩ := hW; exact HB.out.reads _ (Still.trans s2 q.still))
  have S2 := Lib.hid s2
  obtain ⟨n, hn⟩ : ∃ n, n = L.length := ⟨_, rfl⟩
  rw [← hn] at LE hs2 hlen hload
  have d1 : (1 : Int) ≤ (s : Int) := by omega
  have d2 : (s : Int) ≤ (n : Int) + (dd : Int) + 1 := by omega
  have d3 : (n : Int) + (dd : Int) < (cp : Int) := by omega
  have d4 : (n : Int) ≤ 1048576 := by omega
  have hcb : cp ≤ 8589934592 := T.cpb (by omega)
  have d5 : (dd : Int) ≤ 8589934592 := by omega
  have wr1 : IntKind.i64.wrap ((n : Int) + (dd : Int) + 1) = (n : Int) + (dd : Int) + 1 := by rw [IntKind.wrap_i64]; omega
  clear hL T hlen ST hload hs1 hs2 hn hb s2 hg P2 PL hcb
  go_upto_region 5 with (first
    | (go_at_call 22; refine LE.out.mono ?_; rintro e w3 ⟨rfl, rfl⟩)
    | (go_at_call 23; refine DE.out.mono ?_; rintro e w3 ⟨rfl, rfl⟩))
  refine wp_plain_quiet_still w2 (Still.refl _) ?_
  repeat (first
    | (guard_target =~ wpQuiet _ _ _ _ (Oper.mk (some 17) _ _ _ _ _ :: _) _; go_must (refine quiet_load_mid (by kernel_rfl) 32 (.tmp 3) rfl gk 0 (by kernel_rfl) (bytesV l1) _ RK.out under32 rfl HB.out.size ?_); rw [← HB.out.hkv])
    | (guard_target =~ wpQuiet _ _ _ _ (Oper.mk (some 22) _ _ _ _ _ :: _) _; go_must (refine quiet_load_mid (by kernel_rfl) 32 (.tmp 3) rfl gk 0 (by kernel_rfl) (bytesV l1) _ RK.out under32 rfl HB.out.size ?_); rw [← HB.out.hkv])
    | quiet_step (((first | (go_at_call 24; with_reducible exact Calls.stillby _ (SP.out _)) | (go_at_call 25; with_reducible exact Calls.stillby _ (CA.out _)) | (go_at_call 20; with_reducible exact Calls.stillby _ (LI.out _))))))
  refine wpQuiet_nil ?_
  intro wr hw'
  have SR := Lib.hid (show Still w2 wr from by obtain ⟨p, rfl⟩ := hw'; exact p.still)
  clear hw'
  go_wp2_with fail
  go_ret
  exact ⟨rfl, Still.trans HB.out.still (Still.trans S2.out SR.out)⟩
end Go.Proofs.Ythkgnkcedoigiaa
