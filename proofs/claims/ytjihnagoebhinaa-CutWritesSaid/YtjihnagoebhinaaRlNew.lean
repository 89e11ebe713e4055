/- Contract: a new roller. It proves no statement. -/
import Derived.Test.YtjihnagoebhinaaRlOps
namespace Go.Proofs.Ytjihnagoebhinaa
open Go.RowKit
set_option linter.unusedVariables false
set_option linter.unusedSimpArgs false

set_option maxRecDepth 100000 in
set_option maxHeartbeats 1600000 in
theorem new_yes (seed n : Nat) (w : World) (hs : seed < 4294967296) (hn : 0 < n) (hm : n ≤ 63) :
    Calls Try.prog 34 #[.int .u32 seed, .int .i64 (n : Nat)] w fun e w' => e = .returned (.tuple #[.pointer (some ⟨w.heap.size, 0, none⟩), .int .i64 0]) ∧ RB w' w.heap.size (fun i => wd seed i) (fun _ => 0) 0 0 n 0 ∧ Still w w' := by
  obtain ⟨cs, hb, hc⟩ := built_new n
  have z1 : ¬ (n : Int) < 1 := by omega
  have z2 : ¬ (63 : Int) < (n : Int) := by omega
  have z3 : (n : Int) ≤ 63 := by omega
  have z4 : (1 : Int) ≤ (n : Int) := by omega
  have h0 : RB (w.alloc (.cells cs 74)) w.heap.size (fun _ => 0) (fun _ => 0) 0 0 n 0 := ⟨cs, Blk.new _ _ _, hc⟩
  have s0 : Still w (w.alloc (.cells cs 74)) := (Still.refl w).alloc (Nat.le_refl _) _
  obtain ⟨g, hg⟩ : ∃ g, g = w.heap.size := ⟨_, rfl⟩
  obtain ⟨w1, hw1⟩ : ∃ w1, w1 = w.alloc (.cells cs 74) := ⟨_, rfl⟩
  rw [← hw1, ← hg] at h0
  rw [← hw1] at s0
  rw [← hg]
  have HG := Lib.hid hg
  have HW1 := Lib.hid hw1
  have H0 := Lib.hid (And.intro h0 s0)
  have HB := Lib.hid hb
  clear hb hc h0 s0 hg hw1
  go_enter Try.func34, Try.ntmps34
  go_wp2_with ((first | (guard_target =~ wpList _ _ _ (Oper.mk (some 15) _ _ _ _ _ :: _) _ _; go_must (refine wpList_buildTo rfl 74 _ rfl (some 15) rfl cs (Eq.trans (congrArg (Try.prog.built 74) (by kernel_rfl)) HB.out) ?_)) | (guard_target =~ wpList _ _ _ (Oper.mk (some 16) _ _ _ _ _ :: _) _ _; go_must (refine wpList_box_arr rfl 74 _ rfl (some 16) rfl cs rfl ?_; rw [← HW1.out, ← HG.out]))))
  clear z1 z2 z3 z4
  go_loopw [17] (fun iv wr => ∃ k : Nat, iv = .int .i64 k ∧ k ≤ 256 ∧ Hid (RB wr g (fun j => if j < k then wd seed j else 0) (fun _ => 0) 0 0 n 0 ∧ Still w wr)) (fun iv _ => 256 - (intOf iv).toNat)
  case atStart => exact ⟨0, rfl, by omega, H0.out.1.congr (fun i hi => by simp) (fun i hi => rfl), H0.out.2⟩
  case round =>
    obtain ⟨k, rfl, hk, hin⟩ := hrel
    by_cases hlt : k < 256
    · have d1 : (k : Int) < 256 := by omega
      have d2 : (0 : Int) ≤ (k : Int) := by omega
      have d3 : IntKind.u8.wrap (k : Int) = (k : Int) := by rw [IntKind.wrap_u8']; omega
      have d4 : IntKind.i64.wrap ((k : Int) + 1) = (k : Int) + 1 := by rw [IntKind.wrap_i64]; omega
      have c1 := hin.out.1.wordc k hlt
      have f1 := hin.out.1.frozen k
      simp only [Nat.lt_irrefl, if_false] at c1
      have hword := (word_any seed k wr.drew hs hlt).mono fun e w' h => (⟨h.1, h.2.symm⟩ : e = _ ∧ w' = wr.drew)
      obtain ⟨x, hx⟩ : ∃ x, x = wd seed k := ⟨_, rfl⟩
      rw [← hx] at hword
      have HWD := Lib.hid hword
      have HX := Lib.hid hx
      have HC := Lib.hid c1
      have HK := Lib.hid hlt
      clear hword hx hlt
      go_wp2_with fail
      go_still_tail 9, (by kernel_rfl)
      · repeat still_step
        still_call HWD.out
        repeat still_step
        refine wpStill_nil ?_
        change wpList _ _ _ _ _ wr.drew
        go_wp2_with fail
        go_roundw
        case rel =>
          refine ⟨k + 1, by go_num, HK.out, ?_, ?_⟩
          · have h2 := (hin.out.1.still ((Still.refl wr).drew)).setWord k x HK.out
            refine h2.congr (fun i hi => ?_) (fun i hi => rfl)
            by_cases e : i = k
            · subst e; simp [HX.out]
            · by_cases e2 : i < k
              · simp [e, e2, show i < k + 1 by omega]
              · simp [e, e2, show ¬ i < k + 1 by omega]
          · refine ⟨hin.out.2.os, hin.out.2.tape, hin.out.2.output, by have := hin.out.2.size; simpa [World.setCell] using this, fun b hb => ?_⟩
            have e : b ≠ g := by have := HG.out; omega
            exact (Below.heap_setCell _ _ _ _ (fun x => e x)).trans (hin.out.2.block b hb)
        case measure =>
          have := HK.out
          simp [intOf]
          omega
    · obtain rfl : k = 256 := by omega
      rw [show ((256 : Nat) : Int) = 256 from rfl]
      go_wp2_with fail
      go_ret2
      exact ⟨rfl, hin.out.1.congr (fun i hi => by simp [hi]) (fun i hi => rfl), hin.out.2⟩
end Go.Proofs.Ytjihnagoebhinaa
