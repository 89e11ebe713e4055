/- Contracts: what a roller answers when it is asked; a new one. It proves no statement. -/
import Derived.Test.YtjihnagoebhinaaRlHas
import Derived.Test.YtjihnagoebhinaaFar
import Derived.Deep.RegionHeld3
import Derived.BigQuiet
import Derived.Deep.QuietTactic
import Derived.Deep.DeepMust
import Derived.Outline
import Derived.BigFrame
import Derived.StillTailTactics
namespace Go.Proofs.Ytjihnagoebhinaa
open Go.RowKit
set_option linter.unusedVariables false
set_option linter.unusedSimpArgs false

theorem works_any {g a k n s : Nat} {f R : Nat → Nat} (w : World) (h : RB w g f R a k n s) (hn : 0 < n) (hm : n ≤ 63) :
    Calls Try.prog 40 #[.pointer (some ⟨g, 0, none⟩)] w fun e w' => e = .returned (.bool true) ∧ w' = w := by
  have cw := h.winc
  have z1 : (0 : Int) < (n : Int) := by omega
  clear h
  go_enter Try.func40, Try.ntmps40
  go_wp2_with fail
  go_ret
  exact ⟨rfl, rfl⟩
set_option maxHeartbeats 800000 in
theorem full_any {g a k n s : Nat} {f R : Nat → Nat} (w : World) (h : RB w g f R a k n s) (hn : 0 < n) (hm : n ≤ 63) (hk : k ≤ n) :
    Calls Try.prog 42 #[.pointer (some ⟨g, 0, none⟩)] w fun e w' => e = .returned (.bool (decide (k = n))) ∧ ∃ m, w' = w.drewN m := by
  have HW := Lib.hid (fun m => works_any (w.drewN m) (h.still (still_drewN (Still.refl w) m)) hn hm)
  have ck := h.keptc
  have cw := h.winc
  have d1 : decide ((k : Int) = (n : Int)) = decide (k = n) := decide_eq_decide.2 (by omega)
  clear h
  go_enter Try.func42, Try.ntmps42
  go_wp2_with fail
  go_quiet ((go_at_call 40; exact Calls.quiet_of_same (HW.out _)))
  go_wp2_with fail
  go_ret
  refine ⟨?_, nq, rfl⟩
  have d2 : ((k : Int) == (n : Int)) = decide (k = n) := by rw [Bool.eq_iff_iff]; simp; omega
  simp only [d2]
  rfl
set_option maxHeartbeats 800000 in
theorem leaving_any {g a k n s : Nat} {f R : Nat → Nat} (w : World) (h : RB w g f R a k n s) (hn : 0 < n) (hm : n ≤ 63) (ha : a < n) (hR : R a < 256) (hf : f (R a) < 4294967296) :
    Calls Try.prog 43 #[.pointer (some ⟨g, 0, none⟩)] w fun e w' => e = .returned (.int .u32 (rotl 32 (f (R a)) (n % 32) : Nat)) ∧ ∃ m, w' = w.drewN m := by
  have c1 := h.atc
  have c2 := h.lastc a (by omega)
  have c3 := h.wordc (R a) hR
  have c4 := h.winc
  obtain ⟨p, hp⟩ : ∃ p, p = R a := ⟨_, rfl⟩
  rw [← hp] at hR hf c2 c3 ⊢
  obtain ⟨x, hx⟩ : ∃ x, x = f p := ⟨_, rfl⟩
  rw [← hx] at hf c3 ⊢
  have HT := Lib.hid (fun m => (turn32_any x (n : Int) (w.drewN m) hf).mono fun e w' h => (⟨h.1, h.2.symm⟩ : e = _ ∧ w' = w.drewN m))
  have e1 : ((n : Int) % 32).toNat = n % 32 := by omega
  rw [e1] at HT
  generalize rotl 32 x (n % 32) = z at HT ⊢
  have z1 : (0 : Int) ≤ (a : Int) := by omega
  have z2 : (a : Int) < 63 := by omega
  have z3 : (0 : Int) ≤ (p : Int) := by omega
  have z4 : (p : Int) < 256 := by omega
  clear h hp hx e1
  go_enter Try.func43, Try.ntmps43
  go_wp2_with fail
  go_quiet ((go_at_call 45; exact Calls.quiet_of_same (HT.out _)))
  go_wp2_with fail
  go_ret
  exact ⟨rfl, nq, rfl⟩
theorem clear_any {g a k n s : Nat} {f R : Nat → Nat} (w : World) (h : RB w g f R a k n s) (hn : 0 < n) (hm : n ≤ 63) :
    Calls Try.prog 38 #[.pointer (some ⟨g, 0, none⟩)] w fun e w' => e = .returned (.tuple #[]) ∧ RB w' g f R 0 0 n 0 ∧ w.grownBy w' (some g) := by
  have HW := Lib.hid (works_any w h hn hm)
  have h3 := ((h.setAt 0).setKept 0).setSum 0
  have g3 := ((grownBy_set w g 319 (.int .i64 ((0 : Nat) : Int))).trans (grownBy_set _ g 320 (.int .i64 ((0 : Nat) : Int)))).trans (grownBy_set _ g 322 (.int .u32 ((0 : Nat) : Int)))
  have f1 := h.frozen 319
  have c1 := h.atc
  have f2 := (h.setAt 0).frozen 320
  have c2 := (h.setAt 0).keptc
  have f3 := ((h.setAt 0).setKept 0).frozen 322
  have c3 := ((h.setAt 0).setKept 0).sumc
  have H3 := Lib.hid (And.intro h3 g3)
  clear h h3 g3
  simp only [Int.cast_ofNat_Int] at c1 c2 c3 f1 f2 f3
  go_enter Try.func38, Try.ntmps38
  go_wp2_with fail
  refine HW.out.mono ?_
  rintro e w1 ⟨rfl, rfl⟩
  go_wp2_with fail
  go_end0
  exact ⟨rfl, H3.out.1, H3.out.2⟩
theorem new_no (seed : Nat) (x : Int) (w : World) (h : ¬ (1 ≤ x ∧ x ≤ 63)) :
    Calls Try.prog 34 #[.int .u32 seed, .int .i64 x] w fun e w' => e = .returned (.tuple #[.pointer none, .int .i64 2]) ∧ w' = w := by
  by_cases h1 : x < 1
  · go_enter Try.func34, Try.ntmps34
    go_wp2_with fail
    go_ret2
    exact ⟨rfl, rfl⟩
  · have h2 : 63 < x := by omega
    go_enter Try.func34, Try.ntmps34
    go_wp2_with fail
    go_ret2
    exact ⟨rfl, rfl⟩
end Go.Proofs.Ytjihnagoebhinaa
