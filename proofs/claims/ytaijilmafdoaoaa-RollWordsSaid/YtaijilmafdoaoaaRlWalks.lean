/- Walks: RollWords, RollApart, RollNobody. It proves no statement. -/
import Derived.Test.YtaijilmafdoaoaaRlLives
namespace Go.Proofs.Ytaijilmafdoaoaa
open Go.RowKit
set_option linter.unusedVariables false
set_option linter.unusedSimpArgs false

set_option maxRecDepth 100000 in
theorem rollWords_walk (seed c : Nat) (a2 : Option Addr) (len2 cap2 : Nat) (z2 : List Int) (w : World) (hs : seed < 4294967296) (hc : c < 256) (h : RowIn .u8 w a2 len2 cap2 z2) :
    Calls Try.prog 3 #[.int .u32 seed, .int .u8 c, .slice a2 len2 cap2] w fun e w' => e = .returned (.bool true) ∧ Still w w' := by
  obtain ⟨n, l, rl, hn, hcut⟩ := cut_row h 150 (by omega)
  have C1 := Lib.hid hcut
  have W1 := Lib.hid (word_any seed c w hs hc)
  have W2 := Lib.hid (rword_any seed c w hs hc)
  have SM := Lib.hid (sum_any seed a2 n cap2 l w _ rl.reads hs (by omega))
  have RS := Lib.hid (rsum_any seed a2 n cap2 l w _ rl.reads hs (by omega))
  have LV := Lib.hid (lives_any w)
  generalize wd seed c = q at *
  generalize sm seed l = r at *
  clear hcut rl h
  go_enter Try.func3, Try.ntmps3
  go_wp2_with fail
  refine C1.out.mono ?_
  rintro e w1 ⟨rfl, rfl⟩
  go_wp2_with fail
  refine W1.out.mono ?_
  rintro e w1 ⟨rfl, rfl⟩
  go_wp2_with fail
  refine W2.out.mono ?_
  rintro e w1 ⟨rfl, rfl⟩
  go_wp2_with fail
  refine SM.out.mono ?_
  rintro e w1 ⟨rfl, rfl⟩
  go_wp2_with fail
  refine RS.out.mono ?_
  rintro e w1 ⟨rfl, rfl⟩
  go_wp2_with fail
  refine LV.out.mono ?_
  rintro e w1 ⟨rfl, s1⟩
  go_wp2_with fail
  go_ret
  exact ⟨rfl, s1⟩
set_option maxRecDepth 100000 in
theorem rollApart_walk (seed a b : Nat) (w : World) (hs : seed < 4294967296) (ha : a < 256) (hb : b < 256) :
    Calls Try.prog 6 #[.int .u32 seed, .int .u8 a, .int .u8 b] w fun e w' => e = .returned (.bool true) ∧ Still w w' := by
  have W1 := Lib.hid (word_any seed a w hs ha)
  have W2 := Lib.hid (word_any seed b w hs hb)
  have LV := Lib.hid (lives_any w)
  have hi : wd seed a = wd seed b → a = b := wd_inj ha hb
  by_cases e : a = b
  · subst e
    clear hi
    generalize wd seed a = p at *
    go_enter Try.func6, Try.ntmps6
    go_wp2_with fail
    refine W1.out.mono ?_
    rintro e w1 ⟨rfl, rfl⟩
    go_wp2_with fail
    refine W2.out.mono ?_
    rintro e w1 ⟨rfl, rfl⟩
    go_wp2_with fail
    refine LV.out.mono ?_
    rintro e w1 ⟨rfl, s1⟩
    go_wp2_with fail
    go_ret
    exact ⟨rfl, s1⟩
  · have hne : ¬ wd seed a = wd seed b := fun x => e (hi x)
    clear hi
    generalize wd seed a = p at *
    generalize wd seed b = q at *
    have d1 : decide (p = q) = false := decide_eq_false hne
    have d2 : decide (a = b) = false := decide_eq_false e
    have d3 : ((p : Int) == (q : Int)) = false := by rw [beq_eq_false_iff_ne]; omega
    have d4 : ((a : Int) == (b : Int)) = false := by rw [beq_eq_false_iff_ne]; omega
    go_enter Try.func6, Try.ntmps6
    go_wp2_with fail
    refine W1.out.mono ?_
    rintro e w1 ⟨rfl, rfl⟩
    go_wp2_with fail
    refine W2.out.mono ?_
    rintro e w1 ⟨rfl, rfl⟩
    go_wp2_with fail
    refine LV.out.mono ?_
    rintro e w1 ⟨rfl, s1⟩
    go_wp2_with fail
    go_ret
    exact ⟨rfl, s1⟩
set_option maxRecDepth 100000 in
set_option maxHeartbeats 1600000 in
theorem rollNobody_walk (c : Nat) (w : World) (hc : c < 256) :
    Calls Try.prog 8 #[.int .u8 c] w fun e w' => e = .returned (.bool true) ∧ Still w w' := by
  obtain ⟨cs, hb, hcs⟩ := built_zero
  obtain ⟨g, hg⟩ : ∃ g, g = w.heap.size := ⟨_, rfl⟩
  obtain ⟨w1, hw1⟩ : ∃ w1, w1 = w.alloc (.cells cs 45) := ⟨_, rfl⟩
  have N1 := Lib.hid (show NoR w1 (some ⟨g, 0, none⟩) from .inr ⟨g, _, _, _, _, _, rfl, cs, by rw [hw1, hg]; exact Blk.new _ _ _, hcs⟩)
  have S1 := Lib.hid (show Still w w1 by rw [hw1]; exact (Still.refl w).alloc (Nat.le_refl _) _)
  have HG := Lib.hid hg
  have HW1 := Lib.hid hw1
  have HB := Lib.hid hb
  have KN := Lib.hid (fun (W : World) => (no_clear (w := W) (.inl rfl)))
  have KZ := Lib.hid (fun (W : World) (h : Still w1 W) => (no_clear (w := W) (N1.out.still h)))
  have PN := Lib.hid (fun (W : World) => (no_put (w := W) c (.inl rfl)))
  have PZ := Lib.hid (fun (W : World) (h : Still w1 W) => (no_put (w := W) c (N1.out.still h)))
  have VN := Lib.hid (fun (W : World) => (no_value (w := W) (.inl rfl)))
  have VZ := Lib.hid (fun (W : World) (h : Still w1 W) => (no_value (w := W) (N1.out.still h)))
  have FN := Lib.hid (fun (W : World) => (no_full (w := W) (.inl rfl)))
  have FZ := Lib.hid (fun (W : World) (h : Still w1 W) => (no_full (w := W) (N1.out.still h)))
  clear hg hw1 hb hcs N1
  go_enter Try.func8, Try.ntmps8
  go_wp2_with ((first | (guard_target =~ wpList _ _ _ (Oper.mk (some 5) _ _ _ _ _ :: _) _ _; go_must (refine wpList_buildTo rfl 45 _ rfl (some 5) rfl cs (Eq.trans (congrArg (Try.prog.built 45) (by kernel_rfl)) HB.out) ?_)) | (guard_target =~ wpList _ _ _ (Oper.mk (some 6) _ _ _ _ _ :: _) _ _; go_must (refine wpList_box_arr rfl 45 _ rfl (some 6) rfl cs rfl ?_; rw [← HW1.out, ← HG.out]))))
  refine (KN.out _).mono ?_
  rintro e w2 ⟨rfl, rfl⟩
  go_wp2_with fail
  refine (KZ.out _ (Still.refl _)).mono ?_
  rintro e w2 ⟨rfl, rfl⟩
  go_wp2_with fail
  refine (PN.out _).mono ?_
  rintro e w2 ⟨rfl, rfl⟩
  go_wp2_with fail
  refine (PZ.out _ (Still.refl _)).mono ?_
  rintro e w2 ⟨rfl, rfl⟩
  go_wp2_with fail
  refine (VN.out _).mono ?_
  rintro e w2 ⟨rfl, rfl⟩
  go_wp2_with fail
  refine (VZ.out _ (Still.refl _)).mono ?_
  rintro e w2 ⟨rfl, rfl⟩
  go_wp2_with fail
  refine (FN.out _).mono ?_
  rintro e w3 ⟨rfl, s3⟩
  have S3 := Lib.hid (drewN_some s3)
  clear s3
  go_wp2_with fail
  refine (FZ.out _ S3.out).mono ?_
  rintro e w4 ⟨rfl, s4⟩
  have S4 := Lib.hid ((S1.out.trans S3.out).trans (drewN_some s4))
  clear s4
  go_wp2_with fail
  refine (lives_any _).mono ?_
  rintro e w5 ⟨rfl, s5⟩
  go_wp2_with fail
  go_ret
  exact ⟨rfl, S4.out.trans s5⟩
end Go.Proofs.Ytaijilmafdoaoaa
