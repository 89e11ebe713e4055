/- Contracts: Less by the program and by the document; what is found at all. It proves no statement. -/
import Derived.Test.YtlebancjgjcfjaaKeyBox
import Derived.Test.YtlebancjgjcfjaaTbL
import Derived.Test.YtlebancjgjcfjaaQuiet2
namespace Go.Proofs.Ytlebancjgjcfjaa
open Go.RowKit
set_option linter.unusedVariables false
set_option linter.unusedSimpArgs false

set_option maxRecDepth 100000 in
theorem less_any (k k' : List UInt8) (w : World) (hk : k.length = 32) (hk' : k'.length = 32) :
    Calls Try.prog 23 #[.agg (bytesV k).toArray, .agg (bytesV k').toArray] w fun e w' => e = .returned (.bool (ltK k k')) ∧ Still w w' := by
  obtain ⟨wA, ga, kv, KA⟩ := keyBox w k hk
  obtain ⟨wB, gb, kv', KB⟩ := keyBox wA k' hk'
  have RA := Lib.hid (KA.reads wB KB.still)
  have HC := Lib.hid (show Calls Try.prog 38 #[.agg (bytesV k).toArray, .agg (bytesV k').toArray] wB fun e w' => e = .returned (.int .i64 (Lib.compareBytes k k')) ∧ Still wB w' from (compare_any k k' wB hk hk').mono fun e w' ⟨he, q, os, hw⟩ => ⟨he, by rw [hw]; exact ⟨rfl, rfl, rfl, by rw [Sort.size_grow]; exact Nat.le_add_right _ _, fun i hi => Sort.heap_grow_old _ _ hi⟩⟩)
  have E : ltK k k' = decide (Lib.compareBytes k k' < 0) := rfl
  rw [E]
  generalize Lib.compareBytes k k' = z at HC
  have HA := Lib.hid KA
  have HB := Lib.hid KB
  rw [← KA.hkv, ← KB.hkv] at HC
  rw [← KA.hkv, ← KB.hkv]
  clear KA KB hk hk' E
  go_enter Try.func23, Try.ntmps23
  go_upto_region 1 with (first
    | (guard_target =~ wpList _ _ _ (Oper.mk (some 2) _ _ _ _ _ :: _) _ _; go_must (refine wpList_box_val rfl 43 (.tmp 0) rfl (some 2) rfl kv rfl ?_); rw [← HA.out.hwA, ← HA.out.hgk])
    | (guard_target =~ wpList _ _ _ (Oper.mk (some 3) _ _ _ _ _ :: _) _ _; go_must (refine wpList_box_val rfl 43 (.tmp 1) rfl (some 3) rfl kv' rfl ?_); rw [← HB.out.hwA, ← HB.out.hgk]))
  go_wp2_with (first
    | (guard_target =~ wpList _ _ _ (Oper.mk (some 5) _ _ _ _ _ :: _) _ _; go_must (refine wpList_load_mid rfl 43 (.tmp 2) rfl ga 0 rfl (bytesV k) _ RA.out under32 rfl HA.out.size ?_); rw [← HA.out.hkv])
    | (guard_target =~ wpList _ _ _ (Oper.mk (some 6) _ _ _ _ _ :: _) _ _; go_must (refine wpList_load_mid rfl 43 (.tmp 3) rfl gb 0 rfl (bytesV k') _ (HB.out.reads _ (Still.refl _)) under32 rfl HB.out.size ?_); rw [← HB.out.hkv])
    | (go_at_call 38; refine HC.out.mono ?_; rintro e w1 ⟨rfl, s1⟩; have S1 := Lib.hid s1; clear s1))
  go_ret
  exact ⟨rfl, Still.trans HA.out.still (Still.trans HB.out.still S1.out)⟩
theorem cmp_at : ∀ (i : Nat) (a b : List UInt8), i < a.length → i < b.length → a.take i = b.take i → a.getD i 0 ≠ b.getD i 0 → ltK a b = decide ((a.getD i 0).toNat < (b.getD i 0).toNat)
  | 0, x :: a, y :: b, _, _, _, hne => by
    simp only [List.getD_cons_zero] at hne ⊢
    unfold ltK Lib.compareBytes
    by_cases h1 : x < y
    · have : x.toNat < y.toNat := UInt8.lt_iff_toNat_lt.1 h1
      simp [h1, this]
    · have h2 : y < x := UInt8.lt_of_le_of_ne (UInt8.not_lt.1 h1) (Ne.symm hne)
      have : ¬ x.toNat < y.toNat := fun h => h1 (UInt8.lt_iff_toNat_lt.2 h)
      simp [h1, h2, this]
  | i + 1, x :: a, y :: b, ha, hb, ht, hne => by
    simp only [List.take_succ_cons, List.cons.injEq] at ht
    obtain ⟨rfl, ht⟩ := ht
    simp only [List.getD_cons_succ] at hne ⊢
    have ih := cmp_at i a b (by simpa using ha) (by simpa using hb) ht hne
    rw [← ih]
    unfold ltK
    congr 2
    conv => lhs; unfold Lib.compareBytes
    rw [if_neg (UInt8.lt_irrefl x), if_neg (UInt8.lt_irrefl x)]
  | 0, [], _, ha, _, _, _ => by simp at ha
  | 0, _ :: _, [], _, hb, _, _ => by simp at hb
  | _ + 1, [], _, ha, _, _, _ => by simp at ha
  | _ + 1, _ :: _, [], _, hb, _, _ => by simp at hb
end Go.Proofs.Ytlebancjgjcfjaa
