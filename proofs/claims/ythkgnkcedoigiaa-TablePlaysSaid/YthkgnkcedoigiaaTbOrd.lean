/- Contracts: Less by the program and by the document; what is found at all. It proves no statement. -/
import Derived.Test.YthkgnkcedoigiaaTbPut
namespace Go.Proofs.Ythkgnkcedoigiaa
open Go.RowKit
set_option linter.unusedVariables false
set_option linter.unusedSimpArgs false

set_option maxRecDepth 100000 in
theorem less_any (k k' : List UInt8) (w : World) (hk : k.length = 32) (hk' : k'.length = 32) :
    Calls Try.prog 38 #[.agg (bytesV k).toArray, .agg (bytesV k').toArray] w fun e w' => e = .returned (.bool (ltK k k')) ∧ Still w w' := by
  obtain ⟨wA, ga, kv, KA⟩ := keyBox w k hk
  obtain ⟨wB, gb, kv', KB⟩ := keyBox wA k' hk'
  have RA := Lib.hid (KA.reads wB KB.still)
  have HC := Lib.hid (show Calls Try.prog 57 #[.agg (bytesV k).toArray, .agg (bytesV k').toArray] wB fun e w' => e = .returned (.int .i64 (Lib.compareBytes k k')) ∧ Still wB w' from (compare_any k k' wB hk hk').mono fun e w' ⟨he, q, os, hw⟩ => ⟨he, by rw [hw]; exact ⟨rfl, rfl, rfl, by rw [Sort.size_grow]; exact Nat.le_add_right _ _, fun i hi => Sort.heap_grow_old _ _ hi⟩⟩)
  have E : ltK k k' = decide (Lib.compareBytes k k' < 0) := rfl
  rw [E]
  generalize Lib.compareBytes k k' = z at HC
  have HA := Lib.hid KA
  have HB := Lib.hid KB
  rw [← KA.hkv, ← KB.hkv] at HC
  rw [← KA.hkv, ← KB.hkv]
  clear KA KB hk hk' E
  go_enter Try.func38, Try.ntmps38
  go_upto_region 1 with (first
    | (guard_target =~ wpList _ _ _ (Oper.mk (some 2) _ _ _ _ _ :: _) _ _; go_must (refine wpList_box_val rfl 32 (.tmp 0) rfl (some 2) rfl kv rfl ?_); rw [← HA.out.hwA, ← HA.out.hgk])
    | (guard_target =~ wpList _ _ _ (Oper.mk (some 3) _ _ _ _ _ :: _) _ _; go_must (refine wpList_box_val rfl 32 (.tmp 1) rfl (some 3) rfl kv' rfl ?_); rw [← HB.out.hwA, ← HB.out.hgk]))
  go_wp2_with (first
    | (guard_target =~ wpList _ _ _ (Oper.mk (some 5) _ _ _ _ _ :: _) _ _; go_must (refine wpList_load_mid rfl 32 (.tmp 2) rfl ga 0 rfl (bytesV k) _ RA.out under32 rfl HA.out.size ?_); rw [← HA.out.hkv])
    | (guard_target =~ wpList _ _ _ (Oper.mk (some 6) _ _ _ _ _ :: _) _ _; go_must (refine wpList_load_mid rfl 32 (.tmp 3) rfl gb 0 rfl (bytesV k') _ (HB.out.reads _ (Still.refl _)) under32 rfl HB.out.size ?_); rw [← HB.out.hkv])
    | (go_at_call 57; refine HC.out.mono ?_; rintro e w1 ⟨rfl, s1⟩; have S1 := Lib.hid s1; clear s1))
  go_ret
  exact ⟨rfl, Still.trans HA.out.still (Still.trans HB.out.still S1.out)⟩
theorem cmp_at : ∀ (i : Nat) (a b : List UInt8), i < a.length → i < b.length → a.take i = b.take i → a.getD i 0 ≠ b.getD i 0 → ltK a b = decide ((a.getD i 0).toNat < (b.getD i 0).toNat)
  | 0, x :: a, y :: b, _, _, _, hne => by
    simp only [List.getD_cons_zero] at hne ⊢
    unfold ltK Lib.compareBytes
    by_cases h1 : x < y
    · have : x.toNat < y.toNat := UInt8.lt_iff_toNat_lt.1 h1
      simp [h1, this]
    · have h2 : y < x := UInt8.lt_of_le_of_ne (UInt8.not_lt.1 h1) (Ne.symm hne)
      have : ¬ x.toNat < y.toNat := fun h => h1 (UInt8.lt_iff_toNat_lt.2 h)
      simp [h1, h2, this]
  | i + 1, x :: a, y :: b, ha, hb, ht, hne => by
    simp only [List.take_succ_cons, List.cons.injEq] at ht
    obtain ⟨rfl, ht⟩ := ht
    simp only [List.getD_cons_succ] at hne ⊢
    have ih := cmp_at i a b (by simpa using ha) (by simpa using hb) ht hne
    rw [← ih]
    unfold ltK
    congr 2
    conv => lhs; unfold Lib.compareBytes
    rw [if_neg (UInt8.lt_irrefl x), if_neg (UInt8.lt_irrefl x)]
  | 0, [], _, ha, _, _, _ => by simp at ha
  | 0, _ :: _, [], _, hb, _, _ => by simp at hb
  | _ + 1, [], _, ha, _, _, _ => by simp at ha
  | _ + 1, _ :: _, [], _, hb, _, _ => by simp at hb
set_option maxRecDepth 100000 in
set_option maxHeartbeats 1600000 in
theorem rless_any (k k' : List UInt8) (w : World) (hk : k.length = 32) (hk' : k'.length = 32) :
    Calls Try.prog 39 #[.agg (bytesV k).toArray, .agg (bytesV k').toArray] w fun e w' => e = .returned (.bool (ltK k k')) ∧ Still w w' := by
  obtain ⟨wA, ga, kv, KA⟩ := keyBox w k hk
  obtain ⟨wB, gb, kv', KB⟩ := keyBox wA k' hk'
  have CA := Lib.hid (fun W (s : Still wB W) i (hi : i < 32) => show W.cell? ⟨ga, i, none⟩ = some (.int .u8 ((k.getD i 0).toNat : Int)) from by
    have := KA.reads W (Still.trans KB.still s) i _ (bytesV_get k i (by omega))
    rwa [Nat.zero_add] at this)
  have CB := Lib.hid (fun W (s : Still wB W) i (hi : i < 32) => show W.cell? ⟨gb, i, none⟩ = some (.int .u8 ((k'.getD i 0).toNat : Int)) from by
    have := KB.reads W s i _ (bytesV_get k' i (by omega))
    rwa [Nat.zero_add] at this)
  have HK := Lib.hid hk
  have HK' := Lib.hid hk'
  have HA := Lib.hid KA
  have HB := Lib.hid KB
  rw [← KA.hkv, ← KB.hkv]
  clear KA KB hk hk'
  go_enter Try.func39, Try.ntmps39
  go_upto_region 1 with (first
    | (guard_target =~ wpList _ _ _ (Oper.mk (some 2) _ _ _ _ _ :: _) _ _; go_must (refine wpList_box_val rfl 32 (.tmp 0) rfl (some 2) rfl kv rfl ?_); rw [← HA.out.hwA, ← HA.out.hgk])
    | (guard_target =~ wpList _ _ _ (Oper.mk (some 3) _ _ _ _ _ :: _) _ _; go_must (refine wpList_box_val rfl 32 (.tmp 1) rfl (some 3) rfl kv' rfl ?_); rw [← HB.out.hwA, ← HB.out.hgk]))
  go_wp2_with fail
  go_loopw [5] (fun iv wr => ∃ i : Nat, i ≤ 32 ∧ iv = .int .i64 i ∧ Hid (k.take i = k'.take i) ∧ Hid (Still wB wr)) (fun iv _ => 32 - (intOf iv).toNat)
  case atStart => exact ⟨0, by omega, rfl, Lib.hid rfl, Lib.hid (Still.refl _)⟩
  case round =>
    obtain ⟨i, hi, rfl, HT, SW⟩ := hrel
    by_cases hlt : i < 32
    · have d1 : (i : Int) < 32 := by omega
      have ca := fun n => CA.out (wr.drewN n) (still_drewN SW.out n) i hlt
      have cb := fun n => CB.out (wr.drewN n) (still_drewN SW.out n) i hlt
      by_cases he : (k.getD i 0) = (k'.getD i 0)
      · have HT2 := Lib.hid (show k.take (i + 1) = k'.take (i + 1) from by
          rw [List.take_add_one, List.take_add_one, HT.out]
          congr 1
          have h1 := HK.out
          have h2 := HK'.out
          simp only [List.getD, List.getElem?_eq_getElem (show i < k.length by omega), List.getElem?_eq_getElem (show i < k'.length by omega), Option.getD_some] at he ⊢
          rw [he])
        rw [he] at ca
        obtain ⟨x, hx⟩ : ∃ x, x = (k'.getD i 0).toNat := ⟨_, rfl⟩
        rw [← hx] at ca cb
        have ca0 := ca 0
        have cb0 := cb 0
        clear hx he hlt
        go_upto_region 4 with fail
        go_quiet (fail)
        have SQ := Lib.hid (still_drewN SW.out nq)
        go_wp2_with fail
        go_roundw
        case rel => exact ⟨i + 1, by omega, by go_num, HT2, SQ⟩
        case measure => simp [intOf]; omega
      · have LT := Lib.hid (cmp_at i k k' (by have := HK.out; omega) (by have := HK'.out; omega) HT.out he)
        have hne : ¬ (k.getD i 0).toNat = (k'.getD i 0).toNat := fun e => he (UInt8.toNat_inj.1 e)
        obtain ⟨x, hx⟩ : ∃ x, x = (k.getD i 0).toNat := ⟨_, rfl⟩
        obtain ⟨y, hy⟩ : ∃ y, y = (k'.getD i 0).toNat := ⟨_, rfl⟩
        rw [← hx] at ca LT hne
        rw [← hy] at cb LT hne
        have bn : ((x : Int) != (y : Int)) = true := by simp; omega
        have HX := Lib.hid hx
        have HY := Lib.hid hy
        have HLT := Lib.hid hlt
        clear hx hy he hlt
        go_upto_region 4 with fail
        go_quiet (fail)
        have SQ := Lib.hid (still_drewN SW.out nq)
        generalize wr.drewN nq = wq at SQ ⊢
        have ca1 := fun n => CA.out (wq.drewN n) (still_drewN SQ.out n) i HLT.out
        have cb1 := fun n => CB.out (wq.drewN n) (still_drewN SQ.out n) i HLT.out
        rw [← HX.out] at ca1
        rw [← HY.out] at cb1
        clear ca cb
        go_upto_region 5 with fail
        go_quiet (fail)
        have SR := Lib.hid (still_drewN SQ.out nq)
        go_wp2_with fail
        go_ret
        exact ⟨by rw [LT.out]; first | rfl | simp, Still.trans HA.out.still (Still.trans HB.out.still SR.out)⟩
    · have i32 : i = 32 := by omega
      subst i32
      have E := Lib.hid (show ltK k k' = false from by
        have h := HT.out
        rw [List.take_of_length_le (by have := HK.out; omega), List.take_of_length_le (by have := HK'.out; omega)] at h
        rw [h, ltK_irrefl])
      clear HT
      go_wp2_with fail
      go_ret
      exact ⟨by rw [E.out]; rfl, Still.trans HA.out.still (Still.trans HB.out.still SW.out)⟩
end Go.Proofs.Ythkgnkcedoigiaa
