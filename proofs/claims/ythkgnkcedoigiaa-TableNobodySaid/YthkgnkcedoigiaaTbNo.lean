/- Contracts: a table that no call made. It proves no statement. -/
import Derived.Test.YthkgnkcedoigiaaTbPut
namespace Go.Proofs.Ythkgnkcedoigiaa
open Go.RowKit
set_option linter.unusedVariables false
set_option linter.unusedSimpArgs false

/-- No table, or one without slots. -/
def NoT (w : World) (p : Option Addr) : Prop := p = none ∨ ∃ g, p = some ⟨g, 0, none⟩ ∧ g < w.heap.size ∧ w.cell? ⟨g, 0, none⟩ = some (.slice none 0 0)
theorem NoT.still {w w' : World} {p : Option Addr} (h : NoT w p) (s : Still w w') : NoT w' p := by
  rcases h with h | ⟨g, h, hl, hc⟩
  · exact .inl h
  · exact .inr ⟨g, h, Nat.lt_of_lt_of_le hl s.size, (s.cell (p := ⟨g, 0, none⟩) hl).trans hc⟩
theorem works_no {w : World} {p : Option Addr} (h : NoT w p) : Calls Try.prog 40 #[.pointer p] w fun e w' => e = .returned (.bool false) ∧ w = w' := by
  rcases h with rfl | ⟨g, rfl, hl, hc⟩
  · go_enter Try.func40, Try.ntmps40
    go_wp2_with fail
    go_ret
    exact ⟨rfl, rfl⟩
  · go_enter Try.func40, Try.ntmps40
    go_wp2_with fail
    go_ret
    exact ⟨rfl, rfl⟩
theorem len_none {w : World} {p : Option Addr} (h : NoT w p) : Calls Try.prog 22 #[.pointer p] w fun e w' => e = .returned (.int .i64 0) ∧ Still w w' := by
  have WN := Lib.hid (works_no h)
  clear h
  go_enter Try.func22, Try.ntmps22
  go_wp2_with (go_at_call 40; refine WN.out.mono ?_; rintro e w1 ⟨rfl, rfl⟩)
  go_ret
  exact ⟨rfl, Still.refl _⟩
theorem cap_none {w : World} {p : Option Addr} (h : NoT w p) : Calls Try.prog 25 #[.pointer p] w fun e w' => e = .returned (.int .i64 0) ∧ Still w w' := by
  have WN := Lib.hid (works_no h)
  clear h
  go_enter Try.func25, Try.ntmps25
  go_wp2_with (go_at_call 40; refine WN.out.mono ?_; rintro e w1 ⟨rfl, rfl⟩)
  go_ret
  exact ⟨rfl, Still.refl _⟩
theorem dead_none {w : World} {p : Option Addr} (h : NoT w p) : Calls Try.prog 23 #[.pointer p] w fun e w' => e = .returned (.int .i64 0) ∧ Still w w' := by
  have WN := Lib.hid (works_no h)
  clear h
  go_enter Try.func23, Try.ntmps23
  go_wp2_with (go_at_call 40; refine WN.out.mono ?_; rintro e w1 ⟨rfl, rfl⟩)
  go_ret
  exact ⟨rfl, Still.refl _⟩
set_option maxRecDepth 100000 in
theorem find_none {w : World} {p : Option Addr} (h : NoT w p) (k : List UInt8) (hk : k.length = 32) : Calls Try.prog 41 #[.pointer p, .agg (bytesV k).toArray] w fun e w' => e = .returned (.pointer none) ∧ Still w w' := by
  obtain ⟨wA, gk, kv, KB⟩ := keyBox w k hk
  have WN := Lib.hid (works_no (h.still KB.still))
  have HB := Lib.hid KB
  rw [← KB.hkv]
  clear KB h hk
  go_enter Try.func41, Try.ntmps41
  go_upto_region 1 with (guard_target =~ wpList _ _ _ (Oper.mk (some 3) _ _ _ _ _ :: _) _ _; go_must (refine wpList_box_val rfl 32 (.tmp 1) rfl (some 3) rfl kv rfl ?_))
  rw [← HB.out.hwA, ← HB.out.hgk]
  go_wp2_with (go_at_call 40; refine WN.out.mono ?_; rintro e w1 ⟨rfl, rfl⟩)
  go_ret
  exact ⟨rfl, HB.out.still⟩
set_option maxRecDepth 100000 in
theorem get_none {w : World} {p : Option Addr} (h : NoT w p) (k : List UInt8) (hk : k.length = 32) : Calls Try.prog 18 #[.pointer p, .agg (bytesV k).toArray] w fun e w' => e = .returned (.tuple #[.int .i64 0, .bool false]) ∧ Still w w' := by
  obtain ⟨wA, gk, kv, KB⟩ := keyBox w k hk
  have FN := Lib.hid (find_none (h.still KB.still) k hk)
  have HB := Lib.hid KB
  rw [← KB.hkv] at FN ⊢
  clear KB h hk
  go_enter Try.func18, Try.ntmps18
  go_upto_region 1 with (guard_target =~ wpList _ _ _ (Oper.mk (some 3) _ _ _ _ _ :: _) _ _; go_must (refine wpList_box_val rfl 32 (.tmp 1) rfl (some 3) rfl kv rfl ?_))
  rw [← HB.out.hwA, ← HB.out.hgk]
  go_wp2_with (first
    | (guard_target =~ wpList _ _ _ (Oper.mk (some 9) _ _ _ _ _ :: _) _ _; go_must (refine wpList_load_mid rfl 32 (.tmp 3) rfl gk 0 rfl (bytesV k) _ (HB.out.reads _ (Still.refl _)) under32 rfl HB.out.size ?_); rw [← HB.out.hkv])
    | (go_at_call 41; refine FN.out.mono ?_; rintro e w1 ⟨rfl, s1⟩; have S1 := Lib.hid s1; clear s1))
  go_ret2
  exact ⟨rfl, Still.trans HB.out.still S1.out⟩
set_option maxRecDepth 100000 in
theorem del_none {w : World} {p : Option Addr} (h : NoT w p) (k : List UInt8) (hk : k.length = 32) : Calls Try.prog 16 #[.pointer p, .agg (bytesV k).toArray] w fun e w' => e = .returned (.bool false) ∧ Still w w' := by
  obtain ⟨wA, gk, kv, KB⟩ := keyBox w k hk
  have FN := Lib.hid (find_none (h.still KB.still) k hk)
  have HB := Lib.hid KB
  rw [← KB.hkv] at FN ⊢
  clear KB h hk
  go_enter Try.func16, Try.ntmps16
  go_upto_region 1 with (guard_target =~ wpList _ _ _ (Oper.mk (some 3) _ _ _ _ _ :: _) _ _; go_must (refine wpList_box_val rfl 32 (.tmp 1) rfl (some 3) rfl kv rfl ?_))
  rw [← HB.out.hwA, ← HB.out.hgk]
  go_wp2_with (first
    | (guard_target =~ wpList _ _ _ (Oper.mk (some 8) _ _ _ _ _ :: _) _ _; go_must (refine wpList_load_mid rfl 32 (.tmp 3) rfl gk 0 rfl (bytesV k) _ (HB.out.reads _ (Still.refl _)) under32 rfl HB.out.size ?_); rw [← HB.out.hkv])
    | (go_at_call 41; refine FN.out.mono ?_; rintro e w1 ⟨rfl, s1⟩; have S1 := Lib.hid s1; clear s1))
  go_ret
  exact ⟨rfl, Still.trans HB.out.still S1.out⟩
set_option maxRecDepth 100000 in
theorem put_none {w : World} {p : Option Addr} (h : NoT w p) (k : List UInt8) (x : Int) (hk : k.length = 32) : Calls Try.prog 14 #[.pointer p, .agg (bytesV k).toArray, .int .i64 x] w fun e w' => e = .returned (.tuple #[]) ∧ Still w w' := by
  obtain ⟨wA, gk, kv, KB⟩ := keyBox w k hk
  have WN := Lib.hid (works_no (h.still KB.still))
  have HB := Lib.hid KB
  rw [← KB.hkv]
  clear KB h hk
  go_enter Try.func14, Try.ntmps14
  go_upto_region 1 with (guard_target =~ wpList _ _ _ (Oper.mk (some 4) _ _ _ _ _ :: _) _ _; go_must (refine wpList_box_val rfl 32 (.tmp 1) rfl (some 4) rfl kv rfl ?_))
  rw [← HB.out.hwA, ← HB.out.hgk]
  go_wp2_with (go_at_call 40; refine WN.out.mono ?_; rintro e w1 ⟨rfl, rfl⟩)
  (try simp only [Exit.inBlock, Exit.then]); refine bodyPost_ret (results_none rfl _ _ _) rfl ?_
  exact ⟨rfl, HB.out.still⟩
set_option maxRecDepth 100000 in
theorem steps_none {w : World} {p : Option Addr} (h : NoT w p) (k : List UInt8) (hk : k.length = 32) : Calls Try.prog 24 #[.pointer p, .agg (bytesV k).toArray] w fun e w' => e = .returned (.int .i64 0) ∧ Still w w' := by
  obtain ⟨wA, gk, kv, KB⟩ := keyBox w k hk
  have WN := Lib.hid (works_no (h.still KB.still))
  have HB := Lib.hid KB
  rw [← KB.hkv]
  clear KB h hk
  go_enter Try.func24, Try.ntmps24
  go_upto_region 1 with (guard_target =~ wpList _ _ _ (Oper.mk (some 3) _ _ _ _ _ :: _) _ _; go_must (refine wpList_box_val rfl 32 (.tmp 1) rfl (some 3) rfl kv rfl ?_))
  rw [← HB.out.hwA, ← HB.out.hgk]
  go_wp2_with (go_at_call 40; refine WN.out.mono ?_; rintro e w1 ⟨rfl, rfl⟩)
  go_ret
  exact ⟨rfl, HB.out.still⟩
theorem rising_none {w : World} {p : Option Addr} (h : NoT w p) : Calls Try.prog 48 #[.pointer p] w fun e w' => e = .returned (.slice none 0 0) ∧ Still w w' := by
  have s := (Still.refl w).alloc (Nat.le_refl _) (.cells #[.pointer p] 24)
  have WN := Lib.hid (works_no (h.still s))
  have S := Lib.hid s
  clear s h
  go_enter Try.func48, Try.ntmps48
  go_wp2_with (go_at_call 40; refine WN.out.mono ?_; rintro e w1 ⟨rfl, rfl⟩)
  go_ret
  exact ⟨rfl, S.out⟩
theorem keys_none {w : World} {p : Option Addr} (h : NoT w p) : Calls Try.prog 29 #[.pointer p] w fun e w' => e = .returned (.slice none 0 0) ∧ Still w w' := by
  have RN := Lib.hid (rising_none h)
  clear h
  go_enter Try.func29, Try.ntmps29
  go_wp2_with (go_at_call 48; refine RN.out.mono ?_; rintro e w1 ⟨rfl, s1⟩; have S1 := Lib.hid s1; clear s1)
  refine wp_loop_rounds 1 ?_
  rw [rounds_succ]
  go_wp2_with fail
  go_ret
  exact ⟨rfl, S1.out⟩
theorem copy_none {w : World} {p : Option Addr} (h : NoT w p) : Calls Try.prog 27 #[.pointer p] w fun e w' => e = .returned (.pointer none) ∧ Still w w' := by
  have WN := Lib.hid (works_no h)
  clear h
  go_enter Try.func27, Try.ntmps27
  go_wp2_with (go_at_call 40; refine WN.out.mono ?_; rintro e w1 ⟨rfl, rfl⟩)
  go_ret
  exact ⟨rfl, Still.refl _⟩
end Go.Proofs.Ythkgnkcedoigiaa
