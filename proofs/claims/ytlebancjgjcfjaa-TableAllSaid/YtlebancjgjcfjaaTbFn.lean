/- Contracts: a table's home, its searches. It proves no statement. -/
import Derived.Test.YtlebancjgjcfjaaTbCmp
import Derived.Test.YtlebancjgjcfjaaQuiet
import Derived.Laws.BitsAllLaws
import Derived.Laws.BitsLemmas
namespace Go.Proofs.Ytlebancjgjcfjaa
open Go.RowKit
set_option linter.unusedVariables false
set_option linter.unusedSimpArgs false

theorem works_yes {T : TypeId} {m : Nat} {w : World} {g b c : Nat} {S : List Sl} (h : TB T m w g b c S) :
    Calls Try.prog 24 #[.pointer (some ⟨g, 0, none⟩)] w fun e w' => e = .returned (.bool true) ∧ w = w' := by
  have k0 := h.c0
  have h8 := h.len8
  have d1 : 0 < S.length := by omega
  obtain ⟨n, hn⟩ : ∃ n, n = S.length := ⟨_, rfl⟩
  rw [← hn] at k0 d1
  clear h h8 hn
  go_enter Try.func24, Try.ntmps24
  go_wp2_with fail
  go_ret
  exact ⟨rfl, rfl⟩
theorem or_shift (x y s : Nat) (hx : x < 2 ^ s) (hy : y < 256) (hs : s ≤ 24) : bits .or .u64 (x : Int) ((y * 2 ^ s : Nat) : Int) = ((x + y * 2 ^ s : Nat) : Int) := by
  have hp : 2 ^ s ≤ 2 ^ 24 := Nat.pow_le_pow_right (by omega) hs
  have h1 : y * 2 ^ s < 256 * 2 ^ s := Nat.mul_lt_mul_of_pos_right hy (Nat.two_pow_pos s)
  rw [u64_or_nat _ _ (by omega) (by omega)]
  congr 1
  rw [Nat.or_comm, Nat.mul_comm, ← Nat.two_pow_add_eq_or_of_lt hx]
  omega
set_option maxRecDepth 100000 in
set_option maxHeartbeats 1600000 in
theorem home_any {T : TypeId} {m : Nat} {w : World} {g b c : Nat} {S : List Sl} (h : TB T m w g b c S) (k : List UInt8) (hk : k.length = 32) (hS : S.length ≤ 1099511627776) :
    Calls Try.prog 48 #[.pointer (some ⟨g, 0, none⟩), .agg (bytesV k).toArray] w fun e w' => e = .returned (.int .i64 (pos k S.length 0 : Nat)) ∧ Still w w' := by
  rw [pos_zero]
  obtain ⟨wA, hwA⟩ : ∃ wA, wA = w.alloc (.cells (bytesV k).toArray 43) := ⟨_, rfl⟩
  obtain ⟨gk, hg⟩ : ∃ gk, gk = w.heap.size := ⟨_, rfl⟩
  have SA : Still w wA := by rw [hwA]; exact (Still.refl w).alloc (Nat.le_refl _) _
  have r1 := key_reads w k hk
  rw [← hwA, ← hg] at r1
  have c0 := r1.cellAt 0 (by omega)
  have c1 := r1.cellAt 1 (by omega)
  have c2 := r1.cellAt 2 (by omega)
  have c3 := r1.cellAt 3 (by omega)
  rw [Nat.zero_add] at c0 c1 c2 c3
  have k0 := (h.still SA).c0
  have h8 := h.len8
  have E : homeN k = (k.getD 0 0).toNat + 256 * (k.getD 1 0).toNat + 65536 * (k.getD 2 0).toNat + 16777216 * (k.getD 3 0).toNat := rfl
  have l0 := (k.getD 0 0).toNat_lt
  have l1 := (k.getD 1 0).toNat_lt
  have l2 := (k.getD 2 0).toNat_lt
  have l3 := (k.getD 3 0).toNat_lt
  obtain ⟨x0, e0⟩ : ∃ x, x = (k.getD 0 0).toNat := ⟨_, rfl⟩
  obtain ⟨x1, e1⟩ : ∃ x, x = (k.getD 1 0).toNat := ⟨_, rfl⟩
  obtain ⟨x2, e2⟩ : ∃ x, x = (k.getD 2 0).toNat := ⟨_, rfl⟩
  obtain ⟨x3, e3⟩ : ∃ x, x = (k.getD 3 0).toNat := ⟨_, rfl⟩
  rw [← e0] at c0 E l0
  rw [← e1] at c1 E l1
  rw [← e2] at c2 E l2
  rw [← e3] at c3 E l3
  clear e0 e1 e2 e3
  have o1 := or_shift x0 x1 8 (by omega) l1 (by omega)
  have o2 := or_shift (x0 + x1 * 2 ^ 8) x2 16 (by omega) l2 (by omega)
  have o3 := or_shift (x0 + x1 * 2 ^ 8 + x2 * 2 ^ 16) x3 24 (by omega) l3 (by omega)
  obtain ⟨n, hn⟩ : ∃ n, n = S.length := ⟨_, rfl⟩
  rw [← hn] at k0 h8 hS ⊢
  obtain ⟨y1, f1⟩ : ∃ y, y = x0 + x1 * 2 ^ 8 := ⟨_, rfl⟩
  rw [← f1] at o1 o2 o3
  obtain ⟨y2, f2⟩ : ∃ y, y = y1 + x2 * 2 ^ 16 := ⟨_, rfl⟩
  rw [← f2] at o2 o3
  obtain ⟨y3, f3⟩ : ∃ y, y = y2 + x3 * 2 ^ 24 := ⟨_, rfl⟩
  rw [← f3] at o3
  have E3 : homeN k = y3 := by rw [E, f3, f2, f1]; omega
  rw [E3]
  have b3 : y3 < 4294967296 := by omega
  obtain ⟨z1, g1⟩ : ∃ z : Int, z = (x1 : Int) * 256 := ⟨_, rfl⟩
  obtain ⟨z2, g2⟩ : ∃ z : Int, z = (x2 : Int) * 65536 := ⟨_, rfl⟩
  obtain ⟨z3, g3⟩ : ∃ z : Int, z = (x3 : Int) * 16777216 := ⟨_, rfl⟩
  rw [show ((x1 * 2 ^ 8 : Nat) : Int) = (x1 : Int) * 256 by simp] at o1
  rw [show ((x2 * 2 ^ 16 : Nat) : Int) = (x2 : Int) * 65536 by simp] at o2
  rw [show ((x3 * 2 ^ 24 : Nat) : Int) = (x3 : Int) * 16777216 by simp] at o3
  have w1 : IntKind.u64.wrap ((x1 : Int) * 256) = (x1 : Int) * 256 := by rw [IntKind.wrap_u64]; omega
  have w2 : IntKind.u64.wrap ((x2 : Int) * 65536) = (x2 : Int) * 65536 := by rw [IntKind.wrap_u64]; omega
  have w3 : IntKind.u64.wrap ((x3 : Int) * 16777216) = (x3 : Int) * 16777216 := by rw [IntKind.wrap_u64]; omega
  have HW := Lib.hid (show wrap64 ((y3 : Int) % (n : Int)) = ((y3 % n : Nat) : Int) from by
    have hlt : y3 % n < n := Nat.mod_lt _ (by omega)
    rw [← Int.natCast_emod]
    unfold wrap64
    omega)
  have d1 : (0 : Int) < (n : Int) := by omega
  have d1' : ¬ (n : Int) = 0 := by omega
  have d1'' : ¬ n = 0 := by omega
  have d2 : (n : Int) ≤ 1099511627776 := by omega
  have d3 : (y3 : Int) < 4294967296 := by omega
  have HWA := Lib.hid hwA
  have HG := Lib.hid hg
  have HSA := Lib.hid SA
  obtain ⟨kv, hkv⟩ : ∃ kv, kv = (bytesV k).toArray := ⟨_, rfl⟩
  rw [← hkv] at HWA ⊢
  clear hwA hg SA r1 h hkv hk E E3 f1 f2 f3 hn g1 g2 g3 h8 hS b3
  go_enter Try.func48, Try.ntmps48
  go_upto_region 1 with (guard_target =~ wpList _ _ _ (Oper.mk (some 3) _ _ _ _ _ :: _) _ _; go_must (refine wpList_box_val rfl 43 (.tmp 1) rfl (some 3) rfl kv rfl ?_))
  rw [← HWA.out, ← HG.out]
  go_wp2_with fail
  go_ret
  refine ⟨?_, HSA.out⟩
  show Ending.returned (.int .i64 (wrap64 ((y3 : Int) % (n : Int)))) = _
  rw [HW.out]
set_option maxRecDepth 100000 in
set_option maxHeartbeats 1600000 in
theorem ends_any {m : Nat} {w : World} {b i o : Nat} {S : List Sl} {s : Sl} (h : SlB w b m S) (hi : S[i]? = some s) (ho : o = i * (33 + m)) (hs : SlOK m s) (k : List UInt8) (hk : k.length = 32) :
    Calls Try.prog 49 #[.pointer (some ⟨b, o, none⟩), .agg (bytesV k).toArray] w fun e w' => e = .returned (.bool (s.ends k)) ∧ Still w w' := by
  obtain ⟨wA, hwA⟩ : ∃ wA, wA = w.alloc (.cells (bytesV k).toArray 43) := ⟨_, rfl⟩
  obtain ⟨gk, hg⟩ : ∃ gk, gk = w.heap.size := ⟨_, rfl⟩
  have SA : Still w wA := by rw [hwA]; exact (Still.refl w).alloc (Nat.le_refl _) _
  have r1 := box_key w k
  rw [← hwA, ← hg] at r1
  have hA := h.still SA
  have k0 := hA.st hi
  have kk := hA.key hi
  rw [← ho] at k0 kk
  have LB := Lib.hid (fun W (hW : ∃ n, W = wA.drewN n) => show W.rangeAt gk 0 (bytesV k) from by obtain ⟨n, rfl⟩ := hW; exact r1)
  have LK := Lib.hid (fun W (hW : ∃ n, W = wA.drewN n) => show W.rangeAt b (o + 1) (bytesV s.key) from by obtain ⟨n, rfl⟩ := hW; exact kk)
  have H32 := Lib.hid (show (Try.prog.info? 43).map (·.size) = some (bytesV s.key).length ∧ (Try.prog.info? 43).map (·.size) = some (bytesV k).length from ⟨by rw [size32, bytesV_length, hs.1], by rw [size32, bytesV_length, hk]⟩)
  have EQ := Lib.hid (fun W => eql_ids W s.key k hs.1 hk)
  have HWA := Lib.hid hwA
  have HG := Lib.hid hg
  have HSA := Lib.hid (fun n => still_drewN SA n)
  obtain ⟨kv, hkv⟩ : ∃ kv, kv = (bytesV k).toArray := ⟨_, rfl⟩
  rw [← hkv] at HWA EQ ⊢
  cases s with
  | empty =>
    simp only [Sl.st, Sl.ends] at k0 ⊢
    clear hwA hg SA r1 h hkv hA kk hs hi ho hk LB LK EQ H32
    go_enter Try.func49, Try.ntmps49
    go_upto_region 1 with (guard_target =~ wpList _ _ _ (Oper.mk (some 3) _ _ _ _ _ :: _) _ _; go_must (refine wpList_box_val rfl 43 (.tmp 1) rfl (some 3) rfl kv rfl ?_))
    rw [← HWA.out, ← HG.out]
    go_quiet (fail)
    go_wp2_with fail
    go_ret
    exact ⟨rfl, HSA.out _⟩
  | dead =>
    simp only [Sl.st, Sl.ends] at k0 ⊢
    clear hwA hg SA r1 h hkv hA kk hs hi ho hk LB LK EQ H32
    go_enter Try.func49, Try.ntmps49
    go_upto_region 1 with (guard_target =~ wpList _ _ _ (Oper.mk (some 3) _ _ _ _ _ :: _) _ _; go_must (refine wpList_box_val rfl 43 (.tmp 1) rfl (some 3) rfl kv rfl ?_))
    rw [← HWA.out, ← HG.out]
    go_quiet (fail)
    go_wp2_with fail
    go_ret
    exact ⟨rfl, HSA.out _⟩
  | full k' v =>
    simp only [Sl.st, Sl.ends, Sl.key] at k0 LK EQ ⊢
    obtain ⟨kq, hkq⟩ : ∃ kq, kq = (bytesV k').toArray := ⟨_, rfl⟩
    rw [← hkq] at EQ
    have KQ := Lib.hid hkq
    have KV := Lib.hid hkv
    have eq := EQ.out
    clear hwA hg SA r1 h hkv hA kk hs hi ho hk EQ hkq
    go_enter Try.func49, Try.ntmps49
    go_upto_region 1 with (guard_target =~ wpList _ _ _ (Oper.mk (some 3) _ _ _ _ _ :: _) _ _; go_must (refine wpList_box_val rfl 43 (.tmp 1) rfl (some 3) rfl kv rfl ?_))
    rw [← HWA.out, ← HG.out]
    refine wp_region_quiet_lit (by kernel_rfl) (by kernel_rfl) ?_
    repeat (first
      | (guard_target =~ wpQuiet _ _ _ _ (Oper.mk (some 20) _ _ _ _ _ :: _) _; go_must (refine quiet_load_mid (by kernel_rfl) 43 (.tmp 19) rfl b (o + 1) (by kernel_rfl) (bytesV k') _ LK.out under32 rfl H32.out.1 ?_); rw [← KQ.out])
      | (guard_target =~ wpQuiet _ _ _ _ (Oper.mk (some 21) _ _ _ _ _ :: _) _; go_must (refine quiet_load_mid (by kernel_rfl) 43 (.tmp 3) rfl gk 0 (by kernel_rfl) (bytesV k) _ LB.out under32 rfl H32.out.2 ?_); rw [← KV.out])
      | quiet_step (fail))
    refine wpQuiet_nil ?_
    intro _ hw'
    obtain ⟨nq, hw''⟩ := hw'
    subst hw''
    go_wp2_with fail
    go_ret
    exact ⟨rfl, HSA.out _⟩
set_option maxRecDepth 100000 in
set_option maxHeartbeats 3200000 in
theorem search_any {T : TypeId} {w : World} {g b c : Nat} {S : List Sl} (h : TB T 1 w g b c S) (k : List UInt8) (hk : k.length = 32) (hS : S.length ≤ 1099511627776) (j : Nat) (hj : Stop S k j) :
    Calls Try.prog 41 #[.pointer (some ⟨g, 0, none⟩), .agg (bytesV k).toArray] w fun e w' => e = .returned (.tuple #[.int .i64 (pos k S.length j : Nat), .int .i64 (j + 1 : Nat)]) ∧ Still w w' := by
  obtain ⟨wA, hwA⟩ : ∃ wA, wA = w.alloc (.cells (bytesV k).toArray 43) := ⟨_, rfl⟩
  obtain ⟨gk, hg⟩ : ∃ gk, gk = w.heap.size := ⟨_, rfl⟩
  have SA : Still w wA := by rw [hwA]; exact (Still.refl w).alloc (Nat.le_refl _) _
  have r1 := box_key w k
  rw [← hwA, ← hg] at r1
  have hA := h.still SA
  have h8 := h.len8
  have lt := hj.lt
  have HM := Lib.hid (fun W (s : Still wA W) => home_any (hA.still s) k hk hS)
  have ED := Lib.hid (fun W (s : Still wA W) (i : Nat) (hi : i < S.length) => ends_any (o := i * 34) (hA.still s).row (slot_eq hi) rfl (h.inv.slOK (slot_eq hi)) k hk)
  have K0 := Lib.hid (fun W (s : Still wA W) => (hA.still s).c0)
  have LB := Lib.hid (fun W (s : Still wA W) => show W.rangeAt gk 0 (bytesV k) from fun j u hj => (s.cell (p := ⟨gk, 0 + j, none⟩) (by rw [hwA]; simp [hg])).trans (r1 j u hj))
  have H32 := Lib.hid (show (Try.prog.info? 43).map (·.size) = some (bytesV k).length from by rw [size32, bytesV_length, hk])
  have HJ := Lib.hid hj
  have HWA := Lib.hid hwA
  have HG := Lib.hid hg
  have HSA := Lib.hid SA
  obtain ⟨kv, hkv⟩ : ∃ kv, kv = (bytesV k).toArray := ⟨_, rfl⟩
  rw [← hkv] at HWA HM ED ⊢
  have KV := Lib.hid hkv
  obtain ⟨n, hn⟩ : ∃ n, n = S.length := ⟨_, rfl⟩
  rw [← hn] at h8 lt hS HM ED K0 ⊢
  have PZ := Lib.hid (pos_zero k n)
  have PN := Lib.hid (pos_next k n)
  have PL := Lib.hid (fun i => pos_lt k (n := n) i (by omega))
  have NO := Lib.hid (show ∀ i, i < j → (slot S (pos k n i)).ends k = false from by rw [hn]; exact hj.no)
  have YES := Lib.hid (show (slot S (pos k n j)).ends k = true from by rw [hn]; exact hj.yes)
  clear hwA hg SA r1 h hkv hA hj hn hk
  go_enter Try.func41, Try.ntmps41
  go_upto_region 1 with (guard_target =~ wpList _ _ _ (Oper.mk (some 3) _ _ _ _ _ :: _) _ _; go_must (refine wpList_box_val rfl 43 (.tmp 1) rfl (some 3) rfl kv rfl ?_))
  rw [← HWA.out, ← HG.out]
  go_wp2_with (first
    | (guard_target =~ wpList _ _ _ (Oper.mk (some 9) _ _ _ _ _ :: _) _ _; go_must (refine wpList_load_mid rfl 43 (.tmp 3) rfl gk 0 rfl (bytesV k) _ (LB.out _ (Still.refl _)) under32 rfl H32.out ?_); rw [← KV.out])
    | (go_at_call 48; refine (HM.out _ (Still.refl _)).mono ?_; rintro e w1 ⟨rfl, s1⟩; have S1 := Lib.hid s1; clear s1))
  go_loopw [6, 7] (fun av sv wr => ∃ i : Nat, i ≤ j ∧ av = .int .i64 (pos k n i : Nat) ∧ sv = .int .i64 (i + 1 : Nat) ∧ Hid (Still wA wr)) (fun _ sv _ => j + 1 - (intOf sv).toNat)
  case atStart => exact ⟨0, by omega, rfl, rfl, S1⟩
  case round =>
    obtain ⟨i, hi, rfl, rfl, SW⟩ := hrel
    have HP := Lib.hid (PL.out i)
    have kk : ∀ p : StillBy wA, p.W.cell? ⟨g, 0, none⟩ = some (.slice (some ⟨b, 0, none⟩) n c) := fun p => K0.out _ p.still
    have d0 : pos k n i < n := PL.out i
    rcases Nat.lt_or_ge i j with hlt | hge
    · have EE := Lib.hid (fun (p : StillBy wA) => ED.out p.W p.still (pos k n i) (PL.out i))
      rw [NO.out i hlt] at EE
      have PN := Lib.hid (PN.out i)
      obtain ⟨x, hx⟩ : ∃ x, x = pos k n i := ⟨_, rfl⟩
      rw [← hx] at EE PN d0 ⊢
      have d1 : (x : Int) < (n : Int) := by omega
      have d2 : (n : Int) ≤ 1099511627776 := by omega
      have d3 : (i : Int) < 1099511627776 := by omega
      have d4 : ¬ n = 0 := by omega
      have d5 : ¬ (n : Int) = 0 := by omega
      clear hx
      go_upto_region 2 with fail
      refine wp_region_quiet_still wA SW.out (by kernel_rfl) (by kernel_rfl) ?_
      repeat (first
        | (guard_target =~ wpQuiet _ _ _ _ (Oper.mk (some 17) _ _ _ _ _ :: _) _; go_must (refine quiet_load_mid (by kernel_rfl) 43 (.tmp 3) rfl gk 0 (by kernel_rfl) (bytesV k) _ (fun W hW => by obtain ⟨p, rfl⟩ := hW; exact LB.out _ p.still) under32 rfl H32.out ?_); rw [← KV.out])
        | quiet_step ((go_at_call 49; exact Calls.stillby _ (EE.out _))))
      refine wpQuiet_nil ?_
      intro wq hw'
      have SQ := Lib.hid (show Still wA wq from by obtain ⟨p, rfl⟩ := hw'; exact p.still)
      clear hw'
      have k1 : wq.cell? ⟨g, 0, none⟩ = some (.slice (some ⟨b, 0, none⟩) n c) := K0.out _ SQ.out
      clear kk
      go_wp2_with fail
      go_roundw
      case rel => exact ⟨i + 1, by omega, by rw [PN.out]; simp, by go_num, SQ⟩
      case measure => simp [intOf]; omega
    · have hij : i = j := by omega
      subst hij
      have EE := Lib.hid (fun (p : StillBy wA) => ED.out p.W p.still (pos k n i) (PL.out i))
      rw [YES.out] at EE
      obtain ⟨x, hx⟩ : ∃ x, x = pos k n i := ⟨_, rfl⟩
      rw [← hx] at EE d0 ⊢
      have d1 : (x : Int) < (n : Int) := by omega
      have HX := Lib.hid hx
      clear hx
      go_upto_region 2 with fail
      refine wp_region_quiet_still wA SW.out (by kernel_rfl) (by kernel_rfl) ?_
      repeat (first
        | (guard_target =~ wpQuiet _ _ _ _ (Oper.mk (some 17) _ _ _ _ _ :: _) _; go_must (refine quiet_load_mid (by kernel_rfl) 43 (.tmp 3) rfl gk 0 (by kernel_rfl) (bytesV k) _ (fun W hW => by obtain ⟨p, rfl⟩ := hW; exact LB.out _ p.still) under32 rfl H32.out ?_); rw [← KV.out])
        | quiet_step ((go_at_call 49; exact Calls.stillby _ (EE.out _))))
      refine wpQuiet_nil ?_
      intro wq hw'
      have SQ := Lib.hid (show Still wA wq from by obtain ⟨p, rfl⟩ := hw'; exact p.still)
      clear hw'
      clear kk
      go_wp2_with fail
      go_ret2
      exact ⟨by rw [← HX.out]; first | rfl | simp, Still.trans HSA.out SQ.out⟩
end Go.Proofs.Ytlebancjgjcfjaa
