/- The document's own Encode of an entry. It proves no statement. -/
import Derived.Test.YtnhkabohccbglaaDoorRPut
import Derived.Test.YtnhkabohccbglaaDoorFrEnc
import Derived.Test.YtnhkabohccbglaaDoorAdds
import Derived.Test.YtnhkabohccbglaaDoorLe
import Derived.Laws.StructEq
namespace Go.Proofs.YtnhkabohccbglaaDoor
open Go.RowKit
set_option linter.unusedVariables false
set_option linter.unusedSimpArgs false

theorem neq_ids (w : World) (xs ys : List UInt8) (hx : xs.length = 32) (hy : ys.length = 32) :
    (binOp .neq 23 (.agg (bytesV xs).toArray) (.agg (bytesV ys).toArray)).run Tryd.prog w = .ok (.bool (!decide (xs = ys))) w := by
  refine (run_neq_struct (P := Tryd.prog) w _ _ _).trans ?_
  have h : (Op.equalIn 10000 23 (.agg (bytesV xs).toArray) (.agg (bytesV ys).toArray)).run Tryd.prog w = .ok (xs == ys) w := run_equalIn_bytes (P := Tryd.prog) w 9998 23 5 32 under32 (by kernel_rfl) sizeByteRun xs ys hx hy
  rw [h]
  show Result.ok (Value.bool (!(xs == ys))) w = _
  congr 3
  rw [Bool.eq_iff_iff]
  simp
theorem row1 (w : World) (t : Int) (tb : UInt8) (h : t = (tb.toNat : Int)) : (w.alloc (.cells #[.int .u8 t] 5)).ownsRow w.heap.size 5 1 (.slice (some ⟨w.heap.size, 0, none⟩) 1 1) 1 (bytesV [tb]) := by
  refine ⟨rfl, .inr ⟨w.heap.size, 1, #[.int .u8 t], rfl, Nat.le_refl _, heap_alloc_new _ _, Nat.le_refl _, by unfold maxLen; omega, rfl, by rw [h]; rfl⟩⟩
theorem ck4 (t : Int) (K : List UInt8) (n : Nat) : ckE t K n = 4 ↔ ¬ ((t = 0) ∨ (t = 1 ∧ n = 0) ∨ (t = 2 ∧ n = 0 ∧ K = List.replicate 32 0)) := by
  unfold ckE
  by_cases h0 : t = 0
  · rw [if_pos h0]; split <;> simp [h0]
  rw [if_neg h0]
  by_cases h1 : t = 1
  · rw [if_pos h1]
    by_cases hn : n = 0
    · rw [if_pos hn]; simp [h1, hn]
    · rw [if_neg hn]; simp [h1, hn]
  rw [if_neg h1]
  by_cases h2 : t = 2
  · rw [if_pos h2]
    by_cases hn : n = 0 ∧ K = List.replicate 32 0
    · rw [if_pos hn]; simp [h2, hn]
    · rw [if_neg hn]
      simp only [h2, true_iff]
      rintro (h | h | h)
      · omega
      · omega
      · exact hn h.2
  rw [if_neg h2]
  simp [h0, h1, h2]

set_option maxRecDepth 100000 in
set_option maxHeartbeats 6400000 in
theorem rencode_any (t : Int) (K D : List UInt8) (A : Option Addr) (n c : Nat) (w : World) (B : Nat) (hK : K.length = 32) (hr : Reads w B A n D) (hB : B ≤ w.heap.size) (hA : A = none → c = 0) (hn : n ≤ 1048576) :
    Calls Tryd.prog 13 #[.agg (entV t K (.slice A n c))] w fun e w' => (∃ v, e = .returned (.tuple #[v, .int .i64 (encE t K D).1]) ∧ w'.ownsRow w.heap.size 5 1 v (encE t K D).2.length (bytesV (encE t K D).2)) ∧ Still w w' := by
  have hlen := hr.1
  obtain ⟨g, hg⟩ : ∃ g, g = w.heap.size := ⟨_, rfl⟩
  obtain ⟨wA, hwA⟩ : ∃ wA, wA = w.alloc (.cells (entV t K (.slice A n c)) 26) := ⟨_, rfl⟩
  have SA := Lib.hid (show Still w wA by rw [hwA]; exact (Still.refl w).alloc (Nat.le_refl _) _)
  have EB := Lib.hid (show EntB wA g t K (.slice A n c) by rw [hwA, hg]; exact EntB.new _ _ _ _)
  have HK := Lib.hid hK
  have HWA := Lib.hid hwA
  have HG := Lib.hid hg
  have d1 : (n : Int) ≤ 1048576 := by omega
  obtain ⟨ent, hent⟩ : ∃ ent, ent = entV t K (.slice A n c) := ⟨_, rfl⟩
  rw [← hent] at HWA ⊢
  obtain ⟨E, hE⟩ : ∃ E, E = encE t K D := ⟨_, rfl⟩
  have HE := Lib.hid (show E = if ckE t K n ≠ 0 then (ckE t K n, []) else (0, bytE t K D) by rw [hE, ← hlen]; rfl)
  rw [← hE]
  have HZ := Lib.hid (show ckE t K n = 0 → (bytE t K D).length = szE t K n ∧ (bodE t K D).length + 4 = szE t K n ∧ szE t K n ≤ 16425 ∧ 9 ≤ szE t K n from fun h => by rw [← hlen] at h ⊢; exact szE_len hK h)
  have HB := Lib.hid (show bodE t K D = leBytes (szE t K n) 4 ++ ([UInt8.ofNat t.toNat] ++ (keyE t K ++ D)) by rw [← hlen]; rfl)
  have RD := Lib.hid (fun (W : World) (s : Still w W) => hr.still hB s)
  have RB := Lib.hid hB
  have HAA := Lib.hid hA
  have HN := Lib.hid hn
  have HLN := Lib.hid hlen
  have k0 : wA.cell? ⟨g, 0, none⟩ = some (.int .i64 t) := EB.out.tag
  have k33 : wA.cell? ⟨g, 33, none⟩ = some (.slice A n c) := EB.out.data hK
  have RNG := Lib.hid EB.out.key
  obtain ⟨kv, hkv⟩ : ∃ kv, kv = (bytesV K).toArray := ⟨_, rfl⟩
  have HKV := Lib.hid hkv
  have hq0 : ∀ w : World, (binOp .neq 23 (.agg kv) (.agg #[.int .u8 0, .int .u8 0, .int .u8 0, .int .u8 0, .int .u8 0, .int .u8 0, .int .u8 0, .int .u8 0, .int .u8 0, .int .u8 0, .int .u8 0, .int .u8 0, .int .u8 0, .int .u8 0, .int .u8 0, .int .u8 0, .int .u8 0, .int .u8 0, .int .u8 0, .int .u8 0, .int .u8 0, .int .u8 0, .int .u8 0, .int .u8 0, .int .u8 0, .int .u8 0, .int .u8 0, .int .u8 0, .int .u8 0, .int .u8 0, .int .u8 0, .int .u8 0])).run Tryd.prog w = .ok (.bool (!decide (K = List.replicate 32 0))) w := fun w => by
    rw [hkv, ← zeroID]; exact neq_ids w K _ hK (by simp)
  have HQ0 := Lib.hid hq0
  clear hwA hg hK hn hent hE hr hB hA hlen hkv hq0
  go_enter Tryd.func13, Tryd.ntmps13
  go_upto_region 1 with (guard_target =~ wpList _ _ _ (Oper.mk _ (Op.box _ _) _ _ _ _ :: _) _ _; go_must (refine wpList_box_val rfl 26 (.tmp 0) rfl (some 1) rfl ent rfl ?_))
  rw [← HWA.out, ← HG.out]
  clear HWA
  go_cut [35] (fun s wx => s = .bool (decide (ckE t K n = 4)) ∧ wx = wA)
  case first =>
    have hc4 := ck4 t K n
    by_cases a0 : t < 0
    · have HV := Lib.hid (show decide (ckE t K n = 4) = true from decide_eq_true (hc4.2 (by omega)))
      clear hc4
      go_wp2_with fail
      go_meet
      exact ⟨by rw [HV.out], rfl⟩
    by_cases a1 : 2 < t
    · have HV := Lib.hid (show decide (ckE t K n = 4) = true from decide_eq_true (hc4.2 (by omega)))
      clear hc4
      go_wp2_with fail
      go_meet
      exact ⟨by rw [HV.out], rfl⟩
    by_cases a2 : 0 < t
    · by_cases a3 : 0 < n
      · have a4 : (0 : Int) < (n : Int) := by omega
        have HV := Lib.hid (show decide (ckE t K n = 4) = true from decide_eq_true (hc4.2 (by omega)))
        clear hc4
        go_wp2_with fail
        go_meet
        exact ⟨by rw [HV.out], rfl⟩
      · have a4 : ¬ (0 : Int) < (n : Int) := by omega
        by_cases a5 : t = 2
        · have b2 : (t == 2) = true := by simpa using a5
          have hq2 := HQ0.out
          by_cases hk : K = List.replicate 32 0
          · have HV := Lib.hid (show decide (ckE t K n = 4) = false from decide_eq_false (fun h => (hc4.1 h) (.inr (.inr ⟨a5, by omega, hk⟩))))
            rw [decide_eq_true hk] at hq2
            clear hc4 a5 hk a3
            go_wp2_with (guard_target =~ wpList _ _ _ (Oper.mk (some 31) _ _ _ _ _ :: _) _ _; go_must (refine load_midG (by kernel_rfl) 23 (.tmp 30) rfl g 1 rfl (bytesV K) _ RNG.out under32 rfl (by rw [size32, bytesV_length, HK.out]) ?_; rw [← HKV.out]))
            go_meet
            exact ⟨by rw [HV.out]; try rfl, rfl⟩
          · have HV := Lib.hid (show decide (ckE t K n = 4) = true from decide_eq_true (hc4.2 (by
              rintro (h | h | h)
              · omega
              · omega
              · exact hk h.2.2)))
            rw [decide_eq_false hk] at hq2
            clear hc4 a5 hk a3
            go_wp2_with (guard_target =~ wpList _ _ _ (Oper.mk (some 31) _ _ _ _ _ :: _) _ _; go_must (refine load_midG (by kernel_rfl) 23 (.tmp 30) rfl g 1 rfl (bytesV K) _ RNG.out under32 rfl (by rw [size32, bytesV_length, HK.out]) ?_; rw [← HKV.out]))
            go_meet
            exact ⟨by rw [HV.out]; try rfl, rfl⟩
        · have b2 : (t == 2) = false := by simpa using a5
          have HV := Lib.hid (show decide (ckE t K n = 4) = false from decide_eq_false (fun h => (hc4.1 h) (.inr (.inl ⟨by omega, by omega⟩))))
          clear hc4 a5 a3
          go_wp2_with fail
          go_meet
          exact ⟨by rw [HV.out], rfl⟩
    · have b2 : (t == 2) = false := by simp; omega
      have HV := Lib.hid (show decide (ckE t K n = 4) = false from decide_eq_false (fun h => (hc4.1 h) (.inl (by omega))))
      clear hc4
      go_wp2_with fail
      go_meet
      exact ⟨by rw [HV.out], rfl⟩
  case rest =>
    obtain ⟨hs, hw⟩ := hcut
    subst hs
    rw [hw]
    clear hw
    by_cases h4 : ckE t K n = 4
    · have HE2 := Lib.hid (show E = (4, []) by rw [HE.out, if_pos (by rw [h4]; decide), h4])
      rw [decide_eq_true h4]
      clear h4 HE HZ
      go_wp2_with fail
      go_ret2
      rw [HE2.out]
      exact ⟨⟨_, rfl, World.ownsRow_nil _ _ _ _⟩, SA.out⟩
    rw [decide_eq_false h4]
    by_cases h5 : 16384 < n
    · have hc : ckE t K n = 5 := by
        have h := (ck4 t K n)
        by_cases h0 : t = 0
        · unfold ckE; rw [if_pos h0, if_pos h5]
        · exact absurd (h.2 (by omega)) h4
      have HE2 := Lib.hid (show E = (5, []) by rw [HE.out, if_pos (by rw [hc]; decide), hc])
      have c1 : (16384 : Int) < (n : Int) := by omega
      clear h4 h5 hc HE HZ
      go_wp2_with fail
      go_ret2
      rw [HE2.out]
      exact ⟨⟨_, rfl, World.ownsRow_nil _ _ _ _⟩, SA.out⟩
    have c1 : ¬ (16384 : Int) < (n : Int) := by omega
    have hcz : ckE t K n = 0 := by
      unfold ckE at h4 ⊢
      split at h4 <;> rename_i q
      · rw [if_pos q, if_neg h5]
      · rw [if_neg q]
        split at h4 <;> rename_i q2
        · rw [if_pos q2]; split at h4 <;> simp_all
        · rw [if_neg q2]
          split at h4 <;> rename_i q3
          · rw [if_pos q3]; split at h4 <;> simp_all
          · exact absurd rfl h4
    have HE2 := Lib.hid (show E = (0, bytE t K D) by rw [HE.out, if_neg (by rw [hcz]; decide)])
    have HCZ := Lib.hid (ckE_zero hcz)
    obtain ⟨z1, z2, z3, z4⟩ := HZ.out hcz
    obtain ⟨sz, hsz⟩ : ∃ sz, sz = szE t K n := ⟨_, rfl⟩
    rw [← hsz] at z1 z2 z3 z4 HB
    have Z2 := Lib.hid z2
    have Z3 := Lib.hid z3
    have Z4 := Lib.hid z4
    obtain ⟨tb, htb⟩ : ∃ tb : UInt8, tb = UInt8.ofNat t.toNat := ⟨_, rfl⟩
    have ht3 : 0 ≤ t ∧ t ≤ 2 := by rcases HCZ.out with ⟨h, _⟩ | ⟨h, _⟩ | ⟨h, _⟩ <;> omega
    have htn : t = (tb.toNat : Int) := by rw [htb]; simp; omega
    rw [← htb] at HB
    have d4 : t ≤ 2 := ht3.2
    have d5 : 0 ≤ t := ht3.1
    have d6 : IntKind.u8.wrap t = t := by unfold IntKind.wrap; simp [IntKind.bits, IntKind.signed]; omega
    obtain ⟨w1, hw1⟩ : ∃ w1, w1 = wA.alloc (.cells #[.int .u8 t] 5) := ⟨_, rfl⟩
    have ROW1 := Lib.hid (show w1.ownsRow w.heap.size 5 1 (.slice (some ⟨wA.heap.size, 0, none⟩) 1 1) (1 + 0) (bytesV ([tb] ++ K.take 0)) by
      rw [hw1]; exact own_rebase0 (row1 wA t tb htn) SA.out.size)
    have S1 := Lib.hid (show Still w w1 by rw [hw1]; exact SA.out.trans ((Still.refl _).alloc (Nat.le_refl _) _))
    have EB1 := Lib.hid (show EntB w1 g t K (.slice A n c) by rw [hw1]; exact Blk.alloc EB.out _)
    have HW1 := Lib.hid hw1
    clear h4 h5 hcz HE HZ z1 z2 z3 z4 hsz htb ht3 htn hw1 RNG EB
    go_upto_region 6 with fail
    rw [← HW1.out]
    clear HW1 k0 k33
    go_wp2_with fail
    go_loopw [4, 5] (fun rv iv wr => ∃ j : Nat, j ≤ 32 ∧ iv = .int .i64 j ∧ Hid (wr.ownsRow w.heap.size 5 1 rv (1 + j) (bytesV ([tb] ++ K.take j)) ∧ Still w wr ∧ EntB wr g t K (.slice A n c) ∧ (t = 2 → j = 0))) (fun _ iv _ => 32 - (intOf iv).toNat)
    case atStart => exact ⟨0, by omega, rfl, ROW1.out, S1.out, EB1.out, fun _ => rfl⟩
    case round =>
      obtain ⟨j, hj, rfl, hin⟩ := hrel
      have k0 : wr.cell? ⟨g, 0, none⟩ = some (.int .i64 t) := hin.out.2.2.1.tag
      by_cases hlt : j < 32
      · have i3 : (j : Int) < 32 := by omega
        have i4 : (0 : Int) ≤ (j : Int) := by omega
        by_cases hy2 : t < 2
        · have kb : wr.cell? ⟨g, 1 + j, none⟩ = some (.int .u8 (((K.getD j 0).toNat : Nat) : Int)) := hin.out.2.2.1.key j _ (bytesV_get _ _ (by rw [HK.out]; exact hlt))
          obtain ⟨kb8, hk8⟩ : ∃ kb8, kb8 = K.getD j 0 := ⟨_, rfl⟩
          rw [← hk8] at kb
          obtain ⟨bn, hbn⟩ : ∃ bn : Int, bn = ((kb8.toNat : Nat) : Int) := ⟨_, rfl⟩
          rw [← hbn] at kb
          obtain ⟨w2, hw2⟩ : ∃ w2, w2 = wr.alloc (.cells #[.int .u8 bn] 5) := ⟨_, rfl⟩
          have R2 := Lib.hid (show Reads w2 w2.heap.size (some ⟨wr.heap.size, 0, none⟩) 1 [kb8] by
            rw [hw2]; exact Reads.of_own (row1 wr bn kb8 hbn))
          have s2 : Still wr w2 := by rw [hw2]; exact (Still.refl _).alloc (Nat.le_refl _) _
          have O2 := Lib.hid (show w2.ownsRow w.heap.size 5 1 u4 (1 + j) (bytesV ([tb] ++ K.take j)) from by
            refine ⟨hin.out.1.1, ?_⟩
            rcases hin.out.1.2 with q | ⟨gx, cap, cur, hv, hlo, hb, r⟩
            · exact .inl q
            · exact .inr ⟨gx, cap, cur, hv, hlo, (s2.block gx (Array.getElem?_eq_some_iff.1 hb).1).trans hb, r⟩)
          have S2 := Lib.hid (Still.trans hin.out.2.1 s2)
          have E2 := Lib.hid (hin.out.2.2.1.still s2)
          have HW2 := Lib.hid hw2
          have HK8 := Lib.hid hk8
          have HLT := Lib.hid hlt
          have HT2 := Lib.hid (show t ≠ 2 by omega)
          have GLO := Lib.hid (show g < w2.heap.size from Blk.lt E2.out)
          clear hw2 hk8 hbn hlt s2
          go_wp2_with (at_builtin; go_must (rw [← HW2.out]; refine wpList_adds_at w2 rfl (.tmp 53) (.tmp 58) rfl w.heap.size u4 (1 + j) ([tb] ++ K.take j) rfl O2.out (some ⟨wr.heap.size, 0, none⟩) 1 1 _ [kb8] rfl R2.out (fun e => by cases e) (by have := HLT.out; omega) S2.out.size ?_))
          intro v3 w3 own3 gr3 loc3
          have FIN := Lib.hid (show w3.ownsRow w.heap.size 5 1 v3 (1 + (j + 1)) (bytesV ([tb] ++ K.take (j + 1))) ∧ Still w w3 ∧ EntB w3 g t K (.slice A n c) ∧ (t = 2 → j + 1 = 0) from by
            have hlo : ∀ k, u4.ownBlock = some k → w.heap.size ≤ k := fun k hk => (O2.out.lt k hk).1
            have hne : u4.ownBlock ≠ some g := fun e => by
              rcases O2.out.2 with q | ⟨gx, cap, cur, hv, _, hb, _⟩
              · rw [q.1] at e; cases e
              · rw [hv] at e
                have e2 : gx = g := by simpa [Value.ownBlock] using e
                have h1 := E2.out
                unfold EntB Blk at h1
                rw [e2, h1] at hb
                have h3 := congrArg (fun o => match o with | some (Obj.cells _ ty _) => some ty | _ => none) hb
                simp at h3
            refine ⟨?_, S2.out.grown gr3 S2.out.size hlo, (gr3.block g GLO.out (fun e => hne e.symm)).trans E2.out, fun h => absurd h HT2.out⟩
            rw [show 1 + (j + 1) = 1 + j + 1 by omega, List.take_add_one, List.getElem?_eq_getElem (by rw [HK.out]; exact HLT.out)]
            have h5 : kb8 = K[j]'(by rw [HK.out]; exact HLT.out) := by rw [HK8.out]; simp [List.getD, HK.out, HLT.out]
            rw [← h5]
            simpa [List.append_assoc] using own3)
          clear own3 gr3 loc3
          go_wp2_with fail
          go_roundw
          case rel => exact ⟨j + 1, by have := HLT.out; omega, by go_num, FIN.out⟩
          case measure => simp [intOf]; have := HLT.out; omega
        · have KF := Lib.hid (show [tb] ++ K.take j = [tb] ++ keyE t K by have h := hin.out.2.2.2 (by omega); rw [h]; unfold keyE; rw [if_pos (by omega)]; rfl)
          have i5 : ¬ t < 2 := hy2
          clear hlt hy2
          obtain ⟨rl, hrl⟩ : ∃ rl, rl = 1 + j := ⟨_, rfl⟩
          have OR := Lib.hid (show wr.ownsRow w.heap.size 5 1 u4 rl (bytesV ([tb] ++ keyE t K)) by have h := hin.out.1; rw [KF.out, ← hrl] at h; exact h)
          have RL := Lib.hid (show rl ≤ 33 by omega)
          have SW := Lib.hid hin.out.2.1
          have k33 : wr.cell? ⟨g, 33, none⟩ = some (.slice A n c) := hin.out.2.2.1.data HK.out
          clear hrl hin
          go_upto_region 10 with fail
          go_wp2_with (at_builtin; go_must (refine wpList_adds_at wr rfl (.tmp 60) (.tmp 62) rfl w.heap.size u4 rl ([tb] ++ keyE t K) rfl OR.out A n c _ D rfl (RD.out wr SW.out) HAA.out (by have := RL.out; have := HN.out; omega) SW.out.size ?_))
          intro v5 w5 own5 gr5 loc5
          have S5 := Lib.hid (show Still w w5 from SW.out.grown gr5 SW.out.size (fun k hk => (OR.out.lt k hk).1))
          obtain ⟨A5, c5, rfl, f1, f2, f3⟩ := own_form own5
          have hl5 : 4 + (rl + n) = (bodE t K D).length := by
            have h1 := own5.1
            rw [bytesV_length] at h1
            rw [HB.out]
            simp only [List.length_append, List.length_cons, List.length_nil, leBytes_length] at h1 ⊢
            omega
          obtain ⟨q5, hq5⟩ : ∃ q5, q5 = rl + n := ⟨_, rfl⟩
          rw [← hq5] at own5 hl5 f3
          have R5 := Lib.hid (Reads.of_own own5)
          have F5 := Lib.hid f3
          have HQ5 := Lib.hid hq5
          have HL5 := Lib.hid hl5
          have e8 : q5 + 8 = sz := by have := Z2.out; omega
          have i6 : (q5 : Int) + 8 = (sz : Int) := by omega
          have i7 : (sz : Int) ≤ 16425 := by have := Z3.out; omega
          have i8 : (0 : Int) ≤ (sz : Int) := by omega
          have i9 : (rl : Int) + (n : Int) = (q5 : Int) := by omega
          have i10 : IntKind.i64.wrap (sz : Int) = (sz : Int) := by rw [IntKind.wrap_i64]; omega
          have i11 : IntKind.u64.wrap (sz : Int) = (sz : Int) := u64_wrap_nat sz (by omega)
          have PT := Lib.hid (rput_yes sz 4 w5 (by omega) (by omega) (by omega))
          clear own5 gr5 loc5 f1 f2 f3 hl5 e8 OR
          try rw [← HQ5.out]
          clear hq5
          go_wp2_with fail
          refine PT.out.mono ?_
          rintro e w6 ⟨v6, rfl, own6, s6⟩
          obtain ⟨A6, c6, rfl, j1, j2, j3⟩ := own_form own6
          have S6 := Lib.hid (Still.trans S5.out s6)
          have R6 := Lib.hid ((R5.out.still (Nat.le_refl _) s6).more s6.size)
          have O6 := Lib.hid own6
          have Z6 := Lib.hid (show w5.heap.size ≤ w6.heap.size ∧ w.heap.size ≤ w5.heap.size from ⟨s6.size, S5.out.size⟩)
          clear own6 s6 j1 j2 j3 PT
          go_wp2_with (at_builtin; go_must (refine wpList_adds_at w6 rfl (.tmp 68) (.tmp 69) rfl w5.heap.size (.slice A6 4 c6) 4 (leBytes sz 4) rfl O6.out A5 q5 c5 _ _ rfl R6.out (fun e => (F5.out e).2) (by have := HQ5.out; have := RL.out; have := HN.out; omega) Z6.out.1 ?_))
          intro v7 w7 own7 gr7 loc7
          have S7 := Lib.hid (show Still w w7 from S6.out.grown gr7 S6.out.size (fun k hk => by have h := (O6.out.lt k hk).1; have := Z6.out; omega))
          obtain ⟨A7, c7, rfl, j1, j2, j3⟩ := own_form own7
          have hbod : leBytes sz 4 ++ ([tb] ++ keyE t K ++ D) = bodE t K D := by rw [HB.out, List.append_assoc]
          have own7' : w7.ownsRow w5.heap.size 5 1 (.slice A7 (4 + q5) c7) (4 + q5) (bytesV (bodE t K D)) := by rw [← hbod]; simpa using own7
          have R7 := Lib.hid (Reads.of_own own7')
          have F7 := Lib.hid j3
          have ZL := Lib.hid (show 4 + q5 + 4 = sz ∧ 4 + q5 = (bodE t K D).length by have := HL5.out; have := Z2.out; omega)
          have CR := Lib.hid (rsum_any A7 (4 + q5) c7 (bodE t K D) w7 _ R7.out (by have := ZL.out; have := Z3.out; omega))
          clear own7 own7' gr7 loc7 j1 j2 j3 R6 O6 hbod i9 i10 i11
          go_wp2_with fail
          refine CR.out.mono ?_
          rintro e w8 ⟨rfl, rfl⟩
          obtain ⟨cs, hcs⟩ : ∃ cs, cs = crcSum (bodE t K D) := ⟨_, rfl⟩
          have hcl : cs < 4294967296 := by rw [hcs]; exact crcAdd_lt 0 _ (by decide)
          have BY := Lib.hid (show bytE t K D = leBytes cs 4 ++ bodE t K D by rw [hcs]; rfl)
          rw [← hcs]
          have PT := Lib.hid (rput_yes cs 4 w7 (by omega) (by omega) (by omega))
          have i12 : IntKind.u64.wrap (cs : Int) = (cs : Int) := u64_wrap_nat cs (by omega)
          clear CR hcs hcl
          go_wp2_with fail
          refine PT.out.mono ?_
          rintro e w8 ⟨v8, rfl, own8, s8⟩
          obtain ⟨A8, c8, rfl, j1, j2, j3⟩ := own_form own8
          have S8 := Lib.hid (Still.trans S7.out s8)
          have R8 := Lib.hid ((R7.out.still (Nat.le_refl _) s8).more s8.size)
          have O8 := Lib.hid own8
          have Z8 := Lib.hid (show w7.heap.size ≤ w8.heap.size ∧ w.heap.size ≤ w7.heap.size from ⟨s8.size, S7.out.size⟩)
          clear own8 s8 PT R7 j1 j2 j3
          go_wp2_with (at_builtin; go_must (refine wpList_adds_at w8 rfl (.tmp 74) (.tmp 75) rfl w7.heap.size (.slice A8 4 c8) 4 (leBytes cs 4) rfl O8.out A7 (4 + q5) c7 _ (bodE t K D) rfl R8.out (fun e => (F7.out e).2) (by have := ZL.out; have := Z3.out; omega) Z8.out.1 ?_))
          intro v9 w9 own9 gr9 loc9
          have S9 := Lib.hid (show Still w w9 from S8.out.grown gr9 S8.out.size (fun k hk => by have h := (O8.out.lt k hk).1; have := Z8.out; omega))
          have O9 := Lib.hid (show w9.ownsRow w.heap.size 5 1 v9 (bytE t K D).length (bytesV (bytE t K D)) by
            rw [BY.out, List.length_append, leBytes_length, ← ZL.out.2]
            exact own_rebase0 own9 Z8.out.2)
          clear own9 gr9 loc9
          go_wp2_with fail
          go_ret2
          rw [HE2.out]
          exact ⟨⟨_, rfl, O9.out⟩, S9.out⟩
      · have i3 : ¬ (j : Int) < 32 := by omega
        have KF := Lib.hid (show [tb] ++ K.take j = [tb] ++ keyE t K by
          have h2 : t ≠ 2 := fun h => by have := hin.out.2.2.2 h; omega
          unfold keyE
          rw [if_neg h2, List.take_of_length_le (by rw [HK.out]; omega)])
        clear hlt
        obtain ⟨rl, hrl⟩ : ∃ rl, rl = 1 + j := ⟨_, rfl⟩
        have OR := Lib.hid (show wr.ownsRow w.heap.size 5 1 u4 rl (bytesV ([tb] ++ keyE t K)) by have h := hin.out.1; rw [KF.out, ← hrl] at h; exact h)
        have RL := Lib.hid (show rl ≤ 33 by omega)
        have SW := Lib.hid hin.out.2.1
        have k33 : wr.cell? ⟨g, 33, none⟩ = some (.slice A n c) := hin.out.2.2.1.data HK.out
        clear hrl hin
        go_upto_region 10 with fail
        go_wp2_with (at_builtin; go_must (refine wpList_adds_at wr rfl (.tmp 60) (.tmp 62) rfl w.heap.size u4 rl ([tb] ++ keyE t K) rfl OR.out A n c _ D rfl (RD.out wr SW.out) HAA.out (by have := RL.out; have := HN.out; omega) SW.out.size ?_))
        intro v5 w5 own5 gr5 loc5
        have S5 := Lib.hid (show Still w w5 from SW.out.grown gr5 SW.out.size (fun k hk => (OR.out.lt k hk).1))
        obtain ⟨A5, c5, rfl, f1, f2, f3⟩ := own_form own5
        have hl5 : 4 + (rl + n) = (bodE t K D).length := by
          have h1 := own5.1
          rw [bytesV_length] at h1
          rw [HB.out]
          simp only [List.length_append, List.length_cons, List.length_nil, leBytes_length] at h1 ⊢
          omega
        obtain ⟨q5, hq5⟩ : ∃ q5, q5 = rl + n := ⟨_, rfl⟩
        rw [← hq5] at own5 hl5 f3
        have R5 := Lib.hid (Reads.of_own own5)
        have F5 := Lib.hid f3
        have HQ5 := Lib.hid hq5
        have HL5 := Lib.hid hl5
        have e8 : q5 + 8 = sz := by have := Z2.out; omega
        have i6 : (q5 : Int) + 8 = (sz : Int) := by omega
        have i7 : (sz : Int) ≤ 16425 := by have := Z3.out; omega
        have i8 : (0 : Int) ≤ (sz : Int) := by omega
        have i9 : (rl : Int) + (n : Int) = (q5 : Int) := by omega
        have i10 : IntKind.i64.wrap (sz : Int) = (sz : Int) := by rw [IntKind.wrap_i64]; omega
        have i11 : IntKind.u64.wrap (sz : Int) = (sz : Int) := u64_wrap_nat sz (by omega)
        have PT := Lib.hid (rput_yes sz 4 w5 (by omega) (by omega) (by omega))
        clear own5 gr5 loc5 f1 f2 f3 hl5 e8 OR
        try rw [← HQ5.out]
        clear hq5
        go_wp2_with fail
        refine PT.out.mono ?_
        rintro e w6 ⟨v6, rfl, own6, s6⟩
        obtain ⟨A6, c6, rfl, j1, j2, j3⟩ := own_form own6
        have S6 := Lib.hid (Still.trans S5.out s6)
        have R6 := Lib.hid ((R5.out.still (Nat.le_refl _) s6).more s6.size)
        have O6 := Lib.hid own6
        have Z6 := Lib.hid (show w5.heap.size ≤ w6.heap.size ∧ w.heap.size ≤ w5.heap.size from ⟨s6.size, S5.out.size⟩)
        clear own6 s6 j1 j2 j3 PT
        go_wp2_with (at_builtin; go_must (refine wpList_adds_at w6 rfl (.tmp 68) (.tmp 69) rfl w5.heap.size (.slice A6 4 c6) 4 (leBytes sz 4) rfl O6.out A5 q5 c5 _ _ rfl R6.out (fun e => (F5.out e).2) (by have := HQ5.out; have := RL.out; have := HN.out; omega) Z6.out.1 ?_))
        intro v7 w7 own7 gr7 loc7
        have S7 := Lib.hid (show Still w w7 from S6.out.grown gr7 S6.out.size (fun k hk => by have h := (O6.out.lt k hk).1; have := Z6.out; omega))
        obtain ⟨A7, c7, rfl, j1, j2, j3⟩ := own_form own7
        have hbod : leBytes sz 4 ++ ([tb] ++ keyE t K ++ D) = bodE t K D := by rw [HB.out, List.append_assoc]
        have own7' : w7.ownsRow w5.heap.size 5 1 (.slice A7 (4 + q5) c7) (4 + q5) (bytesV (bodE t K D)) := by rw [← hbod]; simpa using own7
        have R7 := Lib.hid (Reads.of_own own7')
        have F7 := Lib.hid j3
        have ZL := Lib.hid (show 4 + q5 + 4 = sz ∧ 4 + q5 = (bodE t K D).length by have := HL5.out; have := Z2.out; omega)
        have CR := Lib.hid (rsum_any A7 (4 + q5) c7 (bodE t K D) w7 _ R7.out (by have := ZL.out; have := Z3.out; omega))
        clear own7 own7' gr7 loc7 j1 j2 j3 R6 O6 hbod i9 i10 i11
        go_wp2_with fail
        refine CR.out.mono ?_
        rintro e w8 ⟨rfl, rfl⟩
        obtain ⟨cs, hcs⟩ : ∃ cs, cs = crcSum (bodE t K D) := ⟨_, rfl⟩
        have hcl : cs < 4294967296 := by rw [hcs]; exact crcAdd_lt 0 _ (by decide)
        have BY := Lib.hid (show bytE t K D = leBytes cs 4 ++ bodE t K D by rw [hcs]; rfl)
        rw [← hcs]
        have PT := Lib.hid (rput_yes cs 4 w7 (by omega) (by omega) (by omega))
        have i12 : IntKind.u64.wrap (cs : Int) = (cs : Int) := u64_wrap_nat cs (by omega)
        clear CR hcs hcl
        go_wp2_with fail
        refine PT.out.mono ?_
        rintro e w8 ⟨v8, rfl, own8, s8⟩
        obtain ⟨A8, c8, rfl, j1, j2, j3⟩ := own_form own8
        have S8 := Lib.hid (Still.trans S7.out s8)
        have R8 := Lib.hid ((R7.out.still (Nat.le_refl _) s8).more s8.size)
        have O8 := Lib.hid own8
        have Z8 := Lib.hid (show w7.heap.size ≤ w8.heap.size ∧ w.heap.size ≤ w7.heap.size from ⟨s8.size, S7.out.size⟩)
        clear own8 s8 PT R7 j1 j2 j3
        go_wp2_with (at_builtin; go_must (refine wpList_adds_at w8 rfl (.tmp 74) (.tmp 75) rfl w7.heap.size (.slice A8 4 c8) 4 (leBytes cs 4) rfl O8.out A7 (4 + q5) c7 _ (bodE t K D) rfl R8.out (fun e => (F7.out e).2) (by have := ZL.out; have := Z3.out; omega) Z8.out.1 ?_))
        intro v9 w9 own9 gr9 loc9
        have S9 := Lib.hid (show Still w w9 from S8.out.grown gr9 S8.out.size (fun k hk => by have h := (O8.out.lt k hk).1; have := Z8.out; omega))
        have O9 := Lib.hid (show w9.ownsRow w.heap.size 5 1 v9 (bytE t K D).length (bytesV (bytE t K D)) by
          rw [BY.out, List.length_append, leBytes_length, ← ZL.out.2]
          exact own_rebase0 own9 Z8.out.2)
        clear own9 gr9 loc9
        go_wp2_with fail
        go_ret2
        rw [HE2.out]
        exact ⟨⟨_, rfl, O9.out⟩, S9.out⟩
end Go.Proofs.YtnhkabohccbglaaDoor
