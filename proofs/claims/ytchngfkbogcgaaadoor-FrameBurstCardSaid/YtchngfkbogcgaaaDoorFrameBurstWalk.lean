/- The walk of FrameBurst: it returns true, and nothing that was there turns. -/
import Derived.Test.YtchngfkbogcgaaaDoorFrBurstM
import Derived.Test.YtchngfkbogcgaaaDoorFrameWritesWalk
import Derived.Test.YtchngfkbogcgaaaDoorWithin
namespace Go.Proofs.YtchngfkbogcgaaaDoor
open Go.RowKit
set_option linter.unusedVariables false
set_option linter.unusedSimpArgs false

/-- A number between two others, whatever they are. -/
theorem within_else (x lo hi : Int) (w : World) :
    Calls Tryd.prog 27 #[.int .i64 x, .int .i64 lo, .int .i64 hi] w fun e w' => (∃ y : Int, e = .returned (.int .i64 y)) ∧ w = w' := by
  by_cases h1 : x < lo
  · exact (within_lo x lo hi w h1).mono fun e w' ⟨he, hw⟩ => ⟨⟨lo, he⟩, hw⟩
  · by_cases h2 : hi < x
    · exact (within_hi x lo hi w (by omega) h2).mono fun e w' ⟨he, hw⟩ => ⟨⟨hi, he⟩, hw⟩
    · exact (within_in x lo hi w (by omega) (by omega)).mono fun e w' ⟨he, hw⟩ => ⟨⟨x, he⟩, hw⟩

set_option maxRecDepth 100000 in
set_option maxHeartbeats 6400000 in
theorem frameBurst_walk (t : Int) (K D : List UInt8) (A : Option Addr) (n c : Nat) (at0 span0 pat : Int) (w : World) (e0 : EntIn w t K D A n c) (hp0 : 0 ≤ pat) (hp1 : pat < 4294967296) (T : Tabs w) :
    Calls Tryd.prog 8 #[.agg (entV t K (.slice A n c)), .int .i64 at0, .int .i64 span0, .int .u32 pat] w fun e w' => e = .returned (.bool true) ∧ Below w.heap.size w w' := by
  obtain ⟨pat, rfl⟩ := Int.eq_ofNat_of_zero_le hp0
  have PB := Lib.hid (show pat < 4294967296 by omega)
  clear hp0 hp1
  have KL := Lib.hid e0.key
  have HT := Lib.hid (fun W (s : Still w W) => T.still s)
  obtain ⟨fs, hu⟩ := underEnt
  have HU := Lib.hid hu
  have LV := Lib.hid (fun w (T : Tabs w) => lives_any w T)
  obtain ⟨g1, hg1⟩ : ∃ g1, g1 = w.heap.size := ⟨_, rfl⟩
  obtain ⟨wA, hwA⟩ : ∃ wA, wA = w.alloc (.cells (entV t K (.slice A n c)) 26) := ⟨_, rfl⟩
  have SA := Lib.hid (show Still w wA by rw [hwA]; exact (Still.refl w).alloc (Nat.le_refl _) _)
  have BA := Lib.hid (show Blk wA g1 26 (entV t K (.slice A n c)) by rw [hwA, hg1]; exact Blk.new _ _ _)
  have HWA := Lib.hid hwA
  have HG1 := Lib.hid hg1
  obtain ⟨gB, hgB⟩ : ∃ gB, gB = wA.heap.size := ⟨_, rfl⟩
  obtain ⟨wB, hwB⟩ : ∃ wB, wB = wA.alloc (.cells (entV t K (.slice A n c)) 26) := ⟨_, rfl⟩
  have SB := Lib.hid (show Still wA wB by rw [hwB]; exact (Still.refl wA).alloc (Nat.le_refl _) _)
  have BB := Lib.hid (show EntB wB gB t K (.slice A n c) by rw [hwB, hgB]; exact EntB.new _ _ _ _)
  have HWB := Lib.hid hwB
  have HGB := Lib.hid hgB
  have sAB : Still w wB := Still.trans SA.out SB.out
  have FW1 := Lib.hid (few1_any gB t K D A n c 300 wB w.heap.size e0.key BB.out (e0.reads.still (Nat.le_refl _) sAB) sAB.size e0.fit e0.cap e0.nil (by omega) (by omega))
  have G1B := Lib.hid (show g1 < wB.heap.size from by have h1 := BA.out.lt; have h2 := SB.out.size; omega)
  obtain ⟨v0, hv0⟩ : ∃ v0, v0 = Value.slice A n c := ⟨_, rfl⟩
  have HV0 := Lib.hid hv0
  have V0 := Lib.hid (show ∃ A n c, v0 = Value.slice A n c from ⟨_, _, _, hv0⟩)
  obtain ⟨D1, hD1⟩ : ∃ D1, D1 = D.take 300 := ⟨_, rfl⟩
  obtain ⟨n1, hn1⟩ : ∃ n1, n1 = D1.length := ⟨_, rfl⟩
  have N1 := Lib.hid (show n1 ≤ 300 by rw [hn1, hD1, List.length_take]; omega)
  have L1 := Lib.hid hn1
  rw [← hD1, ← hn1] at FW1
  rw [← hv0] at HWA HWB BA ⊢
  have FW1' := FW1
  clear FW1 hv0 hD1 hn1 hwA hwB hgB hg1 BB sAB hu T e0
  go_enter Tryd.func8, Tryd.ntmps8
  go_upto_region 1 with (guard_target =~ wpList _ _ _ (Oper.mk _ (Op.box _ _) _ _ _ _ :: _) _ _; go_must (refine wpList_box_val rfl 26 (.tmp 0) rfl (some 4) rfl (entV t K v0) rfl ?_))
  rw [← HWA.out, ← HG1.out]
  clear HWA
  go_wp2_with (first
    | (guard_target =~ wpList _ _ _ (Oper.mk (some 15) _ _ _ _ _ :: _) _ _; go_must (refine wpList_load_row rfl 26 (.tmp 4) rfl g1 rfl _ _ _ _ BA.out HU.out rfl (by rw [sizeEnt, entV_size _ _ _ KL.out]) ?_))
    | (guard_target =~ wpList _ _ _ (Oper.mk (some 16) _ _ _ _ _ :: _) _ _; go_must (refine wpList_boxE wA rfl (.tmp 15) rfl t K KL.out v0 V0.out rfl ?_; rw [← HWB.out, ← HGB.out])))
  refine FW1'.out.mono ?_
  rintro e w1 ⟨⟨ov, v1, rfl, oe, od⟩, s1⟩
  obtain ⟨gF, cF, rfl, rng⟩ := ent_of_own oe
  have RNG := Lib.hid rng
  have V1 := Lib.hid (show v1.oneCell' = true by rcases od.2 with ⟨h, _⟩ | ⟨_, _, _, h, _⟩ <;> (rw [h]; rfl))
  have B1 := Lib.hid (show Blk w1 g1 26 (entV t K v0) from (Blk.still (Blk.still BA.out SB.out) s1))
  obtain ⟨w2, hw2⟩ : ∃ w2, w2 = w1.setRow g1 (entV t K v1) := ⟨_, rfl⟩
  have B2 := Lib.hid (show Blk w2 g1 26 (entV t K v1) by rw [hw2]; exact setRow_heap _ _ _ _ _ _ B1.out)
  have od2 : w2.ownsRow wB.heap.size 5 1 v1 n1 (bytesV D1) := by rw [hw2]; exact own_setRow od G1B.out
  have S2 := Lib.hid (show Still w w2 by rw [hw2]; exact below_setRow (Still.trans SA.out (Still.trans SB.out s1)) (by rw [HG1.out]; exact Nat.le_refl _) _)
  obtain ⟨A1, c1, hv1, f1, f2, f3⟩ := own_form od2
  have RD1 := Lib.hid (show Reads w2 w2.heap.size A1 n1 D1 from Reads.of_own (hv1 ▸ od2))
  have F1 := Lib.hid (show n1 ≤ c1 ∧ c1 ≤ 9223372036854775807 ∧ (A1 = none → n1 = 0 ∧ c1 = 0) from ⟨f1, f2, f3⟩)
  have HV1 := Lib.hid hv1
  have VF1 := Lib.hid (show ∃ A n c, v1 = Value.slice A n c from ⟨_, _, _, hv1⟩)
  have HW2 := Lib.hid hw2
  have hn20 : n1 ≤ 1048576 := by have := N1.out; omega
  have ENC := Lib.hid (encode_any t K D1 A1 n1 c1 w2 _ KL.out RD1.out (Nat.le_refl _) (fun e => (F1.out.2.2 e).2) hn20 (HT.out _ S2.out))
  rw [← hv1] at ENC
  have ENC' := ENC
  obtain ⟨er, her⟩ : ∃ er, er = (encE t K D1).1 := ⟨_, rfl⟩
  obtain ⟨X, hX⟩ : ∃ X, X = (encE t K D1).2 := ⟨_, rfl⟩
  rw [← her, ← hX] at ENC'
  have XC := Lib.hid (show er ≠ 0 ∨ (er = 0 ∧ ckE t K D1.length = 0 ∧ X = bytE t K D1) from by
    rw [her, hX]
    unfold encE
    by_cases h : ckE t K D1.length = 0
    · rw [if_neg (by rw [h]; decide)]; exact .inr ⟨rfl, h, rfl⟩
    · rw [if_pos h]; exact .inl h)
  clear ENC her hX oe od od2 s1 rng hw2 hv1 f1 f2 f3 hn20 FW1' SA SB BA HWB HGB G1B HG1
  go_upto_region 2 with (first
    | (guard_target =~ wpList _ _ _ (Oper.mk (some 19) _ _ _ _ _ :: _) _ _; go_must (refine wpList_load_mid rfl 26 (.tmp 18) rfl gF 0 rfl (entL t K v1) _ RNG.out HU.out rfl (by rw [sizeEnt]; exact congrArg some (by have h := entV_size t K v1 KL.out; unfold entV at h; simpa using h.symm)) ?_))
    | (guard_target =~ wpList _ _ _ (Oper.mk none (Op.store _ _ _) _ _ _ _ :: _) _ _; go_must (refine wpList_store_rowTo rfl 26 (.tmp 4) (.tmp 19) rfl rfl g1 (entV t K v1) (by kernel_rfl) (by kernel_rfl) 26 _ B1.out (by rw [sizeEnt, entV_size _ _ _ KL.out]) (by rw [entV_size _ _ _ KL.out, entV_size _ _ _ KL.out]) (entV_one _ _ _ V1.out) ?_)))
  rw [← HW2.out]
  clear HW2 B1 RNG
  go_wp2_with (guard_target =~ wpList _ _ _ (Oper.mk (some 21) _ _ _ _ _ :: _) _ _; go_must (refine wpList_load_row rfl 26 (.tmp 4) rfl g1 rfl _ _ _ _ B2.out HU.out rfl (by rw [sizeEnt, entV_size _ _ _ KL.out]) ?_))
  refine ENC'.out.mono ?_
  rintro e w3 ⟨⟨vb, rfl, ob⟩, s3⟩
  have S3 := Lib.hid (Still.trans S2.out s3)
  have OB := Lib.hid (own_rebase0 ob S2.out.size)
  obtain ⟨Ab, cb, rfl, fb1, fb2, fb3⟩ := own_form ob
  clear ENC' s3 ob B2 RD1
  rcases XC.out with hne | ⟨he0, hck, hxb⟩
  · have b0 : (er == 0) = false := by simpa using hne
    have b1 : (er != 0) = true := by simpa using hne
    clear fb1 fb2 fb3 XC hne
    go_wp2_with fail
    refine (LV.out _ (HT.out _ S3.out)).mono ?_
    rintro e w4 ⟨rfl, s4⟩
    have S4 := Lib.hid (Still.trans S3.out s4)
    clear s4
    go_wp2_with fail
    go_ret
    exact ⟨rfl, S4.out⟩
  · subst he0
    have hz := szE_len KL.out hck
    have hX9 : X.length ≤ 341 ∧ 9 ≤ X.length := by
      rw [hxb, hz.1]
      unfold szE
      rw [if_neg (by rw [hck]; decide)]
      have := L1.out
      have := N1.out
      split <;> omega
    have RB := Lib.hid (rd_burst KL.out hck)
    rw [← hxb] at RB
    obtain ⟨n, hn⟩ : ∃ n, n = X.length := ⟨_, rfl⟩
    rw [← hn] at OB fb1 fb3 hX9 ⊢
    have LN := Lib.hid hn.symm
    have hnn : n ≤ 341 := hX9.1
    have hn9 : 9 ≤ n := hX9.2
    have NN := Lib.hid hX9
    have hl9 : ¬ n < 9 := by omega
    have b9 : decide ((n : Int) < 9) = false := by simp; omega
    obtain ⟨P, hP⟩ : ∃ P, P = pat ||| 1 := ⟨_, rfl⟩
    have hPv : bits BinOp.or IntKind.u32 (pat : Int) 1 = (P : Int) := by rw [hP]; exact u32_or_nat pat 1 PB.out (by omega)
    have hPb := Lib.hid (show P < 4294967296 by rw [hP]; exact Nat.or_lt_two_pow (n := 32) PB.out (by decide))
    have PO := Lib.hid (show P % 2 = 1 by
      have h := Nat.testBit_or pat 1 0
      rw [← hP] at h
      simpa [Nat.testBit_zero] using h)
    have W1 := Lib.hid (fun W => within_any span0 1 32 W (by omega))
    clear hP hX9 hxb hck hz hn fb2 fb3 fb1 XC
    go_wp2_with fail
    refine (W1.out _).mono ?_
    rintro e w4 ⟨⟨sp, hs1, hs2, rfl⟩, rfl⟩
    obtain ⟨sp, rfl⟩ := Int.eq_ofNat_of_zero_le (show 0 ≤ sp by omega)
    go_upto_region 8 with fail
    by_cases h9 : n = 9
    · subst h9
      have W9 := Lib.hid (fun W => within_else at0 72 71 W)
      clear hs1 hs2 hl9 b9 hnn hn9
      go_wp2_with fail
      refine (W9.out _).mono ?_
      rintro e w4 ⟨⟨y, rfl⟩, rfl⟩
      go_wp2_with fail
      refine (LV.out _ (HT.out _ S3.out)).mono ?_
      rintro e w4 ⟨rfl, s4⟩
      have S4 := Lib.hid (Still.trans S3.out s4)
      clear s4
      go_wp2_with fail
      go_ret
      exact ⟨rfl, S4.out⟩
    · have b99 : ((n : Int) == 9) = false := by simp; omega
      have W9 := Lib.hid (fun W => within_any at0 72 (8 * (n : Int) - 1) W (by omega))
      have i1 : IntKind.i64.wrap (8 * (n : Int)) = 8 * (n : Int) := by rw [IntKind.wrap_i64]; omega
      have i2 : IntKind.i64.wrap (8 * (n : Int) - 1) = 8 * (n : Int) - 1 := by rw [IntKind.wrap_i64]; omega
      have H9 := Lib.hid h9
      have HS := Lib.hid (And.intro hs1 hs2)
      clear h9 hs1 hs2 hl9 b9
      go_wp2_with fail
      refine (W9.out _).mono ?_
      rintro e w4 ⟨⟨at1, ha1, ha2, rfl⟩, rfl⟩
      obtain ⟨at1, rfl⟩ := Int.eq_ofNat_of_zero_le (show 0 ≤ at1 by omega)
      have h9 := H9.out
      obtain ⟨hs1, hs2⟩ := HS.out
      obtain ⟨g, cap, hv, hgb, hgl⟩ := OB.out.form (by omega)
      simp only [Value.slice.injEq] at hv
      obtain ⟨rfl, -, rfl⟩ := hv
      have hwg : w.heap.size ≤ g := hgb
      have own2 : w3.ownsRow w.heap.size 5 1 (.slice (some ⟨g, 0, none⟩) n cb) n (bytesV (xorBytes X (loBytes (P % 2 ^ 0 * 2 ^ at1) X.length))) := by
        have e : xorBytes X (loBytes (P % 2 ^ 0 * 2 ^ at1) X.length) = X := by
          rw [Nat.pow_zero, Nat.mod_one, Nat.zero_mul]
          apply List.ext_getElem
          · simp [xorBytes, loBytes_length]
          · intro i h1 h2
            simp only [xorBytes, List.getElem_zipWith, loBytes, List.getElem_map]
            simp
        rw [e]
        exact OB.out
      have hsp1 : 1 ≤ sp := by omega
      have hsp2 : sp ≤ 32 := by omega
      have hat : at1 + 1 ≤ 8 * n := by omega
      have AT := Lib.hid (show 72 ≤ at1 by omega)
      have OB2 := Lib.hid own2
      clear OB hs1 hs2 ha1 ha2 hgl hgb own2 h9 H9 HS W1 W9 i1 i2 hn9
      go_wp2_with fail
      go_loopw [11] (fun i wr => ∃ j : Nat, i = .int .i64 j ∧ j ≤ sp ∧ at1 + j ≤ 8 * n ∧ wr.ownsRow w.heap.size 5 1 (.slice (some ⟨g, 0, none⟩) n cb) n (bytesV (xorBytes X (loBytes (P % 2 ^ j * 2 ^ at1) X.length))) ∧ Still w wr) (fun i _ => sp - (intOf i).toNat)
      case atStart => exact ⟨0, rfl, Nat.zero_le _, by omega, OB2.out, S3.out⟩
      case round =>
        obtain ⟨j, rfl, hj1, hj2, own, st⟩ := hrel
        by_cases hlt : j < sp ∧ at1 + j < 8 * n
        · obtain ⟨d1, d2⟩ := hlt
          have d3 : (j : Int) < 8 * (n : Int) - (at1 : Int) := by omega
          have f3 : ((P : Int) / 2 ^ j) = ((P / 2 ^ j : Nat) : Int) := by simp
          have f4 := u32_low (P / 2 ^ j) (Nat.lt_of_le_of_lt (Nat.div_le_self _ _) hPb.out)
          have hmod : P % 2 ^ (j + 1) = P % 2 ^ j + (P / 2 ^ j % 2) * 2 ^ j := by rw [Nat.pow_succ, Nat.mod_mul, Nat.mul_comm (2 ^ j)]
          have b2 : P / 2 ^ j % 2 < 2 := by omega
          generalize P / 2 ^ j % 2 = q at f4 hmod b2
          generalize P / 2 ^ j = q2 at f3 f4
          by_cases hq : q = 1
          · subst hq
            have hk8 : (at1 + j) / 8 < n := by omega
            have hlen : (xorBytes X (loBytes (P % 2 ^ j * 2 ^ at1) X.length)).length = n := by have := own.1; rw [bytesV_length] at this; omega
            have c1' := own.cellAt ((at1 + j) / 8) (by omega)
            rw [bytesV_get _ _ (by omega)] at c1'
            have f1 := own.frozenAt ((at1 + j) / 8)
            have hstep := burst_step X at1 j (P % 2 ^ j) (Nat.mod_lt _ (Nat.two_pow_pos j)) (by rw [LN.out]; exact hk8)
            rw [Nat.one_mul] at hmod
            rw [← hmod] at hstep
            have st1 := (own.stored ((at1 + j) / 8) (.int .u8 (((xorBytes X (loBytes (P % 2 ^ j * 2 ^ at1) X.length)).getD ((at1 + j) / 8) 0 ^^^ UInt8.ofNat (2 ^ ((at1 + j) % 8))).toNat : Int))).1
            rw [bytesV_set, hstep] at st1
            have hd := ((xorBytes X (loBytes (P % 2 ^ j * 2 ^ at1) X.length)).getD ((at1 + j) / 8) 0).toNat_lt
            rw [UInt8.toNat_xor] at st1
            generalize ((xorBytes X (loBytes (P % 2 ^ j * 2 ^ at1) X.length)).getD ((at1 + j) / 8) 0).toNat = d at c1' st1 hd
            have ST1 := Lib.hid st1
            clear st1 hstep hmod own hlen
            go_wp2_with fail
            go_roundw
            case rel => exact ⟨j + 1, by go_num, by omega, by omega, by rw [burst_cast _ _ hd]; exact ST1.out, st.setCell (p := ⟨g, (at1 + j) / 8, none⟩) hwg _⟩
            case measure => simp [intOf]; omega
          · have hq0 : q = 0 := by omega
            subst hq0
            simp only [Nat.zero_mul, Nat.add_zero] at hmod
            rw [← hmod] at own
            have OW := Lib.hid own
            clear own hmod
            go_wp2_with fail
            go_roundw
            case rel => exact ⟨j + 1, by go_num, by omega, by omega, OW.out, st⟩
            case measure => simp [intOf]; omega
        · have hj0 : 1 ≤ j := by
            rcases Nat.eq_zero_or_pos j with h | h
            · subst h
              exact absurd ⟨by omega, by omega⟩ hlt
            · exact h
          have hseen := RB.out at1 j (P % 2 ^ j) (by omega) AT.out (by rw [LN.out]; omega) (Nat.mod_lt _ (Nat.two_pow_pos j)) (by
            have h1 : P % 2 ^ j % 2 = P % 2 := by
              obtain ⟨t, rfl⟩ : ∃ t, j = t + 1 := ⟨j - 1, by omega⟩
              rw [Nat.pow_succ, Nat.mul_comm, Nat.mod_mul_right_mod]
            have h2 := PO.out
            omega) _ rfl
          generalize xorBytes X (loBytes (P % 2 ^ j * 2 ^ at1) X.length) = lc at own hseen
          have key : (j < sp ∧ decide ((j : Int) < 8 * (n : Int) - (at1 : Int)) = false) ∨ ¬ j < sp := by
            by_cases d1 : j < sp
            · exact .inl ⟨d1, by simp; omega⟩
            · exact .inr d1
          have qc := Reads.of_own own
          have jf : n ≤ cb ∧ cb ≤ 9223372036854775807 := by
            obtain ⟨A', c', e', p1, p2, _⟩ := own_form own
            cases e'
            exact ⟨p1, p2⟩
          have RDX := Lib.hid (read_any (some ⟨g, 0, none⟩) n cb lc wr _ qc (Nat.le_refl _) (by omega) jf.1 jf.2 (HT.out _ st))
          rw [hseen.1, hseen.2.1, hseen.2.2.1, hseen.2.2.2.1, hseen.2.2.2.2] at RDX
          have RDX' := RDX
          have ST := Lib.hid st
          clear RDX own hlt hseen qc st OB2 jf
          rcases key with ⟨d1, d2⟩ | d1
          all_goals
            go_wp2_with fail
            refine RDX'.out.mono ?_
            rintro e w6 ⟨⟨v6, rfl, own6⟩, s6⟩
            have V6 := Lib.hid (show v6.oneCell' = true by rcases own6.2 with ⟨h, _⟩ | ⟨_, _, _, h, _⟩ <;> (rw [h]; rfl))
            obtain ⟨A6, c6, hv6, j1, j2, j3⟩ := own_form own6
            have R6 := Lib.hid (show Reads w6 w6.heap.size A6 0 [] from Reads.of_own (hv6 ▸ own6))
            have HV6 := Lib.hid hv6
            obtain ⟨g7, hg7⟩ : ∃ g7, g7 = w6.heap.size := ⟨_, rfl⟩
            obtain ⟨w7, hw7⟩ : ∃ w7, w7 = (w6.alloc (.cells #[.int .i64 0, .int .u8 0, .int .u8 0, .int .u8 0, .int .u8 0, .int .u8 0, .int .u8 0, .int .u8 0, .int .u8 0, .int .u8 0, .int .u8 0, .int .u8 0, .int .u8 0, .int .u8 0, .int .u8 0, .int .u8 0, .int .u8 0, .int .u8 0, .int .u8 0, .int .u8 0, .int .u8 0, .int .u8 0, .int .u8 0, .int .u8 0, .int .u8 0, .int .u8 0, .int .u8 0, .int .u8 0, .int .u8 0, .int .u8 0, .int .u8 0, .int .u8 0, .int .u8 0, .slice none 0 0] 26)).setRow w6.heap.size (entV 0 (List.replicate 32 0) v6) := ⟨_, rfl⟩
            have s67 : Still w6 w7 := by rw [hw7]; exact below_setRow ((Still.refl w6).alloc (Nat.le_refl _) _) (Nat.le_refl _) _
            have B7 := Lib.hid (show Blk w7 g7 26 (entV 0 (List.replicate 32 0) v6) by rw [hw7, hg7]; exact setRow_heap _ _ _ _ _ _ (heap_alloc_new w6 _))
            have S7 := Lib.hid (show Still w w7 from Still.trans ST.out (Still.trans s6 s67))
            have HW7 := Lib.hid hw7
            have HG7 := Lib.hid hg7
            have SE := Lib.hid (show Calls Tryd.prog 16 #[.agg (entV 0 (List.replicate 32 0) v6), .agg #[.int .i64 0, .int .u8 0, .int .u8 0, .int .u8 0, .int .u8 0, .int .u8 0, .int .u8 0, .int .u8 0, .int .u8 0, .int .u8 0, .int .u8 0, .int .u8 0, .int .u8 0, .int .u8 0, .int .u8 0, .int .u8 0, .int .u8 0, .int .u8 0, .int .u8 0, .int .u8 0, .int .u8 0, .int .u8 0, .int .u8 0, .int .u8 0, .int .u8 0, .int .u8 0, .int .u8 0, .int .u8 0, .int .u8 0, .int .u8 0, .int .u8 0, .int .u8 0, .int .u8 0, .slice none 0 0]] w7 fun e w' => e = .returned (.bool true) ∧ Still w7 w' from by
              rw [HV6.out]
              exact sameE_yes 0 (List.replicate 32 0) [] A6 none 0 c6 0 w7 _ 0 (by simp) (R6.out.still (Nat.le_refl _) s67) Reads.nil0 s67.size (Nat.zero_le _) (by omega))
            have SE' := SE
            clear SE own6 s6 hv6 hg7 hw7 s67 j1 j2 j3 RDX'
            go_upto_region 17 with (guard_target =~ wpList _ _ _ (Oper.mk none (Op.store _ _ _) _ _ _ _ :: _) _ _; go_must (refine wpList_store_rowTo rfl 26 (.tmp 12) (.tmp 88) rfl rfl w6.heap.size (entV 0 (List.replicate 32 0) v6) (by kernel_rfl) (by kernel_rfl) 26 _ (heap_alloc_new w6 _) (by rw [sizeEnt, entV_size _ _ _ (by simp)]) (by rw [entV_size _ _ _ (by simp)]; rfl) (entV_one _ _ _ V6.out) ?_))
            rw [← HW7.out, ← HG7.out]
            clear HW7
            go_wp2_with (guard_target =~ wpList _ _ _ (Oper.mk (some 98) _ _ _ _ _ :: _) _ _; go_must (refine load_rowG (by kernel_rfl) 26 (.tmp 12) rfl g7 rfl _ _ _ _ B7.out HU.out rfl (by rw [sizeEnt, entV_size _ _ _ (by simp)]) ?_))
            refine SE'.out.mono ?_
            rintro e w8 ⟨rfl, s8⟩
            have S8 := Lib.hid (Still.trans S7.out s8)
            clear s8 SE'
            go_wp2_with fail
            refine (LV.out _ (HT.out _ S8.out)).mono ?_
            rintro e w9 ⟨rfl, s9⟩
            have S9 := Lib.hid (Still.trans S8.out s9)
            clear s9
            go_wp2_with fail
            go_ret
            exact ⟨rfl, S9.out⟩
end Go.Proofs.YtchngfkbogcgaaaDoor
