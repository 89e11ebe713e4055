/- Contracts and facts, several texts in one. It proves no statement. -/
import Derived.Test.YtgbkpbmilaafgaaBkGu
import Derived.Test.YtgbkpbmilaafgaaBkGf
import Derived.Test.YtgbkpbmilaafgaaBkGl
import Derived.Test.YtgbkpbmilaafgaaBkGm
import Derived.Test.YtgbkpbmilaafgaaBkGn

/- Contract: bytes as rows (index), by the document. It proves no statement. -/



namespace Go.Proofs.Ytgbkpbmilaafgaa
open Go.RowKit
set_option linter.unusedVariables false
set_option linter.unusedSimpArgs false

theorem rdN0_i {b : List UInt8} (h : (kI.rdN b).2 ≠ 0) : (kI.rdN b).1 = 0 := by
  by_cases h1 : (kI.rd1 b).2 = 0
  · obtain ⟨_, _, _, _, e⟩ := rd1_inv h1
    unfold Kd.rdN at h ⊢
    rw [e] at h ⊢
    rw [if_neg (by simp)] at h ⊢
    split at h
    · rename_i hh; rw [if_pos hh]
    · simp at h
  · unfold Kd.rdN
    rw [if_pos h1]
    rcases why_i b with ⟨_, h2⟩ | ⟨_, ⟨_, h2⟩ | ⟨_, ⟨_, h2⟩ | ⟨_, ⟨_, h2⟩ | ⟨_, h2⟩ | ⟨_, h2⟩⟩⟩⟩ <;> rw [h2] at h1 ⊢
    exact absurd rfl h1
theorem rdNinv_i {b : List UInt8} (h : (kI.rdN b).2 = 0) : 12 ≤ b.length ∧ cntB b ≤ 65536 ∧ b.length = 20 + 44 * cntB b ∧ kI.rdN b = (cntB b, 0) := by
  by_cases h1 : (kI.rd1 b).2 = 0
  · obtain ⟨q1, _, q3, q4, e⟩ := rd1_inv h1
    refine ⟨q1, q3, q4, ?_⟩
    unfold Kd.rdN at h ⊢
    rw [e] at h ⊢
    rw [if_neg (by simp)] at h ⊢
    split at h
    · simp at h
    · rename_i hh; rw [if_neg hh]
  · unfold Kd.rdN at h
    rw [if_pos h1] at h
    exact absurd h h1
attribute [local irreducible] Go.wpQuiet
set_option maxRecDepth 100000 in
set_option maxHeartbeats 6400000 in
theorem refr_i {w : World} {A : Option Addr} {n c : Nat} {b : List UInt8} (hl : b.length = n) (hn : n ≤ 1048576) (hT : 12 ≤ n → ∃ ab ao, A = some ⟨ab, ao, none⟩ ∧ Tx w ab ao n c b) :
    Calls Try.prog 22 #[.slice A n c] w fun e w' => ∃ A' c', e = .returned (.tuple #[.slice A' (kI.rd b).1.length c', .int .i64 (kI.rd b).2]) ∧ RwRow kI w' A' (kI.rd b).1.length c' (kI.rd b).1 ∧ Still w w' := by
  have RW := Lib.hid (rows_i hl hn hT)
  by_cases h0 : (kI.rdN b).2 = 0
  case neg =>
    have RD := Lib.hid (show kI.rd b = ([], (kI.rdN b).2) from by unfold Kd.rd; rw [if_pos h0])
    have R0 := Lib.hid (rdN0_i h0)
    obtain ⟨ev, hev⟩ : ∃ ev, ev = (kI.rdN b).2 := ⟨_, rfl⟩
    rw [← hev] at h0 RD RW
    rw [R0.out] at RW
    have eb : (ev == 0) = false := by simpa using h0
    clear hev h0 hl hn hT
    go_enter Try.func22, Try.ntmps22
    go_wp2_with (go_at_call 43; with_reducible refine RW.out.mono ?_; rintro e w1 ⟨rfl, s1⟩; have S1 := Lib.hid s1; clear s1)
    go_loopw [6, 7] (fun ov iv wr => ov = .slice none 0 0 ∧ iv = .int .i64 0 ∧ Hid (Still w wr)) (fun _ _ _ => 1)
    case atStart => exact ⟨rfl, rfl, S1⟩
    case round =>
      obtain ⟨rfl, rfl, SW⟩ := hrel
      go_wp2_with fail
      (try simp only [Exit.inBlock, Exit.then])
      go_ret2
      rw [RD.out]
      exact ⟨none, 0, rfl, ⟨⟨fun i x hx => by simp at hx, rfl, Nat.le_refl _, by omega⟩, fun r hr => (by cases hr), fun r hr => (by cases hr)⟩, SW.out⟩
  case pos =>
    obtain ⟨q1, q3, q4, q5⟩ := rdNinv_i h0
    obtain ⟨ab, ao, rfl, tx⟩ := hT (by omega)
    obtain ⟨cn, hcn⟩ : ∃ cn, cn = cntB b := ⟨_, rfl⟩
    rw [← hcn] at q3 q4 q5
    rw [q5] at RW
    have RDN := Lib.hid q5
    have TX := Lib.hid (fun W (s : Still w W) => tx.still s)
    have LQ := Lib.hid (show n = 20 + 44 * cn by omega)
    have LB := Lib.hid hl
    have d5 : (cn : Int) ≤ 65536 := by omega
    have d6 : (n : Int) ≤ 1048576 := by omega
    have ROWS := Lib.hid (rows_all (k := kI) (b := b) (n := cn) (by show 12 + 44 * cn ≤ b.length; omega))
    obtain ⟨z0, hz0⟩ : ∃ z, z = (rowV zr_i).toArray := ⟨_, rfl⟩
    have HZI := Lib.hid (show (Try.prog.info? 66).map (fun i => (i.zero, i.size)) = some (some (.agg z0), 35) by rw [hz0]; exact zero_i)
    have ZS := Lib.hid (show z0.size = 35 by rw [hz0]; simp [rowV_length, zr_i])
    obtain ⟨fs, hu⟩ := under_i
    have UP := Lib.hid hu
    clear q1 q3 q4 q5 hcn tx hl hn hT h0 hz0 hu
    go_enter Try.func22, Try.ntmps22
    go_wp2_with (go_at_call 43; with_reducible refine RW.out.mono ?_; rintro e w1 ⟨rfl, s1⟩; have S1 := Lib.hid s1; clear s1)
    go_loopw [6, 7] (fun ov iv wr => ∃ (i : Nat) (v : Value), i ≤ cn ∧ v = ov ∧ iv = .int .i64 i ∧ Hid (wr.ownsRow w.heap.size 66 35 v i (rowsV (kI.rows b i)) ∧ kI.up (kI.rows b cn) i = true ∧ Still w wr)) (fun _ iv _ => cn - (intOf iv).toNat)
    case atStart => exact ⟨0, _, by omega, rfl, rfl, Lib.hid ⟨World.ownsRow_nil _ _ _ _, rfl, S1.out⟩⟩
    case round =>
      obtain ⟨i, v, hi, rfl, rfl, IN⟩ := hrel
      clear S1
      by_cases hlt : i < cn
      · have SW := Lib.hid IN.out.2.2
        obtain ⟨p, hp⟩ : ∃ p, p = 12 + 44 * i := ⟨_, rfl⟩
        have mw : 44 * (i : Int) = ((44 * i : Nat) : Int) := by omega
        obtain ⟨m, hm⟩ : ∃ m, m = 44 * i := ⟨_, rfl⟩
        rw [← hm] at mw
        have m1 : (m : Int) ≤ 2883584 := by omega
        have em2 : IntKind.i64.wrap (m : Int) = (m : Int) := by rw [IntKind.wrap_i64]; omega
        have ep : 12 + (m : Int) = (p : Int) := by omega
        have p2 : (p : Int) ≤ 2883596 := by omega
        have ep2 : IntKind.i64.wrap (p : Int) = (p : Int) := by rw [IntKind.wrap_i64]; omega
        obtain ⟨pa, hpa⟩ : ∃ q, q = p + 32 := ⟨_, rfl⟩
        obtain ⟨pb, hpb⟩ : ∃ q, q = p + 36 := ⟨_, rfl⟩
        obtain ⟨pc, hpc⟩ : ∃ q, q = p + 40 := ⟨_, rfl⟩
        have ea : (p : Int) + 32 = (pa : Int) := by omega
        have eb : (p : Int) + 36 = (pb : Int) := by omega
        have ec : (p : Int) + 40 = (pc : Int) := by omega
        have ewa : IntKind.i64.wrap (pa : Int) = (pa : Int) := by rw [IntKind.wrap_i64]; omega
        have ewb : IntKind.i64.wrap (pb : Int) = (pb : Int) := by rw [IntKind.wrap_i64]; omega
        have ewc : IntKind.i64.wrap (pc : Int) = (pc : Int) := by rw [IntKind.wrap_i64]; omega
        have AA := Lib.hid (fun W (s : Still w W) => rat_any (TX.out W s) pa (by have := LQ.out; omega))
        have AB := Lib.hid (fun W (s : Still w W) => rat_any (TX.out W s) pb (by have := LQ.out; omega))
        have AC := Lib.hid (fun W (s : Still w W) => rat_any (TX.out W s) pc (by have := LQ.out; omega))
        obtain ⟨x, hx⟩ : ∃ x, x = leNum ((b.drop pa).take 4) := ⟨_, rfl⟩
        obtain ⟨y, hy⟩ : ∃ x, x = leNum ((b.drop pb).take 4) := ⟨_, rfl⟩
        obtain ⟨z, hz⟩ : ∃ x, x = leNum ((b.drop pc).take 4) := ⟨_, rfl⟩
        obtain ⟨r, hr⟩ : ∃ r, r = kI.rowAt (b.drop (12 + 44 * i)) := ⟨_, rfl⟩
        have KK := Lib.hid (rkey_any (TX.out wr SW.out) p (by have := LQ.out; omega))
        obtain ⟨K, hK⟩ : ∃ K, K = (b.drop p).take 32 := ⟨_, rfl⟩
        have hKl : K.length = 32 := by rw [hK, List.length_take, List.length_drop]; have := LB.out; have := LQ.out; omega
        rw [← hK] at KK
        have ROW := Lib.hid (show r = (K, [(x : Int), (y : Int), (z : Int)]) from by
          rw [hr, ← hp]
          unfold Kd.rowAt
          show ((b.drop p).take 32, numsAt 3 ((b.drop p).drop 32)) = _
          simp only [numsAt, List.drop_drop]
          rw [hK, hx, hy, hz, hpa, hpb, hpc])
        simp only [← hx] at AA
        simp only [← hy] at AB
        simp only [← hz] at AC
        have OKr := Lib.hid (show kI.Ok r from by
          rw [hr]
          refine rowAt_ok ?_
          rw [List.length_drop]
          have := LB.out; have := LQ.out
          show 32 ≤ _
          omega)
        have RR := Lib.hid (show kI.rows b (i + 1) = kI.rows b i ++ [r] from by rw [rows_succ, hr]; rfl)
        have UPS := Lib.hid (show kI.up (kI.rows b cn) (i + 1) = (kI.up (kI.rows b cn) i && (decide (i = 0) || kI.lt ((kI.rows b cn).getD (i - 1) rw0) r)) from by
          show (kI.up (kI.rows b cn) i && (decide (i = 0) || kI.lt ((kI.rows b cn).getD (i - 1) rw0) ((kI.rows b cn).getD i rw0))) = _
          rw [show (kI.rows b cn).getD i rw0 = r by simp only [List.getD, rows_get hlt, Option.getD_some]; rw [hr]; rfl])
        obtain ⟨rv, hrv⟩ : ∃ rv, rv = (rowV r).toArray := ⟨_, rfl⟩
        have RV := Lib.hid hrv
        have RS := Lib.hid (show rv.size = 35 by rw [hrv]; simp only [List.size_toArray, rowV_length]; rw [OKr.out.1, OKr.out.2]; rfl)
        have RL := Lib.hid (show (rowV r).length = 35 by rw [rowV_length, OKr.out.1, OKr.out.2]; rfl)
        have R1 := Lib.hid (show rv.all (·.oneCell') = true by rw [hrv]; exact all_oneCell_toArray (rowV_one _))
        have SZL := Lib.hid (show (Try.prog.info? 66).map (·.size) = some (rowV r).length from by rw [sizeR_i, RL.out])
        have BT := Lib.hid (fun a1 a2 (a3 : Int) => built_i K hKl a1 a2 a3)
        have d1 : (i : Int) < (cn : Int) := by omega
        have HI := Lib.hid hlt
        have OW := Lib.hid IN.out.1
        have UI := Lib.hid IN.out.2.1
        clear hp hm hpa hpb hpc hx hy hz hr hrv IN hlt
        clear hK hKl
        obtain ⟨Av, cv, rfl, f1, f2, f3, rwv⟩ := RwRow.of_own (k := kI) OW.out (rows_len _ _) (fun r hr => ROWS.out.1 r (by
          obtain ⟨q, hq, rfl⟩ := List.mem_map.1 hr
          exact List.mem_map.2 ⟨q, by have := HI.out; simp at hq ⊢; omega, rfl⟩)) (rows_i64 b i)
        have RWV := Lib.hid rwv
        have VC := Lib.hid (And.intro f1 (And.intro f2 f3))
        have v1 : (i : Int) ≤ (cv : Int) := by omega
        clear rwv f1 f2 f3
        go_upto_region 8 with (first
          | (go_at_call 44; with_reducible refine KK.out.mono ?_; rintro e w2 ⟨rfl, s2⟩; have S2 := Lib.hid (show Still w w2 ∧ Still wr w2 from ⟨Still.trans SW.out s2, s2⟩); clear s2)
          | (go_at_call 45; first
              | (with_reducible refine (AA.out _ S2.out.1).mono ?_; rintro e w3 ⟨rfl, rfl⟩)
              | (with_reducible refine (AC.out _ S2.out.1).mono ?_; rintro e w3 ⟨rfl, rfl⟩)
              | (with_reducible refine (AB.out _ S2.out.1).mono ?_; rintro e w3 ⟨rfl, rfl⟩))
          | (guard_target =~ wpList _ _ _ (Oper.mk _ (Op.build 64 _) _ _ _ _ :: _) _ _; go_must (refine wpList_buildTo rfl 64 _ rfl (some 42) rfl #[.int .i64 (x : Int), .int .i64 (y : Int), .int .i64 (z : Int)] (by simp only [List.map_toArray, List.map_cons, List.map_nil]; exact built_i0 _ _ _) ?_))
          | (guard_target =~ wpList _ _ _ (Oper.mk _ (Op.build 66 _) _ _ _ _ :: _) _ _; go_must (refine wpList_buildTo rfl 66 _ rfl (some 43) rfl rv (by simp only [List.map_toArray, List.map_cons, List.map_nil]; rw [RV.out, ROW.out]; exact BT.out _ _ _) ?_))
          | (guard_target =~ wpList _ _ _ (Oper.mk (some 9) _ _ _ _ _ :: _) _ _; go_must (refine wpList_alloc_arr rfl 66 rfl (some 9) rfl z0 35 HZI.out ?_))
          | (guard_target =~ wpList _ _ _ (Oper.mk none (Op.store _ _ _) _ _ _ _ :: _) _ _; go_must (refine wpList_store_rowTo rfl 66 (.tmp 9) (.tmp 43) rfl rfl w2.heap.size rv rfl rfl 66 _ (heap_alloc_new _ _) (by rw [sizeR_i, RS.out]) (by rw [ZS.out, RS.out]) R1.out ?_); rw [World.setRow_alloc_new]))
        obtain ⟨wY, hwY⟩ : ∃ wY, wY = w2.alloc (.cells rv 66) := ⟨_, rfl⟩
        obtain ⟨gx, hgx⟩ : ∃ gx, gx = w2.heap.size := ⟨_, rfl⟩
        rw [← hwY, ← hgx]
        have sY : Still w2 wY := by rw [hwY]; exact (Still.refl _).alloc (Nat.le_refl _) _
        have bY : Blk wY gx 66 rv := by rw [hwY, hgx]; exact Blk.new _ _ _
        have SY := Lib.hid (show Still w wY ∧ Still wr wY from ⟨Still.trans S2.out.1 sY, Still.trans S2.out.2 sY⟩)
        have QXY := Lib.hid (fun W (s : Still wY W) => show W.rangeAt gx 0 (rowV r) from fun j u hj => by rw [Nat.zero_add, (bY.still s).cell, RV.out, List.getElem?_toArray, hj])
        clear hwY hgx sY bY
        by_cases hi0 : i = 0
        · subst hi0
          have NXU := Lib.hid (show kI.up (kI.rows b cn) (0 + 1) = true from by rw [UPS.out, UI.out]; rfl)
          go_upto_region 8 with fail
          refine wp_region_quiet_still wY (Still.refl _) (by kernel_rfl) (by kernel_rfl) ?_
          repeat (first
            | quiet_step ((fail)))
          refine wpQuiet_nil ?_
          intro wq hw'
          have SQY := Lib.hid (show Still wY wq from by obtain ⟨p, rfl⟩ := hw'; exact p.still)
          have SQ := Lib.hid (Still.trans SY.out.1 SQY.out)
          have OQ := Lib.hid (own_keep OW.out (Still.trans SY.out.2 SQY.out))
          have QX := Lib.hid (show wq.rangeAt gx 0 (rowV r) from QXY.out _ SQY.out)
          clear hw'
          go_simp
          go_wp2_with (first
            | (guard_target =~ wpList _ _ _ (Oper.mk (some 59) _ _ _ _ _ :: _) _ _; go_must (refine wpList_load_mid rfl 66 (.tmp 9) rfl gx 0 rfl (rowV r) _ QX.out UP.out rfl SZL.out ?_))
            | (guard_target =~ wpList _ _ _ (Oper.mk (some 60) _ _ _ _ _ :: _) _ _; go_must (refine wpList_boxG_i wq rfl (.tmp 59) rfl r OKr.out rfl ?_))
            | (guard_target =~ wpList _ _ _ (Oper.mk (some 61) _ _ _ _ _ :: _) _ _; go_must (refine wpList_pushG_i wq rfl (.tmp 58) (.tmp 60) rfl w.heap.size (.slice Av 0 cv) 0 (rowsV (kI.rows b 0)) rfl OQ.out (rowV r) RL.out (rowV_one r) rfl (by have := HI.out; omega) SQ.out.size ?_); intro v9 w9 own9 gr9; have O9 := Lib.hid own9; have S9 := Lib.hid (show Still w w9 from SQ.out.grown gr9 SQ.out.size (fun k hk => (OQ.out.lt k hk).1)); clear own9 gr9))
          go_roundw
          case rel => exact ⟨0 + 1, v9, HI.out, rfl, by go_num, Lib.hid ⟨by rw [RR.out, rowsV_snoc]; exact O9.out, NXU.out, S9.out⟩⟩
          case measure => simp [intOf]; have := HI.out; omega
        · obtain ⟨j, hj⟩ : ∃ j, i = j + 1 := ⟨i - 1, by omega⟩
          obtain ⟨a, ha⟩ : ∃ a, (kI.rows b i)[j]? = some a := ⟨_, List.getElem?_eq_getElem (by rw [rows_len]; omega)⟩
          have OAA := Lib.hid (RWV.out.ok a (List.mem_of_getElem? ha))
          obtain ⟨gq, oq, rfl, hgq, hrg⟩ := RWV.out.at_ ha
          have QB := Lib.hid (fun W (s : Still wr W) => show W.rangeAt gq (oq + j * 35) (rowV a) from fun q u hq => (s.cell (p := ⟨gq, oq + j * 35 + q, none⟩) hgq).trans (hrg q u hq))
          have e1 : (i : Int) - 1 = (j : Int) := by omega
          have ew : IntKind.i64.wrap (j : Int) = (j : Int) := by rw [IntKind.wrap_i64]; omega
          have ei : (0 : Int) < (i : Int) := by omega
          have eiN : 0 < i := by omega
          have j1 : (j : Int) < (i : Int) := by omega
          have UPQ := Lib.hid (show kI.up (kI.rows b cn) (i + 1) = kI.lt a r from by
            rw [UPS.out, UI.out, show (kI.rows b cn).getD (i - 1) rw0 = a from by
              rw [hj, Nat.add_sub_cancel]
              have h1 := ha
              rw [rows_get (by omega)] at h1
              simp only [List.getD, rows_get (show j < cn by have := HI.out; omega), Option.getD_some]
              exact Option.some.inj h1]
            simp [hi0])
          obtain ⟨q, hq⟩ : ∃ q, q = kI.lt a r := ⟨_, rfl⟩
          rw [← hq] at UPQ
          have LS := Lib.hid (fun W => rless_any a.1 r.1 W OAA.out.1 OKr.out.1)
          rw [show ltK a.1 r.1 = kI.lt a r from rfl, ← hq] at LS
          have SZA := Lib.hid (show (Try.prog.info? 62).map (·.size) = some (bytesV a.1).length from by rw [size32, bytesV_length, OAA.out.1]; rfl)
          have SZB := Lib.hid (show (Try.prog.info? 62).map (·.size) = some (bytesV r.1).length from by rw [size32, bytesV_length, OKr.out.1]; rfl)
          clear hj ha hq hi0 hgq hrg
          cases q
          · have BW := Lib.hid (show kI.rd b = ([], 18) from by
              unfold Kd.rd
              rw [RDN.out, if_neg (by simp)]
              simp only [up_no (kI.rows b cn) UPQ.out cn HI.out, if_true])
            go_upto_region 8 with fail
            refine wp_region_quiet_still wY (Still.refl _) (by kernel_rfl) (by kernel_rfl) ?_
            repeat (first
              | (guard_target =~ wpQuiet _ _ _ _ (Oper.mk (some 52) _ _ _ _ _ :: _) _; go_must (refine quiet_load_mid (by kernel_rfl) 62 (.tmp 51) rfl gq (oq + j * 35) (by kernel_rfl) (bytesV a.1) _ (fun W hW => by obtain ⟨p, rfl⟩ := hW; exact rangeAt_key (QB.out _ (Still.trans SY.out.2 p.still))) under32 rfl SZA.out ?_))
              | (guard_target =~ wpQuiet _ _ _ _ (Oper.mk (some 54) _ _ _ _ _ :: _) _; go_must (refine quiet_load_mid (by kernel_rfl) 62 (.tmp 53) rfl gx 0 (by kernel_rfl) (bytesV r.1) _ (fun W hW => by obtain ⟨p, rfl⟩ := hW; exact rangeAt_key (QXY.out _ p.still)) under32 rfl SZB.out ?_))
              | quiet_step ((go_at_call 37; exact Calls.stillby _ (LS.out _))))
            refine wpQuiet_nil ?_
            intro wq hw'
            have SQY := Lib.hid (show Still wY wq from by obtain ⟨p, rfl⟩ := hw'; exact p.still)
            have SQ := Lib.hid (Still.trans SY.out.1 SQY.out)
            clear hw'
            go_simp
            go_wp2_with fail
            (try simp only [Exit.inBlock, Exit.then])
            go_ret2
            rw [BW.out]
            exact ⟨none, 0, rfl, ⟨⟨fun i x hx => by simp at hx, rfl, Nat.le_refl _, by omega⟩, fun r hr => (by cases hr), fun r hr => (by cases hr)⟩, SQ.out⟩
          · have NXU := Lib.hid UPQ.out
            go_upto_region 8 with fail
            refine wp_region_quiet_still wY (Still.refl _) (by kernel_rfl) (by kernel_rfl) ?_
            repeat (first
              | (guard_target =~ wpQuiet _ _ _ _ (Oper.mk (some 52) _ _ _ _ _ :: _) _; go_must (refine quiet_load_mid (by kernel_rfl) 62 (.tmp 51) rfl gq (oq + j * 35) (by kernel_rfl) (bytesV a.1) _ (fun W hW => by obtain ⟨p, rfl⟩ := hW; exact rangeAt_key (QB.out _ (Still.trans SY.out.2 p.still))) under32 rfl SZA.out ?_))
              | (guard_target =~ wpQuiet _ _ _ _ (Oper.mk (some 54) _ _ _ _ _ :: _) _; go_must (refine quiet_load_mid (by kernel_rfl) 62 (.tmp 53) rfl gx 0 (by kernel_rfl) (bytesV r.1) _ (fun W hW => by obtain ⟨p, rfl⟩ := hW; exact rangeAt_key (QXY.out _ p.still)) under32 rfl SZB.out ?_))
              | quiet_step ((go_at_call 37; exact Calls.stillby _ (LS.out _))))
            refine wpQuiet_nil ?_
            intro wq hw'
            have SQY := Lib.hid (show Still wY wq from by obtain ⟨p, rfl⟩ := hw'; exact p.still)
            have SQ := Lib.hid (Still.trans SY.out.1 SQY.out)
            have OQ := Lib.hid (own_keep OW.out (Still.trans SY.out.2 SQY.out))
            have QX := Lib.hid (show wq.rangeAt gx 0 (rowV r) from QXY.out _ SQY.out)
            clear hw'
            clear e1 ew
            go_simp
            go_wp2_with (first
              | (guard_target =~ wpList _ _ _ (Oper.mk (some 59) _ _ _ _ _ :: _) _ _; go_must (refine wpList_load_mid rfl 66 (.tmp 9) rfl gx 0 rfl (rowV r) _ QX.out UP.out rfl SZL.out ?_))
              | (guard_target =~ wpList _ _ _ (Oper.mk (some 60) _ _ _ _ _ :: _) _ _; go_must (refine wpList_boxG_i wq rfl (.tmp 59) rfl r OKr.out rfl ?_))
              | (guard_target =~ wpList _ _ _ (Oper.mk (some 61) _ _ _ _ _ :: _) _ _; go_must (refine wpList_pushG_i wq rfl (.tmp 58) (.tmp 60) rfl w.heap.size (.slice (some ⟨gq, oq, none⟩) i cv) i (rowsV (kI.rows b i)) rfl OQ.out (rowV r) RL.out (rowV_one r) rfl (by have := HI.out; omega) SQ.out.size ?_); intro v9 w9 own9 gr9; have O9 := Lib.hid own9; have S9 := Lib.hid (show Still w w9 from SQ.out.grown gr9 SQ.out.size (fun k hk => (OQ.out.lt k hk).1)); clear own9 gr9))
            go_roundw
            case rel => exact ⟨i + 1, v9, HI.out, rfl, by go_num, Lib.hid ⟨by rw [RR.out, rowsV_snoc]; exact O9.out, NXU.out, S9.out⟩⟩
            case measure => simp [intOf]; have := HI.out; omega
      · have hin : i = cn := by omega
        subst hin
        have d1 : ¬ (i : Int) < (i : Int) := by omega
        have BW := Lib.hid (show kI.rd b = (kI.rows b i, 0) from by
          unfold Kd.rd
          rw [RDN.out, if_neg (by simp)]
          simp only [IN.out.2.1]
          simp)
        obtain ⟨Av, cv, rfl, f1, f2, f3, rwv⟩ := RwRow.of_own (k := kI) IN.out.1 (rows_len _ _) ROWS.out.1 (rows_i64 b i)
        have RWV := Lib.hid rwv
        have SW := Lib.hid IN.out.2.2
        clear IN hlt rwv f1 f2 f3
        go_wp2_with fail
        (try simp only [Exit.inBlock, Exit.then])
        go_ret2
        rw [BW.out]
        simp only [rows_len]
        exact ⟨Av, cv, rfl, RWV.out, SW.out⟩
end Go.Proofs.Ytgbkpbmilaafgaa

/- Contract: how many rows a book has (counts), by the document. It proves no statement. -/


namespace Go.Proofs.Ytgbkpbmilaafgaa
open Go.RowKit
set_option linter.unusedVariables false
set_option linter.unusedSimpArgs false

/-- Why there are no rows, if there are none. -/
theorem why_c (b : List UInt8) : b.length < 12 ∧ kC.rd1 b = (0, 3) ∨ 12 ≤ b.length ∧ (b.take 8 ≠ kC.nm ∧ kC.rd1 b = (0, 4) ∨ b.take 8 = kC.nm ∧ (65536 < cntB b ∧ kC.rd1 b = (0, 4) ∨ cntB b ≤ 65536 ∧ (b.length < 20 + 40 * cntB b ∧ kC.rd1 b = (0, 3) ∨ 20 + 40 * cntB b < b.length ∧ kC.rd1 b = (0, 6) ∨ b.length = 20 + 40 * cntB b ∧ kC.rd1 b = (cntB b, 0)))) := by
  unfold Kd.rd1
  rw [show kC.wide = 40 from rfl]
  by_cases h1 : b.length < 12
  · exact .inl ⟨h1, if_pos h1⟩
  · refine .inr ⟨by omega, ?_⟩
    rw [if_neg h1]
    by_cases h2 : b.take 8 = kC.nm
    · refine .inr ⟨h2, ?_⟩
      by_cases h3 : 65536 < cntB b
      · exact .inl ⟨h3, if_pos (.inr h3)⟩
      · refine .inr ⟨by omega, ?_⟩
        rw [if_neg (by rintro (h | h); exact h h2; exact h3 h)]
        by_cases h4 : b.length < 20 + 40 * cntB b
        · exact .inl ⟨h4, if_pos h4⟩
        · rw [if_neg h4]
          by_cases h5 : 20 + 40 * cntB b < b.length
          · exact .inr (.inl ⟨h5, if_pos h5⟩)
          · exact .inr (.inr ⟨by omega, if_neg h5⟩)
    · exact .inl ⟨h2, if_pos (.inl h2)⟩
theorem rdN_err_c {b : List UInt8} {e : Int} (h : kC.rd1 b = (0, e)) (he : e ≠ 0) : kC.rdN b = (0, e) := by
  unfold Kd.rdN
  rw [h, if_pos he]
set_option maxRecDepth 100000 in
set_option maxHeartbeats 3200000 in
theorem rows_c {w : World} {A : Option Addr} {n c : Nat} {b : List UInt8} (hl : b.length = n) (hn : n ≤ 1048576) (hT : 12 ≤ n → ∃ ab ao, A = some ⟨ab, ao, none⟩ ∧ Tx w ab ao n c b) :
    Calls Try.prog 43 #[.string ⟨#[72, 79, 65, 82, 68, 82, 69, 70]⟩, .int .i64 40, .slice A n c] w fun e w' => e = .returned (.tuple #[.int .i64 ((kC.rdN b).1 : Nat), .int .i64 (kC.rdN b).2]) ∧ Still w w' := by
  have d4 : (n : Int) ≤ 1048576 := by omega
  rcases why_c b with ⟨h1, h2⟩ | ⟨h1, hR⟩
  · have E := Lib.hid (rdN_err_c h2 (by decide))
    have d1 : (n : Int) < 12 := by omega
    rw [E.out]
    clear h1 h2 hT hl hn
    go_enter Try.func43, Try.ntmps43
    go_wp2_with fail
    (try simp only [Exit.inBlock, Exit.then])
    go_ret2
    exact ⟨rfl, Still.refl _⟩
  · obtain ⟨ab, ao, rfl, tx⟩ := hT (by omega)
    have d1 : ¬ (n : Int) < 12 := by omega
    have d3 : (n : Int) ≤ (c : Int) := by have := tx.fit; omega
    have c12 : (12 : Int) ≤ (c : Int) := by omega
    have c8 : ¬ c = 8 := by have := tx.fit; omega
    have RG := Lib.hid (fun c' => rget_yes (some ⟨ab, ao + 8, none⟩) 4 c' ((b.drop 8).take 4) w _ (tx.mid (p := 8) (k := 4) (by omega)) (by omega) (by omega))
    have hc4 := leNum4 (b.drop 8)
    obtain ⟨cn, hcn⟩ : ∃ cn, cn = leNum ((b.drop 8).take 4) := ⟨_, rfl⟩
    simp only [← hcn] at RG
    rw [← hcn] at hc4
    rw [show cntB b = cn from hcn.symm] at hR
    have kc := conv_reads (tx.rd.takek (k := 8) (by omega)) c
    obtain ⟨sv, hsv⟩ : ∃ sv : ByteArray, sv = ⟨(b.take 8).toArray⟩ := ⟨_, rfl⟩
    have SV := Lib.hid (show sv.toList = b.take 8 by rw [ByteArray.toList_eq, hsv])
    rw [← hsv] at kc
    have d5 : (cn : Int) ≤ 4294967295 := by omega
    have LB := Lib.hid hl
    have TX := Lib.hid tx
    clear hcn hsv hc4 hT tx hn hl h1
    rcases hR with ⟨h1, h2⟩ | ⟨h1, ⟨h2, h3⟩ | ⟨h2, hR⟩⟩
    · have E := Lib.hid (rdN_err_c h2 (by decide))
      have ns : ¬ sv.toList = [72, 79, 65, 82, 68, 82, 69, 70] := by rw [SV.out]; exact h1
      rw [E.out]
      clear h1 h2
      go_enter Try.func43, Try.ntmps43
      go_wp2_with (go_at_call 70; with_reducible refine (RG.out _).mono ?_; rintro e w1 ⟨rfl, rfl⟩)
      (try simp only [Exit.inBlock, Exit.then])
      go_ret2
      exact ⟨rfl, Still.refl _⟩
    · have E := Lib.hid (rdN_err_c h3 (by decide))
      have ns : sv.toList = [72, 79, 65, 82, 68, 82, 69, 70] := by rw [SV.out]; exact h1
      have d6 : (65536 : Int) < (cn : Int) := by omega
      rw [E.out]
      clear h1 h2 h3
      go_enter Try.func43, Try.ntmps43
      go_wp2_with (go_at_call 70; with_reducible refine (RG.out _).mono ?_; rintro e w1 ⟨rfl, rfl⟩)
      (try simp only [Exit.inBlock, Exit.then])
      go_ret2
      exact ⟨rfl, Still.refl _⟩
    · have ns : sv.toList = [72, 79, 65, 82, 68, 82, 69, 70] := by rw [SV.out]; exact h1
      have d6 : ¬ (65536 : Int) < (cn : Int) := by omega
      have d7 : (cn : Int) ≤ 65536 := by omega
      obtain ⟨m, hm⟩ : ∃ m, m = cn * 40 := ⟨_, rfl⟩
      have em : (cn : Int) * 40 = (m : Int) := by omega
      have m1 : (m : Int) ≤ 2883584 := by omega
      have em2 : IntKind.i64.wrap (m : Int) = (m : Int) := by rw [IntKind.wrap_i64]; omega
      rcases hR with ⟨h3, h4⟩ | ⟨h3, h4⟩ | ⟨h3, h4⟩
      · have E := Lib.hid (rdN_err_c h4 (by decide))
        have d8 : (n : Int) < 20 + (m : Int) := by have := LB.out; omega
        rw [E.out]
        clear h1 h2 h3 h4 hm
        go_enter Try.func43, Try.ntmps43
        go_wp2_with (go_at_call 70; with_reducible refine (RG.out _).mono ?_; rintro e w1 ⟨rfl, rfl⟩)
        (try simp only [Exit.inBlock, Exit.then])
        go_ret2
        exact ⟨rfl, Still.refl _⟩
      · have E := Lib.hid (rdN_err_c h4 (by decide))
        have d8 : ¬ (n : Int) < 20 + (m : Int) := by have := LB.out; omega
        have d9 : 20 + (m : Int) < (n : Int) := by have := LB.out; omega
        rw [E.out]
        clear h1 h2 h3 h4 hm
        go_enter Try.func43, Try.ntmps43
        go_wp2_with (go_at_call 70; with_reducible refine (RG.out _).mono ?_; rintro e w1 ⟨rfl, rfl⟩)
        (try simp only [Exit.inBlock, Exit.then])
        go_ret2
        exact ⟨rfl, Still.refl _⟩
      · have d8 : ¬ (n : Int) < 20 + (m : Int) := by have := LB.out; omega
        have d9 : ¬ 20 + (m : Int) < (n : Int) := by have := LB.out; omega
        obtain ⟨p, hp⟩ : ∃ p, p = 12 + 40 * cn := ⟨_, rfl⟩
        have ep : 12 + (m : Int) = (p : Int) := by omega
        have p0 : (0 : Int) ≤ (p : Int) := by omega
        have hnp : n = p + 8 := by have := LB.out; omega
        have p1 : (p : Int) < (n : Int) := by omega
        have p2 : (p : Int) ≤ (c : Int) := by omega
        have p3 : (p : Int) < (c : Int) := by omega
        have cp : ¬ c = p := by omega
        have np : (n : Int) - (p : Int) = 8 := by omega
        have np2 : n - p = 8 := by omega
        have RG2 := Lib.hid (fun c' => by
          have := rget_yes (some ⟨ab, ao + p, none⟩) 8 c' ((b.drop p).take 8) w _ (TX.out.mid (p := p) (k := 8) (by omega)) (by omega) (by omega)
          rw [List.take_of_length_le (by rw [List.length_drop]; have := LB.out; omega)] at this
          exact this)
        have XS := Lib.hid (rsum_any (some ⟨ab, ao, none⟩) p c (b.take p) 0 w w.heap.size (TX.out.rd.takek (k := p) (by omega)) (Nat.le_refl _) (by have := TX.out.len; omega) (by have := TX.out.fit; omega) (by decide))
        obtain ⟨q1, hq1⟩ : ∃ q, q = leNum (b.drop p) := ⟨_, rfl⟩
        obtain ⟨q2, hq2⟩ : ∃ q, q = xxSum (b.take p) 0 := ⟨_, rfl⟩
        simp only [← hq1] at RG2
        simp only [← hq2, show ((0 : Nat) : Int) = 0 from rfl] at XS
        have RDN := Lib.hid (show kC.rdN b = if q1 = q2 then (cn, 0) else (0, 13) from by
          unfold Kd.rdN
          rw [h4, if_neg (by simp)]
          simp only [show kC.wide = 40 from rfl, ← hp, ← hq1, ← hq2, ne_eq, ite_not])
        clear h1 h2 h3 h4 hm hp hnp hq1 hq2
        by_cases hq : q1 = q2
        · subst hq
          have E := Lib.hid (show kC.rdN b = (cn, 0) by rw [RDN.out, if_pos rfl])
          rw [E.out]
          clear RDN
          go_enter Try.func43, Try.ntmps43
          go_wp2_with (first
            | (go_at_call 70; first
                | (with_reducible refine (RG.out _).mono ?_; rintro e w1 ⟨rfl, rfl⟩)
                | (with_reducible refine (RG2.out _).mono ?_; rintro e w1 ⟨rfl, rfl⟩))
            | (go_at_call 64; with_reducible refine XS.out.mono ?_; rintro e w2 ⟨rfl, s2⟩; have S2 := Lib.hid s2; clear s2))
          (try simp only [Exit.inBlock, Exit.then])
          go_ret2
          exact ⟨rfl, S2.out⟩
        · have E := Lib.hid (show kC.rdN b = (0, 13) by rw [RDN.out, if_neg hq])
          have nq : ¬ (q1 : Int) = (q2 : Int) := by omega
          have nq2 : ((q1 : Int) != (q2 : Int)) = true := by simp; omega
          rw [E.out]
          clear RDN hq
          go_enter Try.func43, Try.ntmps43
          go_wp2_with (first
            | (go_at_call 70; first
                | (with_reducible refine (RG.out _).mono ?_; rintro e w1 ⟨rfl, rfl⟩)
                | (with_reducible refine (RG2.out _).mono ?_; rintro e w1 ⟨rfl, rfl⟩))
            | (go_at_call 64; with_reducible refine XS.out.mono ?_; rintro e w2 ⟨rfl, s2⟩; have S2 := Lib.hid s2; clear s2))
          (try simp only [Exit.inBlock, Exit.then])
          go_ret2
          exact ⟨rfl, S2.out⟩
end Go.Proofs.Ytgbkpbmilaafgaa

/- Rows (counts) that grow: '[]T{x}', 'append(row, x)'. It proves no statement. -/


namespace Go.Proofs.Ytgbkpbmilaafgaa
open Go.RowKit
set_option linter.unusedVariables false
set_option linter.unusedSimpArgs false

def zr_c : Rw := (List.replicate 32 0, List.replicate 2 0)
theorem infoG_c : (Try.prog.info? 77).map (fun i => (i.zero, i.size, i.bytes)) = some (some (.agg (rowV zr_c).toArray), 34, 48) := by kernel_rfl
set_option maxRecDepth 100000 in
theorem fillG_c (r : Rw) (ok : kC.Ok r) :
    Instr.fill (fun i => some (i * 34, 34)) ((Array.range (1 * 34)).map ((Value.agg (rowV zr_c).toArray).cells[· % (Value.agg (rowV zr_c).toArray).cells.size]!)) [(0, .agg (rowV r).toArray)] = some (rowV r).toArray := by
  obtain ⟨K, N⟩ := r
  obtain ⟨hK, hN⟩ := ok
  simp only at hK hN
  obtain ⟨x, y, rfl⟩ : ∃ x y, N = [x, y] := by
    match N, hN with
    | [x, y], _ => exact ⟨x, y, rfl⟩
  obtain ⟨k0, k1, k2, k3, k4, k5, k6, k7, k8, k9, k10, k11, k12, k13, k14, k15, k16, k17, k18, k19, k20, k21, k22, k23, k24, k25, k26, k27, k28, k29, k30, k31, rfl⟩ := list32 K hK
  kernel_rfl
theorem wpList_boxG_c (w : World) {ops : Array Oper} {rest : List Oper} {o : Oper} {a : Act} {Q : Exit → Act → World → Prop} (hgd : o.guard = none) (x : Operand)
    (ho : o.op = .buildSlice 23 1 #[(0, x)]) (r : Rw) (ok : kC.Ok r) (hx : a.eval x = .agg (rowV r).toArray)
    (h : wpList Try.prog ops Q rest (a.put o.dst (.slice (some ⟨w.heap.size, 0, none⟩) 1 1)) (w.alloc (.cells (rowV r).toArray 77))) : wpList Try.prog ops Q (o :: rest) a w := by
  refine wpList_plain hgd fun _ hQ => ?_
  obtain ⟨i0, hi, hz0, hz1, hz2⟩ := info_parts infoG_c
  refine wp_buildSlice 23 77 1 #[(0, x)] ho (rowV r).toArray i0 _ Try.underlying23 hi hz0 (by rw [hz1]; decide) (by rw [hz1]; decide) ?_ (hQ _ _ h)
  rw [hz1]
  simp only [List.map_toArray, List.map_cons, List.map_nil, hx]
  exact fillG_c r ok
theorem wpList_pushG_c (w : World) {ops : Array Oper} {rest : List Oper} {o : Oper} {a : Act} {Q : Exit → Act → World → Prop} (hgd : o.guard = none) (s x : Operand)
    (ho : o.op = .call { callee := .builtin .append, args := #[s, x], argTypes := #[23, 23] })
    (base : Nat) (v : Value) (n : Nat) (xs : List Value) (hs : a.eval s = v) (hown : w.ownsRow base 77 34 v n xs) (cs : List Value) (hc6 : cs.length = 34) (h1 : ∀ u ∈ cs, u.oneCell' = true)
    (hx : a.eval x = .slice (some ⟨w.heap.size, 0, none⟩) 1 1) (hn : n ≤ 1048576) (hbase : base ≤ w.heap.size)
    (h : ∀ v' w', w'.ownsRow base 77 34 v' (n + 1) (xs ++ cs) → w.grownBy w' v.ownBlock → wpList Try.prog ops Q rest (a.put o.dst v') w') :
    wpList Try.prog ops Q (o :: rest) a (w.alloc (.cells cs.toArray 77)) := by
  refine wpList_plain hgd fun _ hQ => ?_
  obtain ⟨i0, hi, hz0, hz1, hz2⟩ := info_parts infoG_c
  obtain ⟨v', w', hrun, h2, h3, _, h5⟩ := run_append_own_at (P := Try.prog) (w.alloc (.cells cs.toArray 77)) base 23 o.type 77 i0 _ 34 48 Try.underlying23 hi hz0 hz1 hz2 rfl (by decide) v n xs (hown.alloc _) ⟨w.heap.size, 0, none⟩ 1 1 cs (by rw [hc6]) (fun j u hu => by
    rw [Addr.add_mid, Nat.zero_add, (Blk.new w _ _).cell, List.getElem?_toArray]; exact hu) h1 (by unfold maxLen; omega) (by omega) (by simp; omega)
  unfold Oper.wp execOp
  simp only [ho, resolve, invoke, builtin, Sem.run_bind, Sem.run_pure, Result.andThen_ok, List.map_toArray, List.map_cons, List.map_nil, hs, hx, hrun]
  refine hQ _ _ (h v' w' h2 ⟨h3.os, h3.tape, h3.output, by have := h3.size; simp at this; omega, fun k hk hne => ?_⟩)
  rw [h3.block k (by simp; omega) hne]
  exact Below.heap_alloc w _ k hk
end Go.Proofs.Ytgbkpbmilaafgaa
