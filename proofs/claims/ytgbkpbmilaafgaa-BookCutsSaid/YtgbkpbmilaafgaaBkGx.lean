/- Contracts and facts, several texts in one. It proves no statement. -/
import Derived.Test.YtgbkpbmilaafgaaBkGw
import Derived.Test.YtgbkpbmilaafgaaBkGp
import Derived.Test.YtgbkpbmilaafgaaBkGe
import Derived.Test.YtgbkpbmilaafgaaBkGb
import Derived.Laws.StructEq
import Derived.ChangeKeysEq
import Derived.Test.YtgbkpbmilaafgaaBkGf
import Derived.Test.YtgbkpbmilaafgaaBkGn

/- Contract: bytes as rows (uses), by the document. It proves no statement. -/



namespace Go.Proofs.Ytgbkpbmilaafgaa
open Go.RowKit
set_option linter.unusedVariables false
set_option linter.unusedSimpArgs false

theorem rdN0_u {b : List UInt8} (h : (kU.rdN b).2 ≠ 0) : (kU.rdN b).1 = 0 := by
  by_cases h1 : (kU.rd1 b).2 = 0
  · obtain ⟨_, _, _, _, e⟩ := rd1_inv h1
    unfold Kd.rdN at h ⊢
    rw [e] at h ⊢
    rw [if_neg (by simp)] at h ⊢
    split at h
    · rename_i hh; rw [if_pos hh]
    · simp at h
  · unfold Kd.rdN
    rw [if_pos h1]
    rcases why_u b with ⟨_, h2⟩ | ⟨_, ⟨_, h2⟩ | ⟨_, ⟨_, h2⟩ | ⟨_, ⟨_, h2⟩ | ⟨_, h2⟩ | ⟨_, h2⟩⟩⟩⟩ <;> rw [h2] at h1 ⊢
    exact absurd rfl h1
theorem rdNinv_u {b : List UInt8} (h : (kU.rdN b).2 = 0) : 12 ≤ b.length ∧ cntB b ≤ 65536 ∧ b.length = 20 + 12 * cntB b ∧ kU.rdN b = (cntB b, 0) := by
  by_cases h1 : (kU.rd1 b).2 = 0
  · obtain ⟨q1, _, q3, q4, e⟩ := rd1_inv h1
    refine ⟨q1, q3, q4, ?_⟩
    unfold Kd.rdN at h ⊢
    rw [e] at h ⊢
    rw [if_neg (by simp)] at h ⊢
    split at h
    · simp at h
    · rename_i hh; rw [if_neg hh]
  · unfold Kd.rdN at h
    rw [if_pos h1] at h
    exact absurd h h1
attribute [local irreducible] Go.wpQuiet
set_option maxRecDepth 100000 in
set_option maxHeartbeats 6400000 in
theorem refr_u {w : World} {A : Option Addr} {n c : Nat} {b : List UInt8} (hl : b.length = n) (hn : n ≤ 1048576) (hT : 12 ≤ n → ∃ ab ao, A = some ⟨ab, ao, none⟩ ∧ Tx w ab ao n c b) :
    Calls Try.prog 24 #[.slice A n c] w fun e w' => ∃ A' c', e = .returned (.tuple #[.slice A' (kU.rd b).1.length c', .int .i64 (kU.rd b).2]) ∧ RwRow kU w' A' (kU.rd b).1.length c' (kU.rd b).1 ∧ Still w w' := by
  have RW := Lib.hid (rows_u hl hn hT)
  by_cases h0 : (kU.rdN b).2 = 0
  case neg =>
    have RD := Lib.hid (show kU.rd b = ([], (kU.rdN b).2) from by unfold Kd.rd; rw [if_pos h0])
    have R0 := Lib.hid (rdN0_u h0)
    obtain ⟨ev, hev⟩ : ∃ ev, ev = (kU.rdN b).2 := ⟨_, rfl⟩
    rw [← hev] at h0 RD RW
    rw [R0.out] at RW
    have eb : (ev == 0) = false := by simpa using h0
    clear hev h0 hl hn hT
    go_enter Try.func24, Try.ntmps24
    go_wp2_with (go_at_call 43; with_reducible refine RW.out.mono ?_; rintro e w1 ⟨rfl, s1⟩; have S1 := Lib.hid s1; clear s1)
    go_loopw [6, 7] (fun ov iv wr => ov = .slice none 0 0 ∧ iv = .int .i64 0 ∧ Hid (Still w wr)) (fun _ _ _ => 1)
    case atStart => exact ⟨rfl, rfl, S1⟩
    case round =>
      obtain ⟨rfl, rfl, SW⟩ := hrel
      go_wp2_with fail
      (try simp only [Exit.inBlock, Exit.then])
      go_ret2
      rw [RD.out]
      exact ⟨none, 0, rfl, ⟨⟨fun i x hx => by simp at hx, rfl, Nat.le_refl _, by omega⟩, fun r hr => (by cases hr), fun r hr => (by cases hr)⟩, SW.out⟩
  case pos =>
    obtain ⟨q1, q3, q4, q5⟩ := rdNinv_u h0
    obtain ⟨ab, ao, rfl, tx⟩ := hT (by omega)
    obtain ⟨cn, hcn⟩ : ∃ cn, cn = cntB b := ⟨_, rfl⟩
    rw [← hcn] at q3 q4 q5
    rw [q5] at RW
    have RDN := Lib.hid q5
    have TX := Lib.hid (fun W (s : Still w W) => tx.still s)
    have LQ := Lib.hid (show n = 20 + 12 * cn by omega)
    have LB := Lib.hid hl
    have d5 : (cn : Int) ≤ 65536 := by omega
    have d6 : (n : Int) ≤ 1048576 := by omega
    have ROWS := Lib.hid (rows_all (k := kU) (b := b) (n := cn) (by show 12 + 12 * cn ≤ b.length; omega))
    obtain ⟨z0, hz0⟩ : ∃ z, z = (rowV zr_u).toArray := ⟨_, rfl⟩
    have HZI := Lib.hid (show (Try.prog.info? 86).map (fun i => (i.zero, i.size)) = some (some (.agg z0), 3) by rw [hz0]; exact zero_u)
    have ZS := Lib.hid (show z0.size = 3 by rw [hz0]; simp [rowV_length, zr_u])
    obtain ⟨fs, hu⟩ := under_u
    have UP := Lib.hid hu
    clear q1 q3 q4 q5 hcn tx hl hn hT h0 hz0 hu
    go_enter Try.func24, Try.ntmps24
    go_wp2_with (go_at_call 43; with_reducible refine RW.out.mono ?_; rintro e w1 ⟨rfl, s1⟩; have S1 := Lib.hid s1; clear s1)
    go_loopw [6, 7] (fun ov iv wr => ∃ (i : Nat) (v : Value), i ≤ cn ∧ v = ov ∧ iv = .int .i64 i ∧ Hid (wr.ownsRow w.heap.size 86 3 v i (rowsV (kU.rows b i)) ∧ kU.up (kU.rows b cn) i = true ∧ Still w wr)) (fun _ iv _ => cn - (intOf iv).toNat)
    case atStart => exact ⟨0, _, by omega, rfl, rfl, Lib.hid ⟨World.ownsRow_nil _ _ _ _, rfl, S1.out⟩⟩
    case round =>
      obtain ⟨i, v, hi, rfl, rfl, IN⟩ := hrel
      clear S1
      by_cases hlt : i < cn
      · have SW := Lib.hid IN.out.2.2
        obtain ⟨p, hp⟩ : ∃ p, p = 12 + 12 * i := ⟨_, rfl⟩
        have mw : 12 * (i : Int) = ((12 * i : Nat) : Int) := by omega
        obtain ⟨m, hm⟩ : ∃ m, m = 12 * i := ⟨_, rfl⟩
        rw [← hm] at mw
        have m1 : (m : Int) ≤ 2883584 := by omega
        have em2 : IntKind.i64.wrap (m : Int) = (m : Int) := by rw [IntKind.wrap_i64]; omega
        have ep : 12 + (m : Int) = (p : Int) := by omega
        have p2 : (p : Int) ≤ 2883596 := by omega
        have ep2 : IntKind.i64.wrap (p : Int) = (p : Int) := by rw [IntKind.wrap_i64]; omega
        obtain ⟨pa, hpa⟩ : ∃ q, q = p := ⟨_, rfl⟩
        obtain ⟨pb, hpb⟩ : ∃ q, q = p + 4 := ⟨_, rfl⟩
        obtain ⟨pc, hpc⟩ : ∃ q, q = p + 8 := ⟨_, rfl⟩
        have ea : (p : Int) = (pa : Int) := by omega
        have eb : (pa : Int) + 4 = (pb : Int) := by omega
        have ec : (pa : Int) + 8 = (pc : Int) := by omega
        have ewa : IntKind.i64.wrap (pa : Int) = (pa : Int) := by rw [IntKind.wrap_i64]; omega
        have ewb : IntKind.i64.wrap (pb : Int) = (pb : Int) := by rw [IntKind.wrap_i64]; omega
        have ewc : IntKind.i64.wrap (pc : Int) = (pc : Int) := by rw [IntKind.wrap_i64]; omega
        have AA := Lib.hid (fun W (s : Still w W) => rat_any (TX.out W s) pa (by have := LQ.out; omega))
        have AB := Lib.hid (fun W (s : Still w W) => rat_any (TX.out W s) pb (by have := LQ.out; omega))
        have AC := Lib.hid (fun W (s : Still w W) => rat_any (TX.out W s) pc (by have := LQ.out; omega))
        obtain ⟨x, hx⟩ : ∃ x, x = leNum ((b.drop pa).take 4) := ⟨_, rfl⟩
        obtain ⟨y, hy⟩ : ∃ x, x = leNum ((b.drop pb).take 4) := ⟨_, rfl⟩
        obtain ⟨z, hz⟩ : ∃ x, x = leNum ((b.drop pc).take 4) := ⟨_, rfl⟩
        obtain ⟨r, hr⟩ : ∃ r, r = kU.rowAt (b.drop (12 + 12 * i)) := ⟨_, rfl⟩
        have ROW := Lib.hid (show r = ([], [(x : Int), (y : Int), (z : Int)]) from by
          rw [hr, ← hp]
          unfold Kd.rowAt
          show ((b.drop p).take 0, numsAt 3 ((b.drop p).drop 0)) = _
          simp only [numsAt, List.drop_drop, List.take_zero, List.drop_zero, Nat.add_zero]
          rw [hx, hy, hz, hpa, hpb, hpc])
        simp only [← hx] at AA
        simp only [← hy] at AB
        simp only [← hz] at AC
        have OKr := Lib.hid (show kU.Ok r from by
          rw [hr]
          refine rowAt_ok ?_
          rw [List.length_drop]
          have := LB.out; have := LQ.out
          show 0 ≤ _
          omega)
        have RR := Lib.hid (show kU.rows b (i + 1) = kU.rows b i ++ [r] from by rw [rows_succ, hr]; rfl)
        have UPS := Lib.hid (show kU.up (kU.rows b cn) (i + 1) = (kU.up (kU.rows b cn) i && (decide (i = 0) || kU.lt ((kU.rows b cn).getD (i - 1) rw0) r)) from by
          show (kU.up (kU.rows b cn) i && (decide (i = 0) || kU.lt ((kU.rows b cn).getD (i - 1) rw0) ((kU.rows b cn).getD i rw0))) = _
          rw [show (kU.rows b cn).getD i rw0 = r by simp only [List.getD, rows_get hlt, Option.getD_some]; rw [hr]; rfl])
        obtain ⟨rv, hrv⟩ : ∃ rv, rv = (rowV r).toArray := ⟨_, rfl⟩
        have RV := Lib.hid hrv
        have RS := Lib.hid (show rv.size = 3 by rw [hrv]; simp only [List.size_toArray, rowV_length]; rw [OKr.out.1, OKr.out.2]; rfl)
        have RL := Lib.hid (show (rowV r).length = 3 by rw [rowV_length, OKr.out.1, OKr.out.2]; rfl)
        have R1 := Lib.hid (show rv.all (·.oneCell') = true by rw [hrv]; exact all_oneCell_toArray (rowV_one _))
        have SZL := Lib.hid (show (Try.prog.info? 86).map (·.size) = some (rowV r).length from by rw [sizeR_u, RL.out])
        have d1 : (i : Int) < (cn : Int) := by omega
        have HI := Lib.hid hlt
        have OW := Lib.hid IN.out.1
        have UI := Lib.hid IN.out.2.1
        clear hp hm hpa hpb hpc hx hy hz hr hrv IN hlt
        obtain ⟨Av, cv, rfl, f1, f2, f3, rwv⟩ := RwRow.of_own (k := kU) OW.out (rows_len _ _) (fun r hr => ROWS.out.1 r (by
          obtain ⟨q, hq, rfl⟩ := List.mem_map.1 hr
          exact List.mem_map.2 ⟨q, by have := HI.out; simp at hq ⊢; omega, rfl⟩)) (rows_i64 b i)
        have RWV := Lib.hid rwv
        have VC := Lib.hid (And.intro f1 (And.intro f2 f3))
        have v1 : (i : Int) ≤ (cv : Int) := by omega
        clear rwv f1 f2 f3
        have S2 := Lib.hid (show Still w wr ∧ Still wr wr from ⟨SW.out, Still.refl _⟩)
        go_upto_region 8 with (first
          | (go_at_call 45; first
              | (with_reducible refine (AA.out _ S2.out.1).mono ?_; rintro e w3 ⟨rfl, rfl⟩)
              | (with_reducible refine (AC.out _ S2.out.1).mono ?_; rintro e w3 ⟨rfl, rfl⟩)
              | (with_reducible refine (AB.out _ S2.out.1).mono ?_; rintro e w3 ⟨rfl, rfl⟩))
          | (guard_target =~ wpList _ _ _ (Oper.mk _ (Op.build 86 _) _ _ _ _ :: _) _ _; go_must (refine wpList_buildTo rfl 86 _ rfl (some 38) rfl rv (by simp only [List.map_toArray, List.map_cons, List.map_nil]; rw [RV.out, ROW.out]; exact built_u _ _ _) ?_))
          | (guard_target =~ wpList _ _ _ (Oper.mk (some 9) _ _ _ _ _ :: _) _ _; go_must (refine wpList_alloc_arr rfl 86 rfl (some 9) rfl z0 3 HZI.out ?_))
          | (guard_target =~ wpList _ _ _ (Oper.mk none (Op.store _ _ _) _ _ _ _ :: _) _ _; go_must (refine wpList_store_rowTo rfl 86 (.tmp 9) (.tmp 38) rfl rfl wr.heap.size rv rfl rfl 86 _ (heap_alloc_new _ _) (by rw [sizeR_u, RS.out]) (by rw [ZS.out, RS.out]) R1.out ?_); rw [World.setRow_alloc_new]))
        obtain ⟨wY, hwY⟩ : ∃ wY, wY = wr.alloc (.cells rv 86) := ⟨_, rfl⟩
        obtain ⟨gx, hgx⟩ : ∃ gx, gx = wr.heap.size := ⟨_, rfl⟩
        rw [← hwY, ← hgx]
        have sY : Still wr wY := by rw [hwY]; exact (Still.refl _).alloc (Nat.le_refl _) _
        have bY : Blk wY gx 86 rv := by rw [hwY, hgx]; exact Blk.new _ _ _
        have SY := Lib.hid (show Still w wY ∧ Still wr wY from ⟨Still.trans S2.out.1 sY, Still.trans S2.out.2 sY⟩)
        have QXY := Lib.hid (fun W (s : Still wY W) => show W.rangeAt gx 0 (rowV r) from fun j u hj => by rw [Nat.zero_add, (bY.still s).cell, RV.out, List.getElem?_toArray, hj])
        clear hwY hgx sY bY
        by_cases hi0 : i = 0
        · subst hi0
          have NXU := Lib.hid (show kU.up (kU.rows b cn) (0 + 1) = true from by rw [UPS.out, UI.out]; rfl)
          go_upto_region 8 with fail
          refine wp_region_quiet_still wY (Still.refl _) (by kernel_rfl) (by kernel_rfl) ?_
          repeat (first
            | quiet_step ((fail)))
          refine wpQuiet_nil ?_
          intro wq hw'
          have SQY := Lib.hid (show Still wY wq from by obtain ⟨p, rfl⟩ := hw'; exact p.still)
          have SQ := Lib.hid (Still.trans SY.out.1 SQY.out)
          have OQ := Lib.hid (own_keep OW.out (Still.trans SY.out.2 SQY.out))
          have QX := Lib.hid (show wq.rangeAt gx 0 (rowV r) from QXY.out _ SQY.out)
          clear hw'
          go_simp
          go_wp2_with (first
            | (guard_target =~ wpList _ _ _ (Oper.mk (some 53) _ _ _ _ _ :: _) _ _; go_must (refine wpList_load_mid rfl 86 (.tmp 9) rfl gx 0 rfl (rowV r) _ QX.out UP.out rfl SZL.out ?_))
            | (guard_target =~ wpList _ _ _ (Oper.mk (some 54) _ _ _ _ _ :: _) _ _; go_must (refine wpList_boxG_u wq rfl (.tmp 53) rfl r OKr.out rfl ?_))
            | (guard_target =~ wpList _ _ _ (Oper.mk (some 55) _ _ _ _ _ :: _) _ _; go_must (refine wpList_pushG_u wq rfl (.tmp 52) (.tmp 54) rfl w.heap.size (.slice Av 0 cv) 0 (rowsV (kU.rows b 0)) rfl OQ.out (rowV r) RL.out (rowV_one r) rfl (by have := HI.out; omega) SQ.out.size ?_); intro v9 w9 own9 gr9; have O9 := Lib.hid own9; have S9 := Lib.hid (show Still w w9 from SQ.out.grown gr9 SQ.out.size (fun k hk => (OQ.out.lt k hk).1)); clear own9 gr9))
          go_roundw
          case rel => exact ⟨0 + 1, v9, HI.out, rfl, by go_num, Lib.hid ⟨by rw [RR.out, rowsV_snoc]; exact O9.out, NXU.out, S9.out⟩⟩
          case measure => simp [intOf]; have := HI.out; omega
        · obtain ⟨j, hj⟩ : ∃ j, i = j + 1 := ⟨i - 1, by omega⟩
          obtain ⟨a, ha⟩ : ∃ a, (kU.rows b i)[j]? = some a := ⟨_, List.getElem?_eq_getElem (by rw [rows_len]; omega)⟩
          have OAA := Lib.hid (RWV.out.ok a (List.mem_of_getElem? ha))
          obtain ⟨gq, oq, rfl, hgq, hrg⟩ := RWV.out.at_ ha
          have QB := Lib.hid (fun W (s : Still wr W) => show W.rangeAt gq (oq + j * 3) (rowV a) from fun q u hq => (s.cell (p := ⟨gq, oq + j * 3 + q, none⟩) hgq).trans (hrg q u hq))
          have e1 : (i : Int) - 1 = (j : Int) := by omega
          have ew : IntKind.i64.wrap (j : Int) = (j : Int) := by rw [IntKind.wrap_i64]; omega
          have ei : (0 : Int) < (i : Int) := by omega
          have eiN : 0 < i := by omega
          have j1 : (j : Int) < (i : Int) := by omega
          have UPQ := Lib.hid (show kU.up (kU.rows b cn) (i + 1) = kU.lt a r from by
            rw [UPS.out, UI.out, show (kU.rows b cn).getD (i - 1) rw0 = a from by
              rw [hj, Nat.add_sub_cancel]
              have h1 := ha
              rw [rows_get (by omega)] at h1
              simp only [List.getD, rows_get (show j < cn by have := HI.out; omega), Option.getD_some]
              exact Option.some.inj h1]
            simp [hi0])
          obtain ⟨q, hq⟩ : ∃ q, q = kU.lt a r := ⟨_, rfl⟩
          rw [← hq] at UPQ
          obtain ⟨xa, ya, za, hxa⟩ : ∃ x y z, a.2 = [x, y, z] := by
            match hq : a.2, OAA.out.2 with
            | [x, y, z], _ => exact ⟨x, y, z, rfl⟩
          have QLT := Lib.hid (show q = decide (xa < (x : Int)) from by
            rw [hq]
            show decide (a.2.getD 0 0 < r.2.getD 0 0) = _
            rw [hxa, ROW.out]; rfl)
          have ka : ∀ p : StillBy wY, p.W.cell? ⟨gq, oq + j * 3, none⟩ = some (.int .i64 xa) := fun p => by
            have c0 := rangeAt_num (QB.out p.W (Still.trans SY.out.2 p.still)) (j := 0) (z := xa) (by rw [hxa]; rfl)
            rwa [OAA.out.1] at c0
          have kr : ∀ p : StillBy wY, p.W.cell? ⟨gx, 0, none⟩ = some (.int .i64 (x : Int)) := fun p => by
            have c0 := rangeAt_num (QXY.out p.W p.still) (j := 0) (z := (x : Int)) (by rw [ROW.out]; rfl)
            rwa [OKr.out.1] at c0
          clear hxa
          clear hj ha hq hi0 hgq hrg
          cases q
          · have BW := Lib.hid (show kU.rd b = ([], 18) from by
              unfold Kd.rd
              rw [RDN.out, if_neg (by simp)]
              simp only [up_no (kU.rows b cn) UPQ.out cn HI.out, if_true])
            have ql : (x : Int) ≤ xa := by
              have := QLT.out
              simp at this; omega
            go_upto_region 8 with fail
            refine wp_region_quiet_still wY (Still.refl _) (by kernel_rfl) (by kernel_rfl) ?_
            repeat (first
              | quiet_step ((fail)))
            refine wpQuiet_nil ?_
            intro wq hw'
            have SQY := Lib.hid (show Still wY wq from by obtain ⟨p, rfl⟩ := hw'; exact p.still)
            have SQ := Lib.hid (Still.trans SY.out.1 SQY.out)
            clear hw'
            go_simp
            go_wp2_with fail
            (try simp only [Exit.inBlock, Exit.then])
            go_ret2
            rw [BW.out]
            exact ⟨none, 0, rfl, ⟨⟨fun i x hx => by simp at hx, rfl, Nat.le_refl _, by omega⟩, fun r hr => (by cases hr), fun r hr => (by cases hr)⟩, SQ.out⟩
          · have NXU := Lib.hid UPQ.out
            have ql : ¬ (x : Int) ≤ xa := by
              have := QLT.out
              simp at this; omega
            have ql2 : decide ((x : Int) ≤ xa) = false := by simp; omega
            go_upto_region 8 with fail
            refine wp_region_quiet_still wY (Still.refl _) (by kernel_rfl) (by kernel_rfl) ?_
            repeat (first
              | quiet_step ((fail)))
            refine wpQuiet_nil ?_
            intro wq hw'
            have SQY := Lib.hid (show Still wY wq from by obtain ⟨p, rfl⟩ := hw'; exact p.still)
            have SQ := Lib.hid (Still.trans SY.out.1 SQY.out)
            have OQ := Lib.hid (own_keep OW.out (Still.trans SY.out.2 SQY.out))
            have QX := Lib.hid (show wq.rangeAt gx 0 (rowV r) from QXY.out _ SQY.out)
            clear hw'
            clear e1 ew
            clear ka kr ql ql2
            go_simp
            go_wp2_with (first
              | (guard_target =~ wpList _ _ _ (Oper.mk (some 53) _ _ _ _ _ :: _) _ _; go_must (refine wpList_load_mid rfl 86 (.tmp 9) rfl gx 0 rfl (rowV r) _ QX.out UP.out rfl SZL.out ?_))
              | (guard_target =~ wpList _ _ _ (Oper.mk (some 54) _ _ _ _ _ :: _) _ _; go_must (refine wpList_boxG_u wq rfl (.tmp 53) rfl r OKr.out rfl ?_))
              | (guard_target =~ wpList _ _ _ (Oper.mk (some 55) _ _ _ _ _ :: _) _ _; go_must (refine wpList_pushG_u wq rfl (.tmp 52) (.tmp 54) rfl w.heap.size (.slice (some ⟨gq, oq, none⟩) i cv) i (rowsV (kU.rows b i)) rfl OQ.out (rowV r) RL.out (rowV_one r) rfl (by have := HI.out; omega) SQ.out.size ?_); intro v9 w9 own9 gr9; have O9 := Lib.hid own9; have S9 := Lib.hid (show Still w w9 from SQ.out.grown gr9 SQ.out.size (fun k hk => (OQ.out.lt k hk).1)); clear own9 gr9))
            go_roundw
            case rel => exact ⟨i + 1, v9, HI.out, rfl, by go_num, Lib.hid ⟨by rw [RR.out, rowsV_snoc]; exact O9.out, NXU.out, S9.out⟩⟩
            case measure => simp [intOf]; have := HI.out; omega
      · have hin : i = cn := by omega
        subst hin
        have d1 : ¬ (i : Int) < (i : Int) := by omega
        have BW := Lib.hid (show kU.rd b = (kU.rows b i, 0) from by
          unfold Kd.rd
          rw [RDN.out, if_neg (by simp)]
          simp only [IN.out.2.1]
          simp)
        obtain ⟨Av, cv, rfl, f1, f2, f3, rwv⟩ := RwRow.of_own (k := kU) IN.out.1 (rows_len _ _) ROWS.out.1 (rows_i64 b i)
        have RWV := Lib.hid rwv
        have SW := Lib.hid IN.out.2.2
        clear IN hlt rwv f1 f2 f3
        go_wp2_with fail
        (try simp only [Exit.inBlock, Exit.then])
        go_ret2
        rw [BW.out]
        simp only [rows_len]
        exact ⟨Av, cv, rfl, RWV.out, SW.out⟩
end Go.Proofs.Ytgbkpbmilaafgaa

/- A row of a book is equal to itself. It proves no statement. -/




namespace Go.Proofs.Ytgbkpbmilaafgaa
open Go.RowKit
set_option linter.unusedVariables false
set_option linter.unusedSimpArgs false
set_option maxRecDepth 100000

theorem run_part_agg {P : Program} (w : World) {e : TypeId} {d : TypeDesc} {i : TypeInfo} {k : Nat} (hu : P.underlying e = some d) (ha : (match d with | .struct _ | .array _ _ => true | _ => false) = true) (hi : P.info? e = some i) (hk : P.cellsOf e = k) (xs : Array Value) (off : Nat) :
    (part e xs off).run P w = .ok (.agg (xs.extract off (off + k))) w := by
  have h1 : (isAgg e).run P w = .ok true w := by
    cases d <;> simp at ha <;> simp [isAgg, run_underlying hu]
  simp [part, h1, run_sizeOf w hi, hk]
theorem eqFields_agg {P : Program} (w : World) (d : Nat) (xs ys : Array Value) (f : Field) (fs : List Field) (hn : (f.name ≠ "_") = True) {a b : Value} (ha : (part f.type xs f.offset).run P w = .ok a w) (hb : (part f.type ys f.offset).run P w = .ok b w) (he : (Op.equalIn d f.type a b).run P w = .ok true w) :
    (Op.eqFields d xs ys (f :: fs)).run P w = (Op.eqFields d xs ys fs).run P w := by
  have hn' : f.name ≠ "_" := of_eq_true hn
  simp [Op.eqFields, hn', ha, hb, he]
theorem ex_key (r : Rw) {m : Nat} (h : r.1.length = m) : (rowV r).toArray.extract 0 (0 + m) = (bytesV r.1).toArray := by
  apply Array.toList_inj.1
  simp only [Array.toList_extract, List.extract_eq_take_drop, List.drop_zero]
  rw [rowV, List.take_append_of_le_length (by rw [bytesV_length]; omega), List.take_of_length_le (by rw [bytesV_length]; omega)]
theorem ex_num (r : Rw) {l m : Nat} (h : r.1.length = l) (h' : r.2.length = m) : (rowV r).toArray.extract l (l + m) = (r.2.map (Value.int .i64)).toArray := by
  apply Array.toList_inj.1
  simp only [Array.toList_extract, List.extract_eq_take_drop]
  rw [rowV, List.drop_append_of_le_length (by rw [bytesV_length]; omega), List.drop_of_length_le (by rw [bytesV_length]; omega), List.nil_append, List.take_of_length_le (by rw [List.length_map]; omega)]
theorem eq_ints {w : World} {d : Nat} (x : List Int) (fs : List Field) (hf : ∀ f ∈ fs, f.type = 3 ∧ f.offset < x.length ∧ f.name ≠ "_") :
    (Op.eqFields (d + 1) (x.map (Value.int .i64)).toArray (x.map (Value.int .i64)).toArray fs).run Try.prog w = .ok true w := by
  induction fs with
  | nil => simp [Op.eqFields]
  | cons f fs ih =>
    obtain ⟨ht, ho, hn⟩ := hf f (by simp)
    have hv : ((x.map (Value.int .i64)).toArray)[f.offset]? = some (.int .i64 x[f.offset]) := by simp [ho]
    have hp := run_part_plain (P := Try.prog) w (e := f.type) (by rw [ht]; kernel_rfl) hv
    rw [eqFields_agg w (d + 1) _ _ f fs (by simp [hn]) hp hp ?_]
    · exact ih (fun g hg => hf g (by simp [hg]))
    · rw [run_equalIn_int w d f.type .i64 .i64 _ _ (by rw [ht]; exact Try.underlying3)]
      simp
theorem eq_place {w : World} {D : Nat} (d : Nat) (hD : D = d + 2) {x : List Int} (hx : x.length = 3) :
    (Op.equalIn D 64 (.agg (x.map (Value.int .i64)).toArray) (.agg (x.map (Value.int .i64)).toArray)).run Try.prog w = .ok true w := by
  subst hD
  have hs : Try.prog.underlying 64 = some (.struct (Try.prog.fieldsOf 64)) := by unfold Program.fieldsOf; rw [Try.underlying64]
  rw [run_equalIn_struct w (d + 1) _ _ _ hs (by kernel_rfl)]
  refine eq_ints x _ (fun f hf => ?_)
  unfold Program.fieldsOf at hf
  rw [Try.underlying64] at hf
  simp only [List.mem_cons, List.not_mem_nil, or_false] at hf
  rcases hf with rfl | rfl | rfl <;> simp [hx]
theorem eq_count {w : World} {D : Nat} (d : Nat) (hD : D = d + 2) {x : List Int} (hx : x.length = 2) :
    (Op.equalIn D 75 (.agg (x.map (Value.int .i64)).toArray) (.agg (x.map (Value.int .i64)).toArray)).run Try.prog w = .ok true w := by
  subst hD
  have hs : Try.prog.underlying 75 = some (.struct (Try.prog.fieldsOf 75)) := by unfold Program.fieldsOf; rw [Try.underlying75]
  rw [run_equalIn_struct w (d + 1) _ _ _ hs (by kernel_rfl)]
  refine eq_ints x _ (fun f hf => ?_)
  unfold Program.fieldsOf at hf
  rw [Try.underlying75] at hf
  simp only [List.mem_cons, List.not_mem_nil, or_false] at hf
  rcases hf with rfl | rfl <;> simp [hx]
theorem eq_use {w : World} {D : Nat} (d : Nat) (hD : D = d + 2) {x : List Int} (hx : x.length = 3) :
    (Op.equalIn D 86 (.agg (x.map (Value.int .i64)).toArray) (.agg (x.map (Value.int .i64)).toArray)).run Try.prog w = .ok true w := by
  subst hD
  have hs : Try.prog.underlying 86 = some (.struct (Try.prog.fieldsOf 86)) := by unfold Program.fieldsOf; rw [Try.underlying86]
  rw [run_equalIn_struct w (d + 1) _ _ _ hs (by kernel_rfl)]
  refine eq_ints x _ (fun f hf => ?_)
  unfold Program.fieldsOf at hf
  rw [Try.underlying86] at hf
  simp only [List.mem_cons, List.not_mem_nil, or_false] at hf
  rcases hf with rfl | rfl | rfl <;> simp [hx]
theorem eqR_i {w : World} {r : Rw} (hr : kI.Ok r) :
    (Op.equalIn 10000 66 (.agg (rowV r).toArray) (.agg (rowV r).toArray)).run Try.prog w = .ok true w := by
  have hs : Try.prog.underlying 66 = some (.struct (Try.prog.fieldsOf 66)) := by unfold Program.fieldsOf; rw [Try.underlying66]
  have h1 : r.1.length = 32 := hr.1
  have h2 : r.2.length = 3 := hr.2
  rw [run_equalIn_struct w 9999 _ _ _ hs (by kernel_rfl)]
  unfold Program.fieldsOf
  rw [Try.underlying66]
  obtain ⟨i1, hi1⟩ : ∃ i, Try.prog.info? 62 = some i := ⟨_, rfl⟩
  obtain ⟨i2, hi2⟩ : ∃ i, Try.prog.info? 64 = some i := ⟨_, rfl⟩
  obtain ⟨D, hD⟩ : ∃ D : Nat, D = 9999 := ⟨_, rfl⟩
  rw [← hD]
  have p1 := run_part_agg (P := Try.prog) w under32 rfl hi1 Try.cells_id (rowV r).toArray 0
  have p2 := run_part_agg (P := Try.prog) w Try.underlying64 rfl hi2 Try.cells_place (rowV r).toArray 32
  rw [ex_key r h1] at p1
  rw [ex_num r h1 h2] at p2
  have q2 := eq_place (w := w) (D := D) 9997 (by rw [hD]) h2
  have q1 : (Op.equalIn D 62 (.agg (bytesV r.1).toArray) (.agg (bytesV r.1).toArray)).run Try.prog w = .ok true w := by
    obtain ⟨E, hE⟩ : ∃ E, D = E + 2 := ⟨9997, hD⟩
    rw [hE]
    have h := run_equalIn_bytes w E 62 5 32 under32 (by kernel_rfl) sizeByteRun r.1 r.1 h1 h1
    refine h.trans ?_
    congr 1
    simp
  clear hD
  generalize (rowV r).toArray = R at *
  generalize (bytesV r.1).toArray = R1 at *
  generalize (r.2.map (Value.int .i64)).toArray = R2 at *
  simp only [Op.eqFields, Sem.run_bind, Sem.run_ite, p1, p2, q1, q2, Result.andThen_ok]
  simp
theorem eqR_c {w : World} {r : Rw} (hr : kC.Ok r) :
    (Op.equalIn 10000 77 (.agg (rowV r).toArray) (.agg (rowV r).toArray)).run Try.prog w = .ok true w := by
  have hs : Try.prog.underlying 77 = some (.struct (Try.prog.fieldsOf 77)) := by unfold Program.fieldsOf; rw [Try.underlying77]
  have h1 : r.1.length = 32 := hr.1
  have h2 : r.2.length = 2 := hr.2
  rw [run_equalIn_struct w 9999 _ _ _ hs (by kernel_rfl)]
  unfold Program.fieldsOf
  rw [Try.underlying77]
  obtain ⟨i1, hi1⟩ : ∃ i, Try.prog.info? 62 = some i := ⟨_, rfl⟩
  obtain ⟨i2, hi2⟩ : ∃ i, Try.prog.info? 75 = some i := ⟨_, rfl⟩
  obtain ⟨D, hD⟩ : ∃ D : Nat, D = 9999 := ⟨_, rfl⟩
  rw [← hD]
  have p1 := run_part_agg (P := Try.prog) w under32 rfl hi1 Try.cells_id (rowV r).toArray 0
  have p2 := run_part_agg (P := Try.prog) w Try.underlying75 rfl hi2 Try.cells_count (rowV r).toArray 32
  rw [ex_key r h1] at p1
  rw [ex_num r h1 h2] at p2
  have q2 := eq_count (w := w) (D := D) 9997 (by rw [hD]) h2
  have q1 : (Op.equalIn D 62 (.agg (bytesV r.1).toArray) (.agg (bytesV r.1).toArray)).run Try.prog w = .ok true w := by
    obtain ⟨E, hE⟩ : ∃ E, D = E + 2 := ⟨9997, hD⟩
    rw [hE]
    have h := run_equalIn_bytes w E 62 5 32 under32 (by kernel_rfl) sizeByteRun r.1 r.1 h1 h1
    refine h.trans ?_
    congr 1
    simp
  clear hD
  generalize (rowV r).toArray = R at *
  generalize (bytesV r.1).toArray = R1 at *
  generalize (r.2.map (Value.int .i64)).toArray = R2 at *
  simp only [Op.eqFields, Sem.run_bind, Sem.run_ite, p1, p2, q1, q2, Result.andThen_ok]
  simp
theorem eqR_u {w : World} {r : Rw} (hr : kU.Ok r) :
    (Op.equalIn 10000 86 (.agg (rowV r).toArray) (.agg (rowV r).toArray)).run Try.prog w = .ok true w := by
  obtain ⟨k, x⟩ := r
  obtain rfl : k = [] := List.eq_nil_of_length_eq_zero hr.1
  exact eq_use 9998 (by omega) hr.2
theorem neqR_i (w : World) (r : Rw) (hr : kI.Ok r) : (binOp .neq 66 (.agg (rowV r).toArray) (.agg (rowV r).toArray)).run Try.prog w = .ok (.bool false) w := by
  rw [run_neq_struct, eqR_i hr]; rfl
theorem neqR_c (w : World) (r : Rw) (hr : kC.Ok r) : (binOp .neq 77 (.agg (rowV r).toArray) (.agg (rowV r).toArray)).run Try.prog w = .ok (.bool false) w := by
  rw [run_neq_struct, eqR_c hr]; rfl
theorem neqR_u (w : World) (r : Rw) (hr : kU.Ok r) : (binOp .neq 86 (.agg (rowV r).toArray) (.agg (rowV r).toArray)).run Try.prog w = .ok (.bool false) w := by
  rw [run_neq_struct, eqR_u hr]; rfl
end Go.Proofs.Ytgbkpbmilaafgaa

/- Contract: the document's Same of rows (index) that are alike. It proves no statement. -/



namespace Go.Proofs.Ytgbkpbmilaafgaa
open Go.RowKit
set_option linter.unusedVariables false
set_option linter.unusedSimpArgs false

theorem sizeS_i : (Try.prog.info? 66).map (·.size) = some 35 := by kernel_rfl
theorem underS_i : ∃ fs, Try.prog.underlying 66 = some (.struct fs) := ⟨_, Try.underlying66⟩
set_option maxRecDepth 100000 in
set_option maxHeartbeats 3200000 in
theorem sameR_i {w : World} {A A' : Option Addr} {n c n' c' : Nat} {L : List Rw} (h : RwRow kI w A n c L) (h' : RwRow kI w A' n' c' L) (hn : n ≤ 1048576) :
    Calls Try.prog 25 #[.slice A n c, .slice A' n' c'] w fun e w' => e = .returned (.bool true) ∧ Still w w' := by
  obtain rfl : n = n' := by rw [← h.len, ← h'.len]
  have HR := Lib.hid (fun W (s : Still w W) => h.still s)
  have HR' := Lib.hid (fun W (s : Still w W) => h'.still s)
  have hlen := h.len
  have OK := Lib.hid h.ok
  have HLN := Lib.hid hlen
  obtain ⟨fs, hu⟩ := underS_i
  have UP := Lib.hid hu
  have d3 : (n : Int) ≤ 1048576 := by omega
  have d4 : (n : Int) ≤ (c : Int) := by have := h.row.fit; omega
  have d5 : (n : Int) ≤ (c' : Int) := by have := h'.row.fit; omega
  clear h h' hn hlen hu
  go_enter Try.func25, Try.ntmps25
  go_wp2_with fail
  go_loopw [5] (fun iv wr => ∃ i : Nat, i ≤ n ∧ iv = .int .i64 (i : Int) ∧ Hid (Still w wr)) (fun iv _ => n - (intOf iv).toNat)
  case atStart => exact ⟨0, Nat.zero_le _, rfl, Lib.hid (Still.refl _)⟩
  case round =>
    obtain ⟨i, hin, rfl, IN⟩ := hrel
    by_cases hlt : i < n
    · have SW := Lib.hid IN.out
      obtain ⟨a, ha⟩ : ∃ a, L[i]? = some a := ⟨_, List.getElem?_eq_getElem (by have := HLN.out; omega)⟩
      obtain ⟨bb, o, rfl, hbb, _⟩ := (HR.out _ SW.out).at_ ha
      obtain ⟨bb', o', rfl, hbb', _⟩ := (HR'.out _ SW.out).at_ ha
      have QA := Lib.hid (fun W (s : Still w W) => show W.rangeAt bb (o + i * 35) (rowV a) from by
        obtain ⟨b2, o2, e, _, h2⟩ := (HR.out _ s).at_ ha
        cases e
        exact h2)
      have QB := Lib.hid (fun W (s : Still w W) => show W.rangeAt bb' (o' + i * 35) (rowV a) from by
        obtain ⟨b2, o2, e, _, h2⟩ := (HR'.out _ s).at_ ha
        cases e
        exact h2)
      have OA := Lib.hid (OK.out a (List.mem_of_getElem? ha))
      have SZA := Lib.hid (show (Try.prog.info? 66).map (·.size) = some (rowV a).length from by rw [sizeS_i, rowV_length, OA.out.1, OA.out.2]; rfl)
      have NE := Lib.hid (fun W => neqR_i W a OA.out)
      have d1 : (i : Int) < (n : Int) := by omega
      have HLT := Lib.hid hlt
      have ne := NE.out
      clear ha hbb hbb' hlt hin IN
      obtain ⟨V, hV⟩ : ∃ V, V = (rowV a).toArray := ⟨_, rfl⟩
      go_upto_region 6 with fail
      refine wp_region_quiet_still w SW.out (by kernel_rfl) (by kernel_rfl) ?_
      repeat (first
        | (guard_target =~ wpQuiet _ _ _ _ (Oper.mk (some 20) _ _ _ _ _ :: _) _; go_must (refine quiet_load_mid (by kernel_rfl) 66 (.tmp 19) rfl bb (o + i * 35) (by kernel_rfl) (rowV a) _ (fun W hW => by obtain ⟨p, rfl⟩ := hW; exact QA.out _ p.still) UP.out rfl SZA.out ?_); rw [← hV])
        | (guard_target =~ wpQuiet _ _ _ _ (Oper.mk (some 24) _ _ _ _ _ :: _) _; go_must (refine quiet_load_mid (by kernel_rfl) 66 (.tmp 23) rfl bb' (o' + i * 35) (by kernel_rfl) (rowV a) _ (fun W hW => by obtain ⟨p, rfl⟩ := hW; exact QB.out _ p.still) UP.out rfl SZA.out ?_); rw [← hV])
        | quiet_step (fail))
      refine wpQuiet_nil ?_
      intro wq hw'
      have SQ := Lib.hid (show Still w wq from by obtain ⟨p, rfl⟩ := hw'; exact p.still)
      clear hw' ne
      go_wp2_with fail
      go_roundw
      case rel => exact ⟨i + 1, HLT.out, by go_num, Lib.hid SQ.out⟩
      case measure => simp [intOf]; have := HLT.out; omega
    · have d1 : ¬ (i : Int) < (n : Int) := by omega
      have SW := Lib.hid IN.out
      clear hin hlt IN
      go_wp2_with fail
      go_ret
      exact ⟨rfl, SW.out⟩
end Go.Proofs.Ytgbkpbmilaafgaa

/- Contract: the document's Same of rows (counts) that are alike. It proves no statement. -/



namespace Go.Proofs.Ytgbkpbmilaafgaa
open Go.RowKit
set_option linter.unusedVariables false
set_option linter.unusedSimpArgs false

theorem sizeS_c : (Try.prog.info? 77).map (·.size) = some 34 := by kernel_rfl
theorem underS_c : ∃ fs, Try.prog.underlying 77 = some (.struct fs) := ⟨_, Try.underlying77⟩
set_option maxRecDepth 100000 in
set_option maxHeartbeats 3200000 in
theorem sameR_c {w : World} {A A' : Option Addr} {n c n' c' : Nat} {L : List Rw} (h : RwRow kC w A n c L) (h' : RwRow kC w A' n' c' L) (hn : n ≤ 1048576) :
    Calls Try.prog 26 #[.slice A n c, .slice A' n' c'] w fun e w' => e = .returned (.bool true) ∧ Still w w' := by
  obtain rfl : n = n' := by rw [← h.len, ← h'.len]
  have HR := Lib.hid (fun W (s : Still w W) => h.still s)
  have HR' := Lib.hid (fun W (s : Still w W) => h'.still s)
  have hlen := h.len
  have OK := Lib.hid h.ok
  have HLN := Lib.hid hlen
  obtain ⟨fs, hu⟩ := underS_c
  have UP := Lib.hid hu
  have d3 : (n : Int) ≤ 1048576 := by omega
  have d4 : (n : Int) ≤ (c : Int) := by have := h.row.fit; omega
  have d5 : (n : Int) ≤ (c' : Int) := by have := h'.row.fit; omega
  clear h h' hn hlen hu
  go_enter Try.func26, Try.ntmps26
  go_wp2_with fail
  go_loopw [5] (fun iv wr => ∃ i : Nat, i ≤ n ∧ iv = .int .i64 (i : Int) ∧ Hid (Still w wr)) (fun iv _ => n - (intOf iv).toNat)
  case atStart => exact ⟨0, Nat.zero_le _, rfl, Lib.hid (Still.refl _)⟩
  case round =>
    obtain ⟨i, hin, rfl, IN⟩ := hrel
    by_cases hlt : i < n
    · have SW := Lib.hid IN.out
      obtain ⟨a, ha⟩ : ∃ a, L[i]? = some a := ⟨_, List.getElem?_eq_getElem (by have := HLN.out; omega)⟩
      obtain ⟨bb, o, rfl, hbb, _⟩ := (HR.out _ SW.out).at_ ha
      obtain ⟨bb', o', rfl, hbb', _⟩ := (HR'.out _ SW.out).at_ ha
      have QA := Lib.hid (fun W (s : Still w W) => show W.rangeAt bb (o + i * 34) (rowV a) from by
        obtain ⟨b2, o2, e, _, h2⟩ := (HR.out _ s).at_ ha
        cases e
        exact h2)
      have QB := Lib.hid (fun W (s : Still w W) => show W.rangeAt bb' (o' + i * 34) (rowV a) from by
        obtain ⟨b2, o2, e, _, h2⟩ := (HR'.out _ s).at_ ha
        cases e
        exact h2)
      have OA := Lib.hid (OK.out a (List.mem_of_getElem? ha))
      have SZA := Lib.hid (show (Try.prog.info? 77).map (·.size) = some (rowV a).length from by rw [sizeS_c, rowV_length, OA.out.1, OA.out.2]; rfl)
      have NE := Lib.hid (fun W => neqR_c W a OA.out)
      have d1 : (i : Int) < (n : Int) := by omega
      have HLT := Lib.hid hlt
      have ne := NE.out
      clear ha hbb hbb' hlt hin IN
      obtain ⟨V, hV⟩ : ∃ V, V = (rowV a).toArray := ⟨_, rfl⟩
      go_upto_region 6 with fail
      refine wp_region_quiet_still w SW.out (by kernel_rfl) (by kernel_rfl) ?_
      repeat (first
        | (guard_target =~ wpQuiet _ _ _ _ (Oper.mk (some 20) _ _ _ _ _ :: _) _; go_must (refine quiet_load_mid (by kernel_rfl) 77 (.tmp 19) rfl bb (o + i * 34) (by kernel_rfl) (rowV a) _ (fun W hW => by obtain ⟨p, rfl⟩ := hW; exact QA.out _ p.still) UP.out rfl SZA.out ?_); rw [← hV])
        | (guard_target =~ wpQuiet _ _ _ _ (Oper.mk (some 24) _ _ _ _ _ :: _) _; go_must (refine quiet_load_mid (by kernel_rfl) 77 (.tmp 23) rfl bb' (o' + i * 34) (by kernel_rfl) (rowV a) _ (fun W hW => by obtain ⟨p, rfl⟩ := hW; exact QB.out _ p.still) UP.out rfl SZA.out ?_); rw [← hV])
        | quiet_step (fail))
      refine wpQuiet_nil ?_
      intro wq hw'
      have SQ := Lib.hid (show Still w wq from by obtain ⟨p, rfl⟩ := hw'; exact p.still)
      clear hw' ne
      go_wp2_with fail
      go_roundw
      case rel => exact ⟨i + 1, HLT.out, by go_num, Lib.hid SQ.out⟩
      case measure => simp [intOf]; have := HLT.out; omega
    · have d1 : ¬ (i : Int) < (n : Int) := by omega
      have SW := Lib.hid IN.out
      clear hin hlt IN
      go_wp2_with fail
      go_ret
      exact ⟨rfl, SW.out⟩
end Go.Proofs.Ytgbkpbmilaafgaa
