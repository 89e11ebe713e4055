/- Contracts and facts, several texts in one. It proves no statement. -/
import Derived.Test.YtgbkpbmilaafgaaBkGn
import Derived.Test.YtgbkpbmilaafgaaBkGo
import Derived.Test.YtgbkpbmilaafgaaBkGm
import Derived.Test.YtgbkpbmilaafgaaBkGk
import Derived.Test.YtgbkpbmilaafgaaBkGg
import Derived.Test.YtgbkpbmilaafgaaBkGf
import Derived.Test.YtgbkpbmilaafgaaBkGe

/- Contract: bytes as rows (counts), by the program. It proves no statement. -/






namespace Go.Proofs.Ytgbkpbmilaafgaa
open Go.RowKit
set_option linter.unusedVariables false
set_option linter.unusedSimpArgs false

theorem infoR_c : (Try.prog.info? 77).map (fun i => (i.zero, i.size, i.bytes)) = some (some (.agg (rowV (List.replicate 32 0, List.replicate 2 0)).toArray), 34, 48) := by kernel_rfl
set_option maxRecDepth 100000 in
set_option maxHeartbeats 6400000 in
theorem read_c (A : Option Addr) (n c : Nat) (b : List UInt8) (w : World) (B : Nat) (h : Reads w B A n b) (hB : B ≤ w.heap.size) (hn : n ≤ 1048576) (hnc : n ≤ c) (hc : c ≤ 9223372036854775807) (hA : A = none → n = 0 ∧ c = 0) :
    Calls Try.prog 41 #[.agg kV_c, .slice A n c] w fun e w' => ∃ A' c', e = .returned (.tuple #[.slice A' (kC.rd b).1.length c', .int .i64 (kC.rd b).2]) ∧ RwRow kC w' A' (kC.rd b).1.length c' (kC.rd b).1 ∧ Still w w' := by
  obtain ⟨wA, hwA⟩ : ∃ wA, wA = w.alloc (.cells kV_c 82) := ⟨_, rfl⟩
  obtain ⟨gk, hgk⟩ : ∃ g, g = w.heap.size := ⟨_, rfl⟩
  have sA : Still w wA := by rw [hwA]; exact (Still.refl w).alloc (Nat.le_refl _) _
  have zA : wA.heap.size = w.heap.size + 1 := by rw [hwA]; simp
  have kb : Blk wA gk 82 kV_c := by rw [hwA, hgk]; exact Blk.new w _ _
  have hlen := h.len
  have OP := Lib.hid (open_any A n c b wA B (h.still hB sA) (Nat.le_trans hB sA.size) (by omega) hA)
  have HWA := Lib.hid hwA
  have HG := Lib.hid hgk
  have SA := Lib.hid sA
  have ZA := Lib.hid zA
  have KB := Lib.hid kb
  have RB := Lib.hid (show Reads w B A n b ∧ B ≤ w.heap.size ∧ c ≤ 9223372036854775807 ∧ n ≤ c ∧ (A = none → c = 0) from ⟨h, hB, hc, hnc, fun e => (hA e).2⟩)
  have HLN := Lib.hid hlen
  have HN := Lib.hid hn
  obtain ⟨kl, hkl⟩ : ∃ kl, kl = kV_c.toList := ⟨_, rfl⟩
  have KL := Lib.hid (show kl.toArray = kV_c by rw [hkl])
  have KS := Lib.hid (show (Try.prog.info? 82).map (·.size) = some kl.length from by rw [sizeKd_c, hkl]; rfl)
  have KR := Lib.hid (fun W (e : Blk W gk 82 kV_c) => show W.rangeAt gk 0 kl from fun q u hq => by
    rw [Nat.zero_add, e.cell, ← KL.out, List.getElem?_toArray, hq])
  obtain ⟨fk, hfk⟩ : ∃ fs, Try.prog.underlying 82 = some (.struct fs) := ⟨_, Try.underlying82⟩
  have UK := Lib.hid hfk
  obtain ⟨kv, hkv⟩ : ∃ kv, kv = kV_c := ⟨_, rfl⟩
  have HKV := Lib.hid hkv
  rw [← hkv] at HWA ⊢
  have BE := Lib.hid (fun W lo Bq g (lv : LiveAny W lo Bq g b 0) (h1 : Bq ≤ W.heap.size) (h2 : g < W.heap.size) => begin_c lv h1 h2 (by omega))
  rw [← KL.out] at BE
  have d3 : (n : Int) ≤ 1048576 := by omega
  have d4 : (n : Int) ≤ (c : Int) := by omega
  clear hwA hgk sA zA kb h hB hn hnc hc hA hlen hkl hfk hkv
  go_enter Try.func41, Try.ntmps41
  go_upto_region 3 with (first
    | (guard_target =~ wpList _ _ _ (Oper.mk (some 2) _ _ _ _ _ :: _) _ _; go_must (refine wpList_box_val rfl 82 (.tmp 0) rfl (some 2) rfl kv rfl ?_); rw [← HWA.out, ← HG.out])
    | (go_at_call 65; with_reducible refine OP.out.mono ?_; rintro e w1 ⟨⟨g, A1, c1, rfl, lv⟩, s1⟩; have LV1 := Lib.hid (show LiveAny w1 wA.heap.size w1.heap.size g b 0 ∧ wA.heap.size ≤ g ∧ g < w1.heap.size from ⟨lv.any, lv.low, lv.high⟩); have S1 := Lib.hid s1; have KB1 := Lib.hid (KB.out.still s1); have BE1 := Lib.hid (BE.out _ _ _ _ LV1.out.1 (Nat.le_refl _) LV1.out.2.2); clear lv s1)
    | (guard_target =~ wpList _ _ _ (Oper.mk (some 14) _ _ _ _ _ :: _) _ _; go_must (refine wpList_load_mid rfl 82 (.tmp 2) rfl gk 0 rfl kl _ (KR.out _ KB1.out) UK.out rfl KS.out ?_))
    | (go_at_call 68; with_reducible refine BE1.out.mono ?_; rintro e w2 ⟨rfl, lv2, gr2⟩; have LV2 := Lib.hid lv2; have GR2 := Lib.hid gr2; clear lv2 gr2))
  have SV2 := Lib.hid (show Still wA w2 from S1.out.grown GR2.out S1.out.size (fun k hk => by cases hk; exact LV1.out.2.1))
  by_cases h0 : (kC.rd1 b).2 = 0
  case neg =>
    have RD := Lib.hid (show kC.rd b = ([], (kC.rd1 b).2) from by
      unfold Kd.rd Kd.rdN
      rw [if_pos h0, if_pos h0])
    obtain ⟨ev, hev⟩ : ∃ ev, ev = (kC.rd1 b).2 := ⟨_, rfl⟩
    rw [← hev] at h0 RD ⊢
    have eb : (ev != 0) = true := by simpa using h0
    clear hev h0
    go_wp2_with fail
    (try simp only [Exit.inBlock, Exit.then])
    go_ret2
    rw [RD.out]
    exact ⟨none, 0, rfl, ⟨⟨fun i x hx => by simp at hx, rfl, Nat.le_refl _, by omega⟩, fun r hr => (by cases hr), fun r hr => (by cases hr)⟩, Still.trans SA.out SV2.out⟩
  case pos =>
    obtain ⟨q1, q2, q3, q4, q5⟩ := rd1_inv h0
    have LV2' := Lib.hid (LV2.out h0)
    obtain ⟨cn, hcn⟩ : ∃ cn, cn = cntB b := ⟨_, rfl⟩
    rw [← hcn] at q3 q4 q5
    have R1 := Lib.hid q5
    have hwd : kC.wide = 40 := rfl
    rw [hwd] at q4
    have LQ := Lib.hid q4
    have d5 : (cn : Int) ≤ 65536 := by omega
    rw [q5]
    simp only
    obtain ⟨i0, hi, hz0, hz1, hz2⟩ := info_parts infoR_c
    obtain ⟨zr, hzr⟩ : ∃ z, z = (rowV (List.replicate 32 0, List.replicate 2 0)).toArray := ⟨_, rfl⟩
    rw [← hzr] at hz0
    have HI := Lib.hid (And.intro hi (And.intro hz0 (And.intro hz1 hz2)))
    clear q1 q2 q3 q4 q5 h0 hcn hi hz0 hz1 hz2 hzr LV2 hwd
    go_wp2_with (guard_target =~ wpList _ _ _ (Oper.mk (some 23) _ _ _ _ _ :: _) _ _; go_must (refine wpList_make_full _ rfl (.tmp 22) (.tmp 22) 23 rfl w2.heap.size 77 i0 (.agg zr) 34 Try.underlying23 HI.out.1 HI.out.2.1 HI.out.2.2.1 _ _ _ _ cn rfl rfl rfl rfl (by rw [HI.out.2.2.2]; omega) (by unfold maxLen; omega) (Nat.le_refl _) ?_); intro w3 own3 gr3; have O3 := Lib.hid own3; have GR3 := Lib.hid gr3; clear own3 gr3)
    obtain ⟨gl, hgl⟩ : ∃ gl, gl = w2.heap.size := ⟨_, rfl⟩
    rw [← hgl] at O3 ⊢
    have S3 := Lib.hid (show Still w2 w3 from ⟨GR3.out.os, GR3.out.tape, GR3.out.output, GR3.out.size, fun k hk => GR3.out.block k hk (by simp)⟩)
    have GG := Lib.hid (show g < w1.heap.size ∧ w1.heap.size ≤ gl ∧ wA.heap.size ≤ g ∧ gl ≤ w3.heap.size from ⟨LV1.out.2.2, by rw [hgl]; exact GR2.out.size, LV1.out.2.1, by rw [hgl]; exact S3.out.size⟩)
    have FM3 := Lib.hid (FilM.of_own O3.out)
    have LV3 := Lib.hid (show LiveAny w3 wA.heap.size w1.heap.size g (b.drop 12) 0 from by
      obtain ⟨Aq, nq, cq, lv⟩ := LV2'.out
      exact (lv.below (Below.mono S3.out (by have := GG.out; omega))).any)
    have SV3 := Lib.hid (Still.trans SV2.out S3.out)
    clear hgl O3 GR3 HI
    go_wp2_with fail
    go_loopw [26] (fun iv wr => ∃ i : Nat, i ≤ cn ∧ iv = .int .i64 i ∧ Hid (FilM 34 wr gl cn (kC.rows b i) ∧ LiveAny wr wA.heap.size w1.heap.size g (b.drop (12 + 40 * i)) 0 ∧ Still wA wr ∧ w3.heap.size ≤ wr.heap.size)) (fun iv _ => cn - (intOf iv).toNat)
    case atStart => exact ⟨0, by omega, rfl, Lib.hid ⟨FM3.out, LV3.out, SV3.out, Nat.le_refl _⟩⟩
    case round =>
      obtain ⟨i, hi, rfl, IN⟩ := hrel
      clear FM3 LV3 SV3
      by_cases hlt : i < cn
      · have TK := Lib.hid (take_c IN.out.2.1 (by rw [List.length_drop]; have := LQ.out; omega) (by have := IN.out.2.2.2; have := GG.out; omega) (by have := IN.out.2.2.2; have := GG.out; omega))
        obtain ⟨r, hr⟩ : ∃ r, r = kC.rowAt (b.drop (12 + 40 * i)) := ⟨_, rfl⟩
        have RR := Lib.hid (show kC.rows b (i + 1) = kC.rows b i ++ [r] from by rw [rows_succ, hr]; rfl)
        have RW := Lib.hid (show (rowV r).length = 34 from by
          rw [hr]
          refine rowAt_wide (k := kC) ?_
          rw [List.length_drop]
          have := LQ.out
          show 32 ≤ _
          omega)
        rw [← hr] at TK
        have ck : wr.cell? ⟨gk, 3, none⟩ = some (.func (.func 57) #[] #[]) := (KB.out.still IN.out.2.2.1).cell 3
        have d6 : (i : Int) < (cn : Int) := by omega
        have HI := Lib.hid hlt
        have SZ := Lib.hid (show (Try.prog.info? 77).map (·.size) = some (rowV r).toArray.size from by rw [sizeR_c, List.size_toArray, RW.out])
        clear hr hlt
        go_wp2_with (first
          | (go_at_call 57; with_reducible refine TK.out.mono ?_; rintro e w4 ⟨rfl, lv4, gr4⟩; have LV4 := Lib.hid lv4; have GR4 := Lib.hid gr4; have FM4 := Lib.hid (IN.out.1.keep (gr4.block gl IN.out.1.lt (fun e => by have e := Option.some.inj e; have := GG.out; omega))); clear lv4 gr4)
          | (guard_target =~ wpList _ _ _ (Oper.mk none (Op.store _ _ _) _ _ _ _ :: _) _ _; go_must (refine wpList_store_mid rfl 77 (.tmp 35) (.tmp 34) rfl gl (i * 34) (rowV r).toArray rfl rfl (by rw [List.size_toArray, RW.out]; exact FM4.out.there HI.out) SZ.out (all_oneCell_toArray (rowV_one _)) ?_)))
        go_roundw
        case rel =>
          refine ⟨i + 1, HI.out, by go_num, Lib.hid ⟨?_, ?_, ?_, ?_⟩⟩
          · have h := FM4.out.put (r := r) (by rw [rows_len]; exact HI.out) RW.out
            rw [rows_len, ← RR.out] at h
            exact h
          · obtain ⟨Aq, nq, cq, lv⟩ := LV4.out
            have e := lv.below (w' := w4.setCells gl (i * 34) (rowV r)) (by
              have gs := grown_setC (g := gl) (rowV r) (i * 34) w4
              exact ⟨gs.os, gs.tape, gs.output, gs.size, fun k hk => by
                have := GG.out
                by_cases hk2 : k < w4.heap.size
                · exact gs.block k hk2 (fun e => by have e := Option.some.inj e; omega)
                · have h4 := GR4.out.size; have h5 := IN.out.2.2.2; omega⟩)
            rw [List.drop_drop] at e
            have := e.any
            rw [show 12 + 40 * (i + 1) = 12 + 40 * i + 40 by omega]
            exact this
          · have s4 : Still wA w4 := IN.out.2.2.1.grown GR4.out IN.out.2.2.1.size (fun k hk => by cases hk; exact GG.out.2.2.1)
            exact s4.grown (grown_setC (g := gl) (rowV r) (i * 34) w4) s4.size (fun k hk => by cases hk; have := GG.out; omega)
          · have h4 := GR4.out.size; have h5 := IN.out.2.2.2
            rw [size_setCells]; omega
        case measure => simp [intOf]; have := HI.out; omega
      · have hin : i = cn := by omega
        subst hin
        have d6 : ¬ (i : Int) < (i : Int) := by omega
        obtain ⟨ab, ao, rfl, _, _⟩ := RB.out.1.at_ (by have := LQ.out; have := HLN.out; omega)
        obtain ⟨p, hp⟩ : ∃ p, p = 12 + 40 * i := ⟨_, rfl⟩
        have hnp : n = p + 8 := by have := LQ.out; have := HLN.out; omega
        have e8 : (n : Int) - 8 = (p : Int) := by omega
        have p0 : (0 : Int) ≤ (p : Int) := by omega
        have p1 : (p : Int) ≤ (c : Int) := by omega
        have p2 : (p : Int) ≤ 1048576 := by omega
        have ew : IntKind.i64.wrap (p : Int) = (p : Int) := by rw [IntKind.wrap_i64]; omega
        have tll : (b.drop p).length = 8 := by rw [List.length_drop]; have := HLN.out; omega
        have e9 : rstep (b.drop p) 0 8 true = (((b.drop p).drop 8, 0), b.drop p) := by
          have := rstep_ok (b.drop p) 8 true (by simp) (by omega)
          rwa [List.take_of_length_le (by omega)] at this
        have NU := Lib.hid (show Calls Try.prog 67 #[.pointer (some ⟨g, 0, none⟩), .int .i64 8] wr.drew fun e w' => e = .returned (.int .u64 (leNum (b.drop p) : Nat)) ∧ wr.drew.grownBy w' (some g) from by
          obtain ⟨Aq, nq, cq, lv⟩ := IN.out.2.1
          have lv := (lv.below (w' := wr.drew) ⟨rfl, rfl, rfl, Nat.le_refl _, fun _ _ => rfl⟩).any
          rw [← hp] at lv
          have := num_any lv 8
          rw [e9] at this
          exact this.mono fun e w' h => ⟨h.1, h.2.2⟩)
        have XS := Lib.hid (fun W (s : Still wA W) => xsum_any (some ⟨ab, ao, none⟩) p c (b.take p) 0 W B ((RB.out.1.takek (k := p) (by omega)).still RB.out.2.1 (Still.trans SA.out s)) (Nat.le_trans RB.out.2.1 (Still.trans SA.out s).size) (by omega) (by have := RB.out.2.2.2.1; omega) RB.out.2.2.1 RB.out.2.2.2.2 (by decide))
        obtain ⟨q1, hq1⟩ : ∃ q, q = leNum (b.drop p) := ⟨_, rfl⟩
        obtain ⟨q2, hq2⟩ : ∃ q, q = xxSum (b.take p) 0 := ⟨_, rfl⟩
        simp only [← hq1] at NU
        simp only [← hq2, show ((0 : Nat) : Int) = 0 from rfl] at XS
        have RDN := Lib.hid (show kC.rdN b = if q1 = q2 then (i, 0) else (0, 13) from by
          unfold Kd.rdN
          rw [R1.out, if_neg (by simp)]
          simp only [show kC.wide = 40 from rfl, ← hp, ← hq1, ← hq2, ne_eq, ite_not])
        have HM := Lib.hid (show n = p + 8 from hnp)
        have SG := Lib.hid (fun W (gr : wr.drew.grownBy W (some g)) => show Still wA W from (Still.trans IN.out.2.2.1 (Still.refl _).drew).grown gr (Still.trans IN.out.2.2.1 (Still.refl _).drew).size (fun k hk => by cases hk; exact GG.out.2.2.1))
        have FW := Lib.hid (fun W (gr : wr.drew.grownBy W (some g)) => show FilM 34 W gl i (kC.rows b i) from IN.out.1.keep (gr.block gl IN.out.1.lt (fun e => by have e := Option.some.inj e; have := GG.out; omega)))
        have I16 := Lib.hid (show i ≤ 65536 by omega)
        have ROWS := Lib.hid (rows_all (k := kC) (b := b) (n := i) (by have := LQ.out; show 12 + 40 * i ≤ b.length; omega))
        clear IN hlt hp hnp tll e9 hq1 hq2
        by_cases hq : q1 = q2
        · subst hq
          have RDE := Lib.hid (show kC.rdN b = (i, 0) by rw [RDN.out, if_pos rfl])
          clear RDN
          go_upto_region 11 with fail
          go_region_held3 (fun _ => True) (first | trivial) (first
            | (go_at_call 67; with_reducible refine NU.out.mono ?_; rintro e w6 ⟨rfl, gr6⟩; have SV6 := Lib.hid (SG.out _ gr6); have FM6 := Lib.hid (FW.out _ gr6); clear gr6)
            | (go_at_call 48; with_reducible refine (XS.out _ SV6.out).mono ?_; rintro e w7 ⟨rfl, s7⟩; have S7 := Lib.hid s7; clear s7))
          have FM7 := Lib.hid (FM6.out.keep (S7.out.block gl FM6.out.lt))
          have SV7 := Lib.hid (Still.trans SV6.out S7.out)
          have RW7 := Lib.hid (FM7.out.rw (k := kC) (by rw [rows_len]) (by have := I16.out; omega) ROWS.out.1 (rows_i64 b i))
          have RI := Lib.hid (rise_c RW7.out (by have := I16.out; omega))
          rw [← KL.out] at RI
          obtain ⟨q, hq⟩ : ∃ q, q = kC.up (kC.rows b i) i := ⟨_, rfl⟩
          rw [← hq] at RI
          have UPQ := Lib.hid hq
          have KR7 := Lib.hid (KR.out _ (KB.out.still SV7.out))
          clear hq
          cases q
          · have BW := Lib.hid (show kC.rd b = ([], 18) from by
              unfold Kd.rd
              rw [RDE.out, ← UPQ.out]
              simp)
            go_simp
            go_wp2_with (first
              | (guard_target =~ wpList _ _ _ (Oper.mk (some 46) _ _ _ _ _ :: _) _ _; go_must (refine wpList_load_mid rfl 82 (.tmp 2) rfl gk 0 rfl kl _ KR7.out UK.out rfl KS.out ?_))
              | (go_at_call 55; with_reducible refine RI.out.mono ?_; rintro e w8 ⟨rfl, s8⟩; have S8 := Lib.hid s8; clear s8))
            (try simp only [Exit.inBlock, Exit.then])
            go_ret2
            rw [BW.out]
            exact ⟨none, 0, rfl, ⟨⟨fun i x hx => by simp at hx, rfl, Nat.le_refl _, by omega⟩, fun r hr => (by cases hr), fun r hr => (by cases hr)⟩, Still.trans SA.out (Still.trans SV7.out S8.out)⟩
          · have BW := Lib.hid (show kC.rd b = (kC.rows b i, 0) from by
              unfold Kd.rd
              rw [RDE.out, ← UPQ.out]
              simp)
            go_simp
            go_wp2_with (first
              | (guard_target =~ wpList _ _ _ (Oper.mk (some 46) _ _ _ _ _ :: _) _ _; go_must (refine wpList_load_mid rfl 82 (.tmp 2) rfl gk 0 rfl kl _ KR7.out UK.out rfl KS.out ?_))
              | (go_at_call 55; with_reducible refine RI.out.mono ?_; rintro e w8 ⟨rfl, s8⟩; have S8 := Lib.hid s8; clear s8))
            (try simp only [Exit.inBlock, Exit.then])
            go_ret2
            rw [BW.out]
            have h8 := RW7.out.still S8.out
            simp only [rows_len]
            exact ⟨_, i, rfl, h8, Still.trans SA.out (Still.trans SV7.out S8.out)⟩
        · have RDE := Lib.hid (show kC.rd b = ([], 13) by
            have := RDN.out
            rw [if_neg hq] at this
            unfold Kd.rd
            rw [this]
            simp)
          have nq : ¬ (q1 : Int) = (q2 : Int) := by omega
          have nq2 : ((q1 : Int) != (q2 : Int)) = true := by simp; omega
          clear hq RDN
          go_upto_region 11 with fail
          go_region_held3 (fun _ => True) (first | trivial) (first
            | (go_at_call 67; with_reducible refine NU.out.mono ?_; rintro e w6 ⟨rfl, gr6⟩; have SV6 := Lib.hid (SG.out _ gr6); have FM6 := Lib.hid (FW.out _ gr6); clear gr6)
            | (go_at_call 48; with_reducible refine (XS.out _ SV6.out).mono ?_; rintro e w7 ⟨rfl, s7⟩; have S7 := Lib.hid s7; clear s7))
          go_simp
          go_wp2_with fail
          (try simp only [Exit.inBlock, Exit.then])
          go_ret2
          rw [RDE.out]
          exact ⟨none, 0, rfl, ⟨⟨fun i x hx => by simp at hx, rfl, Nat.le_refl _, by omega⟩, fun r hr => (by cases hr), fun r hr => (by cases hr)⟩, Still.trans SA.out (Still.trans SV6.out S7.out)⟩
end Go.Proofs.Ytgbkpbmilaafgaa

/- Contracts: Counts, ReadCounts. It proves no statement. -/


namespace Go.Proofs.Ytgbkpbmilaafgaa
open Go.RowKit
set_option linter.unusedVariables false
set_option linter.unusedSimpArgs false

theorem put_c {w : World} {A : Option Addr} {n c : Nat} {L : List Rw} (h : RwRow kC w A n c L) (hn : n ≤ 65536) :
    Calls Try.prog 10 #[.slice A n c] w fun e w' => ∃ A' c', e = .returned (.tuple #[.slice A' (kC.wr L).1.length c', .int .i64 (kC.wr L).2]) ∧ Reads w' w'.heap.size A' (kC.wr L).1.length (kC.wr L).1 ∧ (kC.wr L).1.length ≤ c' ∧ c' ≤ 9223372036854775807 ∧ (A' = none → c' = 0) ∧ Still w w' := by
  have KI := Lib.hid (kind_c w)
  have WR := Lib.hid (fun W (s : Still w W) => write_c (h.still s) hn)
  obtain ⟨R, hR⟩ : ∃ R, R = kC.wr L := ⟨_, rfl⟩
  rw [← hR] at WR ⊢
  clear hR h hn
  go_enter Try.func10, Try.ntmps10
  go_wp2_with (first
    | (go_at_call 32; with_reducible refine KI.out.mono ?_; rintro e w1 ⟨rfl, s1⟩; have S1 := Lib.hid s1; clear s1)
    | (go_at_call 31; with_reducible refine (WR.out _ S1.out).mono ?_; rintro e w2 ⟨A', c', rfl, h2, h3, h4, h5, s2⟩; have H2 := Lib.hid (And.intro h2 (And.intro h3 (And.intro h4 h5))); have S2 := Lib.hid s2; clear h2 h3 h4 h5 s2))
  go_ret2
  exact ⟨A', c', rfl, H2.out.1, H2.out.2.1, H2.out.2.2.1, H2.out.2.2.2, Still.trans S1.out S2.out⟩
theorem get_c (A : Option Addr) (n c : Nat) (b : List UInt8) (w : World) (B : Nat) (h : Reads w B A n b) (hB : B ≤ w.heap.size) (hn : n ≤ 1048576) (hnc : n ≤ c) (hc : c ≤ 9223372036854775807) (hA : A = none → n = 0 ∧ c = 0) :
    Calls Try.prog 20 #[.slice A n c] w fun e w' => ∃ A' c', e = .returned (.tuple #[.slice A' (kC.rd b).1.length c', .int .i64 (kC.rd b).2]) ∧ RwRow kC w' A' (kC.rd b).1.length c' (kC.rd b).1 ∧ Still w w' := by
  have KI := Lib.hid (kind_c w)
  have WR := Lib.hid (fun W (s : Still w W) => read_c A n c b W B (h.still hB s) (Nat.le_trans hB s.size) hn hnc hc hA)
  obtain ⟨R, hR⟩ : ∃ R, R = kC.rd b := ⟨_, rfl⟩
  rw [← hR] at WR ⊢
  clear hR h hn hnc hc hA
  go_enter Try.func20, Try.ntmps20
  go_wp2_with (first
    | (go_at_call 32; with_reducible refine KI.out.mono ?_; rintro e w1 ⟨rfl, s1⟩; have S1 := Lib.hid s1; clear s1)
    | (go_at_call 41; with_reducible refine (WR.out _ S1.out).mono ?_; rintro e w2 ⟨A', c', rfl, h2, s2⟩; have H2 := Lib.hid h2; have S2 := Lib.hid s2; clear h2 s2))
  go_ret2
  exact ⟨A', c', rfl, H2.out, Still.trans S1.out S2.out⟩
end Go.Proofs.Ytgbkpbmilaafgaa

/- Contracts: what a kind of books (uses) has of its own. It proves no statement. -/

namespace Go.Proofs.Ytgbkpbmilaafgaa
open Go.RowKit
set_option linter.unusedVariables false
set_option linter.unusedSimpArgs false

theorem sizeKd_u : (Try.prog.info? 91).map (·.size) = some 5 := by kernel_rfl
def kV_u : Array Value := #[.string ⟨#[72, 79, 65, 82, 68, 85, 83, 69]⟩, .int .i64 12, .func (.func 60) #[] #[], .func (.func 61) #[] #[], .func (.func 62) #[] #[]]
theorem kind_u (w : World) : Calls Try.prog 34 #[] w fun e w' => e = .returned (.agg kV_u) ∧ Still w w' := by
  obtain ⟨fs, hu⟩ : ∃ fs, Try.prog.underlying 91 = some (.struct fs) := ⟨_, Try.underlying91⟩
  have HU := Lib.hid hu
  clear hu
  go_enter Try.func34, Try.ntmps34
  go_wp2_with (guard_target =~ wpList _ _ _ (Oper.mk none (Op.store _ _ _) _ _ _ _ :: _) _ _; go_must (refine wpList_store_rowTo rfl 91 (.tmp 0) (.tmp 1) rfl rfl w.heap.size kV_u rfl rfl 91 _ (heap_alloc_new w _) (by rw [sizeKd_u]; rfl) (by rfl) (by kernel_rfl) ?_))
  refine bodyPost_ret (results_cell_row rfl _ _ w.heap.size _ _ _ _ rfl (setRow_heap _ _ _ _ _ _ (heap_alloc_new w _)) HU.out rfl (by rw [sizeKd_u]; rfl)) rfl ?_
  exact ⟨rfl, below_setRow ((Below.refl _ _).alloc (Nat.le_refl _) _) (Nat.le_refl _) _⟩
set_option maxRecDepth 100000 in
set_option maxHeartbeats 1600000 in
theorem cells_u (r : Rw) (w : World) (ok : kU.Ok r) : Calls Try.prog 60 #[.agg (rowV r).toArray] w fun e w' => ∃ A g2, e = .returned (.tuple #[.slice A 0 0, .slice (some ⟨g2, 0, none⟩) 3 3]) ∧ Still w w' ∧ Reads w' w'.heap.size A 0 r.1 ∧ Blk w' g2 3 (r.2.map (Value.int .i64)).toArray ∧ w.heap.size ≤ g2 := by
  obtain ⟨wA, g, rv, RB⟩ := rowBox 86 w r
  obtain ⟨x, y, z, hxyz⟩ : ∃ x y z, r.2 = [x, y, z] := by
    match hr : r.2, ok.2 with
    | [x, y, z], _ => exact ⟨x, y, z, rfl⟩
  have hk : r.1.length = 0 := ok.1
  have C := Lib.hid (show ∀ W, Still wA W → W.cell? ⟨g, 0, none⟩ = some (.int .i64 x) ∧ W.cell? ⟨g, 1, none⟩ = some (.int .i64 y) ∧ W.cell? ⟨g, 2, none⟩ = some (.int .i64 z) from fun W s => by
    have q := RB.reads s
    have c0 := rangeAt_num q (j := 0) (z := x) (by rw [hxyz]; rfl)
    have c1 := rangeAt_num q (j := 1) (z := y) (by rw [hxyz]; rfl)
    have c2 := rangeAt_num q (j := 2) (z := z) (by rw [hxyz]; rfl)
    rw [hk] at c0 c1 c2
    exact ⟨c0, c1, c2⟩)
  have HX := Lib.hid hxyz
  have HK := Lib.hid hk
  have BX := Lib.hid RB
  rw [← RB.hrv]
  clear RB hk hxyz ok
  go_enter Try.func60, Try.ntmps60
  go_upto_region 1 with (guard_target =~ wpList _ _ _ (Oper.mk (some 1) _ _ _ _ _ :: _) _ _; go_must (refine wpList_box_val rfl 86 (.tmp 0) rfl (some 1) rfl rv rfl ?_); rw [← BX.out.hwA, ← BX.out.hg])
  go_region_held3 (fun W => W.cell? ⟨g, 0, none⟩ = some (.int .i64 x) ∧ W.cell? ⟨g, 1, none⟩ = some (.int .i64 y) ∧ W.cell? ⟨g, 2, none⟩ = some (.int .i64 z)) (first | exact C.out _ (Still.refl _).drew | exact C.out _ ((Still.refl _).drew.alloc (Nat.le_refl _) _) | go_keep) (first | fail)
  go_wp2_with fail
  go_ret2
  have s1 : Still wA ((wA.alloc (.cells #[.int .i64 x, .int .i64 y, .int .i64 z] 3)).drew) := ((Still.refl wA).alloc (Nat.le_refl _) _).drew
  refine ⟨_, _, rfl, Still.trans BX.out.still s1, ?_, ?_, BX.out.still.size⟩
  · exact ⟨HK.out, fun h => absurd h (by omega)⟩
  · rw [HX.out]
    exact (Blk.new wA 3 #[.int .i64 x, .int .i64 y, .int .i64 z] : _)
set_option maxRecDepth 100000 in
set_option maxHeartbeats 1600000 in
theorem rises_u (a b : Rw) (w : World) (oa : kU.Ok a) (ob : kU.Ok b) : Calls Try.prog 62 #[.agg (rowV a).toArray, .agg (rowV b).toArray] w fun e w' => e = .returned (.bool (kU.lt a b)) ∧ Still w w' := by
  obtain ⟨wA, ga, av, RA⟩ := rowBox 86 w a
  obtain ⟨wB, gb, bv, RB⟩ := rowBox 86 wA b
  obtain ⟨x, y, z, hx⟩ : ∃ x y z, a.2 = [x, y, z] := by
    match hr : a.2, oa.2 with
    | [x, y, z], _ => exact ⟨x, y, z, rfl⟩
  obtain ⟨x', y', z', hx'⟩ : ∃ x y z, b.2 = [x, y, z] := by
    match hr : b.2, ob.2 with
    | [x, y, z], _ => exact ⟨x, y, z, rfl⟩
  have e : kU.lt a b = decide (x < x') := by show decide (a.2.getD 0 0 < b.2.getD 0 0) = _; rw [hx, hx']; rfl
  rw [e]
  have ca : ∀ W, Still wB W → W.cell? ⟨ga, 0, none⟩ = some (.int .i64 x) := fun W s => by
    have c0 := rangeAt_num (RA.reads (Still.trans RB.still s)) (j := 0) (z := x) (by rw [hx]; rfl)
    rwa [oa.1] at c0
  have cb : ∀ W, Still wB W → W.cell? ⟨gb, 0, none⟩ = some (.int .i64 x') := fun W s => by
    have c0 := rangeAt_num (RB.reads s) (j := 0) (z := x') (by rw [hx']; rfl)
    rwa [ob.1] at c0
  have ca0 := ca wB (Still.refl _)
  have cb0 := cb wB (Still.refl _)
  clear ca cb hx hx' e
  have HA := Lib.hid RA
  have HB := Lib.hid RB
  rw [← RA.hrv, ← RB.hrv]
  clear RA RB oa ob
  go_enter Try.func62, Try.ntmps62
  go_upto_region 1 with (first
    | (guard_target =~ wpList _ _ _ (Oper.mk (some 2) _ _ _ _ _ :: _) _ _; go_must (refine wpList_box_val rfl 86 (.tmp 0) rfl (some 2) rfl av rfl ?_); rw [← HA.out.hwA, ← HA.out.hg])
    | (guard_target =~ wpList _ _ _ (Oper.mk (some 3) _ _ _ _ _ :: _) _ _; go_must (refine wpList_box_val rfl 86 (.tmp 1) rfl (some 3) rfl bv rfl ?_); rw [← HB.out.hwA, ← HB.out.hg]))
  go_wp2_with fail
  try (go_quiet (fail); go_wp2_with fail)
  go_ret
  exact ⟨rfl, Still.trans HA.out.still HB.out.still⟩
end Go.Proofs.Ytgbkpbmilaafgaa

/- Contract: whether rows (uses) rise. It proves no statement. -/


namespace Go.Proofs.Ytgbkpbmilaafgaa
open Go.RowKit
set_option linter.unusedVariables false
set_option linter.unusedSimpArgs false

theorem sizeR_u : (Try.prog.info? 86).map (·.size) = some 3 := by kernel_rfl
theorem under_u : ∃ fs, Try.prog.underlying 86 = some (.struct fs) := ⟨_, Try.underlying86⟩
set_option maxRecDepth 100000 in
set_option maxHeartbeats 3200000 in
theorem rise_u {w : World} {A : Option Addr} {n c : Nat} {L : List Rw} (h : RwRow kU w A n c L) (hn : n ≤ 1048576) :
    Calls Try.prog 59 #[.agg kV_u, .slice A n c] w fun e w' => e = .returned (.bool (kU.up L n)) ∧ Still w w' := by
  obtain ⟨wA, hwA⟩ : ∃ wA, wA = w.alloc (.cells kV_u 91) := ⟨_, rfl⟩
  obtain ⟨g, hg⟩ : ∃ g, g = w.heap.size := ⟨_, rfl⟩
  have sA : Still w wA := by rw [hwA]; exact (Still.refl w).alloc (Nat.le_refl _) _
  have kb : ∀ W, Still wA W → Blk W g 91 kV_u := fun W s => by
    refine Blk.still (w := wA) ?_ s
    rw [hwA, hg]; exact Blk.new w _ _
  have CK := Lib.hid (fun (q : StillBy wA) => show q.W.cell? ⟨g, 4, none⟩ = some (.func (.func 62) #[] #[]) from (kb _ q.still).cell 4)
  have RI := Lib.hid (fun a b W (oa : kU.Ok a) (ob : kU.Ok b) => rises_u a b W oa ob)
  have HR := Lib.hid (fun W (s : Still wA W) => h.still (Still.trans sA s))
  have hlen := h.len
  have HWA := Lib.hid hwA
  have HG := Lib.hid hg
  have SA := Lib.hid sA
  have OK := Lib.hid h.ok
  have HLN := Lib.hid hlen
  obtain ⟨kv, hkv⟩ : ∃ kv, kv = kV_u := ⟨_, rfl⟩
  rw [← hkv] at HWA ⊢
  obtain ⟨fs, hu⟩ := under_u
  have UP := Lib.hid hu
  have d3 : (n : Int) ≤ 1048576 := by omega
  have d4 : (n : Int) ≤ (c : Int) := by have := h.row.fit; omega
  clear hwA hg sA kb h hn hlen hkv hu
  go_enter Try.func59, Try.ntmps59
  go_upto_region 1 with (guard_target =~ wpList _ _ _ (Oper.mk (some 2) _ _ _ _ _ :: _) _ _; go_must (refine wpList_box_val rfl 91 (.tmp 0) rfl (some 2) rfl kv rfl ?_); rw [← HWA.out, ← HG.out])
  go_wp2_with fail
  go_loopw [5] (fun iv wr => ∃ i : Nat, (i ≤ n ∨ i = 1) ∧ 1 ≤ i ∧ iv = .int .i64 (i : Int) ∧ Hid (kU.up L i = true ∧ Still wA wr)) (fun iv _ => n + 1 - (intOf iv).toNat)
  case atStart => exact ⟨1, .inr rfl, Nat.le_refl _, rfl, Lib.hid ⟨rfl, Still.refl _⟩⟩
  case round =>
    obtain ⟨i, hin, hi1, rfl, IN⟩ := hrel
    by_cases hlt : i < n
    · obtain ⟨j, rfl⟩ : ∃ j, i = j + 1 := ⟨i - 1, by omega⟩
      have SW := Lib.hid IN.out.2
      obtain ⟨a, ha⟩ : ∃ a, L[j]? = some a := ⟨_, List.getElem?_eq_getElem (by have := HLN.out; omega)⟩
      obtain ⟨b, hb⟩ : ∃ b, L[j + 1]? = some b := ⟨_, List.getElem?_eq_getElem (by have := HLN.out; omega)⟩
      obtain ⟨bb, o, rfl, hbb, _⟩ := (HR.out _ SW.out).at_ ha
      have QA := Lib.hid (fun W (s : Still wA W) => show W.rangeAt bb (o + j * 3) (rowV a) from by
        obtain ⟨b2, o2, e, _, h2⟩ := (HR.out _ s).at_ ha
        cases e
        exact h2)
      have QB := Lib.hid (fun W (s : Still wA W) => show W.rangeAt bb (o + (j + 1) * 3) (rowV b) from by
        obtain ⟨b2, o2, e, _, h2⟩ := (HR.out _ s).at_ hb
        cases e
        exact h2)
      have OA := Lib.hid (OK.out a (List.mem_of_getElem? ha))
      have OB := Lib.hid (OK.out b (List.mem_of_getElem? hb))
      have SZA := Lib.hid (show (Try.prog.info? 86).map (·.size) = some (rowV a).length from by rw [sizeR_u, rowV_length, OA.out.1, OA.out.2]; rfl)
      have SZB := Lib.hid (show (Try.prog.info? 86).map (·.size) = some (rowV b).length from by rw [sizeR_u, rowV_length, OB.out.1, OB.out.2]; rfl)
      have UPS := Lib.hid (show kU.up L (j + 2) = (kU.up L (j + 1) && kU.lt a b) from by
        have e1 : L.getD (j + 1 - 1) rw0 = a := by simp [List.getD, ha]
        have e2 : L.getD (j + 1) rw0 = b := by simp [List.getD, hb]
        show (kU.up L (j + 1) && (decide (j + 1 = 0) || kU.lt (L.getD (j + 1 - 1) rw0) (L.getD (j + 1) rw0))) = _
        rw [e1, e2]
        simp)
      have RI1 := Lib.hid (fun W => RI.out a b W OA.out OB.out)
      obtain ⟨q, hq⟩ : ∃ q, q = kU.lt a b := ⟨_, rfl⟩
      have HQ := Lib.hid hq
      rw [← hq] at RI1
      have NX := Lib.hid (show ∀ i, i = j + 1 → kU.up L (i + 1) = q from fun i e => by
        rw [e, UPS.out, IN.out.1, ← HQ.out, Bool.true_and])
      have NO := Lib.hid (show q = false → kU.up L n = false from fun e => up_no L (i := j + 2) (by have := NX.out (j + 1) rfl; rw [e] at this; exact this) n (by omega))
      obtain ⟨i, hi⟩ : ∃ i, i = j + 1 := ⟨_, rfl⟩
      have ck := CK.out
      have d1 : (i : Int) < (n : Int) := by omega
      have d2 : (j : Int) < (n : Int) := by omega
      have e1 : (i : Int) - 1 = (j : Int) := by omega
      have ew : IntKind.i64.wrap (j : Int) = (j : Int) := by rw [IntKind.wrap_i64]; omega
      have HLT := Lib.hid (show i < n by omega)
      have NX1 := Lib.hid (NX.out i hi)
      rw [← hi] at QB ⊢
      have ec : ((j + 1 : Nat) : Int) = (i : Int) := by omega
      clear ha hb hbb hq hlt hin hi1 NX UPS IN HQ hi
      cases q
      · have NOF := Lib.hid (NO.out rfl)
        clear NX1 NO
        go_upto_region 4 with fail
        refine wp_region_quiet_still wA SW.out (by kernel_rfl) (by kernel_rfl) ?_
        repeat (first
          | (guard_target =~ wpQuiet _ _ _ _ (Oper.mk (some 18) _ _ _ _ _ :: _) _; go_must (refine quiet_load_mid (by kernel_rfl) 86 (.tmp 17) rfl bb (o + j * 3) (by kernel_rfl) (rowV a) _ (fun W hW => by obtain ⟨p, rfl⟩ := hW; exact QA.out _ p.still) UP.out rfl SZA.out ?_))
          | (guard_target =~ wpQuiet _ _ _ _ (Oper.mk (some 22) _ _ _ _ _ :: _) _; go_must (refine quiet_load_mid (by kernel_rfl) 86 (.tmp 21) rfl bb (o + i * 3) (by kernel_rfl) (rowV b) _ (fun W hW => by obtain ⟨p, rfl⟩ := hW; exact QB.out _ p.still) UP.out rfl SZB.out ?_))
          | quiet_step ((go_at_call 62; exact Calls.stillby _ (RI1.out _))))
        refine wpQuiet_nil ?_
        intro wq hw'
        have SQ := Lib.hid (show Still wA wq from by obtain ⟨p, rfl⟩ := hw'; exact p.still)
        clear hw' ck
        go_wp2_with fail
        (try simp only [Exit.inBlock, Exit.then])
        go_ret
        exact ⟨by rw [NOF.out]; rfl, Still.trans SA.out SQ.out⟩
      · clear NO
        go_upto_region 4 with fail
        refine wp_region_quiet_still wA SW.out (by kernel_rfl) (by kernel_rfl) ?_
        repeat (first
          | (guard_target =~ wpQuiet _ _ _ _ (Oper.mk (some 18) _ _ _ _ _ :: _) _; go_must (refine quiet_load_mid (by kernel_rfl) 86 (.tmp 17) rfl bb (o + j * 3) (by kernel_rfl) (rowV a) _ (fun W hW => by obtain ⟨p, rfl⟩ := hW; exact QA.out _ p.still) UP.out rfl SZA.out ?_))
          | (guard_target =~ wpQuiet _ _ _ _ (Oper.mk (some 22) _ _ _ _ _ :: _) _; go_must (refine quiet_load_mid (by kernel_rfl) 86 (.tmp 21) rfl bb (o + i * 3) (by kernel_rfl) (rowV b) _ (fun W hW => by obtain ⟨p, rfl⟩ := hW; exact QB.out _ p.still) UP.out rfl SZB.out ?_))
          | quiet_step ((go_at_call 62; exact Calls.stillby _ (RI1.out _))))
        refine wpQuiet_nil ?_
        intro wq hw'
        have SQ := Lib.hid (show Still wA wq from by obtain ⟨p, rfl⟩ := hw'; exact p.still)
        clear hw' ck e1 ew ec
        go_wp2_with fail
        go_roundw
        case rel => exact ⟨i + 1, .inl HLT.out, by omega, by go_num, Lib.hid ⟨NX1.out, SQ.out⟩⟩
        case measure => simp [intOf]; have := HLT.out; omega
    · have E := Lib.hid (show kU.up L n = true from by
        rcases hin with h | h
        · obtain rfl : i = n := by omega
          exact IN.out.1
        · by_cases h0 : n = 0
          · rw [h0]; rfl
          · obtain rfl : i = n := by omega
            exact IN.out.1)
      have d1 : ¬ (i : Int) < (n : Int) := by omega
      have SW := Lib.hid IN.out.2
      clear hin hi1 IN hlt
      go_wp2_with fail
      go_ret
      exact ⟨by rw [E.out]; rfl, Still.trans SA.out SW.out⟩
end Go.Proofs.Ytgbkpbmilaafgaa
