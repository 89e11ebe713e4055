/- Contracts and facts, several texts in one. It proves no statement. -/
import Derived.Test.YtgbkpbmilaafgaaBkGp
import Derived.Test.YtgbkpbmilaafgaaBkGg
import Derived.Test.YtgbkpbmilaafgaaBkGl
import Derived.Test.YtgbkpbmilaafgaaBkGq
import Derived.Test.YtgbkpbmilaafgaaBkGm
import Derived.Test.YtgbkpbmilaafgaaBkGk
import Derived.Test.YtgbkpbmilaafgaaBkGc

/- Contract: what stands ahead of a book's rows (uses). It proves no statement. -/




namespace Go.Proofs.Ytgbkpbmilaafgaa
open Go.RowKit
set_option linter.unusedVariables false
set_option linter.unusedSimpArgs false

set_option maxRecDepth 100000 in
set_option maxHeartbeats 3200000 in
theorem begin_u {w : World} {lo B g : Nat} {b : List UInt8} (h : LiveAny w lo B g b 0) (hB : B ≤ w.heap.size) (hg : g < w.heap.size) (hb : b.length ≤ 1048576) :
    Calls Try.prog 69 #[.agg kV_u, .pointer (some ⟨g, 0, none⟩)] w fun e w' => e = .returned (.tuple #[.int .i64 ((kU.rd1 b).1 : Nat), .int .i64 (kU.rd1 b).2]) ∧ ((kU.rd1 b).2 = 0 → LiveAny w' lo B g (b.drop 12) 0) ∧ w.grownBy w' (some g) := by
  obtain ⟨wA, hwA⟩ : ∃ wA, wA = w.alloc (.cells kV_u 91) := ⟨_, rfl⟩
  obtain ⟨gk, hgk⟩ : ∃ g, g = w.heap.size := ⟨_, rfl⟩
  have sA : Still w wA := by rw [hwA]; exact (Still.refl w).alloc (Nat.le_refl _) _
  have kb : ∀ W, wA.grownBy W (some g) → Blk W gk 91 kV_u := fun W s => by
    have h0 : Blk wA gk 91 kV_u := by rw [hwA, hgk]; exact Blk.new w _ _
    exact (s.block gk h0.lt (fun e => by have := Option.some.inj e; omega)).trans h0
  have lvA : LiveAny wA lo B g b 0 := by
    obtain ⟨A, n, c, lv⟩ := h
    exact (lv.below (Below.mono sA hB)).any
  have CK := Lib.hid (fun W (s : wA.grownBy W (some g)) => show W.cell? ⟨gk, 0, none⟩ = some (.string ⟨#[72, 79, 65, 82, 68, 85, 83, 69]⟩) ∧ W.cell? ⟨gk, 1, none⟩ = some (.int .i64 12) from ⟨(kb W s).cell 0, (kb W s).cell 1⟩)
  have HWA := Lib.hid hwA
  have HG := Lib.hid hgk
  have SA := Lib.hid sA
  have LV := Lib.hid lvA
  obtain ⟨kv, hkv⟩ : ∃ kv, kv = kV_u := ⟨_, rfl⟩
  rw [← hkv] at HWA ⊢
  have c0 := (CK.out wA (World.grownBy.refl _ _)).1
  have HB1 := Lib.hid hb
  clear hwA hgk sA kb lvA h hkv hB hg hb
  by_cases h8 : b.length < 8
  · have E := Lib.hid (show kU.rd1 b = (0, 3) by unfold Kd.rd1; rw [if_pos (by omega)])
    have e1 : rstep b 0 8 false = ((b, 3), []) := rstep_short b 8 false (by simp) (by omega)
    have e2 : rstep b 3 4 true = ((b, 3), []) := rstep_err b 3 4 true (by omega)
    have T1 := text_any LV.out 8
    rw [e1] at T1
    have T1 := Lib.hid T1
    have N1 := Lib.hid (fun W (lv : LiveAny W lo B g b 3) => by have := num_any lv 4; rw [e2] at this; exact this)
    rw [E.out]
    clear e1 e2 h8
    go_enter Try.func69, Try.ntmps69
    go_wp2_with (first
      | (guard_target =~ wpList _ _ _ (Oper.mk (some 2) _ _ _ _ _ :: _) _ _; go_must (refine wpList_box_val rfl 91 (.tmp 0) rfl (some 2) rfl kv rfl ?_); rw [← HWA.out, ← HG.out])
      | (go_at_call 83; with_reducible refine T1.out.mono ?_; rintro e w1 ⟨rfl, lv, gr⟩; have LV1 := Lib.hid lv; have GR1 := Lib.hid gr; clear lv gr)
      | (go_at_call 67; with_reducible refine (N1.out _ LV1.out).mono ?_; rintro e w2 ⟨rfl, lv, gr⟩; have LV2 := Lib.hid lv; have GR2 := Lib.hid (grown_trans GR1.out gr); clear lv gr)
      | (go_at_call 84; with_reducible refine (LV2.out.err).mono ?_; rintro e w3 ⟨rfl, rfl⟩))
    go_ret2
    exact ⟨rfl, fun h => absurd h (by decide), grown_trans (grown_of_still SA.out) GR2.out⟩
  · have e1 : rstep b 0 8 false = ((b.drop 8, 0), b.take 8) := rstep_ok b 8 false (by simp) (by omega)
    have T1 := text_any LV.out 8
    rw [e1] at T1
    have T1 := Lib.hid T1
    have hd : (b.drop 8).length = b.length - 8 := List.length_drop ..
    by_cases h12 : b.length < 12
    · have E := Lib.hid (show kU.rd1 b = (0, 3) by unfold Kd.rd1; rw [if_pos (by omega)])
      have e2 : rstep (b.drop 8) 0 4 true = ((b.drop 8, 3), []) := rstep_short _ 4 true (by simp) (by omega)
      have N1 := Lib.hid (fun W (lv : LiveAny W lo B g (b.drop 8) 0) => by have := num_any lv 4; rw [e2] at this; exact this)
      rw [E.out]
      clear e1 e2 h8 h12 hd
      obtain ⟨sv, hsv⟩ : ∃ sv : ByteArray, sv = ⟨(b.take 8).toArray⟩ := ⟨_, rfl⟩
      have SV := Lib.hid hsv
      rw [show (⟨((b.drop 8, (0 : Int)), b.take 8).2.toArray⟩ : ByteArray) = sv from hsv.symm] at T1
      clear hsv
      go_enter Try.func69, Try.ntmps69
      go_wp2_with (first
        | (guard_target =~ wpList _ _ _ (Oper.mk (some 2) _ _ _ _ _ :: _) _ _; go_must (refine wpList_box_val rfl 91 (.tmp 0) rfl (some 2) rfl kv rfl ?_); rw [← HWA.out, ← HG.out])
        | (go_at_call 83; with_reducible refine T1.out.mono ?_; rintro e w1 ⟨rfl, lv, gr⟩; have LV1 := Lib.hid lv; have GR1 := Lib.hid gr; clear lv gr)
        | (go_at_call 67; with_reducible refine (N1.out _ LV1.out).mono ?_; rintro e w2 ⟨rfl, lv, gr⟩; have LV2 := Lib.hid lv; have GR2 := Lib.hid (grown_trans GR1.out gr); have ck2 := (CK.out _ GR2.out); clear lv gr)
        | (go_at_call 85; with_reducible refine (LV2.out.left).mono ?_; rintro e w3 ⟨rfl, rfl⟩)
        | (go_at_call 84; with_reducible refine (LV2.out.err).mono ?_; rintro e w3 ⟨rfl, rfl⟩))
      go_ret2
      exact ⟨rfl, fun h => absurd h (by decide), grown_trans (grown_of_still SA.out) GR2.out⟩
    · have e2 : rstep (b.drop 8) 0 4 true = (((b.drop 8).drop 4, 0), (b.drop 8).take 4) := rstep_ok _ 4 true (by simp) (by omega)
      have N1 := Lib.hid (fun W (lv : LiveAny W lo B g (b.drop 8) 0) => by have := num_any lv 4; rw [e2] at this; exact this)
      have hc4 := leNum4 (b.drop 8)
      obtain ⟨cn, hcn⟩ : ∃ cn, cn = leNum ((b.drop 8).take 4) := ⟨_, rfl⟩
      simp only [← hcn] at N1
      rw [← hcn] at hc4
      have CN := Lib.hid (show cntB b = cn from hcn.symm)
      obtain ⟨lf, hlf⟩ : ∃ lf, lf = (b.drop 8).drop 4 := ⟨_, rfl⟩
      simp only [← hlf] at N1
      have hll : lf.length = b.length - 12 := by rw [hlf, List.length_drop, hd]; omega
      have LF := Lib.hid (show lf = b.drop 12 by rw [hlf, List.drop_drop])
      obtain ⟨sv, hsv⟩ : ∃ sv : ByteArray, sv = ⟨(b.take 8).toArray⟩ := ⟨_, rfl⟩
      have SV := Lib.hid hsv
      rw [show (⟨((b.drop 8, (0 : Int)), b.take 8).2.toArray⟩ : ByteArray) = sv from hsv.symm] at T1
      have RD := Lib.hid (show kU.rd1 b = if sv.toList ≠ [72, 79, 65, 82, 68, 85, 83, 69] ∨ 65536 < cn then (0, 4) else if lf.length < cn * 12 + 8 then (0, 3) else if cn * 12 + 8 < lf.length then (0, 6) else (cn, 0) from by
        have e3 : sv.toList = b.take 8 := by rw [ByteArray.toList_eq, hsv]
        unfold Kd.rd1
        rw [e3, CN.out, if_neg h12, show kU.wide = 12 from rfl, show kU.nm = [72, 79, 65, 82, 68, 85, 83, 69] from rfl]
        have q1 : (b.length < 20 + 12 * cn) = (lf.length < cn * 12 + 8) := by rw [hll]; apply propext; constructor <;> intro _ <;> omega
        have q2 : (20 + 12 * cn < b.length) = (cn * 12 + 8 < lf.length) := by rw [hll]; apply propext; constructor <;> intro _ <;> omega
        simp only [q1, q2])
      clear e1 e2 h8 hd hcn hlf hsv hll h12
      have d1 : (cn : Int) ≤ 4294967295 := by omega
      go_enter Try.func69, Try.ntmps69
      go_wp2_with (first
        | (guard_target =~ wpList _ _ _ (Oper.mk (some 2) _ _ _ _ _ :: _) _ _; go_must (refine wpList_box_val rfl 91 (.tmp 0) rfl (some 2) rfl kv rfl ?_); rw [← HWA.out, ← HG.out])
        | (go_at_call 83; with_reducible refine T1.out.mono ?_; rintro e w1 ⟨rfl, lv, gr⟩; have LV1 := Lib.hid lv; have GR1 := Lib.hid gr; clear lv gr)
        | (go_at_call 67; with_reducible refine (N1.out _ LV1.out).mono ?_; rintro e w2 ⟨rfl, lv, gr⟩; have LV2 := Lib.hid lv; have GR2 := Lib.hid (grown_trans GR1.out gr); have ck2 := (CK.out _ GR2.out); clear lv gr)
        | (go_at_call 85; with_reducible refine (LV2.out.left).mono ?_; rintro e w3 ⟨rfl, rfl⟩)
        | (go_at_call 84; with_reducible refine (LV2.out.err).mono ?_; rintro e w3 ⟨rfl, rfl⟩))
      all_goals
        go_ret2
        have hR := RD.out
        first
          | (rw [if_pos (Or.inl (by assumption))] at hR; rw [hR]; exact ⟨rfl, fun h => absurd h (by decide), grown_trans (grown_of_still SA.out) GR2.out⟩)
          | (rw [if_pos (Or.inr (by omega))] at hR; rw [hR]; exact ⟨rfl, fun h => absurd h (by decide), grown_trans (grown_of_still SA.out) GR2.out⟩)
          | (rw [if_neg (by rintro (h | h); exact h (by assumption); omega)] at hR
             first
               | (rw [if_pos (by omega)] at hR; rw [hR]; exact ⟨rfl, fun h => absurd h (by decide), grown_trans (grown_of_still SA.out) GR2.out⟩)
               | (rw [if_neg (by omega)] at hR
                  first
                    | (rw [if_pos (by omega)] at hR; rw [hR]; exact ⟨rfl, fun h => absurd h (by decide), grown_trans (grown_of_still SA.out) GR2.out⟩)
                    | (rw [if_neg (by omega)] at hR; rw [hR, ← LF.out]; exact ⟨rfl, fun _ => LV2.out, grown_trans (grown_of_still SA.out) GR2.out⟩)))
end Go.Proofs.Ytgbkpbmilaafgaa

/- Contract: bytes as rows (uses), by the program. It proves no statement. -/






namespace Go.Proofs.Ytgbkpbmilaafgaa
open Go.RowKit
set_option linter.unusedVariables false
set_option linter.unusedSimpArgs false

theorem infoR_u : (Try.prog.info? 86).map (fun i => (i.zero, i.size, i.bytes)) = some (some (.agg (rowV (List.replicate 0 0, List.replicate 3 0)).toArray), 3, 24) := by kernel_rfl
set_option maxRecDepth 100000 in
set_option maxHeartbeats 6400000 in
theorem read_u (A : Option Addr) (n c : Nat) (b : List UInt8) (w : World) (B : Nat) (h : Reads w B A n b) (hB : B ≤ w.heap.size) (hn : n ≤ 1048576) (hnc : n ≤ c) (hc : c ≤ 9223372036854775807) (hA : A = none → n = 0 ∧ c = 0) :
    Calls Try.prog 42 #[.agg kV_u, .slice A n c] w fun e w' => ∃ A' c', e = .returned (.tuple #[.slice A' (kU.rd b).1.length c', .int .i64 (kU.rd b).2]) ∧ RwRow kU w' A' (kU.rd b).1.length c' (kU.rd b).1 ∧ Still w w' := by
  obtain ⟨wA, hwA⟩ : ∃ wA, wA = w.alloc (.cells kV_u 91) := ⟨_, rfl⟩
  obtain ⟨gk, hgk⟩ : ∃ g, g = w.heap.size := ⟨_, rfl⟩
  have sA : Still w wA := by rw [hwA]; exact (Still.refl w).alloc (Nat.le_refl _) _
  have zA : wA.heap.size = w.heap.size + 1 := by rw [hwA]; simp
  have kb : Blk wA gk 91 kV_u := by rw [hwA, hgk]; exact Blk.new w _ _
  have hlen := h.len
  have OP := Lib.hid (open_any A n c b wA B (h.still hB sA) (Nat.le_trans hB sA.size) (by omega) hA)
  have HWA := Lib.hid hwA
  have HG := Lib.hid hgk
  have SA := Lib.hid sA
  have ZA := Lib.hid zA
  have KB := Lib.hid kb
  have RB := Lib.hid (show Reads w B A n b ∧ B ≤ w.heap.size ∧ c ≤ 9223372036854775807 ∧ n ≤ c ∧ (A = none → c = 0) from ⟨h, hB, hc, hnc, fun e => (hA e).2⟩)
  have HLN := Lib.hid hlen
  have HN := Lib.hid hn
  obtain ⟨kl, hkl⟩ : ∃ kl, kl = kV_u.toList := ⟨_, rfl⟩
  have KL := Lib.hid (show kl.toArray = kV_u by rw [hkl])
  have KS := Lib.hid (show (Try.prog.info? 91).map (·.size) = some kl.length from by rw [sizeKd_u, hkl]; rfl)
  have KR := Lib.hid (fun W (e : Blk W gk 91 kV_u) => show W.rangeAt gk 0 kl from fun q u hq => by
    rw [Nat.zero_add, e.cell, ← KL.out, List.getElem?_toArray, hq])
  obtain ⟨fk, hfk⟩ : ∃ fs, Try.prog.underlying 91 = some (.struct fs) := ⟨_, Try.underlying91⟩
  have UK := Lib.hid hfk
  obtain ⟨kv, hkv⟩ : ∃ kv, kv = kV_u := ⟨_, rfl⟩
  have HKV := Lib.hid hkv
  rw [← hkv] at HWA ⊢
  have BE := Lib.hid (fun W lo Bq g (lv : LiveAny W lo Bq g b 0) (h1 : Bq ≤ W.heap.size) (h2 : g < W.heap.size) => begin_u lv h1 h2 (by omega))
  rw [← KL.out] at BE
  have d3 : (n : Int) ≤ 1048576 := by omega
  have d4 : (n : Int) ≤ (c : Int) := by omega
  clear hwA hgk sA zA kb h hB hn hnc hc hA hlen hkl hfk hkv
  go_enter Try.func42, Try.ntmps42
  go_upto_region 3 with (first
    | (guard_target =~ wpList _ _ _ (Oper.mk (some 2) _ _ _ _ _ :: _) _ _; go_must (refine wpList_box_val rfl 91 (.tmp 0) rfl (some 2) rfl kv rfl ?_); rw [← HWA.out, ← HG.out])
    | (go_at_call 65; with_reducible refine OP.out.mono ?_; rintro e w1 ⟨⟨g, A1, c1, rfl, lv⟩, s1⟩; have LV1 := Lib.hid (show LiveAny w1 wA.heap.size w1.heap.size g b 0 ∧ wA.heap.size ≤ g ∧ g < w1.heap.size from ⟨lv.any, lv.low, lv.high⟩); have S1 := Lib.hid s1; have KB1 := Lib.hid (KB.out.still s1); have BE1 := Lib.hid (BE.out _ _ _ _ LV1.out.1 (Nat.le_refl _) LV1.out.2.2); clear lv s1)
    | (guard_target =~ wpList _ _ _ (Oper.mk (some 14) _ _ _ _ _ :: _) _ _; go_must (refine wpList_load_mid rfl 91 (.tmp 2) rfl gk 0 rfl kl _ (KR.out _ KB1.out) UK.out rfl KS.out ?_))
    | (go_at_call 69; with_reducible refine BE1.out.mono ?_; rintro e w2 ⟨rfl, lv2, gr2⟩; have LV2 := Lib.hid lv2; have GR2 := Lib.hid gr2; clear lv2 gr2))
  have SV2 := Lib.hid (show Still wA w2 from S1.out.grown GR2.out S1.out.size (fun k hk => by cases hk; exact LV1.out.2.1))
  by_cases h0 : (kU.rd1 b).2 = 0
  case neg =>
    have RD := Lib.hid (show kU.rd b = ([], (kU.rd1 b).2) from by
      unfold Kd.rd Kd.rdN
      rw [if_pos h0, if_pos h0])
    obtain ⟨ev, hev⟩ : ∃ ev, ev = (kU.rd1 b).2 := ⟨_, rfl⟩
    rw [← hev] at h0 RD ⊢
    have eb : (ev != 0) = true := by simpa using h0
    clear hev h0
    go_wp2_with fail
    (try simp only [Exit.inBlock, Exit.then])
    go_ret2
    rw [RD.out]
    exact ⟨none, 0, rfl, ⟨⟨fun i x hx => by simp at hx, rfl, Nat.le_refl _, by omega⟩, fun r hr => (by cases hr), fun r hr => (by cases hr)⟩, Still.trans SA.out SV2.out⟩
  case pos =>
    obtain ⟨q1, q2, q3, q4, q5⟩ := rd1_inv h0
    have LV2' := Lib.hid (LV2.out h0)
    obtain ⟨cn, hcn⟩ : ∃ cn, cn = cntB b := ⟨_, rfl⟩
    rw [← hcn] at q3 q4 q5
    have R1 := Lib.hid q5
    have hwd : kU.wide = 12 := rfl
    rw [hwd] at q4
    have LQ := Lib.hid q4
    have d5 : (cn : Int) ≤ 65536 := by omega
    rw [q5]
    simp only
    obtain ⟨i0, hi, hz0, hz1, hz2⟩ := info_parts infoR_u
    obtain ⟨zr, hzr⟩ : ∃ z, z = (rowV (List.replicate 0 0, List.replicate 3 0)).toArray := ⟨_, rfl⟩
    rw [← hzr] at hz0
    have HI := Lib.hid (And.intro hi (And.intro hz0 (And.intro hz1 hz2)))
    clear q1 q2 q3 q4 q5 h0 hcn hi hz0 hz1 hz2 hzr LV2 hwd
    go_wp2_with (guard_target =~ wpList _ _ _ (Oper.mk (some 23) _ _ _ _ _ :: _) _ _; go_must (refine wpList_make_full _ rfl (.tmp 22) (.tmp 22) 24 rfl w2.heap.size 86 i0 (.agg zr) 3 Try.underlying24 HI.out.1 HI.out.2.1 HI.out.2.2.1 _ _ _ _ cn rfl rfl rfl rfl (by rw [HI.out.2.2.2]; omega) (by unfold maxLen; omega) (Nat.le_refl _) ?_); intro w3 own3 gr3; have O3 := Lib.hid own3; have GR3 := Lib.hid gr3; clear own3 gr3)
    obtain ⟨gl, hgl⟩ : ∃ gl, gl = w2.heap.size := ⟨_, rfl⟩
    rw [← hgl] at O3 ⊢
    have S3 := Lib.hid (show Still w2 w3 from ⟨GR3.out.os, GR3.out.tape, GR3.out.output, GR3.out.size, fun k hk => GR3.out.block k hk (by simp)⟩)
    have GG := Lib.hid (show g < w1.heap.size ∧ w1.heap.size ≤ gl ∧ wA.heap.size ≤ g ∧ gl ≤ w3.heap.size from ⟨LV1.out.2.2, by rw [hgl]; exact GR2.out.size, LV1.out.2.1, by rw [hgl]; exact S3.out.size⟩)
    have FM3 := Lib.hid (FilM.of_own O3.out)
    have LV3 := Lib.hid (show LiveAny w3 wA.heap.size w1.heap.size g (b.drop 12) 0 from by
      obtain ⟨Aq, nq, cq, lv⟩ := LV2'.out
      exact (lv.below (Below.mono S3.out (by have := GG.out; omega))).any)
    have SV3 := Lib.hid (Still.trans SV2.out S3.out)
    clear hgl O3 GR3 HI
    go_wp2_with fail
    go_loopw [26] (fun iv wr => ∃ i : Nat, i ≤ cn ∧ iv = .int .i64 i ∧ Hid (FilM 3 wr gl cn (kU.rows b i) ∧ LiveAny wr wA.heap.size w1.heap.size g (b.drop (12 + 12 * i)) 0 ∧ Still wA wr ∧ w3.heap.size ≤ wr.heap.size)) (fun iv _ => cn - (intOf iv).toNat)
    case atStart => exact ⟨0, by omega, rfl, Lib.hid ⟨FM3.out, LV3.out, SV3.out, Nat.le_refl _⟩⟩
    case round =>
      obtain ⟨i, hi, rfl, IN⟩ := hrel
      clear FM3 LV3 SV3
      by_cases hlt : i < cn
      · have TK := Lib.hid (take_u IN.out.2.1 (by rw [List.length_drop]; have := LQ.out; omega) (by have := IN.out.2.2.2; have := GG.out; omega) (by have := IN.out.2.2.2; have := GG.out; omega))
        obtain ⟨r, hr⟩ : ∃ r, r = kU.rowAt (b.drop (12 + 12 * i)) := ⟨_, rfl⟩
        have RR := Lib.hid (show kU.rows b (i + 1) = kU.rows b i ++ [r] from by rw [rows_succ, hr]; rfl)
        have RW := Lib.hid (show (rowV r).length = 3 from by
          rw [hr]
          refine rowAt_wide (k := kU) ?_
          rw [List.length_drop]
          have := LQ.out
          show 0 ≤ _
          omega)
        rw [← hr] at TK
        have ck : wr.cell? ⟨gk, 3, none⟩ = some (.func (.func 61) #[] #[]) := (KB.out.still IN.out.2.2.1).cell 3
        have d6 : (i : Int) < (cn : Int) := by omega
        have HI := Lib.hid hlt
        have SZ := Lib.hid (show (Try.prog.info? 86).map (·.size) = some (rowV r).toArray.size from by rw [sizeR_u, List.size_toArray, RW.out])
        clear hr hlt
        go_wp2_with (first
          | (go_at_call 61; with_reducible refine TK.out.mono ?_; rintro e w4 ⟨rfl, lv4, gr4⟩; have LV4 := Lib.hid lv4; have GR4 := Lib.hid gr4; have FM4 := Lib.hid (IN.out.1.keep (gr4.block gl IN.out.1.lt (fun e => by have e := Option.some.inj e; have := GG.out; omega))); clear lv4 gr4)
          | (guard_target =~ wpList _ _ _ (Oper.mk none (Op.store _ _ _) _ _ _ _ :: _) _ _; go_must (refine wpList_store_mid rfl 86 (.tmp 35) (.tmp 34) rfl gl (i * 3) (rowV r).toArray rfl rfl (by rw [List.size_toArray, RW.out]; exact FM4.out.there HI.out) SZ.out (all_oneCell_toArray (rowV_one _)) ?_)))
        go_roundw
        case rel =>
          refine ⟨i + 1, HI.out, by go_num, Lib.hid ⟨?_, ?_, ?_, ?_⟩⟩
          · have h := FM4.out.put (r := r) (by rw [rows_len]; exact HI.out) RW.out
            rw [rows_len, ← RR.out] at h
            exact h
          · obtain ⟨Aq, nq, cq, lv⟩ := LV4.out
            have e := lv.below (w' := w4.setCells gl (i * 3) (rowV r)) (by
              have gs := grown_setC (g := gl) (rowV r) (i * 3) w4
              exact ⟨gs.os, gs.tape, gs.output, gs.size, fun k hk => by
                have := GG.out
                by_cases hk2 : k < w4.heap.size
                · exact gs.block k hk2 (fun e => by have e := Option.some.inj e; omega)
                · have h4 := GR4.out.size; have h5 := IN.out.2.2.2; omega⟩)
            rw [List.drop_drop] at e
            have := e.any
            rw [show 12 + 12 * (i + 1) = 12 + 12 * i + 12 by omega]
            exact this
          · have s4 : Still wA w4 := IN.out.2.2.1.grown GR4.out IN.out.2.2.1.size (fun k hk => by cases hk; exact GG.out.2.2.1)
            exact s4.grown (grown_setC (g := gl) (rowV r) (i * 3) w4) s4.size (fun k hk => by cases hk; have := GG.out; omega)
          · have h4 := GR4.out.size; have h5 := IN.out.2.2.2
            rw [size_setCells]; omega
        case measure => simp [intOf]; have := HI.out; omega
      · have hin : i = cn := by omega
        subst hin
        have d6 : ¬ (i : Int) < (i : Int) := by omega
        obtain ⟨ab, ao, rfl, _, _⟩ := RB.out.1.at_ (by have := LQ.out; have := HLN.out; omega)
        obtain ⟨p, hp⟩ : ∃ p, p = 12 + 12 * i := ⟨_, rfl⟩
        have hnp : n = p + 8 := by have := LQ.out; have := HLN.out; omega
        have e8 : (n : Int) - 8 = (p : Int) := by omega
        have p0 : (0 : Int) ≤ (p : Int) := by omega
        have p1 : (p : Int) ≤ (c : Int) := by omega
        have p2 : (p : Int) ≤ 1048576 := by omega
        have ew : IntKind.i64.wrap (p : Int) = (p : Int) := by rw [IntKind.wrap_i64]; omega
        have tll : (b.drop p).length = 8 := by rw [List.length_drop]; have := HLN.out; omega
        have e9 : rstep (b.drop p) 0 8 true = (((b.drop p).drop 8, 0), b.drop p) := by
          have := rstep_ok (b.drop p) 8 true (by simp) (by omega)
          rwa [List.take_of_length_le (by omega)] at this
        have NU := Lib.hid (show Calls Try.prog 67 #[.pointer (some ⟨g, 0, none⟩), .int .i64 8] wr.drew fun e w' => e = .returned (.int .u64 (leNum (b.drop p) : Nat)) ∧ wr.drew.grownBy w' (some g) from by
          obtain ⟨Aq, nq, cq, lv⟩ := IN.out.2.1
          have lv := (lv.below (w' := wr.drew) ⟨rfl, rfl, rfl, Nat.le_refl _, fun _ _ => rfl⟩).any
          rw [← hp] at lv
          have := num_any lv 8
          rw [e9] at this
          exact this.mono fun e w' h => ⟨h.1, h.2.2⟩)
        have XS := Lib.hid (fun W (s : Still wA W) => xsum_any (some ⟨ab, ao, none⟩) p c (b.take p) 0 W B ((RB.out.1.takek (k := p) (by omega)).still RB.out.2.1 (Still.trans SA.out s)) (Nat.le_trans RB.out.2.1 (Still.trans SA.out s).size) (by omega) (by have := RB.out.2.2.2.1; omega) RB.out.2.2.1 RB.out.2.2.2.2 (by decide))
        obtain ⟨q1, hq1⟩ : ∃ q, q = leNum (b.drop p) := ⟨_, rfl⟩
        obtain ⟨q2, hq2⟩ : ∃ q, q = xxSum (b.take p) 0 := ⟨_, rfl⟩
        simp only [← hq1] at NU
        simp only [← hq2, show ((0 : Nat) : Int) = 0 from rfl] at XS
        have RDN := Lib.hid (show kU.rdN b = if q1 = q2 then (i, 0) else (0, 13) from by
          unfold Kd.rdN
          rw [R1.out, if_neg (by simp)]
          simp only [show kU.wide = 12 from rfl, ← hp, ← hq1, ← hq2, ne_eq, ite_not])
        have HM := Lib.hid (show n = p + 8 from hnp)
        have SG := Lib.hid (fun W (gr : wr.drew.grownBy W (some g)) => show Still wA W from (Still.trans IN.out.2.2.1 (Still.refl _).drew).grown gr (Still.trans IN.out.2.2.1 (Still.refl _).drew).size (fun k hk => by cases hk; exact GG.out.2.2.1))
        have FW := Lib.hid (fun W (gr : wr.drew.grownBy W (some g)) => show FilM 3 W gl i (kU.rows b i) from IN.out.1.keep (gr.block gl IN.out.1.lt (fun e => by have e := Option.some.inj e; have := GG.out; omega)))
        have I16 := Lib.hid (show i ≤ 65536 by omega)
        have ROWS := Lib.hid (rows_all (k := kU) (b := b) (n := i) (by have := LQ.out; show 12 + 12 * i ≤ b.length; omega))
        clear IN hlt hp hnp tll e9 hq1 hq2
        by_cases hq : q1 = q2
        · subst hq
          have RDE := Lib.hid (show kU.rdN b = (i, 0) by rw [RDN.out, if_pos rfl])
          clear RDN
          go_upto_region 11 with fail
          go_region_held3 (fun _ => True) (first | trivial) (first
            | (go_at_call 67; with_reducible refine NU.out.mono ?_; rintro e w6 ⟨rfl, gr6⟩; have SV6 := Lib.hid (SG.out _ gr6); have FM6 := Lib.hid (FW.out _ gr6); clear gr6)
            | (go_at_call 48; with_reducible refine (XS.out _ SV6.out).mono ?_; rintro e w7 ⟨rfl, s7⟩; have S7 := Lib.hid s7; clear s7))
          have FM7 := Lib.hid (FM6.out.keep (S7.out.block gl FM6.out.lt))
          have SV7 := Lib.hid (Still.trans SV6.out S7.out)
          have RW7 := Lib.hid (FM7.out.rw (k := kU) (by rw [rows_len]) (by have := I16.out; omega) ROWS.out.1 (rows_i64 b i))
          have RI := Lib.hid (rise_u RW7.out (by have := I16.out; omega))
          rw [← KL.out] at RI
          obtain ⟨q, hq⟩ : ∃ q, q = kU.up (kU.rows b i) i := ⟨_, rfl⟩
          rw [← hq] at RI
          have UPQ := Lib.hid hq
          have KR7 := Lib.hid (KR.out _ (KB.out.still SV7.out))
          clear hq
          cases q
          · have BW := Lib.hid (show kU.rd b = ([], 18) from by
              unfold Kd.rd
              rw [RDE.out, ← UPQ.out]
              simp)
            go_simp
            go_wp2_with (first
              | (guard_target =~ wpList _ _ _ (Oper.mk (some 46) _ _ _ _ _ :: _) _ _; go_must (refine wpList_load_mid rfl 91 (.tmp 2) rfl gk 0 rfl kl _ KR7.out UK.out rfl KS.out ?_))
              | (go_at_call 59; with_reducible refine RI.out.mono ?_; rintro e w8 ⟨rfl, s8⟩; have S8 := Lib.hid s8; clear s8))
            (try simp only [Exit.inBlock, Exit.then])
            go_ret2
            rw [BW.out]
            exact ⟨none, 0, rfl, ⟨⟨fun i x hx => by simp at hx, rfl, Nat.le_refl _, by omega⟩, fun r hr => (by cases hr), fun r hr => (by cases hr)⟩, Still.trans SA.out (Still.trans SV7.out S8.out)⟩
          · have BW := Lib.hid (show kU.rd b = (kU.rows b i, 0) from by
              unfold Kd.rd
              rw [RDE.out, ← UPQ.out]
              simp)
            go_simp
            go_wp2_with (first
              | (guard_target =~ wpList _ _ _ (Oper.mk (some 46) _ _ _ _ _ :: _) _ _; go_must (refine wpList_load_mid rfl 91 (.tmp 2) rfl gk 0 rfl kl _ KR7.out UK.out rfl KS.out ?_))
              | (go_at_call 59; with_reducible refine RI.out.mono ?_; rintro e w8 ⟨rfl, s8⟩; have S8 := Lib.hid s8; clear s8))
            (try simp only [Exit.inBlock, Exit.then])
            go_ret2
            rw [BW.out]
            have h8 := RW7.out.still S8.out
            simp only [rows_len]
            exact ⟨_, i, rfl, h8, Still.trans SA.out (Still.trans SV7.out S8.out)⟩
        · have RDE := Lib.hid (show kU.rd b = ([], 13) by
            have := RDN.out
            rw [if_neg hq] at this
            unfold Kd.rd
            rw [this]
            simp)
          have nq : ¬ (q1 : Int) = (q2 : Int) := by omega
          have nq2 : ((q1 : Int) != (q2 : Int)) = true := by simp; omega
          clear hq RDN
          go_upto_region 11 with fail
          go_region_held3 (fun _ => True) (first | trivial) (first
            | (go_at_call 67; with_reducible refine NU.out.mono ?_; rintro e w6 ⟨rfl, gr6⟩; have SV6 := Lib.hid (SG.out _ gr6); have FM6 := Lib.hid (FW.out _ gr6); clear gr6)
            | (go_at_call 48; with_reducible refine (XS.out _ SV6.out).mono ?_; rintro e w7 ⟨rfl, s7⟩; have S7 := Lib.hid s7; clear s7))
          go_simp
          go_wp2_with fail
          (try simp only [Exit.inBlock, Exit.then])
          go_ret2
          rw [RDE.out]
          exact ⟨none, 0, rfl, ⟨⟨fun i x hx => by simp at hx, rfl, Nat.le_refl _, by omega⟩, fun r hr => (by cases hr), fun r hr => (by cases hr)⟩, Still.trans SA.out (Still.trans SV6.out S7.out)⟩
end Go.Proofs.Ytgbkpbmilaafgaa

/- Contracts: Uses, ReadUses. It proves no statement. -/


namespace Go.Proofs.Ytgbkpbmilaafgaa
open Go.RowKit
set_option linter.unusedVariables false
set_option linter.unusedSimpArgs false

theorem put_u {w : World} {A : Option Addr} {n c : Nat} {L : List Rw} (h : RwRow kU w A n c L) (hn : n ≤ 65536) :
    Calls Try.prog 11 #[.slice A n c] w fun e w' => ∃ A' c', e = .returned (.tuple #[.slice A' (kU.wr L).1.length c', .int .i64 (kU.wr L).2]) ∧ Reads w' w'.heap.size A' (kU.wr L).1.length (kU.wr L).1 ∧ (kU.wr L).1.length ≤ c' ∧ c' ≤ 9223372036854775807 ∧ (A' = none → c' = 0) ∧ Still w w' := by
  have KI := Lib.hid (kind_u w)
  have WR := Lib.hid (fun W (s : Still w W) => write_u (h.still s) hn)
  obtain ⟨R, hR⟩ : ∃ R, R = kU.wr L := ⟨_, rfl⟩
  rw [← hR] at WR ⊢
  clear hR h hn
  go_enter Try.func11, Try.ntmps11
  go_wp2_with (first
    | (go_at_call 34; with_reducible refine KI.out.mono ?_; rintro e w1 ⟨rfl, s1⟩; have S1 := Lib.hid s1; clear s1)
    | (go_at_call 33; with_reducible refine (WR.out _ S1.out).mono ?_; rintro e w2 ⟨A', c', rfl, h2, h3, h4, h5, s2⟩; have H2 := Lib.hid (And.intro h2 (And.intro h3 (And.intro h4 h5))); have S2 := Lib.hid s2; clear h2 h3 h4 h5 s2))
  go_ret2
  exact ⟨A', c', rfl, H2.out.1, H2.out.2.1, H2.out.2.2.1, H2.out.2.2.2, Still.trans S1.out S2.out⟩
theorem get_u (A : Option Addr) (n c : Nat) (b : List UInt8) (w : World) (B : Nat) (h : Reads w B A n b) (hB : B ≤ w.heap.size) (hn : n ≤ 1048576) (hnc : n ≤ c) (hc : c ≤ 9223372036854775807) (hA : A = none → n = 0 ∧ c = 0) :
    Calls Try.prog 21 #[.slice A n c] w fun e w' => ∃ A' c', e = .returned (.tuple #[.slice A' (kU.rd b).1.length c', .int .i64 (kU.rd b).2]) ∧ RwRow kU w' A' (kU.rd b).1.length c' (kU.rd b).1 ∧ Still w w' := by
  have KI := Lib.hid (kind_u w)
  have WR := Lib.hid (fun W (s : Still w W) => read_u A n c b W B (h.still hB s) (Nat.le_trans hB s.size) hn hnc hc hA)
  obtain ⟨R, hR⟩ : ∃ R, R = kU.rd b := ⟨_, rfl⟩
  rw [← hR] at WR ⊢
  clear hR h hn hnc hc hA
  go_enter Try.func21, Try.ntmps21
  go_wp2_with (first
    | (go_at_call 34; with_reducible refine KI.out.mono ?_; rintro e w1 ⟨rfl, s1⟩; have S1 := Lib.hid s1; clear s1)
    | (go_at_call 42; with_reducible refine (WR.out _ S1.out).mono ?_; rintro e w2 ⟨A', c', rfl, h2, s2⟩; have H2 := Lib.hid h2; have S2 := Lib.hid s2; clear h2 s2))
  go_ret2
  exact ⟨A', c', rfl, H2.out, Still.trans S1.out S2.out⟩
end Go.Proofs.Ytgbkpbmilaafgaa

/- Contracts: the document's own Put. It proves no statement. -/

namespace Go.Proofs.Ytgbkpbmilaafgaa
open Go.RowKit
set_option linter.unusedVariables false
set_option linter.unusedSimpArgs false

theorem rput_no (x : Nat) (n : Int) (w : World) (h : n < 1 ∨ 8 < n) :
    Calls Try.prog 63 #[.int .u64 x, .int .i64 n] w fun e w' => e = .returned (.slice none 0 0) ∧ w = w' := by
  rcases h with h | h
  · go_enter Try.func63, Try.ntmps63
    go_wp2
    go_ret
    exact ⟨rfl, rfl⟩
  · have h1 : 1 ≤ n := by omega
    go_enter Try.func63, Try.ntmps63
    go_wp2
    go_ret
    exact ⟨rfl, rfl⟩

set_option maxHeartbeats 400000 in
theorem rput_yes (x n : Nat) (w : World) (hx : x < 18446744073709551616) (h1 : 1 ≤ n) (h2 : n ≤ 8) :
    Calls Try.prog 63 #[.int .u64 x, .int .i64 n] w fun e w' =>
      ∃ v, e = .returned v ∧ w'.ownsRow w.heap.size 5 1 v n (bytesV (leBytes x n)) ∧ Still w w' := by
  have h2' : decide ((8 : Int) < n) = false := by simp; omega
  go_enter Try.func63, Try.ntmps63
  go_wp2_with fail
  go_loopw [0, 5, 6] (fun xv v i wr => ∃ k : Nat, k ≤ n ∧ i = .int .i64 k ∧ (∃ y : Nat, xv = .int .u64 y ∧ Hid (y = x / 2 ^ (8 * k)) ∧ y < 18446744073709551616) ∧ wr.ownsRow w.heap.size 5 1 v k (bytesV (leBytes x k)) ∧ Still w wr)
    (fun _ _ i _ => n - (intOf i).toNat)
  case atStart => exact ⟨0, Nat.zero_le _, rfl, ⟨x, rfl, by simp [Hid], hx⟩, World.ownsRow_nil _ _ _ _, Below.refl _ _⟩
  case round =>
    obtain ⟨k, hk, rfl, ⟨y, rfl, hy, hyb⟩, hownr, hstr⟩ := hrel
    have hbyte : Hid ((y : Int) % 256 = ((UInt8.ofNat (x / 2 ^ (8 * k))).toNat : Int)) := by unfold Hid; rw [byte_cast, hy.out]
    go_wp2_with (at_builtin; go_must (refine wpList_push _ rfl _ _ rfl w.heap.size _ _ _ rfl hownr _ (UInt8.ofNat (x / 2 ^ (8 * k))) rfl ?c1 ?c2 ?c3 ?_))
    case c1 => exact hbyte.out
    case c2 => omega
    case c3 => exact hstr.size
    · intro v' w1 hown' hgrow _
      have hst' : Still w w1 := hstr.grown hgrow hstr.size (fun k hk => (hownr.lt k hk).1)
      have hlt : k < n := by assumption
      clear hgrow hbyte
      go_wp2_with fail
      go_roundw
      case rel => exact ⟨k + 1, by omega, by go_num, ⟨y / 256, by simp, by
        have h := hy.out
        show y / 256 = _
        rw [h, Nat.div_div_eq_div_mul]
        congr 1
        rw [show 8 * (k + 1) = 8 * k + 8 by omega, Nat.pow_add], by omega⟩, by rw [leBytes_succ]; exact hown', hst'⟩
      case measure => simp [intOf]; omega
    · obtain rfl : k = n := by omega
      go_ret
      exact ⟨_, rfl, hownr, hstr⟩
end Go.Proofs.Ytgbkpbmilaafgaa
