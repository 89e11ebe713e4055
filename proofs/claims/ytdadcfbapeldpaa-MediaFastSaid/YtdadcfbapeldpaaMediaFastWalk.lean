/- The walk of MediaFast: it returns true, and nothing that was there turns. -/
import Derived.Test.YtdadcfbapeldpaaMdSeen
import Derived.Test.YtdadcfbapeldpaaMdFew
namespace Go.Proofs.Ytdadcfbapeldpaa
open Go.RowKit Go.Maps Go.WideMaps Go.Sort
set_option linter.unusedVariables false
set_option linter.unusedSimpArgs false

set_option maxRecDepth 100000 in
set_option maxHeartbeats 6400000 in
theorem mediaFast_walk (A : Option Addr) (n c : Nat) (L : List Call) (a1 : Option Addr) (len1 cap1 : Nat) (z1 : List Int) (a2 : Option Addr) (len2 cap2 : Nat) (z2 : List Int) (w : World) (hin : DosIn w w.heap.size A L) (hn : L.length = n) (hnc : n ≤ c) (hcm : c ≤ 9223372036854775807) (h1 : RowIn .i64 w a1 len1 cap1 z1) (h2 : RowIn .i64 w a2 len2 cap2 z2) :
    Calls Try.prog 3 #[.slice A n c, .slice a1 len1 cap1, .slice a2 len2 cap2] w fun e w' => e = .returned (.bool true) ∧ Still w w' := by
  have PL := Lib.hid (played_any A n c 40 L w hin hn hnc hcm (by omega))
  have LV := Lib.hid (fun W => lives_any W)
  obtain ⟨y1, r1, f1, m1, g1⟩ := readsI_of_row h1
  obtain ⟨y2, r2, f2, m2, g2⟩ := readsI_of_row h2
  have R1 := Lib.hid (r1.front (k := min len1 60) (by omega))
  have R2 := Lib.hid (r2.front (k := min len2 60) (by omega))
  have N1 := Lib.hid (fun W => numbers_any a1 len1 cap1 W f1 m1 (fun h0 => by obtain ⟨b, o, e, _⟩ := r1.2 h0; exact ⟨b, o, e⟩))
  have N2 := Lib.hid (fun W => numbers_any a2 len2 cap2 W f2 m2 (fun h0 => by obtain ⟨b, o, e, _⟩ := r2.2 h0; exact ⟨b, o, e⟩))
  have F1 := Lib.hid (show min len1 60 ≤ cap1 ∧ min len2 60 ≤ cap2 by omega)
  clear hin hn hnc hcm h1 h2 r1 r2 f1 f2 g1 g2
  go_enter Try.func3, Try.ntmps3
  go_wp2_with fail
  refine PL.out.mono ?_
  rintro e w1 ⟨⟨g, own, M, rfl, med, good, on⟩, s1⟩
  have MED := Lib.hid med
  have GD := Lib.hid good
  have ON := Lib.hid on
  have S1 := Lib.hid s1
  have AL := Lib.hid (all_any med good.ok on (by have := good.cnt; omega))
  obtain ⟨nn, hnn⟩ : ∃ nn, nn = M.now.length := ⟨_, rfl⟩
  rw [← hnn] at AL
  have HNN := Lib.hid hnn
  have HN5 : nn ≤ 40 := by have := now_length good.ok; have := good.cnt; omega
  have hLl := Lib.hid (show (allL M).length = nn by unfold allL; rw [List.length_map, hnn])
  clear med good on s1 hnn PL
  go_wp2_with fail
  refine AL.out.mono ?_
  rintro e w2 ⟨nv, bv, xs, wm, rfl, on2, sm, gr⟩
  obtain ⟨An, cn, rfl, hn1, hn2, hn3⟩ := own_formB on2
  obtain ⟨Bv, cb, rfl, hb1, hb2, hb3⟩ := own_formB gr.own
  rw [hLl.out] at gr hb1 hb3 ⊢
  have SN := Lib.hid (seen_of MED.out on2 sm gr hLl.out)
  have S2 := Lib.hid (Still.trans sm gr.st)
  have A2 := Lib.hid (show At w w2 w2 g own M 40 from ⟨⟨own, MED.out.still S2.out, fun _ _ => rfl⟩, GD.out, ON.out, Chg.refl _ _, Still.trans S1.out S2.out⟩)
  have I0 := Lib.hid (show ∃ M', At w w2 w2 g own M' (40 + 0) ∧ Sy M M' 0 from ⟨M, A2.out, Sy.zero M⟩)
  clear on2 sm gr AL A2
  go_wp2_with fail
  go_loopw [10] (fun iv wr => ∃ k : Nat, iv = .int .i64 k ∧ k ≤ nn ∧ Hid (∃ M', At w w2 wr g own M' (40 + k) ∧ Sy M M' k)) (fun iv _ => nn - (intOf iv).toNat)
  case atStart => exact ⟨0, rfl, Nat.zero_le _, I0⟩
  case round =>
    clear I0
    obtain ⟨k, rfl, hk, hin⟩ := hrel
    obtain ⟨M', hat, hsy⟩ := hin.out
    by_cases hlt : k < nn
    · have hlt2 : k < M.now.length := by have := HNN.out; omega
      obtain ⟨p, hp⟩ : ∃ p, M.now[k]? = some p := ⟨_, List.getElem?_eq_getElem hlt2⟩
      have hps : p.1.length ≤ 24 := ON.out.nm.now p (List.mem_of_getElem? hp)
      have hsn := SN.out.chg hat.chg (fun b hb hh => hh hb.1)
      obtain ⟨gs, o, rfl, _, hc⟩ := hsn.names.2 (by omega)
      have d1 := hc k p hp
      have e1 : (⟨p.1.toArray⟩ : ByteArray) = txt p := rfl
      rw [e1] at d1
      obtain ⟨hs0, hs1⟩ := hsy.step GD.out.ok hat.good.ok hat.on hp
      obtain ⟨own', med', ag'⟩ := hat.ex
      have HSY := Lib.hid (sync_M (txt p) med' hat.good.ok (by rw [txt_size]; unfold maxLen; omega))
      rw [hs0] at HSY
      have NX := Lib.hid (fun W (hl : Left wr W w.heap.size g own' (opSync M' (txt p)).2) => (show ∃ M'', At w w2 W g own M'' (40 + (k + 1)) ∧ Sy M M'' (k + 1) from by
        refine ⟨_, ?_, hs1⟩
        have hon : (opSync M' (txt p)).2.On := by
          unfold opSync
          split
          · exact hat.on
          · rw [if_neg hat.on.ne]; exact hat.on.wrote _ _
        obtain ⟨c', own'', h1, m''⟩ := hl
        exact ⟨⟨own'', m'', fun b hb => by rw [h1 b (Nat.lt_of_lt_of_le hb hat.chg.size)]; exact ag' b hb⟩, opSync_good hat.good _, hon, hat.chg.trans c' (fun b hb hh => by rw [← ag' b hb]; exact hh), c'.still hat.st (fun b hb => (med'.dom b hb).1)⟩))
      have q1 : (0 : Int) ≤ (k : Int) := by omega
      have q2 : (k : Int) < (nn : Int) := by omega
      have HLT := Lib.hid hlt
      obtain ⟨X, hX⟩ : ∃ X, X = txt p := ⟨_, rfl⟩
      rw [← hX] at d1 HSY NX
      clear hsn hc hs0 hs1 med' ag' hat hsy hin hp hps hlt hlt2 e1 hX
      go_wp2_with fail
      refine HSY.out.mono ?_
      rintro e w3 ⟨rfl, hl⟩
      have NX2 := Lib.hid (NX.out w3 hl)
      clear hl HSY NX d1
      go_wp2_with fail
      go_roundw
      case rel => exact ⟨k + 1, by go_num, by have := HLT.out; omega, NX2⟩
      case measure => simp [intOf]; have := HLT.out; omega
    · obtain rfl : k = nn := by omega
      rw [HNN.out] at hsy
      obtain ⟨hd0, hd1⟩ := hsy.flat hat.on
      obtain ⟨own', med', ag'⟩ := hat.ex
      have HSD := Lib.hid (syncDir_M med' hat.good.ok (by have := hat.good.cnt; omega))
      rw [hd0] at HSD
      have hon : (opSyncDir M').2.On := by
        unfold opSyncDir
        rw [if_neg hat.on.no, if_neg hat.on.ne]
        exact hat.on.syncedDir
      have NX := Lib.hid (fun W (hl : Left wr W w.heap.size g own' (opSyncDir M').2) => (show At w w2 W g own (opSyncDir M').2 (40 + k + 1) from by
        obtain ⟨c', own'', h1, m''⟩ := hl
        exact ⟨⟨own'', m'', fun b hb => by rw [h1 b (Nat.lt_of_lt_of_le hb hat.chg.size)]; exact ag' b hb⟩, opSyncDir_good hat.good, hon, hat.chg.trans c' (fun b hb hh => by rw [← ag' b hb]; exact hh), c'.still hat.st (fun b hb => (med'.dom b hb).1)⟩))
      obtain ⟨M4, hM4⟩ : ∃ M4, M4 = (opSyncDir M').2 := ⟨_, rfl⟩
      rw [← hM4] at HSD NX hd1
      have FL4 := Lib.hid hd1
      clear med' ag' hat hsy hin hd0 hd1 hon hM4
      go_wp2_with fail
      refine HSD.out.mono ?_
      rintro e w4 ⟨rfl, hl⟩
      have A4 := Lib.hid (NX.out w4 hl)
      clear hl HSD NX
      go_wp2_with fail
      refine (N1.out _).mono ?_
      rintro e w4' ⟨rfl, rfl⟩
      go_wp2_with fail
      refine (crash_at A4.out (by omega) R1.out F1.out.1 m1).mono ?_
      rintro e w5 ⟨rfl, a5⟩
      have A5 := Lib.hid a5
      obtain ⟨M5, hM5⟩ : ∃ M5, M5 = M4.crash (y1.take (min len1 60)) := ⟨_, rfl⟩
      rw [← hM5] at A5
      have FL5 := Lib.hid (show Flat M M5 by rw [hM5]; exact FL4.out.crash _)
      obtain ⟨own5, med5, ag5⟩ := A5.out.ex
      have MED5 := Lib.hid med5
      have AG5 := Lib.hid ag5
      have AL := Lib.hid (all_any med5 A5.out.good.ok A5.out.on (by have := A5.out.good.cnt; omega))
      have E5 := Lib.hid (FL5.out.sy.all GD.out.ok ON.out.off A5.out.good.ok A5.out.on.off)
      rw [E5.out, FL5.out.sy.now, ← HNN.out] at AL
      clear a5 hM5 med5 ag5 A4 FL4
      go_wp2_with fail
      refine AL.out.mono ?_
      rintro e w6 ⟨nv6, bv6, xs6, wm6, rfl, on6, sm6, gr6⟩
      obtain ⟨A6, c6, rfl, u1, u2, u3⟩ := own_formB on6
      obtain ⟨B6, d6, rfl, u4, u5, u6⟩ := own_formB gr6.own
      rw [hLl.out] at gr6 u4 u6 ⊢
      have SN6 := Lib.hid (seen_of MED5.out on6 sm6 gr6 hLl.out)
      have S6 := Lib.hid (Still.trans sm6 gr6.st)
      have SO6 := Lib.hid (show Seen w6 (fun b => own5 b = none ∧ b < w6.heap.size) An Bv k cb M.now (allL M) from ((SN.out.chg A5.out.chg (fun b hb hh => hh hb.1)).still S6.out).mono (fun b hb => ⟨by rw [AG5.out b hb.2]; exact hb.1, Nat.lt_of_lt_of_le hb.2 (Nat.le_trans A5.out.chg.size S6.out.size)⟩))
      have A66 := Lib.hid (show At w w6 w6 g own5 M5 (40 + k + 1 + 1) from ⟨⟨own5, MED5.out.still S6.out, fun _ _ => rfl⟩, A5.out.good, A5.out.on, Chg.refl _ _, Still.trans A5.out.st S6.out⟩)
      clear on6 sm6 gr6 AL
      go_wp2_with fail
      refine (N2.out _).mono ?_
      rintro e w6' ⟨rfl, rfl⟩
      go_wp2_with fail
      refine (crash_at A66.out (by omega) R2.out F1.out.2 m2).mono ?_
      rintro e w7 ⟨rfl, a7⟩
      have A7 := Lib.hid a7
      obtain ⟨M7, hM7⟩ : ∃ M7, M7 = M5.crash (y2.take (min len2 60)) := ⟨_, rfl⟩
      rw [← hM7] at A7
      have FL7 := Lib.hid (show Flat M M7 by rw [hM7]; exact FL5.out.crash _)
      obtain ⟨own7, med7, ag7⟩ := A7.out.ex
      have MED7 := Lib.hid med7
      have AL := Lib.hid (all_any med7 A7.out.good.ok A7.out.on (by have := A7.out.good.cnt; omega))
      have E7 := Lib.hid (FL7.out.sy.all GD.out.ok ON.out.off A7.out.good.ok A7.out.on.off)
      rw [E7.out, FL7.out.sy.now, ← HNN.out] at AL
      clear a7 hM7 med7 ag7
      go_wp2_with fail
      refine AL.out.mono ?_
      rintro e w8 ⟨nv8, bv8, xs8, wm8, rfl, on8, sm8, gr8⟩
      obtain ⟨A8, c8, rfl, v1, v2, v3⟩ := own_formB on8
      obtain ⟨B8, d8, rfl, v4, v5, v6⟩ := own_formB gr8.own
      rw [hLl.out] at gr8 v4 v6 ⊢
      have SN8 := Lib.hid (seen_of MED7.out on8 sm8 gr8 hLl.out)
      have S8 := Lib.hid (Still.trans sm8 gr8.st)
      have SP := Lib.hid ((SO6.out.chg A7.out.chg (fun b hb hh => hh hb.1)).still S8.out)
      have SQ := Lib.hid ((SN6.out.chg A7.out.chg (fun b hb hh => hh hb.1)).still S8.out)
      have SH := Lib.hid (short_all MED.out GD.out.ok ON.out.off)
      have T8 := Lib.hid (Still.trans A7.out.st S8.out)
      have HA := Lib.hid (fun W (t : Still w8 W) => alike_same An A6 Bv B6 k cn c6 k cb d6 M.now (allL M) W (SP.out.names.still t) (SQ.out.names.still t) (SP.out.rows.still t) (SQ.out.rows.still t) (by omega) (by omega) SH.out)
      have HB := Lib.hid (fun W (t : Still w8 W) => alike_same An A8 Bv B8 k cn c8 k cb d8 M.now (allL M) W (SP.out.names.still t) (SN8.out.names.still t) (SP.out.rows.still t) (SN8.out.rows.still t) (by omega) (by omega) SH.out)
      clear on8 sm8 gr8 AL
      go_wp2_with fail
      refine (HA.out _ (Still.refl _)).mono ?_
      rintro e w9 ⟨rfl, q9, hw9⟩
      have T9 := Lib.hid (show Still w8 w9 from hw9 ▸ still_drewN (Still.refl w8) q9)
      clear hw9
      go_wp2_with fail
      refine (HB.out _ T9.out).mono ?_
      rintro e wa ⟨rfl, qa, hwa⟩
      have TA := Lib.hid (show Still w8 wa from hwa ▸ still_drewN T9.out qa)
      clear hwa
      go_wp2_with fail
      refine (LV.out _).mono ?_
      rintro e wb ⟨rfl, tb⟩
      have TB := Lib.hid (Still.trans T8.out (Still.trans TA.out tb))
      clear tb
      go_wp2_with fail
      go_ret
      exact ⟨rfl, TB.out⟩
end Go.Proofs.Ytdadcfbapeldpaa
