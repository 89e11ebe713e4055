/- The walk of MediaOff: it returns true, and nothing that was there turns. -/
import Derived.Test.YtdadcfbapeldpaaMdOffX
import Derived.Test.YtdadcfbapeldpaaWithin
namespace Go.Proofs.Ytdadcfbapeldpaa
open Go.RowKit Go.Maps Go.WideMaps Go.Sort
set_option linter.unusedVariables false
set_option linter.unusedSimpArgs false

set_option maxRecDepth 100000 in
set_option maxHeartbeats 6400000 in
theorem mediaOff_walk (A : Option Addr) (n c : Nat) (L : List Call) (A2 : Option Addr) (n2 c2 : Nat) (L2 : List Call) (x : Int) (w : World) (hin : DosIn w w.heap.size A L) (hn : L.length = n) (hnc : n ≤ c) (hcm : c ≤ 9223372036854775807) (hin2 : DosIn w w.heap.size A2 L2) (hn2 : L2.length = n2) (hnc2 : n2 ≤ c2) (hcm2 : c2 ≤ 9223372036854775807) :
    Calls Try.prog 5 #[.slice A n c, .slice A2 n2 c2, .int .i64 x] w fun e w' => e = .returned (.bool true) ∧ Still w w' := by
  have PL := Lib.hid (played_any A n c 20 L w hin hn hnc hcm (by omega))
  have LV := Lib.hid (fun W => lives_any W)
  have FEW := Lib.hid (fun W (z : Still w W) => few_any A2 n2 c2 20 L2 W w.heap.size (hin2.still (Nat.le_refl _) z) z.size hn2 hnc2 hcm2 (by omega))
  clear hin hn hnc hcm hin2 hnc2 hcm2
  go_enter Try.func5, Try.ntmps5
  go_wp2_with fail
  refine PL.out.mono ?_
  rintro e w1 ⟨⟨g, own, M, rfl, med, good, on⟩, s1⟩
  have A1 := Lib.hid (show ∃ M', AtX w w1 w1 g own M' (20 + 0) ∧ Arm M' M.now (-1) false from ⟨M, ⟨⟨own, med, fun _ _ => rfl⟩, good, Chg.refl _ _, s1⟩, Arm.of_on on⟩)
  have HN5 := Lib.hid (show M.now.length ≤ 20 by have := now_length good.ok; have := good.cnt; omega)
  clear med good on s1 PL
  go_wp2_with fail
  refine (within_any x 0 5 w1 (by omega)).mono ?_
  rintro e w1' ⟨⟨v, v1, v2, rfl⟩, rfl⟩
  obtain ⟨m, rfl⟩ := Int.eq_ofNat_of_zero_le v1
  have hm : m ≤ 5 := by omega
  clear v1 v2
  go_wp2_with fail
  go_loopw [8] (fun iv wr => ∃ k : Nat, iv = .int .i64 k ∧ k ≤ m ∧ Hid (∃ M', AtX w w1 wr g own M' (20 + k) ∧ Arm M' M.now (-1) false)) (fun iv _ => m - (intOf iv).toNat)
  case atStart => exact ⟨0, rfl, Nat.zero_le _, A1⟩
  case round =>
    clear A1
    obtain ⟨k, rfl, hk, hh⟩ := hrel
    obtain ⟨M', hat, har⟩ := hh.out
    by_cases hlt : k < m
    · obtain ⟨h0, h1⟩ := har.sync (by decide)
      have HS := Lib.hid (syncDir_at hat (by omega))
      rw [h0] at HS
      rw [stepL_on] at h1
      have NX := Lib.hid (fun W (z : AtX w w1 W g own (opSyncDir M').2 (20 + k + 1)) => (show ∃ M'', AtX w w1 W g own M'' (20 + (k + 1)) ∧ Arm M'' M.now (-1) false from ⟨_, z, h1⟩))
      have q2 : (k : Int) < (m : Int) := by omega
      have HLT := Lib.hid hlt
      clear hat har hh h0 h1 hlt
      go_wp2_with fail
      refine HS.out.mono ?_
      rintro e w3 ⟨rfl, z⟩
      have NX2 := Lib.hid (NX.out w3 z)
      clear z HS NX
      go_wp2_with fail
      go_roundw
      case rel => exact ⟨k + 1, by go_num, by have := HLT.out; omega, NX2⟩
      case measure => simp [intOf]; have := HLT.out; omega
    · obtain rfl : k = m := by omega
      have AT := Lib.hid hat
      have AR := Lib.hid har
      obtain ⟨own2, med2, ag2⟩ := hat.ex
      have MED2 := Lib.hid med2
      have AL := Lib.hid (all_any med2 hat.good.ok har.on (by have := hat.good.cnt; omega))
      have hLl := Lib.hid (show (allL M').length = M'.now.length by unfold allL; rw [List.length_map])
      rw [har.now] at AL hLl
      obtain ⟨nn, hnn⟩ : ∃ nn, nn = M.now.length := ⟨_, rfl⟩
      rw [← hnn] at AL hLl
      have HNN := Lib.hid hnn
      clear hat har hh med2 ag2 hnn
      go_wp2_with fail
      refine AL.out.mono ?_
      rintro e w3 ⟨nv, bv, xs, wm, rfl, on3, sm, gr⟩
      obtain ⟨An, cn, rfl, u1, u2, u3⟩ := own_formB on3
      obtain ⟨Bv, cb, rfl, u4, u5, u6⟩ := own_formB gr.own
      rw [hLl.out] at gr u4 u6 ⊢
      have SN := Lib.hid (seen_of MED2.out on3 sm gr hLl.out)
      have S3 := Lib.hid (Still.trans sm gr.st)
      have A3 := Lib.hid (show AtX w w3 w3 g own2 M' (20 + k) from ⟨⟨own2, MED2.out.still S3.out, fun _ _ => rfl⟩, AT.out.good, Chg.refl _ _, Still.trans AT.out.st S3.out⟩)
      obtain ⟨ha0, ha1⟩ := AR.out.arm k
      have HAM := Lib.hid ((arm_M (k : Nat) (MED2.out.still S3.out)).mono (fun e w' (z : _ ∧ _) => (⟨z.1, A3.out.left (MED2.out.still S3.out) (fun _ _ => rfl) z.2 (opArm_good A3.out.good _ (by omega))⟩ : _ ∧ AtX w w3 w' g own2 (opArm M' (k : Nat)).2 (20 + k + 1))))
      rw [ha0] at HAM
      obtain ⟨Ma, hMa⟩ : ∃ Ma, Ma = (opArm M' (k : Nat)).2 := ⟨_, rfl⟩
      rw [← hMa] at HAM ha1
      have HA1 := Lib.hid ha1
      clear on3 sm gr AL ha0 ha1 hMa
      go_wp2_with fail
      refine HAM.out.mono ?_
      rintro e w4 ⟨rfl, a4⟩
      have I4 := Lib.hid (show ∃ M'', AtX w w3 w4 g own2 M'' (30 + 0) ∧ Arm M'' M.now ((k : Int) - (0 : Nat)) false from ⟨Ma, a4.mono (by omega), by simpa using HA1.out⟩)
      clear a4 HAM
      go_wp2_with fail
      go_loopw [11] (fun iv wr => ∃ j : Nat, iv = .int .i64 j ∧ j ≤ k ∧ Hid (∃ M'', AtX w w3 wr g own2 M'' (30 + j) ∧ Arm M'' M.now ((k : Int) - (j : Nat)) false)) (fun iv _ => k - (intOf iv).toNat)
      case atStart => exact ⟨0, rfl, Nat.zero_le _, I4⟩
      case round =>
        clear I4
        obtain ⟨j, rfl, hj, hh⟩ := hrel
        obtain ⟨M'', hat, har⟩ := hh.out
        by_cases hlt : j < k
        · obtain ⟨h0, h1⟩ := har.sync (by omega)
          have HS := Lib.hid (syncDir_at hat (by omega))
          rw [h0] at HS
          rw [stepL_pos _ (by omega)] at h1
          have NX := Lib.hid (fun W (z : AtX w w3 W g own2 (opSyncDir M'').2 (30 + j + 1)) => (show ∃ M3, AtX w w3 W g own2 M3 (30 + (j + 1)) ∧ Arm M3 M.now ((k : Int) - ((j + 1 : Nat) : Int)) false from ⟨_, z, by rw [show (k : Int) - ((j + 1 : Nat) : Int) = (k : Int) - (j : Nat) - 1 by omega]; exact h1⟩))
          have q2 : (j : Int) < (k : Int) := by omega
          have HLT := Lib.hid hlt
          clear hat har hh h0 h1 hlt
          go_wp2_with fail
          refine HS.out.mono ?_
          rintro e w5 ⟨rfl, z⟩
          have NX2 := Lib.hid (NX.out w5 z)
          clear z HS NX
          go_wp2_with fail
          go_roundw
          case rel => exact ⟨j + 1, by go_num, by have := HLT.out; omega, NX2⟩
          case measure => simp [intOf]; have := HLT.out; omega
        · obtain rfl : j = k := by omega
          rw [show (j : Int) - (j : Nat) = 0 by omega] at har
          obtain ⟨h0, h1⟩ := har.die
          have HS := Lib.hid (syncDir_at hat (by omega))
          rw [h0] at HS
          obtain ⟨Md, hMd⟩ : ∃ Md, Md = (opSyncDir M'').2 := ⟨_, rfl⟩
          rw [← hMd] at HS h1
          have DD := Lib.hid h1
          clear hat har hh h0 h1 hMd
          go_wp2_with fail
          refine HS.out.mono ?_
          rintro e w5 ⟨rfl, a5⟩
          have A5 := Lib.hid (a5.mono (show 30 + j + 1 ≤ 40 by omega))
          obtain ⟨own5, med5, ag5⟩ := a5.ex
          have HPW := Lib.hid (power_M med5)
          rw [DD.out.off] at HPW
          have MED5 := Lib.hid med5
          have AG5 := Lib.hid ag5
          clear a5 med5 ag5 HS
          go_wp2_with fail
          refine HPW.out.mono ?_
          rintro e w5' ⟨rfl, rfl⟩
          clear HPW
          go_wp2_with fail
          refine (FEW.out w5 A5.out.st).mono ?_
          rintro e w6 ⟨⟨ov, xs6, rfl, o6, has6⟩, s6⟩
          obtain ⟨X, hX⟩ : ∃ X, X = (L2.take 20).map cutD := ⟨_, rfl⟩
          obtain ⟨N, hN⟩ : ∃ N, N = min n2 20 := ⟨_, rfl⟩
          have XN := Lib.hid (show X.length = N by rw [hX, List.length_map, List.length_take, hn2, hN]; omega)
          rw [← hX] at has6
          rw [← hN] at o6
          obtain ⟨Ao, co, rfl⟩ := own_formV o6
          have O6 := Lib.hid o6
          have HD := Lib.hid has6
          have S6 := Lib.hid s6
          have VF := Lib.hid (show N ≤ co ∧ co ≤ 9223372036854775807 ∧ (0 < N → ∃ b, Ao = some ⟨b, 0, none⟩) from by
            rcases o6.2 with ⟨h, h0⟩ | ⟨q, cap, cur, h, h2, h3, h4, h5, _⟩
            · injection h with q1 q2 q3
              exact ⟨by omega, by omega, fun i => by omega⟩
            · injection h with q1 q2 q3
              subst q1 q3
              exact ⟨h4, by unfold maxLen at h5; omega, fun i => ⟨_, rfl⟩⟩)
          have A6 := Lib.hid (show AtX w w6 w6 g own5 Md 40 from ⟨⟨own5, MED5.out.still S6.out, fun _ _ => rfl⟩, A5.out.good, Chg.refl _ _, Still.trans A5.out.st S6.out⟩)
          have SN6 := Lib.hid (show Seen w6 (fun b => own5 b = none ∧ b < w6.heap.size) An Bv nn cb M.now (allL M') from ((SN.out.chg A5.out.chg (fun b hb hh => hh hb.1)).still S6.out).mono (fun b hb => ⟨by rw [AG5.out b hb.2]; exact hb.1, Nat.lt_of_lt_of_le hb.2 (Nat.le_trans A5.out.chg.size S6.out.size)⟩))
          have PB := Lib.hid (show (∀ b, b < w.heap.size → own5 b = none ∧ b < w6.heap.size) ∧ (∀ b, w5.heap.size ≤ b → b < w6.heap.size → own5 b = none ∧ b < w6.heap.size) from by
            refine ⟨fun b hb => ⟨(MED5.out.below b hb).1, ?_⟩, fun b h1 h2 => ⟨ownSize MED5.out.dom h1, h2⟩⟩
            have := A5.out.st.size
            have := S6.out.size
            omega)
          have hN20 : N ≤ 20 := by omega
          clear o6 has6 s6 hX hN FEW
          go_wp2_with fail
          go_loopw [12] (fun iv wr => ∃ i : Nat, i ≤ N ∧ iv = .int .i64 i ∧ Hid (AtX w w6 wr g own5 Md (40 + i))) (fun iv _ => N - (intOf iv).toNat)
          case atStart => exact ⟨0, Nat.zero_le _, rfl, A6.out⟩
          case round =>
            obtain ⟨i, hi, rfl, hh⟩ := hrel
            by_cases hlt : i < N
            · obtain ⟨gl, rfl⟩ := VF.out.2.2 (by omega)
              obtain ⟨x, hx⟩ : ∃ x, X[i]? = some x := ⟨_, List.getElem?_eq_getElem (by have := XN.out; omega)⟩
              obtain ⟨A1, m1, cc, A2', n2', c2', rng, hbl, hm1, hnn1, hda⟩ := HD.out.at2 O6.out XN.out hx (fun b => own5 b = none ∧ b < w6.heap.size) PB.out.1 PB.out.2
              obtain ⟨own, med, ag⟩ := hh.out.ex
              have cg := hh.out.chg
              have glo : ¬ own5 gl ≠ none := fun h => h (PB.out.2 gl (O6.out.lt gl rfl).1 (O6.out.lt gl rfl).2).1
              have RNG := Lib.hid (show wr.rangeAt gl (i * 7) (doL x A1 m1 cc A2' n2' c2') from fun q u hq =>
                (World.cell?_of_block (w := w6) (cg.block gl (O6.out.lt gl rfl).2 glo)).trans (rng q u hq))
              have k0 : wr.cell? ⟨gl, i * 7, none⟩ = some (.int .i64 x.k) := by have := RNG.out 0 (.int .i64 x.k) rfl; simpa using this
              have hco := VF.out.1
              have hcom := VF.out.2.1
              have NXC := Lib.hid (show AtX w w6 wr g own5 Md (40 + (i + 1)) from hh.out.mono (by omega))
              by_cases k8 : x.k = 8
              · rw [k8] at k0
                clear hh med ag cg rng hda RNG
                go_wp2_with fail
                go_roundw
                case rel => exact ⟨i + 1, by omega, by go_num, NXC⟩
                case measure => simp [intOf]; omega
              · by_cases k10 : x.k = 10
                · rw [k10] at k0
                  clear hh med ag cg rng hda RNG
                  go_wp2_with fail
                  go_roundw
                  case rel => exact ⟨i + 1, by omega, by go_num, NXC⟩
                  case measure => simp [intOf]; omega
                · have b8 : (x.k == 8) = false := by simpa using k8
                  have b10 : (x.k == 10) = false := by simpa using k10
                  have DS := Lib.hid (does_M med hh.out.good (by omega) (hda.keep cg (fun b hb h => h hb.1)) (fun b hb => ⟨by rw [ag b hb.2]; exact hb.1, Nat.lt_of_lt_of_le hb.2 cg.size⟩))
                  have OFS := Lib.hid (fun gf o => off_step DD.out.off x gf o k8 k10)
                  have NX := Lib.hid (fun W (hl : Left wr W w.heap.size g own Md) => (show AtX w w6 W g own5 Md (40 + i + 1) from hh.out.left med ag hl (hh.out.good.mono (by omega))))
                  clear hh med ag cg rng hda NXC
                  go_wp2_with (guard_target =~ wpList _ _ _ (Oper.mk _ (Op.load 43 _) _ _ _ _ :: _) _ _; go_must (refine load_midM (by kernel_rfl) 43 (.tmp 83) rfl gl (i * 7) (by kernel_rfl) (doL x A1 m1 cc A2' n2' c2') _ RNG.out Try.underlying43 rfl sizeDo ?_))
                  refine DS.out.mono ?_
                  rintro e w7 ⟨gf, o, hfr, _, hdone⟩
                  rw [OFS.out gf o] at hdone
                  obtain ⟨⟨q, Av, cv, he, hrow⟩, hleft⟩ := hdone
                  have A7 := Lib.hid (NX.out w7 hleft)
                  have hq : q = 0 := by have := hrow.1; simpa [bytesV] using this.symm
                  subst hq
                  subst he
                  obtain ⟨own7, med7, ag7⟩ := A7.out.ex
                  have HLI := Lib.hid (list_M med7 A7.out.good.ok (by have := A7.out.good.cnt; omega))
                  have hnm : Md.names = [] := by unfold Me.names; rw [if_pos DD.out.off]
                  rw [hnm] at HLI
                  have HUS := Lib.hid (fun W (t : Still w7 W) => used_M (med7.still t) A7.out.good.ok (by have := A7.out.good.cnt; omega))
                  simp only [DD.out.off, if_true] at HUS
                  clear hfr hrow hleft DS NX RNG k0 k8 k10 b8 b10 med7 ag7 hnm OFS
                  go_wp2_with fail
                  refine HLI.out.mono ?_
                  rintro e w8 ⟨⟨lv, rfl, ol⟩, t8⟩
                  obtain ⟨Al, cl, rfl, l1, l2, l3⟩ := own_formB ol
                  have T8 := Lib.hid t8
                  clear ol t8 HLI
                  go_wp2_with fail
                  refine (HUS.out _ T8.out).mono ?_
                  rintro e w9 ⟨rfl, t9⟩
                  have A9 := Lib.hid ((A7.out.still (Still.trans T8.out t9)).mono (show 40 + i + 1 ≤ 40 + (i + 1) by omega))
                  clear t9 HUS
                  go_wp2_with fail
                  go_roundw
                  case rel => exact ⟨i + 1, by omega, by go_num, A9⟩
                  case measure => simp [intOf]; omega
            · obtain rfl : i = N := by omega
              obtain ⟨own, med, ag⟩ := hh.out.ex
              have s1 : Still wr (wr.alloc (.cells #[.int .i64 4611686018427387904] 3)) := (Still.refl wr).alloc (Nat.le_refl _) _
              have hbx := Blk.new wr 3 #[.int .i64 4611686018427387904]
              have hri : ReadsI (wr.alloc (.cells #[.int .i64 4611686018427387904] 3)) (fun b => b = wr.heap.size) (some ⟨wr.heap.size, 0, none⟩) 1 [4611686018427387904] := ⟨rfl, fun _ => ⟨_, 0, rfl, rfl, by simp, fun q hq => by
                obtain rfl : q = 0 := by omega
                exact hbx.cell 0⟩⟩
              have HCR := Lib.hid ((crash_M (med.still s1) hh.out.good.ok (by have := hh.out.good.cnt; omega) hri (fun b hb => ⟨by rw [hb]; exact ownSize med.dom (Nat.le_refl _), by rw [hb]; simp⟩) (Nat.le_refl 1) (by omega)).mono (fun e w' (z : _ ∧ _) => (⟨z.1, (hh.out.still s1).left (med.still s1) ag z.2 (crash_good hh.out.good _)⟩ : _ ∧ AtX w w6 w' g own5 (Md.crash [4611686018427387904]) (40 + i + 1))))
              have hac := DD.out.crash hh.out.good.ok (by have := hh.out.good.cnt; omega)
              obtain ⟨Mc, hMc⟩ : ∃ Mc, Mc = Md.crash [4611686018427387904] := ⟨_, rfl⟩
              rw [← hMc] at HCR hac
              have AC := Lib.hid hac
              clear med ag s1 hbx hri hac hMc hh
              go_wp2_with fail
              refine HCR.out.mono ?_
              rintro e w7 ⟨rfl, a7⟩
              have A7 := Lib.hid (a7.mono (show 40 + i + 1 ≤ 100 by omega))
              obtain ⟨own7, med7, ag7⟩ := A7.out.ex
              have MED7 := Lib.hid med7
              have AG7 := Lib.hid ag7
              have AL := Lib.hid (all_any med7 A7.out.good.ok AC.out.on (by have := A7.out.good.cnt; omega))
              have hLl7 := Lib.hid (show (allL Mc).length = nn by unfold allL; rw [List.length_map, AC.out.now, HNN.out])
              rw [AC.out.now, ← HNN.out] at AL
              clear a7 med7 ag7 HCR
              go_wp2_with fail
              refine AL.out.mono ?_
              rintro e w8 ⟨nv8, bv8, xs8, wm8, rfl, on8, sm8, gr8⟩
              obtain ⟨A8, c8, rfl, r1, r2, r3⟩ := own_formB on8
              obtain ⟨B8, d8, rfl, r4, r5, r6⟩ := own_formB gr8.own
              rw [hLl7.out] at gr8 r4 r6 ⊢
              have SN8 := Lib.hid (seen_of MED7.out on8 sm8 gr8 hLl7.out)
              have S8 := Lib.hid (Still.trans sm8 gr8.st)
              have SO8 := Lib.hid (show Seen w8 (fun b => own7 b = none ∧ b < w8.heap.size) An Bv nn cb M.now (allL M') from ((SN6.out.chg A7.out.chg (fun b hb hh => hh hb.1)).still S8.out).mono (fun b hb => ⟨by rw [AG7.out b hb.2]; exact hb.1, Nat.lt_of_lt_of_le hb.2 (Nat.le_trans A7.out.chg.size S8.out.size)⟩))
              have I8 := Lib.hid (show ∃ M3, AtX w w8 w8 g own7 M3 (100 + 0) ∧ Arm M3 M.now (-1) false from ⟨Mc, ⟨⟨own7, MED7.out.still S8.out, fun _ _ => rfl⟩, A7.out.good, Chg.refl _ _, Still.trans A7.out.st S8.out⟩, AC.out⟩)
              have hn20 : nn ≤ 20 := by have := HNN.out; have := HN5.out; omega
              clear on8 sm8 gr8 AL
              go_wp2_with fail
              go_loopw [18] (fun iv wr => ∃ q : Nat, iv = .int .i64 q ∧ q ≤ nn ∧ Hid (∃ M3, AtX w w8 wr g own7 M3 (100 + q) ∧ Arm M3 M.now (-1) false)) (fun iv _ => nn - (intOf iv).toNat)
              case atStart => exact ⟨0, rfl, Nat.zero_le _, I8⟩
              case round =>
                clear I8
                obtain ⟨q, rfl, hq, hh⟩ := hrel
                obtain ⟨M3, hat, har⟩ := hh.out
                by_cases hlt : q < nn
                · have hlt2 : q < M.now.length := by have := HNN.out; omega
                  obtain ⟨p, hp⟩ : ∃ p, M.now[q]? = some p := ⟨_, List.getElem?_eq_getElem hlt2⟩
                  have hps : p.1.length ≤ 24 := har.nm.now p (by rw [har.now]; exact List.mem_of_getElem? hp)
                  have hsn := SO8.out.chg hat.chg (fun b hb hh => hh hb.1)
                  obtain ⟨gs, o, rfl, _, hc⟩ := hsn.names.2 (by omega)
                  have d1 := hc q p hp
                  have e1 : (⟨p.1.toArray⟩ : ByteArray) = txt p := rfl
                  rw [e1] at d1
                  obtain ⟨own', med', ag'⟩ := hat.ex
                  have HAP := Lib.hid ((append_M (txt p) none 0 0 wr.heap.size [] med' hat.good.ok (by have := hat.good.cnt; omega) hat.good.wt (by rw [txt_size]; unfold maxLen; omega) Reads.nil0 (Nat.le_refl _) (fun _ => ⟨rfl, rfl⟩) (by omega)).mono (fun e w' (z : _ ∧ _) => (⟨z.1, hat.left med' ag' z.2 (opAppend_good hat.good _ _)⟩ : _ ∧ AtX w w8 w' g own7 (opAppend M3 (txt p) []).2 (100 + q + 1))))
                  have NX := Lib.hid (fun W (z : AtX w w8 W g own7 (opAppend M3 (txt p) []).2 (100 + q + 1)) => (show ∃ M4, AtX w w8 W g own7 M4 (100 + (q + 1)) ∧ Arm M4 M.now (-1) false from ⟨_, z, har.append _ _⟩))
                  have q1 : (0 : Int) ≤ (q : Int) := by omega
                  have q2 : (q : Int) < (nn : Int) := by omega
                  have HLT := Lib.hid hlt
                  obtain ⟨Y, hY⟩ : ∃ Y, Y = txt p := ⟨_, rfl⟩
                  rw [← hY] at d1 HAP NX
                  clear hsn hc med' ag' hat har hh hp hps hlt hlt2 e1 hY
                  go_wp2_with fail
                  refine HAP.out.mono ?_
                  rintro e w9 ⟨rfl, z⟩
                  have NX2 := Lib.hid (NX.out w9 z)
                  clear z HAP NX d1
                  go_wp2_with fail
                  go_roundw
                  case rel => exact ⟨q + 1, by go_num, by have := HLT.out; omega, NX2⟩
                  case measure => simp [intOf]; have := HLT.out; omega
                · obtain rfl : q = nn := by omega
                  have SP := Lib.hid (SO8.out.chg hat.chg (fun b hb hh => hh hb.1))
                  have SQ := Lib.hid (SN8.out.chg hat.chg (fun b hb hh => hh hb.1))
                  have HSM := Lib.hid (names_same A8 An q c8 cn M.now wr SQ.out.names SP.out.names (by omega))
                  obtain ⟨own', med', ag'⟩ := hat.ex
                  have HPW := Lib.hid (fun W (t : Still wr W) => power_M (med'.still t))
                  rw [har.off] at HPW
                  have TW := Lib.hid hat.st
                  clear hat har hh med' ag'
                  go_wp2_with fail
                  refine HSM.out.mono ?_
                  rintro e w9 ⟨rfl, mq, hw9⟩
                  have T9 := Lib.hid (show Still wr w9 from hw9 ▸ still_drewN (Still.refl wr) mq)
                  clear hw9
                  go_wp2_with fail
                  refine (HPW.out _ T9.out).mono ?_
                  rintro e w9' ⟨rfl, rfl⟩
                  go_wp2_with fail
                  refine (LV.out _).mono ?_
                  rintro e wb ⟨rfl, tb⟩
                  have TB := Lib.hid (Still.trans TW.out (Still.trans T9.out tb))
                  clear tb
                  go_wp2_with fail
                  go_ret
                  exact ⟨rfl, TB.out⟩
end Go.Proofs.Ytdadcfbapeldpaa
