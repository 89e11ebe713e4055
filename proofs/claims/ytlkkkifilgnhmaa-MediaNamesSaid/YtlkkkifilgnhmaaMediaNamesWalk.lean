/- The walk of MediaNames: it returns true, and nothing that was there turns. -/
import Derived.Test.YtlkkkifilgnhmaaMdMomR
import Derived.Test.YtlkkkifilgnhmaaMdGd
import Derived.Test.YtlkkkifilgnhmaaMdFew
import Derived.Deep.RegionHeld3
namespace Go.Proofs.Ytlkkkifilgnhmaa
open Go.RowKit Go.Maps Go.WideMaps Go.Sort
set_option linter.unusedVariables false
set_option linter.unusedSimpArgs false

theorem same_mem {N : NT} {mom : List NT} (h : N ∈ mom) : ∃ j, j < mom.length ∧ mom[j]? = some N := by
  obtain ⟨j, hj, e⟩ := List.mem_iff_getElem.1 h
  exact ⟨j, hj, by rw [List.getElem?_eq_getElem hj, e]⟩
set_option maxRecDepth 100000 in
set_option maxHeartbeats 6400000 in
theorem mediaNames_walk (A : Option Addr) (n c : Nat) (L : List Call) (A2 : Option Addr) (n2 c2 : Nat) (L2 : List Call) (a3 : Option Addr) (len3 cap3 : Nat) (z3 : List Int) (w : World) (hin : DosIn w w.heap.size A L) (hn : L.length = n) (hnc : n ≤ c) (hcm : c ≤ 9223372036854775807) (hin2 : DosIn w w.heap.size A2 L2) (hn2 : L2.length = n2) (hnc2 : n2 ≤ c2) (hcm2 : c2 ≤ 9223372036854775807) (h3 : RowIn .i64 w a3 len3 cap3 z3) :
    Calls Try.prog 3 #[.slice A n c, .slice A2 n2 c2, .slice a3 len3 cap3] w fun e w' => e = .returned (.bool true) ∧ Still w w' := by
  have PL := Lib.hid (played_any A n c 30 L w hin hn hnc hcm (by omega))
  have LV := Lib.hid (fun W => lives_any W)
  have FEW := Lib.hid (fun W (z : Still w W) => few_any A2 n2 c2 20 L2 W w.heap.size (hin2.still (Nat.le_refl _) z) z.size hn2 hnc2 hcm2 (by omega))
  obtain ⟨y3, r3, f3, m3, g3⟩ := readsI_of_row h3
  have R3 := Lib.hid (r3.front (k := min len3 60) (by omega))
  have N3 := Lib.hid (fun W => numbers_any a3 len3 cap3 W f3 m3 (fun h0 => by obtain ⟨b, o, e, _⟩ := r3.2 h0; exact ⟨b, o, e⟩))
  have F3 := Lib.hid (show min len3 60 ≤ cap3 ∧ cap3 ≤ 9223372036854775807 by omega)
  clear hin hn hnc hcm hin2 hnc2 hcm2 h3 r3 f3 m3 g3
  go_enter Try.func3, Try.ntmps3
  go_wp2_with fail
  refine PL.out.mono ?_
  rintro e w1 ⟨⟨g, own, M, rfl, med, good, on⟩, s1⟩
  have e0 : opSyncDir M = (0, M.syncedDir) := by unfold opSyncDir; rw [if_neg on.no, if_neg on.ne]
  have HSD := Lib.hid (syncDir_M med good.ok (by have := good.cnt; omega))
  have G2 := Lib.hid (show (opSyncDir M).2.good 31 from opSyncDir_good good)
  rw [e0] at HSD G2
  have O2 := Lib.hid on.syncedDir
  have MO2 := Lib.hid (show Moments M.syncedDir [M.syncedDir.now] from Moments.fresh rfl rfl)
  have DM := Lib.hid med.dom
  obtain ⟨M2, hM2⟩ : ∃ M2, M2 = M.syncedDir := ⟨_, rfl⟩
  simp only [← hM2] at HSD G2 O2 MO2
  have S1 := Lib.hid s1
  clear med good on s1 PL e0 hM2
  go_wp2_with fail
  refine HSD.out.mono ?_
  rintro e w2 ⟨rfl, hl⟩
  obtain ⟨cc2, own2, ag2, med2⟩ := hl
  have S2 := Lib.hid (cc2.still S1.out (fun b hb => (DM.out b hb).1))
  have MED2 := Lib.hid med2
  have HL := Lib.hid (list_M med2 G2.out.ok (by have := G2.out.cnt; omega))
  rw [show M2.names = M2.now from if_neg O2.out.no] at HL
  clear med2 cc2 ag2 HSD
  go_wp2_with fail
  refine HL.out.mono ?_
  rintro e w3 ⟨⟨nv, rfl, on3⟩, s3⟩
  obtain ⟨An, cn, rfl, hn1, hn2', hn3⟩ := own_formB on3
  obtain ⟨nn, hnn⟩ : ∃ nn, nn = M2.now.length := ⟨_, rfl⟩
  have HNN := Lib.hid (show nn ≤ 1000000 by have := now_length G2.out.ok; have := G2.out.cnt; omega)
  rw [← hnn] at on3 hn1 hn3 ⊢
  have S3 := Lib.hid s3
  have ON3 := Lib.hid on3
  have FRST := Lib.hid (fun W (s : Still (w3.alloc (.cells #[.slice An nn cn] 28)) W) => MomS.first MED2.out G2.out O2.out S2.out S3.out ON3.out HNN.out s)
  have S4 := Lib.hid (show Still w (w3.alloc (.cells #[.slice An nn cn] 28)) from (Still.trans S2.out S3.out).alloc (Nat.le_trans S2.out.size S3.out.size) _)
  have HB0 := Lib.hid (show w.heap.size ≤ w3.heap.size ∧ w2.heap.size ≤ w3.heap.size from ⟨Nat.le_trans S2.out.size S3.out.size, S3.out.size⟩)
  clear on3 s3 HL hnn hn1 hn2' hn3
  go_wp2_with ((first | (guard_target =~ wpList _ _ _ (Oper.mk (some 22) _ _ _ _ _ :: _) _ _; go_must (refine wpList_boxN _ rfl _ rfl _ _ _ rfl ?_)) | fail))
  obtain ⟨w4, hw4⟩ : ∃ w4, w4 = w3.alloc (.cells #[.slice An nn cn] 28) := ⟨_, rfl⟩
  have Z4 := Lib.hid (show w4.heap.size = w3.heap.size + 1 by rw [hw4]; simp)
  rw [← hw4] at FRST S4 ⊢
  obtain ⟨b0, hb0⟩ : ∃ b0, b0 = w3.heap.size := ⟨_, rfl⟩
  rw [← hb0] at FRST Z4 HB0 ⊢
  clear hw4 hb0 ON3
  go_wp2_with fail
  refine (FEW.out w4 S4.out).mono ?_
  rintro e w5 ⟨⟨ov, xs5, rfl, o5, has5⟩, s5⟩
  obtain ⟨X, hX⟩ : ∃ X, X = (L2.take 20).map cutD := ⟨_, rfl⟩
  obtain ⟨N, hN⟩ : ∃ N, N = min n2 20 := ⟨_, rfl⟩
  have XN := Lib.hid (show X.length = N by rw [hX, List.length_map, List.length_take, hn2, hN]; omega)
  rw [← hX] at has5
  rw [← hN] at o5
  obtain ⟨Ao, co, rfl⟩ := own_formV o5
  have O5 := Lib.hid o5
  have HD := Lib.hid has5
  have S5 := Lib.hid s5
  have VF := Lib.hid (show N ≤ co ∧ co ≤ 9223372036854775807 ∧ (0 < N → ∃ b, Ao = some ⟨b, 0, none⟩) from by
    rcases o5.2 with ⟨h, h0⟩ | ⟨q, cap, cur, h, h2, h3, h4, h5, _⟩
    · injection h with q1 q2 q3
      exact ⟨by omega, by omega, fun i => by omega⟩
    · injection h with q1 q2 q3
      subst q1 q3
      exact ⟨h4, by unfold maxLen at h5; omega, fun i => ⟨_, rfl⟩⟩)
  have I0 := Lib.hid (show MomS w w5 w5 g own2 b0 M2 [M2.now] (.slice (some ⟨b0, 0, none⟩) 1 1) (31 + 0) ∧ Moments M2 [M2.now] ∧ [M2.now].length ≤ 0 + 1 from ⟨FRST.out w5 s5, MO2.out, Nat.le_refl _⟩)
  have PB := Lib.hid (show (∀ b, b < w.heap.size → own2 b = none ∧ b < w5.heap.size ∧ b ≠ b0) ∧ (∀ b, w4.heap.size ≤ b → b < w5.heap.size → own2 b = none ∧ b < w5.heap.size ∧ b ≠ b0) from by
    have h1 := S4.out.size
    have h2 := S5.out.size
    have h3 := Z4.out
    have h4 := HB0.out
    refine ⟨fun b hb => ⟨(MED2.out.below b hb).1, by omega, by omega⟩, fun b hb1 hb2 => ⟨ownSize MED2.out.dom (by omega), hb2, by omega⟩⟩)
  have hN20 : N ≤ 20 := by omega
  clear o5 has5 s5 hX hN FEW FRST MO2
  go_wp2_with fail
  go_loopw [8, 9] (fun mv iv wr => ∃ (i : Nat) (v : Value) (M' : Me) (mom : List NT), v = mv ∧ iv = .int .i64 i ∧ i ≤ N ∧ Hid (MomS w w5 wr g own2 b0 M' mom v (31 + i) ∧ Moments M' mom ∧ mom.length ≤ i + 1)) (fun _ iv _ => N - (intOf iv).toNat)
  case atStart => exact ⟨0, _, M2, _, rfl, rfl, Nat.zero_le _, I0⟩
  case round =>
    clear I0
    obtain ⟨i, v, M', mom, rfl, rfl, hi, hh⟩ := hrel
    have hco := VF.out.1
    have hcom := VF.out.2.1
    by_cases hlt : i < N
    · obtain ⟨gl, rfl⟩ := VF.out.2.2 (by omega)
      obtain ⟨x, hx⟩ : ∃ x, X[i]? = some x := ⟨_, List.getElem?_eq_getElem (by have := XN.out; omega)⟩
      obtain ⟨A1, m1, cc, A2', n2', c2', rng, hbl, hm1, hnn1, hda⟩ := HD.out.at2 O5.out XN.out hx (fun b => own2 b = none ∧ b < w5.heap.size ∧ b ≠ b0) PB.out.1 PB.out.2
      have glo : ¬ (own2 gl ≠ none ∨ gl = b0) := fun h => by
        have := PB.out.2 gl (O5.out.lt gl rfl).1 (O5.out.lt gl rfl).2
        rcases h with h | h
        · exact h this.1
        · exact this.2.2 h
      have RNGF := Lib.hid (fun W (cg : Chg w5 W (fun b => own2 b ≠ none ∨ b = b0)) => (show W.rangeAt gl (i * 7) (doL x A1 m1 cc A2' n2' c2') from fun q u hq =>
        (World.cell?_of_block (w := w5) (cg.block gl (O5.out.lt gl rfl).2 glo)).trans (rng q u hq)))
      have KF := Lib.hid (fun W (cg : Chg w5 W (fun b => own2 b ≠ none ∨ b = b0)) => (show W.cell? ⟨gl, i * 7, none⟩ = some (.int .i64 x.k) from by have := RNGF.out W cg 0 (.int .i64 x.k) rfl; simpa using this))
      have RNG := Lib.hid (RNGF.out _ hh.out.1.chg)
      have k0 := KF.out _ hh.out.1.chg
      have NXC := Lib.hid (show MomS w w5 wr g own2 b0 M' mom v (31 + (i + 1)) ∧ Moments M' mom ∧ mom.length ≤ i + 1 + 1 from ⟨hh.out.1.mono (by omega), hh.out.2.1, by have := hh.out.2.2; omega⟩)
      have DS := fun h7 => does_mom hh.out.1 (by omega) h7 (hda.keep hh.out.1.chg (fun b hb h => by
        rcases h with h | h
        · exact h hb.1
        · exact hb.2.2 h))
      by_cases k6 : 6 < x.k
      · have kx : decide (6 < x.k) = true := decide_eq_true k6
        clear hda rng DS RNG
        go_wp2_with fail
        go_roundw
        case rel => exact ⟨i + 1, v, M', mom, rfl, by go_num, by omega, NXC⟩
        case measure => simp [intOf]; omega
      · by_cases kn : x.k < 0
        · clear hda rng DS RNG
          go_wp2_with fail
          go_roundw
          case rel => exact ⟨i + 1, v, M', mom, rfl, by go_num, by omega, NXC⟩
          case measure => simp [intOf]; omega
        · have DS2 := Lib.hid (DS (by omega))
          have HHM := Lib.hid hh.out.2
          have HON := Lib.hid hh.out.1.on
          have HOK := Lib.hid (fun gf o => stepM_good hh.out.1.good x hnn1 gf o)
          clear DS hda rng NXC hh
          by_cases e6 : x.k = 6
          · have KF2 := KF
            rw [e6] at k0 KF2
            go_wp2_with (guard_target =~ wpList _ _ _ (Oper.mk _ (Op.load 34 _) _ _ _ _ :: _) _ _; go_must (refine load_midM (by kernel_rfl) 34 (.tmp 48) rfl gl (i * 7) (by kernel_rfl) (doL x A1 m1 cc A2' n2' c2') _ RNG.out Try.underlying34 rfl sizeDo ?_))
            refine DS2.out.mono ?_
            rintro e w7 ⟨gf, o, Av, q, cv, E, bb, rfl, a7⟩
            have k1 := KF2.out _ a7.chg
            have MX := Lib.hid (show Moments (stepM M' x gf o).2 ([] ++ [(stepM M' x gf o).2.now]) from by
              have e2 : (stepM M' x gf o).2 = M'.syncedDir := by
                unfold stepM opSyncDir
                rw [if_neg (by omega), if_neg (by omega), if_neg (by omega), if_neg (by omega), if_neg (by omega), if_neg (by omega), if_pos e6, if_neg HON.out.no, if_neg HON.out.ne]
              rw [e2]
              exact Moments.fresh rfl rfl)
            have A7 := Lib.hid a7.empty
            obtain ⟨M7, hM7⟩ : ∃ M7, M7 = (stepM M' x gf o).2 := ⟨_, rfl⟩
            rw [← hM7] at MX A7
            have LS := Lib.hid (list_mom A7.out (by omega))
            have HNL := Lib.hid (show M7.now.length ≤ 1000000 by have := now_length A7.out.good.ok; have := A7.out.good.cnt; omega)
            have LEN := Lib.hid (show (([] : List NT)).length ≤ i + 1 by simp)
            obtain ⟨nl, hnl⟩ : ∃ nl, nl = M7.now.length := ⟨_, rfl⟩
            rw [← hnl] at LS HNL
            clear a7 hM7 hnl DS2 RNG k0 HHM HOK
            go_wp2_with fail
            refine LS.out.mono ?_
            rintro e w8 ⟨⟨A8, c8, rfl, o8⟩, s8⟩
            have A8S := A7.out.still s8
            obtain ⟨own7, xs7, med7, ag7, ow7, ob7, mr7⟩ := A7.out.ex
            have OW := Lib.hid (still_own ow7 s8)
            have PUSH := Lib.hid (fun w' v' (o' : w'.ownsRow w.heap.size 28 1 v' ((([] : List NT)).length + 1) (xs7 ++ [.slice A8 nl c8])) (gr : w8.grownBy w' (Value.ownBlock (.slice none 0 0))) (hb : v'.ownBlock = Value.ownBlock (.slice none 0 0) ∨ v'.ownBlock = some (w8.heap.size + 1)) => (show MomS w w5 w' g own2 b0 M7 ((([] : List NT)) ++ [M7.now]) v' (31 + (i + 1)) from by
              obtain ⟨A', c', ev, f1, f2, f3⟩ := own_formB o8
              injection ev with ev1 _ ev2
              subst ev1 ev2
              refine MomS.push own7 (med7.still s8) ag7 ob7 (mr7.chg (Chg.of_still s8 (fun _ => False)) (fun _ _ _ h => h)) A8S (fun b e => ⟨Nat.lt_of_lt_of_le (ow7.lt b e).2 s8.size, fun ad e1 e2 e3 => ?_⟩) (NamesR.of_own o8) f1 f2 HNL.out (fun ad e1 _ => ownSize med7.dom (o8.lt ad.block (by rw [e1]; rfl)).1) o' gr hb
              have h1 := (o8.lt ad.block (by rw [e1]; rfl)).1
              have := (ow7.lt b e).2
              omega))
            have HD8 : (([] : List NT)).length < 1048576 := by have := LEN.out; omega
            have BS := Lib.hid (show w.heap.size ≤ w8.heap.size from A8S.st.size)
            clear A8S med7 ag7 ow7 ob7 mr7 o8 s8 LS
            go_wp2_with ((first | (guard_target =~ wpList _ _ _ (Oper.mk (some 60) _ _ _ _ _ :: _) _ _; go_must (refine wpList_boxN _ rfl _ rfl _ _ _ rfl ?_)) | (guard_target =~ wpList _ _ _ (Oper.mk (some 61) _ _ _ _ _ :: _) _ _; go_must (refine wpList_oneN _ rfl _ _ rfl w.heap.size _ _ _ rfl OW.out _ rfl rfl HD8 BS.out ?_)) | fail))
            intro v' w9 o9 g9 hb9
            have P9 := Lib.hid (PUSH.out w9 v' o9 g9 hb9)
            clear o9 g9 hb9 PUSH
            go_wp2_with fail
            go_roundw
            case rel => exact ⟨i + 1, v', M7, _, rfl, by go_num, by omega, Lib.hid ⟨P9.out, MX.out, by rw [List.length_append, List.length_singleton]; have := LEN.out; omega⟩⟩
            case measure => simp [intOf]; omega
          · have b6 : (x.k == 6) = false := by simpa using e6
            have KF2 := KF
            go_wp2_with (guard_target =~ wpList _ _ _ (Oper.mk _ (Op.load 34 _) _ _ _ _ :: _) _ _; go_must (refine load_midM (by kernel_rfl) 34 (.tmp 48) rfl gl (i * 7) (by kernel_rfl) (doL x A1 m1 cc A2' n2' c2') _ RNG.out Try.underlying34 rfl sizeDo ?_))
            refine DS2.out.mono ?_
            rintro e w7 ⟨gf, o, Av, q, cv, E, bb, rfl, a7⟩
            have k1 := KF2.out _ a7.chg
            have MX := Lib.hid (show Moments (stepM M' x gf o).2 (mom ++ [(stepM M' x gf o).2.now]) from by
              obtain ⟨hf, hw⟩ := step_waits HON.out x gf o (by omega) (by omega)
              exact HHM.out.1.step hf hw a7.good.ok)
            have A7 := Lib.hid a7
            obtain ⟨M7, hM7⟩ : ∃ M7, M7 = (stepM M' x gf o).2 := ⟨_, rfl⟩
            rw [← hM7] at MX A7
            have LS := Lib.hid (list_mom A7.out (by omega))
            have HNL := Lib.hid (show M7.now.length ≤ 1000000 by have := now_length A7.out.good.ok; have := A7.out.good.cnt; omega)
            have LEN := Lib.hid (show (mom).length ≤ i + 1 by have := HHM.out.2; omega)
            obtain ⟨nl, hnl⟩ : ∃ nl, nl = M7.now.length := ⟨_, rfl⟩
            rw [← hnl] at LS HNL
            clear a7 hM7 hnl DS2 RNG k0 HHM HOK
            go_wp2_with fail
            refine LS.out.mono ?_
            rintro e w8 ⟨⟨A8, c8, rfl, o8⟩, s8⟩
            have A8S := A7.out.still s8
            obtain ⟨own7, xs7, med7, ag7, ow7, ob7, mr7⟩ := A7.out.ex
            have OW := Lib.hid (still_own ow7 s8)
            have PUSH := Lib.hid (fun w' v' (o' : w'.ownsRow w.heap.size 28 1 v' ((mom).length + 1) (xs7 ++ [.slice A8 nl c8])) (gr : w8.grownBy w' (Value.ownBlock v)) (hb : v'.ownBlock = Value.ownBlock v ∨ v'.ownBlock = some (w8.heap.size + 1)) => (show MomS w w5 w' g own2 b0 M7 ((mom) ++ [M7.now]) v' (31 + (i + 1)) from by
              obtain ⟨A', c', ev, f1, f2, f3⟩ := own_formB o8
              injection ev with ev1 _ ev2
              subst ev1 ev2
              refine MomS.push own7 (med7.still s8) ag7 ob7 (mr7.chg (Chg.of_still s8 (fun _ => False)) (fun _ _ _ h => h)) A8S (fun b e => ⟨Nat.lt_of_lt_of_le (ow7.lt b e).2 s8.size, fun ad e1 e2 e3 => ?_⟩) (NamesR.of_own o8) f1 f2 HNL.out (fun ad e1 _ => ownSize med7.dom (o8.lt ad.block (by rw [e1]; rfl)).1) o' gr hb
              have h1 := (o8.lt ad.block (by rw [e1]; rfl)).1
              have := (ow7.lt b e).2
              omega))
            have HD8 : (mom).length < 1048576 := by have := LEN.out; omega
            have BS := Lib.hid (show w.heap.size ≤ w8.heap.size from A8S.st.size)
            clear A8S med7 ag7 ow7 ob7 mr7 o8 s8 LS
            go_wp2_with ((first | (guard_target =~ wpList _ _ _ (Oper.mk (some 60) _ _ _ _ _ :: _) _ _; go_must (refine wpList_boxN _ rfl _ rfl _ _ _ rfl ?_)) | (guard_target =~ wpList _ _ _ (Oper.mk (some 61) _ _ _ _ _ :: _) _ _; go_must (refine wpList_oneN _ rfl _ _ rfl w.heap.size _ _ _ rfl OW.out _ rfl rfl HD8 BS.out ?_)) | fail))
            intro v' w9 o9 g9 hb9
            have P9 := Lib.hid (PUSH.out w9 v' o9 g9 hb9)
            clear o9 g9 hb9 PUSH
            go_wp2_with fail
            go_roundw
            case rel => exact ⟨i + 1, v', M7, _, rfl, by go_num, by omega, Lib.hid ⟨P9.out, MX.out, by rw [List.length_append, List.length_singleton]; have := LEN.out; omega⟩⟩
            case measure => simp [intOf]; omega
    · obtain rfl : i = N := by omega
      have HC := Lib.hid (crash_mom hh.out.1 (by omega) R3.out F3.out.1 F3.out.2)
      have MEM := Lib.hid (hh.out.2.1.crash (y3.take (min len3 60)))
      have HML := Lib.hid (show mom.length ≤ 21 by have := hh.out.2.2; omega)
      obtain ⟨Mc, hMc⟩ : ∃ Mc, Mc = M'.crash (y3.take (min len3 60)) := ⟨_, rfl⟩
      rw [← hMc] at HC MEM
      clear hh hMc
      go_wp2_with fail
      refine (N3.out _).mono ?_
      rintro e w6 ⟨rfl, rfl⟩
      go_wp2_with fail
      refine HC.out.mono ?_
      rintro e w7 ⟨rfl, a7⟩
      have A7 := Lib.hid a7
      obtain ⟨own7, xs7, med7, ag7, o7, ob7, mr7⟩ := a7.ex
      have MR := Lib.hid mr7
      obtain ⟨Am, cm, rfl, hm1, hm2, hm3⟩ := own_formB o7
      have O7 := Lib.hid o7
      obtain ⟨ml, hml⟩ : ∃ ml, ml = mom.length := ⟨_, rfl⟩
      rw [← hml] at O7 hm1 hm3 HML ⊢
      have HMLE := Lib.hid hml
      have hml21 : ml ≤ 21 := HML.out
      obtain ⟨cl, hcl⟩ : ∃ cl, cl = Mc.now.length := ⟨_, rfl⟩
      have HCL := Lib.hid (show cl ≤ 1000000 by have := now_length A7.out.good.ok; have := A7.out.good.cnt; omega)
      have LS := Lib.hid (fun W (t : Still w7 W) => list_mom (A7.out.still t) (by omega))
      rw [← hcl] at LS
      clear a7 med7 ag7 o7 ob7 mr7 HC hm3 hcl hml
      go_wp2_with fail
      go_loopw [10] (fun iv wr => ∃ j : Nat, iv = .int .i64 j ∧ j ≤ ml ∧ Hid (Still w7 wr ∧ ∀ q, q < j → ∀ Q, mom[q]? = some Q → sameN Mc.now Q = false)) (fun iv _ => ml - (intOf iv).toNat)
      case atStart => exact ⟨0, rfl, Nat.zero_le _, Lib.hid ⟨Still.refl _, fun q hq => by omega⟩⟩
      case round =>
        obtain ⟨j, rfl, hj, hh⟩ := hrel
        by_cases hlt2 : j < ml
        · obtain ⟨Q, hQ⟩ : ∃ Q, mom[j]? = some Q := ⟨_, List.getElem?_eq_getElem (by have := HMLE.out; omega)⟩
          obtain ⟨Ai, ni, ci, hx1, hx2, hx3, hx4, hx5, _⟩ := MR.out.at_ j Q hQ
          obtain ⟨gm, rfl, d1⟩ := own_at O7.out j hlt2 _ hx1
          have D1 := Lib.hid (fun W (t : Still w7 W) => (show W.cell? ⟨gm, j, none⟩ = some (.slice Ai ni ci) from (t.cell (p := ⟨gm, j, none⟩) ((O7.out.lt gm rfl).2)).trans d1))
          have HXQ := Lib.hid hx2
          have HH1 := Lib.hid hh.out.1
          have HQ := Lib.hid hQ
          have hx1000 : ni ≤ 1000000 := hx5
          have HLT := Lib.hid hlt2
          have q1 : (0 : Int) ≤ (j : Int) := by omega
          have q2 : (j : Int) < (ml : Int) := by omega
          have CMPL := Lib.hid (fun W W' (A' : Option Addr) (c' : Nat) (t : Still w7 W) (o : W'.ownsRow W.heap.size 9 1 (.slice A' cl c') cl (namesV Mc.now)) (s : Still W W') => names_eq A' Ai cl ni c' ci Mc.now Q W' (NamesR.of_own o) (HXQ.out.still (Still.trans t s)) (by have := HCL.out; omega) (by omega))
          obtain ⟨bb, hbb⟩ : ∃ bb, bb = sameN Mc.now Q := ⟨_, rfl⟩
          rw [← hbb] at CMPL
          have HBB := Lib.hid hbb
          clear hx1 hx2 hx3 hx4 hx5 d1 hQ hlt2 hbb
          go_upto_region 18 with fail
          go_region_held3 (fun W => W.cell? ⟨gm, j, none⟩ = some (.slice Ai ni ci)) (first | exact D1.out _ HH1.out.drew | exact D1.out _ S8.out | exact D1.out _ S9.out) (first
            | (go_at_call 6; with_reducible refine (LS.out _ HH1.out.drew).mono ?_; rintro e w8 ⟨⟨A8, c8, rfl, o8⟩, s8⟩; have O8 := Lib.hid o8; have T8 := Lib.hid s8; have S8 := Lib.hid (Still.trans HH1.out.drew s8); clear o8 s8)
            | (go_at_call 11; with_reducible refine (CMPL.out _ _ A8 c8 HH1.out.drew O8.out T8.out).mono ?_; rintro e w9 ⟨rfl, qq, h9⟩; have S9 := Lib.hid (show Still w7 w9 from h9 ▸ still_drewN S8.out qq); clear h9))
          cases bb
          · have NF := Lib.hid (show Still w7 w9 ∧ ∀ q, q < j + 1 → ∀ Q, mom[q]? = some Q → sameN Mc.now Q = false from ⟨S9.out, fun q hq R hR => by
              by_cases h : q = j
              · rw [h, HQ.out] at hR
                obtain rfl := Option.some.inj hR
                exact HBB.out.symm
              · exact hh.out.2 q (by omega) R hR⟩)
            clear hh
            go_wp2_with fail
            go_roundw
            case rel => exact ⟨j + 1, by go_num, by have := HLT.out; omega, NF⟩
            case measure => simp [intOf]; have := HLT.out; omega
          · clear hh
            go_wp2_with fail
            refine (LV.out _).mono ?_
            rintro e wb ⟨rfl, tb⟩
            have TB := Lib.hid (Still.trans A7.out.st (Still.trans S9.out tb))
            clear tb
            go_wp2_with fail
            (try simp only [Exit.inBlock, Exit.then])
            go_ret
            exact ⟨rfl, TB.out⟩
        · exfalso
          obtain rfl : j = ml := by omega
          obtain ⟨q, hq1, hq2⟩ := same_mem MEM.out
          have := hh.out.2 q (by rw [HMLE.out]; exact hq1) _ hq2
          rw [sameN_self] at this
          cases this
end Go.Proofs.Ytlkkkifilgnhmaa
