/- The walk of FrameSaves: it returns true, and nothing that was there turns. -/
import Derived.Test.YtggmclhiolfjkaaDoorFrameScansWalk
import Derived.Deep.MidRow
import Derived.Deep.RegionHeld
namespace Go.Proofs.YtggmclhiolfjkaaDoor
open Go.RowKit
set_option linter.unusedVariables false
set_option linter.unusedSimpArgs false

theorem svF_nil (l : List UInt8) : ∀ (k a : Nat), l.length - a ≤ k → svF l k a = [] → ∀ q, a ≤ q → q < l.length → rdE (l.drop q) ≠ 0
  | 0, a, hk, _, q, h1, h2 => by omega
  | k + 1, a, hk, h, q, h1, h2 => by
    rw [svF, if_pos (by omega)] at h
    by_cases he : rdE (l.drop a) = 0
    · rw [if_pos he] at h; cases h
    · rw [if_neg he] at h
      by_cases hq : q = a
      · rw [hq]; exact he
      · exact svF_nil l k (a + 1) (by omega) h q (by omega) h2
theorem svF_cons (l : List UInt8) (f : Fo) (G : List Fo) : ∀ (k a : Nat), l.length - a ≤ k → svF l k a = f :: G → ∃ k' p, a ≤ p ∧ p < l.length ∧ (∀ q, a ≤ q → q < p → rdE (l.drop q) ≠ 0) ∧ rdE (l.drop p) = 0 ∧ f = fo l p ∧ G = svF l k' (p + rdN (l.drop p)) ∧ l.length - (p + rdN (l.drop p)) ≤ k'
  | 0, a, hk, h => by cases h
  | k + 1, a, hk, h => by
    by_cases ha : a < l.length
    · rw [svF, if_pos ha] at h
      by_cases he : rdE (l.drop a) = 0
      · rw [if_pos he] at h
        injection h with h1 h2
        refine ⟨k, a, Nat.le_refl _, ha, fun q h3 h4 => by omega, he, h1.symm, h2.symm, ?_⟩
        have := rdN_fit he
        omega
      · rw [if_neg he] at h
        obtain ⟨k', p, h1, h2, h3, h4, h5, h6, h7⟩ := svF_cons l f G k (a + 1) (by omega) h
        refine ⟨k', p, by omega, h2, fun q h8 h9 => ?_, h4, h5, h6, h7⟩
        by_cases hq : q = a
        · rw [hq]; exact he
        · exact h3 q (by omega) h9
    · rw [svF, if_neg ha] at h; cases h

set_option maxRecDepth 100000 in
set_option maxHeartbeats 6400000 in
theorem frameSaves_walk (a1 : Option Addr) (len1 cap1 : Nat) (z1 : List Int) (w : World) (w1 : RowIn .u8 w a1 len1 cap1 z1) (T : Tabs w) :
    Calls Tryd.prog 10 #[.slice a1 len1 cap1] w fun e w' => e = .returned (.bool true) ∧ Below w.heap.size w w' := by
  obtain ⟨l0, r0, hc0, hm0, hA0⟩ := reads_of_row w1
  obtain ⟨n1, hn1⟩ : ∃ n1, n1 = min len1 600 := ⟨_, rfl⟩
  have CUT := Lib.hid (show Calls Tryd.prog 18 #[.slice a1 len1 cap1, .int .i64 600] w fun e w' => e = .returned (.slice a1 n1 cap1) ∧ w = w' from by rw [hn1]; exact cut_any a1 len1 cap1 600 l0 w _ r0 hc0 hm0 (by omega))
  have RB := Lib.hid (show Reads w w.heap.size a1 n1 (l0.take 600) by rw [hn1]; exact r0.take 600)
  obtain ⟨l, hl⟩ : ∃ l, l = l0.take 600 := ⟨_, rfl⟩
  rw [← hl] at RB
  have FC := Lib.hid (show n1 ≤ 600 ∧ n1 ≤ cap1 ∧ cap1 ≤ 9223372036854775807 ∧ l.length = n1 from ⟨by omega, by omega, hm0, RB.out.1⟩)
  have HT := Lib.hid (fun W (s : Still w W) => T.still s)
  have RW := Lib.hid (fun W (s : Still w W) => RB.out.still (Nat.le_refl _) s)
  have VD := Lib.hid (show (salR l).length ≤ l.length ∧ ∀ f ∈ salR l, f.D.length ≤ l.length from svF_D l _ _)
  have SV := Lib.hid (salvage_any a1 n1 cap1 l w w.heap.size RB.out (Nat.le_refl _) (by have := FC.out; omega) FC.out.2.1 FC.out.2.2.1 T)
  have LV := Lib.hid (fun w (T : Tabs w) => lives_any w T)
  obtain ⟨fs, hu⟩ := underEnt
  have HU := Lib.hid hu
  have nn : n1 ≤ 600 := FC.out.1
  clear r0 hc0 hm0 hA0 w1 hn1 hl T RB hu
  go_enter Tryd.func10, Tryd.ntmps10
  go_wp2_with fail
  refine CUT.out.mono ?_
  rintro e w' ⟨rfl, rfl⟩
  go_wp2_with fail
  refine SV.out.mono ?_
  rintro e w2 ⟨⟨lv, xs, rfl, own1, has1⟩, s2⟩
  have F0 := Lib.hid (show ∃ k, l.length - 0 ≤ k ∧ (salR l).drop 0 = svF l k 0 from ⟨l.length, by omega, rfl⟩)
  obtain ⟨F, hF⟩ : ∃ F, F = salR l := ⟨_, rfl⟩
  rw [← hF] at own1 has1 VD F0
  obtain ⟨N, hN⟩ : ∃ N, N = F.length := ⟨_, rfl⟩
  rw [← hN] at own1 VD
  have f1 : ∃ A c, lv = .slice A N c := by rcases own1.2 with ⟨h, h0⟩ | ⟨g, c, cur, h, _⟩; exact ⟨_, _, by rw [h, h0]⟩; exact ⟨_, _, h⟩
  obtain ⟨aa, c1, rfl⟩ := f1
  have hNN : N ≤ 600 := by have := VD.out.1; have := FC.out; omega
  have S2 := Lib.hid s2
  have G1 := Lib.hid (show 0 < N → ∃ g, aa = some ⟨g, 0, none⟩ from fun h => by
    rcases own1.2 with ⟨_, h0⟩ | ⟨g, c, cur, e, _⟩
    · omega
    · injection e with e1; exact ⟨g, e1⟩)
  have OO := Lib.hid (fun W (s : Still w2 W) => (show W.ownsRow w.heap.size 55 36 (.slice aa N c1) N xs ∧ HasF W w.heap.size F xs from ⟨own_still0 s own1, HasF.keep (fun v n l h => own_still0 s h) F xs has1⟩))
  have HN := Lib.hid hN
  clear CUT SV own1 has1 s2 hF hN
  go_wp2_with fail
  go_loopw [4, 5] (fun av iv wr => ∃ a i : Nat, av = .int .i64 a ∧ iv = .int .i64 i ∧ a ≤ n1 ∧ i ≤ N + 1 ∧ Hid ((i ≤ N → ∃ k, l.length - a ≤ k ∧ F.drop i = svF l k a) ∧ Still w2 wr)) (fun _ iv _ => N + 1 - (intOf iv).toNat)
  case atStart => exact ⟨0, 0, rfl, rfl, Nat.zero_le _, Nat.zero_le _, fun _ => F0.out, Still.refl _⟩
  case round =>
    obtain ⟨a, i, rfl, rfl, han, hiN, hh⟩ := hrel
    by_cases hi : i ≤ N
    · obtain ⟨k, hk, hFk⟩ := hh.out.1 hi
      have HS := Lib.hid hh.out.2
      have e1 : (i : Int) ≤ (N : Int) := by omega
      by_cases hlast : i = N
      · have hnil : svF l k a = [] := by rw [← hFk, hlast, HN.out, List.drop_length]
        have HE := Lib.hid (show a ≤ n1 ∧ n1 ≤ n1 ∧ ∀ q, a ≤ q → q < n1 → rdE (l.drop q) ≠ 0 from ⟨han, Nat.le_refl _, fun q h1 h2 => svF_nil l k a hk hnil q h1 (by have := FC.out; omega)⟩)
        subst hlast
        clear hh hFk hnil hk OO G1
        go_wp2_with fail
        go_loopw [4] (fun qv wq => ∃ q : Nat, qv = .int .i64 q ∧ a ≤ q ∧ q ≤ n1 ∧ Hid (Still w2 wq)) (fun qv _ => n1 - (intOf qv).toNat)
        case atStart => exact ⟨a, rfl, Nat.le_refl _, HE.out.1, HS.out⟩
        case round =>
          obtain ⟨q, rfl, haq, hqE, hq⟩ := hrel
          by_cases hlt : q < n1
          · have d0 : (q : Int) < (n1 : Int) := by omega
            have d2 : (q : Int) ≤ (n1 : Int) := by have := HE.out; omega
            have d3 : (q : Int) ≤ (cap1 : Int) := by have := HE.out; have := FC.out; omega
            have d4 : (n1 : Int) ≤ (cap1 : Int) := by have := FC.out; omega
            have hqn : q < n1 := by have := HE.out; omega
            have SQ := Lib.hid (Still.trans S2.out hq.out)
            obtain ⟨b, o, rfl, hb, _⟩ := (RW.out _ SQ.out).at_ (by omega)
            have rd : Reads wr w.heap.size (some ⟨b, o + q, none⟩) (n1 - q) (l.drop q) := by have h := (RW.out _ SQ.out).dropk (k := q) (by omega); simpa [Addr.add_lit] using h
            have RD := Lib.hid (read_any (some ⟨b, o + q, none⟩) (n1 - q) (cap1 - q) (l.drop q) wr w.heap.size rd SQ.out.size (by have := FC.out; omega) (by have := FC.out; omega) (by have := FC.out; omega) (HT.out _ SQ.out))
            have BE := Lib.hid (HE.out.2.2 q haq hlt)
            have HQ := Lib.hid hq.out
            clear rd hb hq
            go_wp2_with fail
            refine RD.out.mono ?_
            rintro e w3 ⟨⟨v3, rfl, own3⟩, s3⟩
            have KL := Lib.hid (rdK_len (l.drop q))
            generalize rdT (l.drop q) = t at *
            generalize rdK (l.drop q) = K at *
            generalize rdD (l.drop q) = D at *
            generalize rdN (l.drop q) = m at *
            generalize rdE (l.drop q) = er at *
            have KL' : Hid (K.length = 32) := KL
            have V3 := Lib.hid (show v3.oneCell' = true by rcases own3.2 with ⟨h, _⟩ | ⟨_, _, _, h, _⟩ <;> (rw [h]; rfl))
            have BE' := BE.out
            have b0 : (er == 0) = false := by simpa using BE'
            have b1 : (er != 0) = true := by simpa using BE'
            obtain ⟨w4, hw4⟩ : ∃ w4, w4 = (w3.alloc (.cells #[.int .i64 0, .int .u8 0, .int .u8 0, .int .u8 0, .int .u8 0, .int .u8 0, .int .u8 0, .int .u8 0, .int .u8 0, .int .u8 0, .int .u8 0, .int .u8 0, .int .u8 0, .int .u8 0, .int .u8 0, .int .u8 0, .int .u8 0, .int .u8 0, .int .u8 0, .int .u8 0, .int .u8 0, .int .u8 0, .int .u8 0, .int .u8 0, .int .u8 0, .int .u8 0, .int .u8 0, .int .u8 0, .int .u8 0, .int .u8 0, .int .u8 0, .int .u8 0, .int .u8 0, .slice none 0 0] 26)).setRow w3.heap.size (entV t K v3) := ⟨_, rfl⟩
            have S4 := Lib.hid (show Still w2 w4 from Still.trans HQ.out (Still.trans s3 (by rw [hw4]; exact below_setRow ((Still.refl w3).alloc (Nat.le_refl _) _) (Nat.le_refl _) _)))
            have HW4 := Lib.hid hw4
            have HLT := Lib.hid hlt
            clear RD own3 s3 hw4 KL BE BE' SQ HQ d2 d3 d4 hqn d0 b1
            go_upto_region 13 with (guard_target =~ wpList _ _ _ (Oper.mk none (Op.store _ _ _) _ _ _ _ :: _) _ _; go_must (refine wpList_store_rowTo rfl 26 (.tmp 7) (.tmp 44) rfl rfl w3.heap.size (entV t K v3) (by kernel_rfl) (by kernel_rfl) 26 _ (heap_alloc_new w3 _) (by rw [sizeEnt, entV_size _ _ _ KL'.out]) (by rw [entV_size _ _ _ KL'.out]; rfl) (entV_one _ _ _ V3.out) ?_))
            rw [← HW4.out]
            clear HW4
            go_wp2_with fail
            go_roundw
            case rel => exact ⟨q + 1, by have := HLT.out; have := HE.out; have := FC.out; go_num, by omega, by have := HLT.out; omega, S4.out⟩
            case measure => simp [intOf]; have := HLT.out; omega
          · have hqe : n1 = q := by omega
            subst hqe
            go_wp2_with fail
            go_roundw
            case rel => exact ⟨n1, i + 1, rfl, by go_num, Nat.le_refl _, by omega, fun h => by omega, hq.out⟩
            case measure => simp [intOf]
      · have hlti : i < N := by omega
        have z1 : (i : Int) < (N : Int) := by omega
        obtain ⟨g1, rfl⟩ := G1.out (by omega)
        obtain ⟨f, hf⟩ : ∃ f, F[i]? = some f := ⟨_, List.getElem?_eq_getElem (by have := HN.out; omega)⟩
        have hdr : F.drop i = f :: F.drop (i + 1) := by
          have hlt' : i < F.length := by have := HN.out; omega
          rw [List.drop_eq_getElem_cons hlt']
          congr 1
          rw [List.getElem?_eq_getElem hlt'] at hf
          exact Option.some.inj hf
        obtain ⟨k', p, p1, p2, p3, p4, p5, p6, p7⟩ := svF_cons l f _ k a hk (hFk.symm.trans hdr)
        have HE := Lib.hid (show a ≤ p ∧ p ≤ n1 ∧ ∀ q, a ≤ q → q < p → rdE (l.drop q) ≠ 0 from ⟨p1, by have := FC.out; omega, p3⟩)
        have HP := Lib.hid (show p < n1 from by have := FC.out; omega)
        have HF := Lib.hid (show F[i]? = some (fo l p) by rw [← p5]; exact hf)
        have NX := Lib.hid (show l.length - (p + rdN (l.drop p)) ≤ k' ∧ F.drop (i + 1) = svF l k' (p + rdN (l.drop p)) from ⟨p7, p6⟩)
        have ER := Lib.hid p4
        have pn : p ≤ 600 := by have := FC.out; omega
        have CA := Lib.hid (fun W (s : Still w2 W) => (show W.cell? ⟨g1, i * 36 + 34, none⟩ = some (.int .i64 (p : Int)) by
          obtain ⟨q1, q2⟩ := OO.out W s
          obtain ⟨A1, nD, d1, k1, k2, k3, k4⟩ := atF q1 q2 HF.out hlti
          exact k4.at_))
        clear hh hf hdr p1 p2 p3 p4 p5 p6 p7 hFk hk
        have CA0 := CA.out _ HS.out
        go_wp2_with fail
        clear CA0 CA
        go_loopw [4] (fun qv wq => ∃ q : Nat, qv = .int .i64 q ∧ a ≤ q ∧ q ≤ p ∧ Hid (Still w2 wq)) (fun qv _ => p - (intOf qv).toNat)
        case atStart => exact ⟨a, rfl, Nat.le_refl _, HE.out.1, HS.out⟩
        case round =>
          obtain ⟨q, rfl, haq, hqE, hq⟩ := hrel
          by_cases hlt : q < p
          · have d0 : (q : Int) < (p : Int) := by omega
            have d2 : (q : Int) ≤ (n1 : Int) := by have := HE.out; omega
            have d3 : (q : Int) ≤ (cap1 : Int) := by have := HE.out; have := FC.out; omega
            have d4 : (n1 : Int) ≤ (cap1 : Int) := by have := FC.out; omega
            have hqn : q < n1 := by have := HE.out; omega
            have SQ := Lib.hid (Still.trans S2.out hq.out)
            obtain ⟨b, o, rfl, hb, _⟩ := (RW.out _ SQ.out).at_ (by omega)
            have rd : Reads wr w.heap.size (some ⟨b, o + q, none⟩) (n1 - q) (l.drop q) := by have h := (RW.out _ SQ.out).dropk (k := q) (by omega); simpa [Addr.add_lit] using h
            have RD := Lib.hid (read_any (some ⟨b, o + q, none⟩) (n1 - q) (cap1 - q) (l.drop q) wr w.heap.size rd SQ.out.size (by have := FC.out; omega) (by have := FC.out; omega) (by have := FC.out; omega) (HT.out _ SQ.out))
            have BE := Lib.hid (HE.out.2.2 q haq hlt)
            have HQ := Lib.hid hq.out
            clear rd hb hq
            go_wp2_with fail
            refine RD.out.mono ?_
            rintro e w3 ⟨⟨v3, rfl, own3⟩, s3⟩
            have KL := Lib.hid (rdK_len (l.drop q))
            generalize rdT (l.drop q) = t at *
            generalize rdK (l.drop q) = K at *
            generalize rdD (l.drop q) = D at *
            generalize rdN (l.drop q) = m at *
            generalize rdE (l.drop q) = er at *
            have KL' : Hid (K.length = 32) := KL
            have V3 := Lib.hid (show v3.oneCell' = true by rcases own3.2 with ⟨h, _⟩ | ⟨_, _, _, h, _⟩ <;> (rw [h]; rfl))
            have BE' := BE.out
            have b0 : (er == 0) = false := by simpa using BE'
            have b1 : (er != 0) = true := by simpa using BE'
            obtain ⟨w4, hw4⟩ : ∃ w4, w4 = (w3.alloc (.cells #[.int .i64 0, .int .u8 0, .int .u8 0, .int .u8 0, .int .u8 0, .int .u8 0, .int .u8 0, .int .u8 0, .int .u8 0, .int .u8 0, .int .u8 0, .int .u8 0, .int .u8 0, .int .u8 0, .int .u8 0, .int .u8 0, .int .u8 0, .int .u8 0, .int .u8 0, .int .u8 0, .int .u8 0, .int .u8 0, .int .u8 0, .int .u8 0, .int .u8 0, .int .u8 0, .int .u8 0, .int .u8 0, .int .u8 0, .int .u8 0, .int .u8 0, .int .u8 0, .int .u8 0, .slice none 0 0] 26)).setRow w3.heap.size (entV t K v3) := ⟨_, rfl⟩
            have S4 := Lib.hid (show Still w2 w4 from Still.trans HQ.out (Still.trans s3 (by rw [hw4]; exact below_setRow ((Still.refl w3).alloc (Nat.le_refl _) _) (Nat.le_refl _) _)))
            have HW4 := Lib.hid hw4
            have HLT := Lib.hid hlt
            clear RD own3 s3 hw4 KL BE BE' SQ HQ d2 d3 d4 hqn d0 b1
            go_upto_region 13 with (guard_target =~ wpList _ _ _ (Oper.mk none (Op.store _ _ _) _ _ _ _ :: _) _ _; go_must (refine wpList_store_rowTo rfl 26 (.tmp 7) (.tmp 44) rfl rfl w3.heap.size (entV t K v3) (by kernel_rfl) (by kernel_rfl) 26 _ (heap_alloc_new w3 _) (by rw [sizeEnt, entV_size _ _ _ KL'.out]) (by rw [entV_size _ _ _ KL'.out]; rfl) (entV_one _ _ _ V3.out) ?_))
            rw [← HW4.out]
            clear HW4
            go_wp2_with fail
            go_roundw
            case rel => exact ⟨q + 1, by have := HLT.out; have := HE.out; have := FC.out; go_num, by omega, by have := HLT.out; omega, S4.out⟩
            case measure => simp [intOf]; have := HLT.out; omega
          · have hqe : p = q := by omega
            subst hqe
            have d2 : (p : Int) ≤ (n1 : Int) := by have := HE.out; omega
            have d3 : (p : Int) ≤ (cap1 : Int) := by have := HE.out; have := FC.out; omega
            have d4 : (n1 : Int) ≤ (cap1 : Int) := by have := FC.out; omega
            have hpn : p < n1 := HP.out
            have hcn : ¬ cap1 = p := by have := HP.out; have := FC.out; omega
            have SQ := Lib.hid (Still.trans S2.out hq.out)
            obtain ⟨b, o, rfl, hb, _⟩ := (RW.out _ SQ.out).at_ (by have := HP.out; omega)
            have rd : Reads wr w.heap.size (some ⟨b, o + p, none⟩) (n1 - p) (l.drop p) := by have h := (RW.out _ SQ.out).dropk (k := p) (by have := HP.out; omega); simpa [Addr.add_lit] using h
            have RD := Lib.hid (read_any (some ⟨b, o + p, none⟩) (n1 - p) (cap1 - p) (l.drop p) wr w.heap.size rd SQ.out.size (by have := FC.out; omega) (by have := FC.out; omega) (by have := FC.out; omega) (HT.out _ SQ.out))
            have HQ := Lib.hid hq.out
            have FIT := Lib.hid (show p + rdN (l.drop p) ≤ n1 by have h := rdN_fit ER.out; rw [List.length_drop] at h; have := FC.out; have := HP.out; omega)
            have DL := Lib.hid (show (rdD (l.drop p)).length ≤ 1048576 by have h := rdD_len (l.drop p); rw [List.length_drop] at h; have := FC.out; omega)
            have KL := Lib.hid (rdK_len (l.drop p))
            have FO := Lib.hid (show fo l p = ⟨rdT (l.drop p), rdK (l.drop p), rdD (l.drop p), p, rdN (l.drop p)⟩ from rfl)
            clear rd hb hq
            go_wp2_with fail
            refine RD.out.mono ?_
            rintro e w3 ⟨⟨v3, rfl, own3⟩, s3⟩
            rw [FO.out] at HF
            clear FO
            generalize rdT (l.drop p) = t at *
            generalize rdK (l.drop p) = K at *
            generalize rdD (l.drop p) = D at *
            generalize rdN (l.drop p) = m at *
            have KL' : Hid (K.length = 32) := KL
            have V3 := Lib.hid (show v3.oneCell' = true by rcases own3.2 with ⟨h, _⟩ | ⟨_, _, _, h, _⟩ <;> (rw [h]; rfl))
            rw [ER.out]
            obtain ⟨gx, hgx⟩ : ∃ gx, gx = w3.heap.size := ⟨_, rfl⟩
            obtain ⟨w4, hw4⟩ : ∃ w4, w4 = (w3.alloc (.cells #[.int .i64 0, .int .u8 0, .int .u8 0, .int .u8 0, .int .u8 0, .int .u8 0, .int .u8 0, .int .u8 0, .int .u8 0, .int .u8 0, .int .u8 0, .int .u8 0, .int .u8 0, .int .u8 0, .int .u8 0, .int .u8 0, .int .u8 0, .int .u8 0, .int .u8 0, .int .u8 0, .int .u8 0, .int .u8 0, .int .u8 0, .int .u8 0, .int .u8 0, .int .u8 0, .int .u8 0, .int .u8 0, .int .u8 0, .int .u8 0, .int .u8 0, .int .u8 0, .int .u8 0, .slice none 0 0] 26)).setRow w3.heap.size (entV t K v3) := ⟨_, rfl⟩
            have s34 : Still w3 w4 := by rw [hw4]; exact below_setRow ((Still.refl w3).alloc (Nat.le_refl _) _) (Nat.le_refl _) _
            have B4 := Lib.hid (show Blk w4 gx 26 (entV t K v3) by rw [hw4, hgx]; exact setRow_heap _ _ _ _ _ _ (heap_alloc_new w3 _))
            have O4 := Lib.hid (own_still0 s34 own3)
            have S4 := Lib.hid (show Still w2 w4 from Still.trans HQ.out (Still.trans s3 s34))
            have HW4 := Lib.hid hw4
            have HGX := Lib.hid hgx
            have SZ := Lib.hid (show gx < w4.heap.size from Blk.lt B4.out)
            have WS := Lib.hid (show w.heap.size ≤ w4.heap.size from (Still.trans S2.out S4.out).size)
            have WS3 := Lib.hid (s34.size)
            have W3 := Lib.hid (show _ from s3.size)
            clear RD own3 s3 s34 hw4 hgx KL SQ HQ d2 d3 d4 ER hpn hcn
            go_upto_region 17 with (guard_target =~ wpList _ _ _ (Oper.mk none (Op.store _ _ _) _ _ _ _ :: _) _ _; go_must (refine wpList_store_rowTo rfl 26 (.tmp 10) (.tmp 58) rfl rfl w3.heap.size (entV t K v3) (by kernel_rfl) (by kernel_rfl) 26 _ (heap_alloc_new w3 _) (by rw [sizeEnt, entV_size _ _ _ KL'.out]) (by rw [entV_size _ _ _ KL'.out]; rfl) (entV_one _ _ _ V3.out) ?_))
            rw [← HW4.out, ← HGX.out]
            obtain ⟨q1, q2⟩ := OO.out w4 S4.out
            obtain ⟨A1, nD, d1, k1, k2, k3, k4⟩ := atF q1 q2 HF.out hlti
            simp only at k1 k2 k3
            obtain ⟨A2, d2, hv3, _, _, _⟩ := own_form O4.out
            rw [← k3] at hv3
            subst hv3
            have o4 := O4.out
            rw [← k3] at o4
            have FF := Lib.hid (fun W (s : Still w4 W) => (show W.rangeAt g1 (i * 36) (entL t K (.slice A1 nD d1)) ∧ W.cell? ⟨g1, i * 36 + 35, none⟩ = some (.int .i64 (m : Int)) ∧ W.rangeAt gx 0 (entL t K (.slice A2 nD d2)) by
              have kp : ∀ p u, w4.cell? p = some u → W.cell? p = some u := fun p u h => (s.cell (p := p) (World.block_lt_of_cell? w4 _ h)).trans h
              refine ⟨fun j u hj => kp _ _ (k4.ent j u hj), kp _ _ k4.n, fun j u hj => kp _ _ ?_⟩
              rw [Nat.zero_add]
              exact (B4.out.cell j).trans (by unfold entV; rw [List.getElem?_toArray]; exact hj)))
            have SE := Lib.hid (fun W (s : Still w4 W) => sameE_yes t K D A2 A1 nD d2 d1 W _ _ KL'.out ((Reads.of_own o4).still (Nat.le_refl _) s) ((Reads.of_own k2).still (Nat.le_refl _) s) s.size s.size (by rw [k3]; exact DL.out))
            clear k1 k2 k3 k4 q1 q2 o4 O4 HW4 HGX B4 SZ WS WS3 W3 V3
            refine wp_region_held_drew (S := fun W => W.rangeAt g1 (i * 36) (entL t K (.slice A1 nD d1)) ∧ W.cell? ⟨g1, i * 36 + 35, none⟩ = some (.int .i64 (m : Int)) ∧ W.rangeAt gx 0 (entL t K (.slice A2 nD d2))) (by kernel_rfl) (FF.out _ ((Still.refl _).drew)) (fun hHeld => ?_)
            obtain ⟨wa, hwa⟩ : ∃ wa, wa = w4.drew := ⟨_, rfl⟩
            have SA := Lib.hid (show Still w4 wa by rw [hwa]; exact (Still.refl _).drew)
            try rw [← hwa] at hHeld
            rw [← hwa]
            clear hwa
            try simp only [Act.put, List.setIfInBounds_toArray, List.set_cons_zero, List.set_cons_succ]
            refine wpAnyH_take (i := 0) (v := .int .i64 0) rfl (by kernel_rfl) (by kernel_rfl) (by kernel_rfl) (fun _ _ _ h => h) (Or.inl ⟨by kernel_rfl, fun W hS => by obtain ⟨h0, h1, h2⟩ := hS; go_simp⟩) (by assumption) ?_
            try simp only [Act.put, List.setIfInBounds_toArray, List.set_cons_zero, List.set_cons_succ]
            refine wpAnyH_take (i := 1) (v := (.bool false)) rfl (by kernel_rfl) (by kernel_rfl) (by kernel_rfl) (fun _ _ _ h => h) (Or.inl ⟨by kernel_rfl, fun W hS => by obtain ⟨h0, h1, h2⟩ := hS; go_simp⟩) (by assumption) ?_
            try simp only [Act.put, List.setIfInBounds_toArray, List.set_cons_zero, List.set_cons_succ]
            refine wpAnyH_take (i := 2) (v := (.bool false)) rfl (by kernel_rfl) (by kernel_rfl) (by kernel_rfl) (fun _ _ _ h => h) (Or.inl ⟨by kernel_rfl, fun W hS => by obtain ⟨h0, h1, h2⟩ := hS; go_simp⟩) (by assumption) ?_
            try simp only [Act.put, List.setIfInBounds_toArray, List.set_cons_zero, List.set_cons_succ]
            refine wpAnyH_take (i := 3) (v := .int .i64 (m : Int)) rfl (by kernel_rfl) (by kernel_rfl) (by kernel_rfl) (fun _ _ _ h => h) (Or.inl ⟨by kernel_rfl, fun W hS => by obtain ⟨h0, h1, h2⟩ := hS; go_simp⟩) (by assumption) ?_
            try simp only [Act.put, List.setIfInBounds_toArray, List.set_cons_zero, List.set_cons_succ]
            refine wpAnyH_take (i := 4) (v := .slice (some ⟨g1, 0, none⟩) N c1) rfl (by kernel_rfl) (by kernel_rfl) (by kernel_rfl) (fun _ _ _ h => h) (Or.inl ⟨by kernel_rfl, fun W hS => by obtain ⟨h0, h1, h2⟩ := hS; go_simp⟩) (by assumption) ?_
            try simp only [Act.put, List.setIfInBounds_toArray, List.set_cons_zero, List.set_cons_succ]
            refine wpAnyH_take (i := 5) (v := .int .i64 (i : Int)) rfl (by kernel_rfl) (by kernel_rfl) (by kernel_rfl) (fun _ _ _ h => h) (Or.inl ⟨by kernel_rfl, fun W hS => by obtain ⟨h0, h1, h2⟩ := hS; go_simp⟩) (by assumption) ?_
            try simp only [Act.put, List.setIfInBounds_toArray, List.set_cons_zero, List.set_cons_succ]
            refine wpAnyH_take (i := 6) (v := .pointer (some ⟨g1, i * 36, none⟩)) rfl (by kernel_rfl) (by kernel_rfl) (by kernel_rfl) (fun _ _ _ h => h) (Or.inl ⟨by kernel_rfl, fun W hS => by obtain ⟨h0, h1, h2⟩ := hS; go_simp⟩) (by assumption) ?_
            try simp only [Act.put, List.setIfInBounds_toArray, List.set_cons_zero, List.set_cons_succ]
            refine wpAnyH_take (i := 7) (v := .pointer (some ⟨g1, i * 36 + 35, none⟩)) rfl (by kernel_rfl) (by kernel_rfl) (by kernel_rfl) (fun _ _ _ h => h) (Or.inl ⟨by kernel_rfl, fun W hS => by obtain ⟨h0, h1, h2⟩ := hS; go_simp⟩) (by assumption) ?_
            try simp only [Act.put, List.setIfInBounds_toArray, List.set_cons_zero, List.set_cons_succ]
            refine wpAnyH_take (i := 8) (v := .int .i64 (m : Int)) rfl (by kernel_rfl) (by kernel_rfl) (by kernel_rfl) (fun _ _ _ h => h) (Or.inl ⟨by kernel_rfl, fun W hS => by obtain ⟨h0, h1, h2⟩ := hS; go_simp⟩) (by assumption) ?_
            try simp only [Act.put, List.setIfInBounds_toArray, List.set_cons_zero, List.set_cons_succ]
            refine wpAnyH_take (i := 9) (v := (.bool false)) rfl (by kernel_rfl) (by kernel_rfl) (by kernel_rfl) (fun _ _ _ h => h) (Or.inl ⟨by kernel_rfl, fun W hS => by obtain ⟨h0, h1, h2⟩ := hS; go_simp⟩) (by assumption) ?_
            try simp only [Act.put, List.setIfInBounds_toArray, List.set_cons_zero, List.set_cons_succ]
            refine wpAnyH_take (i := 10) (v := (.bool false)) rfl (by kernel_rfl) (by kernel_rfl) (by kernel_rfl) (fun _ _ _ h => h) (Or.inl ⟨by kernel_rfl, fun W hS => by obtain ⟨h0, h1, h2⟩ := hS; go_simp⟩) (by assumption) ?_
            try simp only [Act.put, List.setIfInBounds_toArray, List.set_cons_zero, List.set_cons_succ]
            refine wpAnyH_take (i := 11) (v := (.bool false)) rfl (by kernel_rfl) (by kernel_rfl) (by kernel_rfl) (fun _ _ _ h => h) (Or.inl ⟨by kernel_rfl, fun W hS => by obtain ⟨h0, h1, h2⟩ := hS; go_simp⟩) (by assumption) ?_
            try simp only [Act.put, List.setIfInBounds_toArray, List.set_cons_zero, List.set_cons_succ]
            refine wpAnyH_take (i := 12) (oi := ⟨some 73, .load 26 (.tmp 10), _, _, _, _⟩) (v := .agg (entV t K (.slice A2 nD d2))) rfl (by kernel_rfl) (by kernel_rfl) (by kernel_rfl) (fun _ _ _ h => h) ?hy12 (by assumption) ?_
            case hy12 =>
              refine yieldsIf_load_mid ?hw 26 (.tmp 10) ?ho gx 0 ?hx (entL t K (.slice A2 nD d2)) _ (fun W h => h.2.2) HU.out rfl (by rw [sizeEnt]; exact congrArg some (by have h := entV_size t K ((.slice A2 nD d2)) KL'.out; unfold entV at h; simpa using h.symm))
              case hw => kernel_rfl
              case ho => rfl
              case hx => kernel_rfl
            try simp only [Act.put, List.setIfInBounds_toArray, List.set_cons_zero, List.set_cons_succ]
            refine wpAnyH_take (i := 13) (v := .slice (some ⟨g1, 0, none⟩) N c1) rfl (by kernel_rfl) (by kernel_rfl) (by kernel_rfl) (fun _ _ _ h => h) (Or.inl ⟨by kernel_rfl, fun W hS => by obtain ⟨h0, h1, h2⟩ := hS; go_simp⟩) (by assumption) ?_
            try simp only [Act.put, List.setIfInBounds_toArray, List.set_cons_zero, List.set_cons_succ]
            refine wpAnyH_take (i := 14) (v := .int .i64 (i : Int)) rfl (by kernel_rfl) (by kernel_rfl) (by kernel_rfl) (fun _ _ _ h => h) (Or.inl ⟨by kernel_rfl, fun W hS => by obtain ⟨h0, h1, h2⟩ := hS; go_simp⟩) (by assumption) ?_
            try simp only [Act.put, List.setIfInBounds_toArray, List.set_cons_zero, List.set_cons_succ]
            refine wpAnyH_take (i := 15) (v := .pointer (some ⟨g1, i * 36, none⟩)) rfl (by kernel_rfl) (by kernel_rfl) (by kernel_rfl) (fun _ _ _ h => h) (Or.inl ⟨by kernel_rfl, fun W hS => by obtain ⟨h0, h1, h2⟩ := hS; go_simp⟩) (by assumption) ?_
            try simp only [Act.put, List.setIfInBounds_toArray, List.set_cons_zero, List.set_cons_succ]
            refine wpAnyH_take (i := 16) (v := .pointer (some ⟨g1, i * 36, none⟩)) rfl (by kernel_rfl) (by kernel_rfl) (by kernel_rfl) (fun _ _ _ h => h) (Or.inl ⟨by kernel_rfl, fun W hS => by obtain ⟨h0, h1, h2⟩ := hS; go_simp⟩) (by assumption) ?_
            try simp only [Act.put, List.setIfInBounds_toArray, List.set_cons_zero, List.set_cons_succ]
            refine wpAnyH_take (i := 17) (oi := ⟨some 78, .load 26 (.tmp 77), _, _, _, _⟩) (v := .agg (entV t K (.slice A1 nD d1))) rfl (by kernel_rfl) (by kernel_rfl) (by kernel_rfl) (fun _ _ _ h => h) ?hy17 (by assumption) ?_
            case hy17 =>
              refine yieldsIf_load_mid ?hw 26 (.tmp 77) ?ho g1 (i * 36) ?hx (entL t K (.slice A1 nD d1)) _ (fun W h => h.1) HU.out rfl (by rw [sizeEnt]; exact congrArg some (by have h := entV_size t K ((.slice A1 nD d1)) KL'.out; unfold entV at h; simpa using h.symm))
              case hw => kernel_rfl
              case ho => rfl
              case hx => kernel_rfl
            try simp only [Act.put, List.setIfInBounds_toArray, List.set_cons_zero, List.set_cons_succ]
            refine wpAnyH_ready (rs := [18]) (by kernel_rfl) (by simp) ?_
            refine AllReadyH.cons (o := ⟨some 79, .call { callee := .value (.func 16), args := #[.tmp 73, .tmp 78], argTypes := #[26, 26] }, _, _, _, _⟩) rfl (fun K' hK' => ?_) AllReadyH.nil
            have HK' := Lib.hid hK'
            clear hK'
            go_simp
            go_wp2_with (go_at_call 16; refine (SE.out _ SA.out).mono ?_; rintro e w5 ⟨rfl, s5⟩; have S5 := Lib.hid (SA.out.trans s5))
            refine HK'.out.out _ _ (FF.out _ S5.out) (fun hHeld => ?_)
            clear HK' K'
            try simp only [Act.put, List.setIfInBounds_toArray, List.set_cons_zero, List.set_cons_succ]
            refine wpAnyH_take (i := 19) (v := (.bool false)) rfl (by kernel_rfl) (by kernel_rfl) (by kernel_rfl) (fun _ _ _ h => h) (Or.inl ⟨by kernel_rfl, fun W hS => by obtain ⟨h0, h1, h2⟩ := hS; go_simp⟩) (by assumption) ?_
            try simp only [Act.put, List.setIfInBounds_toArray, List.set_cons_zero, List.set_cons_succ]
            refine wpAnyH_take (i := 20) (v := (.bool false)) rfl (by kernel_rfl) (by kernel_rfl) (by kernel_rfl) (fun _ _ _ h => h) (Or.inl ⟨by kernel_rfl, fun W hS => by obtain ⟨h0, h1, h2⟩ := hS; go_simp⟩) (by assumption) ?_
            try simp only [Act.put, List.setIfInBounds_toArray, List.set_cons_zero, List.set_cons_succ]
            refine wpAnyH_done (by kernel_rfl) ?_ _
            have S6 := Lib.hid (Still.trans S4.out S5.out)
            clear FF SE SA S5 hHeld HU OO
            go_simp
            have i1 : IntKind.i64.wrap ((p : Int) + (m : Int)) = ((p + m : Nat) : Int) := by rw [IntKind.wrap_i64]; have := FIT.out; omega
            go_wp2_with fail
            go_roundw
            case rel => exact ⟨p + m, i + 1, by go_num, by go_num, FIT.out, by omega, fun _ => ⟨_, NX.out⟩, S6.out⟩
            case measure => simp [intOf]; omega
    · obtain rfl : i = N + 1 := by omega
      have S3 := Lib.hid hh.out.2
      have e1 : ¬ ((N : Int) + 1 ≤ (N : Int)) := by omega
      clear hh
      go_wp2_with fail
      refine (LV.out _ (HT.out _ (Still.trans S2.out S3.out))).mono ?_
      rintro e w8 ⟨rfl, s8⟩
      have S8 := Lib.hid (Still.trans S2.out (Still.trans S3.out s8))
      clear s8
      go_wp2_with fail
      go_ret
      exact ⟨rfl, S8.out⟩
end Go.Proofs.YtggmclhiolfjkaaDoor
