/- The walk of CutWrites: it returns true, and nothing that was there turns. -/
import Derived.Test.YtjihnagoebhinaaCtCw
import Derived.Test.YtjihnagoebhinaaCutPiecesWalk
namespace Go.Proofs.Ytjihnagoebhinaa
open Go.RowKit
set_option linter.unusedVariables false
set_option linter.unusedSimpArgs false

theorem chunks_len2 (s : Shp) (b : List UInt8) (D : List (List UInt8)) (y : List UInt8) (h : run s [] b = (D, y)) : D.length ≤ b.length := by
  have h1 : (chunks s b).length ≤ b.length := chunks_len s b
  unfold chunks at h1
  rw [h] at h1
  simp only [List.length_append] at h1
  omega
theorem getD_mid (D Dn E : List (List UInt8)) (i : Nat) (hi : i < Dn.length) : ((D ++ Dn) ++ E).getD (D.length + i) [] = Dn.getD i [] := by
  rw [List.append_assoc, List.getD_eq_getElem?_getD, List.getD_eq_getElem?_getD, List.getElem?_append_right (by omega), show D.length + i - D.length = i by omega, List.getElem?_append_left hi]
theorem RowsR.cutx {w : World} {O P : Nat → Prop} {A : Option Addr} {n c k : Nat} {L : List (List UInt8)} (h : RowsR w O P A n c L) (hk : k ≤ n) (e : c = k) : RowsR w O P A (n - k) 0 (L.drop k) := by
  have := h.fit
  rw [show n - k = 0 by omega]
  exact h.endk (by omega)
set_option maxRecDepth 100000 in
set_option maxHeartbeats 6400000 in
theorem cutWrites_walk (x y z u sd : Int) (a1 : Option Addr) (len1 cap1 : Nat) (a2 : Option Addr) (len2 cap2 : Nat) (z2 : List Int) (w : World) (hsd : 0 ≤ sd ∧ sd ≤ 4294967295) (h1 : RowsIn .u8 w a1 len1) (h2 : RowIn .u8 w a2 len2 cap2 z2) :
    Calls Try.prog 4 #[.agg #[.int .i64 x, .int .i64 y, .int .i64 z, .int .i64 u, .int .u32 sd], .slice a1 len1 cap1, .slice a2 len2 cap2] w fun e w' => e = .returned (.bool true) ∧ Below w.heap.size w w' := by
  have st := (Still.refl w).alloc (Nat.le_refl _) (.cells #[.int .i64 x, .int .i64 y, .int .i64 z, .int .i64 u, .int .u32 sd] 24)
  have hb := Blk.new w 24 #[.int .i64 x, .int .i64 y, .int .i64 z, .int .i64 u, .int .u32 sd]
  have LV := Lib.hid (fun W => lives_any W)
  have ST := Lib.hid st
  have RCK := Lib.hid (fun W => rcheck_any x y z u sd W)
  have BXH := Lib.hid (fun (W : World) (t : Still (w.alloc (.cells #[.int .i64 x, .int .i64 y, .int .i64 z, .int .i64 u, .int .u32 sd] 24)) W) => hb.still t)
  have H1 := Lib.hid h1
  have H2 := Lib.hid h2
  clear st hb h1 h2
  by_cases hok : okZ x y z u = true
  · obtain ⟨s, hs, rfl, rfl, rfl, rfl, rfl⟩ := shp_of hok hsd.1 hsd.2
    rw [hok] at RCK
    have OK := Lib.hid hs
    have HNW := Lib.hid (fun W => new_cut s hs W)
    have HMT : 0 < s.mt := by have := hs.n1; have := hs.nlt; have := hs.ltmt; omega
    clear hs hok hsd
    go_enter Try.func4, Try.ntmps4
    go_wp2_with fail
    refine (HNW.out _).mono ?_
    rintro e w2 ⟨g, f, r, rfl, cb2, t2⟩
    have HBX := BXH.out w2 t2
    have b0 := HBX.cell 0
    have b1 := HBX.cell 1
    have b2 := HBX.cell 2
    have b3 := HBX.cell 3
    have b4 := HBX.cell 4
    simp only [List.getElem?_toArray, List.getElem?_cons_succ, List.getElem?_cons_zero] at b0 b1 b2 b3 b4
    clear HBX

    go_wp2_with fail
    refine (RCK.out _).mono ?_
    rintro e w3 ⟨rfl, t3⟩
    obtain ⟨base, hbase⟩ : ∃ base, base = (w.alloc (.cells #[.int .i64 (s.lt : Nat), .int .i64 (s.mt : Nat), .int .i64 (s.k : Nat), .int .i64 (s.n : Nat), .int .u32 (s.seed : Nat)] 24)).heap.size := ⟨_, rfl⟩
    rw [← hbase] at cb2
    have HBS := Lib.hid hbase
    have HBW := Lib.hid (show w.heap.size ≤ base by rw [hbase]; exact ST.out.size)
    have HB2 := Lib.hid (show base ≤ w3.heap.size by rw [hbase]; exact (Still.trans t2 t3).size)
    have T2 := Lib.hid (Still.trans t2 t3)
    have I0 : Hid (CwMid w3 w3 base g f r s [] (.slice none 0 0) (.slice none 0 0) [] []) := ⟨cb2.still t3, World.ownsRow_nil _ _ _ _, fun k hk => by simp [Value.ownBlock] at hk, rfl, by simpa using HMT, Below.refl _ _⟩
    clear t2 t3 cb2 HNW hbase b0 b1 b2 b3 b4
    go_wp2_with fail
    go_loopw [9, 10, 11] (fun aw tw iv wr => ∃ la av v D l0 k, aw = av ∧ tw = .int .i64 ((D.length : Nat) : Int) ∧ iv = .int .i64 ((k : Nat) : Int) ∧ k ≤ len1 ∧ k ≤ 8 ∧ la.length ≤ 80 * k ∧ Hid (CwMid w3 wr base g f r s la av v D l0)) (fun _ _ iv _ => 8 - (intOf iv).toNat)
    case atStart => exact ⟨_, _, _, [], _, 0, rfl, rfl, rfl, Nat.zero_le _, by omega, by simp, I0⟩
    case round =>
      clear I0
      obtain ⟨la, av, v, D, l0, k, rfl, rfl, rfl, hk1, hk2, hla, hin⟩ := hrel
      have HBR := Lib.hid (Nat.le_trans HB2.out hin.out.st.size)
      have TW := Lib.hid (show Below w.heap.size w wr from Below.trans ST.out (Below.trans (T2.out.mono ST.out.size) (hin.out.st.mono HBW.out)))
      by_cases hlt : k < len1 ∧ k < 8
      · obtain ⟨g1, g2⟩ := hlt
        obtain ⟨br, orr, Ar, Lr, Cr, zr, rfl, hbr, hcr, hri⟩ := H1.out.2 k g1
        have hcell : wr.cell? ⟨br, orr + k, none⟩ = some (.slice Ar Lr Cr) := (TW.out.cell (p := ⟨br, orr + k, none⟩) hbr).trans hcr
        obtain ⟨lr, hrs⟩ := rowsIn_row hri TW.out
        have HCU := Lib.hid (cut_any Ar Lr Cr 80 lr wr w.heap.size hrs.reads hrs.fit hrs.cap (by omega))
        obtain ⟨m, hm⟩ : ∃ m, m = min Lr 80 := ⟨_, rfl⟩
        obtain ⟨lb, hlb⟩ : ∃ lb, lb = lr.take 80 := ⟨_, rfl⟩
        have hrd : Reads wr w.heap.size Ar m lb := by rw [hm, hlb]; exact hrs.reads.take 80
        rw [← hm] at HCU
        have HCP := Lib.hid (copy_any Ar m Cr lb wr w.heap.size hrd (by omega) (fun e => ⟨by have := (hrs.nil e).1; omega, (hrs.nil e).2⟩))
        have hm80 : m ≤ 80 := by omega
        have HLB := Lib.hid hrd.1
        have HG1 := Lib.hid (And.intro g1 g2)
        have q1 : (0 : Int) ≤ (k : Int) := by omega
        have q2 : (k : Int) < (len1 : Int) := by omega
        have q3 : (k : Int) < 8 := by omega
        clear hcr hri hrs hm hlb hrd
        go_wp2_with fail
        refine HCU.out.mono ?_
        rintro e w4 ⟨rfl, rfl⟩
        go_wp2_with fail
        refine HCP.out.mono ?_
        rintro e w5 ⟨⟨bv, rfl, ob⟩, t5⟩
        obtain ⟨Ab, cb, rfl, hb1, hb2, hb3⟩ := own_form ob
        have OB := Lib.hid ob
        have RB := Lib.hid (RowP.of_own ob)
        have T5 := Lib.hid t5
        have OA := Lib.hid (still_own hin.out.own t5)
        have HAD : la.length + m ≤ 140737488355328 := by omega
        have HBA := Nat.le_trans HBR.out t5.size
        clear ob t5 hcell HCU HCP
        obtain ⟨Aa, ca, rfl, ha1, ha2, ha3⟩ := own_form OA.out
        go_wp2_with (at_builtin; go_must (refine wpList_adds_at _ rfl _ _ rfl base _ _ la rfl OA.out _ m cb _ lb rfl RB.out.reads (fun e => (hb3 e).2) HAD HBA ?_))
        intro av' w6 oa6 g6 hv6
        obtain ⟨n1, n2, n3, n4, n5⟩ := hin.out.ahead HBR.out T5.out OB.out g6 oa6 hv6
        obtain ⟨Aa', ca', rfl, ha1', ha2', ha3'⟩ := own_form oa6
        have RB6 := RowP.of_own n2
        have HB6 := Nat.le_trans HB2.out n5.size
        have HWR := Lib.hid (write_any s OK.out hin.out.lt Ab m cb lb w6 (fun k => (Value.slice Ab m cb).ownBlock = some k) n1 (RB6.mono (fun k hk _ => hk.2)) (fun k hk => ⟨(n3 k hk).1, (n3 k hk).2.1⟩) (by omega) HB6)
        have N1 := Lib.hid n1
        have N2 := Lib.hid n2
        have N3 := Lib.hid n3
        have N4 := Lib.hid n4
        have N5 := Lib.hid n5
        have OA6 := Lib.hid oa6
        have HBB := Lib.hid (show ∀ k, (Value.slice Ab m cb).ownBlock = some k → base ≤ k from fun k hk => Nat.le_trans HBR.out (own_block_ge n2 k hk))
        have HB6H := Lib.hid HB6
        clear n1 n2 n3 n4 n5 oa6 g6 hv6 RB6 HAD HBA OA RB OB T5 HB6 HBR
        go_wp2_with fail
        refine HWR.out.mono ?_
        rintro e w7 ⟨lv, v', xs, rfl, o7, r7, cb7, ap7, hd7, ch7⟩
        obtain ⟨Al, cl, rfl, hl1, hl2, hl3⟩ := own_formB o7
        have OBV := Lib.hid (ch7.own N2.out (fun k hk => (N3.out k hk).2.1))
        have HNX := Lib.hid (fun W (c6 : Chg w7 W (fun k => (Value.slice Ab m cb).ownBlock = some k)) => hin.out.next OK.out HB6H.out N3.out N4.out HBB.out N5.out N1.out OA6.out HLB.out.symm cb7 hd7 ch7 o7 r7 c6)
        obtain ⟨Dn, hDn⟩ : ∃ Dn, Dn = (run s l0 lb).1 := ⟨_, rfl⟩
        obtain ⟨ln, hln⟩ : ∃ ln, ln = (run s l0 lb).2 := ⟨_, rfl⟩
        rw [← hDn, ← hln] at HNX
        have HDL : D.length + Dn.length ≤ la.length + m := by
          have h5 := (HNX.out w7 (Chg.refl _ _)).1.eq
          have h6 := got_len s (la ++ lb) D Dn ln (by simpa using h5)
          rw [List.length_append, HLB.out] at h6
          exact h6
        rw [← hDn]
        clear o7 r7 cb7 ap7 hd7 ch7 N1 N2 N4 N5 OA6 HWR hDn hln
        go_wp2_with fail
        have HAB := Lib.hid (show 0 < m → ∃ bb, Ab = some ⟨bb, 0, none⟩ ∧ Pok w7 bb m from fun h0 => by
          obtain ⟨bb, e, _⟩ := own_at OBV.out 0 h0 _ (bytesV_get lb 0 (by have := HLB.out; omega))
          subst e
          exact ⟨bb, rfl, pok_of OBV.out⟩)
        clear OBV
        go_loopw [14] (fun jv wr => ∃ j : Nat, jv = .int .i64 j ∧ j ≤ m ∧ Hid (Chg w7 wr (fun k => (Value.slice Ab m cb).ownBlock = some k) ∧ (∀ bb, Ab = some ⟨bb, 0, none⟩ → 0 < m → Pok wr bb m))) (fun jv _ => m - (intOf jv).toNat)
        case atStart => exact ⟨0, rfl, Nat.zero_le _, Lib.hid ⟨Chg.refl _ _, fun bb e h0 => by
          obtain ⟨b', e', hp⟩ := HAB.out h0
          rw [e] at e'
          obtain rfl : bb = b' := by injection e' with e'; injection e'
          exact hp⟩⟩
        case round =>
          obtain ⟨j, rfl, hj, hji⟩ := hrel
          by_cases hjm : j < m
          · obtain ⟨bb, rfl, _⟩ := HAB.out (by omega)
            obtain ⟨⟨xb, cx⟩, fx⟩ := (hji.out.2 bb rfl (by omega)).at_ hjm
            have j1 : (0 : Int) ≤ (j : Int) := by omega
            have j2 : (j : Int) < (m : Int) := by omega
            have j3 := u8_next xb
            have J1 := Lib.hid (hji.out.1.trans (Chg.of_grown (grownBy_set _ bb j (.int .u8 ((xb + 1 : UInt8).toNat : Nat))) (S := fun k => (Value.slice (some ⟨bb, 0, none⟩) m cb).ownBlock = some k) (fun k hk _ => hk)) (fun x _ h => h))
            have J2 := Lib.hid ((hji.out.2 bb rfl (by omega)).set hjm (xb + 1))
            have HJ := Lib.hid hjm
            clear hji hjm
            obtain ⟨nx1, hnx1⟩ : ∃ nx1, nx1 = (xb + 1 : UInt8).toNat := ⟨_, rfl⟩
            rw [← hnx1] at j3 J1 J2
            clear hnx1
            generalize xb.toNat = xn at *
            go_wp2_with fail
            go_roundw
            case rel => exact ⟨j + 1, by go_num, by have := HJ.out; omega, Lib.hid ⟨J1.out, fun b' e h0 => (show bb = b' by simpa using e) ▸ J2.out⟩⟩
            case measure => simp [intOf]; have := HJ.out; omega
          · obtain rfl : j = m := by omega
            obtain ⟨cm, rl⟩ := HNX.out _ hji.out.1
            have CM := Lib.hid cm
            have RL := Lib.hid rl
            have HLEN : (la ++ lb).length = la.length + j := by rw [List.length_append, HLB.out]
            have hown := cm.own
            rw [HLEN] at hown
            have RA := RowP.of_own hown
            have HBXS := Below.trans T2.out (HBS.out ▸ cm.st)
            have HRS := Lib.hid (rsplit_low s OK.out Aa' (la.length + j) ca' (la ++ lb) _ (fun k => (Value.slice Aa' (la.length + j) ca').ownBlock = some k) (RA.mono (fun k hk _ => hk.2)) (fun k hk => own_block_lt hown k hk) (by omega))
            obtain ⟨TF1, TF2⟩ := told_front cm.eq
            rw [cm.eq] at HRS
            simp only at HRS
            have HTF := Lib.hid (And.intro TF1 TF2)
            have HLENH := Lib.hid HLEN
            have HDLH := Lib.hid HDL
            obtain ⟨N, hN⟩ : ∃ N, N = (D ++ Dn).length := ⟨_, rfl⟩
            have hNL : N = D.length + Dn.length := by rw [hN, List.length_append]
            have HBB2 := Lib.hid (Nat.le_trans HB2.out cm.st.size)
            have HBX := BXH.out _ HBXS
            have b0 := HBX.cell 0
            have b1 := HBX.cell 1
            have b2 := HBX.cell 2
            have b3 := HBX.cell 3
            have b4 := HBX.cell 4
            simp only [List.getElem?_toArray, List.getElem?_cons_succ, List.getElem?_cons_zero] at b0 b1 b2 b3 b4
            clear HBX
            clear cm rl hown RA HBXS TF1 TF2 HLEN HNX HAB hji hjm HDL
            have hN6 : N ≤ 640 := by have := HDLH.out; omega
            have HNN := Lib.hid hN
            have HNL := Lib.hid hNL
            clear hN hNL
            by_cases hz : ln = []
            · have HZ := Lib.hid hz
              rw [decide_eq_true hz] at HRS
              have HCH := Lib.hid (show chunks s (la ++ lb) = D ++ Dn by rw [HTF.out.1, if_pos hz, List.append_nil])
              clear hz
              go_wp2_with fail
              refine HRS.out.mono ?_
              rintro e w9 ⟨wv, ys, rfl, o9, r9, t9⟩
              rw [HCH.out, ← HNN.out] at o9
              rw [HCH.out] at r9
              obtain ⟨Aw, cw, rfl, hw1, hw2, hw3⟩ := own_formB o9
              have RW := Lib.hid ((RowsR.of_own o9 r9).mono (O' := fun _ => True) (Q := fun _ => True) (fun _ _ _ => trivial) (fun _ _ _ => trivial))
              have T9 := Lib.hid t9
              have hdn : D.length ≤ N := by have := HNL.out; omega
              have u1 : ¬ (N : Int) < (D.length : Int) := by omega
              have u2 : (D.length : Int) ≤ (N : Int) := by omega
              have u3 : (0 : Int) ≤ (D.length : Int) := by omega
              have u4 : (D.length : Int) ≤ (cw : Int) := by have := RW.out.fit; omega
              have SHN := Lib.hid (chunks_short s (la ++ lb) (by have := HLENH.out; omega))
              have SHD := Lib.hid (show Short Dn from fun i hi => by
                have h1 := SHN.out (D.length + i) (by rw [HTF.out.1]; simp only [List.length_append]; omega)
                rw [HTF.out.1] at h1
                rwa [getD_mid _ _ _ i hi] at h1)
              clear t9 o9 r9 b0 b1 b2 b3 b4 HRS
              by_cases hcw : cw = D.length
              · have RD := Lib.hid (RW.out.endk (show N ≤ D.length by have := RW.out.fit; omega))
                rw [List.drop_left] at RD
                have HSA := Lib.hid (rows_same _ _ _ _ _ _ _ _ w9 (RL.out.still T9.out) RD.out (by have := HNL.out; omega) (by omega) SHD.out SHD.out)
                rw [decide_eq_true rfl] at HSA
                clear hdn
                subst hcw
                go_wp2_with fail
                refine HSA.out.mono ?_
                rintro e wa ⟨rfl, ma, hwa⟩
                have TA := Lib.hid (Still.trans T9.out (show Still w9 wa from hwa ▸ still_drewN (Still.refl w9) ma))
                have RWA := Lib.hid (RW.out.still (show Still w9 wa from hwa ▸ still_drewN (Still.refl w9) ma))
                clear hwa HSA
                go_wp2_with fail
                go_loopw [17, 18] (fun hv jv wr => ∃ q h : Nat, jv = .int .i64 q ∧ hv = .int .i64 h ∧ q ≤ N ∧ Hid (wr = wa ∧ h + ((D ++ Dn).take q).flatten.length = la.length + j)) (fun _ jv _ => N - (intOf jv).toNat)
                case atStart => exact ⟨0, la.length + j, rfl, rfl, Nat.zero_le _, Lib.hid ⟨rfl, by simp⟩⟩
                case round =>
                  obtain ⟨q, h, rfl, rfl, hq, hqi⟩ := hrel
                  obtain ⟨rfl, hqs⟩ := hqi.out
                  have HQS := Lib.hid hqs
                  clear hqi hqs
                  by_cases hqn : q < N
                  · obtain ⟨bw, ow, rfl, _, _, hat⟩ := RWA.out.at_ (by omega)
                    obtain ⟨Aq, nq, cq, d1, p1⟩ := hat q hqn
                    have hst := flat_step (D ++ Dn) q (by rw [← HNN.out]; exact hqn)
                    have hle := flat_take_le (D ++ Dn) (q + 1)
                    rw [p1.len] at hst
                    have hLn := HTF.out.2
                    have hHL := HLENH.out
                    have hqs := HQS.out
                    obtain ⟨h2, hh2⟩ : ∃ h2, h2 = h - nq := ⟨_, rfl⟩
                    have v1 : (0 : Int) ≤ (q : Int) := by omega
                    have v2 : (q : Int) < (N : Int) := by omega
                    have v3 : IntKind.i64.wrap ((h : Int) - (nq : Int)) = (h2 : Int) := by rw [IntKind.wrap_i64]; omega
                    have HS2 := Lib.hid (show h2 + ((D ++ Dn).take (q + 1)).flatten.length = la.length + j by omega)
                    have HQN := Lib.hid hqn
                    clear hat p1 hst hle hLn hHL hqs hh2 hqn
                    go_wp2_with fail
                    go_roundw
                    case rel => exact ⟨q + 1, h2, by go_num, rfl, by have := HQN.out; omega, Lib.hid ⟨by trivial, HS2.out⟩⟩
                    case measure => simp [intOf]; have := HQN.out; omega
                  · obtain rfl : q = N := by omega
                    have hh : h = ln.length := by
                      have h1 := HQS.out
                      have h2 := HTF.out.2
                      have h3 := HLENH.out
                      rw [List.take_of_length_le (by rw [← HNN.out]; exact Nat.le_refl _)] at h1
                      omega
                    subst hh
                    have HHD := Lib.hid (held_any _ (CM.out.still HBB2.out TA.out).cb)
                    go_wp2_with fail
                    refine HHD.out.mono ?_
                    rintro e wb ⟨rfl, rfl⟩
                    have CMF := Lib.hid (CM.out.still HBB2.out TA.out)
                    have HLL : (la ++ lb).length ≤ 80 * (k + 1) := by rw [HLENH.out]; omega
                    clear HHD
                    go_wp2_with fail
                    go_roundw
                    case rel => exact ⟨la ++ lb, _, _, D ++ Dn, ln, k + 1, rfl, by rw [HNN.out], by go_num, by have := HG1.out; omega, by have := HG1.out; omega, HLL, CMF⟩
                    case measure => simp [intOf]; have := HG1.out; omega
              · have RD := Lib.hid (RW.out.dropk hdn)
                rw [List.drop_left] at RD
                have HSA := Lib.hid (rows_same _ _ _ _ _ _ _ _ w9 (RL.out.still T9.out) RD.out (by have := HNL.out; omega) (by omega) SHD.out SHD.out)
                rw [decide_eq_true rfl] at HSA
                clear hdn
                go_wp2_with fail
                refine HSA.out.mono ?_
                rintro e wa ⟨rfl, ma, hwa⟩
                have TA := Lib.hid (Still.trans T9.out (show Still w9 wa from hwa ▸ still_drewN (Still.refl w9) ma))
                have RWA := Lib.hid (RW.out.still (show Still w9 wa from hwa ▸ still_drewN (Still.refl w9) ma))
                clear hwa HSA
                go_wp2_with fail
                go_loopw [17, 18] (fun hv jv wr => ∃ q h : Nat, jv = .int .i64 q ∧ hv = .int .i64 h ∧ q ≤ N ∧ Hid (wr = wa ∧ h + ((D ++ Dn).take q).flatten.length = la.length + j)) (fun _ jv _ => N - (intOf jv).toNat)
                case atStart => exact ⟨0, la.length + j, rfl, rfl, Nat.zero_le _, Lib.hid ⟨rfl, by simp⟩⟩
                case round =>
                  obtain ⟨q, h, rfl, rfl, hq, hqi⟩ := hrel
                  obtain ⟨rfl, hqs⟩ := hqi.out
                  have HQS := Lib.hid hqs
                  clear hqi hqs
                  by_cases hqn : q < N
                  · obtain ⟨bw, ow, rfl, _, _, hat⟩ := RWA.out.at_ (by omega)
                    obtain ⟨Aq, nq, cq, d1, p1⟩ := hat q hqn
                    have hst := flat_step (D ++ Dn) q (by rw [← HNN.out]; exact hqn)
                    have hle := flat_take_le (D ++ Dn) (q + 1)
                    rw [p1.len] at hst
                    have hLn := HTF.out.2
                    have hHL := HLENH.out
                    have hqs := HQS.out
                    obtain ⟨h2, hh2⟩ : ∃ h2, h2 = h - nq := ⟨_, rfl⟩
                    have v1 : (0 : Int) ≤ (q : Int) := by omega
                    have v2 : (q : Int) < (N : Int) := by omega
                    have v3 : IntKind.i64.wrap ((h : Int) - (nq : Int)) = (h2 : Int) := by rw [IntKind.wrap_i64]; omega
                    have HS2 := Lib.hid (show h2 + ((D ++ Dn).take (q + 1)).flatten.length = la.length + j by omega)
                    have HQN := Lib.hid hqn
                    clear hat p1 hst hle hLn hHL hqs hh2 hqn
                    go_wp2_with fail
                    go_roundw
                    case rel => exact ⟨q + 1, h2, by go_num, rfl, by have := HQN.out; omega, Lib.hid ⟨by trivial, HS2.out⟩⟩
                    case measure => simp [intOf]; have := HQN.out; omega
                  · obtain rfl : q = N := by omega
                    have hh : h = ln.length := by
                      have h1 := HQS.out
                      have h2 := HTF.out.2
                      have h3 := HLENH.out
                      rw [List.take_of_length_le (by rw [← HNN.out]; exact Nat.le_refl _)] at h1
                      omega
                    subst hh
                    have HHD := Lib.hid (held_any _ (CM.out.still HBB2.out TA.out).cb)
                    go_wp2_with fail
                    refine HHD.out.mono ?_
                    rintro e wb ⟨rfl, rfl⟩
                    have CMF := Lib.hid (CM.out.still HBB2.out TA.out)
                    have HLL : (la ++ lb).length ≤ 80 * (k + 1) := by rw [HLENH.out]; omega
                    clear HHD
                    go_wp2_with fail
                    go_roundw
                    case rel => exact ⟨la ++ lb, _, _, D ++ Dn, ln, k + 1, rfl, by rw [HNN.out], by go_num, by have := HG1.out; omega, by have := HG1.out; omega, HLL, CMF⟩
                    case measure => simp [intOf]; have := HG1.out; omega
            · have HZ := Lib.hid hz
              rw [decide_eq_false hz] at HRS
              have HCH := Lib.hid (show chunks s (la ++ lb) = (D ++ Dn) ++ [ln] by rw [HTF.out.1, if_neg hz])
              clear hz
              go_wp2_with fail
              refine HRS.out.mono ?_
              rintro e w9 ⟨wv, ys, rfl, o9, r9, t9⟩
              obtain ⟨M, hM⟩ : ∃ M, M = (chunks s (la ++ lb)).length := ⟨_, rfl⟩
              have hMN : M = N + 1 := by rw [hM, HCH.out, HNN.out, List.length_append, List.length_singleton]
              rw [← hM] at o9
              rw [HCH.out] at r9
              clear hM
              obtain ⟨Aw, cw, rfl, hw1, hw2, hw3⟩ := own_formB o9
              have RW := Lib.hid (show RowsR w9 (fun _ => True) (fun _ => True) Aw N cw (D ++ Dn) from by
                have h1 := ((RowsR.of_own o9 r9).takek (k := N) (by omega)).mono (O' := fun _ => True) (Q := fun _ => True) (fun _ _ _ => trivial) (fun _ _ _ => trivial)
                rwa [show (D ++ Dn ++ [ln]).take N = D ++ Dn by rw [HNN.out]; exact List.take_left] at h1)
              have s1 : IntKind.i64.wrap ((M : Int) - 1) = (N : Int) := by rw [IntKind.wrap_i64]; omega
              have s2 : (0 : Int) ≤ (N : Int) := by omega
              have s3 : (N : Int) ≤ (M : Int) := by omega
              have s4 : (N : Int) ≤ (cw : Int) := by omega
              have s5 : N ≤ cw := by omega
              clear hMN
              have T9 := Lib.hid t9
              have hdn : D.length ≤ N := by have := HNL.out; omega
              have u1 : ¬ (N : Int) < (D.length : Int) := by omega
              have u2 : (D.length : Int) ≤ (N : Int) := by omega
              have u3 : (0 : Int) ≤ (D.length : Int) := by omega
              have u4 : (D.length : Int) ≤ (cw : Int) := by have := RW.out.fit; omega
              have SHN := Lib.hid (chunks_short s (la ++ lb) (by have := HLENH.out; omega))
              have SHD := Lib.hid (show Short Dn from fun i hi => by
                have h1 := SHN.out (D.length + i) (by rw [HTF.out.1]; simp only [List.length_append]; omega)
                rw [HTF.out.1] at h1
                rwa [getD_mid _ _ _ i hi] at h1)
              clear t9 o9 r9 b0 b1 b2 b3 b4 HRS
              by_cases hcw : cw = D.length
              · have RD := Lib.hid (RW.out.endk (show N ≤ D.length by have := RW.out.fit; omega))
                rw [List.drop_left] at RD
                have HSA := Lib.hid (rows_same _ _ _ _ _ _ _ _ w9 (RL.out.still T9.out) RD.out (by have := HNL.out; omega) (by omega) SHD.out SHD.out)
                rw [decide_eq_true rfl] at HSA
                clear hdn
                subst hcw
                go_wp2_with fail
                refine HSA.out.mono ?_
                rintro e wa ⟨rfl, ma, hwa⟩
                have TA := Lib.hid (Still.trans T9.out (show Still w9 wa from hwa ▸ still_drewN (Still.refl w9) ma))
                have RWA := Lib.hid (RW.out.still (show Still w9 wa from hwa ▸ still_drewN (Still.refl w9) ma))
                clear hwa HSA
                go_wp2_with fail
                go_loopw [17, 18] (fun hv jv wr => ∃ q h : Nat, jv = .int .i64 q ∧ hv = .int .i64 h ∧ q ≤ N ∧ Hid (wr = wa ∧ h + ((D ++ Dn).take q).flatten.length = la.length + j)) (fun _ jv _ => N - (intOf jv).toNat)
                case atStart => exact ⟨0, la.length + j, rfl, rfl, Nat.zero_le _, Lib.hid ⟨rfl, by simp⟩⟩
                case round =>
                  obtain ⟨q, h, rfl, rfl, hq, hqi⟩ := hrel
                  obtain ⟨rfl, hqs⟩ := hqi.out
                  have HQS := Lib.hid hqs
                  clear hqi hqs
                  by_cases hqn : q < N
                  · obtain ⟨bw, ow, rfl, _, _, hat⟩ := RWA.out.at_ (by omega)
                    obtain ⟨Aq, nq, cq, d1, p1⟩ := hat q hqn
                    have hst := flat_step (D ++ Dn) q (by rw [← HNN.out]; exact hqn)
                    have hle := flat_take_le (D ++ Dn) (q + 1)
                    rw [p1.len] at hst
                    have hLn := HTF.out.2
                    have hHL := HLENH.out
                    have hqs := HQS.out
                    obtain ⟨h2, hh2⟩ : ∃ h2, h2 = h - nq := ⟨_, rfl⟩
                    have v1 : (0 : Int) ≤ (q : Int) := by omega
                    have v2 : (q : Int) < (N : Int) := by omega
                    have v3 : IntKind.i64.wrap ((h : Int) - (nq : Int)) = (h2 : Int) := by rw [IntKind.wrap_i64]; omega
                    have HS2 := Lib.hid (show h2 + ((D ++ Dn).take (q + 1)).flatten.length = la.length + j by omega)
                    have HQN := Lib.hid hqn
                    clear hat p1 hst hle hLn hHL hqs hh2 hqn
                    go_wp2_with fail
                    go_roundw
                    case rel => exact ⟨q + 1, h2, by go_num, rfl, by have := HQN.out; omega, Lib.hid ⟨by trivial, HS2.out⟩⟩
                    case measure => simp [intOf]; have := HQN.out; omega
                  · obtain rfl : q = N := by omega
                    have hh : h = ln.length := by
                      have h1 := HQS.out
                      have h2 := HTF.out.2
                      have h3 := HLENH.out
                      rw [List.take_of_length_le (by rw [← HNN.out]; exact Nat.le_refl _)] at h1
                      omega
                    subst hh
                    have HHD := Lib.hid (held_any _ (CM.out.still HBB2.out TA.out).cb)
                    go_wp2_with fail
                    refine HHD.out.mono ?_
                    rintro e wb ⟨rfl, rfl⟩
                    have CMF := Lib.hid (CM.out.still HBB2.out TA.out)
                    have HLL : (la ++ lb).length ≤ 80 * (k + 1) := by rw [HLENH.out]; omega
                    clear HHD
                    go_wp2_with fail
                    go_roundw
                    case rel => exact ⟨la ++ lb, _, _, D ++ Dn, ln, k + 1, rfl, by rw [HNN.out], by go_num, by have := HG1.out; omega, by have := HG1.out; omega, HLL, CMF⟩
                    case measure => simp [intOf]; have := HG1.out; omega
              · have RD := Lib.hid (RW.out.dropk hdn)
                rw [List.drop_left] at RD
                have HSA := Lib.hid (rows_same _ _ _ _ _ _ _ _ w9 (RL.out.still T9.out) RD.out (by have := HNL.out; omega) (by omega) SHD.out SHD.out)
                rw [decide_eq_true rfl] at HSA
                clear hdn
                go_wp2_with fail
                refine HSA.out.mono ?_
                rintro e wa ⟨rfl, ma, hwa⟩
                have TA := Lib.hid (Still.trans T9.out (show Still w9 wa from hwa ▸ still_drewN (Still.refl w9) ma))
                have RWA := Lib.hid (RW.out.still (show Still w9 wa from hwa ▸ still_drewN (Still.refl w9) ma))
                clear hwa HSA
                go_wp2_with fail
                go_loopw [17, 18] (fun hv jv wr => ∃ q h : Nat, jv = .int .i64 q ∧ hv = .int .i64 h ∧ q ≤ N ∧ Hid (wr = wa ∧ h + ((D ++ Dn).take q).flatten.length = la.length + j)) (fun _ jv _ => N - (intOf jv).toNat)
                case atStart => exact ⟨0, la.length + j, rfl, rfl, Nat.zero_le _, Lib.hid ⟨rfl, by simp⟩⟩
                case round =>
                  obtain ⟨q, h, rfl, rfl, hq, hqi⟩ := hrel
                  obtain ⟨rfl, hqs⟩ := hqi.out
                  have HQS := Lib.hid hqs
                  clear hqi hqs
                  by_cases hqn : q < N
                  · obtain ⟨bw, ow, rfl, _, _, hat⟩ := RWA.out.at_ (by omega)
                    obtain ⟨Aq, nq, cq, d1, p1⟩ := hat q hqn
                    have hst := flat_step (D ++ Dn) q (by rw [← HNN.out]; exact hqn)
                    have hle := flat_take_le (D ++ Dn) (q + 1)
                    rw [p1.len] at hst
                    have hLn := HTF.out.2
                    have hHL := HLENH.out
                    have hqs := HQS.out
                    obtain ⟨h2, hh2⟩ : ∃ h2, h2 = h - nq := ⟨_, rfl⟩
                    have v1 : (0 : Int) ≤ (q : Int) := by omega
                    have v2 : (q : Int) < (N : Int) := by omega
                    have v3 : IntKind.i64.wrap ((h : Int) - (nq : Int)) = (h2 : Int) := by rw [IntKind.wrap_i64]; omega
                    have HS2 := Lib.hid (show h2 + ((D ++ Dn).take (q + 1)).flatten.length = la.length + j by omega)
                    have HQN := Lib.hid hqn
                    clear hat p1 hst hle hLn hHL hqs hh2 hqn
                    go_wp2_with fail
                    go_roundw
                    case rel => exact ⟨q + 1, h2, by go_num, rfl, by have := HQN.out; omega, Lib.hid ⟨by trivial, HS2.out⟩⟩
                    case measure => simp [intOf]; have := HQN.out; omega
                  · obtain rfl : q = N := by omega
                    have hh : h = ln.length := by
                      have h1 := HQS.out
                      have h2 := HTF.out.2
                      have h3 := HLENH.out
                      rw [List.take_of_length_le (by rw [← HNN.out]; exact Nat.le_refl _)] at h1
                      omega
                    subst hh
                    have HHD := Lib.hid (held_any _ (CM.out.still HBB2.out TA.out).cb)
                    go_wp2_with fail
                    refine HHD.out.mono ?_
                    rintro e wb ⟨rfl, rfl⟩
                    have CMF := Lib.hid (CM.out.still HBB2.out TA.out)
                    have HLL : (la ++ lb).length ≤ 80 * (k + 1) := by rw [HLENH.out]; omega
                    clear HHD
                    go_wp2_with fail
                    go_roundw
                    case rel => exact ⟨la ++ lb, _, _, D ++ Dn, ln, k + 1, rfl, by rw [HNN.out], by go_num, by have := HG1.out; omega, by have := HG1.out; omega, HLL, CMF⟩
                    case measure => simp [intOf]; have := HG1.out; omega
      · have key : (k < len1 ∧ decide ((k : Int) < 8) = false) ∨ ¬ k < len1 := by
          by_cases d1 : k < len1
          · exact .inl ⟨d1, by simp; omega⟩
          · exact .inr d1
        obtain ⟨Aa, ca, rfl, ha1, ha2, ha3⟩ := own_form hin.out.own
        have hown := hin.out.own
        have HRS := Lib.hid (rsplit_low s OK.out Aa la.length ca la wr (fun k => (Value.slice Aa la.length ca).ownBlock = some k) ((RowP.of_own hown).mono (fun k hk _ => hk.2)) (fun k hk => own_block_lt hown k hk) (by omega))
        obtain ⟨TF1, TF2⟩ := told_front hin.out.eq
        rw [hin.out.eq] at HRS
        simp only at HRS
        have HTF := Lib.hid (And.intro TF1 TF2)
        have HBXS := Below.trans T2.out (HBS.out ▸ hin.out.st)
        have HBX := BXH.out _ HBXS
        have b0 := HBX.cell 0
        have b1 := HBX.cell 1
        have b2 := HBX.cell 2
        have b3 := HBX.cell 3
        have b4 := HBX.cell 4
        simp only [List.getElem?_toArray, List.getElem?_cons_succ, List.getElem?_cons_zero] at b0 b1 b2 b3 b4
        clear HBX
        obtain ⟨l2a, r2a, hc2, hm2, hA2⟩ := reads_of_row H2.out
        obtain ⟨n2, hn2⟩ : ∃ n2, n2 = min len2 100 := ⟨_, rfl⟩
        obtain ⟨l2, hl2⟩ : ∃ l2, l2 = l2a.take 100 := ⟨_, rfl⟩
        have RS2 := Lib.hid (show RowS w w.heap.size a2 n2 cap2 l2 from ⟨by rw [hn2, hl2]; exact r2a.take 100, by omega, hm2, fun e => ⟨by have := (hA2 e).1; omega, (hA2 e).2⟩⟩)
        have HC2 := Lib.hid (fun W (t : Below w.heap.size w W) => cut_any a2 len2 cap2 100 l2a W w.heap.size (r2a.below t) hc2 hm2 (by omega))
        rw [← hn2] at HC2
        have hn2' : n2 ≤ 100 := by omega
        have HLA : la.length ≤ 640 := by omega
        have HL0 : l0.length ≤ 8192 := by have := hin.out.lt; have := OK.out.mt8; omega
        obtain ⟨Av, cv, rfl, hv1, hv2, hv3⟩ := own_formB hin.out.cb.own
        clear hown TF1 TF2 HBXS r2a hc2 hm2 hA2 hn2 hl2 hlt
        rcases key with ⟨d1, d2⟩ | d1
        all_goals
          by_cases hz : l0 = []
          · subst hz
            have HCH := Lib.hid (show chunks s la = D by rw [HTF.out.1, if_pos rfl, List.append_nil])
            rw [decide_eq_true rfl] at HRS
            go_wp2_with fail
            refine HRS.out.mono ?_
            rintro e w4 ⟨wv, ys, rfl, o4, r4, t4⟩
            obtain ⟨Aw, cw, rfl, hw1, hw2, hw3⟩ := own_formB o4
            have LA := Lib.hid (show RowP w4 (fun _ => True) none 0 0 [] from RowP.none_)
            obtain ⟨lastA, elA⟩ : ∃ x : Option Addr, x = none := ⟨_, rfl⟩
            clear elA lastA
            have T4 := Lib.hid t4
            have HEN := Lib.hid (end_any OK.out w4 (hin.out.cb.still t4))
            clear t4 o4 r4 b0 b1 b2 b3 b4 HRS
            go_wp2_with fail
            refine HEN.out.mono ?_
            rintro e w5 ⟨rfl, o5, cb5, ch5⟩
            have RV := Lib.hid (RowP.of_own o5)
            have CB5 := Lib.hid cb5
            have LA5 := Lib.hid (show RowP w5 (fun _ => True) none 0 0 [] from RowP.none_)
            have ST5 := Lib.hid (Below.trans (Below.trans hin.out.st (T4.out.mono HBR.out)) (ch5.below (Nat.le_trans HBR.out T4.out.size) (fun k hk => by have := cb5.low; rcases hk with h | h | h <;> omega)))
            have HSB := Lib.hid (same_any Av none 0 0 cv 0 [] [] w5 _ _ RV.out.reads LA5.out.reads (by omega) (by have := LA5.out.len; omega))
            rw [decide_eq_true rfl] at HSB
            clear o5 cb5 ch5 HEN
            go_wp2_with fail
            refine HSB.out.mono ?_
            rintro e w6 ⟨rfl, t6⟩
            have CB6 := Lib.hid (CB5.out.still t6)
            have ST6 := Lib.hid (Below.trans ST5.out (t6.mono (Nat.le_trans HB2.out ST5.out.size)))
            have HHD := Lib.hid (held_any w6 CB6.out)
            simp only [List.length_nil, Int.cast_ofNat_Int] at HHD
            clear t6 HSB CB5 ST5 RV
            go_wp2_with fail
            refine HHD.out.mono ?_
            rintro e w6' ⟨rfl, hw6⟩
            subst hw6
            have HEN := Lib.hid (end_any OK.out _ CB6.out)
            clear HHD
            go_wp2_with fail
            refine HEN.out.mono ?_
            rintro e w7 ⟨rfl, o7, cb7, ch7⟩
            have CB7 := Lib.hid cb7
            have ST7 := Lib.hid (Below.trans ST6.out (ch7.below (Nat.le_trans HB2.out ST6.out.size) (fun k hk => by have := cb7.low; rcases hk with h | h | h <;> omega)))
            have BW7 := Lib.hid (show Below w.heap.size w w7 from Below.trans ST.out (Below.trans (T2.out.mono ST.out.size) (ST7.out.mono HBW.out)))
            have HBX := BXH.out w7 (Below.trans T2.out (HBS.out ▸ ST7.out))
            have b0 := HBX.cell 0
            have b1 := HBX.cell 1
            have b2 := HBX.cell 2
            have b3 := HBX.cell 3
            have b4 := HBX.cell 4
            simp only [List.getElem?_toArray, List.getElem?_cons_succ, List.getElem?_cons_zero] at b0 b1 b2 b3 b4
            clear o7 cb7 ch7 HEN HBX CB6 ST6
            go_wp2_with fail
            refine (HC2.out w7 BW7.out).mono ?_
            rintro e w7' ⟨rfl, rfl⟩
            have R27 := Lib.hid (show RowP w7 (fun k => k < w.heap.size) a2 n2 cap2 l2 from RowP.mk (RS2.out.reads.1) RS2.out.fit RS2.out.cap RS2.out.nil (fun h0 => by
              obtain ⟨bb, o, e, hb, hc⟩ := (RS2.out.reads.below BW7.out).2 h0
              exact ⟨bb, o, e, hb, Nat.lt_of_lt_of_le hb BW7.out.size, hc⟩))
            have HR2 := Lib.hid (rsplit_low s OK.out a2 n2 cap2 l2 w7 (fun k => k < w.heap.size) R27.out (fun k hk => Nat.lt_of_lt_of_le hk BW7.out.size) (by omega))
            go_wp2_with fail
            refine HR2.out.mono ?_
            rintro e w8 ⟨nv, us, rfl, o8, r8, t8⟩
            obtain ⟨An, cn, rfl, hn1, hn2, hn3⟩ := own_formB o8
            have RN := Lib.hid ((RowsR.of_own o8 r8).mono (O' := fun k => w7.heap.size < k) (Q := fun k => k < w.heap.size) (fun k hk _ => hk.1) (fun k hk _ => hk))
            have CB8 := Lib.hid (CB7.out.still t8)
            have HB8 := Lib.hid (Nat.le_trans HB2.out (Nat.le_trans ST7.out.size t8.size))
            have SZ8 := Lib.hid t8.size
            have ST8 := Lib.hid (Below.trans ST7.out (t8.mono (Nat.le_trans HB2.out ST7.out.size)))
            have HWR := Lib.hid (write_any s OK.out (l := []) HMT a2 n2 cap2 l2 w8 (fun k => k < w.heap.size) CB8.out (R27.out.still t8) (fun k hk => ⟨by have := HB8.out; have := HBW.out; omega, fun hc => by have := CB8.out.ge k hc; have := HBW.out; omega⟩) (by omega) HB8.out)
            clear o8 r8 t8 HR2 b0 b1 b2 b3 b4
            go_wp2_with fail
            refine HWR.out.mono ?_
            rintro e w9 ⟨lv, v', xs, rfl, o9, r9, cb9, ap9, hd9, ch9⟩
            have P9 : PcMid w9 base g f r v' s (run s [] l2).2 lv (run s [] l2).1 xs := ⟨cb9, own_base o9 HB8.out, r9.mono (fun k hk _ => hk.2), ap9⟩
            have LVG := Lib.hid (fun k hk => own_block_ge o9 k hk)
            obtain ⟨GG, hGG⟩ : ∃ GG, GG = (run s [] l2).1 := ⟨_, rfl⟩
            obtain ⟨last, hlast⟩ : ∃ last, last = (run s [] l2).2 := ⟨_, rfl⟩
            have EE : run s [] l2 = (GG, last) := by rw [hGG, hlast]
            have HGLL : GG.length < 1048576 := by
              have h2 := chunks_len2 s l2 GG last EE
              have := RS2.out.reads.1
              omega
            have HLL := Lib.hid (show last.length ≤ 100 from by have := (told_front EE).2; have := RS2.out.reads.1; omega)
            have TFE := Lib.hid (told_front EE).1
            rw [← hGG, ← hlast] at P9
            have CH9 := Lib.hid (show Chg w8 w9 (fun k => k = g ∨ k = f ∨ k = r) from ch9.mono (fun k _ hk => by
              rcases hk with h | h | h | h
              · exact .inl h
              · exact .inr (.inl h)
              · exact .inr (.inr h)
              · simp [Value.ownBlock] at h))
            have PP9 := Lib.hid P9
            have HB9 := Lib.hid (Nat.le_trans HB8.out CH9.out.size)
            have ST9 := Lib.hid (Below.trans ST8.out (ch9.below HB8.out (fun k hk => CB8.out.ge k hk)))
            have HEN := Lib.hid (end_any OK.out w9 P9.cb)
            obtain ⟨Ag, cg, rfl, hg1, hg2, hg3⟩ := own_formB P9.own
            obtain ⟨Ae, ce, rfl, he1, he2, he3⟩ := own_formB P9.cb.own
            clear o9 r9 cb9 ap9 hd9 ch9 P9 HWR hGG hlast EE
            go_wp2_with fail
            refine HEN.out.mono ?_
            rintro e wa ⟨rfl, oa, cba, cha⟩
            have cha' : Chg w9 wa (Cs g f r (.slice Ae last.length ce)) := cha.mono (fun k _ hk => Or.elim hk (fun e => .inl e) (fun hk => Or.elim hk (fun e => .inr (.inl e)) (fun e => .inr (.inr (.inl e)))))
            have PA := Lib.hid (PP9.out.wrote cba (fun k hk => by simp [Value.ownBlock] at hk) cha')
            have OA := Lib.hid (RowP.of_own oa)
            have CHA := Lib.hid (CH9.out.trans cha (fun _ _ h => h))
            have HBA := Nat.le_trans HB9.out cha.size
            have STA := Lib.hid (Below.trans ST9.out (cha'.below HB9.out (fun k hk => PP9.out.cb.ge k hk)))
            have APX := Lib.hid (fun k (hk : (Value.slice Ae last.length ce).ownBlock = some k) => (⟨fun e => PP9.out.apart k e (.inr (.inr (.inr hk))), fun hc => by
              have h7 := PP9.out.cb.far k hk
              rcases hc with h1 | h1 | h1 | h1
              · exact h7.1 h1
              · exact h7.2.1 h1
              · exact h7.2.2 h1
              · simp [Value.ownBlock] at h1⟩ : (Value.slice Ag GG.length cg).ownBlock ≠ some k ∧ ¬ Cs g f r (.slice none 0 0) k))
            have NFAR := Lib.hid (show ∀ k, (k < w.heap.size ∨ w7.heap.size < k) → ¬ (k = g ∨ k = f ∨ k = r) from fun k hk he => by
              have h1 := CB7.out.low
              have h2 := CB7.out.blk.lt
              have h3 := CB7.out.fb.1.lt
              have h4 := CB7.out.fb.2.1.lt
              have h5 := HBW.out
              rcases hk with h | h <;> rcases he with e | e | e <;> omega)
            clear oa cba cha cha' HEN
            have HCL := chunks_len s l2
            have HCL2 : (chunks s l2).length ≤ 100 := by have := RS2.out.reads.1; omega
            have HCS := Lib.hid (chunks_short s l2 (by have := RS2.out.reads.1; omega))
            clear HCL
            by_cases hz2 : last = []
            · subst hz2
              have EC : chunks s l2 = GG := by rw [TFE.out]; simp
              have HCS2 := Lib.hid (show Short GG by rw [← EC]; exact HCS.out)
              have RNA := Lib.hid (RN.out.chg CHA.out (fun k hk _ => NFAR.out k (Or.elim hk (fun h => .inl h) (fun h => .inr h))))
              have HSA := Lib.hid (rows_same _ _ _ _ _ _ _ _ wa (RowsR.of_own PA.out.own PA.out.rows) RNA.out (by omega) (by omega) HCS2.out HCS.out)
              rw [decide_eq_true EC.symm] at HSA
              clear EC
              go_wp2_with fail
              refine HSA.out.mono ?_
              rintro e wc ⟨rfl, mc, hwc⟩
              have TC := Lib.hid (show Still wa wc from hwc ▸ still_drewN (Still.refl wa) mc)
              clear hwc
              go_wp2_with fail
              refine (LV.out _).mono ?_
              rintro e wd ⟨rfl, td⟩
              have TD := Lib.hid (Still.trans (Still.trans ST.out (Below.trans T2.out (HBS.out ▸ STA.out))) (Still.trans TC.out td))
              clear td
              go_wp2_with fail
              go_ret
              exact ⟨rfl, TD.out⟩
            · have hz0 : 0 < last.length := by
                rcases Nat.eq_zero_or_pos last.length with h0 | h0
                · exact absurd (List.eq_nil_of_length_eq_zero h0) hz2
                · exact h0
              have hz1 : (0 : Int) < (last.length : Int) := by omega
              have EC := Lib.hid (show chunks s l2 = GG ++ [last] by rw [TFE.out, if_neg hz2])
              clear hz2
              go_wp2_with ((first | (guard_target =~ wpList _ _ _ (Oper.mk (some 179) _ _ _ _ _ :: _) _ _; go_must (refine wpList_boxB _ rfl _ rfl _ _ _ rfl ?_)) | (guard_target =~ wpList _ _ _ (Oper.mk (some 180) _ _ _ _ _ :: _) _ _; go_must (refine wpList_oneB _ rfl _ _ rfl base _ _ _ rfl PA.out.own _ rfl rfl HGLL HBA ?_)) | fail))
              intro gvb wb ob gb hvb
              have PB := PA.out.more (Rows.one OA.out) (fun k hk _ => APX.out k hk.2) ob gb (fun k hk => by
                rcases hvb with e | e
                · rw [e] at hk; exact .inl hk
                · rw [e] at hk; exact .inr (by have := Option.some.inj hk; omega))
              have STB := Lib.hid (STA.out.grown gb HBA (fun k hk => own_block_ge PA.out.own k hk))
              have CHB := CHA.out.trans (Chg.of_grown gb (S := fun k => (Value.slice Ag GG.length cg).ownBlock = some k) (fun k hk _ => hk)) (fun x hx e => by have := LVG.out x e; omega)
              rw [← EC.out] at PB
              obtain ⟨Ah, ch, rfl, hh1, hh2, hh3⟩ := own_formB PB.own
              have HSA := Lib.hid (rows_same _ _ _ _ _ _ _ _ wb (RowsR.of_own PB.own PB.rows) (RN.out.chg CHB (fun k hk _ => NFAR.out k (Or.elim hk (fun h => .inl h) (fun h => .inr h)))) (by omega) (by omega) HCS.out HCS.out)
              rw [decide_eq_true rfl] at HSA
              clear PB ob gb hvb CHB
              go_wp2_with fail
              refine HSA.out.mono ?_
              rintro e wc ⟨rfl, mc, hwc⟩
              have TC := Lib.hid (show Still wb wc from hwc ▸ still_drewN (Still.refl wb) mc)
              clear hwc
              go_wp2_with fail
              refine (LV.out _).mono ?_
              rintro e wd ⟨rfl, td⟩
              have TD := Lib.hid (Still.trans (Still.trans ST.out (Below.trans T2.out (HBS.out ▸ STB.out))) (Still.trans TC.out td))
              clear td
              go_wp2_with fail
              go_ret
              exact ⟨rfl, TD.out⟩
          · have HCH := Lib.hid (show chunks s la = D ++ [l0] by rw [HTF.out.1, if_neg hz])
            rw [decide_eq_false hz] at HRS
            go_wp2_with fail
            refine HRS.out.mono ?_
            rintro e w4 ⟨wv, ys, rfl, o4, r4, t4⟩
            obtain ⟨M, hM⟩ : ∃ M, M = (chunks s la).length := ⟨_, rfl⟩
            have hMN : M = D.length + 1 := by rw [hM, HCH.out, List.length_append, List.length_singleton]
            rw [← hM] at o4
            rw [HCH.out] at r4
            clear hM
            obtain ⟨Aw, cw, rfl, hw1, hw2, hw3⟩ := own_formB o4
            obtain ⟨bw, ow, rfl, _, _, hat⟩ := (RowsR.of_own o4 r4).at_ (by omega)
            obtain ⟨Ax, nx', cx, d3, p3⟩ := hat D.length (by omega)
            rw [show (D ++ [l0]).getD D.length [] = l0 by simp [List.getD]] at p3
            have LA := Lib.hid (p3.mono (Q := fun k => ¬ Cs g f r (.slice Av l0.length cv) k) (fun k hk _ => hin.out.apart k hk))
            have s1 : IntKind.i64.wrap ((M : Int) - 1) = (D.length : Int) := by rw [IntKind.wrap_i64]; omega
            have s2 : (0 : Int) ≤ (D.length : Int) := by omega
            have s3 : (D.length : Int) < (M : Int) := by omega
            clear hMN hat p3 hz
            have T4 := Lib.hid t4
            have HEN := Lib.hid (end_any OK.out w4 (hin.out.cb.still t4))
            clear t4 o4 r4 b0 b1 b2 b3 b4 HRS
            go_wp2_with fail
            refine HEN.out.mono ?_
            rintro e w5 ⟨rfl, o5, cb5, ch5⟩
            have RV := Lib.hid (RowP.of_own o5)
            have CB5 := Lib.hid cb5
            have LA5 := Lib.hid (LA.out.chg ch5 (fun k hk _ h => hk (Or.elim h (fun e => .inl e) (fun h => Or.elim h (fun e => .inr (.inl e)) (fun e => .inr (.inr (.inl e)))))))
            have ST5 := Lib.hid (Below.trans (Below.trans hin.out.st (T4.out.mono HBR.out)) (ch5.below (Nat.le_trans HBR.out T4.out.size) (fun k hk => by have := cb5.low; rcases hk with h | h | h <;> omega)))
            have HSB := Lib.hid (same_any Av Ax l0.length nx' cv cx l0 l0 w5 _ _ RV.out.reads LA5.out.reads (by omega) (by have := LA5.out.len; omega))
            rw [decide_eq_true rfl] at HSB
            clear o5 cb5 ch5 HEN d3
            go_wp2_with fail
            refine HSB.out.mono ?_
            rintro e w6 ⟨rfl, t6⟩
            have CB6 := Lib.hid (CB5.out.still t6)
            have ST6 := Lib.hid (Below.trans ST5.out (t6.mono (Nat.le_trans HB2.out ST5.out.size)))
            have HHD := Lib.hid (held_any w6 CB6.out)
            simp only [List.length_nil, Int.cast_ofNat_Int] at HHD
            clear t6 HSB CB5 ST5 RV
            go_wp2_with fail
            refine HHD.out.mono ?_
            rintro e w6' ⟨rfl, hw6⟩
            subst hw6
            have HEN := Lib.hid (end_any OK.out _ CB6.out)
            clear HHD
            go_wp2_with fail
            refine HEN.out.mono ?_
            rintro e w7 ⟨rfl, o7, cb7, ch7⟩
            have CB7 := Lib.hid cb7
            have ST7 := Lib.hid (Below.trans ST6.out (ch7.below (Nat.le_trans HB2.out ST6.out.size) (fun k hk => by have := cb7.low; rcases hk with h | h | h <;> omega)))
            have BW7 := Lib.hid (show Below w.heap.size w w7 from Below.trans ST.out (Below.trans (T2.out.mono ST.out.size) (ST7.out.mono HBW.out)))
            have HBX := BXH.out w7 (Below.trans T2.out (HBS.out ▸ ST7.out))
            have b0 := HBX.cell 0
            have b1 := HBX.cell 1
            have b2 := HBX.cell 2
            have b3 := HBX.cell 3
            have b4 := HBX.cell 4
            simp only [List.getElem?_toArray, List.getElem?_cons_succ, List.getElem?_cons_zero] at b0 b1 b2 b3 b4
            clear o7 cb7 ch7 HEN HBX CB6 ST6
            go_wp2_with fail
            refine (HC2.out w7 BW7.out).mono ?_
            rintro e w7' ⟨rfl, rfl⟩
            have R27 := Lib.hid (show RowP w7 (fun k => k < w.heap.size) a2 n2 cap2 l2 from RowP.mk (RS2.out.reads.1) RS2.out.fit RS2.out.cap RS2.out.nil (fun h0 => by
              obtain ⟨bb, o, e, hb, hc⟩ := (RS2.out.reads.below BW7.out).2 h0
              exact ⟨bb, o, e, hb, Nat.lt_of_lt_of_le hb BW7.out.size, hc⟩))
            have HR2 := Lib.hid (rsplit_low s OK.out a2 n2 cap2 l2 w7 (fun k => k < w.heap.size) R27.out (fun k hk => Nat.lt_of_lt_of_le hk BW7.out.size) (by omega))
            go_wp2_with fail
            refine HR2.out.mono ?_
            rintro e w8 ⟨nv, us, rfl, o8, r8, t8⟩
            obtain ⟨An, cn, rfl, hn1, hn2, hn3⟩ := own_formB o8
            have RN := Lib.hid ((RowsR.of_own o8 r8).mono (O' := fun k => w7.heap.size < k) (Q := fun k => k < w.heap.size) (fun k hk _ => hk.1) (fun k hk _ => hk))
            have CB8 := Lib.hid (CB7.out.still t8)
            have HB8 := Lib.hid (Nat.le_trans HB2.out (Nat.le_trans ST7.out.size t8.size))
            have SZ8 := Lib.hid t8.size
            have ST8 := Lib.hid (Below.trans ST7.out (t8.mono (Nat.le_trans HB2.out ST7.out.size)))
            have HWR := Lib.hid (write_any s OK.out (l := []) HMT a2 n2 cap2 l2 w8 (fun k => k < w.heap.size) CB8.out (R27.out.still t8) (fun k hk => ⟨by have := HB8.out; have := HBW.out; omega, fun hc => by have := CB8.out.ge k hc; have := HBW.out; omega⟩) (by omega) HB8.out)
            clear o8 r8 t8 HR2 b0 b1 b2 b3 b4
            go_wp2_with fail
            refine HWR.out.mono ?_
            rintro e w9 ⟨lv, v', xs, rfl, o9, r9, cb9, ap9, hd9, ch9⟩
            have P9 : PcMid w9 base g f r v' s (run s [] l2).2 lv (run s [] l2).1 xs := ⟨cb9, own_base o9 HB8.out, r9.mono (fun k hk _ => hk.2), ap9⟩
            have LVG := Lib.hid (fun k hk => own_block_ge o9 k hk)
            obtain ⟨GG, hGG⟩ : ∃ GG, GG = (run s [] l2).1 := ⟨_, rfl⟩
            obtain ⟨last, hlast⟩ : ∃ last, last = (run s [] l2).2 := ⟨_, rfl⟩
            have EE : run s [] l2 = (GG, last) := by rw [hGG, hlast]
            have HGLL : GG.length < 1048576 := by
              have h2 := chunks_len2 s l2 GG last EE
              have := RS2.out.reads.1
              omega
            have HLL := Lib.hid (show last.length ≤ 100 from by have := (told_front EE).2; have := RS2.out.reads.1; omega)
            have TFE := Lib.hid (told_front EE).1
            rw [← hGG, ← hlast] at P9
            have CH9 := Lib.hid (show Chg w8 w9 (fun k => k = g ∨ k = f ∨ k = r) from ch9.mono (fun k _ hk => by
              rcases hk with h | h | h | h
              · exact .inl h
              · exact .inr (.inl h)
              · exact .inr (.inr h)
              · simp [Value.ownBlock] at h))
            have PP9 := Lib.hid P9
            have HB9 := Lib.hid (Nat.le_trans HB8.out CH9.out.size)
            have ST9 := Lib.hid (Below.trans ST8.out (ch9.below HB8.out (fun k hk => CB8.out.ge k hk)))
            have HEN := Lib.hid (end_any OK.out w9 P9.cb)
            obtain ⟨Ag, cg, rfl, hg1, hg2, hg3⟩ := own_formB P9.own
            obtain ⟨Ae, ce, rfl, he1, he2, he3⟩ := own_formB P9.cb.own
            clear o9 r9 cb9 ap9 hd9 ch9 P9 HWR hGG hlast EE
            go_wp2_with fail
            refine HEN.out.mono ?_
            rintro e wa ⟨rfl, oa, cba, cha⟩
            have cha' : Chg w9 wa (Cs g f r (.slice Ae last.length ce)) := cha.mono (fun k _ hk => Or.elim hk (fun e => .inl e) (fun hk => Or.elim hk (fun e => .inr (.inl e)) (fun e => .inr (.inr (.inl e)))))
            have PA := Lib.hid (PP9.out.wrote cba (fun k hk => by simp [Value.ownBlock] at hk) cha')
            have OA := Lib.hid (RowP.of_own oa)
            have CHA := Lib.hid (CH9.out.trans cha (fun _ _ h => h))
            have HBA := Nat.le_trans HB9.out cha.size
            have STA := Lib.hid (Below.trans ST9.out (cha'.below HB9.out (fun k hk => PP9.out.cb.ge k hk)))
            have APX := Lib.hid (fun k (hk : (Value.slice Ae last.length ce).ownBlock = some k) => (⟨fun e => PP9.out.apart k e (.inr (.inr (.inr hk))), fun hc => by
              have h7 := PP9.out.cb.far k hk
              rcases hc with h1 | h1 | h1 | h1
              · exact h7.1 h1
              · exact h7.2.1 h1
              · exact h7.2.2 h1
              · simp [Value.ownBlock] at h1⟩ : (Value.slice Ag GG.length cg).ownBlock ≠ some k ∧ ¬ Cs g f r (.slice none 0 0) k))
            have NFAR := Lib.hid (show ∀ k, (k < w.heap.size ∨ w7.heap.size < k) → ¬ (k = g ∨ k = f ∨ k = r) from fun k hk he => by
              have h1 := CB7.out.low
              have h2 := CB7.out.blk.lt
              have h3 := CB7.out.fb.1.lt
              have h4 := CB7.out.fb.2.1.lt
              have h5 := HBW.out
              rcases hk with h | h <;> rcases he with e | e | e <;> omega)
            clear oa cba cha cha' HEN
            have HCL := chunks_len s l2
            have HCL2 : (chunks s l2).length ≤ 100 := by have := RS2.out.reads.1; omega
            have HCS := Lib.hid (chunks_short s l2 (by have := RS2.out.reads.1; omega))
            clear HCL
            by_cases hz2 : last = []
            · subst hz2
              have EC : chunks s l2 = GG := by rw [TFE.out]; simp
              have HCS2 := Lib.hid (show Short GG by rw [← EC]; exact HCS.out)
              have RNA := Lib.hid (RN.out.chg CHA.out (fun k hk _ => NFAR.out k (Or.elim hk (fun h => .inl h) (fun h => .inr h))))
              have HSA := Lib.hid (rows_same _ _ _ _ _ _ _ _ wa (RowsR.of_own PA.out.own PA.out.rows) RNA.out (by omega) (by omega) HCS2.out HCS.out)
              rw [decide_eq_true EC.symm] at HSA
              clear EC
              go_wp2_with fail
              refine HSA.out.mono ?_
              rintro e wc ⟨rfl, mc, hwc⟩
              have TC := Lib.hid (show Still wa wc from hwc ▸ still_drewN (Still.refl wa) mc)
              clear hwc
              go_wp2_with fail
              refine (LV.out _).mono ?_
              rintro e wd ⟨rfl, td⟩
              have TD := Lib.hid (Still.trans (Still.trans ST.out (Below.trans T2.out (HBS.out ▸ STA.out))) (Still.trans TC.out td))
              clear td
              go_wp2_with fail
              go_ret
              exact ⟨rfl, TD.out⟩
            · have hz0 : 0 < last.length := by
                rcases Nat.eq_zero_or_pos last.length with h0 | h0
                · exact absurd (List.eq_nil_of_length_eq_zero h0) hz2
                · exact h0
              have hz1 : (0 : Int) < (last.length : Int) := by omega
              have EC := Lib.hid (show chunks s l2 = GG ++ [last] by rw [TFE.out, if_neg hz2])
              clear hz2
              go_wp2_with ((first | (guard_target =~ wpList _ _ _ (Oper.mk (some 179) _ _ _ _ _ :: _) _ _; go_must (refine wpList_boxB _ rfl _ rfl _ _ _ rfl ?_)) | (guard_target =~ wpList _ _ _ (Oper.mk (some 180) _ _ _ _ _ :: _) _ _; go_must (refine wpList_oneB _ rfl _ _ rfl base _ _ _ rfl PA.out.own _ rfl rfl HGLL HBA ?_)) | fail))
              intro gvb wb ob gb hvb
              have PB := PA.out.more (Rows.one OA.out) (fun k hk _ => APX.out k hk.2) ob gb (fun k hk => by
                rcases hvb with e | e
                · rw [e] at hk; exact .inl hk
                · rw [e] at hk; exact .inr (by have := Option.some.inj hk; omega))
              have STB := Lib.hid (STA.out.grown gb HBA (fun k hk => own_block_ge PA.out.own k hk))
              have CHB := CHA.out.trans (Chg.of_grown gb (S := fun k => (Value.slice Ag GG.length cg).ownBlock = some k) (fun k hk _ => hk)) (fun x hx e => by have := LVG.out x e; omega)
              rw [← EC.out] at PB
              obtain ⟨Ah, ch, rfl, hh1, hh2, hh3⟩ := own_formB PB.own
              have HSA := Lib.hid (rows_same _ _ _ _ _ _ _ _ wb (RowsR.of_own PB.own PB.rows) (RN.out.chg CHB (fun k hk _ => NFAR.out k (Or.elim hk (fun h => .inl h) (fun h => .inr h)))) (by omega) (by omega) HCS.out HCS.out)
              rw [decide_eq_true rfl] at HSA
              clear PB ob gb hvb CHB
              go_wp2_with fail
              refine HSA.out.mono ?_
              rintro e wc ⟨rfl, mc, hwc⟩
              have TC := Lib.hid (show Still wb wc from hwc ▸ still_drewN (Still.refl wb) mc)
              clear hwc
              go_wp2_with fail
              refine (LV.out _).mono ?_
              rintro e wd ⟨rfl, td⟩
              have TD := Lib.hid (Still.trans (Still.trans ST.out (Below.trans T2.out (HBS.out ▸ STB.out))) (Still.trans TC.out td))
              clear td
              go_wp2_with fail
              go_ret
              exact ⟨rfl, TD.out⟩
  · have hno : okZ x y z u = false := by cases h : okZ x y z u with | false => rfl | true => exact absurd h hok
    rw [hno] at RCK
    clear hok
    go_enter Try.func4, Try.ntmps4
    go_wp2_with fail
    refine (cnew_no x y z u sd _ hno).mono ?_
    rintro e w2 ⟨rfl, t2⟩
    have T2 := Lib.hid t2
    have HBX := BXH.out w2 t2
    have b0 := HBX.cell 0
    have b1 := HBX.cell 1
    have b2 := HBX.cell 2
    have b3 := HBX.cell 3
    have b4 := HBX.cell 4
    simp only [List.getElem?_toArray, List.getElem?_cons_succ, List.getElem?_cons_zero] at b0 b1 b2 b3 b4
    clear t2 HBX
    go_wp2_with fail
    refine (RCK.out _).mono ?_
    rintro e w3 ⟨rfl, t3⟩
    have T3 := Lib.hid t3
    clear t3 b0 b1 b2 b3 b4
    go_wp2_with fail
    refine (LV.out _).mono ?_
    rintro e w7 ⟨rfl, t7⟩
    have T7 := Lib.hid (Still.trans (Still.trans ST.out T2.out) (Still.trans T3.out t7))
    clear t7
    go_wp2_with fail
    go_ret
    exact ⟨rfl, T7.out⟩
end Go.Proofs.Ytjihnagoebhinaa
