/- The walk of SegsFull: it returns true, and nothing that was there turns. -/
import Derived.Test.YtfneloobfidckaaGreatDoorSf34
import Derived.Test.YtfneloobfidckaaGreatDoorSf36
import Derived.Test.YtfneloobfidckaaGreatDoorSf37
import Derived.Test.YtfneloobfidckaaGreatDoorSf29
import Derived.Test.YtfneloobfidckaaGreatDoorSf27
import Derived.Test.YtfneloobfidckaaGreatDoorSf38
namespace Go.Proofs.YtfneloobfidckaaGreatDoor
open Go.RowKit Go.Maps Go.WideMaps Go.Sort
set_option linter.unusedVariables false
set_option linter.unusedSimpArgs false

theorem D14In.still {W W' : World} {B : Nat} {A : Option Addr} {L : List C14} (h : D14In W B A L) (hB : B ≤ W.heap.size) (s : Still W W') : D14In W' B A L := fun i x hx => by
  obtain ⟨b, o, A1, n, c, A2, n2, c2, e, r⟩ := h i x hx
  exact ⟨b, o, A1, n, c, A2, n2, c2, e, r.still hB s⟩
theorem AB.bytesL_at {M : Me} {S : Lg} {X : Sb} {rm : Int} (h : AB M S X rm) {i : Nat} {p : Nat × List UInt8} (hp : X[i]? = some p) : bytesL M S (p.1 : Int) = (p.2, 0) := by
  have hs : S.segs[i]? = some (p.1, p.2.length) := by rw [h.segs, List.getElem?_map, hp]; rfl
  unfold bytesL
  rw [findL_some h.sok hs rfl]
  exact h.bytes (List.mem_of_getElem? hp)
set_option maxRecDepth 100000 in
set_option maxHeartbeats 12800000 in
theorem segsFull_walk (a0 a1 : Int) (A : Option Addr) (n c : Nat) (L : List C14) (t : Int) (K D : List UInt8) (A1 : Option Addr) (n1 c1 : Nat) (w : World) (hin : Do14Row w A n c L) (e0 : EntIn w t K D A1 n1 c1) (T : SgT w) :
    Calls Tryz.prog 6 #[.int .i64 a0, .int .i64 a1, .slice A n c, .agg (entV t K (.slice A1 n1 c1))] w fun e w' => e = .returned (.bool true) ∧ Still w w' := by
  have KL := Lib.hid e0.key
  have HT := Lib.hid (fun W (s : Still w W) => T.still s)
  obtain ⟨fs, hu⟩ := underEnt
  have HU := Lib.hid hu
  obtain ⟨g1, hg1⟩ : ∃ g1, g1 = w.heap.size := ⟨_, rfl⟩
  obtain ⟨v0, hv0⟩ : ∃ v0, v0 = Value.slice A1 n1 c1 := ⟨_, rfl⟩
  obtain ⟨wA, hwA⟩ : ∃ wA, wA = w.alloc (.cells (entV t K v0) 44) := ⟨_, rfl⟩
  have SA := Lib.hid (show Still w wA by rw [hwA]; exact (Still.refl w).alloc (Nat.le_refl _) _)
  have BA := Lib.hid (show Blk wA g1 44 (entV t K v0) by rw [hwA, hg1]; exact Blk.new _ _ _)
  have V0 := Lib.hid (show ∃ A n c, v0 = Value.slice A n c from ⟨_, _, _, hv0⟩)
  have FEW := Lib.hid (fun W (s : Still w W) => few14_any A n c 30 L W w.heap.size (hin.ins.still (Nat.le_refl _) s) s.size hin.len hin.fit hin.cap (by omega))
  rw [show ((30 : Nat) : Int) = 30 from rfl] at FEW
  have FW1 := Lib.hid (fun gB W (s : Still w W) (hb : EntB W gB t K v0) => few1_any gB t K D A1 n1 c1 300 W w.heap.size e0.key (by rw [← hv0]; exact hb) (e0.reads.still (Nat.le_refl _) s) s.size e0.fit e0.cap e0.nil (by omega) (by omega))
  rw [show ((300 : Nat) : Int) = 300 from rfl] at FW1
  have WI1 := Lib.hid (fun W => within_any a0 128 1000 W (by decide))
  have HWA := Lib.hid hwA
  have HG1 := Lib.hid hg1
  obtain ⟨X, hX⟩ : ∃ X, X = (L.take 30).map cut14 := ⟨_, rfl⟩
  obtain ⟨N, hN⟩ : ∃ N, N = min n 30 := ⟨_, rfl⟩
  have hXN : X.length = N := by rw [hX, List.length_map, List.length_take, hin.len, hN]; omega
  rw [← hX, ← hN] at FEW
  have XN := Lib.hid hXN
  have hN30 : N ≤ 30 := by omega
  rw [← hv0]
  clear hwA hg1 hu T e0 hin hX hN hXN hv0
  go_enter Tryz.func6, Tryz.ntmps6
  go_wp2_with (guard_target =~ wpList _ _ _ (Oper.mk (some 7) (Op.box _ _) _ _ _ _ :: _) _ _; go_must (refine wpList_box_val rfl 44 (.tmp 3) rfl (some 7) rfl (entV t K v0) rfl ?_); rw [← HWA.out, ← HG1.out])
  refine (FEW.out wA SA.out).mono ?_
  rintro e w2 ⟨⟨ov, xs, rfl, o2, has2⟩, s2⟩
  obtain ⟨Ao, co, rfl, hco1, hco2, hco3⟩ := own_formB o2
  have O2 := Lib.hid o2
  have VF := Lib.hid (show 0 < N → ∃ b, Ao = some ⟨b, 0, none⟩ from fun h0 => by
    rcases o2.2 with ⟨_, h⟩ | ⟨q, cap, cur, h, _⟩
    · omega
    · injection h with q1; exact ⟨q, q1⟩)
  have S2A := Lib.hid s2
  have HD := Lib.hid has2
  have S2 := Lib.hid (Still.trans SA.out s2)
  have B2 := Lib.hid (BA.out.still s2)
  obtain ⟨gB, hgB⟩ : ∃ gB, gB = w2.heap.size := ⟨_, rfl⟩
  obtain ⟨wB, hwB⟩ : ∃ wB, wB = w2.alloc (.cells (entV t K v0) 44) := ⟨_, rfl⟩
  have SB := Lib.hid (show Still w2 wB by rw [hwB]; exact (Still.refl w2).alloc (Nat.le_refl _) _)
  have FW2 := Lib.hid (FW1.out gB wB (Still.trans S2.out SB.out) (by rw [hwB, hgB]; exact EntB.new _ _ _ _))
  have HWB := Lib.hid hwB
  have HGB := Lib.hid hgB
  have GLT := Lib.hid (show g1 < wA.heap.size from BA.out.lt)
  clear o2 has2 s2 FEW BA HWA hwB hgB FW1
  go_wp2_with (first
    | (guard_target =~ wpList _ _ _ (Oper.mk (some 26) _ _ _ _ _ :: _) _ _; go_must (refine wpList_load_row rfl 44 (.tmp 7) rfl g1 rfl _ _ _ _ B2.out HU.out rfl (by rw [sizeEnt, entV_size _ _ _ KL.out]) ?_))
    | (guard_target =~ wpList _ _ _ (Oper.mk (some 27) _ _ _ _ _ :: _) _ _; go_must (refine wpList_boxE w2 rfl (.tmp 26) rfl t K KL.out v0 V0.out rfl ?_; rw [← HWB.out, ← HGB.out])))
  refine FW2.out.mono ?_
  rintro e w3 ⟨⟨ov3, v3, rfl, oe, od⟩, s3⟩
  obtain ⟨gF, cF, rfl, hcF1, hcF2, rng⟩ := ent_of_own14 oe
  have RNG := Lib.hid rng
  have V3 := Lib.hid (show v3.oneCell' = true by rcases od.2 with ⟨h, _⟩ | ⟨_, _, _, h, _⟩ <;> (rw [h]; rfl))
  have B3 := Lib.hid (show Blk w3 g1 44 (entV t K v0) from Blk.still (Blk.still B2.out SB.out) s3)
  obtain ⟨w4, hw4⟩ : ∃ w4, w4 = w3.setRow g1 (entV t K v3) := ⟨_, rfl⟩
  have B4 := Lib.hid (show Blk w4 g1 44 (entV t K v3) by rw [hw4]; exact setRow_heap _ _ _ _ _ _ B3.out)
  have C34 : Chg w3 w4 (fun b => b = g1) := by rw [hw4]; exact chg_setRow _ _ _
  have GW : w.heap.size = g1 := HG1.out.symm
  have S4 := Lib.hid (show Still w w4 from C34.still (Still.trans S2.out (Still.trans SB.out s3)) (fun b e => by rw [show b = g1 from e, GW]; exact Nat.le_refl _))
  have S24 := Lib.hid (Still.trans SB.out s3)
  have O4 := Lib.hid (show w4.ownsRow wA.heap.size 47 40 (.slice Ao N co) N xs from C34.own (still_own O2.out S24.out) (fun b hb e => by have := own_block_ge O2.out b hb; have := GLT.out; have e : b = g1 := e; omega))
  have HD4 := Lib.hid (show HasD14 w4 wA.heap.size w.heap.size X xs from (HD.out.keep (Chg.of_still S24.out (fun _ => False)) (fun _ _ h => h) (fun v n l h => still_own h S24.out)).keep C34 (fun b hb e => by have e : b = g1 := e; rw [e, ← GW] at hb; omega) (fun v n l h => C34.own h (fun b hb e => by have := own_block_ge h b hb; have := GLT.out; have e : b = g1 := e; omega)))
  have D4 := Lib.hid (show w4.ownsRow wB.heap.size 5 1 v3 (D.take 300).length (bytesV (D.take 300)) from C34.own od (fun b hb e => by have := own_block_ge od b hb; have := GLT.out; have e : b = g1 := e; have := SB.out.size; have := S2A.out.size; omega))
  have HW4 := Lib.hid hw4
  clear oe od s3 rng hw4 C34 GW FW2
  go_upto_region 3 with (first
    | (guard_target =~ wpList _ _ _ (Oper.mk (some 30) _ _ _ _ _ :: _) _ _; go_must (refine wpList_load_mid rfl 44 (.tmp 29) rfl gF 0 rfl (entL t K v3) _ RNG.out HU.out rfl (by rw [sizeEnt, entL_len0 _ _ _ KL.out]) ?_))
    | (guard_target =~ wpList _ _ _ (Oper.mk none (Op.store _ _ _) _ _ _ _ :: _) _ _; go_must (refine wpList_store_rowTo rfl 44 (.tmp 7) (.tmp 30) rfl rfl g1 (entV t K v3) (by kernel_rfl) (by kernel_rfl) 44 _ B3.out (by rw [sizeEnt, entV_size _ _ _ KL.out]) (by rw [entV_size _ _ _ KL.out, entV_size _ _ _ KL.out]) (entV_one _ _ _ V3.out) ?_)))
  rw [← HW4.out]
  clear HW4 B3 RNG HWB HGB
  go_wp2_with fail
  refine (WI1.out w4).mono ?_
  rintro e w4' ⟨⟨lim, hl0, hl1, rfl⟩, hww⟩
  have hww' := hww.symm
  subst hww'
  clear hww WI1
  have NW := Lib.hid (new_I 1048576 w4' ⟨by decide, by decide⟩)
  go_wp2_with fail
  refine NW.out.mono ?_
  rintro e w5 ⟨g, own, rfl, hg, med, s5⟩
  have OPN := Lib.hid (open_any (k := 0) med (Me.new_good ⟨by decide, by decide⟩) (by omega) (HT.out w5 (Still.trans S4.out s5)) lim rfl (fun p hp => by cases hp))
  have S5 := Lib.hid s5
  clear med s5 hg NW
  go_wp2_with fail
  refine OPN.out.mono ?_
  rintro e w6 ⟨s6, ⟨h, _⟩ | ⟨_, h, _⟩ | ⟨_, _, gl, rfl, lo, lm, _, _, _⟩⟩
  · exact absurd h (by decide)
  · exact absurd ⟨by omega, by omega⟩ h
  have ST0 := Lib.hid (show SAt w4' w6 g gl 1048576 0 from ⟨own, lo, Me.new 1048576, logOf lim [], [], lm, AB.new ⟨by decide, by decide⟩ ⟨by omega, by omega⟩, Me.new_good ⟨by decide, by decide⟩, Still.trans S5.out s6⟩)
  clear lm s6 OPN
  go_wp2_with fail
  go_loopw [13] (fun iv wr => ∃ i : Nat, i ≤ N ∧ iv = .int .i64 i ∧ Hid (SAt w4' wr g gl 1048576 (6 * i))) (fun iv _ => N - (intOf iv).toNat)
  case atStart => exact ⟨0, Nat.zero_le _, rfl, ST0⟩
  case round =>
    clear ST0
    obtain ⟨i, hi, rfl, hh⟩ := hrel
    by_cases hlt : i < N
    · obtain ⟨gr, rfl⟩ := VF.out (by omega)
      obtain ⟨x, hx⟩ : ∃ x, X[i]? = some x := ⟨_, List.getElem?_eq_getElem (by have := XN.out; omega)⟩
      obtain ⟨Ax, nx, cx, A2, n2, c2, hK, rngx, ownx, hnx, _⟩ := HD4.out.at_ O4.out hx hlt
      obtain ⟨own, lo, M, S, Y, lm, ab, gd, st⟩ := hh.out
      have PX := Lib.hid ((d14_parts hK).1 (rangeAt_still rngx st))
      have k0 := PX.out.1
      have EX := Lib.hid PX.out.2.1
      have OX := still_own ownx st
      obtain ⟨hb1, hb2, hb3⟩ := (show nx ≤ cx ∧ cx ≤ 9223372036854775807 ∧ (Ax = none → nx = 0 ∧ cx = 0) from by
        obtain ⟨A', c', e, q1, q2, q3⟩ := own_formB OX
        injection e with e1 e2 e3
        subst e1 e3
        exact ⟨q1, q2, q3⟩)
      have RX := Reads.of_own OX
      have COM := Lib.hid (commit_any (w0 := w4') lm ab.sok gd (by omega) (HT.out _ S4.out) st (Nat.le_refl _))
      have APP := Lib.hid (append_any (w0 := w4') (t := x.t) (K := x.K) (D := x.D) (A := Ax) (n := nx) (c := cx) lm ab.sok gd (by omega) (HT.out _ S4.out) st (Nat.le_refl _) hK RX (Nat.le_refl _) (fun e => (hb3 e).2) (by omega))
      have NC := Lib.hid (fun w' gf (hgf : M.fs gf = none) (l : LLeft wr w' w4'.heap.size g gl own lo (commitL M S gf).2.2.1 (commitL M S gf).2.2.2) => by
        obtain ⟨X', hX'⟩ := ab.any_commit hgf
        exact (SAt.left lm st l hX' (k := 6 * (i + 1)) ((commitL_good lm.med gd ab.sok gf).2.mono (by omega))))
      have NA := Lib.hid (fun w' gf (hgf : M.fs gf = none) (l : LLeft wr w' w4'.heap.size g gl own lo (appendL M S (encE x.t x.K x.D) gf).2.2.1 (appendL M S (encE x.t x.K x.D) gf).2.2.2) => by
        have hel := encE_len (t := x.t) (K := x.K) (D := x.D) hK
        obtain ⟨X', hX'⟩ := ab.any_append hgf (encE x.t x.K x.D) (by omega)
        exact (SAt.left lm st l hX' (k := 6 * (i + 1)) ((appendL_all lm.med gd ab.sok (E := encE x.t x.K x.D) (by omega) gf).2.mono (by omega))))
      have HKX := Lib.hid hK
      have z3 : (0 : Int) ≤ (i : Int) := by omega
      have z4 : (i : Int) < (N : Int) := by omega
      clear hh lm ab gd st rngx ownx OX RX hx hb1 hb2 hb3 hK
      by_cases hk : x.k = 1
      · rw [hk] at k0
        go_wp2_with fail
        refine COM.out.mono ?_
        rintro e w7 ⟨gf, hgf, rfl, l7⟩
        have R7 := Lib.hid (NC.out w7 gf hgf l7)
        clear l7 hgf COM APP NC NA
        go_wp2_with fail
        go_roundw
        case rel => exact ⟨i + 1, by omega, by go_num, R7.out⟩
        case measure => simp [intOf]; omega
      · have bk : (x.k == 1) = false := by simpa using hk
        go_wp2_with (guard_target =~ wpList _ _ _ (Oper.mk (some 64) _ _ _ _ _ :: _) _ _; go_must (refine wpList_load_mid rfl 44 (.tmp 63) rfl gr (i * 40 + 1) (by kernel_rfl) (entL x.t x.K (.slice Ax nx cx)) _ EX.out HU.out rfl (by rw [sizeEnt, entL_len0 _ _ _ HKX.out]) ?_))
        refine APP.out.mono ?_
        rintro e w7 ⟨gf, hgf, rfl, l7⟩
        have R7 := Lib.hid (NA.out w7 gf hgf l7)
        clear l7 hgf COM APP NC NA
        go_wp2_with fail
        go_roundw
        case rel => exact ⟨i + 1, by omega, by go_num, R7.out⟩
        case measure => simp [intOf]; omega
    · obtain rfl : i = N := by omega
      obtain ⟨own, lo, M, S, Y, lm, ab, gd, st⟩ := hh.out
      obtain ⟨U, hU⟩ : ∃ U, U = M.used := ⟨_, rfl⟩
      have hUb : U ≤ 1048576 := by
        have := ab.fits.used
        rw [← used_sumN, ← hU] at this
        omega
      have US := Lib.hid (fun W (s : Still wr W) => used_M (lm.med.still s) gd.ok (by have := gd.cnt; omega))
      rw [if_neg (by rw [ab.off]; decide), ← hU] at US
      have WI2 := Lib.hid (fun W => within_any a1 (U : Int) ((U : Int) + 40) W (by omega))
      have v40 : wrap64 ((U : Int) + 40) = (U : Int) + 40 := by unfold wrap64; omega
      have SR := Lib.hid (fun W y (s : Still wr W) => setRoom_M y (lm.med.still s))
      have HLM := Lib.hid (And.intro lm (And.intro ab (And.intro gd st)))
      have HUU := Lib.hid hU
      clear hh lm ab gd st hU
      go_wp2_with fail
      refine (US.out wr (Still.refl _)).mono ?_
      rintro e w7 ⟨rfl, s7⟩
      have S7 := Lib.hid s7
      clear s7
      go_wp2_with fail
      refine (US.out w7 S7.out).mono ?_
      rintro e w8 ⟨rfl, s8⟩
      have S8 := Lib.hid (Still.trans S7.out s8)
      clear s8 US
      go_wp2_with fail
      refine (WI2.out w8).mono ?_
      rintro e w8' ⟨⟨y, hy0, hy1, rfl⟩, hww⟩
      have hww' := hww.symm
      subst hww'
      clear hww WI2
      have SR2 := Lib.hid (SR.out w8' y S8.out)
      have hop : opSetRoom M y = (0, { M with room := y }) := by
        unfold opSetRoom
        rw [if_neg (by rw [HLM.out.2.1.off]; decide), if_neg (by unfold roomOK; simp; omega)]
      rw [hop] at SR2
      obtain ⟨M2, hM2⟩ : ∃ M2 : Me, M2 = { M with room := y } := ⟨_, rfl⟩
      rw [← hM2] at SR2
      have AB2 := Lib.hid (show AB M2 S Y y by
        have ab := HLM.out.2.1
        have g2 := opSetRoom_good HLM.out.2.2.1 y
        rw [hop, ← hM2] at g2
        refine ⟨g2.ok, ab.sok, by rw [hM2]; exact ab.off, by rw [hM2]; exact ab.left, ab.segs, by rw [hM2]; exact ab.file, by rw [hM2]; exact ab.only, ?_⟩
        rw [hM2]
        refine ⟨rfl, ab.fits.once, ?_⟩
        show (sumN M.fs M.now : Int) ≤ y
        rw [← used_sumN, ← HUU.out]
        exact hy0)
      have GD2 := Lib.hid (show M2.good (6 * i + 1) by have g2 := opSetRoom_good HLM.out.2.2.1 y; rw [hop, ← hM2] at g2; exact g2)
      have U2 := Lib.hid (show M2.used = U by rw [HUU.out, hM2]; rfl)
      clear hop hM2 SR
      go_wp2_with fail
      refine SR2.out.mono ?_
      rintro e w9 ⟨rfl, l9⟩
      have L9 := LLeft.med (HLM.out.1.still S8.out) l9
      have S9 := Lib.hid (LLeft.low (HLM.out.1.still S8.out) L9 (Still.trans HLM.out.2.2.2 S8.out) (Nat.le_refl _))
      obtain ⟨_, own9, lo9, _, lm9⟩ := L9
      have LM9 := Lib.hid lm9
      have HYB := Lib.hid (show y ≤ 1048616 by omega)
      clear l9 lm9 SR2 HLM v40 hy1
      obtain ⟨sv9, hl9⟩ := LM9.out.log
      have SEG := Lib.hid (lsegments_any hl9 AB2.out.sok)
      have LST := Lib.hid (fun W (s : Still w9 W) => list_M (LM9.out.med.still s) GD2.out.ok (by have := GD2.out.cnt; omega))
      rw [show M2.names = M2.now from by unfold Me.names; rw [if_neg (by rw [AB2.out.off]; decide)]] at LST
      have FRS := Lib.hid (fun W (s : Still w9 W) => lfresh_any (hl9.keep (Chg.of_still s (fun _ => False)) (fun _ h => h.elim)))
      obtain ⟨q, hq⟩ : ∃ q, q = S.segs.length := ⟨_, rfl⟩
      have hYq : Y.length = q := by rw [hq, AB2.out.segs, List.length_map]
      have hq6 : q ≤ 1048576 := by rw [hq]; exact AB2.out.sok.few
      have hnum : numV S.segs = (Y.map fun p => (p.1 : Int)).map (Value.int .i64) := by
        unfold numV
        rw [AB2.out.segs, List.map_map, List.map_map]
        rfl
      rw [← hq, hnum] at SEG
      have YQ := Lib.hid hYq
      obtain ⟨nn, hnn⟩ : ∃ nn, nn = M2.now.length := ⟨_, rfl⟩
      rw [← hnn] at LST
      have HNN := Lib.hid (show nn ≤ 1000000 by rw [hnn]; have := now_length GD2.out.ok; have := GD2.out.cnt; omega)
      have HNE := Lib.hid hnn
      clear hl9 hq hYq hnum hnn
      go_wp2_with fail
      refine SEG.out.mono ?_
      rintro e w10 ⟨⟨vs, rfl, os⟩, s10⟩
      obtain ⟨As, cs, rfl, hs1, hs2, hs3⟩ := own_formB os
      have RS := Lib.hid (ReadsI.of_ownS os)
      have VS := Lib.hid (show 0 < q → ∃ b, As = some ⟨b, 0, none⟩ ∧ ∀ (k : Nat) (p : Nat × List UInt8), Y[k]? = some p → w10.cell? ⟨b, k, none⟩ = some (.int .i64 (p.1 : Int)) from fun h0 => by
        rcases os.2 with ⟨_, h⟩ | ⟨b, cap, cur, h, _⟩
        · omega
        · injection h with q1
          subst q1
          refine ⟨b, rfl, fun k p hp => ?_⟩
          have hk := (List.getElem?_eq_some_iff.1 hp).1
          rw [os.cellAt k (by have := YQ.out; omega), List.getElem?_map, List.getElem?_map, hp]
          rfl)
      have S10 := Lib.hid s10
      have OS10 := Lib.hid os
      clear os s10 SEG
      go_wp2_with fail
      refine (LST.out w10 S10.out).mono ?_
      rintro e w11 ⟨⟨vn, rfl, on⟩, s11⟩
      obtain ⟨An, cn, rfl, hn1, hn2, hn3⟩ := own_formB on
      have RN := Lib.hid (NamesR.of_own on)
      have S11 := Lib.hid (Still.trans S10.out s11)
      have T11 := Lib.hid s11
      have ON11 := Lib.hid on
      clear on s11
      go_wp2_with fail
      refine (FRS.out w11 S11.out).mono ?_
      rintro e w12 ⟨rfl, hww⟩
      have hww' := hww.symm
      subst hww'
      clear hww FRS
      obtain ⟨fr, hfr⟩ : ∃ fr, fr = S.fresh := ⟨_, rfl⟩
      rw [← hfr]
      have HFR := Lib.hid hfr
      clear hfr
      go_wp2_with fail
      have G0 := Lib.hid (show Grow w11 w11 (.slice none 0 0) ((Y.map (·.2)).take 0) [] from Grow.nil w11)
      go_loopw [17, 18] (fun bv iv wr => ∃ (k : Nat) (v : Value) (xs : List Value), v = bv ∧ k ≤ q ∧ iv = .int .i64 k ∧ Hid (Grow w11 wr v ((Y.map (·.2)).take k) xs)) (fun _ iv _ => q - (intOf iv).toNat)
      case atStart => exact ⟨0, _, [], rfl, Nat.zero_le _, rfl, G0⟩
      case round =>
        clear G0
        obtain ⟨k, v, xs', rfl, hk, rfl, hh⟩ := hrel
        by_cases hlt : k < q
        · obtain ⟨bs, rfl, hc⟩ := VS.out (by omega)
          obtain ⟨p, hp⟩ : ∃ p, Y[k]? = some p := ⟨_, List.getElem?_eq_getElem (by have := YQ.out; omega)⟩
          have d0 := rangeAt_still (show w10.rangeAt bs k [.int .i64 (p.1 : Int)] from fun j u hj => by
            match j, hj with
            | 0, hj => simp only [List.getElem?_cons_zero, Option.some.injEq] at hj; subst hj; exact hc k p hp
            | j + 1, hj => simp at hj) (Still.trans T11.out hh.out.st)
          have d1 := d0 0 _ rfl
          rw [Nat.add_zero] at d1
          have BY := Lib.hid (lbytes_any (w0 := w9) (LM9.out.still (Still.trans S11.out hh.out.st)) AB2.out.sok GD2.out (HT.out _ (Still.trans S4.out S9.out)) (Still.trans S11.out hh.out.st) (p.1 : Int))
          have hbl : bytesL M2 S (p.1 : Int) = (p.2, 0) := AB2.out.bytesL_at hp
          rw [hbl] at BY
          have TKE := Lib.hid (show (Y.map (·.2)).take (k + 1) = (Y.map (·.2)).take k ++ [p.2] by
            rw [List.take_add_one, List.getElem?_map, hp]
            rfl)
          have HTL := Lib.hid (show ((Y.map (·.2)).take k).length = k by rw [List.length_take, List.length_map, YQ.out]; omega)
          have z3 : (0 : Int) ≤ (k : Int) := by omega
          have z4 : (k : Int) < (q : Int) := by omega
          obtain ⟨pn, hpn⟩ : ∃ pn, pn = p.1 := ⟨_, rfl⟩
          obtain ⟨pb, hpb⟩ : ∃ pb, pb = p.2 := ⟨_, rfl⟩
          rw [← hpn] at d1 BY
          rw [← hpb] at BY TKE
          clear hc d0 hbl hp hpn hpb
          go_wp2_with fail
          refine BY.out.mono ?_
          rintro e w13 ⟨⟨bv, rfl, ob⟩, t3⟩
          obtain ⟨Ab, cb, rfl, hb1, hb2, hb3⟩ := own_formB ob
          have R3 := Lib.hid ((RowP.of_own ob).mono (Q := fun k => wr.heap.size ≤ k) (fun k hk _ => hk.1))
          have T3 := Lib.hid t3
          have G3 := Lib.hid (hh.out.still t3)
          have OG3 := G3.out.own
          rw [HTL.out] at OG3
          have OGH := Lib.hid OG3
          have HD5 : k < 1048576 := by omega
          clear ob t3 BY d1 OG3
          go_wp2_with ((first | (guard_target =~ wpList _ _ _ (Oper.mk (some 99) _ _ _ _ _ :: _) _ _; go_must (refine wpList_boxB _ rfl _ rfl _ _ _ rfl ?_)) | (guard_target =~ wpList _ _ _ (Oper.mk (some 100) _ _ _ _ _ :: _) _ _; go_must (refine wpList_oneB _ rfl _ _ rfl w11.heap.size _ _ _ rfl OGH.out _ rfl rfl HD5 G3.out.st.size ?_)) | fail))
          intro v' w14 o4 g4 hv4
          have G4 := Lib.hid (hh.out.push T3.out R3.out (by rw [HTL.out]; exact o4) g4 hv4)
          rw [← TKE.out] at G4
          clear o4 g4 hv4 OGH G3
          go_wp2_with fail
          go_roundw
          case rel => exact ⟨k + 1, v', _, rfl, by omega, by go_num, G4⟩
          case measure => simp [intOf]; omega
        · obtain rfl : k = q := by omega
          have hg := hh.out
          rw [List.take_of_length_le (show (Y.map (·.2)).length ≤ k by rw [List.length_map, YQ.out]; exact Nat.le_refl _)] at hg
          have S15 := Lib.hid (Still.trans S11.out hg.st)
          have HG := Lib.hid hg
          obtain ⟨Av, cv, hv, hv1, hv2, hv3⟩ := own_formB hg.own
          rw [List.length_map, YQ.out] at hv
          subst hv
          have LM15 := Lib.hid (LM9.out.still S15.out)
          obtain ⟨A3, c3, hv3e, hd1, hd2, hd3⟩ := own_formB D4.out
          have HKK := KL.out
          have S4W := Lib.hid (Still.trans S9.out S15.out)
          have APP := Lib.hid (append_any (w0 := w4') (t := t) (K := K) (D := D.take 300) (A := A3) (n := (D.take 300).length) (c := c3) LM15.out AB2.out.sok GD2.out (by omega) (HT.out _ S4.out) S4W.out (Nat.le_refl _) HKK (by have := still_own D4.out S4W.out; rw [hv3e] at this; exact Reads.of_own this) (Nat.le_refl _) (fun e => (hd3 e).2) (by rw [List.length_take]; omega))
          have SZE := Lib.hid (fun W => size_any t K A3 (D.take 300).length c3 W HKK (by rw [List.length_take]; omega))
          rw [← hv3e] at APP SZE
          have HEL := Lib.hid (encE_len (t := t) (K := K) (D := D.take 300) HKK)
          have B15 := Lib.hid (B4.out.still S4W.out)
          clear hg hh hv3e hd1 hd2 hd3 HKK
          go_wp2_with (guard_target =~ wpList _ _ _ (Oper.mk (some 103) _ _ _ _ _ :: _) _ _; go_must (refine wpList_load_row rfl 44 (.tmp 7) rfl g1 rfl _ _ _ _ B15.out HU.out rfl (by rw [sizeEnt, entV_size _ _ _ KL.out]) ?_))
          refine APP.out.mono ?_
          rintro e w16 ⟨gf, hgf, rfl, l16⟩
          have AP := AB2.out.append hgf (encE t K (D.take 300)) (by have := HEL.out; omega)
          have AG := (appendL_all (E := encE t K (D.take 300)) LM15.out.med GD2.out AB2.out.sok (by have := HEL.out; omega) gf).2
          obtain ⟨R, hR⟩ : ∃ R, R = appendL M2 S (encE t K (D.take 300)) gf := ⟨_, rfl⟩
          rw [← hR] at l16 AP AG ⊢
          obtain ⟨pl, er, M3, S3⟩ := R
          dsimp only at l16 AP AG ⊢
          obtain ⟨pv, hpv⟩ : ∃ pv, pv = plV pl := ⟨_, rfl⟩
          rw [← hpv]
          have S16 := Lib.hid (LLeft.low LM15.out l16 S4W.out (Nat.le_refl _))
          have c16 := l16.1
          have hlow := LM15.out
          obtain ⟨_, own16, lo16, _, lm16⟩ := l16
          have LM16 := Lib.hid lm16
          have AG3 := Lib.hid AG
          have LV := Lib.hid (fun W (s : Still w16 W) => sgLives W (HT.out W (Still.trans S4.out (Still.trans S16.out s))))
          have OUT := Lib.hid (fun b (hb : w9.heap.size ≤ b) (hh : own9 b ≠ none ∨ lo9 b ≠ none) => show False from by
            have := LM9.out.above hb
            rcases hh with hh | hh
            · exact hh this.1
            · exact hh this.2)
          have O16 := Lib.hid (show w16.ownsRow w9.heap.size 3 1 (.slice As k cs) k ((Y.map fun p => (p.1 : Int)).map (Value.int .i64)) from c16.own (still_own OS10.out (Still.trans T11.out HG.out.st)) (fun b hb hh => OUT.out b (own_block_ge OS10.out b hb) hh))
          have N16 := Lib.hid (show w16.ownsRow w10.heap.size 9 1 (.slice An nn cn) nn (namesV M2.now) from c16.own (still_own ON11.out HG.out.st) (fun b hb hh => OUT.out b (Nat.le_trans S10.out.size (own_block_ge ON11.out b hb)) hh))
          have G16 := Lib.hid (show RowsR w16 (fun b => w11.heap.size ≤ b) (fun b => w11.heap.size ≤ b) Av k cv (Y.map (·.2)) from by
            have h1 := HG.out.own
            rw [List.length_map, YQ.out] at h1
            have h2 := (RowsR.of_own h1 HG.out.rows).mono (O' := fun b => w11.heap.size ≤ b) (Q := fun b => w11.heap.size ≤ b) (fun b hb _ => hb.1) (fun b hb _ => hb.1)
            exact h2.chg c16 (fun b hb _ hh => OUT.out b (by have := S11.out.size; rcases hb with hb | hb <;> (have hb : w11.heap.size ≤ b := hb; omega)) hh))
          have SFIN := Lib.hid (fun W (s : Still w16 W) => show Still w W from Still.trans S4.out (Still.trans S16.out s))
          clear hR hpv lm16 AG APP hgf c16 hlow B15 RS RN VS HG OUT
          by_cases z0 : er = 0
          · subst z0
            clear AP
            go_wp2_with fail
            refine (LV.out w16 (Still.refl _)).mono ?_
            rintro e w17 ⟨rfl, s17⟩
            have S17 := Lib.hid (SFIN.out _ s17)
            clear s17
            go_wp2_with fail
            go_ret
            exact ⟨rfl, S17.out⟩
          have AP2 : AB.Same M2 M3 S S3 Y y ∧ (er = 11 → y < ((szE t K (D.take 300).length : Nat) : Int) + 8 + (U : Int)) := by
            rcases AP with ⟨_, sm, f11, fe, _⟩ | ⟨h0, _⟩
            · refine ⟨sm, fun h11 => ?_⟩
              by_cases hE : (encE t K (D.take 300)).1 = 0
              · have := f11 h11 hE
                have hck : ckE t K (D.take 300).length = 0 := by
                  unfold encE at hE
                  split at hE
                  · rename_i h; exact absurd hE h
                  · rename_i h; simpa using h
                have e2 : (encE t K (D.take 300)).2 = bytE t K (D.take 300) := by
                  unfold encE
                  rw [if_neg (by rw [hck]; decide)]
                have hz := (szE_len (t := t) (D := D.take 300) KL.out hck).1
                rw [e2, hz, U2.out] at this
                exact this
              · exfalso
                have h1 := fe hE
                rw [h11] at h1
                unfold encE at h1
                split at h1
                · rename_i h
                  have h1 : (11 : Int) = ckE t K (D.take 300).length := h1
                  unfold ckE at h1
                  repeat' split at h1
                  all_goals exact absurd h1 (by decide)
                · exact absurd h1 (show ¬ ((11 : Int) = 0) by decide)
            · exact absurd h0 z0
          have SM := Lib.hid AP2.1
          have F11 := Lib.hid AP2.2
          clear AP AP2
          have LSG : LogI w16 w4'.heap.size lo16 g gl S3 (Classical.choose LM16.out.log) := Classical.choose_spec LM16.out.log
          have SEG3 := Lib.hid (fun W (s : Still w16 W) => lsegments_any (LSG.keep (Chg.of_still s (fun _ => False)) (fun _ h => h.elim)) SM.out.ab.sok)
          have FRS3 := Lib.hid (fun W (s : Still w16 W) => lfresh_any (LSG.keep (Chg.of_still s (fun _ => False)) (fun _ h => h.elim)))
          rw [SM.out.fresh, ← HFR.out] at FRS3
          have hq3 : S3.segs.length = k := by rw [SM.out.ab.segs, List.length_map]; exact YQ.out
          have hnum3 : numV S3.segs = (Y.map fun p => (p.1 : Int)).map (Value.int .i64) := by
            unfold numV
            rw [SM.out.ab.segs, List.map_map, List.map_map]
            rfl
          rw [hq3, hnum3] at SEG3
          have LST3 := Lib.hid (fun W (s : Still w16 W) => list_M (LM16.out.med.still s) AG3.out.ok (by have := AG3.out.cnt; omega))
          rw [show M3.names = M2.now from by unfold Me.names; rw [if_neg (by rw [SM.out.ab.off]; decide)]; exact SM.out.now, ← HNE.out] at LST3
          have ROOM := Lib.hid (fun W (s : Still w16 W) => room_M (LM16.out.med.still s))
          rw [SM.out.ab.fits.room] at ROOM
          have US3 := Lib.hid (fun W (s : Still w16 W) => used_M (LM16.out.med.still s) AG3.out.ok (by have := AG3.out.cnt; omega))
          rw [if_neg (by rw [SM.out.ab.off]; decide), SM.out.used, U2.out] at US3
          have B16 := Lib.hid (show Blk w16 g1 44 (entV t K v3) from B4.out.still S16.out)
          clear LSG hq3 hnum3
          have bz : (er == 0) = false := by simpa using z0
          go_upto_if 111 with fail
          go_cut [12] (fun ev wx => ev = .int .i64 er ∧ Hid (Still w16 wx))
          case first =>
            by_cases h11 : er = 11
            · have hf := F11.out h11
              obtain ⟨zz, hzz⟩ : ∃ zz, zz = szE t K (D.take 300).length := ⟨_, rfl⟩
              rw [← hzz] at hf SZE
              have b11 : (er == 11) = true := by simpa using h11
              have hzb : zz ≤ 16425 := by
                rw [hzz]
                unfold szE
                split
                · omega
                · split
                  · omega
                  · rw [List.length_take]; omega
              have v8 : wrap64 ((zz : Int) + 8) = (zz : Int) + 8 := by unfold wrap64; omega
              have HF := Lib.hid (And.intro hf (And.intro hzb (And.intro hy0 hUb)))
              clear hzz F11 h11 hf hzb hy0 hUb
              go_wp2_with (guard_target =~ wpList _ _ _ (Oper.mk (some 112) _ _ _ _ _ :: _) _ _; go_must (refine wpList_load_row rfl 44 (.tmp 7) rfl g1 rfl _ _ _ _ B16.out HU.out rfl (by rw [sizeEnt, entV_size _ _ _ KL.out]) ?_))
              refine (SZE.out w16).mono ?_
              rintro e w17 ⟨rfl, s17⟩
              have S17 := Lib.hid s17
              clear s17
              go_wp2_with fail
              refine (ROOM.out w17 S17.out).mono ?_
              rintro e w17' ⟨rfl, hww⟩
              have hww' := hww.symm
              subst hww'
              clear hww
              go_wp2_with fail
              refine (US3.out w17' S17.out).mono ?_
              rintro e w18 ⟨rfl, s18⟩
              have S18 := Lib.hid (Still.trans S17.out s18)
              clear s18
              have vs : wrap64 (y - (U : Int)) = y - (U : Int) := by have := HF.out; have := HYB.out; unfold wrap64; omega
              have hle : ¬ ((zz : Int) + 8 ≤ y - (U : Int)) := by have := HF.out; omega
              go_wp2_with fail
              refine (FRS3.out w18 S18.out).mono ?_
              rintro e w18' ⟨rfl, hww⟩
              subst hww
              go_wp2_with fail
              go_meet
              exact ⟨rfl, Lib.hid S18.out⟩
            · have b11 : (er == 11) = false := by simpa using h11
              go_wp2_with fail
              go_meet
              exact ⟨rfl, Lib.hid (Still.refl _)⟩
          case rest =>
            obtain ⟨rfl, hsc⟩ := hcut
            have SC := Lib.hid hsc.out
            clear hsc ROOM US3 SZE FRS3 F11 B16
            go_wp2_with fail
            go_loopw [21] (fun iv wr => ∃ j : Nat, j ≤ k ∧ iv = .int .i64 j ∧ Hid (Still w16 wr)) (fun iv _ => k - (intOf iv).toNat)
            case atStart => exact ⟨0, Nat.zero_le _, rfl, SC⟩
            case round =>
              obtain ⟨j, hj, rfl, hs⟩ := hrel
              by_cases hlt2 : j < k
              · obtain ⟨p, hp⟩ : ∃ p, Y[j]? = some p := ⟨_, List.getElem?_eq_getElem (by have := YQ.out; omega)⟩
                obtain ⟨bs, rfl⟩ : ∃ b, As = some ⟨b, 0, none⟩ := by
                  rcases O16.out.2 with ⟨_, h⟩ | ⟨b, cap, cur, h, _⟩
                  · omega
                  · injection h with q1
                    exact ⟨b, q1⟩
                have d1 : wr.cell? ⟨bs, j, none⟩ = some (.int .i64 (p.1 : Int)) := by
                  rw [(still_own O16.out hs.out).cellAt j (by omega), List.getElem?_map, List.getElem?_map, hp]
                  rfl
                obtain ⟨br, orr, rfl, _, _, hcr⟩ := (G16.out.still hs.out).at_ (by omega)
                obtain ⟨A', n', c', d2, rp⟩ := hcr j hlt2
                have hgd : (Y.map (·.2)).getD j [] = p.2 := by
                  rw [List.getD, List.getElem?_map, hp]
                  rfl
                rw [hgd] at rp
                have BY := Lib.hid (lbytes_any (w0 := w16) (LM16.out.still hs.out) SM.out.ab.sok AG3.out (HT.out _ (Still.trans S4.out S16.out)) hs.out (p.1 : Int))
                have hbl : bytesL M3 S3 (p.1 : Int) = (p.2, 0) := SM.out.ab.bytesL_at hp
                rw [hbl] at BY
                have hpl := (SM.out.ab.num (List.mem_of_getElem? hp)).2
                have z3 : (0 : Int) ≤ (j : Int) := by omega
                have z4 : (j : Int) < (k : Int) := by omega
                obtain ⟨pn, hpn⟩ : ∃ pn, pn = p.1 := ⟨_, rfl⟩
                obtain ⟨pb, hpb⟩ : ∃ pb, pb = p.2 := ⟨_, rfl⟩
                rw [← hpn] at d1 BY
                rw [← hpb] at BY rp hpl
                have RP := Lib.hid rp
                have HPL := Lib.hid hpl
                have D2 := Lib.hid (fun W (s : Still wr W) => rangeAt_still (show wr.rangeAt br (orr + j) [.slice A' n' c'] from fun x u hx => by
                  match x, hx with
                  | 0, hx => simp only [List.getElem?_cons_zero, Option.some.injEq] at hx; subst hx; exact d2
                  | x + 1, hx => simp at hx) s 0 _ rfl)
                have HS := Lib.hid hs.out
                clear hp hgd hbl hpn hpb hcr rp hpl d2 hs
                go_wp2_with fail
                refine BY.out.mono ?_
                rintro e w20 ⟨⟨bv, rfl, ob⟩, s20⟩
                obtain ⟨Ab, cb, rfl, hb1, hb2, hb3⟩ := own_formB ob
                have d3 := D2.out w20 s20
                rw [Nat.add_zero] at d3
                have SAME := Lib.hid (same_any Ab A' pb.length n' cb c' pb pb w20 _ _ (Reads.of_own ob) (RP.out.still s20).reads (by have := HPL.out; omega) (by have := HPL.out; have := RP.out.len; omega))
                have S20 := Lib.hid (Still.trans HS.out s20)
                rw [decide_eq_true rfl] at SAME
                clear ob s20 d1 BY D2
                go_wp2_with fail
                refine SAME.out.mono ?_
                rintro e w21 ⟨rfl, s21⟩
                have S21 := Lib.hid (Still.trans S20.out s21)
                clear s21 d3
                go_wp2_with fail
                go_roundw
                case rel => exact ⟨j + 1, by omega, by go_num, S21⟩
                case measure => simp [intOf]; omega
              · obtain rfl : j = k := by omega
                have HS := Lib.hid hs.out
                clear hs
                go_wp2_with fail
                refine (SEG3.out _ HS.out).mono ?_
                rintro e w20 ⟨⟨v3s, rfl, o3s⟩, s20⟩
                obtain ⟨A3s, c3s, rfl, _, _, _⟩ := own_formB o3s
                have S20 := Lib.hid (Still.trans HS.out s20)
                have SI := Lib.hid (ints_same A3s As j c3s cs _ _ _ w20 (ReadsI.of_ownS o3s) (ReadsI.of_ownS (still_own O16.out S20.out)) (by omega))
                clear o3s s20
                go_wp2_with fail
                refine SI.out.mono ?_
                rintro e w21 ⟨rfl, mm, hw21⟩
                have S21 := Lib.hid (show Still w16 w21 by rw [hw21]; exact Still.trans S20.out (still_drewN (Still.refl _) mm))
                clear hw21 SI
                go_wp2_with fail
                refine (LST3.out _ S21.out).mono ?_
                rintro e w22 ⟨⟨v3n, rfl, o3n⟩, s22⟩
                obtain ⟨A3n, c3n, rfl, _, _, _⟩ := own_formB o3n
                have S22 := Lib.hid (Still.trans S21.out s22)
                have SN := Lib.hid (names_same A3n An nn c3n cn M2.now w22 (NamesR.of_own o3n) (NamesR.of_own (still_own N16.out S22.out)) (by have := HNN.out; omega))
                clear o3n s22
                go_wp2_with fail
                refine SN.out.mono ?_
                rintro e w23 ⟨rfl, mm, hw23⟩
                have S23 := Lib.hid (show Still w16 w23 by rw [hw23]; exact Still.trans S22.out (still_drewN (Still.refl _) mm))
                clear hw23 SN
                go_wp2_with fail
                refine (LV.out _ S23.out).mono ?_
                rintro e w24 ⟨rfl, s24⟩
                have S24' := Lib.hid (SFIN.out _ (Still.trans S23.out s24))
                clear s24
                go_wp2_with fail
                go_ret
                exact ⟨rfl, S24'.out⟩
end Go.Proofs.YtfneloobfidckaaGreatDoor
