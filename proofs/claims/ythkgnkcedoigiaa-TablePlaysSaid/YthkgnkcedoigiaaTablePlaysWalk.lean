/- The walk of TablePlays: it returns true, and nothing that was there turns. -/
import Derived.Test.YthkgnkcedoigiaaTbPlX
import Derived.Test.YthkgnkcedoigiaaTbAlk
import Derived.Deep.RegionHeld3
namespace Go.Proofs.Ythkgnkcedoigiaa
open Go.RowKit
set_option linter.unusedVariables false
set_option linter.unusedSimpArgs false

attribute [local irreducible] Go.wpQuiet
theorem PutP.drew {w w1 : World} {g b cp dd : Nat} {L : List KV} {k : List UInt8} {v : List Int} (h : PutP w w1 g b L cp dd k v) : PutP w w1.drew g b L cp dd k v := by
  obtain ⟨b', cp', dd', t, pr, hb', c⟩ := h
  exact ⟨b', cp', dd', t.drew, pr, hb', c.trans (Chg.drew w1 _) (fun _ _ h => h)⟩
theorem alike_px {w W : World} {g gx j : Nat} {l : List Dq} (p : PX w W g gx l j) (hj : j ≤ 150) :
    Calls Try.prog 19 #[.pointer (some ⟨g, 0, none⟩), .pointer (some ⟨gx, 0, none⟩)] W fun e w' => e = .returned (.bool true) ∧ Still W w' := by
  obtain ⟨⟨b, v, cp, dd, t⟩, s⟩ := p
  exact alike_any t.tb t.rt (by have := playX_len l j; omega)
theorem RT.new (w : World) : RT (w.alloc (.cells #[.slice none 0 0, .int .i64 8, .int .i64 0] 29)) w.heap.size (.slice none 0 0) [] 8 0 :=
  ⟨Blk.new w _ _, World.ownsRow_nil _ _ _ _, fun _ h => by cases h⟩
set_option maxRecDepth 100000 in
set_option maxHeartbeats 6400000 in
theorem tablePlays_walk (a0 : Option Addr) (len0 cap0 : Nat) (L0 : List Dq) (w : World) (w0 : DqRow w a0 len0 cap0 L0) :
    Calls Try.prog 3 #[.slice a0 len0 cap0] w fun e w' => e = .returned (.bool true) ∧ Below w.heap.size w w' := by
  obtain ⟨nn, hnn⟩ : ∃ nn, nn = min len0 150 := ⟨_, rfl⟩
  have hlen := w0.len
  have FW := Lib.hid (few_any a0 len0 cap0 150)
  have FEW := Lib.hid (fun W => FW.out W w0.fit w0.cap (by omega))
  rw [← hnn] at FEW
  obtain ⟨l, hl⟩ : ∃ l, l = L0.take 150 := ⟨_, rfl⟩
  have AT := Lib.hid (fun i (hi : i < nn) => show ∃ x, l[i]? = some x ∧ ∃ b o, a0 = some ⟨b, o, none⟩ ∧ DqAt w w.heap.size b (o + i * 34) x from by
    have h1 : i < L0.length := by omega
    refine ⟨L0[i], ?_, w0.at_ i _ (List.getElem?_eq_getElem h1)⟩
    rw [hl, List.getElem?_take, if_pos (by omega), List.getElem?_eq_getElem h1])
  have LI := Lib.hid (fun (q : World) => lives_any q)
  have NW := Lib.hid (tnew_any w)
  have HU := Lib.hid under32
  have d8 : (nn : Int) ≤ 150 := by omega
  have d9 : (nn : Int) ≤ (cap0 : Int) := by have := w0.fit; omega
  have HN := Lib.hid (show nn ≤ 150 by omega)
  clear hnn hlen FW w0 hl
  go_enter Try.func3, Try.ntmps3
  go_upto_region 3 with (first
    | (go_at_call 11; refine (FEW.out _).mono ?_; rintro e w2 ⟨rfl, rfl⟩)
    | (go_at_call 12; refine NW.out.mono ?_; rintro e w1 ⟨g, b, rfl, t1, s1, hg, hb⟩; have T1 := Lib.hid t1; have S1 := Lib.hid s1; have GB := Lib.hid (And.intro hg hb); clear t1 s1 hg hb))
  obtain ⟨w2, hw2⟩ : ∃ w2, w2 = w1.alloc (.cells #[.slice none 0 0, .int .i64 8, .int .i64 0] 29) := ⟨_, rfl⟩
  obtain ⟨gx, hgx⟩ : ∃ gx, gx = w1.heap.size := ⟨_, rfl⟩
  have P0 := Lib.hid (show PX w w2 g gx l 0 from by
    have s2 : Still w1 w2 := by rw [hw2]; exact (Still.refl w1).alloc (Nat.le_refl _) _
    have r := RT.new w1
    rw [← hw2, ← hgx] at r
    have h1 := T1.out.glt
    have h2 := T1.out.blt
    refine ⟨⟨b, .slice none 0 0, 8, 0, ⟨?_, ?_, GB.out.1, GB.out.2, ?_, ?_, ?_, fun q hq => by cases hq⟩⟩, Still.trans S1.out s2⟩
    · simpa [playX] using T1.out.still s2
    · simpa [playX] using r
    · rw [hgx]; exact S1.out.size
    · omega
    · omega)
  rw [← hw2, ← hgx]
  clear hw2 hgx
  go_wp2_with fail
  go_loopw [5] (fun iv wr => ∃ i : Nat, i ≤ nn ∧ iv = .int .i64 i ∧ Hid (PX w wr g gx l i)) (fun iv _ => nn - (intOf iv).toNat)
  case atStart => exact ⟨0, by omega, rfl, P0⟩
  case round =>
    obtain ⟨i, hi, rfl, PW⟩ := hrel
    by_cases hlt : i < nn
    · obtain ⟨x, hx, b0, o, rfl, D⟩ := AT.out i hlt
      have D1 := Lib.hid (fun W (s : Still w W) => D.still (Nat.le_refl _) s)
      obtain ⟨⟨b1, v1, cp, dd, T⟩, sw⟩ := PW.out
      have hpl := playX_len l i
      have TW := Lib.hid T
      have HX := Lib.hid hx
      have HL := Lib.hid (show (Try.prog.info? 32).map (·.size) = some (bytesV x.K).length from by rw [size32, bytesV_length, D.len])
      have d1 : (i : Int) < (nn : Int) := by omega
      have HJ := Lib.hid (show i + 1 ≤ 150 by have := HN.out; omega)
      have DLN := Lib.hid D.len
      have HPL := Lib.hid (show (playX (l.take i)).length ≤ 150 by have := HN.out; omega)
      have ATC := Lib.hid (at_any T.rt x.K D.len (by have := HN.out; omega))
      have RK := Lib.hid (D1.out _ sw).key
      have SW := Lib.hid sw
      clear T sw hx D hpl hlt
      go_upto_region 9 with (first
        | (guard_target =~ wpList _ _ _ (Oper.mk (some 27) _ _ _ _ _ :: _) _ _; go_must (refine wpList_load_mid rfl 32 (.tmp 26) rfl b0 (o + i * 34 + 1) rfl (bytesV x.K) _ RK.out under32 rfl HL.out ?_))
        | (go_at_call 13; refine ATC.out.mono ?_; rintro e w3 ⟨⟨a, rfl, ha⟩, s3⟩; have S3 := Lib.hid s3; have HA := Lib.hid ha; clear s3 ha))
      have SW3 := Lib.hid (Still.trans SW.out S3.out)
      have T3 := Lib.hid (TW.out.still S3.out)
      have kd := (D1.out w3 SW3.out).kind
      by_cases h0 : x.k = 0
      · have SD := Lib.hid (show Still w w3.drew from SW3.out.drew)
        have TD := Lib.hid (T3.out.still (Still.refl w3).drew)
        have PU := Lib.hid (put_any TD.out.tb x.K x.v DLN.out (by have := HPL.out; omega))
        have vv := (D1.out w3.drew SD.out).val
        have RK2 := Lib.hid (D1.out w3.drew SD.out).key
        have H0 := Lib.hid h0
        rw [h0] at kd
        clear h0 RK
        go_upto_region 14 with fail
        refine wp_region_still_tail 11 (by kernel_rfl) (by kernel_rfl) ?_
        simp only [List.take_succ_cons, List.take_zero, List.drop_succ_cons, List.drop_zero]
        change wpStill _ _ w3.drew _ _ _
        repeat (first
          | (guard_target =~ wpStill _ _ _ _ (Oper.mk (some 78) _ _ _ _ _ :: _) _; go_must (refine still_load_mid (by kernel_rfl) 32 (.tmp 77) rfl b0 (o + i * 34 + 1) (by kernel_rfl) (bytesV x.K) _ RK2.out under32 rfl HL.out ?_))
          | still_step)
        refine wpStill_nil ?_
        change wpList _ _ _ _ _ w3.drew
        clear kd vv
        go_upto_region 15 with (go_at_call 14; refine PU.out.mono ?_; rintro e w4 ⟨rfl, p4⟩; have P4 := Lib.hid p4; clear p4)
        have P4D := Lib.hid P4.out.drew
        have R4 := Lib.hid (show RT w4.drew gx v1 (playX (l.take i)) cp dd ∧ Still w w4.drew from by
          obtain ⟨b', cp', dd', t, pr, hb', c⟩ := P4D.out
          refine ⟨TD.out.mid c, c.still SD.out (fun q hq => ?_)⟩
          rcases hq with rfl | rfl
          · exact TD.out.hg
          · exact TD.out.hb)
        have PU2 := Lib.hid (rput_any TD.out.tb x.K x.v DLN.out (by have := HPL.out; omega) _ R4.out.1)
        have vv := (D1.out w4.drew R4.out.2).val
        have RK3 := Lib.hid (D1.out w4.drew R4.out.2).key
        refine wp_region_still_tail 11 (by kernel_rfl) (by kernel_rfl) ?_
        simp only [List.take_succ_cons, List.take_zero, List.drop_succ_cons, List.drop_zero]
        change wpStill _ _ w4.drew _ _ _
        repeat (first
          | (guard_target =~ wpStill _ _ _ _ (Oper.mk (some 90) _ _ _ _ _ :: _) _; go_must (refine still_load_mid (by kernel_rfl) 32 (.tmp 89) rfl b0 (o + i * 34 + 1) (by kernel_rfl) (bytesV x.K) _ RK3.out under32 rfl HL.out ?_))
          | still_step)
        refine wpStill_nil ?_
        change wpList _ _ _ _ _ w4.drew
        clear vv
        go_wp2_with (first
          | (go_at_call 15; refine PU2.out.mono ?_; rintro e w5 ⟨rfl, p5⟩; have P5 := Lib.hid (PX.put TD.out SD.out HX.out H0.out P4D.out p5); clear p5)
          | (go_at_call 19; refine (alike_px P5.out HJ.out).mono ?_; rintro e w6 ⟨rfl, s6⟩; have P6 := Lib.hid (P5.out.on s6); clear s6))
        go_roundw
        case rel => exact ⟨i + 1, by omega, by go_num, P6⟩
        case measure => simp [intOf]; omega
      · by_cases h1 : x.k = 1
        · have SD := Lib.hid (show Still w w3.drew from SW3.out.drew)
          have TD := Lib.hid (T3.out.still (Still.refl w3).drew)
          have DE := Lib.hid (del_any TD.out.tb x.K DLN.out (by have := HPL.out; omega))
          have DE2 := Lib.hid (fun W (R : RT W gx v1 (playX (l.take i)) cp dd) => rdel_any TD.out.tb x.K DLN.out (by have := HPL.out; omega) W R)
          have H0 := Lib.hid h0
          have H1 := Lib.hid h1
          rw [h1] at kd
          obtain ⟨hb, hhb⟩ : ∃ hb, hb = hasL x.K (playX (l.take i)) := ⟨_, rfl⟩
          rw [← hhb] at DE DE2
          have MID := Lib.hid (fun W (p : DelP w3.drew W g b1 (playX (l.take i)) cp dd x.K) => show RT W gx v1 (playX (l.take i)) cp dd ∧ Still w W from by
            obtain ⟨b', cp', dd', t, pr, hb', c⟩ := p
            refine ⟨TD.out.mid c, c.still SD.out (fun q hq => ?_)⟩
            rcases hq with rfl | rfl
            · exact TD.out.hg
            · exact TD.out.hb)
          clear h0 h1 RK hhb
          go_upto_region 17 with fail
          clear kd
          have rk := (D1.out w3.drew SD.out).key
          have hu := HU.out
          have hi2 := HL.out
          have z1 : (0 : Int) ≤ (i : Int) := by omega
          refine wp_region_held_drew (S := fun w' => w'.rangeAt b0 (o + i * 34 + 1) (bytesV x.K)) (by kernel_rfl) rk (fun hHeld => ?_)
          clear rk
          refine' wpAnyH_take (i := 0) (oi := ⟨some 99, _, _, _, _, _⟩) (v := _) rfl (by kernel_rfl) (by kernel_rfl) (by kernel_rfl) (fun _ _ _ h => h) (Or.inl ⟨by rfl, ?hy0⟩) (by assumption) ?rest0
          case hy0 => (intro w9 hSw; (try dsimp only at hSw); go_simp; try with_reducible rfl)
          simp only [Act.put, List.setIfInBounds_toArray, List.set_cons_zero, List.set_cons_succ]
          refine' wpAnyH_take (i := 1) (oi := ⟨some 100, _, _, _, _, _⟩) (v := _) rfl (by kernel_rfl) (by kernel_rfl) (by kernel_rfl) (fun _ _ _ h => h) (Or.inl ⟨by rfl, ?hy1⟩) (by assumption) ?rest1
          case hy1 => (intro w9 hSw; (try dsimp only at hSw); go_simp; try with_reducible rfl)
          simp only [Act.put, List.setIfInBounds_toArray, List.set_cons_zero, List.set_cons_succ]
          refine' wpAnyH_take (i := 2) (oi := ⟨some 101, _, _, _, _, _⟩) (v := _) rfl (by kernel_rfl) (by kernel_rfl) (by kernel_rfl) (fun _ _ _ h => h) (Or.inl ⟨by rfl, ?hy2⟩) (by assumption) ?rest2
          case hy2 => (intro w9 hSw; (try dsimp only at hSw); go_simp; try with_reducible rfl)
          simp only [Act.put, List.setIfInBounds_toArray, List.set_cons_zero, List.set_cons_succ]
          refine' wpAnyH_take (i := 3) (oi := ⟨some 102, _, _, _, _, _⟩) (v := _) rfl (by kernel_rfl) (by kernel_rfl) (by kernel_rfl) (fun _ _ _ h => h) (Or.inl ⟨by rfl, ?hy3⟩) (by assumption) ?rest3
          case hy3 => (intro w9 hSw; (try dsimp only at hSw); go_simp; try with_reducible rfl)
          simp only [Act.put, List.setIfInBounds_toArray, List.set_cons_zero, List.set_cons_succ]
          refine' wpAnyH_take (i := 4) (oi := ⟨some 103, _, _, _, _, _⟩) (v := _) rfl (by kernel_rfl) (by kernel_rfl) (by kernel_rfl) (fun _ _ _ h => h) (Or.inl ⟨by rfl, ?hy4⟩) (by assumption) ?rest4
          case hy4 => (intro w9 hSw; (try dsimp only at hSw); go_simp; try with_reducible rfl)
          simp only [Act.put, List.setIfInBounds_toArray, List.set_cons_zero, List.set_cons_succ]
          refine wpAnyH_take (i := 5) (oi := ⟨some 104, _, _, _, _, _⟩) (v := _) rfl (by kernel_rfl) (by kernel_rfl) (by kernel_rfl) (fun _ _ _ h => h) (yieldsIf_load_mid (by rfl) 32 (.tmp 103) rfl b0 (o + i * 34 + 1) rfl (bytesV x.K) _ (fun _ h => h) HU.out rfl HL.out) (by assumption) ?_
          simp only [Act.put, List.setIfInBounds_toArray, List.set_cons_zero, List.set_cons_succ]
          refine' wpAnyH_take (i := 7) (oi := ⟨some 106, _, _, _, _, _⟩) (v := _) rfl (by kernel_rfl) (by kernel_rfl) (by kernel_rfl) (fun _ _ _ h => h) (Or.inl ⟨by rfl, ?hy7⟩) (by assumption) ?rest7
          case hy7 => (intro w9 hSw; (try dsimp only at hSw); go_simp; try with_reducible rfl)
          simp only [Act.put, List.setIfInBounds_toArray, List.set_cons_zero, List.set_cons_succ]
          refine' wpAnyH_take (i := 8) (oi := ⟨some 107, _, _, _, _, _⟩) (v := _) rfl (by kernel_rfl) (by kernel_rfl) (by kernel_rfl) (fun _ _ _ h => h) (Or.inl ⟨by rfl, ?hy8⟩) (by assumption) ?rest8
          case hy8 => (intro w9 hSw; (try dsimp only at hSw); go_simp; try with_reducible rfl)
          simp only [Act.put, List.setIfInBounds_toArray, List.set_cons_zero, List.set_cons_succ]
          refine' wpAnyH_take (i := 9) (oi := ⟨some 108, _, _, _, _, _⟩) (v := _) rfl (by kernel_rfl) (by kernel_rfl) (by kernel_rfl) (fun _ _ _ h => h) (Or.inl ⟨by rfl, ?hy9⟩) (by assumption) ?rest9
          case hy9 => (intro w9 hSw; (try dsimp only at hSw); go_simp; try with_reducible rfl)
          simp only [Act.put, List.setIfInBounds_toArray, List.set_cons_zero, List.set_cons_succ]
          refine' wpAnyH_take (i := 10) (oi := ⟨some 109, _, _, _, _, _⟩) (v := _) rfl (by kernel_rfl) (by kernel_rfl) (by kernel_rfl) (fun _ _ _ h => h) (Or.inl ⟨by rfl, ?hy10⟩) (by assumption) ?rest10
          case hy10 => (intro w9 hSw; (try dsimp only at hSw); go_simp; try with_reducible rfl)
          simp only [Act.put, List.setIfInBounds_toArray, List.set_cons_zero, List.set_cons_succ]
          refine' wpAnyH_take (i := 11) (oi := ⟨some 110, _, _, _, _, _⟩) (v := _) rfl (by kernel_rfl) (by kernel_rfl) (by kernel_rfl) (fun _ _ _ h => h) (Or.inl ⟨by rfl, ?hy11⟩) (by assumption) ?rest11
          case hy11 => (intro w9 hSw; (try dsimp only at hSw); go_simp; try with_reducible rfl)
          simp only [Act.put, List.setIfInBounds_toArray, List.set_cons_zero, List.set_cons_succ]
          refine wpAnyH_take (i := 12) (oi := ⟨some 111, _, _, _, _, _⟩) (v := _) rfl (by kernel_rfl) (by kernel_rfl) (by kernel_rfl) (fun _ _ _ h => h) (yieldsIf_load_mid (by rfl) 32 (.tmp 110) rfl b0 (o + i * 34 + 1) rfl (bytesV x.K) _ (fun _ h => h) HU.out rfl HL.out) (by assumption) ?_
          simp only [Act.put, List.setIfInBounds_toArray, List.set_cons_zero, List.set_cons_succ]
          refine wpAnyH_ready (rs := [6]) (by kernel_rfl) (by simp) ?_
          refine AllReadyH.cons rfl (fun K9 hK9 => ?_) AllReadyH.nil
          go_simp
          go_at_call 16
          refine DE.out.mono ?_
          rintro e w4 ⟨rfl, p4⟩
          have P4 := Lib.hid p4
          have R4 := Lib.hid (MID.out _ p4)
          clear p4 hHeld
          go_wp2_with fail
          refine hK9.out _ _ ?_ (fun hHeld => ?_)
          · exact (D1.out _ R4.out.2).key
          clear hK9 K9
          try simp only [Act.put, List.setIfInBounds_toArray, List.set_cons_zero, List.set_cons_succ]
          refine wpAnyH_ready (rs := [13]) (by kernel_rfl) (by simp) ?_
          refine AllReadyH.cons rfl (fun K9 hK9 => ?_) AllReadyH.nil
          go_simp
          go_at_call 17
          refine (DE2.out _ R4.out.1).mono ?_
          rintro e w5 ⟨rfl, p5⟩
          have P5 := Lib.hid (PX.del TD.out SD.out HX.out H0.out H1.out P4.out p5)
          clear p5 hHeld
          go_wp2_with fail
          refine hK9.out _ _ ?_ (fun hHeld => ?_)
          · exact (D1.out _ P5.out.still).key
          clear hK9 K9
          try simp only [Act.put, List.setIfInBounds_toArray, List.set_cons_zero, List.set_cons_succ]
          refine wpAnyH_ready (rs := [14]) (by kernel_rfl) (by simp) ?_
          refine AllReadyH.cons rfl (fun K9 hK9 => ?_) AllReadyH.nil
          go_simp
          refine hK9.out _ _ ?_ (fun hHeld => ?_)
          · exact (D1.out _ P5.out.still).key
          clear hK9 K9 hHeld
          try simp only [Act.put, List.setIfInBounds_toArray, List.set_cons_zero, List.set_cons_succ]
          refine wpAnyH_done (by kernel_rfl) ?_ _
          go_wp2_with (go_at_call 19; refine (alike_px P5.out HJ.out).mono ?_; rintro e w6 ⟨rfl, s6⟩; have P6 := Lib.hid (P5.out.on s6); clear s6)
          go_roundw
          case rel => exact ⟨i + 1, by omega, by go_num, P6⟩
          case measure => simp [intOf]; omega
        · have NXT := Lib.hid (fun W (s : Still wr W) => PW.out.same HX.out h0 h1 s)
          have RK3 := Lib.hid (D1.out w3 SW3.out).key
          have k0 : (x.k == 0) = false := by simpa using h0
          have k1 : (x.k == 1) = false := by simpa using h1
          obtain ⟨kk, hkk⟩ : ∃ kk, kk = x.k := ⟨_, rfl⟩
          rw [← hkk] at kd k0 k1 h0 h1
          rcases HA.out with ⟨hn, rfl⟩ | ⟨p, vp, hp, rfl⟩
          · have GE := Lib.hid (get_no T3.out.tb x.K DLN.out (by have := HPL.out; omega) hn)
            clear hn hkk
            go_upto_region 11 with (first
              | (guard_target =~ wpList _ _ _ (Oper.mk (some 40) _ _ _ _ _ :: _) _ _; go_must (refine wpList_load_mid rfl 32 (.tmp 39) rfl b0 (o + i * 34 + 1) rfl (bytesV x.K) _ RK3.out under32 rfl HL.out ?_))
              | (go_at_call 18; refine GE.out.mono ?_; rintro e w4 ⟨rfl, s4⟩; have S4 := Lib.hid (Still.trans S3.out s4); clear s4))
            clear kd k0 k1 h0 h1
            refine wp_plain_quiet_still w4 (Still.refl _) ?_
            repeat (quiet_step (fail))
            refine wpQuiet_nil ?_
            intro wq hw'
            have SQ := Lib.hid (show Still wr wq from by obtain ⟨p, rfl⟩ := hw'; exact Still.trans S4.out p.still)
            clear hw'
            have P5 := Lib.hid (NXT.out _ SQ.out)
            go_wp2_with (go_at_call 19; refine (alike_px P5.out HJ.out).mono ?_; rintro e w6 ⟨rfl, s6⟩; have P6 := Lib.hid (P5.out.on s6); clear s6)
            go_roundw
            case rel => exact ⟨i + 1, by omega, by go_num, P6⟩
            case measure => simp [intOf]; omega
          · obtain ⟨y, rfl⟩ := T3.out.tb.val1 _ (List.mem_of_getElem? hp)
            have GE := Lib.hid (get_yes T3.out.tb x.K y DLN.out (by have := HPL.out; omega) (List.mem_of_getElem? hp))
            obtain ⟨A, c, hv1, hnc, hc, hz⟩ := T3.out.rt.form
            obtain ⟨bx, rfl, hx1, hx2, hx3⟩ := hz p _ hp
            obtain ⟨m, hm⟩ : ∃ m, m = (playX (l.take i)).length := ⟨_, rfl⟩
            have hpm : p < m := by have := (List.getElem?_eq_some_iff.1 hp).1; omega
            rw [← hm] at hv1 hnc
            have C0 := Lib.hid (fun W (s : Still w3 W) => show W.cell? ⟨gx, 0, none⟩ = some (.slice (some ⟨bx, 0, none⟩) m c) ∧ W.cell? ⟨bx, p * 33 + 32, none⟩ = some (.int .i64 y) from ⟨by rw [← hv1]; exact (T3.out.rt.still s).cells.1, hx3 W (s.block bx hx2) 32 _ (prL_val DLN.out)⟩)
            have e1 : (p : Int) < (m : Int) := by omega
            have e2 : (m : Int) ≤ (c : Int) := by omega
            have e3 : (0 : Int) ≤ (p : Int) := by omega
            clear hp hkk hv1 hnc hc hz hx1 hx2 hx3 hm
            go_upto_region 11 with (first
              | (guard_target =~ wpList _ _ _ (Oper.mk (some 40) _ _ _ _ _ :: _) _ _; go_must (refine wpList_load_mid rfl 32 (.tmp 39) rfl b0 (o + i * 34 + 1) rfl (bytesV x.K) _ RK3.out under32 rfl HL.out ?_))
              | (go_at_call 18; refine GE.out.mono ?_; rintro e w4 ⟨rfl, s4⟩; have S34 := Lib.hid s4; have S4 := Lib.hid (Still.trans S3.out s4); clear s4))
            clear kd k0 k1 h0 h1
            have qq0 : ∀ q : StillBy w4, q.W.cell? ⟨gx, 0, none⟩ = some (.slice (some ⟨bx, 0, none⟩) m c) := fun q => (C0.out _ (Still.trans S34.out q.still)).1
            have qq1 : ∀ q : StillBy w4, q.W.cell? ⟨bx, p * 33 + 32, none⟩ = some (.int .i64 y) := fun q => (C0.out _ (Still.trans S34.out q.still)).2
            refine wp_plain_quiet_still w4 (Still.refl _) ?_
            repeat (quiet_step (fail))
            refine wpQuiet_nil ?_
            intro wq hw'
            have SQ := Lib.hid (show Still wr wq from by obtain ⟨p, rfl⟩ := hw'; exact Still.trans S4.out p.still)
            clear hw' qq0 qq1
            have P5 := Lib.hid (NXT.out _ SQ.out)
            go_wp2_with (go_at_call 19; refine (alike_px P5.out HJ.out).mono ?_; rintro e w6 ⟨rfl, s6⟩; have P6 := Lib.hid (P5.out.on s6); clear s6)
            go_roundw
            case rel => exact ⟨i + 1, by omega, by go_num, P6⟩
            case measure => simp [intOf]; omega
    · have hin : i = nn := by omega
      subst hin
      clear hlt
      go_wp2_with (go_at_call 20; refine (LI.out _).mono ?_; rintro e w7 ⟨rfl, s7⟩; have S7 := Lib.hid (Still.trans PW.out.still s7); clear s7)
      go_ret
      exact ⟨rfl, S7.out⟩
end Go.Proofs.Ythkgnkcedoigiaa
