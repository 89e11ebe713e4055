/- Contracts and facts, several texts in one. It proves no statement. -/
import Derived.Test.YtgbkpbmilaafgaaBkGn
import Derived.Test.YtgbkpbmilaafgaaBkGs
import Derived.Test.YtgbkpbmilaafgaaBkGp
import Derived.Test.YtgbkpbmilaafgaaBkGe
import Derived.Test.YtgbkpbmilaafgaaBkGb
import Derived.Test.YtgbkpbmilaafgaaBkGm

/- Contract: rows as a book (counts), by the document. It proves no statement. -/


namespace Go.Proofs.Ytgbkpbmilaafgaa
open Go.RowKit
set_option linter.unusedVariables false
set_option linter.unusedSimpArgs false

attribute [local irreducible] Go.wpQuiet
set_option maxRecDepth 100000 in
set_option maxHeartbeats 6400000 in
theorem docw_c {w : World} {A : Option Addr} {n c : Nat} {L : List Rw} (h : RwRow kC w A n c L) (hn : n ≤ 65536) :
    Calls Try.prog 13 #[.slice A n c] w fun e w' => ∃ A' c', e = .returned (.tuple #[.slice A' (kC.wr L).1.length c', .int .i64 (kC.wr L).2]) ∧ Reads w' w'.heap.size A' (kC.wr L).1.length (kC.wr L).1 ∧ (kC.wr L).1.length ≤ c' ∧ c' ≤ 9223372036854775807 ∧ (A' = none → c' = 0) ∧ Still w w' := by
  have HR := Lib.hid (fun W (s : Still w W) => h.still s)
  have hlen := h.len
  have OK := Lib.hid h.ok
  have BD := Lib.hid h.bd
  have HLN := Lib.hid hlen
  have d3 : (n : Int) ≤ 65536 := by omega
  have d4 : (n : Int) ≤ (c : Int) := by have := h.row.fit; omega
  have BG := Lib.hid (begun_any ⟨#[72, 79, 65, 82, 68, 82, 69, 70]⟩ rfl n hn w)
  rw [show (⟨#[72, 79, 65, 82, 68, 82, 69, 70]⟩ : ByteArray).data.toList ++ leBytes n 4 = kC.head n from rfl] at BG
  have LEN := Lib.hid (fun (i : Nat) (hi : i ≤ n) => show (rowsW (L.take i)).length ≤ 44 * 65536 from by
    rw [rowsW_length (fun r hr => OK.out r (List.mem_of_mem_take hr)), List.length_take]
    have h1 : kC.wide ≤ 44 := by decide
    have h2 : min i L.length ≤ 65536 := by omega
    exact Nat.mul_le_mul h1 h2)
  have HDL := Lib.hid (show (kC.head n).length = 12 from head_length rfl n)
  clear h hlen hn
  go_enter Try.func13, Try.ntmps13
  go_wp2_with (go_at_call 35; with_reducible refine BG.out.mono ?_; rintro e w1 ⟨v1, rfl, m1, s1⟩; have M1 := Lib.hid m1; have S1 := Lib.hid s1; clear m1 s1)
  go_loopw [4, 5, 6, 7] (fun bv gv rv iv wr => ∃ (i : Nat) (v : Value) (gd rs : Bool), i ≤ n ∧ v = bv ∧ gv = .bool gd ∧ rv = .bool rs ∧ iv = .int .i64 i ∧ Hid (MRow wr w.heap.size v (kC.head n ++ rowsW (L.take i)) ∧ gd = (L.take i).all okR ∧ rs = kC.up L i ∧ Still w wr)) (fun _ _ _ iv _ => n - (intOf iv).toNat)
  case atStart => exact ⟨0, _, true, true, by omega, rfl, rfl, rfl, rfl, Lib.hid ⟨by rw [List.take_zero]; show MRow _ _ _ (_ ++ []); rw [List.append_nil]; exact M1.out, rfl, rfl, S1.out⟩⟩
  case round =>
    obtain ⟨i, v, gd, rs, hi, rfl, rfl, rfl, rfl, IN⟩ := hrel
    clear M1 S1
    by_cases hlt : i < n
    · have SW := Lib.hid IN.out.2.2.2
      have MI := Lib.hid IN.out.1
      have GI := Lib.hid IN.out.2.1
      have RSI := Lib.hid IN.out.2.2.1
      obtain ⟨r, hr⟩ : ∃ r, L[i]? = some r := ⟨_, List.getElem?_eq_getElem (by have := HLN.out; omega)⟩
      obtain ⟨bb, o, rfl, hbb, _⟩ := (HR.out _ SW.out).at_ hr
      have OA := Lib.hid (OK.out r (List.mem_of_getElem? hr))
      have QA := Lib.hid (fun W (s : Still w W) => show W.rangeAt bb (o + i * 34) (rowV r) from by
        obtain ⟨b2, o2, e, _, h2⟩ := (HR.out _ s).at_ hr
        cases e
        exact h2)
      have TK := Lib.hid (show L.take (i + 1) = L.take i ++ [r] from by rw [List.take_add_one, hr]; rfl)
      have UPS := Lib.hid (show kC.up L (i + 1) = (kC.up L i && (decide (i = 0) || kC.lt (L.getD (i - 1) rw0) r)) from by
        show (kC.up L i && (decide (i = 0) || kC.lt (L.getD (i - 1) rw0) (L.getD i rw0))) = _
        rw [show L.getD i rw0 = r by simp [List.getD, hr]])
      obtain ⟨x, y, hxyz⟩ : ∃ x y, r.2 = [x, y] := by
        match hq : r.2, OA.out.2 with
        | [x, y], _ => exact ⟨x, y, rfl⟩
      have XB := Lib.hid (show i64 x ∧ i64 y from by
        have := BD.out r (List.mem_of_getElem? hr)
        rw [hxyz] at this
        exact ⟨this x (by simp), this y (by simp)⟩)
      have CN := Lib.hid (show ∀ W, Still w W → W.cell? ⟨bb, o + i * 34 + 32, none⟩ = some (.int .i64 x) ∧ W.cell? ⟨bb, o + i * 34 + 33, none⟩ = some (.int .i64 y) from fun W s => by
        have q := QA.out W s
        have c0 := rangeAt_num q (j := 0) (z := x) (by rw [hxyz]; rfl)
        have c1 := rangeAt_num q (j := 1) (z := y) (by rw [hxyz]; rfl)
        rw [OA.out.1] at c0 c1
        exact ⟨c0, c1⟩)
      have HX := Lib.hid (show rowW r = r.1 ++ numsW [x, y] ∧ okR r = (okN x && okN y) from by
        unfold rowW okR
        rw [hxyz]
        exact ⟨rfl, by simp [Bool.and_assoc]⟩)
      have d1 : (i : Int) < (n : Int) := by omega
      have HI := Lib.hid hlt
      have LP := Lib.hid (show (kC.head n ++ rowsW (L.take i)).length ≤ 12 + 44 * 65536 from by
        have h1 := LEN.out i (by omega)
        have h2 := HDL.out
        rw [List.length_append]; omega)
      obtain ⟨pre, hpre⟩ : ∃ pre, pre = kC.head n ++ rowsW (L.take i) := ⟨_, rfl⟩
      rw [← hpre] at MI LP
      have PRE := Lib.hid hpre
      have HRI := Lib.hid hr
      clear IN hbb hr hxyz hlt hpre
      have CB := Lib.hid (fun (k : Nat) (hk : k < 32) W (s : Still w W) => show W.cell? ⟨bb, o + i * 34 + k, none⟩ = some (.int .u8 ((r.1.getD k 0).toNat : Int)) from QA.out W s k _ (rowV_key (bytesV_get r.1 k (by have := OA.out.1; show k < r.1.length; rw [this]; exact hk))))
      go_wp2_with fail
      go_loopw [4, 8] (fun bv kv wq => ∃ (k : Nat) (u : Value), k ≤ 32 ∧ u = bv ∧ kv = .int .i64 k ∧ Hid (MRow wq w.heap.size u (pre ++ r.1.take k) ∧ Still w wq)) (fun _ kv _ => 32 - (intOf kv).toNat)
      case atStart => exact ⟨0, _, by omega, rfl, rfl, Lib.hid ⟨by rw [List.take_zero, List.append_nil]; exact MI.out, SW.out⟩⟩
      case round =>
        obtain ⟨k, u, hk, rfl, rfl, KN⟩ := hrel
        clear MI SW
        by_cases hk32 : k < 32
        · obtain ⟨y8, hy8⟩ : ∃ y8, y8 = r.1.getD k 0 := ⟨_, rfl⟩
          have cb := CB.out k hk32 wr KN.out.2
          rw [← hy8] at cb
          have TKK := Lib.hid (show r.1.take (k + 1) = r.1.take k ++ [y8] from by
            rw [List.take_add_one, hy8]
            have : k < r.1.length := by have := OA.out.1; rw [this]; exact hk32
            simp [List.getD, this])
          have k1 : (k : Int) < 32 := by omega
          have MK := Lib.hid (fun (o : Obj) => KN.out.1.still ((Still.refl wr).alloc (Nat.le_refl _) o))
          have SK := Lib.hid KN.out.2
          have ZK := Lib.hid KN.out.2.size
          clear hy8 KN
          go_wp2_with (guard_target =~ wpList _ _ _ (Oper.mk (some 38) _ _ _ _ _ :: _) _ _; go_must (refine wpList_addsM (o := ⟨some 38, _, _, _, _, _⟩) (wr.alloc (.cells #[.int .u8 (y8.toNat : Int)] 5)) rfl (.tmp 29) (.tmp 37) rfl w.heap.size u (pre ++ r.1.take k) rfl (MK.out _) (some ⟨wr.heap.size, 0, none⟩) 1 1 _ [y8] rfl (const_reads wr [y8] (0, 0)) (fun e => by cases e) (by have := LP.out; rw [List.length_append, List.length_take]; omega) (by have := ZK.out; simp; omega) ?_); intro v2 w2 m2 gr2 at2; have M2 := Lib.hid m2; have S2 := Lib.hid ((MK.out _).next (Nat.le_refl _) (SK.out.alloc SK.out.size _) gr2); clear m2 gr2 at2)
          go_roundw
          case rel => exact ⟨k + 1, v2, by omega, rfl, by go_num, Lib.hid ⟨by rw [TKK.out, ← List.append_assoc]; exact M2.out, S2.out⟩⟩
          case measure => simp [intOf]; omega
        · have hk3 : k = 32 := by omega
          subst hk3
          have MK := Lib.hid (show MRow wr w.heap.size u (pre ++ r.1) from by
            have := KN.out.1
            rwa [List.take_of_length_le (by have := OA.out.1; show r.1.length ≤ 32; rw [this]; exact Nat.le_refl _)] at this)
          have SK := Lib.hid KN.out.2
          have k1 : ¬ ((32 : Nat) : Int) < 32 := by omega
          clear KN hk32
          -- numbers
          obtain ⟨ok, hok⟩ : ∃ ok, ok = okR r := ⟨_, rfl⟩
          have OKR := Lib.hid hok
          have PLR := Lib.hid (show (pre ++ r.1).length ≤ 12 + 44 * 65536 + 32 from by
            have h1 := LP.out; have h2 := OA.out.1
            have h3 : (kC.kl : Nat) ≤ 32 := by decide
            rw [List.length_append]; omega)
          have NX := Lib.hid (fun W (m : MRow W w.heap.size u (pre ++ r.1)) (hb : w.heap.size ≤ W.heap.size) => numz_any m (by have := PLR.out; omega) hb x XB.out.1)
          have NY := Lib.hid (fun W u2 (m : MRow W w.heap.size u2 (pre ++ r.1 ++ numW x)) (hb : w.heap.size ≤ W.heap.size) => numz_any m (by have := PLR.out; rw [List.length_append, numW_length]; omega) hb y XB.out.2)
          obtain ⟨p, hp⟩ : ∃ p, p = okN x := ⟨_, rfl⟩
          obtain ⟨q, hq⟩ : ∃ q, q = okN y := ⟨_, rfl⟩
          simp only [← hp] at NX
          simp only [← hq] at NY
          have OPQ := Lib.hid (show ok = (p && q) by rw [hok, HX.out.2, hp, hq])
          have cn0 := CN.out _ SK.out
          clear hok hp hq
          go_upto_region 15 with (go_at_call 39; first
            | (with_reducible refine (NY.out _ _ G2.out.row (Nat.le_trans SK.out.size G2.out.size)).mono ?_; rintro e w3 ⟨v3, rfl, g3⟩; have G3 := Lib.hid (G2.out.trans g3); clear g3)
            | (with_reducible refine (NX.out _ MK.out SK.out.size).mono ?_; rintro e w2 ⟨v2, rfl, g2⟩; have G2 := Lib.hid g2; have cn2 := CN.out _ (g2.still w (Nat.le_refl _) SK.out); clear g2))
          have SV3 := Lib.hid (G3.out.still w (Nat.le_refl _) SK.out)
          have M3 := Lib.hid (show MRow w3 w.heap.size v3 (pre ++ rowW r) from by
            have := G3.out.row
            rw [HX.out.1]
            simpa [numsW, List.append_assoc] using this)
          clear G3 G2 NX NY MK SK cn0 cn2
          obtain ⟨gn, hgn⟩ : ∃ gn, gn = (gd && ok) := ⟨_, rfl⟩
          have GN := Lib.hid hgn
          rw [OPQ.out] at hgn
          go_cut [5] (fun gv wx => gv = .bool gn ∧ wx = w3)
          case first =>
            cases gd
            · go_wp2_with fail
              go_meet
              case rel => exact ⟨by rw [hgn]; rfl, rfl⟩
            · cases p
              · go_wp2_with fail
                go_meet
                case rel => exact ⟨by rw [hgn]; rfl, rfl⟩
              · go_wp2_with fail
                go_meet
                case rel => exact ⟨by rw [hgn]; rfl, rfl⟩
          case rest =>
            obtain ⟨rfl, hwc⟩ := hcut
            have hwc := hwc.symm
            subst hwc
            have NXG := Lib.hid (show gn = (L.take (i + 1)).all okR from by
              rw [TK.out, List.all_append, ← GI.out, GN.out, OKR.out]
              simp)
            have NXM := Lib.hid (show MRow w3 w.heap.size v3 (kC.head n ++ rowsW (L.take (i + 1))) from by
              have := M3.out
              rw [PRE.out, List.append_assoc] at this
              rw [TK.out, rowsW_snoc]
              exact this)
            clear hgn
            cases rs
            · have NXR := Lib.hid (show false = kC.up L (i + 1) from by rw [UPS.out, ← RSI.out]; rfl)
              go_upto_region 16 with fail
              refine wp_region_quiet_still w3 (Still.refl _) (by kernel_rfl) (by kernel_rfl) ?_
              repeat (first
                | quiet_step ((fail)))
              refine wpQuiet_nil ?_
              intro wq hw'
              have SQ3 := Lib.hid (show Still w3 wq from by obtain ⟨p, rfl⟩ := hw'; exact p.still)
              clear hw'
              go_simp
              go_wp2_with fail
              go_roundw
              case rel => exact ⟨i + 1, v3, gn, false, HI.out, rfl, rfl, rfl, by go_num, Lib.hid ⟨NXM.out.still SQ3.out, NXG.out, NXR.out, Still.trans SV3.out SQ3.out⟩⟩
              case measure => simp [intOf]; have := HI.out; omega
            · by_cases hi0 : i = 0
              · subst hi0
                have NXR := Lib.hid (show true = kC.up L (0 + 1) from by rw [UPS.out]; rfl)
                go_upto_region 16 with fail
                refine wp_region_quiet_still w3 (Still.refl _) (by kernel_rfl) (by kernel_rfl) ?_
                repeat (first
                  | quiet_step ((fail)))
                refine wpQuiet_nil ?_
                intro wq hw'
                have SQ3 := Lib.hid (show Still w3 wq from by obtain ⟨p, rfl⟩ := hw'; exact p.still)
                clear hw'
                go_simp
                go_wp2_with fail
                go_roundw
                case rel => exact ⟨0 + 1, v3, gn, true, HI.out, rfl, rfl, rfl, by go_num, Lib.hid ⟨NXM.out.still SQ3.out, NXG.out, NXR.out, Still.trans SV3.out SQ3.out⟩⟩
                case measure => simp [intOf]; have := HI.out; omega
              · obtain ⟨j, hj⟩ : ∃ j, i = j + 1 := ⟨i - 1, by omega⟩
                obtain ⟨a, ha⟩ : ∃ a, L[j]? = some a := ⟨_, List.getElem?_eq_getElem (by have := HLN.out; have := HI.out; omega)⟩
                have OAA := Lib.hid (OK.out a (List.mem_of_getElem? ha))
                have QB := Lib.hid (fun W (s : Still w W) => show W.rangeAt bb (o + j * 34) (rowV a) from by
                  obtain ⟨b2, o2, e, _, h2⟩ := (HR.out _ s).at_ ha
                  cases e
                  exact h2)
                have e1 : (i : Int) - 1 = (j : Int) := by omega
                have ew : IntKind.i64.wrap (j : Int) = (j : Int) := by rw [IntKind.wrap_i64]; omega
                have ei : ((i : Int) == 0) = false := by simp; omega
                have j1 : (j : Int) < (n : Int) := by omega
                have NXR := Lib.hid (show kC.lt a r = kC.up L (i + 1) from by
                  rw [UPS.out, ← RSI.out, show L.getD (i - 1) rw0 = a by rw [hj, Nat.add_sub_cancel]; simp [List.getD, ha]]
                  simp [hi0])
                obtain ⟨q, hq⟩ : ∃ q, q = kC.lt a r := ⟨_, rfl⟩
                have LS := Lib.hid (fun W => rless_any a.1 r.1 W OAA.out.1 OA.out.1)
                rw [show ltK a.1 r.1 = kC.lt a r from rfl] at LS
                rw [← hq] at LS NXR
                have SZA := Lib.hid (show (Try.prog.info? 62).map (·.size) = some (bytesV a.1).length from by rw [size32, bytesV_length, OAA.out.1]; rfl)
                have SZB := Lib.hid (show (Try.prog.info? 62).map (·.size) = some (bytesV r.1).length from by rw [size32, bytesV_length, OA.out.1]; rfl)
                clear hj ha hq hi0
                go_upto_region 16 with fail
                refine wp_region_quiet_still w3 (Still.refl _) (by kernel_rfl) (by kernel_rfl) ?_
                repeat (first
                  | (guard_target =~ wpQuiet _ _ _ _ (Oper.mk (some 79) _ _ _ _ _ :: _) _; go_must (refine quiet_load_mid (by kernel_rfl) 62 (.tmp 78) rfl bb (o + j * 34) (by kernel_rfl) (bytesV a.1) _ (fun W hW => by obtain ⟨p, rfl⟩ := hW; exact rangeAt_key (QB.out _ (Still.trans SV3.out p.still))) under32 rfl SZA.out ?_))
                  | (guard_target =~ wpQuiet _ _ _ _ (Oper.mk (some 84) _ _ _ _ _ :: _) _; go_must (refine quiet_load_mid (by kernel_rfl) 62 (.tmp 83) rfl bb (o + i * 34) (by kernel_rfl) (bytesV r.1) _ (fun W hW => by obtain ⟨p, rfl⟩ := hW; exact rangeAt_key (QA.out _ (Still.trans SV3.out p.still))) under32 rfl SZB.out ?_))
                  | quiet_step ((go_at_call 37; exact Calls.stillby _ (LS.out _))))
                refine wpQuiet_nil ?_
                intro wq hw'
                have SQ3 := Lib.hid (show Still w3 wq from by obtain ⟨p, rfl⟩ := hw'; exact p.still)
                clear hw' e1 ew
                go_simp
                go_wp2_with fail
                go_roundw
                case rel => exact ⟨i + 1, v3, gn, q, HI.out, rfl, rfl, rfl, by go_num, Lib.hid ⟨NXM.out.still SQ3.out, NXG.out, NXR.out, Still.trans SV3.out SQ3.out⟩⟩
                case measure => simp [intOf]; have := HI.out; omega
    · have hin : i = n := by omega
      subst hin
      have d1 : ¬ (i : Int) < (i : Int) := by omega
      have TN := Lib.hid (show L.take i = L by rw [← HLN.out, List.take_length])
      have GE := Lib.hid (show gd = L.all okR from by have := IN.out.2.1; rwa [TN.out] at this)
      have RE := Lib.hid (show rs = kC.up L L.length from by have := IN.out.2.2.1; rwa [← HLN.out] at this)
      have SW := Lib.hid IN.out.2.2.2
      cases gd
      · have BW := Lib.hid (show kC.wr L = ([], 2) from by unfold Kd.wr; rw [← GE.out]; simp)
        clear IN hlt
        go_wp2_with fail
        (try simp only [Exit.inBlock, Exit.then])
        go_ret2
        rw [BW.out]
        exact ⟨none, 0, rfl, Reads.nil0, Nat.le_refl _, by omega, fun _ => rfl, SW.out⟩
      · cases rs
        · have BW := Lib.hid (show kC.wr L = ([], 18) from by unfold Kd.wr; rw [← GE.out, ← RE.out]; simp)
          clear IN hlt
          go_wp2_with fail
          (try simp only [Exit.inBlock, Exit.then])
          go_ret2
          rw [BW.out]
          exact ⟨none, 0, rfl, Reads.nil0, Nat.le_refl _, by omega, fun _ => rfl, SW.out⟩
        · obtain ⟨bd, hbd⟩ : ∃ bd, bd = kC.body L := ⟨_, rfl⟩
          have BW := Lib.hid (show kC.wr L = (sumB bd, 0) from by unfold Kd.wr; rw [← GE.out, ← RE.out, hbd]; simp)
          have MB := Lib.hid (show MRow wr w.heap.size v bd from by
            have := IN.out.1
            rw [TN.out, rowsW_ok GE.out.symm] at this
            rw [hbd, Kd.body, HLN.out]
            exact this)
          have BL := Lib.hid (show bd.length ≤ 12 + 44 * 65536 from by
            have h1 := LEN.out i (by omega)
            rw [TN.out, rowsW_ok GE.out.symm] at h1
            have h2 := HDL.out
            rw [hbd, Kd.body, List.length_append, HLN.out]
            omega)
          have CL := Lib.hid (closed_any MB.out (by have := BL.out; omega) SW.out.size)
          clear IN hlt hbd
          go_wp2_with (go_at_call 38; with_reducible refine CL.out.mono ?_; rintro e w5 ⟨v5, rfl, g5⟩; have G5 := Lib.hid g5; clear g5)
          (try simp only [Exit.inBlock, Exit.then])
          go_ret2
          obtain ⟨A9, c9, rfl, g1, g2', g3⟩ := G5.out.row.form
          rw [BW.out]
          exact ⟨A9, c9, rfl, G5.out.row.reads, g1, g2', fun e => (g3 e).2, G5.out.still w (Nat.le_refl _) SW.out⟩
end Go.Proofs.Ytgbkpbmilaafgaa

/- Contract: rows as a book (uses), by the document. It proves no statement. -/


namespace Go.Proofs.Ytgbkpbmilaafgaa
open Go.RowKit
set_option linter.unusedVariables false
set_option linter.unusedSimpArgs false

attribute [local irreducible] Go.wpQuiet
set_option maxRecDepth 100000 in
set_option maxHeartbeats 6400000 in
theorem docw_u {w : World} {A : Option Addr} {n c : Nat} {L : List Rw} (h : RwRow kU w A n c L) (hn : n ≤ 65536) :
    Calls Try.prog 14 #[.slice A n c] w fun e w' => ∃ A' c', e = .returned (.tuple #[.slice A' (kU.wr L).1.length c', .int .i64 (kU.wr L).2]) ∧ Reads w' w'.heap.size A' (kU.wr L).1.length (kU.wr L).1 ∧ (kU.wr L).1.length ≤ c' ∧ c' ≤ 9223372036854775807 ∧ (A' = none → c' = 0) ∧ Still w w' := by
  have HR := Lib.hid (fun W (s : Still w W) => h.still s)
  have hlen := h.len
  have OK := Lib.hid h.ok
  have BD := Lib.hid h.bd
  have HLN := Lib.hid hlen
  have d3 : (n : Int) ≤ 65536 := by omega
  have d4 : (n : Int) ≤ (c : Int) := by have := h.row.fit; omega
  have BG := Lib.hid (begun_any ⟨#[72, 79, 65, 82, 68, 85, 83, 69]⟩ rfl n hn w)
  rw [show (⟨#[72, 79, 65, 82, 68, 85, 83, 69]⟩ : ByteArray).data.toList ++ leBytes n 4 = kU.head n from rfl] at BG
  have LEN := Lib.hid (fun (i : Nat) (hi : i ≤ n) => show (rowsW (L.take i)).length ≤ 44 * 65536 from by
    rw [rowsW_length (fun r hr => OK.out r (List.mem_of_mem_take hr)), List.length_take]
    have h1 : kU.wide ≤ 44 := by decide
    have h2 : min i L.length ≤ 65536 := by omega
    exact Nat.mul_le_mul h1 h2)
  have HDL := Lib.hid (show (kU.head n).length = 12 from head_length rfl n)
  clear h hlen hn
  go_enter Try.func14, Try.ntmps14
  go_wp2_with (go_at_call 35; with_reducible refine BG.out.mono ?_; rintro e w1 ⟨v1, rfl, m1, s1⟩; have M1 := Lib.hid m1; have S1 := Lib.hid s1; clear m1 s1)
  go_loopw [4, 5, 6, 7] (fun bv gv rv iv wr => ∃ (i : Nat) (v : Value) (gd rs : Bool), i ≤ n ∧ v = bv ∧ gv = .bool gd ∧ rv = .bool rs ∧ iv = .int .i64 i ∧ Hid (MRow wr w.heap.size v (kU.head n ++ rowsW (L.take i)) ∧ gd = (L.take i).all okR ∧ rs = kU.up L i ∧ Still w wr)) (fun _ _ _ iv _ => n - (intOf iv).toNat)
  case atStart => exact ⟨0, _, true, true, by omega, rfl, rfl, rfl, rfl, Lib.hid ⟨by rw [List.take_zero]; show MRow _ _ _ (_ ++ []); rw [List.append_nil]; exact M1.out, rfl, rfl, S1.out⟩⟩
  case round =>
    obtain ⟨i, v, gd, rs, hi, rfl, rfl, rfl, rfl, IN⟩ := hrel
    clear M1 S1
    by_cases hlt : i < n
    · have SW := Lib.hid IN.out.2.2.2
      have MI := Lib.hid IN.out.1
      have GI := Lib.hid IN.out.2.1
      have RSI := Lib.hid IN.out.2.2.1
      obtain ⟨r, hr⟩ : ∃ r, L[i]? = some r := ⟨_, List.getElem?_eq_getElem (by have := HLN.out; omega)⟩
      obtain ⟨bb, o, rfl, hbb, _⟩ := (HR.out _ SW.out).at_ hr
      have OA := Lib.hid (OK.out r (List.mem_of_getElem? hr))
      have QA := Lib.hid (fun W (s : Still w W) => show W.rangeAt bb (o + i * 3) (rowV r) from by
        obtain ⟨b2, o2, e, _, h2⟩ := (HR.out _ s).at_ hr
        cases e
        exact h2)
      have TK := Lib.hid (show L.take (i + 1) = L.take i ++ [r] from by rw [List.take_add_one, hr]; rfl)
      have UPS := Lib.hid (show kU.up L (i + 1) = (kU.up L i && (decide (i = 0) || kU.lt (L.getD (i - 1) rw0) r)) from by
        show (kU.up L i && (decide (i = 0) || kU.lt (L.getD (i - 1) rw0) (L.getD i rw0))) = _
        rw [show L.getD i rw0 = r by simp [List.getD, hr]])
      obtain ⟨x, y, z, hxyz⟩ : ∃ x y z, r.2 = [x, y, z] := by
        match hq : r.2, OA.out.2 with
        | [x, y, z], _ => exact ⟨x, y, z, rfl⟩
      have XB := Lib.hid (show i64 x ∧ i64 y ∧ i64 z from by
        have := BD.out r (List.mem_of_getElem? hr)
        rw [hxyz] at this
        exact ⟨this x (by simp), this y (by simp), this z (by simp)⟩)
      have CN := Lib.hid (show ∀ W, Still w W → W.cell? ⟨bb, o + i * 3, none⟩ = some (.int .i64 x) ∧ W.cell? ⟨bb, o + i * 3 + 1, none⟩ = some (.int .i64 y) ∧ W.cell? ⟨bb, o + i * 3 + 2, none⟩ = some (.int .i64 z) from fun W s => by
        have q := QA.out W s
        have c0 := rangeAt_num q (j := 0) (z := x) (by rw [hxyz]; rfl)
        have c1 := rangeAt_num q (j := 1) (z := y) (by rw [hxyz]; rfl)
        have c2 := rangeAt_num q (j := 2) (z := z) (by rw [hxyz]; rfl)
        rw [OA.out.1] at c0 c1 c2
        exact ⟨c0, c1, c2⟩)
      have HX := Lib.hid (show rowW r = r.1 ++ numsW [x, y, z] ∧ okR r = (okN x && okN y && okN z) from by
        unfold rowW okR
        rw [hxyz]
        exact ⟨rfl, by simp [Bool.and_assoc]⟩)
      have d1 : (i : Int) < (n : Int) := by omega
      have HI := Lib.hid hlt
      have LP := Lib.hid (show (kU.head n ++ rowsW (L.take i)).length ≤ 12 + 44 * 65536 from by
        have h1 := LEN.out i (by omega)
        have h2 := HDL.out
        rw [List.length_append]; omega)
      obtain ⟨pre, hpre⟩ : ∃ pre, pre = kU.head n ++ rowsW (L.take i) := ⟨_, rfl⟩
      rw [← hpre] at MI LP
      have PRE := Lib.hid hpre
      have HRI := Lib.hid hr
      have hxyz0 := hxyz
      clear IN hbb hr hxyz hlt hpre
      have HX0 := Lib.hid hxyz0
      obtain ⟨u, hu⟩ : ∃ u, u = v := ⟨_, rfl⟩
      have MK := Lib.hid (show MRow wr w.heap.size u (pre ++ r.1) from by
        have h1 : r.1 = [] := List.eq_nil_of_length_eq_zero OA.out.1
        rw [h1, List.append_nil, hu]; exact MI.out)
      have SK := Lib.hid SW.out
      subst hu
      clear MI SW
      -- numbers
      obtain ⟨ok, hok⟩ : ∃ ok, ok = okR r := ⟨_, rfl⟩
      have OKR := Lib.hid hok
      have PLR := Lib.hid (show (pre ++ r.1).length ≤ 12 + 44 * 65536 + 32 from by
        have h1 := LP.out; have h2 := OA.out.1
        have h3 : (kU.kl : Nat) ≤ 32 := by decide
        rw [List.length_append]; omega)
      have TH := Lib.hid (fun W (m : MRow W w.heap.size u (pre ++ r.1)) (hb : w.heap.size ≤ W.heap.size) => three_any m (by have := PLR.out; omega) hb x y z XB.out.1 XB.out.2.1 XB.out.2.2)
      simp only [← HX.out.2, ← hok] at TH
      have THD := Lib.hid (TH.out wr.drew (MK.out.still (Still.refl _).drew) SK.out.size)
      clear hok TH
      go_upto_region 8 with fail
      go_region_held3 (fun W => W.cell? ⟨bb, o + i * 3, none⟩ = some (.int .i64 x) ∧ W.cell? ⟨bb, o + i * 3 + 1, none⟩ = some (.int .i64 y) ∧ W.cell? ⟨bb, o + i * 3 + 2, none⟩ = some (.int .i64 z)) (first | exact CN.out _ (SK.out.drew) | exact CN.out _ SV3.out) (first
        | (go_at_call 36; with_reducible refine THD.out.mono ?_; rintro e w3 ⟨v3, rfl, g3⟩; have G3 := Lib.hid g3; have SV3 := Lib.hid (g3.still w (Nat.le_refl _) SK.out.drew); clear g3))
      go_simp
      have M3 := Lib.hid (show MRow w3 w.heap.size v3 (pre ++ rowW r) from by
        have := G3.out.row
        rw [HX.out.1]
        simpa [numsW, List.append_assoc] using this)
      clear G3 THD MK SK
      obtain ⟨gn, hgn⟩ : ∃ gn, gn = (gd && ok) := ⟨_, rfl⟩
      have GN := Lib.hid hgn
      go_upto_region 10 with fail
      go_cut [5] (fun gv wx => gv = .bool gn ∧ wx = w3)
      case first =>
        cases gd
        · go_wp2_with fail
          go_meet
          case rel => exact ⟨by rw [hgn]; rfl, rfl⟩
        · go_wp2_with fail
          go_meet
          case rel => exact ⟨by rw [hgn]; rfl, rfl⟩
      case rest =>
        obtain ⟨rfl, hwc⟩ := hcut
        have hwc := hwc.symm
        subst hwc
        have NXG := Lib.hid (show gn = (L.take (i + 1)).all okR from by
          rw [TK.out, List.all_append, ← GI.out, GN.out, OKR.out]
          simp)
        have NXM := Lib.hid (show MRow w3 w.heap.size v3 (kU.head n ++ rowsW (L.take (i + 1))) from by
          have := M3.out
          rw [PRE.out, List.append_assoc] at this
          rw [TK.out, rowsW_snoc]
          exact this)
        clear hgn
        cases rs
        · have NXR := Lib.hid (show false = kU.up L (i + 1) from by rw [UPS.out, ← RSI.out]; rfl)
          go_upto_region 11 with fail
          refine wp_region_quiet_still w3 (Still.refl _) (by kernel_rfl) (by kernel_rfl) ?_
          repeat (first
            | quiet_step ((fail)))
          refine wpQuiet_nil ?_
          intro wq hw'
          have SQ3 := Lib.hid (show Still w3 wq from by obtain ⟨p, rfl⟩ := hw'; exact p.still)
          clear hw'
          go_simp
          go_wp2_with fail
          go_roundw
          case rel => exact ⟨i + 1, v3, gn, false, HI.out, rfl, rfl, rfl, by go_num, Lib.hid ⟨NXM.out.still SQ3.out, NXG.out, NXR.out, Still.trans SV3.out SQ3.out⟩⟩
          case measure => simp [intOf]; have := HI.out; omega
        · by_cases hi0 : i = 0
          · subst hi0
            have NXR := Lib.hid (show true = kU.up L (0 + 1) from by rw [UPS.out]; rfl)
            go_upto_region 11 with fail
            refine wp_region_quiet_still w3 (Still.refl _) (by kernel_rfl) (by kernel_rfl) ?_
            repeat (first
              | quiet_step ((fail)))
            refine wpQuiet_nil ?_
            intro wq hw'
            have SQ3 := Lib.hid (show Still w3 wq from by obtain ⟨p, rfl⟩ := hw'; exact p.still)
            clear hw'
            go_simp
            go_wp2_with fail
            go_roundw
            case rel => exact ⟨0 + 1, v3, gn, true, HI.out, rfl, rfl, rfl, by go_num, Lib.hid ⟨NXM.out.still SQ3.out, NXG.out, NXR.out, Still.trans SV3.out SQ3.out⟩⟩
            case measure => simp [intOf]; have := HI.out; omega
          · obtain ⟨j, hj⟩ : ∃ j, i = j + 1 := ⟨i - 1, by omega⟩
            obtain ⟨a, ha⟩ : ∃ a, L[j]? = some a := ⟨_, List.getElem?_eq_getElem (by have := HLN.out; have := HI.out; omega)⟩
            have OAA := Lib.hid (OK.out a (List.mem_of_getElem? ha))
            have QB := Lib.hid (fun W (s : Still w W) => show W.rangeAt bb (o + j * 3) (rowV a) from by
              obtain ⟨b2, o2, e, _, h2⟩ := (HR.out _ s).at_ ha
              cases e
              exact h2)
            have e1 : (i : Int) - 1 = (j : Int) := by omega
            have ew : IntKind.i64.wrap (j : Int) = (j : Int) := by rw [IntKind.wrap_i64]; omega
            have ei : ((i : Int) == 0) = false := by simp; omega
            have j1 : (j : Int) < (n : Int) := by omega
            have NXR := Lib.hid (show kU.lt a r = kU.up L (i + 1) from by
              rw [UPS.out, ← RSI.out, show L.getD (i - 1) rw0 = a by rw [hj, Nat.add_sub_cancel]; simp [List.getD, ha]]
              simp [hi0])
            obtain ⟨q, hq⟩ : ∃ q, q = kU.lt a r := ⟨_, rfl⟩
            obtain ⟨xa, ya, za, hxa⟩ : ∃ x y z, a.2 = [x, y, z] := by
              match hq : a.2, OAA.out.2 with
              | [x, y, z], _ => exact ⟨x, y, z, rfl⟩
            have QLT := Lib.hid (show decide (xa < x) = q from by
              rw [hq]
              show _ = decide (a.2.getD 0 0 < r.2.getD 0 0)
              rw [hxa, HX0.out]; rfl)
            have ql := QLT.out
            have ka : ∀ p : StillBy w3, p.W.cell? ⟨bb, o + j * 3, none⟩ = some (.int .i64 xa) := fun p => by
              have c0 := rangeAt_num (QB.out p.W (Still.trans SV3.out p.still)) (j := 0) (z := xa) (by rw [hxa]; rfl)
              rwa [OAA.out.1] at c0
            have kr : ∀ p : StillBy w3, p.W.cell? ⟨bb, o + i * 3, none⟩ = some (.int .i64 x) := fun p => (CN.out p.W (Still.trans SV3.out p.still)).1
            rw [← hq] at NXR
            clear hj ha hq hi0 hxa
            go_upto_region 11 with fail
            refine wp_region_quiet_still w3 (Still.refl _) (by kernel_rfl) (by kernel_rfl) ?_
            repeat (first
              | quiet_step ((fail)))
            refine wpQuiet_nil ?_
            intro wq hw'
            have SQ3 := Lib.hid (show Still w3 wq from by obtain ⟨p, rfl⟩ := hw'; exact p.still)
            clear hw' e1 ew
            clear ka kr ql
            go_simp
            go_wp2_with fail
            go_roundw
            case rel => exact ⟨i + 1, v3, gn, q, HI.out, rfl, rfl, rfl, by go_num, Lib.hid ⟨NXM.out.still SQ3.out, NXG.out, NXR.out, Still.trans SV3.out SQ3.out⟩⟩
            case measure => simp [intOf]; have := HI.out; omega
    · have hin : i = n := by omega
      subst hin
      have d1 : ¬ (i : Int) < (i : Int) := by omega
      have TN := Lib.hid (show L.take i = L by rw [← HLN.out, List.take_length])
      have GE := Lib.hid (show gd = L.all okR from by have := IN.out.2.1; rwa [TN.out] at this)
      have RE := Lib.hid (show rs = kU.up L L.length from by have := IN.out.2.2.1; rwa [← HLN.out] at this)
      have SW := Lib.hid IN.out.2.2.2
      cases gd
      · have BW := Lib.hid (show kU.wr L = ([], 2) from by unfold Kd.wr; rw [← GE.out]; simp)
        clear IN hlt
        go_wp2_with fail
        (try simp only [Exit.inBlock, Exit.then])
        go_ret2
        rw [BW.out]
        exact ⟨none, 0, rfl, Reads.nil0, Nat.le_refl _, by omega, fun _ => rfl, SW.out⟩
      · cases rs
        · have BW := Lib.hid (show kU.wr L = ([], 18) from by unfold Kd.wr; rw [← GE.out, ← RE.out]; simp)
          clear IN hlt
          go_wp2_with fail
          (try simp only [Exit.inBlock, Exit.then])
          go_ret2
          rw [BW.out]
          exact ⟨none, 0, rfl, Reads.nil0, Nat.le_refl _, by omega, fun _ => rfl, SW.out⟩
        · obtain ⟨bd, hbd⟩ : ∃ bd, bd = kU.body L := ⟨_, rfl⟩
          have BW := Lib.hid (show kU.wr L = (sumB bd, 0) from by unfold Kd.wr; rw [← GE.out, ← RE.out, hbd]; simp)
          have MB := Lib.hid (show MRow wr w.heap.size v bd from by
            have := IN.out.1
            rw [TN.out, rowsW_ok GE.out.symm] at this
            rw [hbd, Kd.body, HLN.out]
            exact this)
          have BL := Lib.hid (show bd.length ≤ 12 + 44 * 65536 from by
            have h1 := LEN.out i (by omega)
            rw [TN.out, rowsW_ok GE.out.symm] at h1
            have h2 := HDL.out
            rw [hbd, Kd.body, List.length_append, HLN.out]
            omega)
          have CL := Lib.hid (closed_any MB.out (by have := BL.out; omega) SW.out.size)
          clear IN hlt hbd
          go_wp2_with (go_at_call 38; with_reducible refine CL.out.mono ?_; rintro e w5 ⟨v5, rfl, g5⟩; have G5 := Lib.hid g5; clear g5)
          (try simp only [Exit.inBlock, Exit.then])
          go_ret2
          obtain ⟨A9, c9, rfl, g1, g2', g3⟩ := G5.out.row.form
          rw [BW.out]
          exact ⟨A9, c9, rfl, G5.out.row.reads, g1, g2', fun e => (g3 e).2, G5.out.still w (Nat.le_refl _) SW.out⟩
end Go.Proofs.Ytgbkpbmilaafgaa

/- Contract: the law's few. It proves no statement. -/


namespace Go.Proofs.Ytgbkpbmilaafgaa
open Go.RowKit
set_option linter.unusedVariables false
set_option linter.unusedSimpArgs false

set_option maxRecDepth 100000 in
set_option maxHeartbeats 1600000 in
/-- Rows that need not be there: a slice of n with an address if n is more than nothing. -/
theorem few_raw (w : World) (A0 A1 A2 : Option Addr) (n0 c0 n1 c1 n2 c2 : Nat) (f0 : n0 ≤ c0) (f1 : n1 ≤ c1) (f2 : n2 ≤ c2) (m0 : c0 ≤ 9223372036854775807) (m1 : c1 ≤ 9223372036854775807) (m2 : c2 ≤ 9223372036854775807)
    (s0 : 0 < n0 → ∃ b o, A0 = some ⟨b, o, none⟩) (s1 : 0 < n1 → ∃ b o, A1 = some ⟨b, o, none⟩) (s2 : 0 < n2 → ∃ b o, A2 = some ⟨b, o, none⟩) :
    Calls Try.prog 8 #[.slice A0 n0 c0, .slice A1 n1 c1, .slice A2 n2 c2] w fun e w' => e = .returned (.tuple #[.slice A0 (min n0 30) c0, .slice A1 (min n1 30) c1, .slice A2 (min n2 30) c2]) ∧ w = w' := by
  have z : 0 < 30 := by decide
  rcases Nat.lt_or_ge 30 n0 with g0 | g0 <;> rcases Nat.lt_or_ge 30 n1 with g1 | g1 <;> rcases Nat.lt_or_ge 30 n2 with g2 | g2
  all_goals first
    | (guard_hyp g0 : 30 < n0; obtain ⟨b0, o0, rfl⟩ := s0 (Nat.lt_trans z g0))
    | skip
  all_goals first
    | (guard_hyp g1 : 30 < n1; obtain ⟨b1, o1, rfl⟩ := s1 (Nat.lt_trans z g1))
    | skip
  all_goals first
    | (guard_hyp g2 : 30 < n2; obtain ⟨b2, o2, rfl⟩ := s2 (Nat.lt_trans z g2))
    | skip
  all_goals first
    | rw [Nat.min_eq_right (Nat.le_of_lt g0)]
    | rw [Nat.min_eq_left g0]
  all_goals first
    | rw [Nat.min_eq_right (Nat.le_of_lt g1)]
    | rw [Nat.min_eq_left g1]
  all_goals first
    | rw [Nat.min_eq_right (Nat.le_of_lt g2)]
    | rw [Nat.min_eq_left g2]
  all_goals
    clear s0 s1 s2 z
    go_enter Try.func8, Try.ntmps8
    go_wp2
    go_ret3
    exact ⟨rfl, rfl⟩
theorem few_any {w : World} {A0 A1 A2 : Option Addr} {n0 c0 n1 c1 n2 c2 : Nat} {L0 L1 L2 : List Rw} (h0 : RwRow kI w A0 n0 c0 L0) (h1 : RwRow kC w A1 n1 c1 L1) (h2 : RwRow kU w A2 n2 c2 L2) :
    Calls Try.prog 8 #[.slice A0 n0 c0, .slice A1 n1 c1, .slice A2 n2 c2] w fun e w' => e = .returned (.tuple #[.slice A0 (min n0 30) c0, .slice A1 (min n1 30) c1, .slice A2 (min n2 30) c2]) ∧ w = w' :=
  few_raw w A0 A1 A2 n0 c0 n1 c1 n2 c2 h0.row.fit h1.row.fit h2.row.fit h0.row.cap h1.row.cap h2.row.cap
    (fun hn => let ⟨b, o, e, _⟩ := h0.some_ hn; ⟨b, o, e⟩) (fun hn => let ⟨b, o, e, _⟩ := h1.some_ hn; ⟨b, o, e⟩) (fun hn => let ⟨b, o, e, _⟩ := h2.some_ hn; ⟨b, o, e⟩)
end Go.Proofs.Ytgbkpbmilaafgaa

/- Contract: whether any book is written at all. It proves no statement. -/

namespace Go.Proofs.Ytgbkpbmilaafgaa
open Go.RowKit
set_option linter.unusedVariables false
set_option linter.unusedSimpArgs false

theorem wr_none : (kI.wr []).2 = 0 ∧ (kI.wr []).1.length = 20 ∧ (kI.wr []).1.getD 0 0 = 72 := by
  have e : kI.wr [] = (sumB (kI.body []), 0) := rfl
  rw [e]
  have h : (kI.body []).length = 12 := by rw [body_length rfl (by simp)]; rfl
  refine ⟨rfl, by rw [sumB_length, h], ?_⟩
  rfl
theorem row_none (w : World) : RwRow kI w none 0 0 [] := ⟨⟨fun i x hx => by simp at hx, rfl, Nat.le_refl _, by omega⟩, fun r hr => by simp at hr, fun r hr => by simp at hr⟩
set_option maxRecDepth 100000 in
set_option maxHeartbeats 1600000 in
theorem lives_any (w : World) : Calls Try.prog 16 #[] w fun e w' => e = .returned (.bool true) ∧ Still w w' := by
  have PU := Lib.hid (put_i (row_none w) (by omega))
  obtain ⟨h1, h2, h3⟩ := wr_none
  obtain ⟨R, hR⟩ : ∃ R, R = kI.wr [] := ⟨_, rfl⟩
  rw [← hR] at PU h1 h2 h3
  rw [h1, h2] at PU
  have H3 := Lib.hid h3
  clear hR h1 h2 h3
  go_enter Try.func16, Try.ntmps16
  go_upto_region 2 with (go_at_call 9; with_reducible refine PU.out.mono ?_; rintro e w1 ⟨A', c', rfl, q2, q3, q4, q5, s1⟩; have S1 := Lib.hid s1; have Q2 := Lib.hid q2; have Q3 := Lib.hid (And.intro q3 q4); clear q2 q3 q4 q5 s1)
  obtain ⟨b, o, rfl, hb, hc⟩ := Q2.out.at_ (by omega)
  have c0 := hc 0 (by omega)
  rw [H3.out, Nat.add_zero] at c0
  replace c0 : w1.cell? ⟨b, o, none⟩ = some (.int .u8 72) := c0
  have z : (20 : Int) ≤ (c' : Int) := by have := Q3.out; omega
  clear hc hb
  go_wp2

  go_ret
  exact ⟨rfl, S1.out⟩
end Go.Proofs.Ytgbkpbmilaafgaa
