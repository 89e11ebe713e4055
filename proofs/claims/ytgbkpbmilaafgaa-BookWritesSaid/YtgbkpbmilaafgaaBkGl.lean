/- Contracts and facts, several texts in one. It proves no statement. -/
import Derived.Test.YtgbkpbmilaafgaaBkGf
import Derived.Test.YtgbkpbmilaafgaaBkGg
import Derived.Test.YtgbkpbmilaafgaaBkGh
import Derived.Test.YtgbkpbmilaafgaaBkGk

/- Contract: rows as a book (index), by the program. It proves no statement. -/




namespace Go.Proofs.Ytgbkpbmilaafgaa
open Go.RowKit
set_option linter.unusedVariables false
set_option linter.unusedSimpArgs false

set_option maxRecDepth 100000 in
set_option maxHeartbeats 6400000 in
theorem write_i {w : World} {A : Option Addr} {n c : Nat} {L : List Rw} (h : RwRow kI w A n c L) (hn : n ≤ 65536) :
    Calls Try.prog 29 #[.agg kV_i, .slice A n c] w fun e w' => ∃ A' c', e = .returned (.tuple #[.slice A' (kI.wr L).1.length c', .int .i64 (kI.wr L).2]) ∧ Reads w' w'.heap.size A' (kI.wr L).1.length (kI.wr L).1 ∧ (kI.wr L).1.length ≤ c' ∧ c' ≤ 9223372036854775807 ∧ (A' = none → c' = 0) ∧ Still w w' := by
  obtain ⟨wA, hwA⟩ : ∃ wA, wA = w.alloc (.cells kV_i 71) := ⟨_, rfl⟩
  obtain ⟨g, hg⟩ : ∃ g, g = w.heap.size := ⟨_, rfl⟩
  have sA : Still w wA := by rw [hwA]; exact (Still.refl w).alloc (Nat.le_refl _) _
  have kb : ∀ W, Still wA W → Blk W g 71 kV_i := fun W s => by
    refine Blk.still (w := wA) ?_ s
    rw [hwA, hg]; exact Blk.new w _ _
  have CK := Lib.hid (fun W (s : Still wA W) => show W.cell? ⟨g, 0, none⟩ = some (.string ⟨#[72, 79, 65, 82, 68, 73, 68, 88]⟩) ∧ W.cell? ⟨g, 2, none⟩ = some (.func (.func 49) #[] #[]) from ⟨(kb W s).cell 0, (kb W s).cell 2⟩)
  have KB := Lib.hid kb
  have HR := Lib.hid (fun W (s : Still wA W) => h.still (Still.trans sA s))
  have hlen := h.len
  have HWA := Lib.hid hwA
  have HG := Lib.hid hg
  have SA := Lib.hid sA
  have OK := Lib.hid h.ok
  have BD := Lib.hid h.bd
  have HLN := Lib.hid hlen
  obtain ⟨kv, hkv⟩ : ∃ kv, kv = kV_i := ⟨_, rfl⟩
  have HKV := Lib.hid hkv
  rw [← hkv] at HWA ⊢
  have d3 : (n : Int) ≤ 65536 := by omega
  have d4 : (n : Int) ≤ (c : Int) := by have := h.row.fit; omega
  obtain ⟨nm, hnm⟩ : ∃ nm : ByteArray, nm = ⟨#[72, 79, 65, 82, 68, 73, 68, 88]⟩ := ⟨_, rfl⟩
  have NM := Lib.hid (show nm.data.toList = kI.nm ∧ nm.size = 8 by rw [hnm]; exact ⟨rfl, rfl⟩)
  rw [← hnm] at CK
  have PUT := Lib.hid (fun (x k : Nat) W (hx : x < 18446744073709551616) (h1 : 1 ≤ k) (h2 : k ≤ 8) => put_yes x k W hx h1 h2)
  have kc := fun W => Lib.run_convert_string_bytes (P := Try.prog) W 9 27 5 nm Try.underlying9 Try.underlying27 Try.underlying5
  have ko := fun W a (ha : a.block < W.heap.size) => Lib.bytesWorld_old W 5 nm a ha
  clear hwA hg sA kb h hn hlen hkv hnm
  go_enter Try.func29, Try.ntmps29
  go_upto_region 3 with (guard_target =~ wpList _ _ _ (Oper.mk (some 2) _ _ _ _ _ :: _) _ _; go_must (refine wpList_box_val rfl 71 (.tmp 0) rfl (some 2) rfl kv rfl ?_); rw [← HWA.out, ← HG.out])
  go_cut [6] (fun bv wx => Hid (MRow wx wA.heap.size bv (kI.head n) ∧ Still wA wx))
  case first =>
    have PT := Lib.hid (fun W => PUT.out n 4 W (by omega) (by omega) (by omega))
    simp only [show ((4 : Nat) : Int) = 4 from rfl] at PT
    have eu : IntKind.u64.wrap (n : Int) = (n : Int) := by rw [IntKind.wrap_u64]; omega
    have c0 : wA.drew.cell? ⟨g, 0, none⟩ = some (.string nm) := (CK.out _ (Still.refl _).drew).1
    refine wp_region_held_drew (S := fun W => W.cell? ⟨g, 0, none⟩ = some (.string nm)) (by kernel_rfl) c0 (fun hHeld => ?_)
    refine' wpAnyH_take (i := 0) (oi := ⟨some 16, _, _, _, _, _⟩) (v := _) rfl (by kernel_rfl) (by kernel_rfl) (by kernel_rfl) (fun _ _ _ h => h) (Or.inl ⟨by rfl, ?hy0⟩) (by assumption) ?rest0
    case hy0 => (intro w9 hSw; (try dsimp only at hSw); go_simp; try with_reducible rfl)
    simp only [Act.put, List.setIfInBounds_toArray, List.set_cons_zero, List.set_cons_succ]
    refine' wpAnyH_take (i := 1) (oi := ⟨some 17, _, _, _, _, _⟩) (v := _) rfl (by kernel_rfl) (by kernel_rfl) (by kernel_rfl) (fun _ _ _ h => h) (Or.inl ⟨by rfl, ?hy1⟩) (by assumption) ?rest1
    case hy1 => (intro w9 hSw; (try dsimp only at hSw); go_simp; try with_reducible rfl)
    simp only [Act.put, List.setIfInBounds_toArray, List.set_cons_zero, List.set_cons_succ]
    refine' wpAnyH_take (i := 3) (oi := ⟨some 19, _, _, _, _, _⟩) (v := _) rfl (by kernel_rfl) (by kernel_rfl) (by kernel_rfl) (fun _ _ _ h => h) (Or.inl ⟨by rfl, ?hy3⟩) (by assumption) ?rest3
    case hy3 => (intro w9 hSw; (try dsimp only at hSw); go_simp; try with_reducible rfl)
    simp only [Act.put, List.setIfInBounds_toArray, List.set_cons_zero, List.set_cons_succ]
    refine' wpAnyH_take (i := 4) (oi := ⟨some 20, _, _, _, _, _⟩) (v := _) rfl (by kernel_rfl) (by kernel_rfl) (by kernel_rfl) (fun _ _ _ h => h) (Or.inl ⟨by rfl, ?hy4⟩) (by assumption) ?rest4
    case hy4 => (intro w9 hSw; (try dsimp only at hSw); go_simp; try with_reducible rfl)
    simp only [Act.put, List.setIfInBounds_toArray, List.set_cons_zero, List.set_cons_succ]
    refine' wpAnyH_take (i := 5) (oi := ⟨some 21, _, _, _, _, _⟩) (v := _) rfl (by kernel_rfl) (by kernel_rfl) (by kernel_rfl) (fun _ _ _ h => h) (Or.inl ⟨by rfl, ?hy5⟩) (by assumption) ?rest5
    case hy5 => (intro w9 hSw; (try dsimp only at hSw); go_simp; try with_reducible rfl)
    simp only [Act.put, List.setIfInBounds_toArray, List.set_cons_zero, List.set_cons_succ]
    refine wpAnyH_ready (rs := [2, 6]) (by kernel_rfl) (by simp) ?_
    refine AllReadyH.cons rfl (fun K1 hK1 => ?_) (AllReadyH.cons rfl (fun K2 hK2 => ?_) AllReadyH.nil)
    · go_simp
      have MB := Lib.hid (mrow_bytes wA.drew nm (by rw [NM.out.2]; omega))
      refine hK1.out _ _ ?_ (fun hHeld => ?_)
      · exact (CK.out _ (Still.trans (Still.refl _).drew MB.out.2)).1
      clear hK1 K1 hHeld
      obtain ⟨wB, hwB⟩ : ∃ wB, wB = Lib.bytesWorld wA.drew 5 nm := ⟨_, rfl⟩
      obtain ⟨cB, hcB⟩ : ∃ cB, cB = grownCap wA.drew nm.size 0 5 := ⟨_, rfl⟩
      rw [← hwB, ← hcB] at MB
      rw [← hwB, ← hcB]
      clear hwB hcB
      try simp only [Act.put, List.setIfInBounds_toArray, List.set_cons_zero, List.set_cons_succ]
      refine wpAnyH_ready (rs := [6]) (by kernel_rfl) (by simp) ?_
      refine AllReadyH.cons rfl (fun K9 hK9 => ?_) AllReadyH.nil
      go_simp
      go_at_call 46
      with_reducible refine (PT.out _).mono ?_
      rintro e w1 ⟨rfl, o1, s1⟩
      have M1 := Lib.hid (show MRow w1 wA.heap.size _ _ from MB.out.1.still s1)
      have O1 := Lib.hid (Reads.of_own o1)
      have S1 := Lib.hid (show Still wA w1 from Still.trans (Still.trans (Still.refl _).drew MB.out.2) s1)
      clear o1 s1
      go_wp2_with fail
      refine hK9.out _ _ ?_ (fun hHeld => ?_)
      · exact (CK.out _ S1.out).1
      clear hK9 K9 hHeld
      try simp only [Act.put, List.setIfInBounds_toArray, List.set_cons_zero, List.set_cons_succ]
      refine wpAnyH_ready (rs := [7]) (by kernel_rfl) (by simp) ?_
      refine AllReadyH.cons rfl (fun K9 hK9 => ?_) AllReadyH.nil
      refine if_addsM (o := ⟨some 23, _, _, _, _, _⟩) w1 rfl (.tmp 18) (.tmp 22) rfl wA.heap.size _ nm.data.toList rfl M1.out _ 4 4 _ (leBytes n 4) rfl O1.out (fun e => by cases e) (by have := NM.out; simp; omega) S1.out.size ?_
      intro v' w2 m2 gr2 _
      have M2 := Lib.hid m2
      have S2 := Lib.hid (M1.out.next (Nat.le_refl _) S1.out gr2)
      clear m2 gr2
      refine hK9.out _ _ ?_ (fun hHeld => ?_)
      · exact (CK.out _ S2.out).1
      clear hK9 K9
      try simp only [Act.put, List.setIfInBounds_toArray, List.set_cons_zero, List.set_cons_succ]
      refine' wpAnyH_take (i := 8) (oi := ⟨some 6, _, _, _, _, _⟩) (v := _) rfl (by kernel_rfl) (by kernel_rfl) (by kernel_rfl) (fun _ _ _ h => h) (Or.inl ⟨by rfl, ?hy8⟩) (by assumption) ?rest8
      case hy8 => (intro w9 hSw; (try dsimp only at hSw); go_simp; try with_reducible rfl)
      simp only [Act.put, List.setIfInBounds_toArray, List.set_cons_zero, List.set_cons_succ]
      refine wpAnyH_done (by kernel_rfl) ?_ _
      clear hHeld
      go_simp
      go_wp2_with fail
      go_meet
      case rel => exact Lib.hid ⟨by have := M2.out; rw [NM.out.1] at this; exact this, S2.out⟩
    · go_simp
      go_at_call 46
      with_reducible refine (PT.out _).mono ?_
      rintro e w1 ⟨rfl, o1, s1⟩
      have O1 := Lib.hid (Reads.of_own o1)
      have S1 := Lib.hid (show Still wA w1 from Still.trans (Still.refl _).drew s1)
      clear o1 s1
      go_wp2_with fail
      refine hK2.out _ _ ?_ (fun hHeld => ?_)
      · exact (CK.out _ S1.out).1
      clear hK2 K2 hHeld
      try simp only [Act.put, List.setIfInBounds_toArray, List.set_cons_zero, List.set_cons_succ]
      have MB := Lib.hid (mrow_bytes w1 nm (by rw [NM.out.2]; omega))
      refine wpAnyH_ready (rs := [2]) (by kernel_rfl) (by simp) ?_
      refine AllReadyH.cons rfl (fun K9 hK9 => ?_) AllReadyH.nil
      go_simp
      refine hK9.out _ _ ?_ (fun hHeld => ?_)
      · exact (CK.out _ (Still.trans S1.out MB.out.2)).1
      clear hK9 K9 hHeld
      obtain ⟨wB, hwB⟩ : ∃ wB, wB = Lib.bytesWorld w1 5 nm := ⟨_, rfl⟩
      obtain ⟨cB, hcB⟩ : ∃ cB, cB = grownCap w1 nm.size 0 5 := ⟨_, rfl⟩
      rw [← hwB, ← hcB] at MB
      rw [← hwB, ← hcB]
      clear hwB hcB
      try simp only [Act.put, List.setIfInBounds_toArray, List.set_cons_zero, List.set_cons_succ]
      have M1 := Lib.hid (MB.out.1.lower S1.out.size)
      have O2 := Lib.hid (O1.out.still (Nat.le_refl _) MB.out.2)
      have SB := Lib.hid (Still.trans S1.out MB.out.2)
      refine wpAnyH_ready (rs := [7]) (by kernel_rfl) (by simp) ?_
      refine AllReadyH.cons rfl (fun K9 hK9 => ?_) AllReadyH.nil
      refine if_addsM (o := ⟨some 23, _, _, _, _, _⟩) wB rfl (.tmp 18) (.tmp 22) rfl wA.heap.size _ nm.data.toList rfl M1.out _ 4 4 _ (leBytes n 4) rfl O2.out (fun e => by cases e) (by have := NM.out; simp; omega) SB.out.size ?_
      intro v' w2 m2 gr2 _
      have M2 := Lib.hid m2
      have S2 := Lib.hid (M1.out.next (Nat.le_refl _) SB.out gr2)
      clear m2 gr2
      refine hK9.out _ _ ?_ (fun hHeld => ?_)
      · exact (CK.out _ S2.out).1
      clear hK9 K9
      try simp only [Act.put, List.setIfInBounds_toArray, List.set_cons_zero, List.set_cons_succ]
      refine' wpAnyH_take (i := 8) (oi := ⟨some 6, _, _, _, _, _⟩) (v := _) rfl (by kernel_rfl) (by kernel_rfl) (by kernel_rfl) (fun _ _ _ h => h) (Or.inl ⟨by rfl, ?hy8b⟩) (by assumption) ?rest8b
      case hy8b => (intro w9 hSw; (try dsimp only at hSw); go_simp; try with_reducible rfl)
      simp only [Act.put, List.setIfInBounds_toArray, List.set_cons_zero, List.set_cons_succ]
      refine wpAnyH_done (by kernel_rfl) ?_ _
      clear hHeld
      go_simp
      go_wp2_with fail
      go_meet
      case rel => exact Lib.hid ⟨by have := M2.out; rw [NM.out.1] at this; exact this, S2.out⟩
  case rest =>
    have SC := Lib.hid hcut.out.2
    have MC := Lib.hid hcut.out.1
    clear hcut
    have LEN := Lib.hid (fun (i : Nat) (hi : i ≤ n) => show (rowsB (L.take i)).length ≤ 44 * 65536 from by
      rw [rowsB_length (fun r hr => OK.out r (List.mem_of_mem_take hr)), List.length_take]
      have h1 : kI.wide ≤ 44 := by decide
      have h2 : min i L.length ≤ 65536 := by omega
      exact Nat.mul_le_mul h1 h2)
    have HDL := Lib.hid (show (kI.head n).length = 12 from head_length rfl n)
    have CE := Lib.hid (fun r W (ok : kI.Ok r) => cells_i r W ok)
    have ck2 := CK.out
    go_wp2_with fail
    go_loopw [6, 26] (fun bv iv wr => ∃ (i : Nat) (v : Value), i ≤ n ∧ iv = .int .i64 i ∧ v = bv ∧ Hid (MRow wr wA.heap.size v (kI.head n ++ rowsB (L.take i)) ∧ (L.take i).all okR = true ∧ Still wA wr)) (fun _ iv _ => n - (intOf iv).toNat)
    case atStart => exact ⟨0, _, by omega, rfl, rfl, Lib.hid ⟨by rw [List.take_zero]; show MRow _ _ _ (_ ++ []); rw [List.append_nil]; exact MC.out, rfl, SC.out⟩⟩
    case round =>
      obtain ⟨i, v, hi, rfl, rfl, IN⟩ := hrel
      by_cases hlt : i < n
      · have SW := Lib.hid IN.out.2.2
        obtain ⟨r, hr⟩ : ∃ r, L[i]? = some r := ⟨_, List.getElem?_eq_getElem (by have := HLN.out; omega)⟩
        obtain ⟨bb, o, rfl, hbb, hrg⟩ := (HR.out _ SW.out).at_ hr
        have QA := Lib.hid (show wr.rangeAt bb (o + i * 35) (rowV r) from hrg)
        have OA := Lib.hid (OK.out r (List.mem_of_getElem? hr))
        have BA := Lib.hid (BD.out r (List.mem_of_getElem? hr))
        have SZA := Lib.hid (show (Try.prog.info? 66).map (·.size) = some (rowV r).length from by rw [sizeR_i, rowV_length, OA.out.1, OA.out.2]; rfl)
        have TK := Lib.hid (show L.take (i + 1) = L.take i ++ [r] from by rw [List.take_add_one, hr]; rfl)
        obtain ⟨rv, hrv⟩ : ∃ rv, rv = (rowV r).toArray := ⟨_, rfl⟩
        have RV := Lib.hid hrv
        obtain ⟨z0, hz0⟩ : ∃ z, z = (rowV (List.replicate 32 0, List.replicate 3 0)).toArray := ⟨_, rfl⟩
        have HZI := Lib.hid (show (Try.prog.info? 66).map (fun i => (i.zero, i.size)) = some (some (.agg z0), 35) by rw [hz0]; exact zero_i)
        obtain ⟨wX, hwX⟩ : ∃ wX, wX = wr.alloc (.cells z0 66) := ⟨_, rfl⟩
        obtain ⟨gx, hgx⟩ : ∃ gx, gx = wr.heap.size := ⟨_, rfl⟩
        obtain ⟨wY, hwY⟩ : ∃ wY, wY = wX.setRow gx rv := ⟨_, rfl⟩
        have bX : Blk wX gx 66 z0 := by rw [hwX, hgx]; exact Blk.new wr _ _
        have hwY2 : wY = wr.alloc (.cells rv 66) := by rw [hwY, hwX, hgx]; exact World.setRow_alloc_new _ _ _ _
        have sY : Still wr wY := by rw [hwY2]; exact (Still.refl wr).alloc (Nat.le_refl _) _
        have bY : Blk wY gx 66 rv := by rw [hwY2, hgx]; exact Blk.new wr _ _
        have QY := Lib.hid (show wY.rangeAt gx 0 (rowV r) from fun j u hj => by rw [Nat.zero_add, bY.cell, hrv, List.getElem?_toArray, hj])
        have SY := Lib.hid sY
        have BX := Lib.hid bX
        have HWX := Lib.hid hwX
        have HWY := Lib.hid hwY
        have GX := Lib.hid hgx
        have ZS := Lib.hid (show z0.size = 35 by rw [hz0]; simp [rowV_length])
        have RS := Lib.hid (show rv.size = 35 by rw [hrv]; simp only [List.size_toArray, rowV_length]; rw [OA.out.1, OA.out.2]; rfl)
        have R1 := Lib.hid (show rv.all (·.oneCell') = true by rw [hrv]; exact all_oneCell_toArray (rowV_one _))
        have kY : wY.cell? ⟨g, 2, none⟩ = some (.func (.func 49) #[] #[]) := (CK.out _ (Still.trans SW.out SY.out)).2
        have CE1 := Lib.hid (CE.out r wY OA.out)
        rw [← hrv] at CE1
        obtain ⟨fs, hu⟩ := under_i
        have UP := Lib.hid hu
        have d1 : (i : Int) < (n : Int) := by omega
        have MI := Lib.hid IN.out.1
        have AI := Lib.hid IN.out.2.1
        have HI := Lib.hid hlt
        clear hrg hbb hr hz0 hwX hgx hwY bX hwY2 sY bY hu IN hlt hrv
        go_upto_region 7 with (first
          | (guard_target =~ wpList _ _ _ (Oper.mk (some 29) _ _ _ _ _ :: _) _ _; go_must (refine wpList_load_mid rfl 66 (.tmp 28) rfl bb (o + i * 35) rfl (rowV r) _ QA.out UP.out rfl SZA.out ?_); rw [← RV.out])
          | (guard_target =~ wpList _ _ _ (Oper.mk (some 8) _ _ _ _ _ :: _) _ _; go_must (refine wpList_alloc_arr rfl 66 rfl (some 8) rfl z0 35 HZI.out ?_); rw [← HWX.out, ← GX.out])
          | (guard_target =~ wpList _ _ _ (Oper.mk none (Op.store _ _ _) _ _ _ _ :: _) _ _; go_must (refine wpList_store_rowTo rfl 66 (.tmp 8) (.tmp 29) rfl rfl gx rv rfl rfl 66 _ BX.out (by rw [sizeR_i, RS.out]) (by rw [ZS.out, RS.out]) R1.out ?_); rw [← HWY.out]))
        go_upto_region 8 with (first
          | (guard_target =~ wpList _ _ _ (Oper.mk (some 33) _ _ _ _ _ :: _) _ _; go_must (refine wpList_load_mid rfl 66 (.tmp 8) rfl gx 0 rfl (rowV r) _ QY.out UP.out rfl SZA.out ?_); rw [← RV.out])
          | (go_at_call 49; with_reducible refine CE1.out.mono ?_; rintro e w1 ⟨Ak, g2, rfl, s1, rk, bn, hg2⟩; have NG := Lib.hid hg2; have S1 := Lib.hid s1; have RK := Lib.hid rk; have BN := Lib.hid bn; clear s1 rk bn hg2))
        have M1 := Lib.hid (MI.out.still (Still.trans SY.out S1.out))
        have NA := Lib.hid (show Ak = none → (32 : Nat) = 0 from fun e => by
          obtain ⟨_, _, e2, _⟩ := RK.out.at_ (by omega)
          rw [e] at e2; cases e2)
        have SV := Lib.hid (show Still wA w1 from Still.trans SW.out (Still.trans SY.out S1.out))
        have VN := Lib.hid (show v.ownBlock ≠ some g2 from fun e => by
          have h1 := MI.out.lt _ e
          have h2 := NG.out
          have h3 := SY.out.size
          omega)
        go_upto_region 9 with (guard_target =~ wpList _ _ _ (Oper.mk (some 39) _ _ _ _ _ :: _) _ _; go_must (refine wpList_addsM (o := ⟨some 39, _, _, _, _, _⟩) w1 rfl (.tmp 37) (.tmp 38) rfl wA.heap.size v (kI.head n ++ rowsB (L.take i)) rfl M1.out Ak 32 32 _ r.1 rfl RK.out NA.out (by have := LEN.out i (by have := HI.out; omega); have := HDL.out; have := OA.out.1; rw [List.length_append]; omega) SV.out.size ?_); intro v2 w2 m2 gr2 at2; have M2 := Lib.hid m2; have GR2 := Lib.hid gr2; have AT2 := Lib.hid at2; clear m2 gr2 at2)
        have N2 := Lib.hid (show v2.ownBlock ≠ some g2 from fun e => by
          rcases AT2.out with h | h
          · exact VN.out (h.symm.trans e)
          · have h2 := BN.out.lt; rw [h] at e; have := Option.some.inj e; omega)
        have B2 := Lib.hid (show Blk w2 g2 3 (r.2.map (Value.int .i64)).toArray from (GR2.out.block g2 BN.out.lt (fun e => VN.out e.symm)).trans BN.out)
        have SV2 := Lib.hid (M1.out.next (Nat.le_refl _) SV.out GR2.out)
        obtain ⟨pre, hpre⟩ : ∃ pre, pre = kI.head n ++ rowsB (L.take i) ++ r.1 := ⟨_, rfl⟩
        rw [← hpre] at M2
        have PRE := Lib.hid hpre
        have PL := Lib.hid (show pre.length ≤ 12 + 44 * 65536 + 32 from by
          have := LEN.out i (by have := HI.out; omega); have := HDL.out; have := OA.out.1
          have : (kI.kl : Nat) ≤ 32 := by decide
          rw [hpre, List.length_append, List.length_append]; omega)
        have NB := Lib.hid (show r.2.length = 3 ∧ ∀ j z, r.2[j]? = some z → i64 z from ⟨OA.out.2, fun j z h => BA.out z (List.mem_of_getElem? h)⟩)
        have BADR := Lib.hid (show okR r = false → kI.wr L = ([], 2) from fun e => by
          unfold Kd.wr
          rw [if_pos]
          exact Bool.eq_false_iff.2 fun h => by
            have := List.all_eq_true.1 h r (List.mem_of_getElem? (by
              have := TK.out
              have h1 : (L.take (i + 1))[i]? = some r := by
                rw [this, List.getElem?_append_right (by rw [List.length_take]; omega), List.length_take, Nat.min_eq_left (by have := HLN.out; have := HI.out; omega), Nat.sub_self]; rfl
              rw [List.getElem?_take] at h1
              split at h1
              · exact h1
              · cases h1))
            rw [e] at this; cases this)
        clear hpre M1 NA SV VN AT2 GR2 RK
        go_wp2_with fail
        go_loopw [6, 42] (fun bv jv wq => ∃ (j : Nat) (u : Value), j ≤ 3 ∧ jv = .int .i64 j ∧ u = bv ∧ Hid (MRow wq wA.heap.size u (pre ++ numsB (r.2.take j)) ∧ (r.2.take j).all okN = true ∧ Blk wq g2 3 (r.2.map (Value.int .i64)).toArray ∧ u.ownBlock ≠ some g2 ∧ Still wA wq)) (fun _ jv _ => 3 - (intOf jv).toNat)
        case atStart => exact ⟨0, _, by omega, rfl, rfl, Lib.hid ⟨by rw [List.take_zero]; show MRow _ _ _ (_ ++ []); rw [List.append_nil]; exact M2.out, rfl, B2.out, N2.out, SV2.out⟩⟩
        case round =>
          obtain ⟨j, u, hj, rfl, rfl, JN⟩ := hrel
          clear M2 B2 N2 SV2
          by_cases hjm : j < 3
          · obtain ⟨z, hz⟩ : ∃ z, r.2[j]? = some z := ⟨_, List.getElem?_eq_getElem (by have := NB.out.1; omega)⟩
            have bz := NB.out.2 j z hz
            have cz : wr.cell? ⟨g2, j, none⟩ = some (.int .i64 z) := by rw [JN.out.2.2.1.cell, List.getElem?_toArray, List.getElem?_map, hz]; rfl
            have TKJ := Lib.hid (show r.2.take (j + 1) = r.2.take j ++ [z] from by rw [List.take_add_one, hz]; rfl)
            have j1 : (j : Int) < 3 := by omega
            by_cases hok : okN z = true
            · obtain ⟨x, rfl⟩ : ∃ x : Nat, z = (x : Int) := ⟨z.toNat, by have := okN_iff.1 hok; omega⟩
              have hx := okN_iff.1 hok
              have x1 : (0 : Int) ≤ (x : Int) := by omega
              have x2 : (x : Int) ≤ 4294967295 := hx.2
              have PX := Lib.hid (fun W => PUT.out x 4 W (by omega) (by omega) (by omega))
              simp only [show ((4 : Nat) : Int) = 4 from rfl] at PX
              have eu : IntKind.u64.wrap (x : Int) = (x : Int) := by rw [IntKind.wrap_u64]; omega
              clear hz hx hok bz
              go_wp2_with (first
                | (go_at_call 46; with_reducible refine (PX.out _).mono ?_; rintro e w3 ⟨rfl, o3, s3⟩; have O3 := Lib.hid (Reads.of_own o3); have S3 := Lib.hid s3; have M3 := Lib.hid (JN.out.1.still s3); have SV3 := Lib.hid (Still.trans JN.out.2.2.2.2 s3); clear o3 s3)
                | (guard_target =~ wpList _ _ _ (Oper.mk (some 57) _ _ _ _ _ :: _) _ _; go_must (refine wpList_addsM (o := ⟨some 57, _, _, _, _, _⟩) w3 rfl (.tmp 53) (.tmp 56) rfl wA.heap.size u (pre ++ numsB (r.2.take j)) rfl M3.out _ 4 4 _ (leBytes x 4) rfl O3.out (fun e => by cases e) (by have := PL.out; rw [List.length_append, numsB_length, List.length_take]; omega) SV3.out.size ?_); intro v3 w4 m3 gr3 at3; have M4 := Lib.hid m3; have GR4 := Lib.hid gr3; have AT4 := Lib.hid at3; clear m3 gr3 at3))
              have BL3 := JN.out.2.2.1.still S3.out
              go_roundw
              case rel =>
                refine ⟨j + 1, v3, by omega, by go_num, rfl, Lib.hid ⟨?_, ?_, ?_, ?_, M3.out.next (Nat.le_refl _) SV3.out GR4.out⟩⟩
                · have := M4.out
                  rw [TKJ.out, numsB_snoc, Int.toNat_natCast, ← List.append_assoc]
                  exact this
                · rw [TKJ.out, List.all_append, JN.out.2.1]
                  simp [okN_iff, x1, x2]
                · exact (GR4.out.block g2 BL3.lt (fun e => JN.out.2.2.2.1 e.symm)).trans BL3
                · intro e
                  rcases AT4.out with h | h
                  · exact JN.out.2.2.2.1 (h.symm.trans e)
                  · have h2 := BL3.lt; rw [h] at e; have := Option.some.inj e; omega
              case measure => simp [intOf]; omega
            · have BW := Lib.hid (BADR.out (by
                unfold okR
                exact Bool.eq_false_iff.2 fun h => hok (List.all_eq_true.1 h z (List.mem_of_getElem? hz))))
              have hb : z < 0 ∨ 4294967295 < z := by
                by_cases h0 : z < 0
                · exact .inl h0
                · exact .inr (by
                    have : ¬ (0 ≤ z ∧ z ≤ 4294967295) := fun h => hok (okN_iff.2 h)
                    omega)
              have SE := Lib.hid (Still.trans SA.out JN.out.2.2.2.2)
              clear hz hok BADR
              rcases hb with hb | hb
              · clear bz
                go_wp2_with fail
                (try simp only [Exit.inBlock, Exit.then])
                go_ret2
                rw [BW.out]
                exact ⟨none, 0, rfl, Reads.nil0, Nat.le_refl _, by omega, fun _ => rfl, SE.out⟩
              · have eu : IntKind.u64.wrap z = z := by rw [IntKind.wrap_u64]; unfold i64 at bz; omega
                have b0 : ¬ z < 0 := by omega
                clear bz
                go_wp2_with fail
                (try simp only [Exit.inBlock, Exit.then])
                go_ret2
                rw [BW.out]
                exact ⟨none, 0, rfl, Reads.nil0, Nat.le_refl _, by omega, fun _ => rfl, SE.out⟩
          · have hje : j = 3 := by omega
            subst hje
            have j1 : ¬ ((3 : Nat) : Int) < 3 := by omega
            have FULL := Lib.hid (show r.2.take 3 = r.2 from List.take_of_length_le (by have := NB.out.1; omega))
            clear hjm
            go_wp2_with fail
            go_roundw
            case rel =>
              refine ⟨i + 1, u, HI.out, by go_num, rfl, Lib.hid ⟨?_, ?_, JN.out.2.2.2.2⟩⟩
              · have := JN.out.1
                rw [FULL.out, PRE.out] at this
                rw [TK.out, rowsB_snoc]
                simpa [rowB, List.append_assoc] using this
              · have := JN.out.2.1
                rw [FULL.out] at this
                rw [TK.out, List.all_append, AI.out]
                simp [okR, this]
            case measure => simp [intOf]; have := HI.out; omega
      · have hin : i = n := by omega
        subst hin
        have SW := Lib.hid IN.out.2.2
        obtain ⟨bd, hbd⟩ : ∃ bd, bd = kI.body L := ⟨_, rfl⟩
        have TN := Lib.hid (show L.take i = L by rw [← HLN.out, List.take_length])
        have MB := Lib.hid (show MRow wr wA.heap.size v bd from by
          have := IN.out.1
          rw [TN.out] at this
          rw [hbd, Kd.body, HLN.out]
          exact this)
        have AOK := Lib.hid (show L.all okR = true from by have := IN.out.2.1; rwa [TN.out] at this)
        have BDH := Lib.hid hbd
        have BL := Lib.hid (show bd.length ≤ 12 + 44 * 65536 from by
          have h1 := LEN.out i (by omega)
          rw [TN.out] at h1
          have h2 := HDL.out
          rw [hbd, Kd.body, List.length_append, HLN.out]
          omega)
        clear IN hlt hbd
        obtain ⟨kl, hkl⟩ : ∃ kl, kl = kV_i.toList := ⟨_, rfl⟩
        have KL := Lib.hid (show kl.toArray = kV_i by rw [hkl])
        have KR := Lib.hid (show wr.rangeAt g 0 kl from fun q u hq => by
          rw [Nat.zero_add, (KB.out _ SW.out).cell, ← KL.out, List.getElem?_toArray, hq])
        have KS := Lib.hid (show (Try.prog.info? 71).map (·.size) = some kl.length from by rw [sizeKd_i, hkl]; rfl)
        obtain ⟨fk, hfk⟩ : ∃ fs, Try.prog.underlying 71 = some (.struct fs) := ⟨_, Try.underlying71⟩
        have UK := Lib.hid hfk
        have RI := Lib.hid (rise_i (HR.out _ SW.out) (by omega))
        rw [← KL.out] at RI
        have d1 : ¬ (i : Int) < (i : Int) := by omega
        obtain ⟨q, hq⟩ : ∃ q, q = kI.up L i := ⟨_, rfl⟩
        rw [← hq] at RI
        have UPQ := Lib.hid hq
        clear hkl hfk hq
        cases q
        · have BW := Lib.hid (show kI.wr L = ([], 18) from by
            unfold Kd.wr
            rw [AOK.out, HLN.out, ← UPQ.out]
            simp)
          go_wp2_with (first
            | (guard_target =~ wpList _ _ _ (Oper.mk (some 60) _ _ _ _ _ :: _) _ _; go_must (refine wpList_load_mid rfl 71 (.tmp 2) rfl g 0 rfl kl _ KR.out UK.out rfl KS.out ?_))
            | (go_at_call 47; with_reducible refine RI.out.mono ?_; rintro e w5 ⟨rfl, s5⟩; have S5 := Lib.hid s5; clear s5))
          (try simp only [Exit.inBlock, Exit.then])
          go_ret2
          rw [BW.out]
          exact ⟨none, 0, rfl, Reads.nil0, Nat.le_refl _, by omega, fun _ => rfl, Still.trans SA.out (Still.trans SW.out S5.out)⟩
        · have BW := Lib.hid (show kI.wr L = (sumB bd, 0) from by
            unfold Kd.wr
            rw [AOK.out, HLN.out, ← UPQ.out, BDH.out]
            simp)
          obtain ⟨Av, cv, rfl, f1, f2, f3⟩ := MB.out.form
          have XS := Lib.hid (fun W (s : Still wr W) => xsum_any Av bd.length cv bd 0 W wr.heap.size (MB.out.reads.still (Nat.le_refl _) s) s.size (by have := BL.out; omega) f1 f2 (fun e => (f3 e).2) (by decide))
          obtain ⟨sq, hsq⟩ : ∃ sq, sq = xxSum bd 0 := ⟨_, rfl⟩
          have SQ := Lib.hid hsq
          have sql : sq < 18446744073709551616 := by rw [hsq]; exact xxSum_lt _ _
          simp only [← hsq, show ((0 : Nat) : Int) = 0 from rfl] at XS
          have PQ := Lib.hid (fun W => PUT.out sq 8 W sql (by omega) (by omega))
          simp only [show ((8 : Nat) : Int) = 8 from rfl] at PQ
          clear hsq sql f1 f2 f3
          go_wp2_with (first
            | (guard_target =~ wpList _ _ _ (Oper.mk (some 60) _ _ _ _ _ :: _) _ _; go_must (refine wpList_load_mid rfl 71 (.tmp 2) rfl g 0 rfl kl _ KR.out UK.out rfl KS.out ?_))
            | (go_at_call 47; with_reducible refine RI.out.mono ?_; rintro e w5 ⟨rfl, s5⟩; have S5 := Lib.hid s5; clear s5)
            | (go_at_call 48; with_reducible refine (XS.out _ S5.out).mono ?_; rintro e w6 ⟨rfl, s6⟩; have S6 := Lib.hid (Still.trans S5.out s6); clear s6)
            | (go_at_call 46; with_reducible refine (PQ.out _).mono ?_; rintro e w7 ⟨rfl, o7, s7⟩; have O7 := Lib.hid (Reads.of_own o7); have S7 := Lib.hid (Still.trans S6.out s7); have M7 := Lib.hid (MB.out.still S7.out); have SV7 := Lib.hid (Still.trans SW.out S7.out); clear o7 s7)
            | (guard_target =~ wpList _ _ _ (Oper.mk (some 68) _ _ _ _ _ :: _) _ _; go_must (refine wpList_addsM (o := ⟨some 68, _, _, _, _, _⟩) w7 rfl (.tmp 64) (.tmp 67) rfl wA.heap.size _ bd rfl M7.out _ 8 8 _ (leBytes sq 8) rfl O7.out (fun e => by cases e) (by have := BL.out; omega) SV7.out.size ?_); intro v8 w8 m8 gr8 at8; have M8 := Lib.hid m8; have S8 := Lib.hid (M7.out.next (Nat.le_refl _) SV7.out gr8); clear m8 gr8 at8))
          (try simp only [Exit.inBlock, Exit.then])
          go_ret2
          have m9 : MRow w8 wA.heap.size v8 (sumB bd) := by
            have := M8.out
            rw [SQ.out] at this
            exact this
          obtain ⟨A9, c9, rfl, g1, g2', g3⟩ := m9.form
          rw [BW.out]
          exact ⟨A9, c9, rfl, m9.reads, g1, g2', fun e => (g3 e).2, Still.trans SA.out S8.out⟩
end Go.Proofs.Ytgbkpbmilaafgaa

/- Contract: a text out of a reader that Open made. It proves no statement. -/


namespace Go.Proofs.Ytgbkpbmilaafgaa
open Go.RowKit
set_option linter.unusedVariables false
set_option linter.unusedSimpArgs false

theorem text_any {w : World} {lo B g : Nat} {l : List UInt8} {x : Int} (h : LiveAny w lo B g l x) (y : Int) :
    Calls Try.prog 83 #[.pointer (some ⟨g, 0, none⟩), .int .i64 y] w fun e w' =>
      e = .returned (.string ⟨(rstep l x y false).2.toArray⟩) ∧ LiveAny w' lo B g (rstep l x y false).1.1 (rstep l x y false).1.2 ∧ w.grownBy w' (some g) := by
  obtain ⟨A, n, c, h⟩ := h
  generalize hst : rstep l x y false = st
  have ht := take_any h y
  rw [hst] at ht
  clear hst
  obtain ⟨⟨l1, x1⟩, p1⟩ := st
  simp only at ht ⊢
  go_enter Try.func83, Try.ntmps83
  go_wp2_with fail
  refine ht.mono ?_
  rintro e w1 ⟨A1, k, A', n', c', rfl, lv, ha, rd, mi, nn, gr⟩
  have kc := conv_reads rd k
  clear ht mi nn ha
  generalize hq : p1.toArray = q at kc
  have HQ := Lib.hid hq
  clear hq
  go_wp2_with fail
  go_ret
  exact ⟨by rw [HQ.out]; rfl, ⟨A', n', c', lv⟩, gr⟩
end Go.Proofs.Ytgbkpbmilaafgaa

/- Contract: how much is left of a reader that Open made. It proves no statement. -/

namespace Go.Proofs.Ytgbkpbmilaafgaa
open Go.RowKit
set_option linter.unusedVariables false
set_option linter.unusedSimpArgs false

theorem left_live {w : World} {lo B g : Nat} {A : Option Addr} {n c : Nat} {l : List UInt8} {x : Int} (h : Live w lo B g A n c l x) :
    Calls Try.prog 85 #[.pointer (some ⟨g, 0, none⟩)] w fun e w' => e = .returned (.int .i64 n) ∧ w = w' := by
  have c0 : w.cell? ⟨g, 0, none⟩ = some (.slice A n c) := h.blk.cell 0
  have c2 : w.cell? ⟨g, 2, none⟩ = some (.bool true) := h.blk.cell 2
  go_enter Try.func85, Try.ntmps85
  go_wp2
  go_ret
  exact ⟨rfl, rfl⟩
end Go.Proofs.Ytgbkpbmilaafgaa

/- Contracts: what is left of a reader, its error, whatever its row. It proves no statement. -/


namespace Go.Proofs.Ytgbkpbmilaafgaa
open Go.RowKit
set_option linter.unusedVariables false
set_option linter.unusedSimpArgs false

theorem LiveAny.left {w : World} {lo B g : Nat} {l : List UInt8} {x : Int} (h : LiveAny w lo B g l x) : Calls Try.prog 85 #[.pointer (some ⟨g, 0, none⟩)] w fun e w' => e = .returned (.int .i64 (l.length : Nat)) ∧ w = w' := by
  obtain ⟨A, n, c, lv⟩ := h
  have := left_live lv
  rwa [← lv.reads.len] at this
theorem LiveAny.err {w : World} {lo B g : Nat} {l : List UInt8} {x : Int} (h : LiveAny w lo B g l x) : Calls Try.prog 84 #[.pointer (some ⟨g, 0, none⟩)] w fun e w' => e = .returned (.int .i64 x) ∧ w = w' := by
  obtain ⟨A, n, c, lv⟩ := h
  exact err_live lv
end Go.Proofs.Ytgbkpbmilaafgaa
