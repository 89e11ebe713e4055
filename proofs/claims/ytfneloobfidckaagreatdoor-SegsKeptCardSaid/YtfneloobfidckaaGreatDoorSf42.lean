/- Contracts and facts, several texts in one. It proves no statement. -/
import Derived.Test.YtfneloobfidckaaGreatDoorSf34
import Derived.Test.YtfneloobfidckaaGreatDoorSf40
import Derived.Test.YtfneloobfidckaaGreatDoorSf41

/- Contract: an entry read at its place. It proves no statement. -/


namespace Go.Proofs.YtfneloobfidckaaGreatDoor
open Go.RowKit Go.Maps Go.WideMaps Go.Sort
set_option linter.unusedVariables false
set_option linter.unusedSimpArgs false

theorem rdK_lenS (l : List UInt8) : (rdK l).length = 32 := by
  unfold rdK
  by_cases h : rdE l = 0
  · rw [if_pos h]
    have h3 : (toE l).2 = 0 := by
      unfold rdE at h
      by_cases h3 : (toE l).2 = 0
      · exact h3
      · rw [if_pos h3] at h; exact absurd h h3
    obtain ⟨_, _, _, h4, _, _, h7, _⟩ := toE_ok h3
    exact keyR_len _ _ (fun q => by rw [List.length_take]; have := h7 q; omega)
  · rw [if_neg h]; simp
/-- What Read answers: an error, else an entry. -/
def readL (M : Me) (S : Lg) (s a z : Int) : Int × Int × List UInt8 × List UInt8 := match findL S s with
  | none => (9, 0, List.replicate 32 0, [])
  | some _ => if (opRead M (nameS s) a z).2 ≠ 0 then ((opRead M (nameS s) a z).2, 0, List.replicate 32 0, [])
    else if rdE (opRead M (nameS s) a z).1 ≠ 0 then (rdE (opRead M (nameS s) a z).1, 0, List.replicate 32 0, [])
    else if (rdN (opRead M (nameS s) a z).1 : Int) < z then (4, 0, List.replicate 32 0, [])
    else (0, rdT (opRead M (nameS s) a z).1, rdK (opRead M (nameS s) a z).1, rdD (opRead M (nameS s) a z).1)
theorem zentS (v : Value) (h : v = .slice none 0 0) : entV 0 (List.replicate 32 0) v = #[.int .i64 0, .int .u8 0, .int .u8 0, .int .u8 0, .int .u8 0, .int .u8 0, .int .u8 0, .int .u8 0, .int .u8 0, .int .u8 0, .int .u8 0, .int .u8 0, .int .u8 0, .int .u8 0, .int .u8 0, .int .u8 0, .int .u8 0, .int .u8 0, .int .u8 0, .int .u8 0, .int .u8 0, .int .u8 0, .int .u8 0, .int .u8 0, .int .u8 0, .int .u8 0, .int .u8 0, .int .u8 0, .int .u8 0, .int .u8 0, .int .u8 0, .int .u8 0, .int .u8 0, .slice none 0 0] := by subst h; rfl
set_option maxRecDepth 100000 in
set_option maxHeartbeats 12800000 in
theorem lread_any {w0 w : World} {base g gl k : Nat} {own : Own} {lo : LOwn} {M : Me} {S : Lg} (h : LM w base g gl own lo M S) (hok : S.ok) (hg : M.good k) (T : SgT w0) (s0 : Still w0 w) (s a z : Int) (ha : a ≤ 9223372036854775807) (hlen : (opRead M (nameS s) a z).1.length ≤ 1048576) :
    Calls Tryz.prog 34 #[.pointer (some ⟨gl, 0, none⟩), .agg #[.int .i64 s, .int .i64 a, .int .i64 z]] w fun e w' => (∃ v, e = .returned (.tuple #[.agg (entV (readL M S s a z).2.1 (readL M S s a z).2.2.1 v), .int .i64 (readL M S s a z).1]) ∧ w'.ownsRow w.heap.size 5 1 v (readL M S s a z).2.2.2.length (bytesV (readL M S s a z).2.2.2)) ∧ Still w w' := by
  obtain ⟨wA, hwA⟩ : ∃ wA, wA = w.alloc (.cells #[.int .i64 s, .int .i64 a, .int .i64 z] 39) := ⟨_, rfl⟩
  obtain ⟨wB, hwB⟩ : ∃ wB, wB = wA.alloc (.cells #[.int .i64 0, .int .u8 0, .int .u8 0, .int .u8 0, .int .u8 0, .int .u8 0, .int .u8 0, .int .u8 0, .int .u8 0, .int .u8 0, .int .u8 0, .int .u8 0, .int .u8 0, .int .u8 0, .int .u8 0, .int .u8 0, .int .u8 0, .int .u8 0, .int .u8 0, .int .u8 0, .int .u8 0, .int .u8 0, .int .u8 0, .int .u8 0, .int .u8 0, .int .u8 0, .int .u8 0, .int .u8 0, .int .u8 0, .int .u8 0, .int .u8 0, .int .u8 0, .int .u8 0, .slice none 0 0] 44) := ⟨_, rfl⟩
  have SA : Still w wA := by rw [hwA]; exact (Still.refl w).alloc (Nat.le_refl _) _
  have hsA : wA.heap.size = w.heap.size + 1 := by rw [hwA]; simp
  have SB : Still wA wB := by rw [hwB]; exact (Still.refl wA).alloc (Nat.le_refl _) _
  have BA : Blk wA w.heap.size 39 #[.int .i64 s, .int .i64 a, .int .i64 z] := by rw [hwA]; exact Blk.new _ _ _
  have BP : Blk wB (w.heap.size + 1) 44 #[.int .i64 0, .int .u8 0, .int .u8 0, .int .u8 0, .int .u8 0, .int .u8 0, .int .u8 0, .int .u8 0, .int .u8 0, .int .u8 0, .int .u8 0, .int .u8 0, .int .u8 0, .int .u8 0, .int .u8 0, .int .u8 0, .int .u8 0, .int .u8 0, .int .u8 0, .int .u8 0, .int .u8 0, .int .u8 0, .int .u8 0, .int .u8 0, .int .u8 0, .int .u8 0, .int .u8 0, .int .u8 0, .int .u8 0, .int .u8 0, .int .u8 0, .int .u8 0, .int .u8 0, .slice none 0 0] := by rw [hwB, ← hsA]; exact Blk.new _ _ _
  obtain ⟨gA, hgA⟩ : ∃ gA, gA = w.heap.size := ⟨_, rfl⟩
  have BAB := BA.still SB
  rw [← hgA] at BAB
  have SAB := Lib.hid (Still.trans SA SB)
  obtain ⟨sv, hl⟩ := h.log
  have hlB := hl.keep (Chg.of_still SAB.out (fun _ => False)) (fun _ h => h.elim)
  have FI := Lib.hid (lfind_any hlB hok s)
  have EN := Lib.hid (fun (hh : ∀ p ∈ S.segs, (p.1 : Int) ≠ s) => show readL M S s a z = (9, 0, List.replicate 32 0, []) by unfold readL; rw [findL_none hh])
  have ES := Lib.hid (fun (i : Nat) (p : Nat × Nat) (hp : S.segs[i]? = some p) (e : (p.1 : Int) = s) => show readL M S s a z = if (opRead M (nameS s) a z).2 ≠ 0 then ((opRead M (nameS s) a z).2, 0, List.replicate 32 0, [])
    else if rdE (opRead M (nameS s) a z).1 ≠ 0 then (rdE (opRead M (nameS s) a z).1, 0, List.replicate 32 0, [])
    else if (rdN (opRead M (nameS s) a z).1 : Int) < z then (4, 0, List.replicate 32 0, [])
    else (0, rdT (opRead M (nameS s) a z).1, rdK (opRead M (nameS s) a z).1, rdD (opRead M (nameS s) a z).1) by unfold readL; rw [findL_some hok hp e])
  have NM := Lib.hid (fun W (t : Still wB W) => name_any s W (T.still (Still.trans s0 (Still.trans SAB.out t))))
  have RD := Lib.hid (fun W (t : Still wB W) => read_M (nameS s) a z ha (h.med.still (Still.trans SAB.out t)) hg.ok (by have := nameS_size s; unfold maxLen; omega))
  have KC := Lib.hid (fun W (t : Still wB W) => show W.cell? ⟨gl, 0, none⟩ = some (.pointer (some ⟨g, 0, none⟩)) ∧ W.cell? ⟨gA, 0, none⟩ = some (.int .i64 s) ∧ W.cell? ⟨gA, 1, none⟩ = some (.int .i64 a) ∧ W.cell? ⟨gA, 2, none⟩ = some (.int .i64 z) from ⟨(t.cell (p := ⟨gl, 0, none⟩) hlB.blk.lt).trans hlB.cells.1, (t.cell (p := ⟨gA, 0, none⟩) BAB.lt).trans (BAB.cell 0), (t.cell (p := ⟨gA, 1, none⟩) BAB.lt).trans (BAB.cell 1), (t.cell (p := ⟨gA, 2, none⟩) BAB.lt).trans (BAB.cell 2)⟩)
  have HT := Lib.hid (fun W (t : Still wB W) => T.still (Still.trans s0 (Still.trans SAB.out t)))
  have k0 := BAB.cell 0
  obtain ⟨nm, hnm⟩ : ∃ nm, nm = nameS s := ⟨_, rfl⟩
  rw [← hnm] at ES NM RD hlen
  obtain ⟨R, hR⟩ : ∃ R, R = opRead M nm a z := ⟨_, rfl⟩
  rw [← hR] at ES RD hlen
  obtain ⟨rb, re⟩ := R
  dsimp only at ES RD hlen
  have HBP := Lib.hid BP
  have HSA := Lib.hid hsA
  have HWA := Lib.hid hwA
  have HWB := Lib.hid hwB
  have HGA := Lib.hid hgA
  have HLEN := Lib.hid hlen
  obtain ⟨fs, hu⟩ := underEnt
  have HU := Lib.hid hu
  clear h hl hlB hwA hwB SA SB hsA BP BA hu hok hg T s0 ha hlen hgA hnm hR BAB
  go_enter Tryz.func34, Tryz.ntmps34
  go_upto_region 1 with (first
    | (guard_target =~ wpList _ _ _ (Oper.mk (some 3) _ _ _ _ _ :: _) _ _; go_must (refine wpList_box_val rfl 39 (.tmp 1) rfl (some 3) rfl #[.int .i64 s, .int .i64 a, .int .i64 z] rfl ?_); rw [← HWA.out])
    | (guard_target =~ wpList _ _ _ (Oper.mk (some 4) _ _ _ _ _ :: _) _ _; go_must (refine wpList_alloc_arr rfl 44 rfl (some 4) rfl #[.int .i64 0, .int .u8 0, .int .u8 0, .int .u8 0, .int .u8 0, .int .u8 0, .int .u8 0, .int .u8 0, .int .u8 0, .int .u8 0, .int .u8 0, .int .u8 0, .int .u8 0, .int .u8 0, .int .u8 0, .int .u8 0, .int .u8 0, .int .u8 0, .int .u8 0, .int .u8 0, .int .u8 0, .int .u8 0, .int .u8 0, .int .u8 0, .int .u8 0, .int .u8 0, .int .u8 0, .int .u8 0, .int .u8 0, .int .u8 0, .int .u8 0, .int .u8 0, .int .u8 0, .slice none 0 0] 34 zeroEnt ?_); rw [← HWB.out, HSA.out]))
  rw [← HGA.out]
  go_wp2_with fail
  refine FI.out.mono ?_
  rintro e w2 ⟨s2, ⟨hno, rfl⟩ | ⟨i, p, hp, hpe, rfl⟩⟩
  · have E := Lib.hid (EN.out hno)
    have S2 := Lib.hid s2
    clear hno s2 EN ES FI
    go_wp2_with (guard_target =~ wpList _ _ _ (Oper.mk none (Op.store _ _ _) _ _ _ _ :: _) _ _; go_must (refine wpList_store_rowTo rfl 44 (.tmp 4) (.tmp 37) rfl rfl (gA + 1) #[.int .i64 0, .int .u8 0, .int .u8 0, .int .u8 0, .int .u8 0, .int .u8 0, .int .u8 0, .int .u8 0, .int .u8 0, .int .u8 0, .int .u8 0, .int .u8 0, .int .u8 0, .int .u8 0, .int .u8 0, .int .u8 0, .int .u8 0, .int .u8 0, .int .u8 0, .int .u8 0, .int .u8 0, .int .u8 0, .int .u8 0, .int .u8 0, .int .u8 0, .int .u8 0, .int .u8 0, .int .u8 0, .int .u8 0, .int .u8 0, .int .u8 0, .int .u8 0, .int .u8 0, .slice none 0 0] rfl rfl 44 _ (by rw [HGA.out]; exact HBP.out.still S2.out) (sizeEnt0.trans rfl) rfl (by simp [Value.oneCell']) ?_))
    refine bodyPost_ret (results_cellP rfl _ _ (gA + 1) 44 _ (0, 0) _ rfl (setRow_heap _ _ _ _ _ _ (by rw [HGA.out]; exact HBP.out.still S2.out)) HU.out rfl (sizeEnt0.trans rfl)) rfl ?_
    exact ⟨⟨.slice none 0 0, by rw [E.out]; rfl, by rw [E.out]; exact World.ownsRow_nil _ _ _ _⟩, below_setRow (Still.trans SAB.out S2.out) (by rw [HGA.out]; omega) _⟩
  · have E := Lib.hid (ES.out i p hp hpe)
    have S2 := Lib.hid s2
    clear hp hpe s2 EN ES FI
    go_upto_region 4 with fail
    have D2 := Lib.hid (show Still wB w2.drew from S2.out.drew)
    go_region_held3 (fun W => W.cell? ⟨gl, 0, none⟩ = some (.pointer (some ⟨g, 0, none⟩)) ∧ W.cell? ⟨gA, 0, none⟩ = some (.int .i64 s) ∧ W.cell? ⟨gA, 1, none⟩ = some (.int .i64 a) ∧ W.cell? ⟨gA, 2, none⟩ = some (.int .i64 z)) (first | exact KC.out _ D2.out | exact KC.out _ S3.out | exact KC.out _ S4.out) (first
      | (go_at_call 89; with_reducible refine (NM.out _ D2.out).mono ?_; rintro e w3 ⟨rfl, s3⟩; have S3 := Lib.hid (Still.trans D2.out s3); clear s3)
      | (go_at_call 109; with_reducible refine (RD.out _ S3.out).mono ?_; rintro e w4 ⟨⟨v, rfl, o4⟩, s4⟩; obtain ⟨A4, c4, rfl, f1, f2, f3⟩ := own_form o4; have RR := Lib.hid (Reads.of_own o4); have S4 := Lib.hid (Still.trans S3.out s4); clear o4 s4))
    all_goals
      by_cases z1 : re = 0
      · subst z1
        have E1 := Lib.hid (E.out.trans (if_neg (by simp)))
        have FR := Lib.hid (read_any A4 rb.length c4 rb w4 _ RR.out (Nat.le_refl _) HLEN.out f1 f2 (HT.out _ S4.out).tabs)
        have KL := Lib.hid (rdK_lenS rb)
        obtain ⟨rt, hrt⟩ : ∃ rt, rt = rdT rb := ⟨_, rfl⟩
        obtain ⟨rk, hrk⟩ : ∃ rk, rk = rdK rb := ⟨_, rfl⟩
        obtain ⟨rd, hrd⟩ : ∃ rd, rd = rdD rb := ⟨_, rfl⟩
        obtain ⟨rn, hrn⟩ : ∃ rn, rn = rdN rb := ⟨_, rfl⟩
        obtain ⟨r5, hr5⟩ : ∃ r5, r5 = rdE rb := ⟨_, rfl⟩
        rw [← hrt, ← hrk, ← hrd, ← hrn, ← hr5] at FR E1
        rw [← hrk] at KL
        clear hrt hrk hrd hrn hr5 E NM RD
        go_wp2_with fail
        refine FR.out.mono ?_
        rintro e w5 ⟨⟨v5, rfl, o5⟩, s5⟩
        obtain ⟨A5, c5, rfl, _, _, _⟩ := own_form o5
        obtain ⟨v5, hv5⟩ : ∃ v5, v5 = Value.slice A5 rd.length c5 := ⟨_, rfl⟩
        rw [← hv5] at o5 ⊢
        have V5 := Lib.hid (show v5.oneCell' = true by rw [hv5]; rfl)
        obtain ⟨w6, hw6⟩ : ∃ w6, w6 = (w5.alloc (.cells #[.int .i64 0, .int .u8 0, .int .u8 0, .int .u8 0, .int .u8 0, .int .u8 0, .int .u8 0, .int .u8 0, .int .u8 0, .int .u8 0, .int .u8 0, .int .u8 0, .int .u8 0, .int .u8 0, .int .u8 0, .int .u8 0, .int .u8 0, .int .u8 0, .int .u8 0, .int .u8 0, .int .u8 0, .int .u8 0, .int .u8 0, .int .u8 0, .int .u8 0, .int .u8 0, .int .u8 0, .int .u8 0, .int .u8 0, .int .u8 0, .int .u8 0, .int .u8 0, .int .u8 0, .slice none 0 0] 44)).setRow w5.heap.size (entV rt rk v5) := ⟨_, rfl⟩
        have s56 : Still w5 w6 := by rw [hw6]; exact below_setRow ((Still.refl _).alloc (Nat.le_refl _) _) (Nat.le_refl _) _
        have S6 := Lib.hid (Still.trans S4.out (Still.trans s5 s56))
        obtain ⟨g9, hg9⟩ : ∃ g9, g9 = w5.heap.size := ⟨_, rfl⟩
        have B9 := Lib.hid (show Blk w6 g9 44 (entV rt rk v5) by rw [hw6, hg9]; exact setRow_heap _ _ _ _ _ _ (Blk.new w5 _ _))
        have hs4 : w.heap.size + 2 ≤ w4.heap.size := by
          have h1 := HBP.out.lt
          have h2 := S4.out.size
          omega
        have O6 := Lib.hid (show w6.ownsRow w.heap.size 5 1 v5 rd.length (bytesV rd) from own_lower9 (base := w4.heap.size) (own_still o5 s56) (by omega))
        have OG := Lib.hid (show v5.ownBlock ≠ some (gA + 1) from fun e => by
          have := (o5.lt _ e).1
          rw [HGA.out] at this
          omega)
        have BP6 := Lib.hid (show Blk w6 (gA + 1) 44 #[.int .i64 0, .int .u8 0, .int .u8 0, .int .u8 0, .int .u8 0, .int .u8 0, .int .u8 0, .int .u8 0, .int .u8 0, .int .u8 0, .int .u8 0, .int .u8 0, .int .u8 0, .int .u8 0, .int .u8 0, .int .u8 0, .int .u8 0, .int .u8 0, .int .u8 0, .int .u8 0, .int .u8 0, .int .u8 0, .int .u8 0, .int .u8 0, .int .u8 0, .int .u8 0, .int .u8 0, .int .u8 0, .int .u8 0, .int .u8 0, .int .u8 0, .int .u8 0, .int .u8 0, .slice none 0 0] by rw [HGA.out]; exact HBP.out.still S6.out)
        have K6 := Lib.hid (KC.out _ S6.out)
        have HW6 := Lib.hid hw6
        have HG9 := Lib.hid hg9
        clear o5 s5 hv5 hw6 s56 hg9 hs4 FR
        go_upto_region 8 with (first
          | (guard_target =~ wpList _ _ _ (Oper.mk (some 9) (Op.alloc _) _ _ _ _ :: _) _ _; go_must (refine wpList_alloc_arr rfl 44 rfl (some 9) rfl #[.int .i64 0, .int .u8 0, .int .u8 0, .int .u8 0, .int .u8 0, .int .u8 0, .int .u8 0, .int .u8 0, .int .u8 0, .int .u8 0, .int .u8 0, .int .u8 0, .int .u8 0, .int .u8 0, .int .u8 0, .int .u8 0, .int .u8 0, .int .u8 0, .int .u8 0, .int .u8 0, .int .u8 0, .int .u8 0, .int .u8 0, .int .u8 0, .int .u8 0, .int .u8 0, .int .u8 0, .int .u8 0, .int .u8 0, .int .u8 0, .int .u8 0, .int .u8 0, .int .u8 0, .slice none 0 0] 34 zeroEnt ?_))
          | (guard_target =~ wpList _ _ _ (Oper.mk none (Op.store _ _ _) _ _ _ _ :: _) _ _; go_must (refine wpList_store_rowTo rfl 44 (.tmp 9) (.tmp 42) rfl rfl w5.heap.size (entV rt rk v5) rfl rfl 44 _ (Blk.new w5 _ _) (by rw [sizeEnt, entV_size _ _ _ KL.out]) (by rw [entV_size _ _ _ KL.out]; rfl) (entV_one _ _ _ V5.out) ?_); rw [← HW6.out, ← HG9.out]))
        clear HW6 HG9
        by_cases z5 : r5 = 0
        · subst z5
          have E2 := Lib.hid (E1.out.trans (if_neg (by simp)))
          have k2 := K6.out.2.2.2
          by_cases z6 : (rn : Int) < z
          · have E3 := Lib.hid (E2.out.trans (if_pos z6))
            clear E1 E2
            go_wp2_with (guard_target =~ wpList _ _ _ (Oper.mk none (Op.store _ _ _) _ _ _ _ :: _) _ _; go_must (refine wpList_store_rowTo rfl 44 (.tmp 4) (.tmp 55) rfl rfl (gA + 1) #[.int .i64 0, .int .u8 0, .int .u8 0, .int .u8 0, .int .u8 0, .int .u8 0, .int .u8 0, .int .u8 0, .int .u8 0, .int .u8 0, .int .u8 0, .int .u8 0, .int .u8 0, .int .u8 0, .int .u8 0, .int .u8 0, .int .u8 0, .int .u8 0, .int .u8 0, .int .u8 0, .int .u8 0, .int .u8 0, .int .u8 0, .int .u8 0, .int .u8 0, .int .u8 0, .int .u8 0, .int .u8 0, .int .u8 0, .int .u8 0, .int .u8 0, .int .u8 0, .int .u8 0, .slice none 0 0] rfl rfl 44 _ BP6.out (sizeEnt0.trans rfl) rfl (by simp [Value.oneCell']) ?_))
            refine bodyPost_ret (results_cellP rfl _ _ (gA + 1) 44 _ (0, 0) _ rfl (setRow_heap _ _ _ _ _ _ BP6.out) HU.out rfl (sizeEnt0.trans rfl)) rfl ?_
            exact ⟨⟨.slice none 0 0, by rw [E3.out]; rfl, by rw [E3.out]; exact World.ownsRow_nil _ _ _ _⟩, below_setRow (Still.trans SAB.out S6.out) (by rw [HGA.out]; omega) _⟩
          · have E3 := Lib.hid (E2.out.trans (if_neg z6))
            clear E1 E2
            go_wp2_with (first
              | (guard_target =~ wpList _ _ _ (Oper.mk (some 56) _ _ _ _ _ :: _) _ _; go_must (refine wpList_load_row rfl 44 (.tmp 9) rfl g9 rfl _ _ _ _ B9.out HU.out rfl (by rw [sizeEnt, entV_size _ _ _ KL.out]) ?_))
              | (guard_target =~ wpList _ _ _ (Oper.mk none (Op.store _ _ _) _ _ _ _ :: _) _ _; go_must (refine wpList_store_rowTo rfl 44 (.tmp 4) (.tmp 56) rfl rfl (gA + 1) (entV rt rk v5) rfl rfl 44 _ BP6.out (by rw [sizeEnt, entV_size _ _ _ KL.out]) (by rw [entV_size _ _ _ KL.out]; rfl) (entV_one _ _ _ V5.out) ?_)))
            refine bodyPost_ret (results_cellP rfl _ _ (gA + 1) 44 _ (0, 0) _ rfl (setRow_heap _ _ _ _ _ _ BP6.out) HU.out rfl (by rw [sizeEnt, entV_size _ _ _ KL.out])) rfl ?_
            exact ⟨⟨v5, by rw [E3.out]; rfl, by rw [E3.out]; exact (chg_setRow w6 (gA + 1) _).own O6.out (fun b hb e => OG.out (by rw [hb, show b = gA + 1 from e]))⟩, below_setRow (Still.trans SAB.out S6.out) (by rw [HGA.out]; omega) _⟩
        · have b5 : (r5 != 0) = true := by simpa using z5
          have E2 := Lib.hid (E1.out.trans (if_pos z5))
          clear E1 z5
          go_wp2_with (guard_target =~ wpList _ _ _ (Oper.mk none (Op.store _ _ _) _ _ _ _ :: _) _ _; go_must (refine wpList_store_rowTo rfl 44 (.tmp 4) (.tmp 48) rfl rfl (gA + 1) #[.int .i64 0, .int .u8 0, .int .u8 0, .int .u8 0, .int .u8 0, .int .u8 0, .int .u8 0, .int .u8 0, .int .u8 0, .int .u8 0, .int .u8 0, .int .u8 0, .int .u8 0, .int .u8 0, .int .u8 0, .int .u8 0, .int .u8 0, .int .u8 0, .int .u8 0, .int .u8 0, .int .u8 0, .int .u8 0, .int .u8 0, .int .u8 0, .int .u8 0, .int .u8 0, .int .u8 0, .int .u8 0, .int .u8 0, .int .u8 0, .int .u8 0, .int .u8 0, .int .u8 0, .slice none 0 0] rfl rfl 44 _ BP6.out (sizeEnt0.trans rfl) rfl (by simp [Value.oneCell']) ?_))
          refine bodyPost_ret (results_cellP rfl _ _ (gA + 1) 44 _ (0, 0) _ rfl (setRow_heap _ _ _ _ _ _ BP6.out) HU.out rfl (sizeEnt0.trans rfl)) rfl ?_
          exact ⟨⟨.slice none 0 0, by rw [E2.out]; rfl, by rw [E2.out]; exact World.ownsRow_nil _ _ _ _⟩, below_setRow (Still.trans SAB.out S6.out) (by rw [HGA.out]; omega) _⟩
      · have b1 : (re == 0) = false := by simpa using z1
        have b2 : (re != 0) = true := by simpa using z1
        have E1 := Lib.hid (E.out.trans (if_pos z1))
        clear z1 E NM RD
        go_wp2_with (guard_target =~ wpList _ _ _ (Oper.mk none (Op.store _ _ _) _ _ _ _ :: _) _ _; go_must (refine wpList_store_rowTo rfl 44 (.tmp 4) (.tmp 37) rfl rfl (gA + 1) #[.int .i64 0, .int .u8 0, .int .u8 0, .int .u8 0, .int .u8 0, .int .u8 0, .int .u8 0, .int .u8 0, .int .u8 0, .int .u8 0, .int .u8 0, .int .u8 0, .int .u8 0, .int .u8 0, .int .u8 0, .int .u8 0, .int .u8 0, .int .u8 0, .int .u8 0, .int .u8 0, .int .u8 0, .int .u8 0, .int .u8 0, .int .u8 0, .int .u8 0, .int .u8 0, .int .u8 0, .int .u8 0, .int .u8 0, .int .u8 0, .int .u8 0, .int .u8 0, .int .u8 0, .slice none 0 0] rfl rfl 44 _ (by rw [HGA.out]; exact HBP.out.still S4.out) (sizeEnt0.trans rfl) rfl (by simp [Value.oneCell']) ?_))
        refine bodyPost_ret (results_cellP rfl _ _ (gA + 1) 44 _ (0, 0) _ rfl (setRow_heap _ _ _ _ _ _ (by rw [HGA.out]; exact HBP.out.still S4.out)) HU.out rfl (sizeEnt0.trans rfl)) rfl ?_
        exact ⟨⟨.slice none 0 0, by rw [E1.out]; rfl, by rw [E1.out]; exact World.ownsRow_nil _ _ _ _⟩, below_setRow (Still.trans SAB.out S4.out) (by rw [HGA.out]; omega) _⟩
end Go.Proofs.YtfneloobfidckaaGreatDoor

/- The entries of a log's segments while the power is on: what Append and Commit make of them, what is scanned, what is read. Mathematics; it proves no statement. -/



namespace Go.Proofs.YtfneloobfidckaaGreatDoor
open Go.RowKit Go.Maps Go.WideMaps Go.Sort
set_option linter.unusedVariables false
set_option linter.unusedSimpArgs false

/-- Segments: each one's number and entries. -/
abbrev Sz := List (Nat × List Ee)
def byE (x : Ee) : List UInt8 := bytE x.t x.K x.D
def toXz (Z : Sz) : Sb := Z.map fun z => (z.1, magicL ++ segB z.2)
/-- Where an entry is put. -/
def layZ (S : Lg) (Z : Sz) (x : Ee) : Sz := match Z.getLast? with
  | some z => if S.isOpen = true ∧ (((magicL ++ segB z.2).length + (byE x).length : Nat) : Int) ≤ S.limit then Z.dropLast ++ [(z.1, z.2 ++ [x])] else Z ++ [(nextX (toXz Z), [x])]
  | none => Z ++ [(nextX (toXz Z), [x])]
theorem segB_one (x : Ee) : segB [x] = byE x := by
  show bytE x.t x.K x.D ++ [] = _
  rw [List.append_nil]
  rfl
theorem toX_layZ (S : Lg) (Z : Sz) (x : Ee) : toXz (layZ S Z x) = layX S (toXz Z) (byE x) := by
  have e0 : (toXz Z).getLast? = Z.getLast?.map fun z => (z.1, magicL ++ segB z.2) := by unfold toXz; rw [List.getLast?_map]
  unfold layZ layX
  rw [e0]
  cases h : Z.getLast? with
  | none =>
    simp only [Option.map_none]
    unfold toXz
    rw [List.map_append, List.map_cons, List.map_nil, segB_one]
  | some z =>
    simp only [Option.map_some]
    split
    · unfold toXz
      rw [List.map_append, List.map_dropLast, List.map_cons, List.map_nil, segB_app, segB_one, List.append_assoc]
    · unfold toXz
      rw [List.map_append, List.map_cons, List.map_nil, segB_one]
theorem flat_layZ (S : Lg) (Z : Sz) (x : Ee) : (layZ S Z x).flatMap (·.2) = Z.flatMap (·.2) ++ [x] := by
  unfold layZ
  cases h : Z.getLast? with
  | none => simp
  | some z =>
    dsimp only
    split
    · have hs := getLast_split h
      conv => rhs; rw [hs]
      simp
    · simp
theorem nextZ {Z : Sz} (h : Z.map (·.1) = List.range Z.length) : nextX (toXz Z) = Z.length := by
  unfold nextX toXz
  rw [List.getLast?_map]
  cases hl : Z.getLast? with
  | none =>
    have := List.getLast?_eq_none_iff.1 hl
    rw [this]
    rfl
  | some z =>
    show z.1 + 1 = Z.length
    have h0 : Z ≠ [] := fun e => by rw [e] at hl; cases hl
    have hp : 0 < Z.length := List.length_pos_iff.2 h0
    have h1 : (Z.map (·.1)).getLast? = some z.1 := by rw [List.getLast?_map, hl]; rfl
    rw [h, List.getLast?_range] at h1
    rw [if_neg (by omega)] at h1
    injection h1 with h1
    omega
/-- What holds of the entries. -/
structure AZ (M : Me) (S : Lg) (Z : Sz) (rm : Int) (bad : Prop) : Prop where
  ab : AB M S (toXz Z) rm
  num : Z.map (·.1) = List.range Z.length
  ok : ∀ z ∈ Z, z.2 ≠ [] ∧ ∀ x ∈ z.2, okE x
  lim : ∀ z ∈ Z, ((8 + (segB z.2).length : Nat) : Int) ≤ S.limit ∨ z.2.length = 1
  cm : ∀ z ∈ Z, ∀ k x, z.2[k]? = some x → x.t = 2 → k + 1 = z.2.length ∨ bad
  last : S.isOpen = true → ∀ z, Z.getLast? = some z → ∀ x, z.2.getLast? = some x → x.t = 2 → bad
section
variable {M M' : Me} {S S' : Lg} {Z : Sz} {rm : Int} {bad : Prop}
theorem mlen (l : List UInt8) : (magicL ++ l).length = 8 + l.length := by rw [List.length_append]; rfl
/-- An entry more. -/
theorem AZ.put (h : AZ M S Z rm bad) {x : Ee} (hx : okE x) (a : AB M' S' (toXz (layZ S Z x)) rm) (hl : S'.limit = S.limit) {bad' : Prop} (hb : bad → bad') (ht : (S'.isOpen = true → x.t = 2 → bad')) : AZ M' S' (layZ S Z x) rm bad' := by
  have hn := nextZ h.num
  have hnew : AB M' S' (toXz (Z ++ [(Z.length, [x])])) rm → AZ M' S' (Z ++ [(Z.length, [x])]) rm bad' := fun a => by
    refine ⟨a, ?_, fun z hz => ?_, fun z hz => ?_, fun z hz k y hk hy => ?_, fun ho z hz y hy h2 => ?_⟩
    · rw [List.map_append, h.num, List.length_append, List.length_singleton, List.range_succ]
      rfl
    · rcases List.mem_append.1 hz with hz | hz
      · exact h.ok z hz
      · have : z = (Z.length, [x]) := by simpa using hz
        subst this
        exact ⟨by simp, fun y hy => by have : y = x := by simpa using hy
                                       subst this; exact hx⟩
    · rw [hl]
      rcases List.mem_append.1 hz with hz | hz
      · exact h.lim z hz
      · have : z = (Z.length, [x]) := by simpa using hz
        subst this
        exact .inr rfl
    · rcases List.mem_append.1 hz with hz | hz
      · exact (h.cm z hz k y hk hy).imp id hb
      · have : z = (Z.length, [x]) := by simpa using hz
        subst this
        have := (List.getElem?_eq_some_iff.1 hk).1
        simp at this
        subst this
        exact .inl rfl
    · rw [List.getLast?_concat] at hz
      injection hz with hz
      subst hz
      have : y = x := by simpa using hy.symm
      subst this
      exact ht ho h2
  unfold layZ at a ⊢
  rw [hn] at a ⊢
  cases hg : Z.getLast? with
  | none => rw [hg] at a; exact hnew a
  | some z =>
    rw [hg] at a
    dsimp only at a ⊢
    split
    · rename_i c
      rw [if_pos c] at a
      have hs := getLast_split hg
      have hzm : z ∈ Z := List.mem_of_getLast? hg
      have hzl : ∀ w ∈ Z.dropLast, w ∈ Z := fun w hw => List.dropLast_subset Z hw
      have hlen : Z.length = Z.dropLast.length + 1 := by
        have := congrArg List.length hs
        rw [List.length_append, List.length_singleton] at this
        exact this
      refine ⟨a, ?_, fun w hw => ?_, fun w hw => ?_, fun w hw k y hk hy => ?_, fun ho w hw y hy h2 => ?_⟩
      · have h1 := h.num
        rw [hs, List.map_append] at h1
        rw [List.map_append, List.length_append, List.length_singleton]
        have h2 : (List.map (·.1) Z.dropLast ++ List.map (·.1) [z]).length = (Z.dropLast ++ [z]).length := by simp
        rw [List.length_append, List.length_singleton] at h1
        exact h1
      · rcases List.mem_append.1 hw with hw | hw
        · exact h.ok w (hzl w hw)
        · have : w = (z.1, z.2 ++ [x]) := by simpa using hw
          subst this
          refine ⟨by simp, fun y hy => ?_⟩
          rcases List.mem_append.1 hy with hy | hy
          · exact (h.ok z hzm).2 y hy
          · have : y = x := by simpa using hy
            subst this
            exact hx
      · rw [hl]
        rcases List.mem_append.1 hw with hw | hw
        · exact h.lim w (hzl w hw)
        · have : w = (z.1, z.2 ++ [x]) := by simpa using hw
          subst this
          left
          have c2 := c.2
          rw [mlen] at c2
          show ((8 + (segB (z.2 ++ [x])).length : Nat) : Int) ≤ _
          rw [segB_app, segB_one, List.length_append]
          omega
      · rcases List.mem_append.1 hw with hw | hw
        · exact (h.cm w (hzl w hw) k y hk hy).imp id hb
        · have : w = (z.1, z.2 ++ [x]) := by simpa using hw
          subst this
          have hk' : (z.2 ++ [x])[k]? = some y := hk
          show k + 1 = (z.2 ++ [x]).length ∨ bad'
          by_cases hkl : k < z.2.length
          · rw [List.getElem?_append_left hkl] at hk'
            rcases h.cm z hzm k y hk' hy with e | e
            · right
              have : z.2.getLast? = some y := by rw [List.getLast?_eq_getElem?, show z.2.length - 1 = k by omega]; exact hk'
              exact hb (h.last c.1 z hg y this hy)
            · exact .inr (hb e)
          · have := (List.getElem?_eq_some_iff.1 hk').1
            rw [List.length_append, List.length_singleton] at this
            left
            rw [List.length_append, List.length_singleton]
            omega
      · rw [List.getLast?_concat] at hw
        injection hw with hw
        subst hw
        have : y = x := by
          have hy' : (z.2 ++ [x]).getLast? = some y := hy
          rw [List.getLast?_concat] at hy'
          exact (Option.some.inj hy').symm
        subst this
        exact ht ho h2
    · rename_i c
      rw [if_neg c] at a
      exact hnew a
theorem AZ.append (h : AZ M S Z rm bad) {gf : Nat} (hg : M.fs gf = none) (x : Ee) (hK : x.K.length = 32) (h0 : (appendL M S (encE x.t x.K x.D) gf).2.1 = 0) :
    okE x ∧ AZ (appendL M S (encE x.t x.K x.D) gf).2.2.1 (appendL M S (encE x.t x.K x.D) gf).2.2.2 (layZ S Z x) rm (bad ∨ x.t = 2) ∧ (appendL M S (encE x.t x.K x.D) gf).1 = placeL (appendL M S (encE x.t x.K x.D) gf).2.2.2 (byE x).length ∧ (appendL M S (encE x.t x.K x.D) gf).2.2.1.used ≤ M.used + (8 + (byE x).length) ∧ (appendL M S (encE x.t x.K x.D) gf).2.2.2.limit = S.limit := by
  have hl := encE_len (t := x.t) (K := x.K) (D := x.D) hK
  rcases h.ab.append hg (encE x.t x.K x.D) (by omega) with ⟨a, _⟩ | ⟨_, e, a, b, _, d, f, g⟩
  · exact absurd h0 a
  · have hck : ckE x.t x.K x.D.length = 0 := by
      unfold encE at e
      split at e
      · rename_i q; exact absurd e q
      · rename_i q; simpa using q
    have e2 : (encE x.t x.K x.D).2 = byE x := by
      unfold encE
      rw [if_neg (by rw [hck]; decide)]
      rfl
    rw [e2] at a f g
    rw [← toX_layZ] at a
    exact ⟨⟨hK, hck⟩, h.put ⟨hK, hck⟩ a d (fun q => .inl q) (fun _ q => .inr q), f, g, d⟩
def cmX : Ee := ⟨2, List.replicate 32 0, []⟩
theorem cmX_ok : okE cmX := by
  refine ⟨by simp [cmX], ?_⟩
  show ckE 2 (List.replicate 32 0) 0 = 0
  unfold ckE
  rw [if_neg (by decide), if_neg (by decide), if_pos rfl, if_pos ⟨rfl, rfl⟩]
theorem cmE_by : cmE.2 = byE cmX := by
  have := cmE_ok.1
  unfold cmE encE at this ⊢
  split at this
  · rename_i q; exact absurd this q
  · rename_i q
    rw [if_neg q]
    rfl
theorem AZ.commit (h : AZ M S Z rm bad) {gf : Nat} (hg : M.fs gf = none) (h0 : (commitL M S gf).2.1 = 0) :
    AZ (commitL M S gf).2.2.1 (commitL M S gf).2.2.2 (layZ S Z cmX) rm bad ∧ (commitL M S gf).2.2.1.used ≤ M.used + (8 + (byE cmX).length) ∧ (commitL M S gf).2.2.2.limit = S.limit := by
  rcases h.ab.commit hg with ⟨a, _⟩ | ⟨_, a, b, _, d, e⟩
  · exact absurd h0 a
  · rw [cmE_by] at a e
    rw [← toX_layZ] at a
    exact ⟨h.put cmX_ok a d (fun q => q) (fun q _ => by rw [b] at q; cases q), e, d⟩
theorem AZ.same (h : AZ M S Z rm bad) (s : AB.Same M M' S S' (toXz Z) rm) (ho : S'.isOpen = true → S.isOpen = true) : AZ M' S' Z rm bad :=
  ⟨s.ab, h.num, h.ok, fun z hz => by rw [s.lim]; exact h.lim z hz, h.cm, fun o => h.last (ho o)⟩
/-- An entry read where it stands. -/
theorem AZ.read (h : AZ M S Z rm bad) {z : Nat × List Ee} (hz : z ∈ Z) {k : Nat} {x : Ee} (hk : z.2[k]? = some x) : readL M S (z.1 : Int) (atE z.2 k : Int) ((byE x).length : Int) = (0, x.t, x.K, x.D) := by
  have hzX : (z.1, magicL ++ segB z.2) ∈ toXz Z := List.mem_map.2 ⟨z, hz, rfl⟩
  obtain ⟨i, hi⟩ := List.mem_iff_getElem?.1 hzX
  have hs : S.segs[i]? = some (z.1, (magicL ++ segB z.2).length) := by rw [h.ab.segs, List.getElem?_map, hi]; rfl
  obtain ⟨gf, F, f1, f2, _⟩ := h.ab.find hzX
  have hxm : x ∈ z.2 := List.mem_of_getElem? hk
  have hx := (h.ok z hz).2 x hxm
  have hkl := (List.getElem?_eq_some_iff.1 hk).1
  have e1 : segB z.2 = segB (z.2.take k) ++ (byE x ++ segB (z.2.drop (k + 1))) := by
    have : z.2 = z.2.take k ++ (x :: z.2.drop (k + 1)) := by
      have h1 := List.take_append_drop k z.2
      rw [List.drop_eq_getElem_cons hkl] at h1
      have h2 := (List.getElem?_eq_some_iff.1 hk).2
      rw [h2] at h1
      exact h1.symm
    conv => lhs; rw [this]
    rw [segB_app]
    rfl
  have e2 : (F.now.drop (atE z.2 k)).take (byE x).length = byE x := by
    rw [f2]
    show ((magicL ++ segB z.2).drop (atE z.2 k)).take _ = _
    rw [e1, ← List.append_assoc]
    rw [List.drop_left' (by rw [mlen]; rfl), List.take_left' rfl]
  have e3 : opRead M (nameS (z.1 : Int)) (atE z.2 k : Int) ((byE x).length : Int) = (byE x, 0) := by
    unfold opRead
    rw [f1]
    simp only
    rw [if_neg (by omega), if_neg ?_, Int.toNat_natCast, Int.toNat_natCast, e2]
    rw [f2]
    show ¬ (((magicL ++ segB z.2).length : Nat) : Int) - _ < _
    rw [mlen, e1, List.length_append, List.length_append]
    unfold atE
    omega
  have hb := rd_back (R := []) hx.1 hx.2
  rw [List.append_nil] at hb
  unfold readL
  rw [findL_some h.ab.sok hs rfl]
  dsimp only
  rw [e3, if_neg (show ¬ ((0 : Int) ≠ 0) by decide)]
  dsimp only
  rw [if_neg (by rw [show rdE (byE x) = 0 from hb.1]; decide), if_neg (by rw [show rdN (byE x) = _ from hb.2.2.2.2]; show ¬ ((byE x).length : Int) < (byE x).length; omega)]
  rw [show rdT (byE x) = x.t from hb.2.1, show rdK (byE x) = x.K from hb.2.2.1, show rdD (byE x) = x.D from hb.2.2.2.1]
/-- What Scan says of a segment. -/
theorem AZ.scan (h : AZ M S Z rm bad) {z : Nat × List Ee} (hz : z ∈ Z) : scanR (magicL ++ segB z.2) = (fosF 8 z.2, 8 + (segB z.2).length, 0) := scan_whole z.2 (h.ok z hz).2
theorem AZ.new {room limit : Int} (h : 0 ≤ room ∧ room ≤ 16777216) (hl : 128 ≤ limit ∧ limit ≤ 1048576) : AZ (Me.new room) (logOf limit []) [] room bad :=
  ⟨AB.new h hl, rfl, fun z hz => (by cases hz), fun z hz => (by cases hz), fun z hz => (by cases hz), fun o => (by cases o)⟩
/-- The entry that was put last, at its place. -/
theorem placeZ {x : Ee} (a : AB M' S' (toXz (layZ S Z x)) rm) : ∃ z, (layZ S Z x).getLast? = some z ∧ z.2.getLast? = some x ∧ placeL S' (byE x).length = (z.1, atE z.2 (z.2.length - 1), (byE x).length) := by
  have hz : ∃ z, (layZ S Z x).getLast? = some z ∧ z.2.getLast? = some x := by
    unfold layZ
    split
    · split
      · exact ⟨_, List.getLast?_concat, List.getLast?_concat⟩
      · exact ⟨_, List.getLast?_concat, rfl⟩
    · exact ⟨_, List.getLast?_concat, rfl⟩
  obtain ⟨z, h1, h2⟩ := hz
  refine ⟨z, h1, h2, ?_⟩
  unfold placeL
  rw [a.segs]
  unfold toXz
  rw [List.getLast?_map, List.getLast?_map, h1]
  show (z.1, (magicL ++ segB z.2).length - (byE x).length, (byE x).length) = _
  have hs := getLast_split h2
  have e : (magicL ++ segB z.2).length - (byE x).length = atE z.2 (z.2.length - 1) := by
    unfold atE
    have hd : z.2.take (z.2.length - 1) = z.2.dropLast := (List.dropLast_eq_take).symm
    rw [mlen, hd]
    conv => lhs; rw [hs, segB_app, segB_one, List.length_append]
    omega
  rw [e]
end
end Go.Proofs.YtfneloobfidckaaGreatDoor
