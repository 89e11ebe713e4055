/- The walk of SegsNobody: it returns true, and nothing that was there turns. -/
import Derived.Test.YtljacdbdjacbkaaGreatDoorSnzm
import Derived.Test.YtljacdbdjacbkaaGreatDoorSnzj
import Derived.Test.YtljacdbdjacbkaaGreatDoorSnzl
namespace Go.Proofs.YtljacdbdjacbkaaGreatDoor
open Go.RowKit Go.Maps Go.WideMaps Go.Sort
set_option linter.unusedVariables false
set_option linter.unusedSimpArgs false

/-- A row of one entry: where it lies. -/
theorem ent_of_ownS {W : World} {B : Nat} {ov : Value} {t : Int} {K : List UInt8} {v : Value} (h : W.ownsRow B 44 34 ov 1 (entL t K v)) :
    ∃ g cap, ov = .slice (some ⟨g, 0, none⟩) 1 cap ∧ W.rangeAt g 0 (entL t K v) := by
  rcases h.2 with ⟨_, h0⟩ | ⟨g, cap, cur, rfl, _, hg, _, _, _, htk⟩
  · omega
  · refine ⟨g, cap, rfl, fun j u hj => ?_⟩
    have hb : W.cell? ⟨g, 0 + j, none⟩ = cur[0 + j]? := cell_of_row W g (0 + j) cur _ (0, 0) hg
    rw [hb, Nat.zero_add]
    rw [← htk] at hj
    rw [List.getElem?_take] at hj
    by_cases h : j < 1 * 34
    · rw [if_pos h, Array.getElem?_toList] at hj; exact hj
    · rw [if_neg h] at hj; cases hj
theorem zeroLog : (Tryz.prog.info? 101).map (·.size) = some 5 := by kernel_rfl
set_option maxRecDepth 100000 in
set_option maxHeartbeats 6400000 in
theorem segsNobody_walk (t : Int) (K D : List UInt8) (A : Option Addr) (n c : Nat) (pa pb pc : Int) (x : Int) (w : World) (e0 : EntIn w t K D A n c) (T : SgT w) :
    Calls Tryz.prog 8 #[.agg (entV t K (.slice A n c)), .agg #[.int .i64 pa, .int .i64 pb, .int .i64 pc], .int .i64 x] w fun e w' => e = .returned (.bool true) ∧ Still w w' := by
  have KL := Lib.hid e0.key
  have HT := Lib.hid (fun W (s : Still w W) => T.still s)
  obtain ⟨fs, hu⟩ := underEnt
  have HU := Lib.hid hu
  have UP := Lib.hid (show Tryz.prog.underlying 39 = some _ from Tryz.underlying39)
  obtain ⟨g1, hg1⟩ : ∃ g1, g1 = w.heap.size := ⟨_, rfl⟩
  obtain ⟨wA, hwA⟩ : ∃ wA, wA = w.alloc (.cells (entV t K (.slice A n c)) 44) := ⟨_, rfl⟩
  have SA := Lib.hid (show Still w wA by rw [hwA]; exact (Still.refl w).alloc (Nat.le_refl _) _)
  have BA := Lib.hid (show Blk wA g1 44 (entV t K (.slice A n c)) by rw [hwA, hg1]; exact Blk.new _ _ _)
  obtain ⟨g2, hg2⟩ : ∃ g2, g2 = wA.heap.size := ⟨_, rfl⟩
  obtain ⟨wP, hwP⟩ : ∃ wP, wP = wA.alloc (.cells #[.int .i64 pa, .int .i64 pb, .int .i64 pc] 39) := ⟨_, rfl⟩
  have SP := Lib.hid (show Still wA wP by rw [hwP]; exact (Still.refl wA).alloc (Nat.le_refl _) _)
  have BP := Lib.hid (show Blk wP g2 39 #[.int .i64 pa, .int .i64 pb, .int .i64 pc] by rw [hwP, hg2]; exact Blk.new _ _ _)
  have G12 := Lib.hid (show g1 < g2 by rw [hg2]; exact BA.out.lt)
  obtain ⟨gB, hgB⟩ : ∃ gB, gB = wP.heap.size := ⟨_, rfl⟩
  obtain ⟨wB, hwB⟩ : ∃ wB, wB = wP.alloc (.cells (entV t K (.slice A n c)) 44) := ⟨_, rfl⟩
  have SB := Lib.hid (show Still wP wB by rw [hwB]; exact (Still.refl wP).alloc (Nat.le_refl _) _)
  have BB := Lib.hid (show EntB wB gB t K (.slice A n c) by rw [hwB, hgB]; exact EntB.new _ _ _ _)
  have HWA := Lib.hid hwA
  have HG1 := Lib.hid hg1
  have HWP := Lib.hid hwP
  have HG2 := Lib.hid hg2
  have HWB := Lib.hid hwB
  have HGB := Lib.hid hgB
  have sAB : Still w wB := Still.trans SA.out (Still.trans SP.out SB.out)
  have SAB := Lib.hid sAB
  have FW1 := Lib.hid (few1_any gB t K D A n c 100 wB w.heap.size e0.key BB.out (e0.reads.still (Nat.le_refl _) sAB) sAB.size e0.fit e0.cap e0.nil (by omega) (by omega))
  obtain ⟨v0, hv0⟩ : ∃ v0, v0 = Value.slice A n c := ⟨_, rfl⟩
  have V0 := Lib.hid (show ∃ A n c, v0 = Value.slice A n c from ⟨_, _, _, hv0⟩)
  have BAP := Lib.hid (show Blk wP g1 44 (entV t K v0) by rw [hv0]; exact BA.out.still SP.out)
  rw [← hv0] at HWA HWB ⊢
  clear hv0 hwA hwB hwP hgB hg2 hg1 BB sAB hu T e0 BA
  go_enter Tryz.func8, Tryz.ntmps8
  go_upto_region 1 with (first
    | (guard_target =~ wpList _ _ _ (Oper.mk (some 3) (Op.box _ _) _ _ _ _ :: _) _ _; go_must (refine wpList_box_val rfl 44 (.tmp 0) rfl (some 3) rfl (entV t K v0) rfl ?_); rw [← HWA.out, ← HG1.out])
    | (guard_target =~ wpList _ _ _ (Oper.mk (some 4) (Op.box _ _) _ _ _ _ :: _) _ _; go_must (refine wpList_box_val rfl 39 (.tmp 1) rfl (some 4) rfl #[.int .i64 pa, .int .i64 pb, .int .i64 pc] rfl ?_); rw [← HWP.out, ← HG2.out]))
  clear HWA HWP
  go_wp2_with (first
    | (guard_target =~ wpList _ _ _ (Oper.mk (some 19) _ _ _ _ _ :: _) _ _; go_must (refine wpList_load_row rfl 44 (.tmp 3) rfl g1 rfl _ _ _ _ BAP.out HU.out rfl (by rw [sizeEnt, entV_size _ _ _ KL.out]) ?_))
    | (guard_target =~ wpList _ _ _ (Oper.mk (some 20) _ _ _ _ _ :: _) _ _; go_must (refine wpList_boxE wP rfl (.tmp 19) rfl t K KL.out v0 V0.out rfl ?_; rw [← HWB.out, ← HGB.out])))
  refine FW1.out.mono ?_
  rintro e w1 ⟨⟨ov, v1, rfl, oe, od⟩, s1⟩
  obtain ⟨gF, cF, rfl, rng⟩ := ent_of_ownS oe
  have RNG := Lib.hid rng
  have V1 := Lib.hid (show v1.oneCell' = true by rcases od.2 with ⟨h, _⟩ | ⟨_, _, _, h, _⟩ <;> (rw [h]; rfl))
  have B1 := Lib.hid (show Blk w1 g1 44 (entV t K v0) from (Blk.still (Blk.still BAP.out SB.out) s1))
  obtain ⟨w2, hw2⟩ : ∃ w2, w2 = w1.setRow g1 (entV t K v1) := ⟨_, rfl⟩
  have B2 := Lib.hid (show Blk w2 g1 44 (entV t K v1) by rw [hw2]; exact setRow_heap _ _ _ _ _ _ B1.out)
  have P2 := Lib.hid (show Blk w2 g2 39 #[.int .i64 pa, .int .i64 pb, .int .i64 pc] by rw [hw2]; exact (setRow_other w1 g1 g2 _ (by have := G12.out; omega)).trans (Blk.still (Blk.still BP.out SB.out) s1))
  have S2 := Lib.hid (show Still w w2 by rw [hw2]; exact below_setRow (Still.trans SAB.out s1) (by rw [HG1.out]; exact Nat.le_refl _) _)
  have HW2 := Lib.hid hw2
  clear FW1 oe od s1 rng hw2 SA SB SP HWB HGB HG1 HG2 G12 BP BAP SAB
  go_upto_region 2 with (first
    | (guard_target =~ wpList _ _ _ (Oper.mk (some 23) _ _ _ _ _ :: _) _ _; go_must (refine wpList_load_mid rfl 44 (.tmp 22) rfl gF 0 rfl (entL t K v1) _ RNG.out HU.out rfl (by rw [sizeEnt]; exact congrArg some (by have h := entV_size t K v1 KL.out; unfold entV at h; simpa using h.symm)) ?_))
    | (guard_target =~ wpList _ _ _ (Oper.mk none (Op.store _ _ _) _ _ _ _ :: _) _ _; go_must (refine wpList_store_rowTo rfl 44 (.tmp 3) (.tmp 23) rfl rfl g1 (entV t K v1) (by kernel_rfl) (by kernel_rfl) 44 _ B1.out (by rw [sizeEnt, entV_size _ _ _ KL.out]) (by rw [entV_size _ _ _ KL.out, entV_size _ _ _ KL.out]) (entV_one _ _ _ V1.out) ?_)))
  rw [← HW2.out]
  clear HW2 B1 RNG
  have LV := Lib.hid (fun W (s : Still w2 W) => sgLives W (HT.out W (Still.trans S2.out s)))
  go_wp2_with fail
  go_loopw [7] (fun iv wr => ∃ i : Nat, i ≤ 2 ∧ iv = .int .i64 i ∧ Hid (Still w2 wr)) (fun iv _ => 2 - (intOf iv).toNat)
  case atStart => exact ⟨0, by omega, rfl, Lib.hid (Still.refl _)⟩
  case round =>
    obtain ⟨i, hi, rfl, hh⟩ := hrel
    by_cases hlt : i < 2
    · by_cases h0 : i = 0
      · subst h0
        have S3 := Lib.hid hh.out
        have NL := Lib.hid (fun W (s : Still w2 W) => show NoLog W (.pointer none) from .inl rfl)
        go_upto_region 8 with fail
        have Q3 := Lib.hid (show Still w2 wr from hh.out)
        have B3 := Lib.hid (B2.out.still S3.out)
        go_wp2_with (guard_target =~ wpList _ _ _ (Oper.mk (some 34) _ _ _ _ _ :: _) _ _; go_must (refine wpList_load_row rfl 44 (.tmp 3) rfl g1 rfl _ _ _ _ B3.out HU.out rfl (by rw [sizeEnt, entV_size _ _ _ KL.out]) ?_))
        refine (lappend_no (.pointer none) _ _ (NL.out _ Q3.out)).mono ?_
        rintro e w4 ⟨rfl, s4⟩
        have Q4 := Lib.hid (Still.trans Q3.out s4)
        clear s4 B3
        obtain ⟨w5, hw5⟩ : ∃ w5, w5 = (w4.alloc (.cells #[.int .i64 0, .int .i64 0, .int .i64 0] 39)).setRow w4.heap.size #[.int .i64 0, .int .i64 0, .int .i64 0] := ⟨_, rfl⟩
        have HW5 := Lib.hid hw5
        have Q5 := Lib.hid (show Still w2 w5 by rw [hw5]; exact below_setRow (Q4.out.alloc Q4.out.size _) Q4.out.size _)
        clear hw5
        go_upto_region 9 with (first
          | (guard_target =~ wpList _ _ _ (Oper.mk (some 9) (Op.alloc _) _ _ _ _ :: _) _ _; go_must (refine wpList_alloc_arr rfl 39 rfl (some 9) rfl #[.int .i64 0, .int .i64 0, .int .i64 0] 3 zeroPl ?_))
          | (guard_target =~ wpList _ _ _ (Oper.mk none (Op.store _ _ _) _ _ _ _ :: _) _ _; go_must (refine wpList_store_rowTo rfl 39 (.tmp 9) (.tmp 36) rfl rfl w4.heap.size #[.int .i64 0, .int .i64 0, .int .i64 0] rfl rfl 39 _ (Blk.new w4 _ _) (sizePl.trans rfl) rfl (by simp [Value.oneCell']) ?_); rw [← HW5.out]))
        clear HW5
        go_wp2_with fail
        refine (lcommit_no (.pointer none) _ (NL.out _ Q5.out)).mono ?_
        rintro e w6 ⟨rfl, s6⟩
        have Q6 := Lib.hid (Still.trans Q5.out s6)
        clear s6
        go_wp2_with fail
        refine (lbytes_no (.pointer none) x _ (NL.out _ Q6.out)).mono ?_
        rintro e w7 ⟨rfl, rfl⟩
        have P6 := Lib.hid (P2.out.still Q6.out)
        go_wp2_with (guard_target =~ wpList _ _ _ (Oper.mk (some 51) _ _ _ _ _ :: _) _ _; go_must (refine wpList_load_row rfl 39 (.tmp 4) rfl g2 rfl _ _ _ _ P6.out UP.out rfl (sizePl.trans rfl) ?_))
        refine (lread_no (.pointer none) pa pb pc _ (NL.out _ Q6.out)).mono ?_
        rintro e w8 ⟨rfl, s8⟩
        have Q8 := Lib.hid (Still.trans Q6.out s8)
        clear s8 P6
        obtain ⟨w9, hw9⟩ : ∃ w9, w9 = (w8.alloc (.cells #[.int .i64 0, .int .u8 0, .int .u8 0, .int .u8 0, .int .u8 0, .int .u8 0, .int .u8 0, .int .u8 0, .int .u8 0, .int .u8 0, .int .u8 0, .int .u8 0, .int .u8 0, .int .u8 0, .int .u8 0, .int .u8 0, .int .u8 0, .int .u8 0, .int .u8 0, .int .u8 0, .int .u8 0, .int .u8 0, .int .u8 0, .int .u8 0, .int .u8 0, .int .u8 0, .int .u8 0, .int .u8 0, .int .u8 0, .int .u8 0, .int .u8 0, .int .u8 0, .int .u8 0, .slice none 0 0] 44)).setRow w8.heap.size #[.int .i64 0, .int .u8 0, .int .u8 0, .int .u8 0, .int .u8 0, .int .u8 0, .int .u8 0, .int .u8 0, .int .u8 0, .int .u8 0, .int .u8 0, .int .u8 0, .int .u8 0, .int .u8 0, .int .u8 0, .int .u8 0, .int .u8 0, .int .u8 0, .int .u8 0, .int .u8 0, .int .u8 0, .int .u8 0, .int .u8 0, .int .u8 0, .int .u8 0, .int .u8 0, .int .u8 0, .int .u8 0, .int .u8 0, .int .u8 0, .int .u8 0, .int .u8 0, .int .u8 0, .slice none 0 0] := ⟨_, rfl⟩
        have HW9 := Lib.hid hw9
        have Q9 := Lib.hid (show Still w2 w9 by rw [hw9]; exact below_setRow (Q8.out.alloc Q8.out.size _) Q8.out.size _)
        clear hw9
        go_upto_region 12 with (first
          | (guard_target =~ wpList _ _ _ (Oper.mk (some 15) (Op.alloc _) _ _ _ _ :: _) _ _; go_must (refine wpList_alloc_arr rfl 44 rfl (some 15) rfl #[.int .i64 0, .int .u8 0, .int .u8 0, .int .u8 0, .int .u8 0, .int .u8 0, .int .u8 0, .int .u8 0, .int .u8 0, .int .u8 0, .int .u8 0, .int .u8 0, .int .u8 0, .int .u8 0, .int .u8 0, .int .u8 0, .int .u8 0, .int .u8 0, .int .u8 0, .int .u8 0, .int .u8 0, .int .u8 0, .int .u8 0, .int .u8 0, .int .u8 0, .int .u8 0, .int .u8 0, .int .u8 0, .int .u8 0, .int .u8 0, .int .u8 0, .int .u8 0, .int .u8 0, .slice none 0 0] 34 zeroEnt ?_))
          | (guard_target =~ wpList _ _ _ (Oper.mk none (Op.store _ _ _) _ _ _ _ :: _) _ _; go_must (refine wpList_store_rowTo rfl 44 (.tmp 15) (.tmp 53) rfl rfl w8.heap.size #[.int .i64 0, .int .u8 0, .int .u8 0, .int .u8 0, .int .u8 0, .int .u8 0, .int .u8 0, .int .u8 0, .int .u8 0, .int .u8 0, .int .u8 0, .int .u8 0, .int .u8 0, .int .u8 0, .int .u8 0, .int .u8 0, .int .u8 0, .int .u8 0, .int .u8 0, .int .u8 0, .int .u8 0, .int .u8 0, .int .u8 0, .int .u8 0, .int .u8 0, .int .u8 0, .int .u8 0, .int .u8 0, .int .u8 0, .int .u8 0, .int .u8 0, .int .u8 0, .int .u8 0, .slice none 0 0] rfl rfl 44 _ (Blk.new w8 _ _) (sizeEnt0.trans rfl) rfl (by simp [Value.oneCell']) ?_); rw [← HW9.out]))
        clear HW9
        go_wp2_with fail
        refine (lrollback_no (.pointer none) _ (NL.out _ Q9.out)).mono ?_
        rintro e wx ⟨rfl, rfl⟩
        go_wp2_with fail
        refine (lremove_no (.pointer none) x _ (NL.out _ Q9.out)).mono ?_
        rintro e wx ⟨rfl, rfl⟩
        go_wp2_with fail
        refine (lsync_no (.pointer none) _ (NL.out _ Q9.out)).mono ?_
        rintro e wx ⟨rfl, rfl⟩
        go_wp2_with fail
        refine (lnext_no (.pointer none) _ (NL.out _ Q9.out)).mono ?_
        rintro e wx ⟨rfl, rfl⟩
        go_wp2_with fail
        refine (lsegments_no (.pointer none) _ (NL.out _ Q9.out)).mono ?_
        rintro e wx ⟨rfl, rfl⟩
        go_wp2_with fail
        refine (lfresh_no (.pointer none) _ (NL.out _ Q9.out)).mono ?_
        rintro e wx ⟨rfl, rfl⟩
        go_wp2_with fail
        refine (lsize_no (.pointer none) x _ (NL.out _ Q9.out)).mono ?_
        rintro e wx ⟨rfl, rfl⟩
        go_wp2_with fail
        go_roundw
        case rel => exact ⟨1, by omega, by go_num, Lib.hid (Q9.out)⟩
        case measure => simp [intOf]
      · obtain rfl : i = 1 := by omega
        obtain ⟨w3, hw3⟩ : ∃ w3, w3 = wr.alloc (.cells #[.pointer none, .int .i64 0, .slice none 0 0, .int .i64 0, .bool false] 101) := ⟨_, rfl⟩
        have HW3 := Lib.hid hw3
        have S3 := Lib.hid (show Still w2 w3 by rw [hw3]; exact hh.out.alloc hh.out.size _)
        have NL := Lib.hid (fun W (s : Still w3 W) => show NoLog W (.pointer (some ⟨wr.heap.size, 0, none⟩)) from .inr ⟨_, rfl, (show Blk w3 wr.heap.size 101 _ by rw [hw3]; exact Blk.new _ _ _).still s⟩)
        clear hw3
        go_upto_region 8 with (guard_target =~ wpList _ _ _ (Oper.mk (some 31) (Op.box _ _) _ _ _ _ :: _) _ _; go_must (refine wpList_box_val rfl 101 (.tmp 30) rfl (some 31) rfl #[.pointer none, .int .i64 0, .slice none 0 0, .int .i64 0, .bool false] rfl ?_); rw [← HW3.out])
        have Q3 := Lib.hid (show Still w3 w3 from Still.refl _)
        have B3 := Lib.hid (B2.out.still S3.out)
        go_wp2_with (guard_target =~ wpList _ _ _ (Oper.mk (some 34) _ _ _ _ _ :: _) _ _; go_must (refine wpList_load_row rfl 44 (.tmp 3) rfl g1 rfl _ _ _ _ B3.out HU.out rfl (by rw [sizeEnt, entV_size _ _ _ KL.out]) ?_))
        refine (lappend_no (.pointer (some ⟨wr.heap.size, 0, none⟩)) _ _ (NL.out _ Q3.out)).mono ?_
        rintro e w4 ⟨rfl, s4⟩
        have Q4 := Lib.hid (Still.trans Q3.out s4)
        clear s4 B3
        obtain ⟨w5, hw5⟩ : ∃ w5, w5 = (w4.alloc (.cells #[.int .i64 0, .int .i64 0, .int .i64 0] 39)).setRow w4.heap.size #[.int .i64 0, .int .i64 0, .int .i64 0] := ⟨_, rfl⟩
        have HW5 := Lib.hid hw5
        have Q5 := Lib.hid (show Still w3 w5 by rw [hw5]; exact below_setRow (Q4.out.alloc Q4.out.size _) Q4.out.size _)
        clear hw5
        go_upto_region 9 with (first
          | (guard_target =~ wpList _ _ _ (Oper.mk (some 9) (Op.alloc _) _ _ _ _ :: _) _ _; go_must (refine wpList_alloc_arr rfl 39 rfl (some 9) rfl #[.int .i64 0, .int .i64 0, .int .i64 0] 3 zeroPl ?_))
          | (guard_target =~ wpList _ _ _ (Oper.mk none (Op.store _ _ _) _ _ _ _ :: _) _ _; go_must (refine wpList_store_rowTo rfl 39 (.tmp 9) (.tmp 36) rfl rfl w4.heap.size #[.int .i64 0, .int .i64 0, .int .i64 0] rfl rfl 39 _ (Blk.new w4 _ _) (sizePl.trans rfl) rfl (by simp [Value.oneCell']) ?_); rw [← HW5.out]))
        clear HW5
        go_wp2_with fail
        refine (lcommit_no (.pointer (some ⟨wr.heap.size, 0, none⟩)) _ (NL.out _ Q5.out)).mono ?_
        rintro e w6 ⟨rfl, s6⟩
        have Q6 := Lib.hid (Still.trans Q5.out s6)
        clear s6
        go_wp2_with fail
        refine (lbytes_no (.pointer (some ⟨wr.heap.size, 0, none⟩)) x _ (NL.out _ Q6.out)).mono ?_
        rintro e w7 ⟨rfl, rfl⟩
        have P6 := Lib.hid (P2.out.still (Still.trans S3.out Q6.out))
        go_wp2_with (guard_target =~ wpList _ _ _ (Oper.mk (some 51) _ _ _ _ _ :: _) _ _; go_must (refine wpList_load_row rfl 39 (.tmp 4) rfl g2 rfl _ _ _ _ P6.out UP.out rfl (sizePl.trans rfl) ?_))
        refine (lread_no (.pointer (some ⟨wr.heap.size, 0, none⟩)) pa pb pc _ (NL.out _ Q6.out)).mono ?_
        rintro e w8 ⟨rfl, s8⟩
        have Q8 := Lib.hid (Still.trans Q6.out s8)
        clear s8 P6
        obtain ⟨w9, hw9⟩ : ∃ w9, w9 = (w8.alloc (.cells #[.int .i64 0, .int .u8 0, .int .u8 0, .int .u8 0, .int .u8 0, .int .u8 0, .int .u8 0, .int .u8 0, .int .u8 0, .int .u8 0, .int .u8 0, .int .u8 0, .int .u8 0, .int .u8 0, .int .u8 0, .int .u8 0, .int .u8 0, .int .u8 0, .int .u8 0, .int .u8 0, .int .u8 0, .int .u8 0, .int .u8 0, .int .u8 0, .int .u8 0, .int .u8 0, .int .u8 0, .int .u8 0, .int .u8 0, .int .u8 0, .int .u8 0, .int .u8 0, .int .u8 0, .slice none 0 0] 44)).setRow w8.heap.size #[.int .i64 0, .int .u8 0, .int .u8 0, .int .u8 0, .int .u8 0, .int .u8 0, .int .u8 0, .int .u8 0, .int .u8 0, .int .u8 0, .int .u8 0, .int .u8 0, .int .u8 0, .int .u8 0, .int .u8 0, .int .u8 0, .int .u8 0, .int .u8 0, .int .u8 0, .int .u8 0, .int .u8 0, .int .u8 0, .int .u8 0, .int .u8 0, .int .u8 0, .int .u8 0, .int .u8 0, .int .u8 0, .int .u8 0, .int .u8 0, .int .u8 0, .int .u8 0, .int .u8 0, .slice none 0 0] := ⟨_, rfl⟩
        have HW9 := Lib.hid hw9
        have Q9 := Lib.hid (show Still w3 w9 by rw [hw9]; exact below_setRow (Q8.out.alloc Q8.out.size _) Q8.out.size _)
        clear hw9
        go_upto_region 12 with (first
          | (guard_target =~ wpList _ _ _ (Oper.mk (some 15) (Op.alloc _) _ _ _ _ :: _) _ _; go_must (refine wpList_alloc_arr rfl 44 rfl (some 15) rfl #[.int .i64 0, .int .u8 0, .int .u8 0, .int .u8 0, .int .u8 0, .int .u8 0, .int .u8 0, .int .u8 0, .int .u8 0, .int .u8 0, .int .u8 0, .int .u8 0, .int .u8 0, .int .u8 0, .int .u8 0, .int .u8 0, .int .u8 0, .int .u8 0, .int .u8 0, .int .u8 0, .int .u8 0, .int .u8 0, .int .u8 0, .int .u8 0, .int .u8 0, .int .u8 0, .int .u8 0, .int .u8 0, .int .u8 0, .int .u8 0, .int .u8 0, .int .u8 0, .int .u8 0, .slice none 0 0] 34 zeroEnt ?_))
          | (guard_target =~ wpList _ _ _ (Oper.mk none (Op.store _ _ _) _ _ _ _ :: _) _ _; go_must (refine wpList_store_rowTo rfl 44 (.tmp 15) (.tmp 53) rfl rfl w8.heap.size #[.int .i64 0, .int .u8 0, .int .u8 0, .int .u8 0, .int .u8 0, .int .u8 0, .int .u8 0, .int .u8 0, .int .u8 0, .int .u8 0, .int .u8 0, .int .u8 0, .int .u8 0, .int .u8 0, .int .u8 0, .int .u8 0, .int .u8 0, .int .u8 0, .int .u8 0, .int .u8 0, .int .u8 0, .int .u8 0, .int .u8 0, .int .u8 0, .int .u8 0, .int .u8 0, .int .u8 0, .int .u8 0, .int .u8 0, .int .u8 0, .int .u8 0, .int .u8 0, .int .u8 0, .slice none 0 0] rfl rfl 44 _ (Blk.new w8 _ _) (sizeEnt0.trans rfl) rfl (by simp [Value.oneCell']) ?_); rw [← HW9.out]))
        clear HW9
        go_wp2_with fail
        refine (lrollback_no (.pointer (some ⟨wr.heap.size, 0, none⟩)) _ (NL.out _ Q9.out)).mono ?_
        rintro e wx ⟨rfl, rfl⟩
        go_wp2_with fail
        refine (lremove_no (.pointer (some ⟨wr.heap.size, 0, none⟩)) x _ (NL.out _ Q9.out)).mono ?_
        rintro e wx ⟨rfl, rfl⟩
        go_wp2_with fail
        refine (lsync_no (.pointer (some ⟨wr.heap.size, 0, none⟩)) _ (NL.out _ Q9.out)).mono ?_
        rintro e wx ⟨rfl, rfl⟩
        go_wp2_with fail
        refine (lnext_no (.pointer (some ⟨wr.heap.size, 0, none⟩)) _ (NL.out _ Q9.out)).mono ?_
        rintro e wx ⟨rfl, rfl⟩
        go_wp2_with fail
        refine (lsegments_no (.pointer (some ⟨wr.heap.size, 0, none⟩)) _ (NL.out _ Q9.out)).mono ?_
        rintro e wx ⟨rfl, rfl⟩
        go_wp2_with fail
        refine (lfresh_no (.pointer (some ⟨wr.heap.size, 0, none⟩)) _ (NL.out _ Q9.out)).mono ?_
        rintro e wx ⟨rfl, rfl⟩
        go_wp2_with fail
        refine (lsize_no (.pointer (some ⟨wr.heap.size, 0, none⟩)) x _ (NL.out _ Q9.out)).mono ?_
        rintro e wx ⟨rfl, rfl⟩
        go_wp2_with fail
        go_roundw
        case rel => exact ⟨2, by omega, by go_num, Lib.hid (Still.trans S3.out Q9.out)⟩
        case measure => simp [intOf]
    · obtain rfl : i = 2 := by omega
      go_wp2_with fail
      refine (open_nil 200 _).mono ?_
      rintro e w3 ⟨rfl, rfl⟩
      go_wp2_with fail
      refine (LV.out _ hh.out).mono ?_
      rintro e w3 ⟨rfl, s3⟩
      have S3 := Lib.hid (Still.trans S2.out (Still.trans hh.out s3))
      clear s3
      go_wp2_with fail
      go_ret
      exact ⟨rfl, S3.out⟩
end Go.Proofs.YtljacdbdjacbkaaGreatDoor
