/- Contracts and facts, several texts in one. It proves no statement. -/
import Derived.Test.YtfneloobfidckaaGreatDoorSf40
import Derived.Test.YtfneloobfidckaaGreatDoorSf37

/- The document's own Read of whatever bytes; two entries alike. It proves no statement. -/


namespace Go.Proofs.YtfneloobfidckaaGreatDoor
open Go.RowKit
set_option linter.unusedVariables false
set_option linter.unusedSimpArgs false

set_option maxRecDepth 100000 in
set_option maxHeartbeats 3200000 in
theorem sameE_yes (t : Int) (K D : List UInt8) (A A' : Option Addr) (n c c' : Nat) (w : World) (B B' : Nat) (hK : K.length = 32) (hr : Reads w B A n D) (hr' : Reads w B' A' n D) (hB : B ≤ w.heap.size) (hB' : B' ≤ w.heap.size) (hn : n ≤ 1048576) :
    Calls Tryz.prog 36 #[.agg (entV t K (.slice A n c)), .agg (entV t K (.slice A' n c'))] w fun e w' => e = .returned (.bool true) ∧ Still w w' := by
  obtain ⟨g, hg⟩ : ∃ g, g = w.heap.size := ⟨_, rfl⟩
  obtain ⟨wA, hwA⟩ : ∃ wA, wA = (w.alloc (.cells (entV t K (.slice A n c)) 44)).alloc (.cells (entV t K (.slice A' n c')) 44) := ⟨_, rfl⟩
  have sA : Still w wA := by rw [hwA]; exact ((Still.refl w).alloc (Nat.le_refl _) _).alloc (by simp) _
  have e1 : EntB wA g t K (.slice A n c) := by
    rw [hwA, hg]
    exact Blk.alloc (EntB.new w t K (.slice A n c)) _
  have e2 : EntB wA (g + 1) t K (.slice A' n c') := by
    have h := EntB.new (w.alloc (.cells (entV t K (.slice A n c)) 44)) t K (.slice A' n c')
    rw [← hwA] at h
    rw [hg]
    simpa using h
  have k0 : wA.cell? ⟨g, 0, none⟩ = some (.int .i64 t) := e1.tag
  have k0' : wA.cell? ⟨g + 1, 0, none⟩ = some (.int .i64 t) := e2.tag
  have k33 : wA.cell? ⟨g, 33, none⟩ = some (.slice A n c) := e1.data hK
  have k33' : wA.cell? ⟨g + 1, 33, none⟩ = some (.slice A' n c') := e2.data hK
  have R1 := Lib.hid e1.key
  have R2 := Lib.hid e2.key
  have SA := Lib.hid sA
  have HK := Lib.hid hK
  have HG := Lib.hid hg
  have SM0 := same_any A A' n n c c' D D wA B B' (hr.still hB sA) (hr'.still hB' sA) (by omega) (by omega)
  rw [show decide (D = D) = true by simp] at SM0
  have SM := Lib.hid SM0
  obtain ⟨v1, hv1⟩ : ∃ v1, v1 = entV t K (.slice A n c) := ⟨_, rfl⟩
  obtain ⟨v2, hv2⟩ : ∃ v2, v2 = entV t K (.slice A' n c') := ⟨_, rfl⟩
  rw [← hv1, ← hv2] at hwA ⊢
  have HWA := Lib.hid hwA
  obtain ⟨kv, hkv⟩ : ∃ kv, kv = (bytesV K).toArray := ⟨_, rfl⟩
  have HKV := Lib.hid hkv
  have hq2 : ∀ w : World, (binOp .eql 41 (.agg kv) (.agg kv)).run Tryz.prog w = .ok (.bool true) w := fun w => by
    rw [hkv, eql_ids w K K hK hK, decide_eq_true rfl]
  clear hwA sA e1 e2 hr hr' hB hB' hn SM0 hv1 hv2 hkv hg hK
  go_enter Tryz.func36, Tryz.ntmps36
  go_upto_region 1 with (first
    | (guard_target =~ wpList _ _ _ (Oper.mk (some 2) _ _ _ _ _ :: _) _ _; go_must (refine wpList_box_val rfl 44 (.tmp 0) rfl (some 2) rfl v1 rfl ?_))
    | (guard_target =~ wpList _ _ _ (Oper.mk (some 3) _ _ _ _ _ :: _) _ _; go_must (refine wpList_box_val rfl 44 (.tmp 1) rfl (some 3) rfl v2 rfl ?_)))
  rw [← HWA.out, ← HG.out]
  clear HWA
  go_wp2_with (first
    | (guard_target =~ wpList _ _ _ (Oper.mk (some 12) _ _ _ _ _ :: _) _ _; go_must (refine load_midG (by kernel_rfl) 41 (.tmp 11) rfl g 1 rfl (bytesV K) _ R1.out under32 rfl (by rw [size32, bytesV_length, HK.out]) ?_; rw [← HKV.out]))
    | (guard_target =~ wpList _ _ _ (Oper.mk (some 14) _ _ _ _ _ :: _) _ _; go_must (refine load_midG (by kernel_rfl) 41 (.tmp 13) rfl (g + 1) 1 rfl (bytesV K) _ R2.out under32 rfl (by rw [size32, bytesV_length, HK.out]) ?_; rw [← HKV.out])))
  refine SM.out.mono ?_
  rintro e w1 ⟨rfl, s1⟩
  have S1 := Lib.hid (SA.out.trans s1)
  clear s1 SM
  go_wp2_with fail
  go_ret
  exact ⟨rfl, S1.out⟩
/-- One byte of the key laid anew. -/
theorem EntB.setByte {w : World} {g : Nat} {t : Int} {K : List UInt8} {v : Value} (h : EntB w g t K v) (hK : K.length = 32) (j : Nat) (hj : j < 32) (b : UInt8) : EntB (w.setCell ⟨g, 1 + j, none⟩ (.int .u8 (b.toNat : Int))) g t (K.set j b) v := by
  have h1 := Blk.setc h (1 + j) (.int .u8 (b.toNat : Int))
  have e : (entV t K v).setIfInBounds (1 + j) (.int .u8 (b.toNat : Int)) = entV t (K.set j b) v := by
    have hb : bytesV (K.set j b) = (bytesV K).set j (.int .u8 (b.toNat : Int)) := by simp [bytesV, List.map_set]
    unfold entV entL
    rw [hb, List.setIfInBounds_toArray, Nat.add_comm, List.set_cons_succ, List.set_append_left _ _ (by rw [bytesV_length]; omega)]
  show Blk _ _ _ _
  rw [← e]
  exact h1
theorem take_set_next {K K' : List UInt8} {j : Nat} (hK : K.length = 32) (hK' : K'.length = 32) (hj : j < 32) (h : K'.take j = K.take j) : (K'.set j (K.getD j 0)).take (j + 1) = K.take (j + 1) := by
  rw [List.take_add_one, List.take_add_one, List.take_set_of_le (Nat.le_refl _), h]
  congr 1
  rw [List.getElem?_set_self (by omega), List.getElem?_eq_getElem (by omega)]
  simp [List.getD, hK, hj]
theorem fit_not (y z : Nat) : fitE y z = decide ((y = 0 ∧ 41 ≤ z ∧ z ≤ 16425) ∨ (y = 1 ∧ z = 41) ∨ (y = 2 ∧ z = 9)) := by
  unfold fitE
  by_cases h0 : y = 0
  · rw [if_pos h0]
    subst h0
    simp
  rw [if_neg h0]
  by_cases h1 : y = 1
  · rw [if_pos h1]
    subst h1
    simp
  rw [if_neg h1]
  by_cases h2 : y = 2
  · rw [if_pos h2]
    subst h2
    simp
  rw [if_neg h2]
  symm
  rw [decide_eq_false_iff_not]
  omega

set_option maxRecDepth 100000 in
set_option maxHeartbeats 6400000 in
theorem rread_any (A : Option Addr) (n c : Nat) (l : List UInt8) (w : World) (B : Nat) (hr : Reads w B A n l) (hB : B ≤ w.heap.size) (hn : n ≤ 1048576) (hc : n ≤ c) (hcm : c ≤ 9223372036854775807) :
    Calls Tryz.prog 112 #[.slice A n c] w fun e w' => (∃ v, e = .returned (.tuple #[.agg (entV (rdT l) (rdK l) v), .int .i64 (rdN l : Nat), .int .i64 (rdE l)]) ∧ w'.ownsRow w.heap.size 5 1 v (rdD l).length (bytesV (rdD l))) ∧ Still w w' := by
  have hlen := hr.1
  obtain ⟨g, hg⟩ : ∃ g, g = w.heap.size := ⟨_, rfl⟩
  obtain ⟨wA, hwA⟩ : ∃ wA, wA = w.alloc (.cells (entV 0 (List.replicate 32 0) (.slice none 0 0)) 44) := ⟨_, rfl⟩
  have sA : Still w wA := by rw [hwA]; exact (Still.refl w).alloc (Nat.le_refl _) _
  have BA := Lib.hid (show Blk wA g 44 (entV 0 (List.replicate 32 0) (.slice none 0 0)) by rw [hwA, hg]; exact Blk.new _ _ _)
  have HWA := Lib.hid (show wA = w.alloc (.cells #[.int .i64 0, .int .u8 0, .int .u8 0, .int .u8 0, .int .u8 0, .int .u8 0, .int .u8 0, .int .u8 0, .int .u8 0, .int .u8 0, .int .u8 0, .int .u8 0, .int .u8 0, .int .u8 0, .int .u8 0, .int .u8 0, .int .u8 0, .int .u8 0, .int .u8 0, .int .u8 0, .int .u8 0, .int .u8 0, .int .u8 0, .int .u8 0, .int .u8 0, .int .u8 0, .int .u8 0, .int .u8 0, .int .u8 0, .int .u8 0, .int .u8 0, .int .u8 0, .int .u8 0, .slice none 0 0] 44) by rw [hwA]; rfl)
  have HG := Lib.hid hg
  have ZA := Lib.hid (show wA.heap.size = g + 1 by rw [hwA, hg]; simp)
  have SA := Lib.hid sA
  have RA := Lib.hid (hr.still hB sA)
  have HB := Lib.hid (show B ≤ g by rw [hg]; exact hB)
  have HR := Lib.hid (show rdE l = if (toE l).2 ≠ 0 then (toE l).2 else if crcSum ((l.take (sizE l)).drop 4) = leNum (l.take 4) then 0 else 13 from rfl)
  have ZR := Lib.hid (show rdE l ≠ 0 → rdT l = 0 ∧ rdK l = List.replicate 32 0 ∧ rdD l = [] ∧ rdN l = 0 from fun h => by
    unfold rdT rdK rdD rdN
    rw [if_neg h, if_neg h, if_neg h, if_neg h]
    exact ⟨rfl, rfl, rfl, rfl⟩)
  have d1 : (n : Int) ≤ 1048576 := by omega
  have d5 : (n : Int) ≤ (c : Int) := by omega
  have DC := Lib.hid hcm
  have HLN := Lib.hid hlen
  have HC := Lib.hid hc
  obtain ⟨fs, hu⟩ := underEnt
  have HU := Lib.hid hu
  by_cases h9 : n < 9
  · have HE := Lib.hid (show rdE l = 3 by
      have q : (toE l).2 = 3 := by unfold toE; rw [if_pos (by rw [hlen]; exact h9)]
      rw [HR.out, q]; rfl)
    have d2 : (n : Int) < 9 := by omega
    clear hwA hg sA hr hB hn hc hcm hlen hu h9
    go_enter Tryz.func112, Tryz.ntmps112
    go_upto_region 1 with fail
    rw [← HWA.out, ← HG.out]
    go_wp2_with (guard_target =~ wpList _ _ _ (Oper.mk none (Op.store _ _ _) _ _ _ _ :: _) _ _; go_must (refine wpList_store_rowTo rfl 44 (.tmp 2) (.tmp 16) rfl rfl g #[.int .i64 0, .int .u8 0, .int .u8 0, .int .u8 0, .int .u8 0, .int .u8 0, .int .u8 0, .int .u8 0, .int .u8 0, .int .u8 0, .int .u8 0, .int .u8 0, .int .u8 0, .int .u8 0, .int .u8 0, .int .u8 0, .int .u8 0, .int .u8 0, .int .u8 0, .int .u8 0, .int .u8 0, .int .u8 0, .int .u8 0, .int .u8 0, .int .u8 0, .int .u8 0, .int .u8 0, .int .u8 0, .int .u8 0, .int .u8 0, .int .u8 0, .int .u8 0, .int .u8 0, .slice none 0 0] rfl rfl 44 _ BA.out (by rw [sizeEnt]; rfl) (by rfl) (by kernel_rfl) ?_))
    (try simp only [Exit.inBlock, Exit.then])
    refine bodyPost_ret (results_cell2 rfl _ _ g _ _ _ rfl (setRow_heap wA _ _ _ _ _ BA.out) HU.out rfl (by rw [sizeEnt]; rfl)) rfl ?_
    obtain ⟨r1, r2, r3, r4⟩ := ZR.out (by rw [HE.out]; decide)
    rw [r1, r2, r3, r4, HE.out]
    exact ⟨⟨_, rfl, World.ownsRow_nil _ _ _ _⟩, below_setRow SA.out (by rw [HG.out]; exact Nat.le_refl _) _⟩
  have d2 : ¬ (n : Int) < 9 := by omega
  obtain ⟨b, o, hAA, hb, hcell⟩ := (hr.still hB sA).at_ (by omega)
  subst hAA
  have hk := hcell 8 (by omega)
  have ht : ((l.getD 8 0).toNat : Int) = (tagE l : Nat) := rfl
  rw [ht] at hk
  have GT0 := rget_yes (some ⟨b, o + 4, none⟩) 4 (c - 4) ((l.drop 4).take 4) wA B (((hr.still hB sA).dropk (k := 4) (by omega)).takek (k := 4) (by omega)) (by omega) (by omega)
  have hz : leNum ((l.drop 4).take 4) = sizE l := rfl
  rw [hz] at GT0
  have GT := Lib.hid GT0
  have zl := sizE_lt l
  have tl := tagE_lt l
  have TO := Lib.hid (show (toE l).2 = if fitE (tagE l) (sizE l) = false then 4 else if n < sizE l then 3 else 0 by
    unfold toE
    rw [hlen, if_neg h9]
    split
    · rfl
    · split <;> rfl)
  obtain ⟨y, hy⟩ : ∃ y, y = tagE l := ⟨_, rfl⟩
  obtain ⟨z, hz2⟩ : ∃ z, z = sizE l := ⟨_, rfl⟩
  rw [← hy] at hk tl TO
  rw [← hz2] at GT zl TO HR
  have HY := Lib.hid hy
  have HZ := Lib.hid hz2
  have e1 : (4 : Int) ≤ (n : Int) := by omega
  have e2 : (8 : Int) ≤ (n : Int) := by omega
  have e3 : (8 : Int) < (n : Int) := by omega
  have e5 : (8 : Int) ≤ (c : Int) := by omega
  have e6 : (c : Int) ≤ 9223372036854775807 := by omega
  have z1 : (0 : Int) ≤ (z : Int) := by omega
  have z2 : (z : Int) < 4294967296 := by omega
  have z3 : IntKind.i64.wrap (z : Int) = (z : Int) := by rw [IntKind.wrap_i64]; omega
  have y1 : (0 : Int) ≤ (y : Int) := by omega
  have y2 : (y : Int) < 256 := by omega
  have HBL := Lib.hid (show b < B from hb)
  have HL9 := Lib.hid (show 9 ≤ n by omega)
  clear hwA hg sA hr hB hn hc hcm hlen hu hcell ht GT0 hz hy hz2 hb zl tl h9
  go_enter Tryz.func112, Tryz.ntmps112
  go_upto_region 1 with fail
  rw [← HWA.out, ← HG.out]
  clear HWA
  go_wp2_with fail
  refine GT.out.mono ?_
  rintro e w1 ⟨rfl, rfl⟩
  clear GT
  go_upto_region 6 with fail
  clear e6 z2 z3
  go_cut [58] (fun s wx => s = .bool (!fitE y z) ∧ wx = wA)
  case first =>
    have hf := fit_not y z
    by_cases q0 : y = 0
    · have b0 : ((y : Int) == 0) = true := by simp; omega
      have b1 : ((y : Int) == 1) = false := by simp; omega
      have b2 : ((y : Int) == 2) = false := by simp; omega
      have b3 : ¬ (2 : Int) < (y : Int) := by omega
      by_cases q1 : z < 41
      · have c1 : (z : Int) < 41 := by omega
        have HF := Lib.hid (show fitE y z = false by rw [hf]; exact decide_eq_false (by omega))
        clear hf q0 q1
        go_wp2_with fail
        go_meet
        exact ⟨by rw [HF.out]; rfl, rfl⟩
      · have c1 : ¬ (z : Int) < 41 := by omega
        by_cases q2 : 16425 < z
        · have c2 : (16425 : Int) < (z : Int) := by omega
          have HF := Lib.hid (show fitE y z = false by rw [hf]; exact decide_eq_false (by omega))
          clear hf q0 q1 q2
          go_wp2_with fail
          go_meet
          exact ⟨by rw [HF.out]; rfl, rfl⟩
        · have c2 : ¬ (16425 : Int) < (z : Int) := by omega
          have HF := Lib.hid (show fitE y z = true by rw [hf]; exact decide_eq_true (by omega))
          clear hf q0 q1 q2
          go_wp2_with fail
          go_meet
          exact ⟨by rw [HF.out]; rfl, rfl⟩
    · have b0 : ((y : Int) == 0) = false := by simp; omega
      by_cases q1 : y = 1
      · have b1 : ((y : Int) == 1) = true := by simp; omega
        have b2 : ((y : Int) == 2) = false := by simp; omega
        have b3 : ¬ (2 : Int) < (y : Int) := by omega
        by_cases q2 : z = 41
        · have c2 : ((z : Int) != 41) = false := by simp; omega
          have HF := Lib.hid (show fitE y z = true by rw [hf]; exact decide_eq_true (by omega))
          clear hf q0 q1 q2
          go_wp2_with fail
          go_meet
          exact ⟨by rw [HF.out]; rfl, rfl⟩
        · have c2 : ((z : Int) != 41) = true := by simp; omega
          have HF := Lib.hid (show fitE y z = false by rw [hf]; exact decide_eq_false (by omega))
          clear hf q0 q1 q2
          go_wp2_with fail
          go_meet
          exact ⟨by rw [HF.out]; rfl, rfl⟩
      · have b1 : ((y : Int) == 1) = false := by simp; omega
        by_cases q2 : y = 2
        · have b2 : ((y : Int) == 2) = true := by simp; omega
          have b3 : ¬ (2 : Int) < (y : Int) := by omega
          by_cases q3 : z = 9
          · have c2 : ((z : Int) != 9) = false := by simp; omega
            have HF := Lib.hid (show fitE y z = true by rw [hf]; exact decide_eq_true (by omega))
            clear hf q0 q1 q2 q3
            go_wp2_with fail
            go_meet
            exact ⟨by rw [HF.out]; rfl, rfl⟩
          · have c2 : ((z : Int) != 9) = true := by simp; omega
            have HF := Lib.hid (show fitE y z = false by rw [hf]; exact decide_eq_false (by omega))
            clear hf q0 q1 q2 q3
            go_wp2_with fail
            go_meet
            exact ⟨by rw [HF.out]; rfl, rfl⟩
        · have b2 : ((y : Int) == 2) = false := by simp; omega
          have b3 : (2 : Int) < (y : Int) := by omega
          have HF := Lib.hid (show fitE y z = false by rw [hf]; exact decide_eq_false (by omega))
          clear hf q0 q1 q2
          go_wp2_with fail
          go_meet
          exact ⟨by rw [HF.out]; rfl, rfl⟩
  case rest =>
    obtain ⟨hs, hw⟩ := hcut
    subst hs
    rw [hw]
    clear hw
    cases hf : fitE y z
    · have HE := Lib.hid (show rdE l = 4 by rw [HR.out, TO.out, if_pos hf]; rfl)
      clear hf
      go_wp2_with (guard_target =~ wpList _ _ _ (Oper.mk none (Op.store _ _ _) _ _ _ _ :: _) _ _; go_must (refine wpList_store_rowTo rfl 44 (.tmp 2) (.tmp 59) rfl rfl g #[.int .i64 0, .int .u8 0, .int .u8 0, .int .u8 0, .int .u8 0, .int .u8 0, .int .u8 0, .int .u8 0, .int .u8 0, .int .u8 0, .int .u8 0, .int .u8 0, .int .u8 0, .int .u8 0, .int .u8 0, .int .u8 0, .int .u8 0, .int .u8 0, .int .u8 0, .int .u8 0, .int .u8 0, .int .u8 0, .int .u8 0, .int .u8 0, .int .u8 0, .int .u8 0, .int .u8 0, .int .u8 0, .int .u8 0, .int .u8 0, .int .u8 0, .int .u8 0, .int .u8 0, .slice none 0 0] rfl rfl 44 _ BA.out (by rw [sizeEnt]; rfl) (by rfl) (by kernel_rfl) ?_))
      (try simp only [Exit.inBlock, Exit.then])
      refine bodyPost_ret (results_cell2 rfl _ _ g _ _ _ rfl (setRow_heap wA _ _ _ _ _ BA.out) HU.out rfl (by rw [sizeEnt]; rfl)) rfl ?_
      obtain ⟨r1, r2, r3, r4⟩ := ZR.out (by rw [HE.out]; decide)
      rw [r1, r2, r3, r4, HE.out]
      exact ⟨⟨_, rfl, World.ownsRow_nil _ _ _ _⟩, below_setRow SA.out (by rw [HG.out]; exact Nat.le_refl _) _⟩
    · have HFIT := Lib.hid (show (y = 0 ∧ 41 ≤ z ∧ z ≤ 16425) ∨ (y = 1 ∧ z = 41) ∨ (y = 2 ∧ z = 9) by
        have h := fit_not y z
        rw [hf] at h
        exact of_decide_eq_true h.symm)
      by_cases hs : n < z
      · have HE := Lib.hid (show rdE l = 3 by
          have q : (toE l).2 = 3 := by rw [TO.out, if_neg (by rw [hf]; decide), if_pos hs]
          rw [HR.out, q]; rfl)
        have c1 : (n : Int) < (z : Int) := by omega
        clear hs hf
        go_wp2_with (guard_target =~ wpList _ _ _ (Oper.mk none (Op.store _ _ _) _ _ _ _ :: _) _ _; go_must (refine wpList_store_rowTo rfl 44 (.tmp 2) (.tmp 64) rfl rfl g #[.int .i64 0, .int .u8 0, .int .u8 0, .int .u8 0, .int .u8 0, .int .u8 0, .int .u8 0, .int .u8 0, .int .u8 0, .int .u8 0, .int .u8 0, .int .u8 0, .int .u8 0, .int .u8 0, .int .u8 0, .int .u8 0, .int .u8 0, .int .u8 0, .int .u8 0, .int .u8 0, .int .u8 0, .int .u8 0, .int .u8 0, .int .u8 0, .int .u8 0, .int .u8 0, .int .u8 0, .int .u8 0, .int .u8 0, .int .u8 0, .int .u8 0, .int .u8 0, .int .u8 0, .slice none 0 0] rfl rfl 44 _ BA.out (by rw [sizeEnt]; rfl) (by rfl) (by kernel_rfl) ?_))
        (try simp only [Exit.inBlock, Exit.then])
        refine bodyPost_ret (results_cell2 rfl _ _ g _ _ _ rfl (setRow_heap wA _ _ _ _ _ BA.out) HU.out rfl (by rw [sizeEnt]; rfl)) rfl ?_
        obtain ⟨r1, r2, r3, r4⟩ := ZR.out (by rw [HE.out]; decide)
        rw [r1, r2, r3, r4, HE.out]
        exact ⟨⟨_, rfl, World.ownsRow_nil _ _ _ _⟩, below_setRow SA.out (by rw [HG.out]; exact Nat.le_refl _) _⟩
      · have TOK := Lib.hid (show (toE l).2 = 0 by rw [TO.out, if_neg (by rw [hf]; decide), if_neg hs])
        have c1 : ¬ (n : Int) < (z : Int) := by omega
        have c2 : (z : Int) ≤ (n : Int) := by omega
        have hz9 : 9 ≤ z := by rcases HFIT.out with q | q | q <;> omega
        have hz16 : z ≤ 16425 := by rcases HFIT.out with q | q | q <;> omega
        have hy2 : y ≤ 2 := by rcases HFIT.out with q | q | q <;> omega
        have c3 : (9 : Int) ≤ (z : Int) := by omega
        have c4 : (4 : Int) ≤ (z : Int) := by omega
        have hcm := DC.out
        have c7 : (z : Int) ≤ (c : Int) := by omega
        have c8 : (4 : Int) ≤ (c : Int) := by omega
        have HNZ := Lib.hid (show z ≤ n by omega)
        have GT2 := Lib.hid (rget_yes (some ⟨b, o, none⟩) 4 c (l.take 4) wA B (RA.out.takek (k := 4) (by omega)) (by omega) (by omega))
        have SU := Lib.hid (rsum_any (some ⟨b, o + 4, none⟩) (z - 4) (c - 4) ((l.take z).drop 4) wA B ((RA.out.takek (k := z) (by omega)).dropk (k := 4) (by omega)) (by omega))
        have m4 : ((z - 4 : Nat) : Int) = (z : Int) - 4 := by omega
        have hl1 : crcSum ((l.take z).drop 4) < 4294967296 := crcAdd_lt 0 _ (by decide)
        obtain ⟨s1, hs1⟩ : ∃ s1, s1 = crcSum ((l.take z).drop 4) := ⟨_, rfl⟩
        obtain ⟨s2, hs2⟩ : ∃ s2, s2 = leNum (l.take 4) := ⟨_, rfl⟩
        rw [← hs1] at SU HR hl1
        rw [← hs2] at GT2 HR
        have HI := Lib.hid hl1
        have HY2 := Lib.hid (And.intro hy2 (And.intro hz9 hz16))
        clear hs hf hz9 hz16 hy2 hcm hs1 hs2 hl1
        go_wp2_with fail
        refine GT2.out.mono ?_
        rintro e w1 ⟨rfl, rfl⟩
        go_wp2_with fail
        refine SU.out.mono ?_
        rintro e w1 ⟨rfl, rfl⟩
        have hl1 := HI.out
        have i3 : IntKind.u64.wrap (s1 : Int) = (s1 : Int) := u64_wrap_nat s1 (by omega)
        clear hl1
        clear GT2 SU
        by_cases hs : s1 = s2
        · have HE := Lib.hid (show rdE l = 0 by rw [HR.out, if_neg (by rw [TOK.out]; decide), if_pos hs])
          have b1 : ((s1 : Int) != (s2 : Int)) = false := by simp; omega
          have b2 : ((s1 : Int) == (s2 : Int)) = true := by simp; omega
          obtain ⟨w2, hw2⟩ : ∃ w2, w2 = (wA.alloc (.cells (entV 0 (List.replicate 32 0) (.slice none 0 0)) 44)).setRow wA.heap.size (entV (y : Int) (List.replicate 32 0) (.slice none 0 0)) := ⟨_, rfl⟩
          have s2' : Still wA w2 := by rw [hw2]; exact below_setRow ((Still.refl wA).alloc (Nat.le_refl _) _) (Nat.le_refl _) _
          have E2 := Lib.hid (show EntB w2 (g + 1) (y : Int) (List.replicate 32 0) (.slice none 0 0) by
            have h : Blk w2 wA.heap.size 44 (entV (y : Int) (List.replicate 32 0) (.slice none 0 0)) := by rw [hw2]; exact setRow_heap _ _ _ _ _ _ (heap_alloc_new wA _)
            rwa [ZA.out] at h)
          have HW2 := Lib.hid (show w2 = (wA.alloc (.cells #[.int .i64 0, .int .u8 0, .int .u8 0, .int .u8 0, .int .u8 0, .int .u8 0, .int .u8 0, .int .u8 0, .int .u8 0, .int .u8 0, .int .u8 0, .int .u8 0, .int .u8 0, .int .u8 0, .int .u8 0, .int .u8 0, .int .u8 0, .int .u8 0, .int .u8 0, .int .u8 0, .int .u8 0, .int .u8 0, .int .u8 0, .int .u8 0, .int .u8 0, .int .u8 0, .int .u8 0, .int .u8 0, .int .u8 0, .int .u8 0, .int .u8 0, .int .u8 0, .int .u8 0, .slice none 0 0] 44)).setRow wA.heap.size #[.int .i64 (y : Int), .int .u8 0, .int .u8 0, .int .u8 0, .int .u8 0, .int .u8 0, .int .u8 0, .int .u8 0, .int .u8 0, .int .u8 0, .int .u8 0, .int .u8 0, .int .u8 0, .int .u8 0, .int .u8 0, .int .u8 0, .int .u8 0, .int .u8 0, .int .u8 0, .int .u8 0, .int .u8 0, .int .u8 0, .int .u8 0, .int .u8 0, .int .u8 0, .int .u8 0, .int .u8 0, .int .u8 0, .int .u8 0, .int .u8 0, .int .u8 0, .int .u8 0, .int .u8 0, .slice none 0 0] by rw [hw2]; rfl)
          have S2A := Lib.hid s2'
          have S2 := Lib.hid (SA.out.trans s2')
          clear hs hw2 s2'
          go_upto_region 14 with (guard_target =~ wpList _ _ _ (Oper.mk none (Op.store _ _ _) _ _ _ _ :: _) _ _; go_must (refine wpList_store_rowTo rfl 44 (.tmp 11) (.tmp 80) rfl rfl wA.heap.size #[.int .i64 (y : Int), .int .u8 0, .int .u8 0, .int .u8 0, .int .u8 0, .int .u8 0, .int .u8 0, .int .u8 0, .int .u8 0, .int .u8 0, .int .u8 0, .int .u8 0, .int .u8 0, .int .u8 0, .int .u8 0, .int .u8 0, .int .u8 0, .int .u8 0, .int .u8 0, .int .u8 0, .int .u8 0, .int .u8 0, .int .u8 0, .int .u8 0, .int .u8 0, .int .u8 0, .int .u8 0, .int .u8 0, .int .u8 0, .int .u8 0, .int .u8 0, .int .u8 0, .int .u8 0, .slice none 0 0] rfl rfl 44 _ (heap_alloc_new wA _) (by rw [sizeEnt]; rfl) (by rfl) (by kernel_rfl) ?_))
          rw [← HW2.out, ZA.out]
          clear HW2
          go_wp2_with fail
          obtain ⟨K, hKK⟩ : ∃ K, K = ((l.take z).drop 9).take 32 := ⟨_, rfl⟩
          have HKK := Lib.hid hKK
          have KEY := Lib.hid (show keyR y (l.take z) = if y = 2 then List.replicate 32 0 else K by rw [hKK]; rfl)
          have HKN := Lib.hid (show y ≠ 2 → K.length = 32 from fun h => by
            have h41 : 41 ≤ z := by rcases HFIT.out with q | q | q <;> omega
            have h2 := HNZ.out
            rw [hKK]
            simp only [List.length_take, List.length_drop, HLN.out]
            omega)
          clear hKK
          go_loopw [12] (fun iv wr => ∃ j : Nat, j ≤ 32 ∧ iv = .int .i64 j ∧ Hid (∃ K', K'.length = 32 ∧ (y ≠ 2 → K'.take j = K.take j) ∧ (y = 2 → K' = List.replicate 32 0) ∧ EntB wr (g + 1) (y : Int) K' (.slice none 0 0) ∧ Below (g + 1) w2 wr)) (fun iv _ => 32 - (intOf iv).toNat)
          case atStart => exact ⟨0, by omega, rfl, List.replicate 32 0, by simp, (fun _ => rfl), (fun _ => rfl), E2.out, Below.refl _ _⟩
          case round =>
            obtain ⟨j, hj, rfl, K', hKl, hkk, hk2, hE, hbl⟩ := hrel
            by_cases hlt : j < 32
            · have i3 : (j : Int) < 32 := by omega
              have i4 : (0 : Int) ≤ (j : Int) := by omega
              by_cases hy2 : y < 2
              · have i5 : (y : Int) < 2 := by omega
                have h41 : 41 ≤ z := by rcases HFIT.out with q | q | q <;> omega
                have hnz := HNZ.out
                have i6 : 9 + (j : Int) < (n : Int) := by omega
                have i7 : IntKind.i64.wrap (9 + (j : Int)) = 9 + (j : Int) := by rw [IntKind.wrap_i64]; omega
                have i8 : (0 : Int) ≤ 9 + (j : Int) := by omega
                have RW : Reads wr B (some ⟨b, o, none⟩) n l := (RA.out.still (by have := HB.out; have := ZA.out; omega) S2A.out).below (hbl.mono (by have := HB.out; omega))
                have kb := RW.cellAt (9 + j) (by omega)
                have kb2 : wr.cell? ⟨b, o + (9 + j), none⟩ = some (.int .u8 (((K.getD j 0).toNat : Nat) : Int)) := by
                  rw [kb, HKK.out]
                  congr 4
                  simp only [List.getD, List.getElem?_take, List.getElem?_drop]
                  rw [if_pos hlt, if_pos (by omega)]
                obtain ⟨kbv, hkbv⟩ : ∃ kbv, kbv = K.getD j 0 := ⟨_, rfl⟩
                rw [← hkbv] at kb2
                obtain ⟨bn, hbn⟩ : ∃ bn : Nat, bn = kbv.toNat := ⟨_, rfl⟩
                have kc : ∃ old, wr.cell? ⟨g + 1, 1 + j, none⟩ = some old := ⟨_, (Blk.cell hE (1 + j)).trans (entV_key _ _ _ _ j (List.getElem?_eq_getElem (by rw [bytesV_length]; omega)))⟩
                obtain ⟨old, ko⟩ := kc
                have kf : wr.frozen? ⟨g + 1, 1 + j, none⟩ = false := Blk.frozen hE _
                have FIN := Lib.hid (show ∃ K', K'.length = 32 ∧ (y ≠ 2 → K'.take (j + 1) = K.take (j + 1)) ∧ (y = 2 → K' = List.replicate 32 0) ∧ EntB (wr.setCell ⟨g + 1, 1 + j, none⟩ (.int .u8 (bn : Int))) (g + 1) (y : Int) K' (.slice none 0 0) ∧ Below (g + 1) w2 (wr.setCell ⟨g + 1, 1 + j, none⟩ (.int .u8 (bn : Int))) from
                  ⟨K'.set j kbv, by rw [List.length_set]; exact hKl, (fun h => by rw [hkbv]; exact take_set_next (HKN.out h) hKl hlt (hkk h)), (fun h => by omega), by rw [hbn]; exact hE.setByte hKl j hlt kbv,
                    Below.grown hbl (grown_set1 (World.grownBy.refl _ _)) (by have := Blk.lt hE; omega) (fun k hk => by have h := Option.some.inj hk; omega)⟩)
                rw [← hbn] at kb2
                have HLT := Lib.hid hlt
                clear hE hbl hkk hk2 hKl kb RW hkbv hbn hlt h41 hnz hy2
                go_wp2_with fail
                go_roundw
                case rel => exact ⟨j + 1, by have := HLT.out; omega, by go_num, FIN.out⟩
                case measure => simp [intOf]; have := HLT.out; omega
              · have i5 : ¬ (y : Int) < 2 := by omega
                have KF := Lib.hid (show K' = keyR y (l.take z) by have h := HY2.out.1; rw [KEY.out, if_pos (by omega)]; exact hk2 (by omega))
                clear hy2 hlt
                go_upto_region 18 with fail
                have EF0 := Lib.hid hE
                have SW := Lib.hid (show Still w wr from Below.trans S2.out (hbl.mono (by rw [← HG.out]; omega)))
                have RW := Lib.hid (show Reads wr B (some ⟨b, o, none⟩) n l from (RA.out.still (by have := HB.out; have := ZA.out; omega) S2A.out).below (hbl.mono (by have := HB.out; omega)))
                have BW := Lib.hid (show Blk wr g 44 (entV 0 (List.replicate 32 0) (.slice none 0 0)) from (hbl.block g (by omega)).trans (BA.out.still S2A.out))
                have ZW := Lib.hid (show B ≤ wr.heap.size by have h1 := hbl.size; have h2 := S2A.out.size; have h3 := HB.out; have := ZA.out; omega)
                have KL := Lib.hid hKl
                clear hE hbl hKl hkk hk2
                have q0 : ¬ y = 0 := by omega
                have b0 : ((y : Int) == 0) = false := by simp; omega
                have EF := EF0
                have BF := BW
                have SF := SW
                have HD := Lib.hid (show datR y (l.take z) = [] by
                  unfold datR
                  by_cases h2 : y = 2
                  · rw [if_pos h2]
                  · rw [if_neg h2]
                    have h41 : z = 41 := by rcases HFIT.out with q | q | q <;> omega
                    exact List.drop_of_length_le (by rw [List.length_take]; omega))
                clear q0
                go_upto_region 20 with fail
                refine wp_region_lit ?_
                refine wpList_load_row rfl 44 (.tmp 11) rfl (g + 1) rfl _ _ _ _ EF.out HU.out rfl (by rw [sizeEnt, entV_size _ _ _ KL.out]) ?_
                go_wp2_with (guard_target =~ wpList _ _ _ (Oper.mk none (Op.store _ _ _) _ _ _ _ :: _) _ _; go_must (refine wpList_store_rowTo rfl 44 (.tmp 2) (.tmp 104) rfl rfl g (entV (y : Int) K' (.slice none 0 0)) rfl rfl 44 _ BF.out (by rw [sizeEnt]; rw [entV_size _ _ _ KL.out]) (by rw [entV_size _ _ _ KL.out, entV_size _ _ _ (by simp)]) (by exact entV_one _ _ _ rfl) ?_))
                (try simp only [Exit.inBlock, Exit.then])
                refine bodyPost_ret (results_cell2 rfl _ _ g _ _ _ rfl (setRow_heap wr _ _ _ _ _ BF.out) HU.out rfl (by rw [sizeEnt, entV_size _ _ _ KL.out])) rfl ?_
                refine ⟨⟨(.slice none 0 0), ?_, ?_⟩, below_setRow SF.out (by rw [HG.out]; exact Nat.le_refl _) _⟩
                · unfold rdT rdK rdN
                  rw [HE.out, if_pos rfl, if_pos rfl, if_pos rfl, ← HZ.out, ← HY.out, ← KF.out]
                  rfl
                · unfold rdD
                  rw [if_pos HE.out, ← HZ.out, ← HY.out]
                  rw [HD.out]
                  exact World.ownsRow_nil _ _ _ _
            · have i3 : ¬ (j : Int) < 32 := by omega
              have KF := Lib.hid (show K' = keyR y (l.take z) by
                rw [KEY.out]
                by_cases h : y = 2
                · rw [if_pos h]; exact hk2 h
                · rw [if_neg h]
                  have h1 := hkk h
                  rw [List.take_of_length_le (by omega), List.take_of_length_le (by rw [HKN.out h]; omega)] at h1
                  exact h1)
              clear hlt
              go_upto_region 18 with fail
              have EF0 := Lib.hid hE
              have SW := Lib.hid (show Still w wr from Below.trans S2.out (hbl.mono (by rw [← HG.out]; omega)))
              have RW := Lib.hid (show Reads wr B (some ⟨b, o, none⟩) n l from (RA.out.still (by have := HB.out; have := ZA.out; omega) S2A.out).below (hbl.mono (by have := HB.out; omega)))
              have BW := Lib.hid (show Blk wr g 44 (entV 0 (List.replicate 32 0) (.slice none 0 0)) from (hbl.block g (by omega)).trans (BA.out.still S2A.out))
              have ZW := Lib.hid (show B ≤ wr.heap.size by have h1 := hbl.size; have h2 := S2A.out.size; have h3 := HB.out; have := ZA.out; omega)
              have KL := Lib.hid hKl
              clear hE hbl hKl hkk hk2
              by_cases q0 : y = 0
              · have b0 : ((y : Int) == 0) = true := by simp; omega
                have hz41 : 41 ≤ z := by rcases HFIT.out with q | q | q <;> omega
                have hnz := HNZ.out
                have hnc := HC.out
                have c1 : (41 : Int) ≤ (z : Int) := by omega
                have c2 : (z : Int) ≤ (n : Int) := by omega
                have c3 : (z : Int) ≤ (c : Int) := by omega
                have hcm := DC.out
                have c4 : (c : Int) ≤ 9223372036854775807 := by omega
                obtain ⟨mm, hmm⟩ : ∃ mm : Nat, mm = z - 41 := ⟨_, rfl⟩
                have c5 : (z : Int) - 41 = (mm : Int) := by omega
                have c5n : z - 41 = mm := hmm.symm
                have hdl : ((l.take z).drop 41).length = mm := by rw [List.length_drop, List.length_take, HLN.out]; omega
                have CP1 := Lib.hid (show c = 41 → Calls Tryz.prog 108 #[.slice (some ⟨b, o, none⟩) mm (c - 41)] wr fun e w' => (∃ v, e = .returned v ∧ w'.ownsRow wr.heap.size 5 1 v mm (bytesV ((l.take z).drop 41))) ∧ Still wr w' from fun q => by
                  have hm0 : mm = 0 := by omega
                  have h0 : (l.take z).drop 41 = [] := List.eq_nil_of_length_eq_zero (by omega)
                  rw [hm0, h0]
                  exact copy_any _ 0 _ [] wr 0 Reads.nil0 (by omega) (fun e => by cases e))
                have CP2 := Lib.hid (show ¬ c = 41 → Calls Tryz.prog 108 #[.slice (some ⟨b, o + 41, none⟩) mm (c - 41)] wr fun e w' => (∃ v, e = .returned v ∧ w'.ownsRow wr.heap.size 5 1 v mm (bytesV ((l.take z).drop 41))) ∧ Still wr w' from fun q => by
                  rw [hmm]
                  exact copy_any _ (z - 41) _ _ wr B ((RW.out.takek (k := z) (by omega)).dropk (k := 41) (by omega)) (by omega) (fun e => by cases e))
                have DL := Lib.hid hdl
                have Q0 := Lib.hid q0
                clear hz41 hnz hnc hcm hmm hdl q0
                by_cases q41 : c = 41
                · have CP := Lib.hid (CP1.out q41)
                  clear CP1 CP2
                  subst q41
                  go_wp2_with fail
                  refine CP.out.mono ?_
                  rintro e w7 ⟨⟨v7, rfl, own7⟩, s7⟩
                  have E7 := Lib.hid (EF0.out.still s7)
                  have q5 : w7.cell? ⟨g + 1, 33, none⟩ = some (.slice none 0 0) := E7.out.data KL.out
                  have f5 : w7.frozen? ⟨g + 1, 33, none⟩ = false := Blk.frozen E7.out _
                  have V7 := Lib.hid (show v7.oneCell' = true by rcases own7.2 with ⟨h, _⟩ | ⟨_, _, _, h, _⟩ <;> (rw [h]; rfl))
                  have hv7 := V7.out
                  have B7 := Lib.hid (BW.out.still s7)
                  have S7 := Lib.hid (SW.out.trans s7)
                  have O7 := Lib.hid own7
                  have Z7 := Lib.hid (show g + 1 < wr.heap.size from Blk.lt EF0.out)
                  obtain ⟨w8, hw8⟩ : ∃ w8, w8 = w7.setCell ⟨g + 1, 33, none⟩ v7 := ⟨_, rfl⟩
                  have EF := Lib.hid (show EntB w8 (g + 1) (y : Int) K' v7 by rw [hw8]; exact E7.out.setData KL.out)
                  have BF := Lib.hid (show Blk w8 g 44 (entV 0 (List.replicate 32 0) (.slice none 0 0)) by rw [hw8]; exact B7.out.far (by simp only; omega) _)
                  have SF := Lib.hid (show Still w w8 by
                    rw [hw8]
                    exact S7.out.grown (grown_set1 (World.grownBy.refl _ _)) S7.out.size (fun k hk => by have h := Option.some.inj hk; have := HG.out; omega))
                  have OF := Lib.hid (show w8.ownsRow wr.heap.size 5 1 v7 mm (bytesV ((l.take z).drop 41)) by
                    rw [hw8]
                    exact O7.out.kept (grown_set1 (g := g + 1) (World.grownBy.refl w7 _)) (by
                      rcases hv : v7.ownBlock with _ | k
                      · exact .inl rfl
                      · exact .inr (fun e => by have h1 := (O7.out.lt k hv).1; have e2 := Option.some.inj e; have := Z7.out; omega)))
                  have HW8 := Lib.hid hw8
                  clear own7 s7 hw8 CP
                  go_upto_region 20 with (guard_target =~ wpList _ _ _ (Oper.mk none (Op.store _ _ _) _ _ _ _ :: _) _ _; go_must (refine wpList_store_cell0 rfl 42 (.tmp 103) (.tmp 102) rfl rfl (g + 1) 33 v7 (.slice none 0 0) rfl rfl V7.out (by kernel_rfl) q5 f5 ?_))
                  rw [← HW8.out]
                  clear HW8 q5 f5
                  refine wp_region_lit ?_
                  refine wpList_load_row rfl 44 (.tmp 11) rfl (g + 1) rfl _ _ _ _ EF.out HU.out rfl (by rw [sizeEnt, entV_size _ _ _ KL.out]) ?_
                  go_wp2_with (guard_target =~ wpList _ _ _ (Oper.mk none (Op.store _ _ _) _ _ _ _ :: _) _ _; go_must (refine wpList_store_rowTo rfl 44 (.tmp 2) (.tmp 104) rfl rfl g (entV (y : Int) K' v7) rfl rfl 44 _ BF.out (by rw [sizeEnt]; rw [entV_size _ _ _ KL.out]) (by rw [entV_size _ _ _ KL.out, entV_size _ _ _ (by simp)]) (by exact entV_one _ _ _ V7.out) ?_))
                  (try simp only [Exit.inBlock, Exit.then])
                  refine bodyPost_ret (results_cell2 rfl _ _ g _ _ _ rfl (setRow_heap w8 _ _ _ _ _ BF.out) HU.out rfl (by rw [sizeEnt, entV_size _ _ _ KL.out])) rfl ?_
                  refine ⟨⟨v7, ?_, ?_⟩, below_setRow SF.out (by rw [HG.out]; exact Nat.le_refl _) _⟩
                  · unfold rdT rdK rdN
                    rw [HE.out, if_pos rfl, if_pos rfl, if_pos rfl, ← HZ.out, ← HY.out, ← KF.out]
                    rfl
                  · unfold rdD
                    rw [if_pos HE.out, ← HZ.out, ← HY.out]
                    rw [show datR y (l.take z) = (l.take z).drop 41 by unfold datR; rw [if_neg (by have := Q0.out; omega)], show ((l.take z).drop 41).length = mm from DL.out]
                    have h := OF.out
                    refine ⟨h.1, ?_⟩
                    rcases h.2 with q | ⟨gx, cap, cur, hv, hlo, hb, r⟩
                    · exact .inl q
                    · exact .inr ⟨gx, cap, cur, hv, by have := SW.out.size; omega, (heap_setRow_ne w8 (by have := Z7.out; omega)).trans hb, r⟩
                · have CP := Lib.hid (CP2.out q41)
                  clear CP1 CP2
                  go_wp2_with fail
                  refine CP.out.mono ?_
                  rintro e w7 ⟨⟨v7, rfl, own7⟩, s7⟩
                  have E7 := Lib.hid (EF0.out.still s7)
                  have q5 : w7.cell? ⟨g + 1, 33, none⟩ = some (.slice none 0 0) := E7.out.data KL.out
                  have f5 : w7.frozen? ⟨g + 1, 33, none⟩ = false := Blk.frozen E7.out _
                  have V7 := Lib.hid (show v7.oneCell' = true by rcases own7.2 with ⟨h, _⟩ | ⟨_, _, _, h, _⟩ <;> (rw [h]; rfl))
                  have hv7 := V7.out
                  have B7 := Lib.hid (BW.out.still s7)
                  have S7 := Lib.hid (SW.out.trans s7)
                  have O7 := Lib.hid own7
                  have Z7 := Lib.hid (show g + 1 < wr.heap.size from Blk.lt EF0.out)
                  obtain ⟨w8, hw8⟩ : ∃ w8, w8 = w7.setCell ⟨g + 1, 33, none⟩ v7 := ⟨_, rfl⟩
                  have EF := Lib.hid (show EntB w8 (g + 1) (y : Int) K' v7 by rw [hw8]; exact E7.out.setData KL.out)
                  have BF := Lib.hid (show Blk w8 g 44 (entV 0 (List.replicate 32 0) (.slice none 0 0)) by rw [hw8]; exact B7.out.far (by simp only; omega) _)
                  have SF := Lib.hid (show Still w w8 by
                    rw [hw8]
                    exact S7.out.grown (grown_set1 (World.grownBy.refl _ _)) S7.out.size (fun k hk => by have h := Option.some.inj hk; have := HG.out; omega))
                  have OF := Lib.hid (show w8.ownsRow wr.heap.size 5 1 v7 mm (bytesV ((l.take z).drop 41)) by
                    rw [hw8]
                    exact O7.out.kept (grown_set1 (g := g + 1) (World.grownBy.refl w7 _)) (by
                      rcases hv : v7.ownBlock with _ | k
                      · exact .inl rfl
                      · exact .inr (fun e => by have h1 := (O7.out.lt k hv).1; have e2 := Option.some.inj e; have := Z7.out; omega)))
                  have HW8 := Lib.hid hw8
                  clear own7 s7 hw8 CP
                  go_upto_region 20 with (guard_target =~ wpList _ _ _ (Oper.mk none (Op.store _ _ _) _ _ _ _ :: _) _ _; go_must (refine wpList_store_cell0 rfl 42 (.tmp 103) (.tmp 102) rfl rfl (g + 1) 33 v7 (.slice none 0 0) rfl rfl V7.out (by kernel_rfl) q5 f5 ?_))
                  rw [← HW8.out]
                  clear HW8 q5 f5
                  refine wp_region_lit ?_
                  refine wpList_load_row rfl 44 (.tmp 11) rfl (g + 1) rfl _ _ _ _ EF.out HU.out rfl (by rw [sizeEnt, entV_size _ _ _ KL.out]) ?_
                  go_wp2_with (guard_target =~ wpList _ _ _ (Oper.mk none (Op.store _ _ _) _ _ _ _ :: _) _ _; go_must (refine wpList_store_rowTo rfl 44 (.tmp 2) (.tmp 104) rfl rfl g (entV (y : Int) K' v7) rfl rfl 44 _ BF.out (by rw [sizeEnt]; rw [entV_size _ _ _ KL.out]) (by rw [entV_size _ _ _ KL.out, entV_size _ _ _ (by simp)]) (by exact entV_one _ _ _ V7.out) ?_))
                  (try simp only [Exit.inBlock, Exit.then])
                  refine bodyPost_ret (results_cell2 rfl _ _ g _ _ _ rfl (setRow_heap w8 _ _ _ _ _ BF.out) HU.out rfl (by rw [sizeEnt, entV_size _ _ _ KL.out])) rfl ?_
                  refine ⟨⟨v7, ?_, ?_⟩, below_setRow SF.out (by rw [HG.out]; exact Nat.le_refl _) _⟩
                  · unfold rdT rdK rdN
                    rw [HE.out, if_pos rfl, if_pos rfl, if_pos rfl, ← HZ.out, ← HY.out, ← KF.out]
                    rfl
                  · unfold rdD
                    rw [if_pos HE.out, ← HZ.out, ← HY.out]
                    rw [show datR y (l.take z) = (l.take z).drop 41 by unfold datR; rw [if_neg (by have := Q0.out; omega)], show ((l.take z).drop 41).length = mm from DL.out]
                    have h := OF.out
                    refine ⟨h.1, ?_⟩
                    rcases h.2 with q | ⟨gx, cap, cur, hv, hlo, hb, r⟩
                    · exact .inl q
                    · exact .inr ⟨gx, cap, cur, hv, by have := SW.out.size; omega, (heap_setRow_ne w8 (by have := Z7.out; omega)).trans hb, r⟩
              · have b0 : ((y : Int) == 0) = false := by simp; omega
                have EF := EF0
                have BF := BW
                have SF := SW
                have HD := Lib.hid (show datR y (l.take z) = [] by
                  unfold datR
                  by_cases h2 : y = 2
                  · rw [if_pos h2]
                  · rw [if_neg h2]
                    have h41 : z = 41 := by rcases HFIT.out with q | q | q <;> omega
                    exact List.drop_of_length_le (by rw [List.length_take]; omega))
                clear q0
                go_upto_region 20 with fail
                refine wp_region_lit ?_
                refine wpList_load_row rfl 44 (.tmp 11) rfl (g + 1) rfl _ _ _ _ EF.out HU.out rfl (by rw [sizeEnt, entV_size _ _ _ KL.out]) ?_
                go_wp2_with (guard_target =~ wpList _ _ _ (Oper.mk none (Op.store _ _ _) _ _ _ _ :: _) _ _; go_must (refine wpList_store_rowTo rfl 44 (.tmp 2) (.tmp 104) rfl rfl g (entV (y : Int) K' (.slice none 0 0)) rfl rfl 44 _ BF.out (by rw [sizeEnt]; rw [entV_size _ _ _ KL.out]) (by rw [entV_size _ _ _ KL.out, entV_size _ _ _ (by simp)]) (by exact entV_one _ _ _ rfl) ?_))
                (try simp only [Exit.inBlock, Exit.then])
                refine bodyPost_ret (results_cell2 rfl _ _ g _ _ _ rfl (setRow_heap wr _ _ _ _ _ BF.out) HU.out rfl (by rw [sizeEnt, entV_size _ _ _ KL.out])) rfl ?_
                refine ⟨⟨(.slice none 0 0), ?_, ?_⟩, below_setRow SF.out (by rw [HG.out]; exact Nat.le_refl _) _⟩
                · unfold rdT rdK rdN
                  rw [HE.out, if_pos rfl, if_pos rfl, if_pos rfl, ← HZ.out, ← HY.out, ← KF.out]
                  rfl
                · unfold rdD
                  rw [if_pos HE.out, ← HZ.out, ← HY.out]
                  rw [HD.out]
                  exact World.ownsRow_nil _ _ _ _
        · have HE := Lib.hid (show rdE l = 13 by rw [HR.out, if_neg (by rw [TOK.out]; decide), if_neg hs])
          have b1 : ((s1 : Int) != (s2 : Int)) = true := by simp; omega
          have b2 : ((s1 : Int) == (s2 : Int)) = false := by simp; omega
          clear hs
          go_wp2_with (guard_target =~ wpList _ _ _ (Oper.mk none (Op.store _ _ _) _ _ _ _ :: _) _ _; go_must (refine wpList_store_rowTo rfl 44 (.tmp 2) (.tmp 78) rfl rfl g #[.int .i64 0, .int .u8 0, .int .u8 0, .int .u8 0, .int .u8 0, .int .u8 0, .int .u8 0, .int .u8 0, .int .u8 0, .int .u8 0, .int .u8 0, .int .u8 0, .int .u8 0, .int .u8 0, .int .u8 0, .int .u8 0, .int .u8 0, .int .u8 0, .int .u8 0, .int .u8 0, .int .u8 0, .int .u8 0, .int .u8 0, .int .u8 0, .int .u8 0, .int .u8 0, .int .u8 0, .int .u8 0, .int .u8 0, .int .u8 0, .int .u8 0, .int .u8 0, .int .u8 0, .slice none 0 0] rfl rfl 44 _ BA.out (by rw [sizeEnt]; rfl) (by rfl) (by kernel_rfl) ?_))
          (try simp only [Exit.inBlock, Exit.then])
          refine bodyPost_ret (results_cell2 rfl _ _ g _ _ _ rfl (setRow_heap wA _ _ _ _ _ BA.out) HU.out rfl (by rw [sizeEnt]; rfl)) rfl ?_
          obtain ⟨r1, r2, r3, r4⟩ := ZR.out (by rw [HE.out]; decide)
          rw [r1, r2, r3, r4, HE.out]
          exact ⟨⟨_, rfl, World.ownsRow_nil _ _ _ _⟩, below_setRow SA.out (by rw [HG.out]; exact Nat.le_refl _) _⟩
end Go.Proofs.YtfneloobfidckaaGreatDoor
