/- The walk of FrameWrites: it returns true, and nothing that was there turns. -/
import Derived.Test.YtchngfkbogcgaaaDoorFrREnc
import Derived.Test.YtchngfkbogcgaaaDoorFrameReadsWalk
import Derived.Test.YtchngfkbogcgaaaDoorFrFew
import Derived.Test.YtchngfkbogcgaaaDoorOpenEnt
namespace Go.Proofs.YtchngfkbogcgaaaDoor
open Go.RowKit
set_option linter.unusedVariables false
set_option linter.unusedSimpArgs false

/-- A row of one entry: where it lies. -/
theorem ent_of_own {W : World} {B : Nat} {ov : Value} {t : Int} {K : List UInt8} {v : Value} (h : W.ownsRow B 26 34 ov 1 (entL t K v)) :
    ∃ g cap, ov = .slice (some ⟨g, 0, none⟩) 1 cap ∧ W.rangeAt g 0 (entL t K v) := by
  rcases h.2 with ⟨_, h0⟩ | ⟨g, cap, cur, rfl, _, hg, _, _, _, htk⟩
  · omega
  · refine ⟨g, cap, rfl, fun j u hj => ?_⟩
    have hb : W.cell? ⟨g, 0 + j, none⟩ = cur[0 + j]? := cell_of_row W g (0 + j) cur _ (0, 0) hg
    rw [hb, Nat.zero_add]
    rw [← htk] at hj
    rw [List.getElem?_take] at hj
    by_cases h : j < 1 * 34
    · rw [if_pos h, Array.getElem?_toList] at hj; exact hj
    · rw [if_neg h] at hj; cases hj
theorem enc_size (t : Int) (K D : List UInt8) (hK : K.length = 32) : szE t K D.length = (encE t K D).2.length := by
  unfold encE
  by_cases h : ckE t K D.length = 0
  · rw [if_neg (by rw [h]; decide)]
    exact (szE_len hK h).1.symm
  · rw [if_pos h]
    unfold szE
    rw [if_pos h]
    rfl
theorem own_setRow {W : World} {B n z g : Nat} {e : TypeId} {v : Value} {xs : List Value} {cs : Array Value} (o : W.ownsRow B e z v n xs) (hg : g < B) : (W.setRow g cs).ownsRow B e z v n xs :=
  own_high o fun b hb _ => setRow_other W g b cs (by omega)

set_option maxRecDepth 100000 in
set_option maxHeartbeats 3200000 in
theorem frameWrites_walk (t : Int) (K D : List UInt8) (A : Option Addr) (n c : Nat) (w : World) (e0 : EntIn w t K D A n c) (T : Tabs w) :
    Calls Tryd.prog 3 #[.agg (entV t K (.slice A n c))] w fun e w' => e = .returned (.bool true) ∧ Below w.heap.size w w' := by
  have KL := Lib.hid e0.key
  have HT := Lib.hid (fun W (s : Still w W) => T.still s)
  obtain ⟨fs, hu⟩ := underEnt
  have HU := Lib.hid hu
  have LV := Lib.hid (fun w (T : Tabs w) => lives_any w T)
  obtain ⟨g1, hg1⟩ : ∃ g1, g1 = w.heap.size := ⟨_, rfl⟩
  obtain ⟨wA, hwA⟩ : ∃ wA, wA = w.alloc (.cells (entV t K (.slice A n c)) 26) := ⟨_, rfl⟩
  have SA := Lib.hid (show Still w wA by rw [hwA]; exact (Still.refl w).alloc (Nat.le_refl _) _)
  have BA := Lib.hid (show Blk wA g1 26 (entV t K (.slice A n c)) by rw [hwA, hg1]; exact Blk.new _ _ _)
  have HWA := Lib.hid hwA
  have HG1 := Lib.hid hg1
  obtain ⟨gB, hgB⟩ : ∃ gB, gB = wA.heap.size := ⟨_, rfl⟩
  obtain ⟨wB, hwB⟩ : ∃ wB, wB = wA.alloc (.cells (entV t K (.slice A n c)) 26) := ⟨_, rfl⟩
  have SB := Lib.hid (show Still wA wB by rw [hwB]; exact (Still.refl wA).alloc (Nat.le_refl _) _)
  have BB := Lib.hid (show EntB wB gB t K (.slice A n c) by rw [hwB, hgB]; exact EntB.new _ _ _ _)
  have HWB := Lib.hid hwB
  have HGB := Lib.hid hgB
  have sAB : Still w wB := Still.trans SA.out SB.out
  have FW1 := Lib.hid (few1_any gB t K D A n c 17000 wB w.heap.size e0.key BB.out (e0.reads.still (Nat.le_refl _) sAB) sAB.size e0.fit e0.cap e0.nil (by omega) (by omega))
  have G1B := Lib.hid (show g1 < wB.heap.size from by have h1 := BA.out.lt; have h2 := SB.out.size; omega)
  obtain ⟨v0, hv0⟩ : ∃ v0, v0 = Value.slice A n c := ⟨_, rfl⟩
  have HV0 := Lib.hid hv0
  have V0 := Lib.hid (show ∃ A n c, v0 = Value.slice A n c from ⟨_, _, _, hv0⟩)
  obtain ⟨D1, hD1⟩ : ∃ D1, D1 = D.take 17000 := ⟨_, rfl⟩
  obtain ⟨n1, hn1⟩ : ∃ n1, n1 = D1.length := ⟨_, rfl⟩
  have N1 := Lib.hid (show n1 ≤ 17000 by rw [hn1, hD1, List.length_take]; omega)
  have T1 := Lib.hid (show D1.take 17000 = D1 by rw [hD1, List.take_take]; rfl)
  have L1 := Lib.hid hn1
  rw [← hD1, ← hn1] at FW1
  rw [← hv0] at HWA HWB BA ⊢
  have FW1' := FW1
  clear FW1 hv0 hD1 hn1 hwA hwB hgB hg1 BB sAB hu T e0
  go_enter Tryd.func3, Tryd.ntmps3
  go_upto_region 1 with (guard_target =~ wpList _ _ _ (Oper.mk _ (Op.box _ _) _ _ _ _ :: _) _ _; go_must (refine wpList_box_val rfl 26 (.tmp 0) rfl (some 1) rfl (entV t K v0) rfl ?_))
  rw [← HWA.out, ← HG1.out]
  clear HWA
  go_wp2_with (first
    | (guard_target =~ wpList _ _ _ (Oper.mk (some 8) _ _ _ _ _ :: _) _ _; go_must (refine wpList_load_row rfl 26 (.tmp 1) rfl g1 rfl _ _ _ _ BA.out HU.out rfl (by rw [sizeEnt, entV_size _ _ _ KL.out]) ?_))
    | (guard_target =~ wpList _ _ _ (Oper.mk (some 9) _ _ _ _ _ :: _) _ _; go_must (refine wpList_boxE wA rfl (.tmp 8) rfl t K KL.out v0 V0.out rfl ?_; rw [← HWB.out, ← HGB.out])))
  refine FW1'.out.mono ?_
  rintro e w1 ⟨⟨ov, v1, rfl, oe, od⟩, s1⟩
  obtain ⟨gF, cF, rfl, rng⟩ := ent_of_own oe
  have RNG := Lib.hid rng
  have V1 := Lib.hid (show v1.oneCell' = true by rcases od.2 with ⟨h, _⟩ | ⟨_, _, _, h, _⟩ <;> (rw [h]; rfl))
  have B1 := Lib.hid (show Blk w1 g1 26 (entV t K v0) from (Blk.still (Blk.still BA.out SB.out) s1))
  obtain ⟨w2, hw2⟩ : ∃ w2, w2 = w1.setRow g1 (entV t K v1) := ⟨_, rfl⟩
  have B2 := Lib.hid (show Blk w2 g1 26 (entV t K v1) by rw [hw2]; exact setRow_heap _ _ _ _ _ _ B1.out)
  have od2 : w2.ownsRow wB.heap.size 5 1 v1 n1 (bytesV D1) := by rw [hw2]; exact own_setRow od G1B.out
  have S2 := Lib.hid (show Still w w2 by rw [hw2]; exact below_setRow (Still.trans SA.out (Still.trans SB.out s1)) (by rw [HG1.out]; exact Nat.le_refl _) _)
  obtain ⟨A1, c1, hv1, f1, f2, f3⟩ := own_form od2
  have RD1 := Lib.hid (show Reads w2 w2.heap.size A1 n1 D1 from Reads.of_own (hv1 ▸ od2))
  have F1 := Lib.hid (show n1 ≤ c1 ∧ c1 ≤ 9223372036854775807 ∧ (A1 = none → n1 = 0 ∧ c1 = 0) from ⟨f1, f2, f3⟩)
  have HV1 := Lib.hid hv1
  have VF1 := Lib.hid (show ∃ A n c, v1 = Value.slice A n c from ⟨_, _, _, hv1⟩)
  have HW2 := Lib.hid hw2
  obtain ⟨gC, hgC⟩ : ∃ gC, gC = w2.heap.size := ⟨_, rfl⟩
  obtain ⟨wC, hwC⟩ : ∃ wC, wC = w2.alloc (.cells (entV t K v1) 26) := ⟨_, rfl⟩
  have SC := Lib.hid (show Still w2 wC by rw [hwC]; exact (Still.refl w2).alloc (Nat.le_refl _) _)
  have BC := Lib.hid (show EntB wC gC t K v1 by rw [hwC, hgC]; exact EntB.new _ _ _ _)
  have HWC := Lib.hid hwC
  have HGC := Lib.hid hgC
  have FW2 := Lib.hid (few1_any gC t K D1 A1 n1 c1 17000 wC w2.heap.size KL.out (by have h := BC.out; rw [hv1] at h; exact h) (RD1.out.still (Nat.le_refl _) SC.out) SC.out.size f1 f2 f3 (by omega) (by omega))
  rw [T1.out, ← L1.out] at FW2
  have FW2' := FW2
  clear FW2 FW1' oe od od2 s1 rng hw2 hv1 f1 f2 f3 hgC hwC BC SA SB BA HWB HGB G1B HG1
  go_upto_region 2 with (first
    | (guard_target =~ wpList _ _ _ (Oper.mk (some 12) _ _ _ _ _ :: _) _ _; go_must (refine wpList_load_mid rfl 26 (.tmp 11) rfl gF 0 rfl (entL t K v1) _ RNG.out HU.out rfl (by rw [sizeEnt]; exact congrArg some (by have h := entV_size t K v1 KL.out; unfold entV at h; simpa using h.symm)) ?_))
    | (guard_target =~ wpList _ _ _ (Oper.mk none (Op.store _ _ _) _ _ _ _ :: _) _ _; go_must (refine wpList_store_rowTo rfl 26 (.tmp 1) (.tmp 12) rfl rfl g1 (entV t K v1) (by kernel_rfl) (by kernel_rfl) 26 _ B1.out (by rw [sizeEnt, entV_size _ _ _ KL.out]) (by rw [entV_size _ _ _ KL.out, entV_size _ _ _ KL.out]) (entV_one _ _ _ V1.out) ?_)))
  rw [← HW2.out]
  clear HW2 B1 RNG
  go_wp2_with (first
    | (guard_target =~ wpList _ _ _ (Oper.mk (some 13) _ _ _ _ _ :: _) _ _; go_must (refine wpList_load_row rfl 26 (.tmp 1) rfl g1 rfl _ _ _ _ B2.out HU.out rfl (by rw [sizeEnt, entV_size _ _ _ KL.out]) ?_))
    | (guard_target =~ wpList _ _ _ (Oper.mk (some 14) _ _ _ _ _ :: _) _ _; go_must (refine wpList_boxE w2 rfl (.tmp 13) rfl t K KL.out v1 VF1.out rfl ?_; rw [← HWC.out, ← HGC.out])))
  refine FW2'.out.mono ?_
  rintro e w3 ⟨⟨ov, v3, rfl, oe, od⟩, s3⟩
  obtain ⟨gG, cG, rfl, rng⟩ := ent_of_own oe
  have RNG := Lib.hid rng
  have V3 := Lib.hid (show v3.oneCell' = true by rcases od.2 with ⟨h, _⟩ | ⟨_, _, _, h, _⟩ <;> (rw [h]; rfl))
  obtain ⟨A3, c3, hv3, f1, f2, f3⟩ := own_form od
  have F3 := Lib.hid (show n1 ≤ c3 ∧ (A3 = none → c3 = 0) from ⟨f1, fun e => (f3 e).2⟩)
  obtain ⟨g3, hg3⟩ : ∃ g3, g3 = w3.heap.size := ⟨_, rfl⟩
  obtain ⟨w4, hw4⟩ : ∃ w4, w4 = (w3.alloc (.cells #[.int .i64 0, .int .u8 0, .int .u8 0, .int .u8 0, .int .u8 0, .int .u8 0, .int .u8 0, .int .u8 0, .int .u8 0, .int .u8 0, .int .u8 0, .int .u8 0, .int .u8 0, .int .u8 0, .int .u8 0, .int .u8 0, .int .u8 0, .int .u8 0, .int .u8 0, .int .u8 0, .int .u8 0, .int .u8 0, .int .u8 0, .int .u8 0, .int .u8 0, .int .u8 0, .int .u8 0, .int .u8 0, .int .u8 0, .int .u8 0, .int .u8 0, .int .u8 0, .int .u8 0, .slice none 0 0] 26)).setRow w3.heap.size (entV t K v3) := ⟨_, rfl⟩
  have s34 : Still w3 w4 := by rw [hw4]; exact below_setRow ((Still.refl w3).alloc (Nat.le_refl _) _) (Nat.le_refl _) _
  have B4 := Lib.hid (show Blk w4 g3 26 (entV t K v3) by rw [hw4, hg3]; exact setRow_heap _ _ _ _ _ _ (heap_alloc_new w3 _))
  have s24 : Still w2 w4 := Still.trans SC.out (Still.trans s3 s34)
  have S4 := Lib.hid (show Still w w4 from Still.trans S2.out s24)
  have B4' := Lib.hid (show Blk w4 g1 26 (entV t K v1) from B2.out.still s24)
  have R4 := Lib.hid (show Reads w4 w2.heap.size A1 n1 D1 from RD1.out.still (Nat.le_refl _) s24)
  have R3 := Lib.hid (show Reads w4 w3.heap.size A3 n1 D1 from (Reads.of_own (hv3 ▸ od)).still (Nat.le_refl _) s34)
  have HW4 := Lib.hid hw4
  have HG3 := Lib.hid hg3
  have hn20 : n1 ≤ 1048576 := by have := N1.out; omega
  have ENC := Lib.hid (encode_any t K D1 A3 n1 c3 w4 _ KL.out R3.out s34.size F3.out.2 hn20 (HT.out _ S4.out))
  have RENC := Lib.hid (fun W (s : Still w4 W) => rencode_any t K D1 A1 n1 c1 W _ KL.out (R4.out.still s24.size s) (Nat.le_trans s24.size s.size) (fun e => (F1.out.2.2 e).2) hn20)
  have SIZ := Lib.hid (fun W => size_any t K A3 n1 c3 W KL.out hn20)
  have SAM := Lib.hid (fun W (s : Still w4 W) => sameE_yes t K D1 A3 A1 n1 c3 c1 W _ _ KL.out (R3.out.still s34.size s) (R4.out.still s24.size s) (Nat.le_trans s34.size s.size) (Nat.le_trans s24.size s.size) hn20)
  have ESZ := enc_size t K D1 KL.out
  rw [← L1.out] at ESZ
  rw [ESZ] at SIZ
  rw [← hv3] at ENC SIZ SAM
  rw [← HV1.out] at RENC SAM
  have XL := Lib.hid (show (encE t K D1).2.length ≤ 1048576 by
    unfold encE
    by_cases h : ckE t K D1.length = 0
    · rw [if_neg (by rw [h]; decide)]
      have h2 := szE_len KL.out h
      show (bytE t K D1).length ≤ _
      omega
    · rw [if_pos h]; simp)
  generalize (encE t K D1).1 = er at ENC RENC
  generalize (encE t K D1).2 = X at ENC RENC SIZ XL
  have ENC' := ENC
  have RENC' := RENC
  have SIZ' := SIZ
  have SAM' := SAM
  have XL' : Hid (X.length ≤ 1048576) := XL
  clear ENC RENC SIZ SAM XL ESZ hn20 oe od s3 s34 s24 rng hv3 f1 f2 f3 hw4 hg3 FW2' SC HWC HGC RD1 S2 B2
  go_upto_region 3 with (first
    | (guard_target =~ wpList _ _ _ (Oper.mk (some 17) _ _ _ _ _ :: _) _ _; go_must (refine wpList_load_mid rfl 26 (.tmp 16) rfl gG 0 rfl (entL t K v3) _ RNG.out HU.out rfl (by rw [sizeEnt]; exact congrArg some (by have h := entV_size t K v3 KL.out; unfold entV at h; simpa using h.symm)) ?_))
    | (guard_target =~ wpList _ _ _ (Oper.mk none (Op.store _ _ _) _ _ _ _ :: _) _ _; go_must (refine wpList_store_rowTo rfl 26 (.tmp 3) (.tmp 17) rfl rfl w3.heap.size (entV t K v3) (by kernel_rfl) (by kernel_rfl) 26 _ (heap_alloc_new w3 _) (by rw [sizeEnt, entV_size _ _ _ KL.out]) (by rw [entV_size _ _ _ KL.out]; rfl) (entV_one _ _ _ V3.out) ?_)))
  rw [← HW4.out, ← HG3.out]
  clear HW4 RNG
  go_wp2_with (guard_target =~ wpList _ _ _ (Oper.mk (some 19) _ _ _ _ _ :: _) _ _; go_must (refine wpList_load_row rfl 26 (.tmp 3) rfl g3 rfl _ _ _ _ B4.out HU.out rfl (by rw [sizeEnt, entV_size _ _ _ KL.out]) ?_))
  refine ENC'.out.mono ?_
  rintro e w5 ⟨⟨vb, rfl, ob⟩, s5⟩
  obtain ⟨Ab, cb, rfl, fb1, fb2, fb3⟩ := own_form ob
  have S5 := Lib.hid s5
  have RB := Lib.hid (show Reads w5 w5.heap.size Ab X.length X from Reads.of_own ob)
  have RC := Lib.hid (RENC'.out _ s5)
  clear s5 ob fb3 ENC' RENC'
  go_wp2_with (guard_target =~ wpList _ _ _ (Oper.mk (some 24) _ _ _ _ _ :: _) _ _; go_must (refine wpList_load_row rfl 26 (.tmp 1) rfl g1 rfl _ _ _ _ (Blk.still B4'.out S5.out) HU.out rfl (by rw [sizeEnt, entV_size _ _ _ KL.out]) ?_))
  refine RC.out.mono ?_
  rintro e w6 ⟨⟨vc, rfl, oc⟩, s6⟩
  obtain ⟨Ac, cc, rfl, fc1, fc2, fc3⟩ := own_form oc
  have S6 := Lib.hid (show Still w4 w6 from Still.trans S5.out s6)
  have SM0 := same_any Ab Ac X.length X.length cb cc X X w6 _ _ (RB.out.still (Nat.le_refl _) s6) (Reads.of_own oc) (by have := XL'.out; omega) (by have := XL'.out; omega)
  rw [show decide (X = X) = true by simp] at SM0
  have SM := Lib.hid SM0
  obtain ⟨xl, hxl⟩ : ∃ xl, xl = X.length := ⟨_, rfl⟩
  rw [← hxl] at SM SIZ' ⊢
  clear SM0 s6 oc fc3 RC RB hxl XL' fb1 fb2 fc1 fc2
  go_wp2_with fail
  refine SM.out.mono ?_
  rintro e w7 ⟨rfl, s7⟩
  have S7 := Lib.hid (show Still w4 w7 from Still.trans S6.out s7)
  clear s7 SM
  go_wp2_with (guard_target =~ wpList _ _ _ (Oper.mk (some 37) _ _ _ _ _ :: _) _ _; go_must (refine load_rowG (by kernel_rfl) 26 (.tmp 3) rfl g3 rfl _ _ _ _ (Blk.still B4.out S7.out) HU.out rfl (by rw [sizeEnt, entV_size _ _ _ KL.out]) ?_))
  refine (SIZ'.out _).mono ?_
  rintro e w8 ⟨rfl, s8⟩
  have S8 := Lib.hid (show Still w4 w8 from Still.trans S7.out s8)
  clear s8 SIZ'
  go_wp2_with (first
    | (guard_target =~ wpList _ _ _ (Oper.mk (some 44) _ _ _ _ _ :: _) _ _; go_must (refine load_rowG (by kernel_rfl) 26 (.tmp 3) rfl g3 rfl _ _ _ _ (Blk.still B4.out S8.out) HU.out rfl (by rw [sizeEnt, entV_size _ _ _ KL.out]) ?_))
    | (guard_target =~ wpList _ _ _ (Oper.mk (some 45) _ _ _ _ _ :: _) _ _; go_must (refine load_rowG (by kernel_rfl) 26 (.tmp 1) rfl g1 rfl _ _ _ _ (Blk.still B4'.out S8.out) HU.out rfl (by rw [sizeEnt, entV_size _ _ _ KL.out]) ?_)))
  refine (SAM'.out _ S8.out).mono ?_
  rintro e w9 ⟨rfl, s9⟩
  have S9 := Lib.hid (show Still w w9 from Still.trans S4.out (Still.trans S8.out s9))
  clear s9 SAM'
  go_wp2_with fail
  refine (LV.out _ (HT.out _ S9.out)).mono ?_
  rintro e w10 ⟨rfl, s10⟩
  have S10 := Lib.hid (show Still w w10 from Still.trans S9.out s10)
  clear s10
  go_wp2_with fail
  go_ret
  exact ⟨rfl, S10.out⟩
end Go.Proofs.YtchngfkbogcgaaaDoor
