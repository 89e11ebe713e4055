/- The walk of FrameBack: it returns true, and nothing that was there turns. -/
import Derived.Test.YtchngfkbogcgaaaDoorFrBackM
import Derived.Test.YtchngfkbogcgaaaDoorFrameWritesWalk
import Derived.Deep.RegionHeld
namespace Go.Proofs.YtchngfkbogcgaaaDoor
open Go.RowKit
set_option linter.unusedVariables false
set_option linter.unusedSimpArgs false

/-- A row of one entry: its block. -/
theorem ent_blk {W : World} {B : Nat} {ov : Value} {t : Int} {K : List UInt8} {v : Value} (h : W.ownsRow B 26 34 ov 1 (entL t K v)) :
    ∃ g cap cur, ov = .slice (some ⟨g, 0, none⟩) 1 cap ∧ B ≤ g ∧ Blk W g 26 cur ∧ ∀ W', Blk W' g 26 cur → W'.rangeAt g 0 (entL t K v) := by
  rcases h.2 with ⟨_, h0⟩ | ⟨g, cap, cur, rfl, hb, hg, _, _, _, htk⟩
  · omega
  · refine ⟨g, cap, cur, rfl, hb, hg, fun W' hB j u hj => ?_⟩
    rw [Blk.cell hB, Nat.zero_add]
    rw [← htk] at hj
    rw [List.getElem?_take] at hj
    by_cases h : j < 1 * 34
    · rw [if_pos h, Array.getElem?_toList] at hj; exact hj
    · rw [if_neg h] at hj; cases hj

set_option maxRecDepth 100000 in
set_option maxHeartbeats 6400000 in
theorem frameBack_walk (t : Int) (K D : List UInt8) (A : Option Addr) (n c : Nat) (a1 : Option Addr) (len1 cap1 : Nat) (z1 : List Int) (w : World) (e0 : EntIn w t K D A n c) (x1 : RowIn .u8 w a1 len1 cap1 z1) (T : Tabs w) :
    Calls Tryd.prog 6 #[.agg (entV t K (.slice A n c)), .slice a1 len1 cap1] w fun e w' => e = .returned (.bool true) ∧ Below w.heap.size w w' := by
  obtain ⟨l0, r0, hc0, hm0, hA0⟩ := reads_of_row x1
  obtain ⟨nR, hnR⟩ : ∃ nR, nR = min len1 100 := ⟨_, rfl⟩
  have CUT := Lib.hid (fun W (s : Still w W) => show Calls Tryd.prog 18 #[.slice a1 len1 cap1, .int .i64 100] W fun e w' => e = .returned (.slice a1 nR cap1) ∧ W = w' from by rw [hnR]; exact cut_any a1 len1 cap1 100 l0 W _ (r0.still (Nat.le_refl _) s) hc0 hm0 (by omega))
  have RR := Lib.hid (show Reads w w.heap.size a1 nR (l0.take 100) by rw [hnR]; exact r0.take 100)
  obtain ⟨R, hR⟩ : ∃ R, R = l0.take 100 := ⟨_, rfl⟩
  rw [← hR] at RR
  have NR := Lib.hid (show nR ≤ 100 ∧ nR ≤ cap1 ∧ cap1 ≤ 9223372036854775807 from ⟨by omega, by omega, hm0⟩)
  have NA := Lib.hid (show a1 = none → cap1 = 0 from fun e => (hA0 e).2)
  have KL := Lib.hid e0.key
  have HT := Lib.hid (fun W (s : Still w W) => T.still s)
  obtain ⟨fs, hu⟩ := underEnt
  have HU := Lib.hid hu
  have LV := Lib.hid (fun w (T : Tabs w) => lives_any w T)
  obtain ⟨g1, hg1⟩ : ∃ g1, g1 = w.heap.size := ⟨_, rfl⟩
  obtain ⟨wA, hwA⟩ : ∃ wA, wA = w.alloc (.cells (entV t K (.slice A n c)) 26) := ⟨_, rfl⟩
  obtain ⟨wa, hwa⟩ : ∃ wa, wa = wA.drew := ⟨_, rfl⟩
  have SA := Lib.hid (show Still w wa by rw [hwa, hwA]; exact ((Still.refl w).alloc (Nat.le_refl _) _).drew)
  have BA := Lib.hid (show Blk wa g1 26 (entV t K (.slice A n c)) by rw [hwa, hwA, hg1]; exact Blk.still (Blk.new _ _ _) ((Still.refl _).drew))
  have HWA := Lib.hid hwA
  have HWa := Lib.hid hwa
  have HG1 := Lib.hid hg1
  obtain ⟨gB, hgB⟩ : ∃ gB, gB = wa.heap.size := ⟨_, rfl⟩
  obtain ⟨wB, hwB⟩ : ∃ wB, wB = wa.alloc (.cells (entV t K (.slice A n c)) 26) := ⟨_, rfl⟩
  have SB := Lib.hid (show Still wa wB by rw [hwB]; exact (Still.refl wa).alloc (Nat.le_refl _) _)
  have BB := Lib.hid (show EntB wB gB t K (.slice A n c) by rw [hwB, hgB]; exact EntB.new _ _ _ _)
  have HWB := Lib.hid hwB
  have HGB := Lib.hid hgB
  have sAB : Still w wB := Still.trans SA.out SB.out
  have FW1 := Lib.hid (few1_any gB t K D A n c 16384 wB w.heap.size e0.key BB.out (e0.reads.still (Nat.le_refl _) sAB) sAB.size e0.fit e0.cap e0.nil (by omega) (by omega))
  have G1B := Lib.hid (show g1 < wB.heap.size from by have h1 := BA.out.lt; have h2 := SB.out.size; omega)
  obtain ⟨v0, hv0⟩ : ∃ v0, v0 = Value.slice A n c := ⟨_, rfl⟩
  have V0 := Lib.hid (show ∃ A n c, v0 = Value.slice A n c from ⟨_, _, _, hv0⟩)
  obtain ⟨D1, hD1⟩ : ∃ D1, D1 = D.take 16384 := ⟨_, rfl⟩
  obtain ⟨n1, hn1⟩ : ∃ n1, n1 = D1.length := ⟨_, rfl⟩
  have N1 := Lib.hid (show n1 ≤ 16384 by rw [hn1, hD1, List.length_take]; omega)
  have L1 := Lib.hid hn1
  rw [← hD1, ← hn1] at FW1
  rw [← hv0] at HWA HWB BA ⊢
  have FW1' := FW1
  clear FW1 hv0 hD1 hn1 hwA hwa hwB hgB hg1 BB sAB hu T e0 r0 hc0 hm0 hA0 x1 hnR hR
  go_enter Tryd.func6, Tryd.ntmps6
  go_upto_region 1 with (guard_target =~ wpList _ _ _ (Oper.mk _ (Op.box _ _) _ _ _ _ :: _) _ _; go_must (refine wpList_box_val rfl 26 (.tmp 0) rfl (some 2) rfl (entV t K v0) rfl ?_))
  rw [← HWA.out, ← HG1.out]
  clear HWA
  refine wp_region_any (by kernel_rfl) ?_
  change wpAny _ _ _ _ _ _ _ wA.drew
  rw [← HWa.out]
  clear HWa
  try simp only [Act.put, List.setIfInBounds_toArray, List.set_cons_zero, List.set_cons_succ]
  refine wpAny_take (i := 5) (v := .slice a1 len1 cap1) rfl (by kernel_rfl) (by kernel_rfl) (by kernel_rfl) (fun _ _ _ h => h) (Or.inl ⟨by kernel_rfl, fun w => by go_simp⟩) ?_
  try simp only [Act.put, List.setIfInBounds_toArray, List.set_cons_zero, List.set_cons_succ]
  refine wpAny_ready (rs := [0]) (by kernel_rfl) (by simp) ?_
  refine AllReady.cons (o := ⟨some 13, .load 26 (.tmp 2), _, _, _, none⟩) rfl (fun K' hK' => ?_) AllReady.nil
  have HK' := Lib.hid hK'
  clear hK'
  rw [if_pos (by kernel_rfl)]
  refine wp_load_row 26 (.tmp 2) (by kernel_rfl) g1 (by kernel_rfl) _ _ _ _ BA.out HU.out rfl (by rw [sizeEnt, entV_size _ _ _ KL.out]) ?_
  refine HK'.out _ _ ?_
  clear HK' K'
  try simp only [Act.put, List.setIfInBounds_toArray, List.set_cons_zero, List.set_cons_succ]
  refine wpAny_ready (rs := [1]) (by kernel_rfl) (by simp) ?_
  refine AllReady.cons (o := ⟨some 14, .buildSlice 27 1 #[(0, .tmp 13)], _, _, _, none⟩) rfl (fun K' hK' => ?_) AllReady.nil
  have HK' := Lib.hid hK'
  clear hK'
  rw [if_pos (by kernel_rfl)]
  with_reducible refine step_boxE wa (.tmp 13) (by kernel_rfl) t K KL.out v0 V0.out (by kernel_rfl) ?_
  rw [← HWB.out, ← HGB.out]
  refine HK'.out _ _ ?_
  clear HK' K'
  try simp only [Act.put, List.setIfInBounds_toArray, List.set_cons_zero, List.set_cons_succ]
  refine wpAny_ready (rs := [2]) (by kernel_rfl) (by simp) ?_
  refine AllReady.cons (o := ⟨some 15, .call { callee := .value (.func 11), args := #[.tmp 14, .const (.int .i64 1), .const (.int .i64 16384)], argTypes := #[27, 3, 3] }, _, _, _, none⟩) rfl (fun K' hK' => ?_) AllReady.nil
  have HK' := Lib.hid hK'
  clear hK'
  go_simp
  go_wp2_with (go_at_call 11; refine FW1'.out.mono ?_; rintro e w1 ⟨⟨ov, v1, rfl, oe, od⟩, s1⟩)
  obtain ⟨gF, cF, cur, rfl, gFB, bF, rng⟩ := ent_blk oe
  refine HK'.out _ _ ?_
  clear HK' K'
  have BF := Lib.hid bF
  have RNG := Lib.hid rng
  have GF := Lib.hid (show gF ≠ g1 from by have := G1B.out; omega)
  have V1 := Lib.hid (show v1.oneCell' = true by rcases od.2 with ⟨h, _⟩ | ⟨_, _, _, h, _⟩ <;> (rw [h]; rfl))
  have B1 := Lib.hid (show Blk w1 g1 26 (entV t K v0) from (Blk.still (Blk.still BA.out SB.out) s1))
  obtain ⟨w2, hw2⟩ : ∃ w2, w2 = w1.setRow g1 (entV t K v1) := ⟨_, rfl⟩
  have B2 := Lib.hid (show Blk w2 g1 26 (entV t K v1) by rw [hw2]; exact setRow_heap _ _ _ _ _ _ B1.out)
  have BF2 := Lib.hid (show Blk w2 gF 26 cur by rw [hw2]; exact (setRow_other w1 g1 gF _ GF.out).trans BF.out)
  have od2 : w2.ownsRow wB.heap.size 5 1 v1 n1 (bytesV D1) := by rw [hw2]; exact own_setRow od G1B.out
  have S1 := Lib.hid (Still.trans SA.out (Still.trans SB.out s1))
  have S2 := Lib.hid (show Still w w2 by rw [hw2]; exact below_setRow S1.out (by rw [HG1.out]; exact Nat.le_refl _) _)
  have OD2 := Lib.hid od2
  have HW2 := Lib.hid hw2
  clear oe od od2 s1 rng hw2 bF gFB FW1' SA SB BA HWB HGB G1B HG1
  try simp only [Act.put, List.setIfInBounds_toArray, List.set_cons_zero, List.set_cons_succ]
  refine wpAny_take (i := 3) (v := .pointer (some ⟨gF, 0, none⟩)) rfl (by kernel_rfl) (by kernel_rfl) (by kernel_rfl) (fun _ _ _ h => h) (Or.inl ⟨by kernel_rfl, fun w => by go_simp⟩) ?_
  try simp only [Act.put, List.setIfInBounds_toArray, List.set_cons_zero, List.set_cons_succ]
  refine wpAny_of_held (S := fun W => Blk W gF 26 cur) _ _ _ _ ?_
  have hHeld : Blk w1 gF 26 cur := BF.out
  refine wpAnyH_take (i := 4) (oi := ⟨some 17, .load 26 (.tmp 16), _, _, _, none⟩) (v := .agg (entL t K v1).toArray) rfl (by kernel_rfl) (by kernel_rfl) (by kernel_rfl) (fun _ _ _ h => h) ?hy4 (by assumption) ?_
  case hy4 =>
    refine yieldsIf_load_mid ?hw 26 (.tmp 16) ?ho gF 0 ?hx (entL t K v1) _ (fun w h => RNG.out w h) HU.out rfl (by rw [sizeEnt]; exact congrArg some (by have h := entV_size t K v1 KL.out; unfold entV at h; simpa using h.symm))
    case hw => kernel_rfl
    case ho => rfl
    case hx => kernel_rfl
  try simp only [Act.put, List.setIfInBounds_toArray, List.set_cons_zero, List.set_cons_succ]
  refine wpAnyH_ready (rs := [6]) (by kernel_rfl) (by simp) ?_
  refine AllReadyH.cons (o := ⟨some 19, .call { callee := .value (.func 18), args := #[.tmp 18, .const (.int .i64 100)], argTypes := #[24, 3] }, _, _, _, none⟩) rfl (fun K' hK' => ?_) AllReadyH.nil
  go_simp
  go_wp2_with (go_at_call 18; refine (CUT.out _ S1.out).mono ?_; rintro e w1' ⟨rfl, rfl⟩)
  refine hK'.out _ _ BF.out (fun hHeld => ?_)
  clear hK' K' CUT
  try simp only [Act.put, List.setIfInBounds_toArray, List.set_cons_zero, List.set_cons_succ]
  refine wpAnyH_ready (rs := [7]) (by kernel_rfl) (by simp) ?_
  refine AllReadyH.cons (o := ⟨none, .store 26 (.tmp 2) (.tmp 17), _, _, _, none⟩) rfl (fun K' hK' => ?_) AllReadyH.nil
  rw [if_pos (by kernel_rfl)]
  refine wp_store_row 26 (.tmp 2) (.tmp 17) (by kernel_rfl) g1 (entV t K v1) (by kernel_rfl) (by kernel_rfl) _ _ B1.out (by rw [sizeEnt, entV_size _ _ _ KL.out]) (by rw [entV_size _ _ _ KL.out, entV_size _ _ _ KL.out]) (entV_one _ _ _ V1.out) ?_
  rw [← HW2.out]
  refine hK'.out _ _ BF2.out (fun hHeld => ?_)
  clear hK' K' HW2 B1 BF
  try simp only [Act.put, List.setIfInBounds_toArray, List.set_cons_zero, List.set_cons_succ]
  refine wpAnyH_take (i := 8) (oi := ⟨some 1, .assign (.tmp 19), _, _, _, none⟩) (v := .slice a1 nR cap1) rfl (by kernel_rfl) (by kernel_rfl) (by kernel_rfl) (fun _ _ _ h => h) (Or.inl ⟨by kernel_rfl, fun w hS => by go_simp⟩) (by assumption) ?_
  try simp only [Act.put, List.setIfInBounds_toArray, List.set_cons_zero, List.set_cons_succ]
  refine wpAnyH_done (by kernel_rfl) ?_ _
  clear hHeld BF2 RNG GF S1
  obtain ⟨A1, c1, hv1, f1, f2, f3⟩ := own_form OD2.out
  have RD1 := Lib.hid (show Reads w2 w2.heap.size A1 n1 D1 from Reads.of_own (hv1 ▸ OD2.out))
  have F1 := Lib.hid (show n1 ≤ c1 ∧ (A1 = none → c1 = 0) from ⟨f1, fun e => (f3 e).2⟩)
  have hn20 : n1 ≤ 1048576 := by have := N1.out; omega
  have ENC := Lib.hid (encode_any t K D1 A1 n1 c1 w2 _ KL.out RD1.out (Nat.le_refl _) F1.out.2 hn20 (HT.out _ S2.out))
  rw [← hv1] at ENC
  have HV1 := Lib.hid hv1
  have ENC' := ENC
  obtain ⟨er, her⟩ : ∃ er, er = (encE t K D1).1 := ⟨_, rfl⟩
  obtain ⟨X, hX⟩ : ∃ X, X = (encE t K D1).2 := ⟨_, rfl⟩
  rw [← her, ← hX] at ENC'
  have XC := Lib.hid (show (er ≠ 0 ∧ X = []) ∨ (er = 0 ∧ ckE t K D1.length = 0 ∧ X = bytE t K D1) from by
    rw [her, hX]
    unfold encE
    by_cases h : ckE t K D1.length = 0
    · rw [if_neg (by rw [h]; decide)]; exact .inr ⟨rfl, h, rfl⟩
    · rw [if_pos h]; exact .inl ⟨h, rfl⟩)
  clear ENC her hX hv1 f1 f2 f3 hn20 OD2
  go_wp2_with (guard_target =~ wpList _ _ _ (Oper.mk (some 21) _ _ _ _ _ :: _) _ _; go_must (refine wpList_load_row rfl 26 (.tmp 2) rfl g1 rfl _ _ _ _ B2.out HU.out rfl (by rw [sizeEnt, entV_size _ _ _ KL.out]) ?_))
  refine ENC'.out.mono ?_
  rintro e w3 ⟨⟨vb, rfl, ob⟩, s3⟩
  have S23 := Lib.hid s3
  have S3 := Lib.hid (Still.trans S2.out s3)
  have B3 := Lib.hid (B2.out.still s3)
  have R3 := Lib.hid (RD1.out.still (Nat.le_refl _) s3)
  clear ENC' s3
  rcases XC.out with ⟨hne, hx0⟩ | ⟨he0, hck, hxb⟩
  · rw [hx0] at ob
    obtain ⟨Ab, cb, rfl, fb1, fb2, fb3⟩ := own_form ob
    have b0 : (er == 0) = false := by simpa using hne
    have b1 : (er != 0) = true := by simpa using hne
    simp only [List.length_nil]
    clear ob fb1 fb2 fb3 XC hx0 hne RD1 B2
    go_wp2_with fail
    refine (LV.out _ (HT.out _ S3.out)).mono ?_
    rintro e w4 ⟨rfl, s4⟩
    have S4 := Lib.hid (Still.trans S3.out s4)
    clear s4
    go_wp2_with fail
    go_ret
    exact ⟨rfl, S4.out⟩
  · have hz := szE_len KL.out hck
    rw [← hxb] at hz
    have XL := Lib.hid (show X.length ≤ 16425 ∧ 9 ≤ X.length from ⟨by omega, by omega⟩)
    have BK := Lib.hid (rd_back (R := R) KL.out hck)
    have FR := Lib.hid (rd_front KL.out hck)
    rw [← hxb] at BK FR
    obtain ⟨Ab, cb, rfl, fb1, fb2, fb3⟩ := own_form ob
    have RX := Lib.hid (show Reads w3 w3.heap.size Ab X.length X from Reads.of_own ob)
    obtain ⟨xl, hxl⟩ : ∃ xl, xl = X.length := ⟨_, rfl⟩
    rw [← hxl] at XL RX BK FR fb1 fb3 ⊢
    have HXL := Lib.hid hxl
    have FB := Lib.hid (show xl ≤ cb ∧ cb ≤ 9223372036854775807 ∧ (Ab = none → xl = 0 ∧ cb = 0) from ⟨fb1, fb2, fb3⟩)
    have CP := Lib.hid (copy_any Ab xl cb X w3 _ RX.out (by have := XL.out; omega) FB.out.2.2)
    obtain ⟨m1, hm1⟩ : ∃ m1, m1 = xl - 1 := ⟨_, rfl⟩
    have HM1 := Lib.hid hm1
    have i1 : IntKind.i64.wrap ((xl : Int) - 1) = (m1 : Int) := by rw [IntKind.wrap_i64]; have := XL.out; omega
    have i2 : (m1 : Int) ≤ (cb : Int) := by omega
    have i3 : (0 : Int) ≤ (m1 : Int) := by omega
    have b2 : ((xl : Int) == 0) = false := by have := XL.out; simp; omega
    have b3 : ¬ (xl : Int) = 0 := by have := XL.out; omega
    have b4 : ¬ xl = 0 := by have := XL.out; omega
    subst he0
    clear ob fb1 fb2 fb3 XC hxb hck hz hxl hm1 RD1 B2
    go_upto_region 7 with fail
    go_wp2_with fail
    refine CP.out.mono ?_
    rintro e w4 ⟨⟨v4, rfl, own4⟩, s4⟩
    have S34 := Lib.hid s4
    have O4 := Lib.hid own4
    have S4 := Lib.hid (Still.trans S3.out s4)
    have RR4 := Lib.hid (RR.out.still (Nat.le_refl _) S4.out)
    have Z4 := Lib.hid (show w3.heap.size ≤ w4.heap.size from s4.size)
    clear own4 s4 CP
    go_wp2_with (at_builtin; go_must (refine wpList_adds_at w4 rfl (.tmp 38) (.tmp 39) rfl w3.heap.size v4 xl X rfl O4.out a1 nR cap1 _ R rfl RR4.out NA.out (by have := XL.out; have := NR.out; omega) Z4.out ?_))
    intro v5 w5 own5 gr5 loc5
    have S35 := Lib.hid (show Still w3 w5 from S34.out.grown gr5 Z4.out (fun k hk => (O4.out.lt k hk).1))
    have S5 := Lib.hid (Still.trans S3.out S35.out)
    obtain ⟨A5, c5, rfl, j1, j2, j3⟩ := own_form own5
    have R5 := Lib.hid (Reads.of_own own5)
    have RB := Lib.hid (read_any A5 (xl + nR) c5 (X ++ R) w5 _ R5.out (Nat.le_refl _) (by have := XL.out; have := NR.out; omega) j1 j2 (HT.out _ S5.out))
    obtain ⟨q1, q2, q3, q4, q5⟩ := BK.out
    rw [q1, q2, q3, q4, q5] at RB
    have RB' := RB
    clear RB q1 q2 q3 q4 q5 own5 gr5 loc5 j1 j2 j3 RR4 O4 S34 Z4 BK R5
    go_wp2_with fail
    refine RB'.out.mono ?_
    rintro e w6 ⟨⟨v6, rfl, own6⟩, s6⟩
    have S36 := Lib.hid (Still.trans S35.out s6)
    have V6 := Lib.hid (show v6.oneCell' = true by rcases own6.2 with ⟨h, _⟩ | ⟨_, _, _, h, _⟩ <;> (rw [h]; rfl))
    obtain ⟨A6, c6, hv6, j1, j2, j3⟩ := own_form own6
    have R6 := Lib.hid (show Reads w6 w6.heap.size A6 D1.length D1 from Reads.of_own (hv6 ▸ own6))
    have F6 := Lib.hid j1
    have HV6 := Lib.hid hv6
    obtain ⟨g7, hg7⟩ : ∃ g7, g7 = w6.heap.size := ⟨_, rfl⟩
    obtain ⟨w7, hw7⟩ : ∃ w7, w7 = (w6.alloc (.cells #[.int .i64 0, .int .u8 0, .int .u8 0, .int .u8 0, .int .u8 0, .int .u8 0, .int .u8 0, .int .u8 0, .int .u8 0, .int .u8 0, .int .u8 0, .int .u8 0, .int .u8 0, .int .u8 0, .int .u8 0, .int .u8 0, .int .u8 0, .int .u8 0, .int .u8 0, .int .u8 0, .int .u8 0, .int .u8 0, .int .u8 0, .int .u8 0, .int .u8 0, .int .u8 0, .int .u8 0, .int .u8 0, .int .u8 0, .int .u8 0, .int .u8 0, .int .u8 0, .int .u8 0, .slice none 0 0] 26)).setRow w6.heap.size (entV t K v6) := ⟨_, rfl⟩
    have s67 : Still w6 w7 := by rw [hw7]; exact below_setRow ((Still.refl w6).alloc (Nat.le_refl _) _) (Nat.le_refl _) _
    have B7 := Lib.hid (show Blk w7 g7 26 (entV t K v6) by rw [hw7, hg7]; exact setRow_heap _ _ _ _ _ _ (heap_alloc_new w6 _))
    have R7 := Lib.hid (R6.out.still (Nat.le_refl _) s67)
    have S37 := Lib.hid (Still.trans S36.out s67)
    have S7 := Lib.hid (Still.trans S3.out S37.out)
    have HW7 := Lib.hid hw7
    have HG7 := Lib.hid hg7
    have Z67 := Lib.hid s67.size
    have RF := Lib.hid (read_any Ab m1 cb (X.take m1) w7 w3.heap.size ((by have h := RX.out.take m1; rw [Nat.min_eq_right (by have := HM1.out; omega)] at h; exact h : Reads w3 w3.heap.size Ab m1 (X.take m1)).still (Nat.le_refl _) S37.out) S37.out.size (by have := XL.out; have := HM1.out; omega) (by have := FB.out; have := HM1.out; omega) FB.out.2.1 (HT.out _ S7.out))
    rw [HM1.out, FR.out.1, FR.out.2, ← HM1.out] at RF
    have RF' := RF
    clear RF own6 s6 hv6 hg7 hw7 s67 j1 j2 j3 RB' R6 RX
    go_upto_region 8 with (guard_target =~ wpList _ _ _ (Oper.mk none (Op.store _ _ _) _ _ _ _ :: _) _ _; go_must (refine wpList_store_rowTo rfl 26 (.tmp 7) (.tmp 42) rfl rfl w6.heap.size (entV t K v6) (by kernel_rfl) (by kernel_rfl) 26 _ (heap_alloc_new w6 _) (by rw [sizeEnt, entV_size _ _ _ KL.out]) (by rw [entV_size _ _ _ KL.out]; rfl) (entV_one _ _ _ V6.out) ?_))
    rw [← HW7.out, ← HG7.out]
    clear HW7
    go_wp2_with fail
    refine RF'.out.mono ?_
    rintro e w8 ⟨⟨v8, rfl, own8⟩, s8⟩
    have V8 := Lib.hid (show v8.oneCell' = true by rcases own8.2 with ⟨h, _⟩ | ⟨_, _, _, h, _⟩ <;> (rw [h]; rfl))
    have KF := Lib.hid (rdK_len (X.take m1))
    generalize rdT (X.take m1) = tF
    generalize rdK (X.take m1) = KF' at KF
    have KF2 : Hid (KF'.length = 32) := KF
    obtain ⟨w9, hw9⟩ : ∃ w9, w9 = (w8.alloc (.cells #[.int .i64 0, .int .u8 0, .int .u8 0, .int .u8 0, .int .u8 0, .int .u8 0, .int .u8 0, .int .u8 0, .int .u8 0, .int .u8 0, .int .u8 0, .int .u8 0, .int .u8 0, .int .u8 0, .int .u8 0, .int .u8 0, .int .u8 0, .int .u8 0, .int .u8 0, .int .u8 0, .int .u8 0, .int .u8 0, .int .u8 0, .int .u8 0, .int .u8 0, .int .u8 0, .int .u8 0, .int .u8 0, .int .u8 0, .int .u8 0, .int .u8 0, .int .u8 0, .int .u8 0, .slice none 0 0] 26)).setRow w8.heap.size (entV tF KF' v8) := ⟨_, rfl⟩
    have s79 : Still w7 w9 := Still.trans s8 (by rw [hw9]; exact below_setRow ((Still.refl w8).alloc (Nat.le_refl _) _) (Nat.le_refl _) _)
    have S9 := Lib.hid (show Still w w9 from Still.trans S7.out s79)
    have s39 : Still w3 w9 := Still.trans S37.out s79
    have B9 := Lib.hid (B3.out.still s39)
    have B9' := Lib.hid (B7.out.still s79)
    have HW9 := Lib.hid hw9
    have SE := Lib.hid (show Calls Tryd.prog 16 #[.agg (entV t K v1), .agg (entV t K v6)] w9 fun e w' => e = .returned (.bool true) ∧ Still w9 w' from by
      rw [HV1.out, HV6.out, ← L1.out]
      have r6 := R7.out
      rw [← L1.out] at r6
      exact sameE_yes t K D1 A1 A6 n1 c1 c6 w9 _ _ KL.out (R3.out.still S23.out.size s39) (r6.still Z67.out s79) (Nat.le_trans S23.out.size s39.size) (Nat.le_trans Z67.out s79.size) (by have := N1.out; omega))
    have SE' := SE
    clear SE own8 s8 hw9 s79 s39 KF RF' R7 R3 B3 B7 S37 S23
    go_upto_region 9 with (guard_target =~ wpList _ _ _ (Oper.mk none (Op.store _ _ _) _ _ _ _ :: _) _ _; go_must (refine wpList_store_rowTo rfl 26 (.tmp 10) (.tmp 52) rfl rfl w8.heap.size (entV tF KF' v8) (by kernel_rfl) (by kernel_rfl) 26 _ (heap_alloc_new w8 _) (by rw [sizeEnt, entV_size _ _ _ KF2.out]) (by rw [entV_size _ _ _ KF2.out]; rfl) (entV_one _ _ _ V8.out) ?_))
    rw [← HW9.out]
    clear HW9
    go_wp2_with (first
      | (guard_target =~ wpList _ _ _ (Oper.mk (some 55) _ _ _ _ _ :: _) _ _; go_must (refine wpList_load_row rfl 26 (.tmp 2) rfl g1 rfl _ _ _ _ B9.out HU.out rfl (by rw [sizeEnt, entV_size _ _ _ KL.out]) ?_))
      | (guard_target =~ wpList _ _ _ (Oper.mk (some 56) _ _ _ _ _ :: _) _ _; go_must (refine wpList_load_row rfl 26 (.tmp 7) rfl g7 rfl _ _ _ _ B9'.out HU.out rfl (by rw [sizeEnt, entV_size _ _ _ KL.out]) ?_)))
    refine SE'.out.mono ?_
    rintro e w10 ⟨rfl, s10⟩
    have S10 := Lib.hid (Still.trans S9.out s10)
    clear s10 SE'
    go_wp2_with fail
    refine (LV.out _ (HT.out _ S10.out)).mono ?_
    rintro e w11 ⟨rfl, s11⟩
    have S11 := Lib.hid (Still.trans S10.out s11)
    clear s11
    go_wp2_with fail
    go_ret
    exact ⟨rfl, S11.out⟩
end Go.Proofs.YtchngfkbogcgaaaDoor
