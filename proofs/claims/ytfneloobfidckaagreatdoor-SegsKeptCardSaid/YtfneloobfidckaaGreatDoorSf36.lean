/- Contracts and facts, several texts in one. It proves no statement. -/
import Derived.Test.YtfneloobfidckaaGreatDoorSf35
import Derived.Test.YtfneloobfidckaaGreatDoorSf06
import Derived.Test.YtfneloobfidckaaGreatDoorSf25
import Derived.Test.YtfneloobfidckaaGreatDoorSf22
import Derived.ChangeSlices
import Derived.ChangeSame
import Derived.ChangeArms

/- The law's own few calls upon a log, of however many. It proves no statement. -/



namespace Go.Proofs.YtfneloobfidckaaGreatDoor
open Go.RowKit Go.Maps
set_option linter.unusedVariables false
set_option linter.unusedSimpArgs false

theorem ent_of_own14 {W : World} {B : Nat} {ov : Value} {t : Int} {K : List UInt8} {v : Value} (h : W.ownsRow B 44 34 ov 1 (entL t K v)) :
    ∃ g cap, ov = .slice (some ⟨g, 0, none⟩) 1 cap ∧ 1 ≤ cap ∧ cap ≤ 9223372036854775807 ∧ W.rangeAt g 0 (entL t K v) := by
  rcases h.2 with ⟨_, h0⟩ | ⟨g, cap, cur, rfl, _, hg, h4, h5, _, htk⟩
  · omega
  · refine ⟨g, cap, rfl, h4, by unfold maxLen at h5; omega, fun j u hj => ?_⟩
    have hb : W.cell? ⟨g, 0 + j, none⟩ = cur[0 + j]? := cell_of_row W g (0 + j) cur _ (0, 0) hg
    rw [hb, Nat.zero_add]
    rw [← htk] at hj
    rw [List.getElem?_take] at hj
    by_cases h : j < 1 * 34
    · rw [if_pos h, Array.getElem?_toList] at hj; exact hj
    · rw [if_neg h] at hj; cases hj
/-- A box of a call: its cells, and that they may be written. -/
structure Box14 (W : World) (g : Nat) (x : C14) (v v2 : Value) : Prop where
  key : x.K.length = 32
  at_ : W.rangeAt g 0 (d14L x v v2)
  there : W.there g 0 40
theorem Box14.still {W W' : World} {g : Nat} {x : C14} {v v2 : Value} (h : Box14 W g x v v2) (s : Still W W') : Box14 W' g x v v2 :=
  ⟨h.key, rangeAt_still h.at_ s, fun j hj => by
    obtain ⟨a, b⟩ := h.there j hj
    cases hc : W.cell? ⟨g, 0 + j, none⟩ with
    | none => rw [hc] at a; cases a
    | some u =>
      have hlt := World.block_lt_of_cell? W _ hc
      refine ⟨by rw [s.cell hlt, hc]; rfl, ?_⟩
      have e := World.frozen?_of_block (w := W) (w' := W') (a := ⟨g, 0 + j, none⟩) (s.block g hlt)
      rw [e]
      exact b⟩
/-- Its entry turned. -/
theorem Box14.setEnt {W : World} {g : Nat} {x : C14} {v v2 v' : Value} (D' : List UInt8) (h : Box14 W g x v v2) : Box14 (W.setCells g 1 (entL x.t x.K v')) g { x with D := D' } v' v2 := by
  have hl := entL_len0 x.t x.K v' h.key
  have ht := there_sub (o := 1) (m := (entL x.t x.K v').length) h.there (by rw [hl]; omega)
  obtain ⟨p1, p2, p3, p4, p5⟩ := (d14_parts h.key).1 h.at_
  rw [Nat.zero_add] at p2 p3 p4 p5
  have hout : ∀ q, (q < 1 ∨ 35 ≤ q) → (W.setCells g 1 (entL x.t x.K v')).cell? ⟨g, q, none⟩ = W.cell? ⟨g, q, none⟩ := fun q hq => World.cell?_setCells_out g _ 1 W ⟨g, q, none⟩ (fun _ _ => by rw [hl]; show q < 1 ∨ 1 + 34 ≤ q; omega)
  refine ⟨h.key, ?_, World.there_setCells h.there g 1 _⟩
  refine (d14_parts (x := { x with D := D' }) h.key).2 ⟨?_, ?_, ?_, ?_, ?_⟩
  · rw [hout 0 (by omega)]; exact p1
  · rw [Nat.zero_add]; exact World.rangeAt_setCells_same W g 1 _ ht
  · rw [Nat.zero_add, hout 35 (by omega)]; exact p3
  · rw [Nat.zero_add]
    intro j u hj
    rw [hout (36 + j) (by omega)]
    exact p4 j u hj
  · rw [Nat.zero_add, hout 39 (by omega)]; exact p5
/-- Its numbers turned. -/
theorem Box14.setNums {W : World} {g : Nat} {x : C14} {v v2 v' : Value} (l' : List Int) (h : Box14 W g x v v2) : Box14 (W.setCell ⟨g, 39, none⟩ v') g { x with l := l' } v v' := by
  have e : W.setCell ⟨g, 39, none⟩ v' = W.setCells g 39 [v'] := rfl
  rw [e]
  have ht := there_sub (o := 39) (m := ([v'] : List Value).length) h.there (by simp)
  obtain ⟨p1, p2, p3, p4, p5⟩ := (d14_parts h.key).1 h.at_
  rw [Nat.zero_add] at p2 p3 p4 p5
  have hout : ∀ q, q < 39 → (W.setCells g 39 [v']).cell? ⟨g, q, none⟩ = W.cell? ⟨g, q, none⟩ := fun q hq => World.cell?_setCells_out g _ 39 W ⟨g, q, none⟩ (fun _ _ => Or.inl hq)
  refine ⟨h.key, ?_, World.there_setCells h.there g 39 _⟩
  refine (d14_parts (x := { x with l := l' }) h.key).2 ⟨?_, ?_, ?_, ?_, ?_⟩
  · rw [hout 0 (by omega)]; exact p1
  · rw [Nat.zero_add]
    intro j u hj
    have hj34 : j < 34 := by rw [← entL_len0 x.t x.K v h.key]; exact (List.getElem?_eq_some_iff.1 hj).1
    rw [hout (1 + j) (by omega)]
    exact p2 j u hj
  · rw [Nat.zero_add, hout 35 (by omega)]; exact p3
  · rw [Nat.zero_add]
    intro j u hj
    have hj3 : j < 3 := (List.getElem?_eq_some_iff.1 hj).1
    rw [hout (36 + j) (by omega)]
    exact p4 j u hj
  · rw [Nat.zero_add]
    have := World.rangeAt_setCells_same W g 39 [v'] ht 0 v' rfl
    exact this
theorem chg_setCells14 (g : Nat) : ∀ (vs : List Value) (o : Nat) (W : World), Chg W (W.setCells g o vs) (fun b => b = g)
  | [], _, W => Chg.of_still (Still.refl W) _
  | v :: r, o, W => (chg_set W g o v).trans (chg_setCells14 g r (o + 1) _) (fun _ _ h => h)
theorem still_setCells14 {w0 : World} {g : Nat} (hg : w0.heap.size ≤ g) : ∀ (vs : List Value) (o : Nat) (W : World), Still w0 W → Still w0 (W.setCells g o vs)
  | [], _, _, h => h
  | v :: r, o, W, h => still_setCells14 hg r (o + 1) _ ((chg_set W g o v).still h (fun b e => by rw [show b = g from e]; exact hg))
set_option maxRecDepth 100000 in
set_option maxHeartbeats 12800000 in
theorem few14_any (Al : Option Addr) (nl cl N : Nat) (L : List C14) (w : World) (B : Nat) (hin : D14In w B Al L) (hB : B ≤ w.heap.size) (hn : L.length = nl) (hnc : nl ≤ cl) (hcm : cl ≤ 9223372036854775807) (hN : N ≤ 1048576) :
    Calls Tryz.prog 14 #[.slice Al nl cl, .int .i64 (N : Int)] w fun e w' => (∃ ov xs, e = .returned ov ∧ w'.ownsRow w.heap.size 47 40 ov (min nl N) xs ∧ HasD14 w' w.heap.size B ((L.take N).map cut14) xs) ∧ Still w w' := by
  obtain ⟨M, hM⟩ : ∃ M, M = min nl N := ⟨_, rfl⟩
  rw [← hM]
  have hML : (L.take N) = L.take M := by
    rw [hM]
    by_cases h : nl ≤ N
    · rw [Nat.min_eq_left h, List.take_of_length_le (by omega), List.take_of_length_le (by omega)]
    · rw [Nat.min_eq_right (by omega)]
  rw [hML]
  have HIN := Lib.hid hin
  have FC := Lib.hid (show L.length = nl ∧ nl ≤ cl ∧ cl ≤ 9223372036854775807 ∧ N ≤ 1048576 ∧ B ≤ w.heap.size ∧ M ≤ nl ∧ M ≤ N ∧ (nl ≤ M ∨ N ≤ M) from ⟨hn, hnc, hcm, hN, hB, by omega, by omega, by omega⟩)
  clear hin hB hnc hcm hM hML hn hN
  go_enter Tryz.func14, Tryz.ntmps14
  go_wp2_with fail
  go_loopw [5, 6] (fun ox iv wr => ∃ (j : Nat) (ov : Value), ov = ox ∧ j ≤ M ∧ iv = .int .i64 j ∧ Hid (∃ xs, wr.ownsRow w.heap.size 47 40 ov j xs ∧ HasD14 wr w.heap.size B ((L.take j).map cut14) xs ∧ Still w wr)) (fun _ iv _ => M - (intOf iv).toNat)
  case atStart => exact ⟨0, _, rfl, Nat.zero_le _, rfl, [], World.ownsRow_nil _ _ _ _, HasD14.nil, Still.refl _⟩
  case round =>
    obtain ⟨j, ov, hov, hj, rfl, hh⟩ := hrel
    subst hov
    by_cases hlt : j < M
    · have e1 : (j : Int) < (nl : Int) := by have := FC.out; omega
      have e2 : (j : Int) < (N : Int) := by have := FC.out; omega
      have hnl : j < nl := by have := FC.out; omega
      have hcl : nl ≤ cl := FC.out.2.1
      have hclm : cl ≤ 9223372036854775807 := FC.out.2.2.1
      obtain ⟨xs, h1, h2, h3⟩ := hh.out
      obtain ⟨x, hx⟩ : ∃ x, L[j]? = some x := ⟨_, List.getElem?_eq_getElem (by have := FC.out; omega)⟩
      obtain ⟨b, o, A, n, c, A2, n2, c2, rfl, hE⟩ := HIN.out j x hx
      have SW := Lib.hid h3
      have OV := Lib.hid h1
      have HV := Lib.hid h2
      have TKE := Lib.hid (show (L.take (j + 1)).map cut14 = (L.take j).map cut14 ++ [cut14 x] by
        rw [List.take_add_one, hx, List.map_append]; rfl)
      have HR := Lib.hid (hE.still FC.out.2.2.2.2.1 h3)
      obtain ⟨m2, hm2⟩ : ∃ m2, m2 = min n2 60 := ⟨_, rfl⟩
      have NU := Lib.hid (fun W => numbers_any A2 n2 c2 W HR.out.le2.1 HR.out.le2.2 (fun h => by obtain ⟨b, o, e, _⟩ := HR.out.rd2.2 h; exact ⟨b, o, e⟩))
      rw [← hm2] at NU
      have HM2 := Lib.hid hm2
      clear hm2
      obtain ⟨v, hv⟩ : ∃ v, v = Value.slice A n c := ⟨_, rfl⟩
      obtain ⟨v2, hv2⟩ : ∃ v2, v2 = Value.slice A2 n2 c2 := ⟨_, rfl⟩
      have V1 := Lib.hid (show v.oneCell' = true ∧ v2.oneCell' = true by rw [hv, hv2]; exact ⟨rfl, rfl⟩)
      have KL := Lib.hid HR.out.key
      have RNG0 := HR.out.at_
      rw [← hv, ← hv2] at RNG0
      have RNG := Lib.hid RNG0
      clear RNG0
      obtain ⟨g, hg⟩ : ∃ g, g = wr.heap.size := ⟨_, rfl⟩
      obtain ⟨w1, hw1⟩ : ∃ w1, w1 = (wr.alloc (.cells (d14L ⟨0, 0, List.replicate 32 0, [], 0, 0, 0, 0, []⟩ (.slice none 0 0) (.slice none 0 0)).toArray 47)).setRow g (d14L x v v2).toArray := ⟨_, rfl⟩
      have S1 := Lib.hid (show Still wr w1 by rw [hw1]; exact below_setRow ((Still.refl wr).alloc (Nat.le_refl _) _) (by rw [hg]; exact Nat.le_refl _) _)
      have BLK1 : Blk w1 g 47 (d14L x v v2).toArray := by rw [hw1, hg]; exact setRow_heap _ _ _ _ _ _ (Blk.new wr _ _)
      have GLT := Lib.hid (show g < w1.heap.size from BLK1.lt)
      have BX1 := Lib.hid (show Box14 w1 g x v v2 from ⟨KL.out, rangeAt_blk BLK1, there_blk BLK1 (d14L_len _ _ _ KL.out)⟩)
      have HW1 := Lib.hid hw1
      have HG := Lib.hid hg
      have ZB := Lib.hid (Blk.new wr 47 (d14L ⟨0, 0, List.replicate 32 0, [], 0, 0, 0, 0, []⟩ (.slice none 0 0) (.slice none 0 0)).toArray)
      clear h1 h2 h3 hE hx hh hw1 hg BLK1
      go_upto_region 6 with (first
        | (guard_target =~ wpList _ _ _ (Oper.mk (some 22) _ _ _ _ _ :: _) _ _; go_must (refine wpList_load_mid rfl 47 (.tmp 21) rfl b (o + j * 40) (by kernel_rfl) (d14L x v v2) _ RNG.out Tryz.underlying47 rfl (by rw [size14, d14L_len _ _ _ KL.out]) ?_))
        | (guard_target =~ wpList _ _ _ (Oper.mk (some 7) (Op.alloc _) _ _ _ _ :: _) _ _; go_must (refine wpList_alloc_arr rfl 47 rfl (some 7) rfl (d14L ⟨0, 0, List.replicate 32 0, [], 0, 0, 0, 0, []⟩ (.slice none 0 0) (.slice none 0 0)).toArray 40 zero14 ?_))
        | (guard_target =~ wpList _ _ _ (Oper.mk none (Op.store _ _ _) _ _ _ _ :: _) _ _; go_must (refine wpList_store_rowTo rfl 47 (.tmp 7) (.tmp 22) rfl rfl wr.heap.size (d14L x v v2).toArray rfl rfl 47 _ ZB.out (by rw [size14, List.size_toArray, d14L_len _ _ _ KL.out]) (by rw [List.size_toArray, List.size_toArray, d14L_len _ _ _ KL.out]; rfl) (all_oneCell_toArray (d14L_one _ _ _ V1.out.1 V1.out.2)) ?_); rw [← HG.out, ← HW1.out]))
      clear HW1 ZB
      obtain ⟨gB, hgB⟩ : ∃ gB, gB = w1.heap.size := ⟨_, rfl⟩
      obtain ⟨wB, hwB⟩ : ∃ wB, wB = w1.alloc (.cells (entV x.t x.K v) 44) := ⟨_, rfl⟩
      have SB := Lib.hid (show Still w1 wB by rw [hwB]; exact (Still.refl w1).alloc (Nat.le_refl _) _)
      have BB := Lib.hid (show EntB wB gB x.t x.K v by rw [hwB, hgB]; exact EntB.new _ _ _ _)
      have HWB := Lib.hid hwB
      have HGB := Lib.hid hgB
      have V0 := Lib.hid (show ∃ A n c, v = Value.slice A n c from ⟨_, _, _, hv⟩)
      have FW1 := Lib.hid (few1_any gB x.t x.K x.D A n c 300 wB B KL.out (by rw [← hv]; exact BB.out) ((HR.out.rd.still (Nat.le_trans FC.out.2.2.2.2.1 SW.out.size) (Still.trans S1.out SB.out))) (Nat.le_trans FC.out.2.2.2.2.1 (Nat.le_trans SW.out.size (Nat.le_trans S1.out.size SB.out.size))) HR.out.le.1 HR.out.le.2 HR.out.nil (by omega) (by omega))
      rw [show ((300 : Nat) : Int) = 300 from rfl] at FW1
      have EN1 := Lib.hid ((d14_parts KL.out).1 BX1.out.at_).2.1
      obtain ⟨fs, hu⟩ := underEnt
      have HU := Lib.hid hu
      have HV2 := Lib.hid hv2
      clear hwB hgB hv hv2 hu e1 e2 hnl hcl hclm
      go_wp2_with (first
        | (guard_target =~ wpList _ _ _ (Oper.mk (some 24) _ _ _ _ _ :: _) _ _; go_must (refine wpList_load_mid rfl 44 (.tmp 23) rfl g 1 (by kernel_rfl) (entL x.t x.K v) _ EN1.out HU.out rfl (by rw [sizeEnt, entL_len0 _ _ _ KL.out]) ?_))
        | (guard_target =~ wpList _ _ _ (Oper.mk (some 25) _ _ _ _ _ :: _) _ _; go_must (refine wpList_boxE w1 rfl (.tmp 24) rfl x.t x.K KL.out v V0.out rfl ?_); rw [← HWB.out, ← HGB.out]))
      refine FW1.out.mono ?_
      rintro e w3 ⟨⟨ov3, v3, rfl, oe, od⟩, s3⟩
      obtain ⟨gF, cF, rfl, hcF1, hcF2, rng⟩ := ent_of_own14 oe
      have RNF := Lib.hid rng
      have OD := Lib.hid od
      have S3 := Lib.hid (Still.trans S1.out (Still.trans SB.out s3))
      have V3 := Lib.hid (show v3.oneCell' = true by rcases od.2 with ⟨h, _⟩ | ⟨_, _, _, h, _⟩ <;> (rw [h]; rfl))
      have BX3 := Lib.hid (BX1.out.still (Still.trans SB.out s3))
      obtain ⟨w4, hw4⟩ : ∃ w4, w4 = w3.setCells g 1 (entL x.t x.K v3) := ⟨_, rfl⟩
      have BX4 := Lib.hid (show Box14 w4 g { x with D := x.D.take 300 } v3 v2 by rw [hw4]; exact BX3.out.setEnt _)
      have S4 := Lib.hid (show Still wr w4 by rw [hw4]; exact still_setCells14 (by rw [HG.out]; exact Nat.le_refl _) _ _ _ S3.out)
      have O4 := Lib.hid (show w4.ownsRow wB.heap.size 5 1 v3 (x.D.take 300).length (bytesV (x.D.take 300)) ∧ wr.heap.size ≤ wB.heap.size from ⟨by
        rw [hw4]
        exact (chg_setCells14 g _ 1 w3).own od (fun b hb e => by
          have h1 := (od.lt b hb).1
          have h2 := GLT.out
          have h3 := SB.out.size
          rw [show b = g from e] at h1
          omega), Nat.le_trans S1.out.size SB.out.size⟩)
      have HW4 := Lib.hid hw4
      clear oe od s3 rng FW1 hw4
      go_upto_region 7 with (first
        | (guard_target =~ wpList _ _ _ (Oper.mk (some 28) _ _ _ _ _ :: _) _ _; go_must (refine wpList_load_mid rfl 44 (.tmp 27) rfl gF 0 (by kernel_rfl) (entL x.t x.K v3) _ RNF.out HU.out rfl (by rw [sizeEnt, entL_len0 _ _ _ KL.out]) ?_))
        | (guard_target =~ wpList _ _ _ (Oper.mk none (Op.store _ _ _) _ _ _ _ :: _) _ _; go_must (refine wpList_store_mid rfl 44 (.tmp 29) (.tmp 28) rfl g 1 (entL x.t x.K v3).toArray (by kernel_rfl) (by kernel_rfl) (by rw [List.size_toArray, entL_len0 _ _ _ KL.out]; exact there_sub BX3.out.there (by omega)) (by rw [sizeEnt, List.size_toArray, entL_len0 _ _ _ KL.out]) (entV_one _ _ _ V3.out) ?_); rw [← HW4.out]))
      have k39 : w4.cell? ⟨g, 39, none⟩ = some (.slice A2 n2 c2) := by
        have := ((d14_parts KL.out).1 BX4.out.at_).2.2.2.2
        rw [HV2.out] at this
        exact this
      have f39 : w4.frozen? ⟨g, 39, none⟩ = false := by
        have := (BX4.out.there 39 (by omega)).2
        exact this
      obtain ⟨w5, hw5⟩ : ∃ w5, w5 = w4.setCell ⟨g, 39, none⟩ (.slice A2 m2 c2) := ⟨_, rfl⟩
      have BX5 := Lib.hid (show Box14 w5 g (cut14 x) v3 (.slice A2 m2 c2) by rw [hw5]; exact BX4.out.setNums _)
      have S5 := Lib.hid (show Still wr w5 by rw [hw5]; exact (chg_set w4 g 39 _).still S4.out (fun b e => by rw [show b = g from e, HG.out]; exact Nat.le_refl _))
      have O5 := Lib.hid (show w5.ownsRow wB.heap.size 5 1 v3 (x.D.take 300).length (bytesV (x.D.take 300)) by
        rw [hw5]
        exact (chg_set w4 g 39 _).own O4.out.1 (fun b hb e => by
          have h1 := (O4.out.1.lt b hb).1
          have h2 := GLT.out
          have h3 := SB.out.size
          rw [show b = g from e] at h1
          omega))
      have HW5 := Lib.hid hw5
      clear hw5
      go_wp2_with fail
      refine (NU.out _).mono ?_
      rintro e w4' ⟨rfl, hww⟩
      have hww' := hww.symm
      subst hww'
      clear hww
      go_upto_region 8 with fail
      rw [← HW5.out]
      clear k39 f39 HW5 HW4
      have RB := Lib.hid BX5.out.at_
      obtain ⟨D14, hD14⟩ : ∃ D14, D14 = d14L (cut14 x) v3 (.slice A2 m2 c2) := ⟨_, rfl⟩
      have LD := Lib.hid (show D14.length = 40 ∧ ∀ u ∈ D14, u.oneCell' = true from ⟨by rw [hD14]; exact d14L_len _ _ _ KL.out, by rw [hD14]; exact d14L_one _ _ _ V3.out rfl⟩)
      rw [← hD14] at RB
      have HD14 := Lib.hid hD14
      clear hD14
      have OV5 := Lib.hid ((Chg.of_still (S5.out.alloc S5.out.size (.cells D14.toArray 47)) (fun _ => False)).own OV.out (fun _ _ h => h))
      have GP := Lib.hid (show w.heap.size ≤ (w5.alloc (.cells D14.toArray 47)).heap.size from Nat.le_trans SW.out.size (S5.out.alloc S5.out.size (.cells D14.toArray 47)).size)
      have JB := Lib.hid (show (j + 1) * 128 ≤ 140737488355328 ∧ j + 1 ≤ 9223372036854775807 by have := FC.out; omega)
      have NB := Lib.hid (Blk.new w5 47 D14.toArray)
      go_wp2_with (first
        | (guard_target =~ wpList _ _ _ (Oper.mk (some 35) _ _ _ _ _ :: _) _ _; go_must (refine wpList_load_mid rfl 47 (.tmp 7) rfl g 0 (by kernel_rfl) D14 _ RB.out Tryz.underlying47 rfl (by rw [size14, LD.out.1]) ?_))
        | (guard_target =~ wpList _ _ _ (Oper.mk (some 36) _ _ _ _ _ :: _) _ _; go_must (refine wpList_boxStr 22 47 40 128 _ info14 Tryz.underlying22 (by decide) (by decide) w5 rfl (.tmp 35) rfl (.agg D14.toArray) rfl (by show D14.toArray.size = 40; rw [List.size_toArray, LD.out.1]) ?_))
        | (guard_target =~ wpList _ _ _ (Oper.mk (some 37) _ _ _ _ _ :: _) _ _; go_must (refine wpList_pushStr 22 47 40 128 _ info14 Tryz.underlying22 (by decide) (by rfl) (w5.alloc (.cells D14.toArray 47)) rfl (.tmp 34) (.tmp 36) rfl w.heap.size ov j xs rfl OV5.out ⟨w5.heap.size, 0, none⟩ 1 1 D14 rfl (fun q u hq => by rw [Addr.add_mid]; exact rangeAt_blk NB.out q u hq) (by rw [LD.out.1]) LD.out.2 JB.out.1 JB.out.2 GP.out ?_); intro v8 w8 own8 gr8 _; have OG8 := Lib.hid (And.intro own8 gr8); clear own8 gr8))
      have FI := Lib.hid (show ∃ xs, w8.ownsRow w.heap.size 47 40 v8 (j + 1) xs ∧ HasD14 w8 w.heap.size B ((L.take (j + 1)).map cut14) xs ∧ Still w w8 from by
        have sr : Still wr (w5.alloc (.cells D14.toArray 47)) := S5.out.alloc S5.out.size _
        have s8 : Still w5 (w5.alloc (.cells D14.toArray 47)) := (Still.refl w5).alloc (Nat.le_refl _) _
        obtain ⟨own8, gr8⟩ := OG8.out
        have ovw := OV5.out
        have c0 := Chg.of_still sr (fun _ => False)
        have cg := Chg.of_grown (S := fun q => ov.ownBlock = some q) gr8 (fun q e _ => e)
        have hovb : ∀ q, ov.ownBlock = some q → w.heap.size ≤ q := fun q hq => (ovw.lt q hq).1
        have hBS : ∀ q, q < B → ¬ ov.ownBlock = some q := fun q hq e => by have := hovb q e; have := FC.out.2.2.2.2.1; omega
        refine ⟨_, own8, ?_, (SW.out.trans sr).grown gr8 (SW.out.trans sr).size (fun q hq => hovb q hq)⟩
        rw [TKE.out, HD14.out]
        have hk1 := HV.out.keep c0 (fun _ _ h => h) (fun v n l ho => c0.own ho (fun _ _ h => h))
        have hk2 := hk1.keep cg hBS (fun v n l ho => own_apart ho ovw (by decide) gr8)
        have hrd2 := ((HR.out.rd2.chg c0 (fun _ _ h => h)).chg cg hBS).front (k := m2) (by have := HM2.out; omega)
        have hxl : x.l.length = n2 := HR.out.rd2.1
        have hz : x.l.take m2 = x.l.take 60 := by
          rw [HM2.out]
          by_cases h : n2 ≤ 60
          · rw [Nat.min_eq_left h, List.take_of_length_le (by omega), List.take_of_length_le (by omega)]
          · rw [Nat.min_eq_right (by omega)]
        rw [hz] at hrd2
        have o5 := O5.out
        obtain ⟨A3, c3, hv3, _⟩ := own_form o5
        rw [hv3] at o5 ⊢
        have hO : w8.ownsRow w.heap.size 5 1 (.slice A3 (x.D.take 300).length c3) (x.D.take 300).length (bytesV (cut14 x).D) := by
          show w8.ownsRow _ _ 1 _ _ (bytesV (x.D.take 300))
          exact own_apart ((Chg.of_still s8 (fun _ => False)).own (own_low o5 (Nat.le_trans SW.out.size O4.out.2)) (fun _ _ h => h)) ovw (by decide) gr8
        exact hk2.snoc (cut14 x) A3 _ c3 A2 m2 c2 KL.out hO (by rw [List.length_take]; omega) hrd2 (by have := HM2.out; have := HR.out.le2.1; omega) HR.out.le2.2 HR.out.nr)
      clear OG8 BX5 O5 S5 RB HD14 OV5 NB BX4 S4 O4 hcF1 hcF2
      have e1 : (j : Int) < (nl : Int) := by have := FC.out; omega
      have hnl : j < nl := by have := FC.out; omega
      have hcl : nl ≤ cl := FC.out.2.1
      have hclm : cl ≤ 9223372036854775807 := FC.out.2.2.1
      go_wp2_with fail
      have vj : wrap64 ((j : Int) + 1) = ((j + 1 : Nat) : Int) := by unfold wrap64; omega
      go_roundw
      case rel => exact ⟨j + 1, _, rfl, by omega, by rw [vj], FI.out⟩
      case measure => rw [vj]; simp [intOf]; omega
    · obtain rfl : j = M := by omega
      obtain ⟨xs, h1, h2, h3⟩ := hh.out
      have FIN := Lib.hid (And.intro h1 (And.intro h2 h3))
      have hend : (nl : Int) ≤ (j : Int) ∨ (N : Int) ≤ (j : Int) := by have := FC.out; omega
      clear h1 h2 h3 hh
      rcases hend with he | he
      · have he2 : ¬ (j : Int) < (nl : Int) := by omega
        go_wp2_with fail
        go_ret
        first | exact ⟨⟨_, xs, rfl, FIN.out.1, FIN.out.2.1⟩, FIN.out.2.2⟩ | exact ⟨⟨_, rfl, xs, FIN.out.1, (by first | exact FIN.out.2.1 | (rw [← List.map_take]; exact FIN.out.2.1))⟩, FIN.out.2.2⟩
      · have he2 : ¬ (j : Int) < (N : Int) := by omega
        by_cases hlt2 : (j : Int) < (nl : Int)
        · go_wp2_with fail
          go_ret
          first | exact ⟨⟨_, xs, rfl, FIN.out.1, FIN.out.2.1⟩, FIN.out.2.2⟩ | exact ⟨⟨_, rfl, xs, FIN.out.1, (by first | exact FIN.out.2.1 | (rw [← List.map_take]; exact FIN.out.2.1))⟩, FIN.out.2.2⟩
        · go_wp2_with fail
          go_ret
          first | exact ⟨⟨_, xs, rfl, FIN.out.1, FIN.out.2.1⟩, FIN.out.2.2⟩ | exact ⟨⟨_, rfl, xs, FIN.out.1, (by first | exact FIN.out.2.1 | (rw [← List.map_take]; exact FIN.out.2.1))⟩, FIN.out.2.2⟩
end Go.Proofs.YtfneloobfidckaaGreatDoor

/- An entry that came in, opened. It proves no statement. -/





namespace Go.Proofs.YtfneloobfidckaaGreatDoor
open Go.RowKit
set_option linter.unusedVariables false
set_option linter.unusedSimpArgs false

theorem Tryz.cells_ent : Tryz.prog.cellsOf 44 = 34 := by kernel_rfl
theorem Tryz.cells_id : Tryz.prog.cellsOf 41 = 32 := by kernel_rfl
theorem Tryz.cells_int0 : Tryz.prog.cellsOf 3 = 1 := by kernel_rfl
theorem Tryz.cells_bytes0 : Tryz.prog.cellsOf 42 = 1 := by kernel_rfl
theorem Tryz.cells_byte0 : Tryz.prog.cellsOf 5 = 1 := by kernel_rfl
/-- An entry that came in: its tag, its key, its data. -/
structure EntIn (w : World) (t : Int) (K D : List UInt8) (A : Option Addr) (n c : Nat) : Prop where
  key : K.length = 32
  reads : Reads w w.heap.size A n D
  fit : n ≤ c
  cap : c ≤ 9223372036854775807
  nil : A = none → n = 0 ∧ c = 0
theorem trod_id {H : Type} {enc : TypeId × Value → H} {w : World} {base : Nat} {spare : Nat → Bool} {held : Bool} {fuel : Nat} {cs : List Value} {y : DataW H × List MemPlace} (hcl : cs.length = 32)
    (hf : DataW.trod enc Tryz.prog w base spare held fuel 41 cs = some y) : ∃ l : List UInt8, cs = bytesV l ∧ l.length = 32 := by
  obtain ⟨xs, m, _, _, hl, hxl, hat⟩ := DataW.trod_array under32 hf
  have hone : ∀ i (h : i < cs.length), ∃ b : UInt8, cs[i] = .int .u8 (b.toNat : Int) := fun i h => by
    have h1 := hat i (by omega)
    rw [Tryz.cells_byte0] at h1
    have hd : ((cs.drop (i * 1)).take 1) = [cs[i]] := by
      rw [Nat.mul_one, List.drop_eq_getElem_cons h]; rfl
    rw [hd, List.getElem?_eq_getElem (by omega)] at h1
    obtain ⟨a, ha, _, hw⟩ := DataW.trod_int Tryz.underlying5 h1
    have hb := bounds_u8 hw
    simp only [List.cons.injEq, and_true] at ha
    exact ⟨UInt8.ofNat a.toNat, by rw [ha, UInt8.toNat_ofNat']; congr 1; omega⟩
  refine ⟨cs.map fun v => match v with | .int _ a => UInt8.ofNat a.toNat | _ => 0, ?_, by simp [hcl]⟩
  unfold bytesV
  rw [List.map_map]
  apply List.ext_getElem (by simp)
  intro i h1 h2
  obtain ⟨b, hb⟩ := hone i h1
  rw [List.getElem_map]
  simp [hb]
set_option maxRecDepth 100000 in
theorem open_ent {H : Type} {enc : TypeId × Value → H} {w : World} {r : Reach} {b0 : Nat} {held : Bool} {v : Value} {d : DataW H} {p : List MemPlace} (hv : Value.okWide Tryz.prog w r b0 44 v) (h : DataW.Trod enc Tryz.prog w 0 (fun _ => true) held 44 v d p) :
    ∃ t K D A n c, v = .agg (entV t K (.slice A n c)) ∧ EntIn w t K D A n c := by
  obtain ⟨cs, rfl, hsz⟩ := Go.WideShapes.okWide_struct Tryz.underlying44 hv
  obtain ⟨l⟩ := cs
  obtain ⟨fuel, hf⟩ := h
  obtain ⟨xs, m, hn, hx, hlen, hxl, hg⟩ := DataW.trod_struct Tryz.underlying44 hf
  rw [Tryz.cells_ent] at hlen
  simp only [Value.cells] at hlen hg
  have hl34 : l.length = 34 := hlen
  have hxl3 : xs.length = 3 := hxl
  have hfx : ∀ (i : Nat) (hi : i < xs.length), xs[i]? = some xs[i] := fun i hi => List.getElem?_eq_getElem hi
  have g0 : DataW.trod enc Tryz.prog w 0 (fun _ => true) held m 3 (l.take 1) = some xs[0] := by
    have this : DataW.trod enc Tryz.prog w 0 (fun _ => true) held m 3 ((l.drop 0).take (Tryz.prog.cellsOf 3)) = some xs[0] := (hg 0 _ rfl).trans (hfx 0 (by omega))
    rw [Tryz.cells_int0] at this
    exact this
  have g1 : DataW.trod enc Tryz.prog w 0 (fun _ => true) held m 41 ((l.drop 1).take 32) = some xs[1] := by
    have this : DataW.trod enc Tryz.prog w 0 (fun _ => true) held m 41 ((l.drop 1).take (Tryz.prog.cellsOf 41)) = some xs[1] := (hg 1 _ rfl).trans (hfx 1 (by omega))
    rw [Tryz.cells_id] at this
    exact this
  have g2 : DataW.trod enc Tryz.prog w 0 (fun _ => true) held m 42 ((l.drop 33).take 1) = some xs[2] := by
    have this : DataW.trod enc Tryz.prog w 0 (fun _ => true) held m 42 ((l.drop 33).take (Tryz.prog.cellsOf 42)) = some xs[2] := (hg 2 _ rfl).trans (hfx 2 (by omega))
    rw [Tryz.cells_bytes0] at this
    exact this
  obtain ⟨t, e0, _, w0⟩ := DataW.trod_int Tryz.underlying3 g0
  obtain ⟨K, e1, hK⟩ := trod_id (by simp; omega) g1
  have hb : ∃ (A : Option Addr) (n c : Nat) (D : List UInt8), (l.drop 33).take 1 = [.slice A n c] ∧ Reads w w.heap.size A n D ∧ n ≤ c ∧ c ≤ 9223372036854775807 ∧ (A = none → n = 0 ∧ c = 0) := by
    rcases Go.ChangeShapes.open_ints Tryz.underlying42 Tryz.underlying5 Tryz.cells_byte0 g2 with ⟨e2, _⟩ | ⟨a, len, cap, zs, e2, _, hl, hm, hz, _, hc, hw⟩
    · exact ⟨none, 0, 0, [], by simpa using e2, Reads.nil0, by omega, by omega, fun _ => ⟨rfl, rfl⟩⟩
    · obtain ⟨D, hr, h1, h2, h3⟩ := reads_of_row (a := some a) (len := len) (cap := cap) (zs := zs) (.inr ⟨a, rfl, hl, hm, by simpa using hz, hc, hw⟩)
      exact ⟨some a, len, cap, D, by simpa using e2, hr, h1, h2, h3⟩
  obtain ⟨A, n, c, D, e2, hr, h1, h2, h3⟩ := hb
  refine ⟨t, K, D, A, n, c, ?_, { key := hK, reads := hr, fit := h1, cap := h2, nil := h3 }⟩
  have el : l = entL t K (.slice A n c) := by
    have s1 : l = l.take 1 ++ ((l.drop 1).take 32 ++ (l.drop 33).take 1) := by
      have a1 := (List.take_append_drop 1 l).symm
      have a2 := (List.take_append_drop 32 (l.drop 1)).symm
      rw [List.drop_drop] at a2
      have a3 : (l.drop 33).take 1 = l.drop 33 := List.take_of_length_le (by rw [List.length_drop]; omega)
      rw [a3]
      conv => lhs; rw [a1, a2]
    rw [s1, e1, e2]
    unfold entL
    have e0' : l.take 1 = [.int .i64 t] := by simpa using e0
    rw [e0']
    rfl
  unfold entV
  rw [el]
end Go.Proofs.YtfneloobfidckaaGreatDoor

/- A place that came in, opened. It proves no statement. -/

namespace Go.Proofs.YtfneloobfidckaaGreatDoor
open Go.RowKit
set_option linter.unusedVariables false
set_option linter.unusedSimpArgs false

theorem Tryz.cells_place0 : Tryz.prog.cellsOf 39 = 3 := by kernel_rfl
set_option maxRecDepth 100000 in
theorem open_place {H : Type} {enc : TypeId × Value → H} {w : World} {r : Reach} {b0 : Nat} {held : Bool} {v : Value} {d : DataW H} {p : List MemPlace} (hv : Value.okWide Tryz.prog w r b0 39 v) (h : DataW.Trod enc Tryz.prog w 0 (fun _ => true) held 39 v d p) :
    ∃ x y z, v = .agg #[.int .i64 x, .int .i64 y, .int .i64 z] ∧ True := by
  obtain ⟨cs, rfl, hsz⟩ := Go.WideShapes.okWide_struct Tryz.underlying39 hv
  obtain ⟨l⟩ := cs
  obtain ⟨fuel, hf⟩ := h
  obtain ⟨xs, m, hn, hx, hlen, hxl, hg⟩ := DataW.trod_struct Tryz.underlying39 hf
  rw [Tryz.cells_place0] at hlen
  simp only [Value.cells] at hlen hg
  have hl7 : l.length = 3 := hlen
  have hxl7 : xs.length = 3 := hxl
  have hfx : ∀ (i : Nat) (hi : i < xs.length), xs[i]? = some xs[i] := fun i hi => List.getElem?_eq_getElem hi
  match l, hl7 with
  | [v0, v1, v2], _ =>
  have g0 : DataW.trod enc Tryz.prog w 0 (fun _ => true) held m 3 [v0] = some xs[0] := by
    have this : DataW.trod enc Tryz.prog w 0 (fun _ => true) held m 3 (([v0, v1, v2].drop 0).take (Tryz.prog.cellsOf 3)) = some xs[0] := (hg 0 _ rfl).trans (hfx 0 (by omega))
    rw [Tryz.cells_int0] at this
    exact this
  have g1 : DataW.trod enc Tryz.prog w 0 (fun _ => true) held m 3 [v1] = some xs[1] := by
    have this : DataW.trod enc Tryz.prog w 0 (fun _ => true) held m 3 (([v0, v1, v2].drop 1).take (Tryz.prog.cellsOf 3)) = some xs[1] := (hg 1 _ rfl).trans (hfx 1 (by omega))
    rw [Tryz.cells_int0] at this
    exact this
  have g2 : DataW.trod enc Tryz.prog w 0 (fun _ => true) held m 3 [v2] = some xs[2] := by
    have this : DataW.trod enc Tryz.prog w 0 (fun _ => true) held m 3 (([v0, v1, v2].drop 2).take (Tryz.prog.cellsOf 3)) = some xs[2] := (hg 2 _ rfl).trans (hfx 2 (by omega))
    rw [Tryz.cells_int0] at this
    exact this
  obtain ⟨x, e0, _, _⟩ := DataW.trod_int Tryz.underlying3 g0
  obtain ⟨y, e1, _, _⟩ := DataW.trod_int Tryz.underlying3 g1
  obtain ⟨z, e2, _, _⟩ := DataW.trod_int Tryz.underlying3 g2
  simp only [List.cons.injEq, and_true] at e0 e1 e2
  subst e0 e1 e2
  exact ⟨x, y, z, rfl, trivial⟩
end Go.Proofs.YtfneloobfidckaaGreatDoor
