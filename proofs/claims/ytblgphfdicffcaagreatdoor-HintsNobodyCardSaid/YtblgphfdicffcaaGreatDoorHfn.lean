/- Contracts and facts, several texts in one. It proves no statement. -/
import Derived.Test.YtblgphfdicffcaaGreatDoorHfl
import Derived.Test.YtblgphfdicffcaaGreatDoorHfm
import Derived.Lib.SlBytesConst
import Derived.Test.YtblgphfdicffcaaGreatDoorHfb
import Derived.Deep.MidRow
import Derived.Deep.WholeRow
import Derived.Deep.DeepCutAuto
import Derived.Great.BuildSlice
import Derived.Great.Walk
import Derived.Stop.BytesEq
import Derived.Test.YtblgphfdicffcaaGreatDoorHfa
import Derived.Outline
import Derived.Deep.DeepMust

/- Contract: a new segment. It proves no statement. -/



namespace Go.Proofs.YtblgphfdicffcaaGreatDoor
open Go.RowKit Go.Maps Go.WideMaps Go.Sort
set_option linter.unusedVariables false
set_option linter.unusedSimpArgs false

/-- What stands ahead of a segment's entries. -/
def magicL : List UInt8 := [72, 79, 65, 82, 68, 83, 69, 71]
/-- A new segment, by the medium's own calls. -/
def beginL (M : Me) (S : Lg) (b : List UInt8) (gf : Nat) : Int × Me × Lg :=
  if nextL S = 1048576 then (16, M, S)
  else if (opCreate M (nameS (nextL S)) gf).1 ≠ 0 then ((opCreate M (nameS (nextL S)) gf).1, (opCreate M (nameS (nextL S)) gf).2, S)
  else if (opAppend (opCreate M (nameS (nextL S)) gf).2 (nameS (nextL S)) (magicL ++ b)).1 = 11 then
    (if (opRemove (opAppend (opCreate M (nameS (nextL S)) gf).2 (nameS (nextL S)) (magicL ++ b)).2 (nameS (nextL S))).1 = 12 then 12 else 11, (opRemove (opAppend (opCreate M (nameS (nextL S)) gf).2 (nameS (nextL S)) (magicL ++ b)).2 (nameS (nextL S))).2, S)
  else if (opAppend (opCreate M (nameS (nextL S)) gf).2 (nameS (nextL S)) (magicL ++ b)).1 ≠ 0 then ((opAppend (opCreate M (nameS (nextL S)) gf).2 (nameS (nextL S)) (magicL ++ b)).1, (opAppend (opCreate M (nameS (nextL S)) gf).2 (nameS (nextL S)) (magicL ++ b)).2, S)
  else (0, (opAppend (opCreate M (nameS (nextL S)) gf).2 (nameS (nextL S)) (magicL ++ b)).2, S.grown (nextL S, 8 + b.length))
theorem own_formN2 {w : World} {base n z : Nat} {e : TypeId} {v : Value} {xs : List Value} (h : w.ownsRow base e z v n xs) : ∃ A c, v = .slice A n c := by
  rcases h.2 with ⟨h, h0⟩ | ⟨g, cp, cur, h, _⟩
  · exact ⟨none, 0, by rw [h, h0]⟩
  · exact ⟨_, cp, h⟩
theorem LLeft.chain {w w1 w2 : World} {base g gl : Nat} {own own1 : Own} {lo lo1 : LOwn} {M2 : Me} {S2 : Lg} (c1 : Chg w w1 (fun b => own b ≠ none ∨ lo b ≠ none)) (ho1 : ∀ b, b < w.heap.size → own1 b = own b ∧ lo1 b = lo b) (h2 : LLeft w1 w2 base g gl own1 lo1 M2 S2) : LLeft w w2 base g gl own lo M2 S2 := by
  obtain ⟨c2, own2, lo2, ho2, m2⟩ := h2
  exact ⟨c1.trans c2 (fun b hb hs => by rw [← (ho1 b hb).1, ← (ho1 b hb).2]; exact hs), own2, lo2, fun b hb => ⟨(ho2 b (Nat.lt_of_lt_of_le hb c1.size)).1.trans (ho1 b hb).1, (ho2 b (Nat.lt_of_lt_of_le hb c1.size)).2.trans (ho1 b hb).2⟩, m2⟩
theorem LLeft.of_still {w W w' : World} {base g gl : Nat} {own : Own} {lo : LOwn} {M' : Me} {S' : Lg} (s : Still w W) (h : LLeft W w' base g gl own lo M' S') : LLeft w w' base g gl own lo M' S' :=
  LLeft.chain (Chg.of_still s _) (fun _ _ => ⟨rfl, rfl⟩) h
/-- The magic and an entry's bytes, side by side. -/
theorem magic_parts {w : World} {P : Nat → Prop} {A : Option Addr} {m c : Nat} {b : List UInt8} (h : RowP w P A m c b) :
    PartsIn ((w.alloc (.cells #[.int .u8 72, .int .u8 79, .int .u8 65, .int .u8 82, .int .u8 68, .int .u8 83, .int .u8 69, .int .u8 71] 5 (8, 9))).alloc (.cells #[.slice (some ⟨w.heap.size, 0, none⟩) 8 8, .slice A m c] 34)) (w.heap.size + 2) (w.heap.size + 1) [magicL, b] := by
  obtain ⟨W1, hW1⟩ : ∃ W1, W1 = w.alloc (.cells #[.int .u8 72, .int .u8 79, .int .u8 65, .int .u8 82, .int .u8 68, .int .u8 83, .int .u8 69, .int .u8 71] 5 (8, 9)) := ⟨_, rfl⟩
  have hs1 : W1.heap.size = w.heap.size + 1 := by rw [hW1]; simp
  have b1 : W1.heap[w.heap.size]? = some (.cells #[.int .u8 72, .int .u8 79, .int .u8 65, .int .u8 82, .int .u8 68, .int .u8 83, .int .u8 69, .int .u8 71] 5 (8, 9)) := by rw [hW1]; exact heap_alloc_new _ _
  have st : Still w W1 := by rw [hW1]; exact (Still.refl w).alloc (Nat.le_refl _) _
  rw [← hW1]
  obtain ⟨W2, hW2⟩ : ∃ W2, W2 = W1.alloc (.cells #[.slice (some ⟨w.heap.size, 0, none⟩) 8 8, .slice A m c] 34) := ⟨_, rfl⟩
  have b2 : Blk W2 (w.heap.size + 1) 34 #[.slice (some ⟨w.heap.size, 0, none⟩) 8 8, .slice A m c] := by rw [hW2, ← hs1]; exact Blk.new _ _ _
  have st2 : Still W1 W2 := by rw [hW2]; exact (Still.refl W1).alloc (Nat.le_refl _) _
  have b3 := (st2.block w.heap.size (by omega)).trans b1
  have hs2 : W2.heap.size = w.heap.size + 2 := by rw [hW2]; simp [hs1]
  rw [← hW2]
  refine ⟨by omega, fun i hi => ?_⟩
  match i, hi with
  | 0, _ =>
    refine ⟨_, _, _, b2.cell 0, ⟨rfl, fun _ => ⟨w.heap.size, 0, rfl, by omega, fun j hj => ?_⟩⟩, fun e => by cases e⟩
    rw [Nat.zero_add, cell_of_row _ w.heap.size j _ _ (8, 9) b3]
    match j, hj with
    | 0, _ => rfl
    | 1, _ => rfl
    | 2, _ => rfl
    | 3, _ => rfl
    | 4, _ => rfl
    | 5, _ => rfl
    | 6, _ => rfl
    | 7, _ => rfl
    | q + 8, hq => omega
  | 1, _ =>
    have h2 := (h.still (Still.trans st st2)).reads
    rw [hs2] at h2
    exact ⟨_, _, _, b2.cell 1, h2, fun e => (h.nil e).2⟩
  | q + 2, hq => exact absurd hq (by simp)
theorem nextL_le {S : Lg} (h : S.ok) : nextL S ≤ 1048576 := by
  unfold nextL
  split
  · omega
  · rename_i p hp
    have := (h.num p (List.mem_of_getLast? hp)).1
    omega
theorem nameS_size (n : Int) : (nameS n).size ≤ 12 := by
  have : (nameS n).size = (nameS n).data.toList.length := Array.length_toList.symm
  rw [this, nameS_list]
  split
  · rw [sgnB_length]; exact Nat.le_refl _
  · exact Nat.zero_le _
set_option maxRecDepth 100000 in
set_option maxHeartbeats 6400000 in
theorem begin_any {w : World} {base g gl k : Nat} {own : Own} {lo : LOwn} {M : Me} {S : Lg} {P : Nat → Prop} {A : Option Addr} {m c : Nat} {b : List UInt8} (h : LM w base g gl own lo M S) (hok : S.ok) (hg : M.good k) (hk : k ≤ 800000) (T : SgT w) (hr : RowP w P A m c b) (hP : ∀ x, P x → own x = none ∧ lo x = none) (hm : m ≤ 17000) :
    Calls Tryz.prog 159 #[.pointer (some ⟨gl, 0, none⟩), .slice A m c] w fun e w' => ∃ gf, M.fs gf = none ∧ e = .returned (.int .i64 (beginL M S b gf).1) ∧ LLeft w w' base g gl own lo (beginL M S b gf).2.1 (beginL M S b gf).2.2 := by
  obtain ⟨sv, hl⟩ := h.log
  have NX := Lib.hid (next_any hl hok)
  have hfr := h.med.fresh
  have hn := nextL_le hok
  have L0 := Lib.hid (LLeft.same h)
  by_cases h16 : nextL S = 1048576
  · have E : ∀ gf, beginL M S b gf = (16, M, S) := fun gf => if_pos h16
    have LS := Lib.hid (fun W (s : Still w W) => LLeft.still h s)
    obtain ⟨gf, hgf⟩ : ∃ gf, M.fs gf = none := ⟨_, hfr⟩
    rw [h16] at NX
    clear h hl hok hg hr hP T hfr hn L0 h16
    go_enter Tryz.func159, Tryz.ntmps159
    go_wp2_with fail
    refine NX.out.mono ?_
    rintro e w1 ⟨rfl, i, rfl⟩
    have S1 := Lib.hid (still_drewN (Still.refl w) i)
    go_wp2_with fail
    go_ret
    exact ⟨gf, hgf, by rw [E]; rfl, by rw [E]; exact LS.out _ S1.out⟩
  obtain ⟨n, hnn⟩ : ∃ n, n = nextL S := ⟨_, rfl⟩
  have NM := Lib.hid (fun W (s : Still w W) => name_any (n : Int) W (T.still s))
  obtain ⟨nm, hnm⟩ : ∃ nm, nm = nameS (n : Int) := ⟨_, rfl⟩
  have hsz : nm.size ≤ maxLen := by rw [hnm]; have := nameS_size (n : Int); unfold maxLen; omega
  rw [← hnm] at NM
  have hne : ((n : Int) == 1048576) = false := by rw [beq_eq_false_iff_ne]; omega
  have E0 : ∀ gf, beginL M S b gf = (if (opCreate M nm gf).1 ≠ 0 then ((opCreate M nm gf).1, (opCreate M nm gf).2, S)
    else if (opAppend (opCreate M nm gf).2 nm (magicL ++ b)).1 = 11 then (if (opRemove (opAppend (opCreate M nm gf).2 nm (magicL ++ b)).2 nm).1 = 12 then 12 else 11, (opRemove (opAppend (opCreate M nm gf).2 nm (magicL ++ b)).2 nm).2, S)
    else if (opAppend (opCreate M nm gf).2 nm (magicL ++ b)).1 ≠ 0 then ((opAppend (opCreate M nm gf).2 nm (magicL ++ b)).1, (opAppend (opCreate M nm gf).2 nm (magicL ++ b)).2, S)
    else (0, (opAppend (opCreate M nm gf).2 nm (magicL ++ b)).2, S.grown (n, 8 + b.length))) := by
    intro gf
    unfold beginL
    rw [if_neg h16, ← hnn, ← hnm]
  rw [← hnn] at NX
  have CR := Lib.hid (fun W (s : Still w W) => create_M nm (h.med.still s) hg.ok (by have := hg.cnt; omega) hsz)
  have c0 : ∀ W, Still w W → W.cell? ⟨gl, 0, none⟩ = some (.pointer (some ⟨g, 0, none⟩)) := fun W s => (hl.blk.still s).cell 0
  have HG := Lib.hid hg
  have H := Lib.hid h
  have C0 := Lib.hid c0
  have HR := Lib.hid hr
  have HP := Lib.hid hP
  have OK := Lib.hid hok
  have HN := Lib.hid hn
  have HM := Lib.hid hm
  have HSZ := Lib.hid hsz
  clear h hl hok hg hr hP T hfr hn L0 h16 hnm hnn c0 hm hsz
  go_enter Tryz.func159, Tryz.ntmps159
  go_wp2_with fail
  refine NX.out.mono ?_
  rintro e w1 ⟨rfl, i, hw1⟩
  have S1 := Lib.hid (show Still w w1 from hw1 ▸ still_drewN (Still.refl w) i)
  clear hw1 NX
  go_wp2_with fail
  refine (NM.out w1 S1.out).mono ?_
  rintro e w2 ⟨rfl, s2⟩
  have S2 := Lib.hid (Still.trans S1.out s2)
  clear s2 NM S1
  have c0 := C0.out w2 S2.out
  go_wp2_with fail
  refine (CR.out w2 S2.out).mono ?_
  rintro e w3 ⟨gf, hgf, hlo, rfl, hleft⟩
  have E1 := E0 gf
  have GF := Lib.hid hgf
  obtain ⟨M1, hM1⟩ : ∃ M1, M1 = (opCreate M nm gf).2 := ⟨_, rfl⟩
  obtain ⟨e1, he1⟩ : ∃ e1, e1 = (opCreate M nm gf).1 := ⟨_, rfl⟩
  have G1 := Lib.hid (show M1.good (k + 1) from by rw [hM1]; exact opCreate_good HG.out nm gf)
  rw [← hM1, ← he1] at E1
  rw [← hM1] at hleft
  rw [← he1]
  have LL1 := Lib.hid (show LLeft w w3 base g gl own lo M1 S from by
    have h1 := LLeft.med (H.out.still S2.out) hleft
    obtain ⟨c, own', lo', ho, lm⟩ := h1
    exact ⟨(Chg.of_still S2.out _).trans c (fun b _ hb => hb), own', lo', fun b hb => ho b (Nat.lt_of_lt_of_le hb S2.out.size), lm⟩)
  clear hleft hlo hM1 he1 CR E0 hgf
  by_cases z1 : e1 = 0
  · subst z1
    rw [if_neg (by simp)] at E1
    obtain ⟨cA, own1, lo1, ho1, lm1⟩ := LL1.out
    have R3 : RowP w3 P A m c b := HR.out.chg cA (fun x hx _ hs => by
      have := HP.out x hx
      rcases hs with hs | hs
      · exact hs this.1
      · exact hs this.2)
    have hbm := R3.len
    have PI := magic_parts R3
    obtain ⟨W2, hW2⟩ : ∃ W2, W2 = (w3.alloc (.cells #[.int .u8 72, .int .u8 79, .int .u8 65, .int .u8 82, .int .u8 68, .int .u8 83, .int .u8 69, .int .u8 71] 5 (8, 9))).alloc (.cells #[.slice (some ⟨w3.heap.size, 0, none⟩) 8 8, .slice A m c] 34) := ⟨_, rfl⟩
    rw [← hW2] at PI
    have hs2 : W2.heap.size = w3.heap.size + 2 := by rw [hW2]; simp
    have SW := Lib.hid (show Still w3 W2 by rw [hW2]; exact ((Still.refl w3).alloc (Nat.le_refl _) _).alloc (by simp) _)
    have hfl : [magicL, b].flatten = magicL ++ b := by simp
    have hln : (magicL ++ b).length = 8 + m := by rw [List.length_append, hbm]; rfl
    have CC0 := concat_any (w3.heap.size + 1) 2 [magicL, b] W2 (w3.heap.size + 2) PI (by omega) (by simp) (by rw [hfl, hln]; omega) (by rw [hfl, hln]; have := HM.out; omega)
    rw [show [magicL, b].length = 2 from rfl, hfl, hln] at CC0
    have CC := Lib.hid CC0
    have HW2 := Lib.hid hW2
    have HL8 := Lib.hid hln
    have HBM := Lib.hid hbm
    have LM1 := Lib.hid lm1
    have CA := Lib.hid cA
    have HO1 := Lib.hid ho1
    have kc := fun (w : World) (C : Array Value) (n c : Nat) => Lib.run_convert_bytes_const (P := Tryz.prog) w 34 5 C n c Tryz.underlying34 Tryz.underlying5
    clear PI hW2 hs2 hfl hln CC0 R3 cA ho1 lm1 hbm
    go_wp2_with fail
    rw [← HW2.out]
    refine CC.out.mono ?_
    rintro e w4 ⟨⟨v4, rfl, o4⟩, s4⟩
    obtain ⟨A4, c4, rfl, f1, f2, f3⟩ := own_form o4
    have S34 := Lib.hid (Still.trans SW.out s4)
    have lm4 := LM1.out.still S34.out
    obtain ⟨sv4, l4⟩ := lm4.log
    have k0 := l4.cells.1
    have AP := Lib.hid (append_M nm A4 (8 + m) c4 w4.heap.size (magicL ++ b) lm4.med G1.out.ok (by have := G1.out.cnt; omega) G1.out.wt HSZ.out (Reads.of_own o4) (Nat.le_refl _) f3 (by have := HM.out; omega))
    have L4 := Lib.hid lm4
    clear l4 lm4 o4 f1 f2 f3 s4 CC SW
    go_wp2_with fail
    refine AP.out.mono ?_
    rintro e w5 ⟨rfl, hleft5⟩
    obtain ⟨M2, hM2⟩ : ∃ M2, M2 = (opAppend M1 nm (magicL ++ b)).2 := ⟨_, rfl⟩
    obtain ⟨e2, he2⟩ : ∃ e2, e2 = (opAppend M1 nm (magicL ++ b)).1 := ⟨_, rfl⟩
    have G2 := Lib.hid (show M2.good (k + 2) from by rw [hM2]; exact opAppend_good G1.out nm _)
    rw [← hM2, ← he2] at E1
    rw [← hM2] at hleft5
    rw [← he2]
    have LL2 := Lib.hid (show LLeft w w5 base g gl own lo M2 S from LLeft.chain CA.out HO1.out (LLeft.of_still S34.out (LLeft.med L4.out hleft5)))
    clear hleft5 hM2 he2 AP k0 L4
    obtain ⟨c5, own5, lo5, ho5, lm5⟩ := LL2.out
    obtain ⟨sv5, l5⟩ := lm5.log
    have C5 := Lib.hid c5
    have HO5 := Lib.hid ho5
    have LM5 := Lib.hid lm5
    have LI5 := Lib.hid l5
    have k0 := l5.cells.1
    clear c5 ho5
    by_cases z11 : e2 = 11
    · subst z11
      have RM := Lib.hid (remove_M nm lm5.med G2.out.ok (by have := G2.out.cnt; omega) HSZ.out)
      obtain ⟨M3, hM3⟩ : ∃ M3, M3 = (opRemove M2 nm).2 := ⟨_, rfl⟩
      obtain ⟨e3, he3⟩ : ∃ e3, e3 = (opRemove M2 nm).1 := ⟨_, rfl⟩
      rw [← hM3, ← he3] at E1 RM
      rw [if_pos rfl] at E1
      clear lm5 l5 hM3 he3
      go_wp2_with fail
      refine RM.out.mono ?_
      rintro e w6 ⟨rfl, hleft6⟩
      have LL3 := Lib.hid (show LLeft w w6 base g gl own lo M3 S from LLeft.chain C5.out HO5.out (LLeft.med LM5.out hleft6))
      clear hleft6
      by_cases z12 : e3 = 12
      · subst z12
        have EE := Lib.hid (show beginL M S b gf = (12, M3, S) by rw [E1, if_pos rfl])
        clear E1
        go_wp2_with fail
        go_ret
        exact ⟨gf, GF.out, by rw [EE.out]; rfl, by rw [EE.out]; exact LL3.out⟩
      · have EE := Lib.hid (show beginL M S b gf = (11, M3, S) by rw [E1, if_neg z12])
        have b12 : (e3 == 12) = false := by simpa using z12
        clear E1 z12
        go_wp2_with fail
        go_ret
        exact ⟨gf, GF.out, by rw [EE.out]; rfl, by rw [EE.out]; exact LL3.out⟩
    · rw [if_neg z11] at E1
      have b11 : (e2 == 11) = false := by simpa using z11
      by_cases z0 : e2 = 0
      · subst z0
        rw [if_neg (by simp)] at E1
        have EE := Lib.hid (show beginL M S b gf = (0, M2, S.grown (n, 8 + m)) by rw [E1, HBM.out])
        obtain ⟨A5, c5, hsv, q1, q2, _⟩ := l5.form
        subst hsv
        have k2 := l5.cells.2.2.1
        have ORW := Lib.hid l5.row
        have hlen := OK.out.few
        have hfre : S.fresh ≤ 1048576 := Nat.le_trans OK.out.fresh hlen
        have LOW := Lib.hid lm5.med.low
        have FIN := Lib.hid (fun w6 v6 (o6 : w6.ownsRow base 130 2 v6 (S.segs.length + 1) (segV S.segs ++ [.int .i64 (n : Int), .int .i64 ((8 + m : Nat) : Int)])) (g6 : (w5.alloc (.cells #[.int .i64 (n : Int), .int .i64 ((8 + m : Nat) : Int)] 130)).grownBy w6 (Value.slice A5 S.segs.length c5).ownBlock) (loc : v6.ownBlock = (Value.slice A5 S.segs.length c5).ownBlock ∨ v6.ownBlock = some (w5.alloc (.cells #[.int .i64 (n : Int), .int .i64 ((8 + m : Nat) : Int)] 130)).heap.size) => LLeft.chain C5.out HO5.out (LM.pushed (p := (n, 8 + m)) LM5.out LI5.out o6 g6 loc))
        have B6 := Lib.hid (fun w6 (g6 : (w5.alloc (.cells #[.int .i64 (n : Int), .int .i64 ((8 + m : Nat) : Int)] 130)).grownBy w6 (Value.slice A5 S.segs.length c5).ownBlock) => show Blk w6 gl 103 (logC g S (Value.slice A5 S.segs.length c5)) from (Chg.of_grown g6 (S := fun x => (Value.slice A5 S.segs.length c5).ownBlock = some x) (fun x hx _ => hx)).blk (LI5.out.blk.alloc _) (own_neM LI5.out.blk LI5.out.row (by decide)))
        obtain ⟨sl, hsl⟩ : ∃ sl, sl = S.segs.length := ⟨_, rfl⟩
        rw [← hsl] at k2 hlen
        rw [← hsl] at ORW FIN B6
        clear E1 lm5 l5 q1 q2 hsl
        go_wp2_with (first
          | (guard_target =~ wpList _ _ _ (Oper.mk (some 59) _ _ _ _ _ :: _) _ _; go_must (refine wpList_boxSg _ rfl _ rfl (n : Int) ((8 + m : Nat) : Int) rfl ?_))
          | (guard_target =~ wpList _ _ _ (Oper.mk (some 60) _ _ _ _ _ :: _) _ _; go_must (refine wpList_pushSg _ rfl _ _ rfl base (.slice A5 sl c5) sl (segV S.segs) rfl (ORW.out.alloc _) w5.heap.size [.int .i64 (n : Int), .int .i64 ((8 + m : Nat) : Int)] rfl (fun q u hq => ((Blk.new w5 130 #[.int .i64 (n : Int), .int .i64 ((8 + m : Nat) : Int)]).cell q).trans (by simpa using hq)) rfl (by simp [Value.oneCell']) hlen (by have := LOW.out; simp; omega) ?_); intro v6 w6 o6 g6 loc6; obtain ⟨A6, c6, rfl⟩ := own_formN2 o6; have O6 := Lib.hid o6; have G6 := Lib.hid g6; have LC6 := Lib.hid loc6; have c62 := (B6.out w6 g6).cell 2; have c63 : w6.cell? ⟨gl, 3, none⟩ = some (.int .i64 (S.fresh : Int)) := (B6.out w6 g6).cell 3; have c64 : w6.cell? ⟨gl, 4, none⟩ = some (.bool S.isOpen) := (B6.out w6 g6).cell 4; have z62 := (B6.out w6 g6).frozen 2; have z63 := (B6.out w6 g6).frozen 3; have z64 := (B6.out w6 g6).frozen 4; clear o6 g6 loc6))
        go_ret
        exact ⟨gf, GF.out, by rw [EE.out]; rfl, by rw [EE.out]; exact FIN.out _ _ O6.out G6.out LC6.out⟩
      · have EE := Lib.hid (show beginL M S b gf = (e2, M2, S) by rw [E1, if_pos z0])
        have b0 : (e2 != 0) = true := by simpa using z0
        clear E1 z0 z11 lm5 l5
        go_wp2_with fail
        go_ret
        exact ⟨gf, GF.out, by rw [EE.out]; rfl, by rw [EE.out]; exact LL2.out⟩
  · have E2 : beginL M S b gf = (e1, M1, S) := by rw [E1, if_pos z1]
    have b1 : (e1 != 0) = true := by simpa using z1
    have EE := Lib.hid E2
    clear E1 E2 z1
    go_wp2_with fail
    go_ret
    exact ⟨gf, GF.out, by rw [EE.out]; rfl, by rw [EE.out]; exact LL1.out⟩
end Go.Proofs.YtblgphfdicffcaaGreatDoor

/- Keys as arrays of 32 bytes: their type, their sizes, whether two are the same; boxes of whole values. It proves no statement. -/







namespace Go.Proofs.YtblgphfdicffcaaGreatDoor
open Go.RowKit
set_option linter.unusedVariables false
set_option linter.unusedSimpArgs false

theorem under32 : Tryz.prog.underlying 24 = some (.array 32 5) := by kernel_rfl
theorem size32 : (Tryz.prog.info? 24).map (·.size) = some 32 := by kernel_rfl
theorem wpList_box_val {P : Program} {ops : Array Oper} {rest : List Oper} {o : Oper} {a : Act} {w : World} {Q : Exit → Act → World → Prop} (hg : o.guard = none) (t : TypeId) (x : Operand) (ho : o.op = .box t x) (dst : Option Tmp) (hdst : o.dst = dst) (cs : Array Value)
    (hx : a.eval x = .agg cs) (h : wpList P ops Q rest (a.put dst (.pointer (some ⟨w.heap.size, 0, none⟩))) (w.alloc (.cells cs t))) : wpList P ops Q (o :: rest) a w := by
  refine Go.Great.wpList_runTo hg dst hdst _ _ ?_ h
  unfold execOp
  simp [ho, hx, Instr.box, Value.cells, newVar, newRow, Sem.run_bind]
theorem Tryz.infoByte0 : (Tryz.prog.info? 5).map (fun i => (i.zero, i.size, i.bytes)) = some (some (.int .u8 0), 1, 1) := by kernel_rfl
theorem sizeByteRun (w : World) : (sizeOf 5).run Tryz.prog w = .ok 1 w := by
  obtain ⟨i0, hi, _, hz, _⟩ := info_parts Tryz.infoByte0
  simp [sizeOf, typeInfo, hi, hz]
theorem eql_ids (w : World) (xs ys : List UInt8) (hx : xs.length = 32) (hy : ys.length = 32) :
    (binOp .eql 24 (.agg (bytesV xs).toArray) (.agg (bytesV ys).toArray)).run Tryz.prog w = .ok (.bool (decide (xs = ys))) w := by
  refine (run_eql_bytes w 24 5 32 under32 (by kernel_rfl) sizeByteRun xs ys hx hy).trans ?_
  congr 2
  rw [Bool.eq_iff_iff]
  simp
end Go.Proofs.YtblgphfdicffcaaGreatDoor

/- Entries as values; what frame's check says of one, and its size. It proves no statement. -/









namespace Go.Proofs.YtblgphfdicffcaaGreatDoor
open Go.RowKit
set_option linter.unusedVariables false
set_option linter.unusedSimpArgs false

/-- An entry's cells: its tag, its key's 32 bytes, its data. -/
def entL (t : Int) (K : List UInt8) (v : Value) : List Value := .int .i64 t :: (bytesV K ++ [v])
def entV (t : Int) (K : List UInt8) (v : Value) : Array Value := (entL t K v).toArray
theorem sizeEnt : (Tryz.prog.info? 48).map (·.size) = some 34 := by kernel_rfl
theorem underEnt : ∃ fs, Tryz.prog.underlying 48 = some (.struct fs) := ⟨_, Tryz.underlying48⟩
theorem entV_size (t : Int) (K : List UInt8) (v : Value) (h : K.length = 32) : (entV t K v).size = 34 := by simp [entV, entL, bytesV_length, h]
theorem entV_0 (t : Int) (K : List UInt8) (v : Value) : (entV t K v)[0]? = some (.int .i64 t) := by simp [entV, entL]
theorem entV_33 (t : Int) (K : List UInt8) (v : Value) (h : K.length = 32) : (entV t K v)[33]? = some v := by
  unfold entV entL
  rw [List.getElem?_toArray, List.getElem?_cons_succ, List.getElem?_append_right (by rw [bytesV_length]; omega), bytesV_length, h]
  rfl
theorem entV_key (t : Int) (K : List UInt8) (v u : Value) (j : Nat) (h : (bytesV K)[j]? = some u) : (entV t K v)[1 + j]? = some u := by
  unfold entV entL
  have hj := (List.getElem?_eq_some_iff.1 h).1
  rw [List.getElem?_toArray, Nat.add_comm, List.getElem?_cons_succ, List.getElem?_append_left hj, h]
theorem entV_one (t : Int) (K : List UInt8) (v : Value) (h : v.oneCell' = true) : (entV t K v).all (·.oneCell') = true := by
  unfold entV
  refine all_oneCell_toArray fun u hu => ?_
  unfold entL at hu
  rcases List.mem_cons.1 hu with rfl | hu
  · rfl
  · rcases List.mem_append.1 hu with hu | hu
    · unfold bytesV at hu
      obtain ⟨b, _, rfl⟩ := List.mem_map.1 hu
      rfl
    · rw [List.mem_singleton.1 hu]; exact h
/-- A box that holds an entry. -/
def EntB (w : World) (g : Nat) (t : Int) (K : List UInt8) (v : Value) : Prop := Blk w g 48 (entV t K v)
theorem EntB.tag {w : World} {g : Nat} {t : Int} {K : List UInt8} {v : Value} (h : EntB w g t K v) : w.cell? ⟨g, 0, none⟩ = some (.int .i64 t) := (Blk.cell h 0).trans (entV_0 t K v)
theorem EntB.data {w : World} {g : Nat} {t : Int} {K : List UInt8} {v : Value} (h : EntB w g t K v) (hK : K.length = 32) : w.cell? ⟨g, 33, none⟩ = some v := (Blk.cell h 33).trans (entV_33 t K v hK)
theorem EntB.key {w : World} {g : Nat} {t : Int} {K : List UInt8} {v : Value} (h : EntB w g t K v) : w.rangeAt g 1 (bytesV K) := fun j u hj => (Blk.cell h (1 + j)).trans (entV_key t K v u j hj)
theorem EntB.new (w : World) (t : Int) (K : List UInt8) (v : Value) : EntB (w.alloc (.cells (entV t K v) 48)) w.heap.size t K v := Blk.new _ _ _
theorem EntB.still {w w' : World} {g : Nat} {t : Int} {K : List UInt8} {v : Value} (h : EntB w g t K v) (s : Still w w') : EntB w' g t K v := Blk.still h s
/-- A load of a range, where the operation's guard holds. -/
theorem load_midG {P : Program} {ops : Array Oper} {rest : List Oper} {op : Oper} {a : Act} {w : World} {Q : Exit → Act → World → Prop} (hw : Region.wanted op (yielded ops a.tmps) = true) (ty : TypeId) (x : Operand) (ho : op.op = .load ty x)
    (b o : Nat) (hx : a.eval x = .pointer (some ⟨b, o, none⟩)) (cs : List Value) (d : TypeDesc) (hc : w.rangeAt b o cs)
    (hu : P.underlying ty = some d) (hd : d.isRow = true) (hi : (P.info? ty).map (·.size) = some cs.length)
    (h : wpList P ops Q rest (a.put op.dst (.agg cs.toArray)) w) : wpList P ops Q (op :: rest) a w := by
  unfold wpList
  rw [if_pos hw]
  exact .inl (wp_load_mid ty x ho b o hx cs d hc hu hd hi h)
/-- A load of a whole row, where the operation's guard holds. -/
theorem load_rowG {P : Program} {ops : Array Oper} {rest : List Oper} {o : Oper} {a : Act} {w : World} {Q : Exit → Act → World → Prop} (hw : Region.wanted o (yielded ops a.tmps) = true) (ty : TypeId) (x : Operand) (ho : o.op = .load ty x)
    (g : Nat) (hx : a.eval x = .pointer (some ⟨g, 0, none⟩)) (t : TypeId) (cs : Array Value) (fr : Nat × Nat) (d : TypeDesc) (hg : w.heap[g]? = some (.cells cs t fr))
    (hu : P.underlying ty = some d) (hd : (match d with | .struct _ | .array _ _ => true | _ => false) = true) (hi : (P.info? ty).map (·.size) = some cs.size)
    (h : wpList P ops Q rest (a.put o.dst (.agg cs)) w) : wpList P ops Q (o :: rest) a w := by
  unfold wpList
  rw [if_pos hw]
  exact .inl (wp_load_row ty x ho g hx t cs fr d hg hu hd hi h)
/-- The error of an entry. -/
def ckE (t : Int) (K : List UInt8) (n : Nat) : Int :=
  if t = 0 then (if 16384 < n then 5 else 0) else if t = 1 then (if n = 0 then 0 else 4) else if t = 2 then (if n = 0 ∧ K = List.replicate 32 0 then 0 else 4) else 4
theorem zeroID : (bytesV (List.replicate 32 0)).toArray = #[.int .u8 0, .int .u8 0, .int .u8 0, .int .u8 0, .int .u8 0, .int .u8 0, .int .u8 0, .int .u8 0, .int .u8 0, .int .u8 0, .int .u8 0, .int .u8 0, .int .u8 0, .int .u8 0, .int .u8 0, .int .u8 0, .int .u8 0, .int .u8 0, .int .u8 0, .int .u8 0, .int .u8 0, .int .u8 0, .int .u8 0, .int .u8 0, .int .u8 0, .int .u8 0, .int .u8 0, .int .u8 0, .int .u8 0, .int .u8 0, .int .u8 0, .int .u8 0] := by rfl

set_option maxRecDepth 100000 in
set_option maxHeartbeats 1600000 in
theorem check_any (t : Int) (K : List UInt8) (A : Option Addr) (n c : Nat) (w : World) (hK : K.length = 32) (hn : n ≤ 1048576) :
    Calls Tryz.prog 155 #[.agg (entV t K (.slice A n c))] w fun e w' => e = .returned (.int .i64 (ckE t K n)) ∧ Still w w' := by
  obtain ⟨g, hg⟩ : ∃ g, g = w.heap.size := ⟨_, rfl⟩
  obtain ⟨wA, hwA⟩ : ∃ wA, wA = w.alloc (.cells (entV t K (.slice A n c)) 48) := ⟨_, rfl⟩
  have SA := Lib.hid (show Still w wA by rw [hwA]; exact (Still.refl w).alloc (Nat.le_refl _) _)
  have eb : EntB wA g t K (.slice A n c) := by rw [hwA, hg]; exact EntB.new _ _ _ _
  have k0 : wA.cell? ⟨g, 0, none⟩ = some (.int .i64 t) := eb.tag
  have k33 : wA.cell? ⟨g, 33, none⟩ = some (.slice A n c) := eb.data hK
  have RNG := Lib.hid eb.key
  have HK := Lib.hid hK
  have HWA := Lib.hid hwA
  have HG := Lib.hid hg
  have d1 : (n : Int) ≤ 1048576 := by omega
  obtain ⟨ent, hent⟩ : ∃ ent, ent = entV t K (.slice A n c) := ⟨_, rfl⟩
  rw [← hent] at HWA ⊢
  have EQ : Hid (∀ w : World, (binOp .eql 24 (.agg (bytesV K).toArray) (.agg (bytesV (List.replicate 32 0)).toArray)).run Tryz.prog w = .ok (.bool (decide (K = List.replicate 32 0))) w) := Lib.hid fun w => eql_ids w K _ hK (by simp)
  clear hwA hg eb hK hn hent
  go_enter Tryz.func155, Tryz.ntmps155
  go_upto_region 1 with (guard_target =~ wpList _ _ _ (Oper.mk _ (Op.box _ _) _ _ _ _ :: _) _ _; go_must (refine wpList_box_val rfl 48 (.tmp 0) rfl (some 1) rfl ent rfl ?_))
  rw [← HWA.out, ← HG.out]
  clear HWA HG
  by_cases h0 : t = 0
  · subst h0
    by_cases hb : 16384 < n
    · have d2 : (16384 : Int) < (n : Int) := by omega
      have e : ckE 0 K n = 5 := by unfold ckE; rw [if_pos rfl, if_pos hb]
      have HE := Lib.hid e
      go_wp2_with fail
      go_ret
      exact ⟨by first | rfl | (rw [HE.out]; try rfl), SA.out⟩
    · have d2 : ¬ (16384 : Int) < (n : Int) := by omega
      have e : ckE 0 K n = 0 := by unfold ckE; rw [if_pos rfl, if_neg hb]
      have HE := Lib.hid e
      go_wp2_with fail
      go_ret
      exact ⟨by first | rfl | (rw [HE.out]; try rfl), SA.out⟩
  have b0 : (t == 0) = false := by simpa using h0
  by_cases h1 : t = 1
  · subst h1
    by_cases hz : n = 0
    · subst hz
      have e : ckE 1 K 0 = 0 := by unfold ckE; rw [if_neg (by decide), if_pos rfl, if_pos rfl]
      have HE := Lib.hid e
      go_wp2_with fail
      go_ret
      exact ⟨by first | rfl | (rw [HE.out]; try rfl), SA.out⟩
    · have d2 : ((n : Int) == 0) = false := by simp; omega
      have e : ckE 1 K n = 4 := by unfold ckE; rw [if_neg (by decide), if_pos rfl, if_neg hz]
      have HE := Lib.hid e
      go_wp2_with fail
      go_ret
      exact ⟨by first | rfl | (rw [HE.out]; try rfl), SA.out⟩
  have b1 : (t == 1) = false := by simpa using h1
  by_cases h2 : t = 2
  · subst h2
    by_cases hz : n = 0
    · subst hz
      have e : ckE 2 K 0 = if K = List.replicate 32 0 then 0 else 4 := by unfold ckE; rw [if_neg (by decide), if_neg (by decide), if_pos rfl]; simp
      have HE := Lib.hid e
      obtain ⟨kv, hkv⟩ : ∃ kv, kv = (bytesV K).toArray := ⟨_, rfl⟩
      have HKV := Lib.hid hkv
      have hq : Hid (∀ w : World, (binOp .eql 24 (.agg kv) (.agg (bytesV (List.replicate 32 0)).toArray)).run Tryz.prog w = .ok (.bool (decide (K = List.replicate 32 0))) w) := by rw [hkv]; exact EQ
      rw [zeroID] at hq
      have hq2 := hq.out
      clear hkv hq EQ
      by_cases hk : K = List.replicate 32 0
      · have HKK := Lib.hid hk
        rw [decide_eq_true hk] at hq2
        clear hk
        go_wp2_with (guard_target =~ wpList _ _ _ (Oper.mk (some 25) _ _ _ _ _ :: _) _ _; go_must (refine load_midG (by kernel_rfl) 24 (.tmp 24) rfl g 1 rfl (bytesV K) _ RNG.out under32 rfl (by rw [size32, bytesV_length, HK.out]) ?_; rw [← HKV.out]))
        go_ret
        exact ⟨by first | rfl | (rw [HE.out, if_pos HKK.out]; try rfl), SA.out⟩
      · have HKK := Lib.hid hk
        rw [decide_eq_false hk] at hq2
        clear hk
        go_wp2_with (guard_target =~ wpList _ _ _ (Oper.mk (some 25) _ _ _ _ _ :: _) _ _; go_must (refine load_midG (by kernel_rfl) 24 (.tmp 24) rfl g 1 rfl (bytesV K) _ RNG.out under32 rfl (by rw [size32, bytesV_length, HK.out]) ?_; rw [← HKV.out]))
        go_ret
        exact ⟨by first | rfl | (rw [HE.out, if_neg HKK.out]; try rfl), SA.out⟩
    · have d2 : ((n : Int) == 0) = false := by simp; omega
      have e : ckE 2 K n = 4 := by unfold ckE; rw [if_neg (by decide), if_neg (by decide), if_pos rfl, if_neg (fun h => hz h.1)]
      have HE := Lib.hid e
      go_wp2_with fail
      go_ret
      exact ⟨by first | rfl | (rw [HE.out]; try rfl), SA.out⟩
  have b2 : (t == 2) = false := by simpa using h2
  have e : ckE t K n = 4 := by unfold ckE; rw [if_neg h0, if_neg h1, if_neg h2]
  have HE := Lib.hid e
  clear h0 h1 h2
  go_wp2_with fail
  go_ret
  exact ⟨by first | rfl | (rw [HE.out]; try rfl), SA.out⟩
/-- How many bytes an entry has. -/
def szE (t : Int) (K : List UInt8) (n : Nat) : Nat := if ckE t K n ≠ 0 then 0 else if t = 2 then 9 else 41 + n

set_option maxRecDepth 100000 in
set_option maxHeartbeats 1600000 in
theorem size_any (t : Int) (K : List UInt8) (A : Option Addr) (n c : Nat) (w : World) (hK : K.length = 32) (hn : n ≤ 1048576) :
    Calls Tryz.prog 157 #[.agg (entV t K (.slice A n c))] w fun e w' => e = .returned (.int .i64 (szE t K n : Nat)) ∧ Still w w' := by
  obtain ⟨g, hg⟩ : ∃ g, g = w.heap.size := ⟨_, rfl⟩
  obtain ⟨wA, hwA⟩ : ∃ wA, wA = w.alloc (.cells (entV t K (.slice A n c)) 48) := ⟨_, rfl⟩
  have SA := Lib.hid (show Still w wA by rw [hwA]; exact (Still.refl w).alloc (Nat.le_refl _) _)
  have EB := Lib.hid (show EntB wA g t K (.slice A n c) by rw [hwA, hg]; exact EntB.new _ _ _ _)
  have HK := Lib.hid hK
  have HWA := Lib.hid hwA
  have HG := Lib.hid hg
  have d1 : (n : Int) ≤ 1048576 := by omega
  have CK := Lib.hid (check_any t K A n c wA hK hn)
  obtain ⟨ent, hent⟩ : ∃ ent, ent = entV t K (.slice A n c) := ⟨_, rfl⟩
  have ESZ := Lib.hid (show ent.size = 34 by rw [hent]; exact entV_size _ _ _ hK)
  have EBB := Lib.hid (show Blk wA g 48 ent by rw [hent]; exact EB.out)
  rw [← hent] at HWA CK ⊢
  obtain ⟨fs, hu⟩ := underEnt
  have HU := Lib.hid hu
  obtain ⟨ck, hck⟩ : ∃ ck, ck = ckE t K n := ⟨_, rfl⟩
  have HS := Lib.hid (show szE t K n = if ck ≠ 0 then 0 else if t = 2 then 9 else 41 + n by rw [hck]; rfl)
  rw [← hck] at CK
  clear hwA hg hK hn hent hu hck
  go_enter Tryz.func157, Tryz.ntmps157
  go_upto_region 1 with (guard_target =~ wpList _ _ _ (Oper.mk _ (Op.box _ _) _ _ _ _ :: _) _ _; go_must (refine wpList_box_val rfl 48 (.tmp 0) rfl (some 1) rfl ent rfl ?_))
  rw [← HWA.out, ← HG.out]
  clear HWA HG
  go_wp2_with (guard_target =~ wpList _ _ _ (Oper.mk (some 4) _ _ _ _ _ :: _) _ _; go_must (refine wpList_load_row rfl 48 (.tmp 1) rfl g rfl _ _ _ _ EBB.out HU.out rfl (by rw [sizeEnt, ESZ.out]) ?_))
  refine CK.out.mono ?_
  rintro e w1 ⟨rfl, s1⟩
  have S1 := Lib.hid (SA.out.trans s1)
  have EB1 := Lib.hid (EB.out.still s1)
  have k0 : w1.cell? ⟨g, 0, none⟩ = some (.int .i64 t) := EB1.out.tag
  have k33 : w1.cell? ⟨g, 33, none⟩ = some (.slice A n c) := EB1.out.data HK.out
  clear s1 CK
  by_cases h0 : ck = 0
  · subst h0
    by_cases h2 : t = 2
    · subst h2
      clear k33
      go_wp2_with fail
      go_ret
      exact ⟨by first | rfl | (simp [HS.out]; try rfl), S1.out⟩
    · have b2 : (t == 2) = false := by simpa using h2
      have H2 := Lib.hid h2
      clear h2
      have w1 : IntKind.i64.wrap (41 + (n : Int)) = 41 + (n : Int) := by rw [IntKind.wrap_i64]; omega
      go_wp2_with fail
      go_ret
      exact ⟨by first | rfl | (rw [HS.out, if_neg (by decide), if_neg H2.out, Int.natCast_add]; try rfl), S1.out⟩
  · have b0 : (ck == 0) = false := by simpa using h0
    have b1 : (ck != 0) = true := by simpa using h0
    have H0 := Lib.hid h0
    clear h0
    go_wp2_with fail
    go_ret
    exact ⟨by first | rfl | (rw [HS.out, if_pos H0.out]; try rfl), S1.out⟩
end Go.Proofs.YtblgphfdicffcaaGreatDoor

/- Contracts: which numbers of bytes make a number. It proves no statement. -/



namespace Go.Proofs.YtblgphfdicffcaaGreatDoor
open Go.RowKit
set_option linter.unusedVariables false
set_option linter.unusedSimpArgs false

theorem fits_yes (n : Int) (w : World) (h1 : 1 ≤ n) (h2 : n ≤ 8) :
    Calls Tryz.prog 212 #[.int .i64 n] w fun e w' => e = .returned (.bool true) ∧ w = w' := by
  go_enter Tryz.func212, Tryz.ntmps212
  go_wp2
  go_ret
  exact ⟨rfl, rfl⟩
theorem fits_no (n : Int) (w : World) (h : n < 1 ∨ 8 < n) :
    Calls Tryz.prog 212 #[.int .i64 n] w fun e w' => e = .returned (.bool false) ∧ w = w' := by
  rcases h with h | h
  · go_enter Tryz.func212, Tryz.ntmps212
    go_wp2
    go_ret
    exact ⟨rfl, rfl⟩
  · have h1 : 1 ≤ n := by omega
    have h2 : decide (n ≤ 8) = false := by simp; omega
    go_enter Tryz.func212, Tryz.ntmps212
    go_wp2
    go_ret
    exact ⟨rfl, rfl⟩
end Go.Proofs.YtblgphfdicffcaaGreatDoor

/- Contracts: a number as bytes. It proves no statement. -/



namespace Go.Proofs.YtblgphfdicffcaaGreatDoor
open Go.RowKit
set_option linter.unusedVariables false

def leBytes (x n : Nat) : List UInt8 := (List.range n).map (fun i => UInt8.ofNat (x / 2 ^ (8 * i)))
theorem leBytes_length (x n : Nat) : (leBytes x n).length = n := by simp [leBytes]
theorem leBytes_succ (x n : Nat) : leBytes x (n + 1) = leBytes x n ++ [UInt8.ofNat (x / 2 ^ (8 * n))] := by simp [leBytes, List.range_succ]

theorem byte_cast (y : Nat) : ((UInt8.ofNat y).toNat : Int) = (y : Int) % 256 := by simp
theorem le_cast (x k : Nat) : ((UInt8.ofNat (x / 2 ^ (8 * k))).toNat : Int) = (x : Int) / 2 ^ (8 * k) % 256 := by
  rw [byte_cast]; simp

theorem put_step {w : World} {B g x n k : Nat} (hk : k < n) (h : w.ownsRow B 5 1 (.slice (some ⟨g, 0, none⟩) n n) n (bytesV (leBytes x k ++ List.replicate (n - k) 0))) :
    (w.setCell ⟨g, k, none⟩ (.int .u8 ((UInt8.ofNat (x / 2 ^ (8 * k))).toNat : Int))).ownsRow B 5 1 (.slice (some ⟨g, 0, none⟩) n n) n (bytesV (leBytes x (k + 1) ++ List.replicate (n - (k + 1)) 0)) := by
  have hs := (h.stored k (.int .u8 ((UInt8.ofNat (x / 2 ^ (8 * k))).toNat : Int))).1
  rw [bytesV_set] at hs
  have e : (leBytes x k ++ List.replicate (n - k) 0).set k (UInt8.ofNat (x / 2 ^ (8 * k))) = leBytes x (k + 1) ++ List.replicate (n - (k + 1)) 0 := by
    rw [leBytes_succ, List.set_append_right _ _ (by simp [leBytes_length])]
    obtain ⟨m, rfl⟩ : ∃ m, n = k + 1 + m := ⟨n - (k + 1), by omega⟩
    simp [leBytes_length, show k + 1 + m - k = m + 1 by omega, List.replicate_succ]
  rw [e] at hs
  exact hs

set_option maxRecDepth 100000 in
set_option maxHeartbeats 400000 in
theorem put_yes (x n : Nat) (w : World) (hx : x < 18446744073709551616) (h1 : 1 ≤ n) (h2 : n ≤ 8) :
    Calls Tryz.prog 156 #[.int .u64 x, .int .i64 n] w fun e w' =>
      e = .returned (.slice (some ⟨w.heap.size, 0, none⟩) n n) ∧ w'.ownsRow w.heap.size 5 1 (.slice (some ⟨w.heap.size, 0, none⟩) n n) n (bytesV (leBytes x n)) ∧ Still w w' := by
  obtain ⟨i0, hi, hz0, hz1, hz2⟩ := info_parts Tryz.infoByte
  obtain ⟨B, hB⟩ : ∃ B, B = w.heap.size := ⟨_, rfl⟩
  have HX := Lib.hid hx
  clear hx
  go_enter Tryz.func156, Tryz.ntmps156
  go_wp2_with (first | (go_at_call 212; refine (fits_yes _ _ (by omega) (by omega)).mono ?_; rintro e w' ⟨rfl, rfl⟩) | (at_make; go_must (refine wpList_make_full _ rfl _ _ 34 rfl w.heap.size 5 i0 (.int .u8 0) 1 Tryz.underlying34 hi hz0 hz1 _ _ _ _ n rfl rfl rfl rfl ?c1 ?c2 ?c3 ?_)))
  case c1 => rw [hz2]; omega
  case c2 => unfold maxLen; omega
  case c3 => exact Nat.le_refl _
  intro w1 hown hgrow
  have hst : Still w w1 := (Below.refl _ _).grown hgrow (Nat.le_refl _) (by intro k hk; cases hk)
  clear hgrow
  go_wp2_with fail
  go_loopw [6, 14] (fun _ i wr => ∃ k : Nat, k ≤ n ∧ i = .int .i64 k ∧ wr.ownsRow w.heap.size 5 1 (.slice (some ⟨w.heap.size, 0, none⟩) n n) n (bytesV (leBytes x k ++ List.replicate (n - k) 0)) ∧ Still w wr)
    (fun _ i _ => n - (intOf i).toNat)
  case atStart => exact ⟨0, Nat.zero_le _, rfl, by
    rw [toList_madeCells_one, bytesV_rep] at hown
    simpa [leBytes] using hown, hst⟩
  case round =>
    obtain ⟨k, hk, rfl, hownr, hstr⟩ := hrel
    have hc : k < n → wr.cell? ⟨w.heap.size, k, none⟩ = some (.int .u8 (((leBytes x k ++ List.replicate (n - k) 0).getD k 0).toNat : Int)) := fun h => by
      rw [hownr.cellAt k (by omega), bytesV_get _ _ (by simp [leBytes_length]; omega)]
    have hf : wr.frozen? ⟨w.heap.size, k, none⟩ = false := hownr.frozenAt k
    go_wp2_with fail
    · have hlt : k < n := by assumption
      go_roundw
      case rel => exact ⟨k + 1, by omega, by go_num, by
        have h := put_step hlt hownr
        rw [le_cast] at h
        exact h, hstr.setCell (Nat.le_refl _) _⟩
      case measure => simp [intOf]; omega
    · obtain rfl : k = n := by omega
      go_ret
      exact ⟨rfl, by simpa using hownr, hstr⟩
theorem put_no (x : Nat) (n : Int) (w : World) (h : n < 1 ∨ 8 < n) :
    Calls Tryz.prog 156 #[.int .u64 x, .int .i64 n] w fun e w' => e = .returned (.slice none 0 0) ∧ w = w' := by
  go_enter Tryz.func156, Tryz.ntmps156
  go_wp2_with (go_at_call 212; refine (fits_no _ _ h).mono ?_; rintro e w' ⟨rfl, rfl⟩)
  go_ret
  exact ⟨rfl, rfl⟩
end Go.Proofs.YtblgphfdicffcaaGreatDoor

/- frame.Encode of an entry: its bytes, or why none. It proves no statement. -/




namespace Go.Proofs.YtblgphfdicffcaaGreatDoor
open Go.RowKit
set_option linter.unusedVariables false
set_option linter.unusedSimpArgs false

theorem own_rebase0 {w : World} {B B' : Nat} {e : TypeId} {z n : Nat} {v : Value} {xs : List Value} (h : w.ownsRow B e z v n xs) (hb : B' ≤ B) : w.ownsRow B' e z v n xs := by
  refine ⟨h.1, ?_⟩
  rcases h.2 with q | ⟨g, cap, cur, hv, hlo, r⟩
  · exact .inl q
  · exact .inr ⟨g, cap, cur, hv, by omega, r⟩
/-- The key's bytes that an entry has. -/
def keyE (t : Int) (K : List UInt8) : List UInt8 := if t = 2 then [] else K
/-- What stands behind the sum. -/
def bodE (t : Int) (K D : List UInt8) : List UInt8 := leBytes (szE t K D.length) 4 ++ ([UInt8.ofNat t.toNat] ++ (keyE t K ++ D))
/-- An entry's bytes. -/
def bytE (t : Int) (K D : List UInt8) : List UInt8 := leBytes (crcSum (bodE t K D)) 4 ++ bodE t K D
/-- Encoding: the error, and the bytes. -/
def encE (t : Int) (K D : List UInt8) : Int × List UInt8 := if ckE t K D.length ≠ 0 then (ckE t K D.length, []) else (0, bytE t K D)
theorem ckE_zero {t : Int} {K : List UInt8} {n : Nat} (h : ckE t K n = 0) : (t = 0 ∧ n ≤ 16384) ∨ (t = 1 ∧ n = 0) ∨ (t = 2 ∧ n = 0 ∧ K = List.replicate 32 0) := by
  unfold ckE at h
  by_cases h0 : t = 0
  · rw [if_pos h0] at h
    by_cases q : 16384 < n
    · rw [if_pos q] at h; exact absurd h (by decide)
    · exact .inl ⟨h0, by omega⟩
  rw [if_neg h0] at h
  by_cases h1 : t = 1
  · rw [if_pos h1] at h
    by_cases q : n = 0
    · exact .inr (.inl ⟨h1, q⟩)
    · rw [if_neg q] at h; exact absurd h (by decide)
  rw [if_neg h1] at h
  by_cases h2 : t = 2
  · rw [if_pos h2] at h
    by_cases q : n = 0 ∧ K = List.replicate 32 0
    · exact .inr (.inr ⟨h2, q.1, q.2⟩)
    · rw [if_neg q] at h; exact absurd h (by decide)
  rw [if_neg h2] at h
  exact absurd h (by decide)
theorem szE_len {t : Int} {K D : List UInt8} (hK : K.length = 32) (h : ckE t K D.length = 0) : (bytE t K D).length = szE t K D.length ∧ (bodE t K D).length + 4 = szE t K D.length ∧ szE t K D.length ≤ 16425 ∧ 9 ≤ szE t K D.length := by
  have hs : szE t K D.length = if t = 2 then 9 else 41 + D.length := by unfold szE; rw [if_neg (by rw [h]; decide)]
  have hb : (bodE t K D).length + 4 = szE t K D.length := by
    unfold bodE
    simp only [List.length_append, leBytes_length, List.length_singleton]
    rw [hs]
    unfold keyE
    rcases ckE_zero h with ⟨rfl, q⟩ | ⟨rfl, q⟩ | ⟨rfl, q, _⟩
    · rw [if_neg (by decide), if_neg (by decide)]; omega
    · rw [if_neg (by decide), if_neg (by decide)]; omega
    · rw [if_pos rfl, if_pos rfl]; simp; omega
  refine ⟨by unfold bytE; rw [List.length_append, leBytes_length]; omega, hb, ?_⟩
  rw [hs]
  rcases ckE_zero h with ⟨rfl, q⟩ | ⟨rfl, q⟩ | ⟨rfl, q, _⟩
  · rw [if_neg (by decide)]; omega
  · rw [if_neg (by decide)]; omega
  · rw [if_pos rfl]; omega

set_option maxRecDepth 100000 in
set_option maxHeartbeats 3200000 in
theorem encode_any (t : Int) (K D : List UInt8) (A : Option Addr) (n c : Nat) (w : World) (B : Nat) (hK : K.length = 32) (hr : Reads w B A n D) (hB : B ≤ w.heap.size) (hA : A = none → c = 0) (hn : n ≤ 1048576) (T : Tabs w) :
    Calls Tryz.prog 96 #[.agg (entV t K (.slice A n c))] w fun e w' => (∃ v, e = .returned (.tuple #[v, .int .i64 (encE t K D).1]) ∧ w'.ownsRow w.heap.size 5 1 v (encE t K D).2.length (bytesV (encE t K D).2)) ∧ Still w w' := by
  have hlen := hr.1
  obtain ⟨g, hg⟩ : ∃ g, g = w.heap.size := ⟨_, rfl⟩
  obtain ⟨wA, hwA⟩ : ∃ wA, wA = w.alloc (.cells (entV t K (.slice A n c)) 48) := ⟨_, rfl⟩
  have SA := Lib.hid (show Still w wA by rw [hwA]; exact (Still.refl w).alloc (Nat.le_refl _) _)
  have EB := Lib.hid (show EntB wA g t K (.slice A n c) by rw [hwA, hg]; exact EntB.new _ _ _ _)
  have HK := Lib.hid hK
  have HWA := Lib.hid hwA
  have HG := Lib.hid hg
  have d1 : (n : Int) ≤ 1048576 := by omega
  have CK := Lib.hid (check_any t K A n c wA hK hn)
  have SZ := Lib.hid (fun W => size_any t K A n c W hK hn)
  obtain ⟨ent, hent⟩ : ∃ ent, ent = entV t K (.slice A n c) := ⟨_, rfl⟩
  have ESZ := Lib.hid (show ent.size = 34 by rw [hent]; exact entV_size _ _ _ hK)
  have EBE := Lib.hid (fun (W : World) (h : EntB W g t K (.slice A n c)) => show Blk W g 48 ent by rw [hent]; exact h)
  rw [← hent] at HWA CK ⊢
  simp only [← hent] at SZ
  obtain ⟨fs, hu⟩ := underEnt
  have HU := Lib.hid hu
  obtain ⟨E, hE⟩ : ∃ E, E = encE t K D := ⟨_, rfl⟩
  have HE := Lib.hid (show E = if ckE t K n ≠ 0 then (ckE t K n, []) else (0, bytE t K D) by rw [hE, ← hlen]; rfl)
  rw [← hE]
  have HZ := Lib.hid (show ckE t K n = 0 → (bytE t K D).length = szE t K n ∧ (bodE t K D).length + 4 = szE t K n ∧ szE t K n ≤ 16425 ∧ 9 ≤ szE t K n from fun h => by rw [← hlen] at h ⊢; exact szE_len hK h)
  have HB := Lib.hid (show bodE t K D = leBytes (szE t K n) 4 ++ ([UInt8.ofNat t.toNat] ++ (keyE t K ++ D)) by rw [← hlen]; rfl)
  have HC := Lib.hid (fun (h : ckE t K n = 0) => ckE_zero h)
  obtain ⟨ck, hck⟩ : ∃ ck, ck = ckE t K n := ⟨_, rfl⟩
  rw [← hck] at CK HE HZ HC
  have RD := Lib.hid (fun (W : World) (s : Still w W) => hr.still hB s)
  have RB := Lib.hid hB
  have TT := Lib.hid (fun (W : World) (s : Still w W) => T.still s)
  have HAA := Lib.hid hA
  have HN := Lib.hid hn
  have HLN := Lib.hid hlen
  have CK' := CK
  have SZ' := SZ
  clear hwA hg hK hn hent hu hck hE hr hB T hA hlen CK SZ
  go_enter Tryz.func96, Tryz.ntmps96
  go_upto_region 1 with (guard_target =~ wpList _ _ _ (Oper.mk _ (Op.box _ _) _ _ _ _ :: _) _ _; go_must (refine wpList_box_val rfl 48 (.tmp 0) rfl (some 1) rfl ent rfl ?_))
  rw [← HWA.out, ← HG.out]
  clear HWA
  go_wp2_with (guard_target =~ wpList _ _ _ (Oper.mk (some 8) _ _ _ _ _ :: _) _ _; go_must (refine wpList_load_row rfl 48 (.tmp 1) rfl g rfl _ _ _ _ (EBE.out _ EB.out) HU.out rfl (by rw [sizeEnt, ESZ.out]) ?_))
  refine CK'.out.mono ?_
  rintro e w1 ⟨rfl, s1⟩
  have S1 := Lib.hid (SA.out.trans s1)
  have EB1 := Lib.hid (EB.out.still s1)
  clear s1 CK' EB SA
  by_cases h0 : ck = 0
  · subst h0
    have HE2 := Lib.hid (show E = (0, bytE t K D) by rw [HE.out, if_neg (by decide)])
    obtain ⟨z1, z2, z3, z4⟩ := HZ.out rfl
    have hcz := HC.out rfl
    obtain ⟨sz, hsz⟩ : ∃ sz, sz = szE t K n := ⟨_, rfl⟩
    rw [← hsz] at z1 z2 z3 z4 HB
    simp only [← hsz] at SZ'
    have Z1 := Lib.hid z1
    have Z2 := Lib.hid z2
    have Z3 := Lib.hid z3
    have Z4 := Lib.hid z4
    clear z1 z2 z3 z4 hsz HZ HE HC
    obtain ⟨kt, hkt⟩ : ∃ kt : Nat, kt = if t = 2 then 0 else 32 := ⟨_, rfl⟩
    have k0 : w1.cell? ⟨g, 0, none⟩ = some (.int .i64 t) := EB1.out.tag
    have k33 : w1.cell? ⟨g, 33, none⟩ = some (.slice A n c) := EB1.out.data HK.out
    have HCZ := Lib.hid hcz
    clear hcz hkt kt
    go_upto_if 17 with fail
    go_cut [5] (fun s wx => ∃ (Ak : Option Addr) (ck : Nat), s = .slice Ak (keyE t K).length ck ∧ wx = w1 ∧ Hid (Reads w1 (g + 1) Ak (keyE t K).length (keyE t K) ∧ (Ak = none → ck = 0)))
    case first =>
      by_cases h2 : t = 2
      · have HK2 := Lib.hid (show keyE t K = [] by unfold keyE; rw [if_pos h2])
        have b2 : (t == 2) = true := by simpa using h2
        clear h2
        go_wp2_with fail
        go_meet
        exact ⟨none, 0, by rw [HK2.out]; rfl, rfl, Lib.hid (by rw [HK2.out]; exact ⟨Reads.nil0, fun _ => rfl⟩)⟩
      · have HK2 := Lib.hid (show keyE t K = K by unfold keyE; rw [if_neg h2])
        have b2 : (t == 2) = false := by simpa using h2
        clear h2
        go_wp2_with fail
        go_meet
        refine ⟨some ⟨g, 1, none⟩, 32, by rw [HK2.out, HK.out], rfl, Lib.hid (by
          rw [HK2.out, HK.out]
          refine ⟨⟨HK.out, fun _ => ⟨g, 1, rfl, by omega, fun i hi => ?_⟩⟩, fun e => by cases e⟩
          exact EB1.out.key i _ (bytesV_get _ _ (by rw [HK.out]; exact hi)))⟩
    case rest =>
      obtain ⟨Ak, ckk, hs5, hww, hkk⟩ := hcut
      subst hs5
      rw [hww]
      clear hww
      have KR := Lib.hid hkk.out
      clear hkk
      have SZ := Lib.hid (SZ'.out w1)
      clear SZ'
      go_wp2_with (guard_target =~ wpList _ _ _ (Oper.mk (some 18) _ _ _ _ _ :: _) _ _; go_must (refine wpList_load_row rfl 48 (.tmp 1) rfl g rfl _ _ _ _ (EBE.out _ EB1.out) HU.out rfl (by rw [sizeEnt, ESZ.out]) ?_))
      refine SZ.out.mono ?_
      rintro e w2 ⟨rfl, s2⟩
      have d2 : (sz : Int) ≤ 16425 := by have := Z3.out; omega
      have d3 : (0 : Int) ≤ (sz : Int) := by omega
      have PT := Lib.hid (put_yes sz 4 w2 (by have := Z3.out; omega) (by omega) (by omega))
      have S2 := Lib.hid (S1.out.trans s2)
      have S12 := Lib.hid s2
      clear s2 SZ
      go_wp2_with fail
      refine PT.out.mono ?_
      rintro e w3 ⟨rfl, own3, s3⟩
      have S3 := Lib.hid (Still.trans (show Still w w2 from S2.out) s3)
      have S13 := Lib.hid (Still.trans S12.out s3)
      have O3 := Lib.hid own3
      clear own3 s3 PT
      have k0 : w3.cell? ⟨g, 0, none⟩ = some (.int .i64 t) := (EB1.out.still S13.out).tag
      have k33 : w3.cell? ⟨g, 33, none⟩ = some (.slice A n c) := (EB1.out.still S13.out).data HK.out
      obtain ⟨tb, htb⟩ : ∃ tb : Nat, (tb : Int) = t ∧ tb ≤ 2 := by
        rcases HCZ.out with ⟨h, _⟩ | ⟨h, _⟩ | ⟨h, _⟩
        · exact ⟨0, by omega, by omega⟩
        · exact ⟨1, by omega, by omega⟩
        · exact ⟨2, by omega, by omega⟩
      have d4 : t ≤ 2 := by omega
      have d5 : 0 ≤ t := by omega
      have d6 : IntKind.u8.wrap t = t := by unfold IntKind.wrap; simp [IntKind.bits, IntKind.signed]; omega
      have HTB := Lib.hid htb
      clear htb
      obtain ⟨w4, hw4⟩ : ∃ w4, w4 = w3.alloc (.cells #[.int .u8 t] 5) := ⟨_, rfl⟩
      obtain ⟨w5, hw5⟩ : ∃ w5, w5 = w4.alloc (.cells #[.slice (some ⟨w2.heap.size, 0, none⟩) 4 4, .slice (some ⟨w3.heap.size, 0, none⟩) 1 1, .slice Ak (keyE t K).length ckk, .slice A n c] 34) := ⟨_, rfl⟩
      have S34 := Lib.hid (show Still w3 w4 by rw [hw4]; exact (Still.refl _).alloc (Nat.le_refl _) _)
      have S45 := Lib.hid (show Still w4 w5 by rw [hw5]; exact (Still.refl _).alloc (Nat.le_refl _) _)
      have k33w : w4.cell? ⟨g, 33, none⟩ = some (.slice A n c) := (((EB1.out.still S13.out).still S34.out)).data HK.out
      rw [hw4] at k33w
      have HW4 := Lib.hid hw4
      have HW5 := Lib.hid hw5
      have BP := Lib.hid (show Blk w5 w4.heap.size 34 #[.slice (some ⟨w2.heap.size, 0, none⟩) 4 4, .slice (some ⟨w3.heap.size, 0, none⟩) 1 1, .slice Ak (keyE t K).length ckk, .slice A n c] by rw [hw5]; exact Blk.new _ _ _)
      have BT := Lib.hid (show Blk w4 w3.heap.size 5 #[.int .u8 t] by rw [hw4]; exact Blk.new _ _ _)
      obtain ⟨ls, hls⟩ : ∃ ls, ls = [leBytes sz 4, [UInt8.ofNat t.toNat], keyE t K, D] := ⟨_, rfl⟩
      have PIN : PartsIn w5 w5.heap.size w4.heap.size ls := by
        refine ⟨BP.out.lt, fun q hq => ?_⟩
        rw [hls] at hq ⊢
        have s35 := Still.trans S34.out S45.out
        have g1 := (EB1.out.still S13.out)
        have hgl : g < w3.heap.size := Blk.lt g1
        match q, hq with
        | 0, _ => exact ⟨_, _, _, BP.out.cell 0, ((Reads.of_own O3.out).still (Nat.le_refl _) s35).more s35.size, fun e => by cases e⟩
        | 1, _ =>
          refine ⟨_, _, _, BP.out.cell 1, ⟨rfl, fun _ => ⟨w3.heap.size, 0, rfl, Nat.lt_of_lt_of_le BT.out.lt S45.out.size, fun r hr => ?_⟩⟩, fun e => by cases e⟩
          obtain rfl : r = 0 := by omega
          have h := ((BT.out.still S45.out).cell 0)
          rw [Nat.zero_add, h]
          have ht := HTB.out
          simp
          omega
        | 2, _ => exact ⟨_, _, _, BP.out.cell 2, ((KR.out.1.still (by have := Blk.lt EB1.out; omega) (Still.trans S13.out s35))).more (by have := s35.size; omega), KR.out.2⟩
        | 3, _ => exact ⟨_, _, _, BP.out.cell 3, (RD.out w5 (Still.trans (show Still w w3 from S3.out) s35)).more (Nat.le_trans RB.out (Still.trans (show Still w w3 from S3.out) s35).size), HAA.out⟩
        | r + 4, h => exact absurd h (by simp)
      have hfl : ls.flatten = bodE t K D := by rw [hls, HB.out]; simp
      have hll : ls.length = 4 := by rw [hls]; rfl
      have CAT0 := concat_any w4.heap.size 4 ls w5 w5.heap.size PIN (Nat.le_refl _) (by omega) (by rw [hfl]; have := Z2.out; have := Z4.out; omega) (by rw [hfl]; have := Z2.out; have := Z3.out; omega)
      rw [hll, hfl, show w4.heap.size = w3.heap.size + 1 by rw [hw4]; simp] at CAT0
      have CAT := Lib.hid CAT0
      clear CAT0 PIN hfl hll hls hw4 hw5 BP BT
      go_wp2_with fail
      rw [← HW4.out, ← HW5.out]
      refine CAT.out.mono ?_
      rintro e w6 ⟨⟨v6, rfl, own6⟩, s6⟩
      obtain ⟨A6, c6, rfl, f1, f2, f3⟩ := own_form own6
      have S6 := Lib.hid (Still.trans (Still.trans (show Still w w3 from S3.out) (Still.trans S34.out S45.out)) s6)
      have R6 := Lib.hid (Reads.of_own own6)
      have F3 := Lib.hid f3
      obtain ⟨L, hL⟩ : ∃ L, L = (bodE t K D).length := ⟨_, rfl⟩
      rw [← hL] at R6 F3 Z2 ⊢
      have ZL := Lib.hid (show L + 4 = sz from Z2.out)
      have CR := Lib.hid (crcsum_any A6 L c6 (bodE t K D) w6 _ (TT.out w6 S6.out) R6.out (Nat.le_refl _) (by have := ZL.out; have := Z3.out; omega))
      have HL := Lib.hid hL
      clear own6 s6 f1 f2 f3 CAT HW4 HW5 hL k33w
      go_wp2_with fail
      refine CR.out.mono ?_
      rintro e w7 ⟨rfl, s7⟩
      have S7 := Lib.hid (Still.trans S6.out s7)
      have R7 := Lib.hid ((R6.out.still (Nat.le_refl _) s7).more s7.size)
      obtain ⟨cs, hcs⟩ : ∃ cs, cs = crcSum (bodE t K D) := ⟨_, rfl⟩
      have hcl : cs < 4294967296 := by rw [hcs]; exact crcAdd_lt 0 _ (by decide)
      have BY := Lib.hid (show bytE t K D = leBytes cs 4 ++ bodE t K D by rw [hcs]; rfl)
      rw [← hcs]
      have PT := Lib.hid (put_yes cs 4 w7 (by omega) (by omega) (by omega))
      have c1 : (0 : Int) ≤ (cs : Int) := by omega
      have c2 : (cs : Int) < 4294967296 := by omega
      clear s7 CR hcs hcl R6
      go_wp2_with fail
      refine PT.out.mono ?_
      rintro e w8 ⟨rfl, own8, s8⟩
      have S8 := Lib.hid (Still.trans S7.out s8)
      have R8 := Lib.hid ((R7.out.still (Nat.le_refl _) s8).more s8.size)
      have O8 := Lib.hid own8
      have Z8 := Lib.hid (show w7.heap.size ≤ w8.heap.size ∧ w.heap.size ≤ w7.heap.size from ⟨s8.size, S7.out.size⟩)
      clear own8 s8 PT R7
      go_wp2_with (at_builtin; go_must (refine wpList_adds_at w8 rfl (.tmp 35) (.tmp 36) rfl w7.heap.size (.slice (some ⟨w7.heap.size, 0, none⟩) 4 4) 4 (leBytes cs 4) rfl O8.out A6 L c6 _ (bodE t K D) rfl R8.out (fun e => (F3.out e).2) (by have := ZL.out; have := Z3.out; omega) Z8.out.1 ?_))
      intro v9 w9 own9 gr9 loc9
      have S9 := Lib.hid (show Still w w9 from S8.out.grown gr9 S8.out.size (fun k hk => by have h := Option.some.inj hk; have := Z8.out; simp only at h; omega))
      have O9 := Lib.hid (show w9.ownsRow w.heap.size 5 1 v9 (bytE t K D).length (bytesV (bytE t K D)) by
        rw [BY.out, List.length_append, leBytes_length, ← HL.out]
        exact own_rebase0 own9 Z8.out.2)
      clear own9 gr9 loc9
      go_wp2_with fail
      go_ret2
      rw [HE2.out]
      exact ⟨⟨_, rfl, O9.out⟩, S9.out⟩
  · have b0 : (ck == 0) = false := by simpa using h0
    have b1 : (ck != 0) = true := by simpa using h0
    have HE2 := Lib.hid (show E = (ck, []) by rw [HE.out, if_pos h0])
    clear h0 HE HZ HC
    go_wp2_with fail
    go_ret2
    rw [HE2.out]
    exact ⟨⟨_, rfl, World.ownsRow_nil _ _ _ _⟩, S1.out⟩
end Go.Proofs.YtblgphfdicffcaaGreatDoor
