/- Contracts and facts, several texts in one. It proves no statement. -/
import Derived.Test.YtmpnehhndhepgaaDoorPackGa
import Derived.LaidMore
import Derived.Stop.Joined
import Derived.Stop.LaidErr
import Derived.Lib.LaidTab
import Derived.Deep.Fields
import Derived.OpenShut
import Derived.Deep.DeepCutAuto
import Derived.Lib.ConvBytes
import Derived.Deep.MidRow
import Derived.Laws.CopyOwn
import Derived.Great.BuildSlice
import Derived.BigQuiet
import Derived.BigFrame

/- What a walk that reads no table is given of the tables: nothing. It proves no statement. -/

namespace Go.Proofs.YtmpnehhndhepgaaDoor
open Go.RowKit
/-- No word on the tables. -/
def AnyTabs (_ : World) : Prop := True
theorem anyTabs {P : Prop} {w : World} (_ : P) : AnyTabs w := trivial
end Go.Proofs.YtmpnehhndhepgaaDoor

/- What the table of sizes holds, and what the rows' condition on it gives the walks. It proves no statement. -/







namespace Go.Proofs.YtmpnehhndhepgaaDoor
open Go.RowKit
set_option linter.unusedVariables false
set_option linter.unusedSimpArgs false

/-- The table of sizes, number by number: of each kind 'none, few, one, two'. -/
def sizesT : List Nat := [0, 0, 0, 0, 0, 0, 0, 0, 0, 0, 0, 0, 0, 0, 0, 0, 0, 0, 196, 197, 160, 32, 217, 218, 144, 16, 0, 220, 128, 16, 0, 222]
def Sizes (w : World) : Prop := ∀ i, i < 32 → w.cell? ⟨0, i, none⟩ = some (.int .u8 (sizesT.getD i 0 : Nat))
theorem Sizes.keep {w w' : World} (h : Sizes w) (hk : ∀ o, w'.cell? ⟨0, o, none⟩ = w.cell? ⟨0, o, none⟩) : Sizes w' := fun i hi => (hk i).trans (h i hi)
theorem Sizes.lt {w : World} (h : Sizes w) : 0 < w.heap.size := by simpa using World.block_lt_of_cell? w _ (h 0 (by omega))
theorem Sizes.below {w w' : World} {B : Nat} (h : Sizes w) (s : Below B w w') (hB : 0 < B) : Sizes w' := h.keep fun o => s.cell (p := ⟨_, o, none⟩) hB
theorem Sizes.still {w w' : World} (h : Sizes w) (s : Still w w') : Sizes w' := h.below s h.lt

def packLaid : List (String × DataW Unit) := [("hoard/pack.sizesOf", Rows.laid_hoard_pack_sizesOf)]
theorem gSizes : Tryd.prog.globalNamed "hoard/pack.sizesOf" = some 0 := by kernel_rfl
theorem tSizes : (Tryd.prog.globals[0]?).map (·.type) = some 116 := by kernel_rfl
theorem cSizes : Tryd.prog.cellsOf 115 = 4 := by kernel_rfl
theorem cSizes8 : Tryd.prog.cellsOf 116 = 32 := by kernel_rfl
theorem uSizes : ∃ fs : Array Field, Tryd.prog.underlying 115 = some (.struct fs) ∧ fs.size = 4 ∧ Go.Deep.oneCellFields Tryd.prog fs = true ∧ ∀ (j : Nat) (f : Field), fs[j]? = some f → f.type = 5 :=
  ⟨_, Tryd.underlying115, rfl, by kernel_rfl, fun j f h => by
    match j, h with
    | 0, h => simp at h; rw [← h]
    | 1, h => simp at h; rw [← h]
    | 2, h => simp at h; rw [← h]
    | 3, h => simp at h; rw [← h]
    | j + 4, h => simp at h⟩
/-- The datum, number by number. -/
theorem datum_at {H : Type} (i j : Nat) (hi : i < 8) (hj : j < 4) : ∃ ps : List (DataW H), (match (Rows.laid_hoard_pack_sizesOf : DataW H) with | .agg l => l[i]? | _ => none) = some (.agg ps) ∧ ps[j]? = some (.lit (.int .u8 (sizesT.getD (i * 4 + j) 0 : Nat))) := by
  obtain rfl | rfl | rfl | rfl | rfl | rfl | rfl | rfl : i = 0 ∨ i = 1 ∨ i = 2 ∨ i = 3 ∨ i = 4 ∨ i = 5 ∨ i = 6 ∨ i = 7 := by omega
  all_goals
    refine ⟨_, rfl, ?_⟩
    obtain rfl | rfl | rfl | rfl : j = 0 ∨ j = 1 ∨ j = 2 ∨ j = 3 := by omega
    all_goals rfl
theorem sizes_of_laid {W : World} (h : laidMetH Tryd.prog packLaid W) : Sizes W := by
  rw [MakeChecks.laidMetH_plain _ _ _ (by kernel_rfl)] at h
  obtain ⟨ps, ⟨g', t', cs, fuel, p, q, hg', ht', hvar, hd, _, _⟩, _⟩ := h
  obtain rfl := Option.some.inj (gSizes.symm.trans hg')
  obtain rfl := Option.some.inj (tSizes.symm.trans ht')
  obtain ⟨xs, m, hf, hx, hcl, hxl, hat⟩ := DataW.trod_array Tryd.underlying116 hd
  obtain ⟨fs, hu, hfs, hone, htyp⟩ := uSizes
  rw [cSizes] at hat
  simp only [Prod.mk.injEq] at hx
  intro o ho
  have hcell := World.var?_cell gSizes hvar o
  rw [hcell]
  obtain ⟨i, j, hi, hj, rfl⟩ : ∃ i j, i < 8 ∧ j < 4 ∧ o = i * 4 + j := ⟨o / 4, o % 4, by omega, by omega, by omega⟩
  have h1 := hat i hi
  rw [List.getElem?_eq_getElem (show i < xs.length by omega)] at h1
  obtain ⟨ys, m2, hf2, hy, hl2, hyl, hat2⟩ := DataW.trod_struct hu h1
  have hfj : fs[j]? = some fs[j] := Array.getElem?_eq_getElem (by omega)
  have h2 := hat2 j fs[j] hfj
  obtain ⟨o1, o2⟩ := Go.Deep.hone_of hone j fs[j] hfj
  rw [o1, o2, htyp j _ hfj, List.getElem?_eq_getElem (show j < ys.length by omega)] at h2
  obtain ⟨a, ha, hya, _⟩ := DataW.trod_int Tryd.underlying5 h2
  obtain ⟨dps, hd1, hd2⟩ := datum_at (H := Unit) i j hi hj
  have e1 : (Rows.laid_hoard_pack_sizesOf : DataW Unit) = .agg (xs.map (·.1)) := hx.1
  rw [e1] at hd1
  simp only [List.getElem?_map, List.getElem?_eq_getElem (show i < xs.length by omega), Option.map_some, Option.some.injEq] at hd1
  have e2 := congrArg Prod.fst hy
  simp only at e2
  rw [hd1] at e2
  simp only [DataW.agg.injEq] at e2
  rw [e2, List.getElem?_map, List.getElem?_eq_getElem (show j < ys.length by omega), hya] at hd2
  simp only [Option.map_some, Option.some.injEq, DataW.lit.injEq, Lit.int.injEq, true_and] at hd2
  have e3 : cs[i * 4 + j]? = some (.int .u8 a) := by
    have := congrArg (·[0]?) ha
    simp only [List.getElem?_take, List.getElem?_drop, List.drop_drop] at this
    simpa [show (j : Nat) < 4 from hj] using this
  rw [e3, hd2]
end Go.Proofs.YtmpnehhndhepgaaDoor

/- Contracts: a size's tag; a size laid; a text laid. It proves no statement. -/



namespace Go.Proofs.YtmpnehhndhepgaaDoor
open Go.RowKit
set_option linter.unusedVariables false
set_option linter.unusedSimpArgs false

/-- The tag of a size. -/
def st (k n : Nat) : Nat := if n < sizesT.getD (k * 4 + 1) 0 then sizesT.getD (k * 4) 0 + n else if n < 256 ∧ sizesT.getD (k * 4 + 2) 0 ≠ 0 then sizesT.getD (k * 4 + 2) 0 else sizesT.getD (k * 4 + 3) 0

theorem st4 (n : Nat) : st 4 n = if n < 256 then 196 else 197 := by unfold st; simp [sizesT]
theorem st5 (n : Nat) : st 5 n = if n < 32 then 160 + n else if n < 256 then 217 else 218 := by unfold st; simp [sizesT]
theorem st6 (n : Nat) : st 6 n = if n < 16 then 144 + n else 220 := by unfold st; simp [sizesT]
theorem st7 (n : Nat) : st 7 n = if n < 16 then 128 + n else 222 := by unfold st; simp [sizesT]
theorem st_lt (k n : Nat) (h4 : 4 ≤ k) (h7 : k ≤ 7) : st k n < 256 := by
  obtain rfl | rfl | rfl | rfl : k = 4 ∨ k = 5 ∨ k = 6 ∨ k = 7 := by omega
  · rw [st4]; split <;> omega
  · rw [st5]; split <;> (try split) <;> omega
  · rw [st6]; split <;> omega
  · rw [st7]; split <;> omega

set_option maxRecDepth 100000 in
set_option maxHeartbeats 1600000 in
theorem sizeTag_any (k n : Nat) (w : World) (T : Sizes w) (h4 : 4 ≤ k) (h7 : k ≤ 7) (hn : n < 65536) :
    Calls Tryd.prog 65 #[.int .i64 (k : Int), .int .i64 (n : Int)] w fun e w' => e = .returned (.int .u8 (st k n : Nat)) ∧ Still w w' := by
  obtain ⟨y, hy⟩ : ∃ y, y = st k n := ⟨_, rfl⟩
  rw [← hy]
  have HY := Lib.hid hy
  have HNN := Lib.hid hn
  clear hy hn
  obtain rfl | rfl | rfl | rfl : k = 4 ∨ k = 5 ∨ k = 6 ∨ k = 7 := by omega
  · have c0 : w.cell? ⟨0, 16, none⟩ = some (.int .u8 0) := T 16 (by omega)
    have c1 : w.cell? ⟨0, 17, none⟩ = some (.int .u8 0) := T 17 (by omega)
    have c2 : w.cell? ⟨0, 18, none⟩ = some (.int .u8 196) := T 18 (by omega)
    have c3 : w.cell? ⟨0, 19, none⟩ = some (.int .u8 197) := T 19 (by omega)
    clear T
    go_enter Tryd.func65, Tryd.ntmps65
    go_wp2_with fail
    all_goals
      (try simp only [beq_iff_eq, beq_eq_false_iff_ne, ne_eq, decide_eq_true_eq, decide_eq_false_iff_not] at *)
      go_ret
      refine ⟨ret_u8 ?_, (Still.refl w).alloc (Nat.le_refl _) _⟩
      have hn := HNN.out
      rw [HY.out, st4]
      split <;> (try split) <;> omega
  · have c0 : w.cell? ⟨0, 20, none⟩ = some (.int .u8 160) := T 20 (by omega)
    have c1 : w.cell? ⟨0, 21, none⟩ = some (.int .u8 32) := T 21 (by omega)
    have c2 : w.cell? ⟨0, 22, none⟩ = some (.int .u8 217) := T 22 (by omega)
    have c3 : w.cell? ⟨0, 23, none⟩ = some (.int .u8 218) := T 23 (by omega)
    clear T
    go_enter Tryd.func65, Tryd.ntmps65
    go_wp2_with fail
    all_goals
      (try simp only [beq_iff_eq, beq_eq_false_iff_ne, ne_eq, decide_eq_true_eq, decide_eq_false_iff_not] at *)
      go_ret
      refine ⟨ret_u8 ?_, (Still.refl w).alloc (Nat.le_refl _) _⟩
      have hn := HNN.out
      rw [HY.out, st5]
      split <;> (try split) <;> omega
  · have c0 : w.cell? ⟨0, 24, none⟩ = some (.int .u8 144) := T 24 (by omega)
    have c1 : w.cell? ⟨0, 25, none⟩ = some (.int .u8 16) := T 25 (by omega)
    have c2 : w.cell? ⟨0, 26, none⟩ = some (.int .u8 0) := T 26 (by omega)
    have c3 : w.cell? ⟨0, 27, none⟩ = some (.int .u8 220) := T 27 (by omega)
    clear T
    go_enter Tryd.func65, Tryd.ntmps65
    go_wp2_with fail
    all_goals
      (try simp only [beq_iff_eq, beq_eq_false_iff_ne, ne_eq, decide_eq_true_eq, decide_eq_false_iff_not] at *)
      go_ret
      refine ⟨ret_u8 ?_, (Still.refl w).alloc (Nat.le_refl _) _⟩
      have hn := HNN.out
      rw [HY.out, st6]
      split <;> (try split) <;> omega
  · have c0 : w.cell? ⟨0, 28, none⟩ = some (.int .u8 128) := T 28 (by omega)
    have c1 : w.cell? ⟨0, 29, none⟩ = some (.int .u8 16) := T 29 (by omega)
    have c2 : w.cell? ⟨0, 30, none⟩ = some (.int .u8 0) := T 30 (by omega)
    have c3 : w.cell? ⟨0, 31, none⟩ = some (.int .u8 222) := T 31 (by omega)
    clear T
    go_enter Tryd.func65, Tryd.ntmps65
    go_wp2_with fail
    all_goals
      (try simp only [beq_iff_eq, beq_eq_false_iff_ne, ne_eq, decide_eq_true_eq, decide_eq_false_iff_not] at *)
      go_ret
      refine ⟨ret_u8 ?_, (Still.refl w).alloc (Nat.le_refl _) _⟩
      have hn := HNN.out
      rw [HY.out, st7]
      split <;> (try split) <;> omega

/-- What laying a size does. -/
def layS (s : List UInt8 × Bool) (k n : Nat) : List UInt8 × Bool := if 65535 < n then (s.1, true) else layN s (st k n) n

set_option maxRecDepth 100000 in
set_option maxHeartbeats 1600000 in
theorem size_any {w : World} {lo g : Nat} {R : Option Nat} {s : List UInt8 × Bool} (h : Wr w lo g R s) (T : Sizes w) (k n : Nat) (h4 : 4 ≤ k) (h7 : k ≤ 7) (hn : n ≤ 70368744177664) :
    Calls Tryd.prog 42 #[.pointer (some ⟨g, 0, none⟩), .int .i64 (k : Int), .int .i64 (n : Int)] w fun e w' => e = .returned (.tuple #[]) ∧ Wrote w w' lo g R (layS s k n) := by
  by_cases hl : 65535 < n
  · obtain ⟨h1, h2, A, c, hR, hb, ho, hne⟩ := h
    have d1 : 65535 < (n : Int) := by omega
    have c1 : w.cell? ⟨g, 1, none⟩ = some (.bool s.2) := hb.cell 1
    have f1 : w.frozen? ⟨g, 1, none⟩ = false := hb.frozen 1
    have e : layS s k n = (s.1, true) := by unfold layS; rw [if_pos hl]
    have gs := grownBy_set w g 1 (.bool true)
    have W : Wrote w (w.setCell ⟨g, 1, none⟩ (.bool true)) lo g R (s.1, true) :=
      ⟨R, ⟨h1, h2, A, c, hR, hb.setc 1 _, ho.kept gs (.inr (by rw [← hR]; exact hne)), hne⟩, ⟨gs.os, gs.tape, gs.output, gs.size, fun k hk hkg _ => gs.block k hk (fun e => hkg (Option.some.inj e))⟩, fun k _ e => e⟩
    rw [← e] at W
    have WW := Lib.hid W
    clear e gs W hb ho hne hR h1 h2 hl hn
    go_enter Tryd.func42, Tryd.ntmps42
    go_wp2_with fail
    (try simp only [Exit.inBlock, Exit.then])
    refine bodyPost_ret (results_none rfl _ _ _) rfl ?_
    exact ⟨rfl, WW.out⟩
  · have d1 : ¬ 65535 < (n : Int) := by omega
    have e : layS s k n = layN s (st k n) n := by unfold layS; rw [if_neg hl]
    rw [e]
    have TG := Lib.hid (sizeTag_any k n w T h4 h7 (by omega))
    have NU := Lib.hid (fun (w' : World) (b : Still w w') => number_any (h.below b) (st k n) n (st_lt k n h4 h7) (by omega))
    obtain ⟨y, hy⟩ : ∃ y, y = st k n := ⟨_, rfl⟩
    rw [← hy] at TG NU ⊢
    have e2 : IntKind.u64.wrap (n : Int) = (n : Int) := by rw [IntKind.wrap_u64]; omega
    have HW := Lib.hid h
    clear e T hl hn hy h h4 h7
    go_enter Tryd.func42, Tryd.ntmps42
    go_wp2_with fail
    refine TG.out.mono ?_
    rintro e w1 ⟨rfl, s1⟩
    have N := Lib.hid (NU.out w1 s1)
    have V1 := Lib.hid (Via.of_still (g := g) (R := R) s1)
    clear s1 NU
    go_wp2_with fail
    refine N.out.mono ?_
    rintro e w2 ⟨rfl, R2, wr2, v2⟩
    have WR2 := Lib.hid wr2
    have V2 := Lib.hid v2
    clear wr2 v2
    go_wp2_with fail
    first | go_end0 | refine bodyPost_ret (results_none rfl _ _ _) rfl ?_
    exact ⟨rfl, R2, WR2.out, V1.out.trans V2.out⟩
end Go.Proofs.YtmpnehhndhepgaaDoor

/- Contract: a text laid. It proves no statement. -/


namespace Go.Proofs.YtmpnehhndhepgaaDoor
open Go.RowKit
set_option linter.unusedVariables false
set_option linter.unusedSimpArgs false

/-- What laying a text does. -/
def layT (s : List UInt8 × Bool) (t : List UInt8) : List UInt8 × Bool := if (layS s 5 t.length).2 = true then layS s 5 t.length else lay1 (layS s 5 t.length) t

/-- '[]byte(s)': a row of its own, that reads as the text. -/
theorem conv_text (w : World) (t : ByteArray) : ∃ c w', (convert 9 22 (.string t)).run Tryd.prog w = .ok (.slice (some ⟨w.heap.size, 0, none⟩) t.size c) w' ∧ Still w w' ∧ Reads w' (w.heap.size + 1) (some ⟨w.heap.size, 0, none⟩) t.size t.data.toList := by
  refine ⟨_, _, Lib.run_convert_string_bytes w 9 22 5 t Tryd.underlying9 Tryd.underlying22 Tryd.underlying5, ?_, ?_⟩
  · exact ⟨rfl, rfl, rfl, by rw [Lib.bytesWorld_size]; omega, fun k hk => Lib.bytesWorld_at_old w _ t k hk⟩
  · refine ⟨by simp, fun hn => ⟨w.heap.size, 0, rfl, by omega, fun i hi => ?_⟩⟩
    rw [Nat.zero_add]
    exact Lib.bytesWorld_cell w 5 t i hi

set_option maxRecDepth 100000 in
set_option maxHeartbeats 1600000 in
theorem text_lay {w : World} {lo g : Nat} {R : Option Nat} {s : List UInt8 × Bool} (h : Wr w lo g R s) (T : Sizes w) (t : ByteArray) (ht : t.size ≤ 1048576) :
    Calls Tryd.prog 43 #[.pointer (some ⟨g, 0, none⟩), .string t] w fun e w' => e = .returned (.tuple #[]) ∧ Wrote w w' lo g R (layT s t.data.toList) := by
  have hlen : t.data.toList.length = t.size := by simp
  have SZ := Lib.hid (size_any h T 5 t.size (by omega) (by omega) (by omega))
  have e : layT s t.data.toList = if (layS s 5 t.size).2 = true then layS s 5 t.size else lay1 (layS s 5 t.size) t.data.toList := by unfold layT; rw [hlen]
  obtain ⟨s1, hs1⟩ : ∃ s1, s1 = layS s 5 t.size := ⟨_, rfl⟩
  rw [← hs1] at SZ e
  have HE := Lib.hid e
  have HLEN := Lib.hid hlen
  have HT := Lib.hid ht
  clear e hs1 hlen T h ht
  go_enter Tryd.func43, Tryd.ntmps43
  go_wp2_with fail
  refine SZ.out.mono ?_
  rintro e w1 ⟨rfl, R1, wr1, v1⟩
  have b1 : ∃ A c, Blk w1 g 53 #[.slice A s1.1.length c, .bool s1.2] := by
    obtain ⟨_, _, A, c, _, hb, _⟩ := wr1
    exact ⟨A, c, hb⟩
  obtain ⟨A1, k1, hb1⟩ := b1
  have c1 : w1.cell? ⟨g, 1, none⟩ = some (.bool s1.2) := hb1.cell 1
  have WR1 := Lib.hid wr1
  have V1 := Lib.hid v1
  clear hb1 wr1 v1 SZ
  obtain ⟨b, hb⟩ : ∃ b, b = s1.2 := ⟨_, rfl⟩
  rw [← hb] at c1
  have HB := Lib.hid hb
  clear hb
  cases b
  · obtain ⟨c2, w2, kc, s2, q2⟩ := conv_text w1 t
    have L := Lib.hid (lay_any (WR1.out.below s2) _ t.size c2 _ _ q2 (by have := HT.out; omega) (fun e => by cases e))
    have V2 := Lib.hid (V1.out.trans (Via.of_still s2))
    clear s2 q2
    go_wp2_with fail
    refine L.out.mono ?_
    rintro e w3 ⟨rfl, R3, wr3, v3⟩
    have WR3 := Lib.hid wr3
    have V3 := Lib.hid (V2.out.trans v3)
    clear wr3 v3
    go_wp2_with fail
    (try simp only [Exit.inBlock, Exit.then])
    first | go_end0 | refine bodyPost_ret (results_none rfl _ _ _) rfl ?_
    rw [HE.out, if_neg (by rw [← HB.out]; decide)]
    exact ⟨rfl, R3, WR3.out, V3.out⟩
  · go_wp2_with fail
    (try simp only [Exit.inBlock, Exit.then])
    first | go_end0 | refine bodyPost_ret (results_none rfl _ _ _) rfl ?_
    rw [HE.out, if_pos HB.out.symm]
    exact ⟨rfl, R1, WR1.out, V1.out⟩
end Go.Proofs.YtmpnehhndhepgaaDoor

/- Values as trees, and what it says that a world has one. It proves no statement. -/


namespace Go.Proofs.YtmpnehhndhepgaaDoor
open Go.RowKit
set_option linter.unusedVariables false
set_option linter.unusedSimpArgs false

/-- A value: its kind, its number, its bytes, its text, its keys, its values. -/
inductive Tr where
  | mk (k i : Int) (b : List UInt8) (t : ByteArray) (ks : List ByteArray) (l : List Tr)

/-- A row of texts. -/
def Keys (w : World) (B : Nat) (A : Option Addr) (ks : List ByteArray) : Prop :=
  (∀ s ∈ ks, s.size ≤ 1048576) ∧ (0 < ks.length → ∃ g o, A = some ⟨g, o, none⟩ ∧ g < B ∧ ∀ j, j < ks.length → w.cell? ⟨g, o + j, none⟩ = some (.string (ks.getD j ByteArray.empty)))
theorem Keys.below {w w' : World} {B : Nat} {A : Option Addr} {ks : List ByteArray} (h : Keys w B A ks) (s : Below B w w') : Keys w' B A ks := by
  refine ⟨h.1, fun hn => ?_⟩
  obtain ⟨g, o, e, hb, hc⟩ := h.2 hn
  exact ⟨g, o, e, hb, fun j hj => (s.cell (p := ⟨g, o + j, none⟩) hb).trans (hc j hj)⟩

mutual
/-- The cells cs are the value t; what they lead to lies below block B. -/
def HasV (w : World) (B : Nat) : Tr → Array Value → Prop
  | .mk k i b t ks l, cs => ∃ A n c Ak ck Al cl, cs = #[.int .i64 k, .int .i64 i, .slice A n c, .string t, .slice Ak ks.length ck, .slice Al l.length cl] ∧
      (-9223372036854775808 ≤ k ∧ k ≤ 9223372036854775807) ∧ (-9223372036854775808 ≤ i ∧ i ≤ 9223372036854775807) ∧ (Reads w B A n b ∧ n ≤ 1048576 ∧ (A = none → c = 0)) ∧ t.size ≤ 1048576 ∧
      (Keys w B Ak ks ∧ ks.length ≤ 1048576) ∧ l.length ≤ 1048576 ∧ (0 < l.length → ∃ g o, Al = some ⟨g, o, none⟩ ∧ g < B ∧ HasL w B g o l)
def HasL (w : World) (B : Nat) (g : Nat) : Nat → List Tr → Prop
  | _, [] => True
  | o, x :: r => (∃ cs, HasV w B x cs ∧ cs.size = 6 ∧ ∀ j v, cs[j]? = some v → w.cell? ⟨g, o + j, none⟩ = some v) ∧ HasL w B g (o + 6) r
end
mutual
theorem HasV.below {w w' : World} {B : Nat} (s : Below B w w') : ∀ (t : Tr) (cs : Array Value), HasV w B t cs → HasV w' B t cs
  | .mk k i b t ks l, cs, h => by
    unfold HasV at h ⊢
    obtain ⟨A, n, c, Ak, ck, Al, cl, e, hk, hi, ⟨hr, h1, h2⟩, ht, ⟨hks, hkl⟩, hl, hL⟩ := h
    refine ⟨A, n, c, Ak, ck, Al, cl, e, hk, hi, ⟨hr.below s, h1, h2⟩, ht, ⟨hks.below s, hkl⟩, hl, fun hn => ?_⟩
    obtain ⟨g, o, e2, hg, hh⟩ := hL hn
    exact ⟨g, o, e2, hg, HasL.below s g hg o l hh⟩
theorem HasL.below {w w' : World} {B : Nat} (s : Below B w w') (g : Nat) (hg : g < B) : ∀ (o : Nat) (l : List Tr), HasL w B g o l → HasL w' B g o l
  | _, [], _ => by unfold HasL; trivial
  | o, x :: r, h => by
    unfold HasL at h ⊢
    obtain ⟨⟨cs, hv, hz, hc⟩, hr⟩ := h
    exact ⟨⟨cs, HasV.below s x cs hv, hz, fun j v hj => (s.cell (p := ⟨g, o + j, none⟩) hg).trans (hc j v hj)⟩, HasL.below s g hg (o + 6) r hr⟩
end
theorem HasL.at {w : World} {B g : Nat} : ∀ (l : List Tr) (o : Nat), HasL w B g o l → ∀ (j : Nat) (x : Tr), l[j]? = some x → ∃ cs, HasV w B x cs ∧ cs.size = 6 ∧ ∀ i v, cs[i]? = some v → w.cell? ⟨g, o + 6 * j + i, none⟩ = some v
  | [], _, _, j, x, hx => by simp at hx
  | y :: r, o, h, 0, x, hx => by
    unfold HasL at h
    simp only [List.getElem?_cons_zero, Option.some.injEq] at hx
    subst hx
    obtain ⟨⟨cs, hv, hz, hc⟩, _⟩ := h
    exact ⟨cs, hv, hz, fun i v hi => by simpa using hc i v hi⟩
  | y :: r, o, h, j + 1, x, hx => by
    unfold HasL at h
    obtain ⟨cs, hv, hz, hc⟩ := HasL.at r (o + 6) h.2 j x (by simpa using hx)
    exact ⟨cs, hv, hz, fun i v hi => by rw [show o + 6 * (j + 1) + i = o + 6 + 6 * j + i by omega]; exact hc i v hi⟩

/-- Do the texts rise? -/
def riseB : List ByteArray → Bool
  | a :: b :: r => Op.bytesLess a.toList b.toList && riseB (b :: r)
  | _ => true
mutual
/-- Can a value be, at a depth? -/
def canT : Nat → Tr → Bool
  | d, .mk k _ _ _ ks l => decide (d ≤ 16) && decide (0 ≤ k) && decide (k ≤ 7) && (decide (k ≠ 7) || (ks.length == l.length && riseB ks)) && (decide (k < 6) || canL (d + 1) l)
def canL : Nat → List Tr → Bool
  | _, [] => true
  | d, x :: r => canT d x && canL d r
end
mutual
/-- What laying a value does. -/
def layV (s : List UInt8 × Bool) : Tr → List UInt8 × Bool
  | .mk k i b t ks l =>
    if k = 0 then lay1 s [192] else if k = 1 then lay1 s [194] else if k = 2 then lay1 s [195] else if k = 3 then layN s (nt i) (ux i)
    else if k = 4 then lay1 (layS s 4 b.length) b else if k = 5 then layT s t.data.toList else layL k (layS s k.toNat l.length) l ks
def layL (k : Int) (s : List UInt8 × Bool) : List Tr → List ByteArray → List UInt8 × Bool
  | [], _ => s
  | x :: r, ks => if s.2 = true then s else layL k (layV (if k = 7 then layT s (ks.headD ByteArray.empty).data.toList else s) x) r ks.tail
end
theorem canL_at : ∀ (l : List Tr) (d : Nat), canL d l = true → ∀ x ∈ l, canT d x = true
  | [], _, _, x, hx => by simp at hx
  | y :: r, d, h, x, hx => by
    unfold canL at h
    simp only [Bool.and_eq_true] at h
    rcases List.mem_cons.1 hx with rfl | hx
    · exact h.1
    · exact canL_at r d h.2 x hx
end Go.Proofs.YtmpnehhndhepgaaDoor

/- Contracts: a list, or a map, laid. It proves no statement. -/





namespace Go.Proofs.YtmpnehhndhepgaaDoor
open Go.RowKit
set_option linter.unusedVariables false
set_option linter.unusedSimpArgs false

/-- What is said of laying one value. -/
def LayOK (x : Tr) : Prop := ∀ (w : World) (lo g : Nat) (R : Option Nat) (s : List UInt8 × Bool) (cs : Array Value), Wr w lo g R s → Sizes w → 0 < lo → HasV w lo x cs →
  Calls Tryd.prog 25 #[.pointer (some ⟨g, 0, none⟩), .agg cs] w fun e w' => e = .returned (.tuple #[]) ∧ Wrote w w' lo g R (layV s x)
theorem Wr.cells {w : World} {lo g : Nat} {R : Option Nat} {s : List UInt8 × Bool} (h : Wr w lo g R s) : w.cell? ⟨g, 1, none⟩ = some (.bool s.2) := by
  obtain ⟨_, _, A, c, _, hb, _⟩ := h
  exact hb.cell 1
theorem layL_stop (k : Int) (s : List UInt8 × Bool) (l : List Tr) (ks : List ByteArray) (h : s.2 = true) : layL k s l ks = s := by
  cases l with
  | nil => unfold layL; rfl
  | cons x r => unfold layL; rw [if_pos h]
theorem drop_at {α : Type} (l : List α) (j : Nat) (x : α) (h : l[j]? = some x) : l.drop j = x :: l.drop (j + 1) := by
  have hj := (List.getElem?_eq_some_iff.1 h).1
  rw [List.drop_eq_getElem_cons hj, (List.getElem?_eq_some_iff.1 h).2]

theorem HasV.one {w : World} {B : Nat} {x : Tr} {cs : Array Value} (h : HasV w B x cs) : cs.all (·.oneCell') = true := by
  obtain ⟨k, i, b, t, ks, l⟩ := x
  unfold HasV at h
  obtain ⟨A, n, c, Ak, ck, Al, cl, rfl, _⟩ := h
  rw [Array.all_eq_true_iff_forall_mem]
  intro v hv
  simp at hv
  rcases hv with rfl | rfl | rfl | rfl | rfl | rfl <;> rfl

set_option maxRecDepth 100000 in
set_option maxHeartbeats 3200000 in
theorem wlist6 (i : Int) (b : List UInt8) (t : ByteArray) (ks : List ByteArray) (l : List Tr) (IH : ∀ x ∈ l, LayOK x)
    (w : World) (lo g : Nat) (R : Option Nat) (s : List UInt8 × Bool) (cs : Array Value) (h : Wr w lo g R s) (T : Sizes w) (hg0 : 0 < lo) (hv : HasV w lo (.mk 6 i b t ks l) cs) :
    Calls Tryd.prog 44 #[.pointer (some ⟨g, 0, none⟩), .agg cs] w fun e w' => e = .returned (.tuple #[]) ∧ Wrote w w' lo g R (layL 6 (layS s 6 l.length) l ks) := by
  unfold HasV at hv
  obtain ⟨A, n, c, Ak, ck, Al, cl, rfl, _, _, _, _, _, hll, hL⟩ := hv
  obtain ⟨m, hm⟩ : ∃ m, m = l.length := ⟨_, rfl⟩
  rw [← hm] at hll hL ⊢
  obtain ⟨nk, hnk⟩ : ∃ nk, nk = ks.length := ⟨_, rfl⟩
  rw [← hnk]
  obtain ⟨wA, hA⟩ : ∃ wA, wA = w.alloc (.cells #[.int .i64 6, .int .i64 i, .slice A n c, .string t, .slice Ak nk ck, .slice Al m cl] 26) := ⟨_, rfl⟩
  have sA : Still w wA := by rw [hA]; exact (Still.refl w).alloc (Nat.le_refl _) _
  have bA : Blk wA w.heap.size 26 #[.int .i64 6, .int .i64 i, .slice A n c, .string t, .slice Ak nk ck, .slice Al m cl] := by rw [hA]; exact Blk.new _ _ _
  have hlt := h.lt
  have ne1 : w.heap.size ≠ g := by omega
  have ne2 : R ≠ some w.heap.size := fun e => by have := h.row _ e; omega
  have SZ := Lib.hid (size_any (h.below sA) (T.still sA) 6 m (by omega) (by omega) (by omega))
  obtain ⟨s1, hs1⟩ : ∃ s1, s1 = layS s 6 m := ⟨_, rfl⟩
  rw [← hs1] at SZ ⊢
  clear hs1
  have c0 : wA.cell? ⟨w.heap.size, 0, none⟩ = some (.int .i64 6) := bA.cell 0
  have c5 : wA.cell? ⟨w.heap.size, 5, none⟩ = some (.slice Al m cl) := bA.cell 5
  have V0 := Lib.hid (Via.of_still (g := g) (R := R) sA)
  have BA := Lib.hid bA
  have NE := Lib.hid (⟨ne1, ne2⟩ : w.heap.size ≠ g ∧ R ≠ some w.heap.size)
  have HM := Lib.hid hm
  have HLL := Lib.hid hL
  have HLO := Lib.hid hlt
  have HT := Lib.hid T
  have HW := Lib.hid h
  have HA := Lib.hid hA
  have HIH := Lib.hid IH
  have HMM := Lib.hid hll
  have HG0 := Lib.hid hg0
  obtain ⟨g3, hg3⟩ : ∃ g3, g3 = w.heap.size := ⟨_, rfl⟩
  have HG3 := Lib.hid hg3
  clear hA sA bA ne1 ne2 hm hL hlt T h IH hnk hll hg0
  go_enter Tryd.func44, Tryd.ntmps44
  go_upto_region 1 with fail
  rw [← HA.out]
  rw [← hg3] at c0 c5 BA NE ⊢
  clear hg3 HA
  obtain ⟨fs, hu⟩ := underValue
  have HU := Lib.hid hu
  clear hu
  go_wp2_with fail
  refine SZ.out.mono ?_
  rintro e w1 ⟨rfl, R1, wr1, v1⟩
  have b1 := v1.blk BA.out NE.out.1 NE.out.2
  have k0 : w1.cell? ⟨g3, 0, none⟩ = some (.int .i64 6) := b1.cell 0
  have k5 : w1.cell? ⟨g3, 5, none⟩ = some (.slice Al m cl) := b1.cell 5
  have WR1 := Lib.hid wr1
  have V1 := Lib.hid (V0.out.trans v1)
  have B1 := Lib.hid b1
  have NE1 := Lib.hid (show R1 ≠ some g3 from fun e => NE.out.2 (v1.2 g3 BA.out.lt e))
  clear c0 c5 wr1 v1 b1 SZ V0 BA
  go_wp2_with fail
  go_loopw [16] (fun iv wr => ∃ j : Nat, j ≤ m ∧ iv = .int .i64 j ∧ Hid (∃ R' s', Wr wr lo g R' s' ∧ Via g R1 R' w1 wr ∧ layL 6 s1 l ks = layL 6 s' (l.drop j) (ks.drop j))) (fun iv _ => m - (intOf iv).toNat)
  case atStart => exact ⟨0, by omega, rfl, R1, s1, WR1.out, Via.refl _ _ _, rfl⟩
  case round =>
    obtain ⟨j, hj, rfl, R', s', wr', vr, hs'⟩ := hrel
    have VW := Lib.hid (V1.out.trans vr)
    have VR := Lib.hid vr
    have WR' := Lib.hid wr'
    have HS' := Lib.hid hs'
    clear vr hs'
    by_cases hlt : j < m
    · obtain ⟨gl, ol, rfl, hgl, hh⟩ := HLL.out (by omega)
      obtain ⟨x, hx⟩ : ∃ x, l[j]? = some x := ⟨_, List.getElem?_eq_getElem (by rw [← HM.out]; exact hlt)⟩
      have bel := VW.out.low HW.out
      obtain ⟨⟨lx⟩, hvx, hzx, hcx⟩ := HasL.at l ol (HasL.below bel gl hgl ol l hh) j x hx
      have d1 : (j : Int) < (m : Int) := by omega
      have d2 : (0 : Int) ≤ (j : Int) := by omega
      have d3 : (m : Int) ≤ 1048576 := by have := HMM.out; omega
      have IX := Lib.hid (HIH.out x (List.mem_of_getElem? hx))
      have hsx : layL 6 s' (l.drop j) (ks.drop j) = if s'.2 = true then s' else layL 6 (layV s' x) (l.drop (j + 1)) (ks.drop (j + 1)) := by
        rw [drop_at l j x hx]
        rw [layL]
        rw [if_neg (by decide : ¬ (6 : Int) = 7)]
        simp
      have rng : wr.rangeAt gl (ol + j * 6) lx := fun q v hq => by
        have := hcx q v (by simpa using hq)
        rwa [show ol + 6 * j + q = ol + j * 6 + q by omega] at this
      have hlx : lx.length = 6 := by simpa using hzx
      have RNG := Lib.hid rng
      have LX := Lib.hid hlx
      have HSX := Lib.hid hsx
      have HVX := Lib.hid hvx
      have BEL := Lib.hid bel
      have ALLX : Hid (lx.toArray.all (·.oneCell') = true) := Lib.hid (HasV.one hvx)
      have HLT := Lib.hid hlt
      clear hlt hx hh hgl hvx hzx hcx bel hsx rng hlx
      go_upto_region 5 with (first
        | (guard_target =~ wpList _ _ _ (Oper.mk (some 20) _ _ _ _ _ :: _) _ _; go_must (refine wpList_load_mid rfl 26 (.tmp 19) rfl gl (ol + j * 6) rfl lx (.struct fs) RNG.out HU.out rfl (by rw [sizeValue, LX.out]) ?_))
        | (guard_target =~ wpList _ _ _ (Oper.mk none (Op.store _ _ _) _ _ _ _ :: _) _ _; go_must (refine wpList_store_rowTo rfl 26 (.tmp 5) (.tmp 20) rfl rfl wr.heap.size lx.toArray rfl rfl 26 _ (heap_alloc_new wr _) (by rw [sizeValue]; simp [LX.out]) (by simp [LX.out]) ALLX.out ?_)))
      obtain ⟨gx, hgx⟩ : ∃ gx, gx = wr.heap.size := ⟨_, rfl⟩
      obtain ⟨w2, hw2⟩ : ∃ w2, w2 = (wr.alloc (.cells #[.int .i64 0, .int .i64 0, .slice none 0 0, .string ⟨#[]⟩, .slice none 0 0, .slice none 0 0] 26)).setRow wr.heap.size lx.toArray := ⟨_, rfl⟩
      have s2 : Still wr w2 := by rw [hw2]; exact below_setRow ((Still.refl wr).alloc (Nat.le_refl _) _) (Nat.le_refl _) _
      have bx : Blk w2 gx 26 lx.toArray := by rw [hw2, hgx]; exact setRow_heap _ _ _ _ _ _ (heap_alloc_new wr _)
      have wr2 := WR'.out.below s2
      have v2 : Via g R1 R' w1 w2 := VR.out.trans (Via.of_still s2)
      have b32 := v2.blk B1.out (by have := NE.out.1; exact this) NE1.out
      have c1 := wr2.cells
      have k0 : w2.cell? ⟨g3, 0, none⟩ = some (.int .i64 6) := b32.cell 0
      have bel2 : Below lo wr w2 := Below.mono s2 (by have := WR'.out.lt; exact this.1)
      have CALL := Lib.hid (IX.out w2 lo g R' s' lx.toArray wr2 (HT.out.below (Below.trans (VW.out.low HW.out) bel2) HG0.out) HG0.out (HasV.below bel2 x _ HVX.out))
      have V2 := Lib.hid v2
      have WR2 := Lib.hid wr2
      have BX := Lib.hid bx
      have HW2 := Lib.hid hw2
      have HGX := Lib.hid hgx
      rw [← hw2, ← hgx]
      clear s2 bx wr2 v2 b32 bel2 hw2 hgx wr' HW2 HGX
      obtain ⟨bb, hb⟩ : ∃ b, b = s'.2 := ⟨_, rfl⟩
      rw [← hb] at c1
      have HB := Lib.hid hb
      clear hb
      cases bb
      · go_upto_region 8 with fail
        refine wp_region_lit ?_
        go_wp2_with (first
          | (guard_target =~ wpList _ _ _ (Oper.mk (some 36) _ _ _ _ _ :: _) _ _; go_must (refine wpList_load_row rfl 26 (.tmp 5) rfl gx rfl _ _ _ _ BX.out HU.out rfl (by rw [sizeValue]; simp [LX.out]) ?_)))
        refine CALL.out.mono ?_
        rintro e w4 ⟨rfl, R4, wr4, v4⟩
        have WR4 := Lib.hid wr4
        have V4 := Lib.hid (V2.out.trans v4)
        clear wr4 v4 CALL
        go_wp2_with fail
        go_roundw
        case rel => exact ⟨j + 1, by have := HLT.out; omega, by go_num, R4, layV s' x, WR4.out, V4.out, by rw [HS'.out, HSX.out, if_neg (by rw [← HB.out]; decide)]⟩
        case measure => simp [intOf]; have := HLT.out; omega
      · go_wp2_with fail
        (try simp only [Exit.inBlock, Exit.then])
        first | go_end0 | refine bodyPost_ret (results_none rfl _ _ _) rfl ?_
        exact ⟨rfl, R', by rw [HS'.out, HSX.out, if_pos HB.out.symm]; exact WR2.out, V1.out.trans V2.out⟩
    · obtain rfl : j = m := by omega
      have hend : layL 6 s1 l ks = s' := by
        rw [HS'.out, List.drop_of_length_le (by rw [HM.out]; omega)]
        unfold layL
        rfl
      have HE := Lib.hid hend
      clear hend hlt
      go_wp2_with fail
      first | go_end0 | refine bodyPost_ret (results_none rfl _ _ _) rfl ?_
      exact ⟨rfl, R', by rw [HE.out]; exact WR'.out, VW.out⟩
set_option maxRecDepth 100000 in
set_option maxHeartbeats 3200000 in
theorem wlist7 (i : Int) (b : List UInt8) (t : ByteArray) (ks : List ByteArray) (l : List Tr) (IH : ∀ x ∈ l, LayOK x)
    (w : World) (lo g : Nat) (R : Option Nat) (s : List UInt8 × Bool) (cs : Array Value) (h : Wr w lo g R s) (T : Sizes w) (hg0 : 0 < lo) (hv : HasV w lo (.mk 7 i b t ks l) cs) (hlen : ks.length = l.length) :
    Calls Tryd.prog 44 #[.pointer (some ⟨g, 0, none⟩), .agg cs] w fun e w' => e = .returned (.tuple #[]) ∧ Wrote w w' lo g R (layL 7 (layS s 7 l.length) l ks) := by
  unfold HasV at hv
  obtain ⟨A, n, c, Ak, ck, Al, cl, rfl, _, _, _, _, ⟨hks, _⟩, hll, hL⟩ := hv
  obtain ⟨m, hm⟩ : ∃ m, m = l.length := ⟨_, rfl⟩
  rw [← hm] at hll hL ⊢
  obtain ⟨nk, hnk⟩ : ∃ nk, nk = ks.length := ⟨_, rfl⟩
  rw [← hnk] at hlen ⊢
  rw [← hm] at hlen
  have hksz := hks.1
  have hkat := hks.2
  rw [← hnk, hlen] at hkat
  have HKZ := Lib.hid hksz
  have HKAT := Lib.hid hkat
  have hlen' : m = nk := hlen.symm
  subst hlen'
  have HNK := Lib.hid hnk
  clear hks hksz hkat hnk
  obtain ⟨wA, hA⟩ : ∃ wA, wA = w.alloc (.cells #[.int .i64 7, .int .i64 i, .slice A n c, .string t, .slice Ak m ck, .slice Al m cl] 26) := ⟨_, rfl⟩
  have sA : Still w wA := by rw [hA]; exact (Still.refl w).alloc (Nat.le_refl _) _
  have bA : Blk wA w.heap.size 26 #[.int .i64 7, .int .i64 i, .slice A n c, .string t, .slice Ak m ck, .slice Al m cl] := by rw [hA]; exact Blk.new _ _ _
  have hlt := h.lt
  have ne1 : w.heap.size ≠ g := by omega
  have ne2 : R ≠ some w.heap.size := fun e => by have := h.row _ e; omega
  have SZ := Lib.hid (size_any (h.below sA) (T.still sA) 7 m (by omega) (by omega) (by omega))
  obtain ⟨s1, hs1⟩ : ∃ s1, s1 = layS s 7 m := ⟨_, rfl⟩
  rw [← hs1] at SZ ⊢
  clear hs1
  have c0 : wA.cell? ⟨w.heap.size, 0, none⟩ = some (.int .i64 7) := bA.cell 0
  have c5 : wA.cell? ⟨w.heap.size, 5, none⟩ = some (.slice Al m cl) := bA.cell 5
  have V0 := Lib.hid (Via.of_still (g := g) (R := R) sA)
  have BA := Lib.hid bA
  have NE := Lib.hid (⟨ne1, ne2⟩ : w.heap.size ≠ g ∧ R ≠ some w.heap.size)
  have HM := Lib.hid hm
  have HLL := Lib.hid hL
  have HLO := Lib.hid hlt
  have HT := Lib.hid T
  have HW := Lib.hid h
  have HA := Lib.hid hA
  have HIH := Lib.hid IH
  have HMM := Lib.hid hll
  have HG0 := Lib.hid hg0
  obtain ⟨g3, hg3⟩ : ∃ g3, g3 = w.heap.size := ⟨_, rfl⟩
  have HG3 := Lib.hid hg3
  clear hA sA bA ne1 ne2 hm hL hlt T h IH hll hg0
  go_enter Tryd.func44, Tryd.ntmps44
  go_upto_region 1 with fail
  rw [← HA.out]
  rw [← hg3] at c0 c5 BA NE ⊢
  clear hg3 HA
  obtain ⟨fs, hu⟩ := underValue
  have HU := Lib.hid hu
  clear hu
  go_wp2_with fail
  refine SZ.out.mono ?_
  rintro e w1 ⟨rfl, R1, wr1, v1⟩
  have b1 := v1.blk BA.out NE.out.1 NE.out.2
  have k0 : w1.cell? ⟨g3, 0, none⟩ = some (.int .i64 7) := b1.cell 0
  have k5 : w1.cell? ⟨g3, 5, none⟩ = some (.slice Al m cl) := b1.cell 5
  have WR1 := Lib.hid wr1
  have V1 := Lib.hid (V0.out.trans v1)
  have B1 := Lib.hid b1
  have NE1 := Lib.hid (show R1 ≠ some g3 from fun e => NE.out.2 (v1.2 g3 BA.out.lt e))
  clear c0 c5 wr1 v1 b1 SZ V0 BA
  go_wp2_with fail
  go_loopw [16] (fun iv wr => ∃ j : Nat, j ≤ m ∧ iv = .int .i64 j ∧ Hid (∃ R' s', Wr wr lo g R' s' ∧ Via g R1 R' w1 wr ∧ layL 7 s1 l ks = layL 7 s' (l.drop j) (ks.drop j))) (fun iv _ => m - (intOf iv).toNat)
  case atStart => exact ⟨0, by omega, rfl, R1, s1, WR1.out, Via.refl _ _ _, rfl⟩
  case round =>
    obtain ⟨j, hj, rfl, R', s', wr', vr, hs'⟩ := hrel
    have VW := Lib.hid (V1.out.trans vr)
    have VR := Lib.hid vr
    have WR' := Lib.hid wr'
    have HS' := Lib.hid hs'
    clear vr hs'
    by_cases hlt : j < m
    · obtain ⟨gl, ol, rfl, hgl, hh⟩ := HLL.out (by omega)
      obtain ⟨x, hx⟩ : ∃ x, l[j]? = some x := ⟨_, List.getElem?_eq_getElem (by rw [← HM.out]; exact hlt)⟩
      have bel := VW.out.low HW.out
      obtain ⟨⟨lx⟩, hvx, hzx, hcx⟩ := HasL.at l ol (HasL.below bel gl hgl ol l hh) j x hx
      have d1 : (j : Int) < (m : Int) := by omega
      have d2 : (0 : Int) ≤ (j : Int) := by omega
      have d3 : (m : Int) ≤ 1048576 := by have := HMM.out; omega
      have IX := Lib.hid (HIH.out x (List.mem_of_getElem? hx))
      obtain ⟨ky, hky0⟩ : ∃ ky, ky = ks.getD j ByteArray.empty := ⟨_, rfl⟩
      have hky : (ks.drop j).headD ByteArray.empty = ky := by
        rw [hky0, List.headD_eq_head?_getD, List.head?_drop]; rfl
      obtain ⟨gk, ok, rfl, hgk, hck⟩ := HKAT.out (by omega)
      have ckey : wr.cell? ⟨gk, ok + j, none⟩ = some (.string ky) := by rw [hky0]; exact (bel.cell (p := ⟨gk, ok + j, none⟩) hgk).trans (hck j hlt)
      have hkz : ky.size ≤ 1048576 := by
        rw [hky0]
        have hjk : j < ks.length := by rw [← HNK.out]; exact hlt
        refine HKZ.out _ ?_
        simp only [List.getD, List.getElem?_eq_getElem hjk, Option.getD_some]
        exact List.getElem_mem hjk
      have hsx : layL 7 s' (l.drop j) (ks.drop j) = if s'.2 = true then s' else layL 7 (layV (layT s' ky.data.toList) x) (l.drop (j + 1)) (ks.drop (j + 1)) := by
        rw [drop_at l j x hx]
        rw [layL]
        rw [if_pos rfl, hky]
        simp
      have rng : wr.rangeAt gl (ol + j * 6) lx := fun q v hq => by
        have := hcx q v (by simpa using hq)
        rwa [show ol + 6 * j + q = ol + j * 6 + q by omega] at this
      have hlx : lx.length = 6 := by simpa using hzx
      have RNG := Lib.hid rng
      have LX := Lib.hid hlx
      have HSX := Lib.hid hsx
      have HVX := Lib.hid hvx
      have BEL := Lib.hid bel
      have ALLX : Hid (lx.toArray.all (·.oneCell') = true) := Lib.hid (HasV.one hvx)
      have HLT := Lib.hid hlt
      have CK := Lib.hid ckey
      have HKY := Lib.hid hkz
      have HGK := Lib.hid hgk
      clear hlt hx hh hgl hvx hzx hcx bel hsx rng hlx hky0 hky hck ckey hkz hgk
      go_upto_region 5 with (first
        | (guard_target =~ wpList _ _ _ (Oper.mk (some 20) _ _ _ _ _ :: _) _ _; go_must (refine wpList_load_mid rfl 26 (.tmp 19) rfl gl (ol + j * 6) rfl lx (.struct fs) RNG.out HU.out rfl (by rw [sizeValue, LX.out]) ?_))
        | (guard_target =~ wpList _ _ _ (Oper.mk none (Op.store _ _ _) _ _ _ _ :: _) _ _; go_must (refine wpList_store_rowTo rfl 26 (.tmp 5) (.tmp 20) rfl rfl wr.heap.size lx.toArray rfl rfl 26 _ (heap_alloc_new wr _) (by rw [sizeValue]; simp [LX.out]) (by simp [LX.out]) ALLX.out ?_)))
      obtain ⟨gx, hgx⟩ : ∃ gx, gx = wr.heap.size := ⟨_, rfl⟩
      obtain ⟨w2, hw2⟩ : ∃ w2, w2 = (wr.alloc (.cells #[.int .i64 0, .int .i64 0, .slice none 0 0, .string ⟨#[]⟩, .slice none 0 0, .slice none 0 0] 26)).setRow wr.heap.size lx.toArray := ⟨_, rfl⟩
      have s2 : Still wr w2 := by rw [hw2]; exact below_setRow ((Still.refl wr).alloc (Nat.le_refl _) _) (Nat.le_refl _) _
      have bx : Blk w2 gx 26 lx.toArray := by rw [hw2, hgx]; exact setRow_heap _ _ _ _ _ _ (heap_alloc_new wr _)
      have wr2 := WR'.out.below s2
      have v2 : Via g R1 R' w1 w2 := VR.out.trans (Via.of_still s2)
      have b32 := v2.blk B1.out (by have := NE.out.1; exact this) NE1.out
      have c1 := wr2.cells
      have k0 : w2.cell? ⟨g3, 0, none⟩ = some (.int .i64 7) := b32.cell 0
      have bel2 : Below lo wr w2 := Below.mono s2 (by have := WR'.out.lt; exact this.1)
      have T2 := HT.out.below (Below.trans (VW.out.low HW.out) bel2) HG0.out
      have k4 : w2.cell? ⟨g3, 4, none⟩ = some (.slice (some ⟨gk, ok, none⟩) m ck) := b32.cell 4
      have ck2 : w2.cell? ⟨gk, ok + j, none⟩ = some (.string ky) := (bel2.cell (p := ⟨gk, ok + j, none⟩) HGK.out).trans CK.out
      have TX := Lib.hid (text_lay wr2 T2 ky HKY.out)
      have CALL := Lib.hid (fun (w3 : World) (R3 : Option Nat) (q : Wr w3 lo g R3 (layT s' ky.data.toList)) (b : Below lo w2 w3) => IX.out w3 lo g R3 _ lx.toArray q (T2.below b HG0.out) HG0.out (HasV.below b x _ (HasV.below bel2 x _ HVX.out)))
      have NX := Lib.hid (show gx ≠ g ∧ R' ≠ some gx from ⟨by have := WR'.out.lt; omega, fun e => by have := WR'.out.row _ e; omega⟩)
      have V2 := Lib.hid v2
      have WR2 := Lib.hid wr2
      have BX := Lib.hid bx
      have HW2 := Lib.hid hw2
      have HGX := Lib.hid hgx
      rw [← hw2, ← hgx]
      clear s2 bx wr2 v2 b32 bel2 hw2 hgx wr' HW2 HGX T2
      obtain ⟨bb, hb⟩ : ∃ b, b = s'.2 := ⟨_, rfl⟩
      rw [← hb] at c1
      have HB := Lib.hid hb
      clear hb
      cases bb
      · go_wp2_with fail
        refine TX.out.mono ?_
        rintro e w3 ⟨rfl, R3, wr3, v3⟩
        have CL := Lib.hid (CALL.out w3 R3 wr3 (v3.low WR2.out))
        have BX3 := Lib.hid (v3.blk BX.out NX.out.1 NX.out.2)
        have V3 := Lib.hid (V2.out.trans v3)
        clear wr3 v3 CALL TX k0 k4 ck2 c1
        go_upto_region 8 with fail
        refine wp_region_lit ?_
        go_wp2_with (first
          | (guard_target =~ wpList _ _ _ (Oper.mk (some 36) _ _ _ _ _ :: _) _ _; go_must (refine wpList_load_row rfl 26 (.tmp 5) rfl gx rfl _ _ _ _ BX3.out HU.out rfl (by rw [sizeValue]; simp [LX.out]) ?_)))
        refine CL.out.mono ?_
        rintro e w4 ⟨rfl, R4, wr4, v4⟩
        have WR4 := Lib.hid wr4
        have V4 := Lib.hid (V3.out.trans v4)
        clear wr4 v4 CL
        go_wp2_with fail
        go_roundw
        case rel => exact ⟨j + 1, by have := HLT.out; omega, by go_num, R4, layV (layT s' ky.data.toList) x, WR4.out, V4.out, by rw [HS'.out, HSX.out, if_neg (by rw [← HB.out]; decide)]⟩
        case measure => simp [intOf]; have := HLT.out; omega
      · go_wp2_with fail
        (try simp only [Exit.inBlock, Exit.then])
        first | go_end0 | refine bodyPost_ret (results_none rfl _ _ _) rfl ?_
        exact ⟨rfl, R', by rw [HS'.out, HSX.out, if_pos HB.out.symm]; exact WR2.out, V1.out.trans V2.out⟩
    · obtain rfl : j = m := by omega
      have hend : layL 7 s1 l ks = s' := by
        rw [HS'.out, List.drop_of_length_le (by rw [HM.out]; omega)]
        unfold layL
        rfl
      have HE := Lib.hid hend
      clear hend hlt
      go_wp2_with fail
      first | go_end0 | refine bodyPost_ret (results_none rfl _ _ _) rfl ?_
      exact ⟨rfl, R', by rw [HE.out]; exact WR'.out, VW.out⟩
end Go.Proofs.YtmpnehhndhepgaaDoor

/- Contract: a value laid. It proves no statement. -/

namespace Go.Proofs.YtmpnehhndhepgaaDoor
open Go.RowKit
set_option linter.unusedVariables false
set_option linter.unusedSimpArgs false

set_option maxRecDepth 100000 in
set_option maxHeartbeats 1600000 in
theorem value_012 (k : Int) (tg : Nat) (hkt : (k = 0 ∧ tg = 192) ∨ (k = 1 ∧ tg = 194) ∨ (k = 2 ∧ tg = 195)) (i : Int) (vb vt vk vl : Value) {w : World} {lo g : Nat} {R : Option Nat} {s : List UInt8 × Bool} (h : Wr w lo g R s) :
    Calls Tryd.prog 25 #[.pointer (some ⟨g, 0, none⟩), .agg #[.int .i64 k, .int .i64 i, vb, vt, vk, vl]] w fun e w' => e = .returned (.tuple #[]) ∧ Wrote w w' lo g R (lay1 s [UInt8.ofNat tg]) := by
  obtain ⟨wA, hA⟩ : ∃ wA, wA = w.alloc (.cells #[.int .i64 k, .int .i64 i, vb, vt, vk, vl] 26) := ⟨_, rfl⟩
  have sA : Still w wA := by rw [hA]; exact (Still.refl w).alloc (Nat.le_refl _) _
  have bA : Blk wA w.heap.size 26 #[.int .i64 k, .int .i64 i, vb, vt, vk, vl] := by rw [hA]; exact Blk.new _ _ _
  have c0 : wA.cell? ⟨w.heap.size, 0, none⟩ = some (.int .i64 k) := bA.cell 0
  obtain ⟨wB, hB⟩ : ∃ wB, wB = wA.alloc (.cells #[.int .u8 (tg : Int)] 5) := ⟨_, rfl⟩
  have sB : Still wA wB := by rw [hB]; exact (Still.refl wA).alloc (Nat.le_refl _) _
  have rB := one_reads wA tg (by omega)
  rw [← hB] at rB
  have LY := Lib.hid (lay_any ((h.below sA).below sB) _ 1 1 _ _ rB (by omega) (fun e => by cases e))
  have V0 := Lib.hid (Via.of_still (g := g) (R := R) (sA.trans sB))
  have HA := Lib.hid hA
  have HB := Lib.hid hB
  clear sA bA sB rB hA hB h
  rcases hkt with ⟨rfl, rfl⟩ | ⟨rfl, rfl⟩ | ⟨rfl, rfl⟩
  all_goals
    go_enter Tryd.func25, Tryd.ntmps25
    go_upto_region 1 with fail
    rw [← HA.out]
    go_wp2_with fail
    first
      | rw [show (wA.alloc (.cells #[.int .u8 192] 5)) = wB from HB.out.symm]
      | rw [show (wA.alloc (.cells #[.int .u8 194] 5)) = wB from HB.out.symm]
      | rw [show (wA.alloc (.cells #[.int .u8 195] 5)) = wB from HB.out.symm]
    refine LY.out.mono ?_
    rintro e w2 ⟨rfl, R2, wr2, v2⟩
    have WR2 := Lib.hid wr2
    have V2 := Lib.hid (V0.out.trans v2)
    clear wr2 v2
    go_wp2_with fail
    first | go_end0 | refine bodyPost_ret (results_none rfl _ _ _) rfl ?_
    exact ⟨rfl, R2, WR2.out, V2.out⟩

set_option maxRecDepth 100000 in
set_option maxHeartbeats 1600000 in
theorem value_bytes (i : Int) (A : Option Addr) (n c : Nat) (l : List UInt8) (vt vk vl : Value) {w : World} {lo g : Nat} {R : Option Nat} {s : List UInt8 × Bool} (h : Wr w lo g R s) (T : Sizes w) (hr : Reads w lo A n l) (hn : n ≤ 1048576) (hA : A = none → c = 0) :
    Calls Tryd.prog 25 #[.pointer (some ⟨g, 0, none⟩), .agg #[.int .i64 4, .int .i64 i, .slice A n c, vt, vk, vl]] w fun e w' => e = .returned (.tuple #[]) ∧ Wrote w w' lo g R (lay1 (layS s 4 n) l) := by
  obtain ⟨wA, hA'⟩ : ∃ wA, wA = w.alloc (.cells #[.int .i64 4, .int .i64 i, .slice A n c, vt, vk, vl] 26) := ⟨_, rfl⟩
  have sA : Still w wA := by rw [hA']; exact (Still.refl w).alloc (Nat.le_refl _) _
  have bA : Blk wA w.heap.size 26 #[.int .i64 4, .int .i64 i, .slice A n c, vt, vk, vl] := by rw [hA']; exact Blk.new _ _ _
  have hlt := h.lt
  have ne1 : w.heap.size ≠ g := by omega
  have ne2 : R ≠ some w.heap.size := fun e => by have := h.row _ e; omega
  have c0 : wA.cell? ⟨w.heap.size, 0, none⟩ = some (.int .i64 4) := bA.cell 0
  have c2 : wA.cell? ⟨w.heap.size, 2, none⟩ = some (.slice A n c) := bA.cell 2
  have SZ := Lib.hid (size_any (h.below sA) (T.still sA) 4 n (by omega) (by omega) (by omega))
  obtain ⟨s1, hs1⟩ : ∃ s1, s1 = layS s 4 n := ⟨_, rfl⟩
  rw [← hs1] at SZ ⊢
  have V0 := Lib.hid (Via.of_still (g := g) (R := R) sA)
  have BA := Lib.hid bA
  have NE := Lib.hid (⟨ne1, ne2⟩ : w.heap.size ≠ g ∧ R ≠ some w.heap.size)
  have HW := Lib.hid h
  have HR := Lib.hid hr
  have HN := Lib.hid hn
  have HAN := Lib.hid hA
  have HA := Lib.hid hA'
  clear sA bA hA' hlt ne1 ne2 h T hr hn hA hs1
  go_enter Tryd.func25, Tryd.ntmps25
  go_upto_region 1 with fail
  rw [← HA.out]
  clear HA
  go_wp2_with fail
  refine SZ.out.mono ?_
  rintro e w1 ⟨rfl, R1, wr1, v1⟩
  have b1 := v1.blk BA.out NE.out.1 NE.out.2
  have k2 : w1.cell? ⟨w.heap.size, 2, none⟩ = some (.slice A n c) := b1.cell 2
  have V1 := Lib.hid (V0.out.trans v1)
  have LY := Lib.hid (lay_any wr1 A n c l lo (HR.out.below (V1.out.low HW.out)) (by have := HN.out; omega) HAN.out)
  clear c0 c2 wr1 v1 b1 SZ V0 BA
  go_wp2_with fail
  refine LY.out.mono ?_
  rintro e w2 ⟨rfl, R2, wr2, v2⟩
  have WR2 := Lib.hid wr2
  have V2 := Lib.hid (V1.out.trans v2)
  clear wr2 v2
  go_wp2_with fail
  first | go_end0 | refine bodyPost_ret (results_none rfl _ _ _) rfl ?_
  exact ⟨rfl, R2, WR2.out, V2.out⟩

set_option maxRecDepth 100000 in
set_option maxHeartbeats 1600000 in
theorem value_text (i : Int) (t : ByteArray) (vb vk vl : Value) {w : World} {lo g : Nat} {R : Option Nat} {s : List UInt8 × Bool} (h : Wr w lo g R s) (T : Sizes w) (ht : t.size ≤ 1048576) :
    Calls Tryd.prog 25 #[.pointer (some ⟨g, 0, none⟩), .agg #[.int .i64 5, .int .i64 i, vb, .string t, vk, vl]] w fun e w' => e = .returned (.tuple #[]) ∧ Wrote w w' lo g R (layT s t.data.toList) := by
  obtain ⟨wA, hA'⟩ : ∃ wA, wA = w.alloc (.cells #[.int .i64 5, .int .i64 i, vb, .string t, vk, vl] 26) := ⟨_, rfl⟩
  have sA : Still w wA := by rw [hA']; exact (Still.refl w).alloc (Nat.le_refl _) _
  have bA : Blk wA w.heap.size 26 #[.int .i64 5, .int .i64 i, vb, .string t, vk, vl] := by rw [hA']; exact Blk.new _ _ _
  have c0 : wA.cell? ⟨w.heap.size, 0, none⟩ = some (.int .i64 5) := bA.cell 0
  have c3 : wA.cell? ⟨w.heap.size, 3, none⟩ = some (.string t) := bA.cell 3
  have TX := Lib.hid (text_lay (h.below sA) (T.still sA) t ht)
  have V0 := Lib.hid (Via.of_still (g := g) (R := R) sA)
  have HA := Lib.hid hA'
  obtain ⟨s1, hs1⟩ : ∃ s1, s1 = layT s t.data.toList := ⟨_, rfl⟩
  rw [← hs1] at TX ⊢
  clear sA bA hA' h T ht hs1
  go_enter Tryd.func25, Tryd.ntmps25
  go_upto_region 1 with fail
  rw [← HA.out]
  clear HA
  go_wp2_with fail
  refine TX.out.mono ?_
  rintro e w1 ⟨rfl, R1, wr1, v1⟩
  have WR1 := Lib.hid wr1
  have V1 := Lib.hid (V0.out.trans v1)
  clear wr1 v1
  go_wp2_with fail
  first | go_end0 | refine bodyPost_ret (results_none rfl _ _ _) rfl ?_
  exact ⟨rfl, R1, WR1.out, V1.out⟩

set_option maxRecDepth 100000 in
set_option maxHeartbeats 1600000 in
theorem value_list (k : Int) (hk : k = 6 ∨ k = 7) (i : Int) (vb vt vk vl : Value) {w : World} {lo g : Nat} {R : Option Nat} {s' : List UInt8 × Bool}
    (L : ∀ w', Still w w' → Calls Tryd.prog 44 #[.pointer (some ⟨g, 0, none⟩), .agg #[.int .i64 k, .int .i64 i, vb, vt, vk, vl]] w' fun e w'' => e = .returned (.tuple #[]) ∧ Wrote w' w'' lo g R s') :
    Calls Tryd.prog 25 #[.pointer (some ⟨g, 0, none⟩), .agg #[.int .i64 k, .int .i64 i, vb, vt, vk, vl]] w fun e w' => e = .returned (.tuple #[]) ∧ Wrote w w' lo g R s' := by
  obtain ⟨wA, hA'⟩ : ∃ wA, wA = w.alloc (.cells #[.int .i64 k, .int .i64 i, vb, vt, vk, vl] 26) := ⟨_, rfl⟩
  have sA : Still w wA := by rw [hA']; exact (Still.refl w).alloc (Nat.le_refl _) _
  have bA : Blk wA w.heap.size 26 #[.int .i64 k, .int .i64 i, vb, vt, vk, vl] := by rw [hA']; exact Blk.new _ _ _
  have c0 : wA.cell? ⟨w.heap.size, 0, none⟩ = some (.int .i64 k) := bA.cell 0
  have c1 : wA.cell? ⟨w.heap.size, 1, none⟩ = some (.int .i64 i) := bA.cell 1
  have c2 : wA.cell? ⟨w.heap.size, 2, none⟩ = some vb := bA.cell 2
  have c3 : wA.cell? ⟨w.heap.size, 3, none⟩ = some vt := bA.cell 3
  have c4 : wA.cell? ⟨w.heap.size, 4, none⟩ = some vk := bA.cell 4
  have c5 : wA.cell? ⟨w.heap.size, 5, none⟩ = some vl := bA.cell 5
  have LL := Lib.hid (L wA sA)
  have V0 := Lib.hid (Via.of_still (g := g) (R := R) sA)
  have HA := Lib.hid hA'
  clear sA bA hA' L
  rcases hk with rfl | rfl
  all_goals
    go_enter Tryd.func25, Tryd.ntmps25
    go_upto_region 1 with fail
    rw [← HA.out]
    go_wp2_with fail
    refine LL.out.mono ?_
    rintro e w1 ⟨rfl, R1, wr1, v1⟩
    have WR1 := Lib.hid wr1
    have V1 := Lib.hid (V0.out.trans v1)
    clear wr1 v1
    go_wp2_with fail
    first | go_end0 | refine bodyPost_ret (results_none rfl _ _ _) rfl ?_
    exact ⟨rfl, R1, WR1.out, V1.out⟩

/-- Each value that can be is laid. -/
theorem layOK : ∀ (x : Tr) (d : Nat), canT d x = true → LayOK x
  | .mk k i b t ks l, d, hc => by
    intro w lo g R s cs h T hg0 hv
    have hcc := hc
    unfold canT at hcc
    simp only [Bool.and_eq_true, Bool.or_eq_true, decide_eq_true_eq, beq_iff_eq] at hcc
    obtain ⟨⟨⟨⟨_, hk0⟩, hk7⟩, hks⟩, hcl⟩ := hcc
    have hv0 := hv
    unfold HasV at hv
    obtain ⟨A, n, c, Ak, ck, Al, cl, rfl, hkb, hib, ⟨hr, hn, hA⟩, ht, hkeys, hll, hL⟩ := hv
    have hlen := hr.1
    have hcl2 : 6 ≤ k → canL (d + 1) l = true := fun h6 => hcl.resolve_left (by omega)
    have IH : 6 ≤ k → ∀ x ∈ l, LayOK x := fun h6 x hx => layOK x (d + 1) (canL_at l (d + 1) (hcl2 h6) x hx)
    unfold layV
    by_cases e0 : k = 0
    · rw [if_pos e0]; exact value_012 k 192 (.inl ⟨e0, rfl⟩) i _ _ _ _ h
    rw [if_neg e0]
    by_cases e1 : k = 1
    · rw [if_pos e1]; exact value_012 k 194 (.inr (.inl ⟨e1, rfl⟩)) i _ _ _ _ h
    rw [if_neg e1]
    by_cases e2 : k = 2
    · rw [if_pos e2]; exact value_012 k 195 (.inr (.inr ⟨e2, rfl⟩)) i _ _ _ _ h
    rw [if_neg e2]
    by_cases e3 : k = 3
    · rw [if_pos e3, e3]; exact value_int h i _ _ _ _ hib.1 hib.2
    rw [if_neg e3]
    by_cases e4 : k = 4
    · rw [if_pos e4, e4, hlen]; exact value_bytes i A n c b _ _ _ h T hr hn hA
    rw [if_neg e4]
    by_cases e5 : k = 5
    · rw [if_pos e5, e5]; exact value_text i t _ _ _ h T ht
    rw [if_neg e5]
    by_cases e6 : k = 6
    · subst e6
      exact value_list 6 (.inl rfl) i _ _ _ _ fun w' s' => wlist6 i b t ks l (IH (by omega)) w' lo g R s _ (h.below s') (T.still s') hg0 (HasV.below (Below.mono s' h.lt.1) _ _ hv0)
    · have e7 : k = 7 := by omega
      subst e7
      exact value_list 7 (.inr rfl) i _ _ _ _ fun w' s' => wlist7 i b t ks l (IH (by omega)) w' lo g R s _ (h.below s') (T.still s') hg0 (HasV.below (Below.mono s' h.lt.1) _ _ hv0) (by
        rcases hks with h' | h'
        · exact absurd rfl h'
        · exact h'.1)
end Go.Proofs.YtmpnehhndhepgaaDoor

/- Contract: whether texts rise. It proves no statement. -/



namespace Go.Proofs.YtmpnehhndhepgaaDoor
open Go.RowKit
set_option linter.unusedVariables false
set_option linter.unusedSimpArgs false

theorem riseB_iff : ∀ (ks : List ByteArray), riseB ks = true ↔ ∀ j, j + 1 < ks.length → Op.bytesLess (ks.getD j ByteArray.empty).toList (ks.getD (j + 1) ByteArray.empty).toList = true
  | [] => by simp [riseB]
  | [a] => by simp [riseB]
  | a :: b :: r => by
    unfold riseB
    rw [Bool.and_eq_true, riseB_iff (b :: r)]
    constructor
    · rintro ⟨h1, h2⟩ j hj
      match j with
      | 0 => exact h1
      | j + 1 => exact h2 j (by simpa using hj)
    · intro h
      exact ⟨h 0 (by simp), fun j hj => h (j + 1) (by simpa using hj)⟩

set_option maxRecDepth 100000 in
set_option maxHeartbeats 1600000 in
theorem rise_any (A : Option Addr) (c : Nat) (ks : List ByteArray) (w : World) (B : Nat) (h : Keys w B A ks) (hn : ks.length ≤ 1048576) (hBw : B ≤ w.heap.size) :
    Calls Tryd.prog 36 #[.slice A ks.length c] w fun e w' => e = .returned (.bool (riseB ks)) ∧ Still w w' := by
  obtain ⟨m, hm⟩ : ∃ m, m = ks.length := ⟨_, rfl⟩
  have hiff := riseB_iff ks
  have hat := h.2
  rw [← hm] at hn hiff hat ⊢
  obtain ⟨rb, hrb⟩ : ∃ rb, rb = riseB ks := ⟨_, rfl⟩
  rw [← hrb] at hiff ⊢
  have HIFF := Lib.hid hiff
  have HAT := Lib.hid hat
  have d3 : (m : Int) ≤ 1048576 := by omega
  clear hiff hat hm hrb h hn
  go_enter Tryd.func36, Tryd.ntmps36
  go_wp2_with fail
  go_loopw [3] (fun iv wr => ∃ j : Nat, 1 ≤ j ∧ iv = .int .i64 j ∧ Hid ((∀ i, i + 1 < j → i + 1 < m → Op.bytesLess (ks.getD i ByteArray.empty).toList (ks.getD (i + 1) ByteArray.empty).toList = true) ∧ Still w wr)) (fun iv _ => m - (intOf iv).toNat)
  case atStart => exact ⟨1, by omega, rfl, fun i hi => by omega, Still.refl _⟩
  case round =>
    obtain ⟨j, hj, rfl, hin⟩ := hrel
    by_cases hlt : j < m
    · obtain ⟨g, o, rfl, hgB, hc⟩ := HAT.out (by omega)
      have hwn := hin.out.2
      have hgw : g < w.heap.size := by omega
      have c0 : wr.cell? ⟨g, o + (j - 1), none⟩ = some (.string (ks.getD (j - 1) ByteArray.empty)) := (hwn.cell (p := ⟨g, o + (j - 1), none⟩) hgw).trans (hc (j - 1) (by omega))
      have c1 : wr.cell? ⟨g, o + j, none⟩ = some (.string (ks.getD j ByteArray.empty)) := (hwn.cell (p := ⟨g, o + j, none⟩) hgw).trans (hc j hlt)
      obtain ⟨i0, hi0⟩ : ∃ i0, i0 = j - 1 := ⟨_, rfl⟩
      rw [← hi0] at c0
      have e0 : (j : Int) - 1 = (i0 : Int) := by omega
      have e1 : IntKind.i64.wrap ((j : Int) - 1) = (i0 : Int) := by rw [IntKind.wrap_i64]; omega
      have e2 : IntKind.i64.wrap (i0 : Int) = (i0 : Int) := by rw [IntKind.wrap_i64]; omega
      have d1 : (j : Int) < (m : Int) := by omega
      have d2 : (0 : Int) ≤ (j : Int) := by omega
      have d4 : (0 : Int) ≤ (i0 : Int) := by omega
      have d5 : (i0 : Int) < (m : Int) := by omega
      obtain ⟨a, ha⟩ : ∃ a, a = ks.getD i0 ByteArray.empty := ⟨_, rfl⟩
      obtain ⟨b, hb⟩ : ∃ b, b = ks.getD j ByteArray.empty := ⟨_, rfl⟩
      rw [← ha] at c0
      rw [← hb] at c1
      have HA := Lib.hid ha
      have HB := Lib.hid hb
      have HI0 := Lib.hid hi0
      have HWN := Lib.hid hwn
      have HLT := Lib.hid hlt
      have HJ := Lib.hid hj
      clear ha hb hi0 hwn hlt hc hj hgB hgw
      obtain ⟨q, hq⟩ : ∃ q, q = Op.bytesLess a.toList b.toList := ⟨_, rfl⟩
      have hq' := hq.symm
      have HQ := Lib.hid hq
      clear hq
      cases q
      · go_wp2_with fail
        go_quiet (fail)
        go_wp2_with fail
        (try simp only [Exit.inBlock, Exit.then])
        have hr : rb = false := by
          rw [Bool.eq_false_iff]
          intro h
          have h2 := HIFF.out.1 h i0 (by have := HI0.out; have := HJ.out; have := HLT.out; omega)
          rw [← HA.out, show i0 + 1 = j by have := HI0.out; have := HJ.out; omega, ← HB.out, hq'] at h2
          cases h2
        rw [hr]
        go_ret
        exact ⟨rfl, still_drewN HWN.out _⟩
      · go_wp2_with fail
        go_quiet (fail)
        go_wp2_with fail
        go_roundw
        case rel =>
          refine ⟨j + 1, by omega, by go_num, Lib.hid ⟨fun i h1 h2 => ?_, still_drewN HWN.out _⟩⟩
          by_cases hi : i = i0
          · rw [hi, ← HA.out, show i0 + 1 = j by have := HI0.out; have := HJ.out; omega, ← HB.out]; exact hq'
          · exact hin.out.1 i (by have := HI0.out; omega) h2
        case measure => simp [intOf]; have := HLT.out; omega
    · have hr : rb = true := HIFF.out.2 fun i hi => hin.out.1 i (by omega) hi
      have d1 : ¬ (j : Int) < (m : Int) := by omega
      have HR := Lib.hid hr
      clear hr hlt
      have HWN := Lib.hid hin.out.2
      go_wp2_with fail
      go_ret
      rw [HR.out]
      exact ⟨rfl, HWN.out⟩
end Go.Proofs.YtmpnehhndhepgaaDoor

/- Contract: whether a value can be. It proves no statement. -/


namespace Go.Proofs.YtmpnehhndhepgaaDoor
open Go.RowKit
set_option linter.unusedVariables false
set_option linter.unusedSimpArgs false

/-- What is said of 'can' at a depth. -/
def CanOK (d : Nat) : Prop := ∀ (x : Tr) (w : World) (B : Nat) (cs : Array Value), HasV w B x cs → B ≤ w.heap.size →
  Calls Tryd.prog 24 #[.agg cs, .int .i64 (d : Int)] w fun e w' => e = .returned (.bool (canT d x)) ∧ Still w w'

theorem HasV.size {w : World} {B : Nat} {x : Tr} {cs : Array Value} (h : HasV w B x cs) : cs.size = 6 := by
  obtain ⟨k, i, b, t, ks, l⟩ := x
  unfold HasV at h
  obtain ⟨A, n, c, Ak, ck, Al, cl, rfl, _⟩ := h
  rfl

set_option maxRecDepth 100000 in
set_option maxHeartbeats 1600000 in
theorem canf_any (d : Nat) (hd : d ≤ 16) (OK : CanOK (d + 1)) (x : Tr) (w : World) (B gb : Nat) (cs : Array Value) (h : HasV w B x cs) (hB : B ≤ w.heap.size) (hb : w.cell? ⟨gb, 0, none⟩ = some (.int .i64 (d : Int))) :
    Calls Tryd.prog 38 #[.agg cs, .pointer (some ⟨gb, 0, none⟩)] w fun e w' => e = .returned (.bool (!canT (d + 1) x)) ∧ Still w w' := by
  obtain ⟨lx⟩ := cs
  have hz : lx.length = 6 := by have := h.size; simpa using this
  obtain ⟨wA, hA⟩ : ∃ wA, wA = w.alloc (.cells lx.toArray 26) := ⟨_, rfl⟩
  have sA : Still w wA := by rw [hA]; exact (Still.refl w).alloc (Nat.le_refl _) _
  have bA : Blk wA w.heap.size 26 lx.toArray := by rw [hA]; exact Blk.new _ _ _
  have gblt : gb < w.heap.size := by simpa using World.block_lt_of_cell? w _ hb
  have cb : wA.cell? ⟨gb, 0, none⟩ = some (.int .i64 (d : Int)) := (sA.cell (p := ⟨gb, 0, none⟩) gblt).trans hb
  have C := OK x wA B lx.toArray (HasV.below (Below.mono sA hB) x _ h) (Nat.le_trans hB sA.size)
  have e1 : ((d + 1 : Nat) : Int) = (d : Int) + 1 := by omega
  rw [e1] at C
  have e2 : IntKind.i64.wrap ((d : Int) + 1) = (d : Int) + 1 := by rw [IntKind.wrap_i64]; omega
  obtain ⟨q, hq⟩ : ∃ q, q = canT (d + 1) x := ⟨_, rfl⟩
  rw [← hq] at C ⊢
  obtain ⟨fs, hu⟩ := underValue
  have HU := Lib.hid hu
  have CC := Lib.hid C
  have SA := Lib.hid sA
  have BA := Lib.hid bA
  have HA := Lib.hid hA
  have HZ := Lib.hid hz
  clear C sA bA hA hq h hB hb gblt hz hu e1 OK
  go_enter Tryd.func38, Tryd.ntmps38
  go_upto_region 0 with fail
  refine wp_region_lit ?_
  refine wpList_box_arr rfl 26 (.tmp 0) rfl (some 2) rfl _ rfl ?_
  rw [← HA.out]
  go_upto_region 1 with fail
  refine wp_region_lit ?_
  refine wpList_load_row rfl 26 (.tmp 2) rfl w.heap.size rfl _ _ _ _ BA.out HU.out rfl (by rw [sizeValue]; simp [HZ.out]) ?_
  go_wp2_with fail
  refine CC.out.mono ?_
  rintro e w1 ⟨rfl, s1⟩
  have S1 := Lib.hid (SA.out.trans s1)
  clear s1
  go_wp2_with fail
  go_ret
  exact ⟨rfl, S1.out⟩

set_option maxRecDepth 100000 in
set_option maxHeartbeats 1600000 in
theorem indexCan (d : Nat) (hd : d ≤ 16) (OK : CanOK (d + 1)) (A : Option Addr) (l : List Tr) (c gb : Nat) (w : World) (B : Nat) (hB : B ≤ w.heap.size) (hl : l.length ≤ 1048576) (h : 0 < l.length → ∃ g o, A = some ⟨g, o, none⟩ ∧ g < B ∧ HasL w B g o l) (hb : w.cell? ⟨gb, 0, none⟩ = some (.int .i64 (d : Int))) :
    Calls Tryd.prog 61 #[.slice A l.length c, .func (Fn.func 38) #[] #[.pointer (some ⟨gb, 0, none⟩)]] w fun e w' => (∃ r : Int, e = .returned (.int .i64 r) ∧ (canL (d + 1) l = decide (r < 0))) ∧ Still w w' := by
  obtain ⟨m, hm⟩ : ∃ m, m = l.length := ⟨_, rfl⟩
  rw [← hm] at hl h ⊢
  have gblt : gb < w.heap.size := by simpa using World.block_lt_of_cell? w _ hb
  obtain ⟨fs, hu⟩ := underValue
  have HU := Lib.hid hu
  have HH := Lib.hid h
  have HM := Lib.hid hm
  have HGB := Lib.hid gblt
  have HBB := Lib.hid hb
  have HBW := Lib.hid hB
  have d3 : (m : Int) ≤ 1048576 := by omega
  clear hu h hm hb hl gblt hB
  go_enter Tryd.func61, Tryd.ntmps61
  go_wp2_with fail
  go_loopw [8] (fun iv wr => ∃ j : Nat, j ≤ m ∧ iv = .int .i64 j ∧ Hid (Still w wr ∧ canL (d + 1) l = canL (d + 1) (l.drop j))) (fun iv _ => m - (intOf iv).toNat)
  case atStart => exact ⟨0, by omega, rfl, Still.refl _, rfl⟩
  case round =>
    obtain ⟨j, hj, rfl, hin⟩ := hrel
    by_cases hlt : j < m
    · obtain ⟨gl, ol, rfl, hgl, hh⟩ := HH.out (by omega)
      obtain ⟨x, hx⟩ : ∃ x, l[j]? = some x := ⟨_, List.getElem?_eq_getElem (by rw [← HM.out]; exact hlt)⟩
      have bel : Below B w wr := Below.mono hin.out.1 HBW.out
      obtain ⟨⟨lx⟩, hvx, hzx, hcx⟩ := HasL.at l ol (HasL.below bel gl hgl ol l hh) j x hx
      have d1 : (j : Int) < (m : Int) := by omega
      have d2 : (0 : Int) ≤ (j : Int) := by omega
      have hbr : wr.cell? ⟨gb, 0, none⟩ = some (.int .i64 (d : Int)) := (hin.out.1.cell (p := ⟨gb, 0, none⟩) HGB.out).trans HBB.out
      have CF := Lib.hid (canf_any d hd OK x wr B gb lx.toArray hvx (Nat.le_trans HBW.out hin.out.1.size) hbr)
      have hsx : canL (d + 1) (l.drop j) = (canT (d + 1) x && canL (d + 1) (l.drop (j + 1))) := by
        rw [drop_at l j x hx, canL]
      have rng : wr.rangeAt gl (ol + j * 6) lx := fun q v hq => by
        have := hcx q v (by simpa using hq)
        rwa [show ol + 6 * j + q = ol + j * 6 + q by omega] at this
      have hlx : lx.length = 6 := by simpa using hzx
      have RNG := Lib.hid rng
      have LX := Lib.hid hlx
      have HSX := Lib.hid hsx
      have HLT := Lib.hid hlt
      obtain ⟨q, hq⟩ : ∃ q, q = canT (d + 1) x := ⟨_, rfl⟩
      rw [← hq] at CF HSX
      clear hlt hx hh hgl hvx hzx hcx bel hsx rng hlx hbr hq
      cases q
      · go_wp2_with (first
          | (guard_target =~ wpList _ _ _ (Oper.mk (some 15) _ _ _ _ _ :: _) _ _; go_must (refine wpList_load_mid rfl 26 (.tmp 14) rfl gl (ol + j * 6) rfl lx (.struct fs) RNG.out HU.out rfl (by rw [sizeValue, LX.out]) ?_)))
        refine CF.out.mono ?_
        rintro e w1 ⟨rfl, s1⟩
        have S1 := Lib.hid (Still.trans hin.out.1 s1)
        clear s1 CF
        go_wp2_with fail
        (try simp only [Exit.inBlock, Exit.then])
        go_ret
        refine ⟨⟨(j : Int), rfl, ?_⟩, S1.out⟩
        rw [hin.out.2, HSX.out]
        simp
      · go_wp2_with (first
          | (guard_target =~ wpList _ _ _ (Oper.mk (some 15) _ _ _ _ _ :: _) _ _; go_must (refine wpList_load_mid rfl 26 (.tmp 14) rfl gl (ol + j * 6) rfl lx (.struct fs) RNG.out HU.out rfl (by rw [sizeValue, LX.out]) ?_)))
        refine CF.out.mono ?_
        rintro e w1 ⟨rfl, s1⟩
        have S1 := Lib.hid (Still.trans hin.out.1 s1)
        clear s1 CF
        go_wp2_with fail
        go_roundw
        case rel => exact ⟨j + 1, by have := HLT.out; omega, by go_num, S1.out, by rw [hin.out.2, HSX.out]; simp⟩
        case measure => simp [intOf]; have := HLT.out; omega
    · obtain rfl : j = m := by omega
      have hend : canL (d + 1) l = true := by
        rw [hin.out.2, List.drop_of_length_le (by rw [HM.out]; omega)]
        unfold canL
        rfl
      have HE := Lib.hid hend
      clear hend hlt
      go_wp2_with fail
      go_ret
      refine ⟨⟨-1, rfl, ?_⟩, hin.out.1⟩
      rw [HE.out]
      rfl

set_option maxRecDepth 100000 in
set_option maxHeartbeats 1600000 in
theorem containsCan (d : Nat) (hd : d ≤ 16) (OK : CanOK (d + 1)) (A : Option Addr) (l : List Tr) (c gb : Nat) (w : World) (B : Nat) (hB : B ≤ w.heap.size) (hl : l.length ≤ 1048576) (h : 0 < l.length → ∃ g o, A = some ⟨g, o, none⟩ ∧ g < B ∧ HasL w B g o l) (hb : w.cell? ⟨gb, 0, none⟩ = some (.int .i64 (d : Int))) :
    Calls Tryd.prog 37 #[.slice A l.length c, .func (Fn.func 38) #[] #[.pointer (some ⟨gb, 0, none⟩)]] w fun e w' => e = .returned (.bool (!canL (d + 1) l)) ∧ Still w w' := by
  have IX := Lib.hid (indexCan d hd OK A l c gb w B hB hl h hb)
  obtain ⟨m, hm⟩ : ∃ m, m = l.length := ⟨_, rfl⟩
  rw [← hm] at IX ⊢
  obtain ⟨q, hq⟩ : ∃ q, q = canL (d + 1) l := ⟨_, rfl⟩
  rw [← hq] at IX ⊢
  clear hm hq h hb hl hB
  go_enter Tryd.func37, Tryd.ntmps37
  go_wp2_with fail
  refine IX.out.mono ?_
  rintro e w1 ⟨⟨r, rfl, hr⟩, s1⟩
  have HR := Lib.hid hr
  have S1 := Lib.hid s1
  clear hr s1 IX
  go_wp2_with fail
  go_ret
  refine ⟨?_, S1.out⟩
  have e : (!q) = decide (0 ≤ r) := by
    rw [HR.out]
    by_cases h0 : r < 0
    · simp [h0]
    · simp [h0]; omega
  rw [e]
  rfl
end Go.Proofs.YtmpnehhndhepgaaDoor

/- Contract: whether a value can be, whatever value. It proves no statement. -/

namespace Go.Proofs.YtmpnehhndhepgaaDoor
open Go.RowKit
set_option linter.unusedVariables false
set_option linter.unusedSimpArgs false

set_option maxRecDepth 100000 in
set_option maxHeartbeats 1600000 in
theorem can_deep (cs : Array Value) (lx : List Value) (hcs : cs = lx.toArray) (d : Int) (hd : 16 < d) (k i : Int) (v2 v3 v4 v5 : Value) (hlx : lx = [.int .i64 k, .int .i64 i, v2, v3, v4, v5]) (w : World) :
    Calls Tryd.prog 24 #[.agg cs, .int .i64 d] w fun e w' => e = .returned (.bool false) ∧ Still w w' := by
  subst hcs
  subst hlx
  go_enter Tryd.func24, Tryd.ntmps24
  go_wp2_with fail
  (try simp only [Exit.inBlock, Exit.then])
  go_ret
  exact ⟨rfl, ((Still.refl w).alloc (Nat.le_refl _) _).alloc (by simp) _⟩

set_option maxRecDepth 100000 in
set_option maxHeartbeats 1600000 in
theorem can_kind (k i : Int) (v2 v3 v4 v5 : Value) (d : Int) (hd : ¬ 16 < d) (hk : k < 0 ∨ 7 < k) (w : World) :
    Calls Tryd.prog 24 #[.agg #[.int .i64 k, .int .i64 i, v2, v3, v4, v5], .int .i64 d] w fun e w' => e = .returned (.bool false) ∧ Still w w' := by
  have key : k < 0 ∨ (¬ k < 0 ∧ 7 < k) := by omega
  clear hk
  rcases key with h1 | ⟨h1, h2⟩
  all_goals
    go_enter Tryd.func24, Tryd.ntmps24
    go_wp2_with fail
    (try simp only [Exit.inBlock, Exit.then])
    go_ret
    exact ⟨rfl, ((Still.refl w).alloc (Nat.le_refl _) _).alloc (by simp) _⟩

set_option maxRecDepth 100000 in
set_option maxHeartbeats 1600000 in
theorem can_list (d : Nat) (hd : d ≤ 16) (OK : CanOK (d + 1)) (i : Int) (v2 v3 v4 : Value) (Al : Option Addr) (l : List Tr) (cl : Nat) (w : World) (B : Nat) (hB : B ≤ w.heap.size) (hl : l.length ≤ 1048576) (h : 0 < l.length → ∃ g o, Al = some ⟨g, o, none⟩ ∧ g < B ∧ HasL w B g o l) :
    Calls Tryd.prog 24 #[.agg #[.int .i64 6, .int .i64 i, v2, v3, v4, .slice Al l.length cl], .int .i64 (d : Int)] w fun e w' => e = .returned (.bool (canL (d + 1) l)) ∧ Still w w' := by
  obtain ⟨wA, hA⟩ : ∃ wA, wA = (w.alloc (.cells #[.int .i64 6, .int .i64 i, v2, v3, v4, .slice Al l.length cl] 26)).alloc (.cells #[.int .i64 (d : Int)] 3) := ⟨_, rfl⟩
  have sA : Still w wA := by rw [hA]; exact ((Still.refl w).alloc (Nat.le_refl _) _).alloc (by simp) _
  have cb : wA.cell? ⟨w.heap.size + 1, 0, none⟩ = some (.int .i64 (d : Int)) := by
    rw [hA, cell_of_row _ (w.heap.size + 1) 0 #[.int .i64 (d : Int)] 3 (0, 0) (by have := heap_alloc_new (w.alloc (.cells #[.int .i64 6, .int .i64 i, v2, v3, v4, .slice Al l.length cl] 26)) (.cells #[.int .i64 (d : Int)] 3); simpa using this)]
    rfl
  have CF := Lib.hid (containsCan d hd OK Al l cl (w.heap.size + 1) wA B (Nat.le_trans hB sA.size) hl (fun hn => by
    obtain ⟨g, o, e, hg, hh⟩ := h hn
    exact ⟨g, o, e, hg, HasL.below (Below.mono sA hB) g hg o l hh⟩) cb)
  obtain ⟨m, hm⟩ : ∃ m, m = l.length := ⟨_, rfl⟩
  rw [← hm] at CF hA ⊢
  obtain ⟨q, hq⟩ : ∃ q, q = canL (d + 1) l := ⟨_, rfl⟩
  rw [← hq] at CF ⊢
  have SA := Lib.hid sA
  have HA := Lib.hid hA
  have d1 : ¬ 16 < (d : Int) := by omega
  clear sA hA cb hm hq h hl hB hd
  go_enter Tryd.func24, Tryd.ntmps24
  go_wp2_with fail
  rw [← HA.out]
  refine CF.out.mono ?_
  rintro e w1 ⟨rfl, s1⟩
  have S1 := Lib.hid (SA.out.trans s1)
  clear s1
  go_wp2_with fail
  go_ret
  exact ⟨by simp, S1.out⟩

set_option maxRecDepth 100000 in
set_option maxHeartbeats 1600000 in
theorem can_map (d : Nat) (hd : d ≤ 16) (OK : CanOK (d + 1)) (i : Int) (v2 v3 : Value) (Ak : Option Addr) (ks : List ByteArray) (ck : Nat) (Al : Option Addr) (l : List Tr) (cl : Nat) (w : World) (B : Nat) (hB : B ≤ w.heap.size) (hl : l.length ≤ 1048576) (hks : Keys w B Ak ks) (hkl : ks.length ≤ 1048576) (h : 0 < l.length → ∃ g o, Al = some ⟨g, o, none⟩ ∧ g < B ∧ HasL w B g o l) :
    Calls Tryd.prog 24 #[.agg #[.int .i64 7, .int .i64 i, v2, v3, .slice Ak ks.length ck, .slice Al l.length cl], .int .i64 (d : Int)] w fun e w' => e = .returned (.bool ((ks.length == l.length && riseB ks) && canL (d + 1) l)) ∧ Still w w' := by
  obtain ⟨wA, hA⟩ : ∃ wA, wA = (w.alloc (.cells #[.int .i64 7, .int .i64 i, v2, v3, .slice Ak ks.length ck, .slice Al l.length cl] 26)).alloc (.cells #[.int .i64 (d : Int)] 3) := ⟨_, rfl⟩
  have sA : Still w wA := by rw [hA]; exact ((Still.refl w).alloc (Nat.le_refl _) _).alloc (by simp) _
  have bA : Blk wA w.heap.size 26 #[.int .i64 7, .int .i64 i, v2, v3, .slice Ak ks.length ck, .slice Al l.length cl] := by
    rw [hA]; exact (Blk.new _ _ _).alloc _
  have cb : wA.cell? ⟨w.heap.size + 1, 0, none⟩ = some (.int .i64 (d : Int)) := by
    rw [hA, cell_of_row _ (w.heap.size + 1) 0 #[.int .i64 (d : Int)] 3 (0, 0) (by have := heap_alloc_new (w.alloc (.cells #[.int .i64 7, .int .i64 i, v2, v3, .slice Ak ks.length ck, .slice Al l.length cl] 26)) (.cells #[.int .i64 (d : Int)] 3); simpa using this)]
    rfl
  have hzA : w.heap.size + 1 < wA.heap.size := by rw [hA]; simp
  have hB' := Nat.le_trans hB sA.size
  have RS := Lib.hid (rise_any Ak ck ks wA B (hks.below (Below.mono sA hB)) hkl hB')
  have CF := Lib.hid (fun (w1 : World) (s1 : Still wA w1) => containsCan d hd OK Al l cl (w.heap.size + 1) w1 B (Nat.le_trans hB' s1.size) hl (fun hn => by
    obtain ⟨g, o, e, hg, hh⟩ := h hn
    exact ⟨g, o, e, hg, HasL.below (Below.mono (sA.trans s1) hB) g hg o l hh⟩) ((s1.cell (p := ⟨w.heap.size + 1, 0, none⟩) hzA).trans cb))
  obtain ⟨m, hm⟩ : ∃ m, m = l.length := ⟨_, rfl⟩
  obtain ⟨nk, hnk⟩ : ∃ nk, nk = ks.length := ⟨_, rfl⟩
  rw [← hm] at CF hA bA ⊢
  rw [← hnk] at RS hA bA ⊢
  obtain ⟨q, hq⟩ : ∃ q, q = canL (d + 1) l := ⟨_, rfl⟩
  rw [← hq] at CF ⊢
  obtain ⟨rb, hrb⟩ : ∃ rb, rb = riseB ks := ⟨_, rfl⟩
  rw [← hrb] at RS ⊢
  have SA := Lib.hid sA
  have HA := Lib.hid hA
  have BA := Lib.hid bA
  have d1 : ¬ 16 < (d : Int) := by omega
  clear sA hA cb bA hm hnk hq hrb h hl hB hd hB' hzA hks hkl
  by_cases hne : nk = m
  · have d2 : ((nk : Int) != (m : Int)) = false := by simp; omega
    have e0 : (nk == m) = true := by simpa using hne
    rw [e0]
    clear hne e0
    cases rb
    · go_enter Tryd.func24, Tryd.ntmps24
      go_wp2_with fail
      rw [← HA.out]
      refine RS.out.mono ?_
      rintro e w1 ⟨rfl, s1⟩
      have S1 := Lib.hid (SA.out.trans s1)
      clear s1
      go_wp2_with fail
      (try simp only [Exit.inBlock, Exit.then])
      go_ret
      exact ⟨by simp, S1.out⟩
    · go_enter Tryd.func24, Tryd.ntmps24
      go_wp2_with fail
      rw [← HA.out]
      refine RS.out.mono ?_
      rintro e w1 ⟨rfl, s1⟩
      have b1 := BA.out.still s1
      have k0 : w1.cell? ⟨w.heap.size, 0, none⟩ = some (.int .i64 7) := b1.cell 0
      have k5 : w1.cell? ⟨w.heap.size, 5, none⟩ = some (.slice Al m cl) := b1.cell 5
      have C1 := Lib.hid (CF.out w1 s1)
      have S1 := Lib.hid (SA.out.trans s1)
      clear s1 b1 CF RS
      go_wp2_with fail
      refine C1.out.mono ?_
      rintro e w2 ⟨rfl, s2⟩
      have S2 := Lib.hid (Still.trans (show Still w w1 from S1.out) s2)
      clear s2
      go_wp2_with fail
      go_ret
      exact ⟨by simp, S2.out⟩
  · have d2 : ((nk : Int) != (m : Int)) = true := by simp; omega
    have e0 : (nk == m) = false := by simpa using hne
    rw [e0]
    clear hne e0
    go_enter Tryd.func24, Tryd.ntmps24
    go_wp2_with fail
    (try simp only [Exit.inBlock, Exit.then])
    go_ret
    exact ⟨by simp, ((Still.refl w).alloc (Nat.le_refl _) _).alloc (by simp) _⟩

/-- Whether a value can be, at a depth of up to 17. -/
theorem canOK : ∀ (n d : Nat), d + n = 17 → CanOK d := by
  intro n
  induction n with
  | zero =>
    intro d hd x w B cs h hB
    obtain rfl : d = 17 := by omega
    obtain ⟨k, i, b, t, ks, l⟩ := x
    unfold HasV at h
    obtain ⟨A, n, c, Ak, ck, Al, cl, rfl, _⟩ := h
    have e : canT 17 (.mk k i b t ks l) = false := by unfold canT; simp
    rw [e]
    exact can_deep _ _ rfl 17 (by omega) k i _ _ _ _ rfl w
  | succ n ih =>
    intro d hd x w B cs h hB
    have OK := ih (d + 1) (by omega)
    obtain ⟨k, i, b, t, ks, l⟩ := x
    unfold HasV at h
    obtain ⟨A, n', c, Ak, ck, Al, cl, rfl, hkb, hib, hr, ht, ⟨hkeys, hkl⟩, hll, hL⟩ := h
    have hd16 : d ≤ 16 := by omega
    by_cases hk : k < 0 ∨ 7 < k
    · have e : canT d (.mk k i b t ks l) = false := by
        unfold canT
        rcases hk with h | h
        · rw [show decide (0 ≤ k) = false by simpa using h]; simp
        · rw [show decide (k ≤ 7) = false by simpa using h]; simp
      rw [e]
      exact can_kind k i _ _ _ _ d (by omega) hk w
    · by_cases h5 : k ≤ 5
      · have e : canT d (.mk k i b t ks l) = true := by
          unfold canT
          rw [show decide (d ≤ 16) = true by simpa using hd16, show decide (0 ≤ k) = true by simp; omega, show decide (k ≤ 7) = true by simp; omega, show decide (k ≠ 7) = true by simp; omega, show decide (k < 6) = true by simp; omega]
          rfl
        rw [e]
        exact can_leaf k i _ _ _ _ w d (by omega) (by omega) h5
      · by_cases h6 : k = 6
        · subst h6
          have e : canT d (.mk 6 i b t ks l) = canL (d + 1) l := by
            unfold canT
            rw [show decide (d ≤ 16) = true by simpa using hd16]
            simp
          rw [e]
          exact can_list d hd16 OK i _ _ _ Al l cl w B hB hll hL
        · obtain rfl : k = 7 := by omega
          have e : canT d (.mk 7 i b t ks l) = ((ks.length == l.length && riseB ks) && canL (d + 1) l) := by
            unfold canT
            rw [show decide (d ≤ 16) = true by simpa using hd16]
            simp
          rw [e]
          exact can_map d hd16 OK i _ _ Ak ks ck Al l cl w B hB hll hkeys hkl hL
theorem can_any (d : Nat) (hd : d ≤ 17) : CanOK d := canOK (17 - d) d (by omega)
end Go.Proofs.YtmpnehhndhepgaaDoor

/- Contract: Encode, whatever value. It proves no statement. -/



namespace Go.Proofs.YtmpnehhndhepgaaDoor
open Go.RowKit
set_option linter.unusedVariables false
set_option linter.unusedSimpArgs false

mutual
theorem HasV.more {w : World} {B B' : Nat} (hB : B ≤ B') : ∀ (t : Tr) (cs : Array Value), HasV w B t cs → HasV w B' t cs
  | .mk k i b t ks l, cs, h => by
    unfold HasV at h ⊢
    obtain ⟨A, n, c, Ak, ck, Al, cl, e, hk, hi, ⟨hr, h1, h2⟩, ht, ⟨hks, hkl⟩, hl, hL⟩ := h
    refine ⟨A, n, c, Ak, ck, Al, cl, e, hk, hi, ⟨hr.more hB, h1, h2⟩, ht, ⟨⟨hks.1, fun hn => ?_⟩, hkl⟩, hl, fun hn => ?_⟩
    · obtain ⟨g, o, e2, hg, hh⟩ := hks.2 hn
      exact ⟨g, o, e2, by omega, hh⟩
    · obtain ⟨g, o, e2, hg, hh⟩ := hL hn
      exact ⟨g, o, e2, by omega, HasL.more hB g o l hh⟩
theorem HasL.more {w : World} {B B' : Nat} (hB : B ≤ B') (g : Nat) : ∀ (o : Nat) (l : List Tr), HasL w B g o l → HasL w B' g o l
  | _, [], _ => by unfold HasL; trivial
  | o, x :: r, h => by
    unfold HasL at h ⊢
    obtain ⟨⟨cs, hv, hz, hc⟩, hr⟩ := h
    exact ⟨⟨cs, HasV.more hB x cs hv, hz, hc⟩, HasL.more hB g (o + 6) r hr⟩
end
/-- What Encode answers: the bytes, and the error. -/
def encR (t : Tr) : List UInt8 × Int := if canT 1 t = false then ([], 4) else if (layV ([], false) t).2 = true then ([], 5) else ((layV ([], false) t).1, 0)

set_option maxRecDepth 100000 in
set_option maxHeartbeats 1600000 in
theorem encode_any (t : Tr) (cs : Array Value) (w : World) (B : Nat) (h : HasV w B t cs) (hB : B ≤ w.heap.size) (T : Sizes w) :
    Calls Tryd.prog 10 #[.agg cs] w fun e w' => (∃ v, e = .returned (.tuple #[v, .int .i64 (encR t).2]) ∧ w'.ownsRow w.heap.size 5 1 v (encR t).1.length (bytesV (encR t).1)) ∧ Still w w' := by
  obtain ⟨lx⟩ := cs
  have hz : lx.length = 6 := by have := h.size; simpa using this
  obtain ⟨wA, hA⟩ : ∃ wA, wA = w.alloc (.cells lx.toArray 26) := ⟨_, rfl⟩
  have sA : Still w wA := by rw [hA]; exact (Still.refl w).alloc (Nat.le_refl _) _
  have bA : Blk wA w.heap.size 26 lx.toArray := by rw [hA]; exact Blk.new _ _ _
  have CAN := Lib.hid (can_any 1 (by omega) t wA B lx.toArray (HasV.below (Below.mono sA hB) t _ h) (Nat.le_trans hB sA.size))
  have CAN' : Hid (Calls Tryd.prog 24 #[.agg lx.toArray, .int .i64 1] wA fun e w' => e = .returned (.bool (canT 1 t)) ∧ Still wA w') := CAN
  clear CAN
  obtain ⟨fs, hu⟩ := underValue
  have HU := Lib.hid hu
  have SA := Lib.hid sA
  have BA := Lib.hid bA
  have HA := Lib.hid hA
  have HZ := Lib.hid hz
  have HH := Lib.hid h
  have HBW := Lib.hid hB
  have HT := Lib.hid T
  clear sA bA hA hz hu h hB T
  cases hc : canT 1 t
  · have e : encR t = ([], 4) := by unfold encR; rw [if_pos hc]
    rw [hc] at CAN'
    have HE := Lib.hid e
    clear e hc
    go_enter Tryd.func10, Tryd.ntmps10
    go_upto_region 0 with fail
    refine wp_region_lit ?_
    refine wpList_box_arr rfl 26 (.tmp 0) rfl (some 1) rfl _ rfl ?_
    rw [← HA.out]
    go_upto_region 1 with fail
    refine wp_region_lit ?_
    refine wpList_load_row rfl 26 (.tmp 1) rfl w.heap.size rfl _ _ _ _ BA.out HU.out rfl (by rw [sizeValue]; simp [HZ.out]) ?_
    go_wp2_with fail
    refine CAN'.out.mono ?_
    rintro e w1 ⟨rfl, s1⟩
    have S1 := Lib.hid (SA.out.trans s1)
    clear s1
    go_wp2_with fail
    (try simp only [Exit.inBlock, Exit.then])
    go_ret2
    rw [HE.out]
    exact ⟨⟨_, rfl, World.ownsRow_nil _ _ _ _⟩, S1.out⟩
  · have LAY := Lib.hid (layOK t 1 hc)
    obtain ⟨s', hs'⟩ : ∃ s', s' = layV ([], false) t := ⟨_, rfl⟩
    have LAY2 : Hid (∀ (w : World) (lo g : Nat), Wr w lo g none ([], false) → Sizes w → 0 < lo → HasV w lo t lx.toArray → Calls Tryd.prog 25 #[.pointer (some ⟨g, 0, none⟩), .agg lx.toArray] w fun e w' => e = .returned (.tuple #[]) ∧ Wrote w w' lo g none s') :=
      Lib.hid fun w lo g h1 h2 h3 h4 => by rw [hs']; exact LAY.out w lo g none ([], false) lx.toArray h1 h2 h3 h4
    have e : encR t = if s'.2 = true then ([], 5) else (s'.1, 0) := by unfold encR; rw [if_neg (by rw [hc]; decide), ← hs']
    rw [hc] at CAN'
    have HE := Lib.hid e
    clear e hc hs' LAY
    go_enter Tryd.func10, Tryd.ntmps10
    go_upto_region 0 with fail
    refine wp_region_lit ?_
    refine wpList_box_arr rfl 26 (.tmp 0) rfl (some 1) rfl _ rfl ?_
    rw [← HA.out]
    go_upto_region 1 with fail
    refine wp_region_lit ?_
    refine wpList_load_row rfl 26 (.tmp 1) rfl w.heap.size rfl _ _ _ _ BA.out HU.out rfl (by rw [sizeValue]; simp [HZ.out]) ?_
    go_wp2_with fail
    refine CAN'.out.mono ?_
    rintro e w1 ⟨rfl, s1⟩
    have S1 := Lib.hid (SA.out.trans s1)
    have B1 := Lib.hid (BA.out.still s1)
    clear s1 CAN' BA
    go_upto_region 4 with fail
    obtain ⟨w2, hw2⟩ : ∃ w2, w2 = w1.alloc (.cells #[.slice none 0 0, .bool false] 53) := ⟨_, rfl⟩
    have s2 : Still w1 w2 := by rw [hw2]; exact (Still.refl w1).alloc (Nat.le_refl _) _
    have wr2 : Wr w2 w1.heap.size w1.heap.size none ([], false) :=
      ⟨Nat.le_refl _, by simp, none, 0, rfl, by rw [hw2]; exact Blk.new _ _ _, World.ownsRow_nil _ _ _ _, by simp⟩
    have S2 := Lib.hid (Still.trans (show Still w w1 from S1.out) s2)
    have Z2 := Lib.hid (show w.heap.size ≤ w1.heap.size from S1.out.size)
    have LV := Lib.hid (LAY2.out w2 w1.heap.size w1.heap.size wr2 (HT.out.still S2.out) (Nat.lt_of_lt_of_le HT.out.lt Z2.out) (HasV.more (Nat.le_trans HBW.out Z2.out) t _ (HasV.below (Below.mono S2.out HBW.out) t _ HH.out)))
    have B2 := Lib.hid (B1.out.still s2)
    have WR2 := Lib.hid wr2
    rw [← hw2]
    obtain ⟨g, hg⟩ : ∃ g, g = w1.heap.size := ⟨_, rfl⟩
    rw [← hg] at WR2 Z2 LV ⊢
    clear hw2 s2 wr2 hg LAY2
    refine wp_region_lit ?_
    refine wpList_load_row rfl 26 (.tmp 1) rfl w.heap.size rfl _ _ _ _ B2.out HU.out rfl (by rw [sizeValue]; simp [HZ.out]) ?_
    go_wp2_with fail
    refine LV.out.mono ?_
    rintro e w3 ⟨rfl, R3, wr3, v3⟩
    have S3 := Lib.hid (show Still w w3 from Below.trans S2.out (Below.mono (v3.low WR2.out) Z2.out))
    obtain ⟨q1, q2, A, c, -, hb3, own3, -⟩ := wr3
    have k0 : w3.cell? ⟨g, 0, none⟩ = some (.slice A s'.1.length c) := hb3.cell 0
    have k1 : w3.cell? ⟨g, 1, none⟩ = some (.bool s'.2) := hb3.cell 1
    have O3 : Hid (w3.ownsRow w.heap.size 5 1 (.slice A s'.1.length c) s'.1.length (bytesV s'.1)) := Lib.hid (own_rebase own3 Z2.out)
    clear q1 q2 hb3 own3 v3
    generalize hn : s'.1.length = n at *
    have HNN := Lib.hid hn
    obtain ⟨b, hb⟩ : ∃ b, b = s'.2 := ⟨_, rfl⟩
    rw [← hb] at k1
    have HBB := Lib.hid hb
    clear hn hb
    cases b
    · go_wp2_with fail
      go_ret2
      rw [HE.out, if_neg (by rw [← HBB.out]; decide)]
      simp only
      rw [HNN.out]
      exact ⟨⟨_, rfl, O3.out⟩, S3.out⟩
    · go_wp2_with fail
      (try simp only [Exit.inBlock, Exit.then])
      go_ret2
      rw [HE.out, if_pos HBB.out.symm]
      exact ⟨⟨_, rfl, World.ownsRow_nil _ _ _ _⟩, S3.out⟩
end Go.Proofs.YtmpnehhndhepgaaDoor

/- What the writer lays is the value's bytes, or it is too much. It proves no statement. -/

namespace Go.Proofs.YtmpnehhndhepgaaDoor
open Go.RowKit
set_option linter.unusedVariables false
set_option linter.unusedSimpArgs false

/-- A size as bytes; of one that is too great: more bytes than may be. -/
def szB (k n : Nat) : List UInt8 := if 65535 < n then List.replicate 65537 0 else UInt8.ofNat (st k n) :: numB (st k n) n
/-- A text as bytes. -/
def txB (t : List UInt8) : List UInt8 := szB 5 t.length ++ t
mutual
/-- A value as bytes. -/
def encT : Tr → List UInt8
  | .mk k i b t ks l =>
    if k = 0 then [192] else if k = 1 then [194] else if k = 2 then [195] else if k = 3 then encI i
    else if k = 4 then szB 4 b.length ++ b else if k = 5 then txB t.data.toList else szB k.toNat l.length ++ encL k l ks
def encL (k : Int) : List Tr → List ByteArray → List UInt8
  | [], _ => []
  | x :: r, ks => (if k = 7 then txB (ks.headD ByteArray.empty).data.toList else []) ++ (encT x ++ encL k r ks.tail)
end

/-- f lays just E, or says that it is too much. -/
def Lays (f : List UInt8 × Bool → List UInt8 × Bool) (E : List UInt8) : Prop :=
  ∀ s, (s.2 = true → (f s).2 = true) ∧ (s.2 = false → s.1.length ≤ 65536 → if s.1.length + E.length ≤ 65536 then f s = (s.1 ++ E, false) else (f s).2 = true)
theorem Lays.one (l : List UInt8) : Lays (fun s => lay1 s l) l := by
  intro s
  refine ⟨fun h => ?_, fun h hl => ?_⟩
  · simp only; unfold lay1; split
    · rfl
    · exact h
  · simp only
    by_cases hb : s.1.length + l.length ≤ 65536
    · rw [if_pos hb]; unfold lay1; rw [if_neg (by omega), h]
    · rw [if_neg hb]; unfold lay1; rw [if_pos (by omega)]
theorem Lays.comp {f g : List UInt8 × Bool → List UInt8 × Bool} {E F : List UInt8} (hf : Lays f E) (hg : Lays g F) : Lays (fun s => g (f s)) (E ++ F) := by
  intro s
  refine ⟨fun h => (hg _).1 ((hf s).1 h), fun h hl => ?_⟩
  have h1 := (hf s).2 h hl
  by_cases hb : s.1.length + E.length ≤ 65536
  · rw [if_pos hb] at h1
    have h2 := (hg (f s)).2 (by rw [h1]) (by rw [h1]; simp only [List.length_append]; exact hb)
    rw [h1] at h2
    simp only [List.length_append] at h2 ⊢
    by_cases hc : s.1.length + (E.length + F.length) ≤ 65536
    · rw [if_pos (by omega)] at h2
      rw [if_pos hc, h1, h2, List.append_assoc]
    · rw [if_neg (by omega)] at h2
      rw [if_neg hc, h1]; exact h2
  · rw [if_neg hb] at h1
    rw [if_neg (by simp only [List.length_append]; omega)]
    exact (hg _).1 h1
theorem Lays.id' : Lays (fun s => s) [] := by
  intro s
  refine ⟨fun h => h, fun h hl => ?_⟩
  simp only [List.length_nil, List.append_nil, Nat.add_zero]
  rw [if_pos hl]
  exact Prod.ext rfl h
/-- Where it is too much already, f may as well stop. -/
theorem Lays.stop {f : List UInt8 × Bool → List UInt8 × Bool} {E : List UInt8} (hf : Lays f E) : Lays (fun s => if s.2 = true then s else f s) E := by
  intro s
  refine ⟨fun h => ?_, fun h hl => ?_⟩
  · simp only; rw [if_pos h]; exact h
  · have e : (if s.2 = true then s else f s) = f s := if_neg (by rw [h]; decide)
    simp only
    rw [e]
    exact (hf s).2 h hl
theorem Lays.then_stop {f g : List UInt8 × Bool → List UInt8 × Bool} {E F : List UInt8} (hf : Lays f E) (hg : Lays g F) : Lays (fun s => if (f s).2 = true then f s else g (f s)) (E ++ F) := Lays.comp hf hg.stop
theorem lays_size (k n : Nat) : Lays (fun s => layS s k n) (szB k n) := by
  unfold szB
  by_cases hn : 65535 < n
  · rw [if_pos hn]
    intro s
    refine ⟨fun h => ?_, fun h hl => ?_⟩
    · simp only; unfold layS; rw [if_pos hn]
    · rw [if_neg (by simp only [List.length_replicate]; omega)]
      simp only; unfold layS; rw [if_pos hn]
  · rw [if_neg hn]
    have h := Lays.comp (Lays.one [UInt8.ofNat (st k n)]) (Lays.one (numB (st k n) n))
    have e : (fun s => layS s k n) = fun s => lay1 (lay1 s [UInt8.ofNat (st k n)]) (numB (st k n) n) := by
      funext s; unfold layS layN; rw [if_neg hn]
    rw [e]
    exact h
theorem lays_text (t : List UInt8) : Lays (fun s => layT s t) (txB t) := by
  have h := Lays.then_stop (lays_size 5 t.length) (Lays.one t)
  exact h
mutual
theorem lays_value : ∀ (x : Tr), Lays (fun s => layV s x) (encT x)
  | .mk k i b t ks l => by
    have e : (fun s => layV s (.mk k i b t ks l)) = fun s => if k = 0 then lay1 s [192] else if k = 1 then lay1 s [194] else if k = 2 then lay1 s [195] else if k = 3 then layN s (nt i) (ux i)
      else if k = 4 then lay1 (layS s 4 b.length) b else if k = 5 then layT s t.data.toList else layL k (layS s k.toNat l.length) l ks := by funext s; rw [layV]
    rw [e, encT]
    by_cases e0 : k = 0
    · simp only [if_pos e0]; exact Lays.one _
    by_cases e1 : k = 1
    · simp only [if_neg e0, if_pos e1]; exact Lays.one _
    by_cases e2 : k = 2
    · simp only [if_neg e0, if_neg e1, if_pos e2]; exact Lays.one _
    by_cases e3 : k = 3
    · simp only [if_neg e0, if_neg e1, if_neg e2, if_pos e3]
      exact Lays.comp (Lays.one [UInt8.ofNat (nt i)]) (Lays.one (numB (nt i) (ux i)))
    by_cases e4 : k = 4
    · simp only [if_neg e0, if_neg e1, if_neg e2, if_neg e3, if_pos e4]
      exact Lays.comp (lays_size 4 b.length) (Lays.one b)
    by_cases e5 : k = 5
    · simp only [if_neg e0, if_neg e1, if_neg e2, if_neg e3, if_neg e4, if_pos e5]
      exact lays_text _
    simp only [if_neg e0, if_neg e1, if_neg e2, if_neg e3, if_neg e4, if_neg e5]
    exact Lays.comp (lays_size k.toNat l.length) (lays_list k l ks)
theorem lays_list (k : Int) : ∀ (l : List Tr) (ks : List ByteArray), Lays (fun s => layL k s l ks) (encL k l ks)
  | [], ks => by
    have e : (fun s => layL k s [] ks) = fun s => s := by funext s; rw [layL]
    rw [e, encL]
    exact Lays.id'
  | x :: r, ks => by
    have e : (fun s => layL k s (x :: r) ks) = fun s => if s.2 = true then s else layL k (layV (if k = 7 then layT s (ks.headD ByteArray.empty).data.toList else s) x) r ks.tail := by funext s; rw [layL]
    rw [e, encL]
    refine Lays.stop ?_
    have h := Lays.comp (lays_value x) (lays_list k r ks.tail)
    by_cases h7 : k = 7
    · simp only [if_pos h7]
      exact Lays.comp (lays_text (ks.headD ByteArray.empty).data.toList) h
    · simp only [if_neg h7, List.nil_append]
      exact h
end
/-- What Encode answers, by the bytes. -/
theorem encR_eq (t : Tr) : encR t = if canT 1 t = false then ([], 4) else if 65536 < (encT t).length then ([], 5) else (encT t, 0) := by
  unfold encR
  by_cases hc : canT 1 t = false
  · rw [if_pos hc, if_pos hc]
  · rw [if_neg hc, if_neg hc]
    have h := (lays_value t ([], false)).2 rfl (by simp)
    simp only [List.length_nil, Nat.zero_add, List.nil_append] at h
    by_cases hb : (encT t).length ≤ 65536
    · rw [if_pos hb] at h
      rw [h, if_neg (show ¬ (false = true) by decide), if_neg (by omega)]
    · rw [if_neg hb] at h
      rw [if_pos h, if_pos (by omega)]
end Go.Proofs.YtmpnehhndhepgaaDoor
