/- Contracts: a number as a value, read. It proves no statement. -/
import Derived.Test.YtomhpnomcciniaaDoorPackRdNum
import Derived.Laws.CopyOwn
import Derived.Deep.WholeRow
import Derived.Great.BuildSlice
namespace Go.Proofs.YtomhpnomcciniaaDoor
open Go.RowKit
set_option linter.unusedVariables false
set_option linter.unusedSimpArgs false

theorem grown_alloc {w wa : World} {r : Option Nat} (h : w.grownBy wa r) (o : Obj) : w.grownBy (wa.alloc o) r := grown_trans h (grown_of_still ((Still.refl wa).alloc (Nat.le_refl _) o))
theorem grown_set {w wa : World} {r : Option Nat} (h : w.grownBy wa r) {b i : Nat} (hb : w.heap.size ≤ b) (u : Value) : w.grownBy (wa.setCell ⟨b, i, none⟩ u) r :=
  ⟨h.os, h.tape, h.output, by have := h.size; simpa [World.setCell] using this, fun k hk hr => (Below.heap_setCell wa _ u k (by simp only; omega)).trans (h.block k hk hr)⟩
theorem grown_row {w wa : World} {r : Option Nat} (h : w.grownBy wa r) {b : Nat} (hb : w.heap.size ≤ b) (cs : Array Value) : w.grownBy (wa.setRow b cs) r :=
  ⟨h.os, h.tape, h.output, by have := h.size; simpa [World.setRow] using this, fun k hk hr => (setRow_other wa b k cs (by omega)).trans (h.block k hk hr)⟩
theorem Rd.set {w : World} {lo B h g : Nat} {l : List UInt8} {x : Int} (r : Rd w lo B h g l x) {b i : Nat} (hb : B ≤ b) (u : Value) : Rd (w.setCell ⟨b, i, none⟩ u) lo B h g l x := r.below ((Below.refl _ _).setCell hb u)

set_option maxRecDepth 100000 in
theorem rnum_zero (P : Value) (w : World) (t : Nat) (hb : bh t = 0) (x : Int) (hx : IntKind.i8.wrap (t : Int) = x) (h1 : -32 ≤ x) (h2 : x ≤ 127) :
    Calls Tryd.prog 52 #[P, .int .u8 (t : Int)] w fun e w' => e = .returned (.tuple #[.int .i64 x, .int .i64 0]) ∧ w = w' := by
  have BH := Lib.hid (behind_any t w)
  rw [hb] at BH
  have BH' : Hid (Calls Tryd.prog 64 #[.int .u8 (t : Int)] w fun e w' => e = .returned (.int .i64 0) ∧ w = w') := BH
  clear BH hb
  go_enter Tryd.func52, Tryd.ntmps52
  go_wp2_with fail
  refine BH'.out.mono ?_
  rintro e w1 ⟨rfl, rfl⟩
  go_wp2_with fail
  go_ret2
  exact ⟨rfl, rfl⟩

/-- What was written of a number is read. -/
theorem rnum_enc {w : World} {lo B h g : Nat} {l : List UInt8} (x : Int) (h1 : -9223372036854775808 ≤ x) (h2 : x ≤ 9223372036854775807) (r : Rd w lo B h g (numB (nt x) (ux x) ++ l) 0) :
    Calls Tryd.prog 52 #[.pointer (some ⟨h, 0, none⟩), .int .u8 (nt x : Int)] w fun e w' => e = .returned (.tuple #[.int .i64 x, .int .i64 0]) ∧ Rd w' lo B h g l 0 ∧ w.grownBy w' (some g) := by
  have hl := numB_length (nt x) (ux x)
  by_cases hb : bh (nt x) = 0
  · have hnil : numB (nt x) (ux x) = [] := List.eq_nil_of_length_eq_zero (hl.trans hb)
    rw [hnil] at r
    have hsm : -32 ≤ x ∧ x ≤ 127 := by
      by_cases c : -32 ≤ x ∧ x ≤ 127
      · exact c
      · exfalso
        unfold nt at hb
        rw [if_neg c] at hb
        split at hb
        · rw [pk_bh _ _ (.inl rfl)] at hb
          split at hb <;> (try split at hb) <;> (try split at hb) <;> omega
        · rw [pk_bh _ _ (.inr rfl)] at hb
          split at hb <;> (try split at hb) <;> (try split at hb) <;> omega
    have e := (nt_small x hsm).2
    refine (rnum_zero _ w (nt x) hb x ?_ hsm.1 hsm.2).mono ?_
    · rw [e]; simp [IntKind.wrap, IntKind.bits, IntKind.signed]; omega
    · rintro e w' ⟨rfl, rfl⟩
      exact ⟨rfl, r, World.grownBy.refl _ _⟩
  · have hs : bh (nt x) ≤ (numB (nt x) (ux x) ++ l).length := by rw [List.length_append, hl]; omega
    have ht : (numB (nt x) (ux x) ++ l).take (bh (nt x)) = numB (nt x) (ux x) := List.take_left' hl
    have hd : (numB (nt x) (ux x) ++ l).drop (bh (nt x)) = l := List.drop_left' hl
    have Y := rnum_yes r (nt x) (nt_lt x) (by omega) hs x (by rw [ht, numB_num, dec_enc x h1 h2 hb])
    rw [hd] at Y
    refine Y.mono ?_
    rintro e w' ⟨rfl, q⟩
    exact ⟨by simp, q⟩
theorem results_val2 {fn : Func} {p u : Tmp} (h : fn.results = #[.cell p 26, .tmp u]) (tmps : Array Value) (w : World) (g : Nat) (cs : Array Value) (hp : tmps.getD p undef = .pointer (some ⟨g, 0, none⟩)) (hg : Blk w g 26 cs) (hc : cs.size = 6) (v : Value) (hv : tmps.getD u undef = v) :
    (results fn tmps).run Tryd.prog w = .ok (.tuple #[.agg cs, v]) w := by
  obtain ⟨fs, hu⟩ := underValue
  rw [results_cell_tmp h, hp, hv]
  simp only [asAddr, Sem.run_pure, Result.andThen_ok, run_loadVar_row w g _ 26 _ _ _ hg hu rfl (by rw [sizeValue, hc])]
theorem kd_int (x : Int) (h1 : -9223372036854775808 ≤ x) (h2 : x ≤ 9223372036854775807) : kd (nt x) = 3 := by
  have hh : nt x < 128 ∨ 224 ≤ nt x ∨ (204 ≤ nt x ∧ nt x ≤ 211) := by
    unfold nt
    by_cases c1 : -32 ≤ x ∧ x ≤ 127
    · rw [if_pos c1]; omega
    · rw [if_neg c1]
      by_cases c2 : 0 ≤ x
      · rw [if_pos c2]; have := pk_lo x.toNat 204; omega
      · rw [if_neg c2]; have := pk_lo (2 * (-x - 1)).toNat 208; omega
  unfold kd
  rw [if_pos hh]

theorem cellsI_all (x : Int) : (cellsI x).all (·.oneCell') = true := by
  rw [Array.all_eq_true_iff_forall_mem]
  intro v hv
  simp [cellsI] at hv
  rcases hv with rfl | rfl | rfl | rfl | rfl <;> rfl
/-- The zero value's cells. -/
def cellsZ : Array Value := #[.int .i64 0, .int .i64 0, .slice none 0 0, .string ⟨#[]⟩, .slice none 0 0, .slice none 0 0]

set_option maxRecDepth 100000 in
set_option maxHeartbeats 1600000 in
theorem rvalue_int {w : World} {lo B h g : Nat} {l : List UInt8} (x : Int) (deep : Int) (h1 : -9223372036854775808 ≤ x) (h2 : x ≤ 9223372036854775807) (hd : deep ≤ 16) (r : Rd w lo B h g (encI x ++ l) 0) :
    Calls Tryd.prog 30 #[.pointer (some ⟨h, 0, none⟩), .int .i64 deep] w fun e w' => e = .returned (.tuple #[.agg (cellsI x), .int .i64 0]) ∧ Rd w' lo B h g l 0 ∧ w.grownBy w' (some g) := by
  obtain ⟨wA, hA⟩ : ∃ wA, wA = w.alloc (.cells cellsZ 26) := ⟨_, rfl⟩
  have sA : Still w wA := by rw [hA]; exact (Still.refl w).alloc (Nat.le_refl _) _
  have bA : Blk wA w.heap.size 26 cellsZ := by rw [hA]; exact Blk.new _ _ _
  have rA := r.still sA
  have hlow := r.low
  have T := tag_yes (UInt8.ofNat (nt x)) (l := numB (nt x) (ux x) ++ l) rA
  have hnt := nt_lt x
  rw [UInt8.toNat_ofNat', show nt x % 2 ^ 8 = nt x by omega] at T
  have NUM := Lib.hid (fun (w' : World) (q : Rd w' lo B h g (numB (nt x) (ux x) ++ l) 0) => rnum_enc x h1 h2 q)
  have hkd := kd_int x h1 h2
  have KD := Lib.hid (fun w => kindOf_any (nt x) w)
  rw [hkd] at KD
  obtain ⟨y, hy⟩ : ∃ y, y = nt x := ⟨_, rfl⟩
  rw [← hy] at T KD NUM
  obtain ⟨M, hM⟩ : ∃ M, M = numB y (ux x) ++ l := ⟨_, rfl⟩
  rw [← hM] at T NUM
  have d1 : ¬ 16 < deep := by omega
  have TT := Lib.hid T
  have GA := Lib.hid (grown_of_still (r := some g) sA)
  have BA := Lib.hid bA
  have HA := Lib.hid hA
  have LOW := Lib.hid hlow
  obtain ⟨fs, hu⟩ := underValue
  have HU := Lib.hid hu
  clear hA sA bA rA hlow T hnt hkd hy hM r h1 h2 hd hu
  go_enter Tryd.func30, Tryd.ntmps30
  go_upto_region 1 with fail
  rw [show (w.alloc (.cells #[.int .i64 0, .int .i64 0, .slice none 0 0, .string ⟨#[]⟩, .slice none 0 0, .slice none 0 0] 26)) = wA from HA.out.symm]
  go_wp2_with fail
  refine TT.out.mono ?_
  rintro e w1 ⟨rfl, r1, gr1⟩
  have G1 := Lib.hid (grown_trans GA.out gr1)
  have B1 : Hid (Blk w1 w.heap.size 26 cellsZ) := Lib.hid ((gr1.block _ BA.out.lt (fun e => by have := LOW.out; cases e; omega)).trans BA.out)
  have R1 := Lib.hid r1
  clear gr1 r1 TT GA BA HA
  go_wp2_with fail
  refine (KD.out _).mono ?_
  rintro e w2 ⟨rfl, rfl⟩
  obtain ⟨v, hv⟩ : ∃ v, v = w1.heap.size := ⟨_, rfl⟩
  obtain ⟨w2, hw2⟩ : ∃ w2, w2 = w1.alloc (.cells #[.int .i64 3, .int .i64 0, .slice none 0 0, .string ⟨#[]⟩, .slice none 0 0, .slice none 0 0] 26) := ⟨_, rfl⟩
  have s2 : Still w1 w2 := by rw [hw2]; exact (Still.refl w1).alloc (Nat.le_refl _) _
  have bv2 : Blk w2 v 26 #[.int .i64 3, .int .i64 0, .slice none 0 0, .string ⟨#[]⟩, .slice none 0 0, .slice none 0 0] := by rw [hw2, hv]; exact Blk.new _ _ _
  have R2 := Lib.hid (R1.out.still s2)
  have G2 := Lib.hid (grown_trans G1.out (grown_of_still s2))
  have B2 := Lib.hid (B1.out.still s2)
  have V2 := Lib.hid (show w.heap.size < v ∧ g < v from ⟨by have := B1.out.lt; omega, by have := R1.out.low.2; omega⟩)
  have k0 : w2.cell? ⟨v, 0, none⟩ = some (.int .i64 3) := bv2.cell 0
  have BV2 := Lib.hid bv2
  have HW2 := Lib.hid hw2
  have HV := Lib.hid hv
  clear s2 bv2 hw2 hv
  go_upto_region 7 with fail
  rw [← HW2.out, ← HV.out]
  clear HW2 HV R1 G1 B1
  have NM := Lib.hid (NUM.out w2 R2.out)
  clear NUM KD
  go_wp2_with fail
  refine NM.out.mono ?_
  rintro e w3 ⟨rfl, r3, gr3⟩
  have BV3 : Blk w3 v 26 #[.int .i64 3, .int .i64 0, .slice none 0 0, .string ⟨#[]⟩, .slice none 0 0, .slice none 0 0] := (gr3.block _ BV2.out.lt (fun e => by have := V2.out; cases e; omega)).trans BV2.out
  have B3 : Blk w3 w.heap.size 26 cellsZ := (gr3.block _ B2.out.lt (fun e => by have := LOW.out; cases e; omega)).trans B2.out
  have c1 : w3.cell? ⟨v, 1, none⟩ = some (.int .i64 0) := BV3.cell 1
  have f1 : w3.frozen? ⟨v, 1, none⟩ = false := BV3.frozen 1
  have G3 := grown_trans G2.out gr3
  obtain ⟨w4, hw4⟩ : ∃ w4, w4 = w3.setCell ⟨v, 1, none⟩ (.int .i64 x) := ⟨_, rfl⟩
  have bv4 : Blk w4 v 26 (cellsI x) := by rw [hw4]; exact BV3.setc 1 _
  have b4 : Blk w4 w.heap.size 26 cellsZ := by rw [hw4]; exact B3.far (by have := V2.out; simp only; omega) _
  have r4 : Rd w4 lo B h g l 0 := by rw [hw4]; exact r3.set (by have := V2.out; have := LOW.out; omega) _
  have g4 : w.grownBy w4 (some g) := by rw [hw4]; exact grown_set G3 (by have := V2.out; omega) _
  have BV4 := Lib.hid bv4
  have B4 := Lib.hid b4
  have R4 := Lib.hid r4
  have G4 := Lib.hid g4
  have HW4 := Lib.hid hw4
  clear bv4 b4 r4 g4 hw4 BV3 B3 G3 r3 gr3 NM
  go_upto_region 20 with fail
  rw [← HW4.out]
  refine wp_region_lit ?_
  refine wpList_load_row rfl 26 (.tmp 8) rfl v rfl _ _ _ _ BV4.out HU.out rfl (by rw [sizeValue]; rfl) ?_
  go_wp2_with (guard_target =~ wpList _ _ _ (Oper.mk none (Op.store _ _ _) _ _ _ _ :: _) _ _; go_must (refine wpList_store_rowTo rfl 26 (.tmp 4) (.tmp 77) rfl rfl w.heap.size (cellsI x) rfl rfl 26 _ B4.out (by rw [sizeValue]; rfl) rfl (cellsI_all x) ?_))
  refine bodyPost_ret (results_val2 rfl _ _ w.heap.size (cellsI x) rfl (setRow_heap w4 _ _ _ _ _ B4.out) rfl _ rfl) rfl ?_
  exact ⟨rfl, R4.out.below (below_setRow (Below.refl _ _) LOW.out.2.2.1 _), grown_row G4.out (Nat.le_refl _) _⟩
end Go.Proofs.YtomhpnomcciniaaDoor
