/- Contracts and facts, several texts in one. It proves no statement. -/
import Derived.Test.YtgbkpbmilaafgaaBkGi
import Derived.Laws.CopyOwn
import Derived.Test.YtgbkpbmilaafgaaBkGb
import Derived.Deep.RegionHeld3
import Derived.BigQuiet
import Derived.BigFrame
import Derived.StillTailTactics
import Derived.Deep.DeepCutAuto

/- A hasher's memory, cell by cell. It proves no statement. -/


namespace Go.Proofs.Ytgbkpbmilaafgaa
open Go.RowKit
set_option linter.unusedVariables false
set_option linter.unusedSimpArgs false

/-- The forty cells: the seed, four lanes, the size, 32 bytes, how many are kept, made. -/
def hcells (seed : Nat) (v : Nat → Nat) (size : Nat) (R : List UInt8) (kept : Nat) : List Value :=
  Value.int .u64 (seed : Int) :: Value.int .u64 (v 0 : Int) :: Value.int .u64 (v 1 : Int) :: Value.int .u64 (v 2 : Int) :: Value.int .u64 (v 3 : Int) :: Value.int .u64 (size : Int) :: (bytesV R ++ [Value.int .i64 (kept : Int), Value.bool true])

structure HB (w : World) (g : Nat) (seed : Nat) (v : Nat → Nat) (size : Nat) (R : List UInt8) (kept : Nat) : Prop where
  blk : w.heap[g]? = some (.cells (hcells seed v size R kept).toArray 143 (0, 0))
  len : R.length = 32

section
variable {w w' : World} {g seed size kept : Nat} {v : Nat → Nat} {R : List UInt8}
theorem HB.lt (h : HB w g seed v size R kept) : g < w.heap.size := (Array.getElem?_eq_some_iff.1 h.blk).1
theorem HB.cell (h : HB w g seed v size R kept) (i : Nat) : w.cell? ⟨g, i, none⟩ = (hcells seed v size R kept)[i]? := by
  rw [cell_of_row w g i _ _ _ h.blk]; simp
theorem HB.frozen (h : HB w g seed v size R kept) (i : Nat) : w.frozen? ⟨g, i, none⟩ = false := frozen_of_row w g i _ _ h.blk
theorem HB.seedc (h : HB w g seed v size R kept) : w.cell? ⟨g, 0, none⟩ = some (.int .u64 (seed : Int)) := h.cell 0
theorem HB.lane0 (h : HB w g seed v size R kept) : w.cell? ⟨g, 1, none⟩ = some (.int .u64 (v 0 : Int)) := h.cell 1
theorem HB.lane1 (h : HB w g seed v size R kept) : w.cell? ⟨g, 2, none⟩ = some (.int .u64 (v 1 : Int)) := h.cell 2
theorem HB.lane2 (h : HB w g seed v size R kept) : w.cell? ⟨g, 3, none⟩ = some (.int .u64 (v 2 : Int)) := h.cell 3
theorem HB.lane3 (h : HB w g seed v size R kept) : w.cell? ⟨g, 4, none⟩ = some (.int .u64 (v 3 : Int)) := h.cell 4
theorem HB.lane (h : HB w g seed v size R kept) (k : Nat) (hk : k < 4) : w.cell? ⟨g, 1 + k, none⟩ = some (.int .u64 (v k : Int)) := by
  obtain rfl | rfl | rfl | rfl : k = 0 ∨ k = 1 ∨ k = 2 ∨ k = 3 := by omega
  · exact h.lane0
  · exact h.lane1
  · exact h.lane2
  · exact h.lane3
theorem HB.sizec (h : HB w g seed v size R kept) : w.cell? ⟨g, 5, none⟩ = some (.int .u64 (size : Int)) := h.cell 5
theorem hcells_tail (seed : Nat) (v : Nat → Nat) (size : Nat) (R : List UInt8) (kept i : Nat) : (hcells seed v size R kept)[6 + i]? = (bytesV R ++ [Value.int .i64 (kept : Int), Value.bool true])[i]? := by
  rw [Nat.add_comm]; rfl
theorem HB.byte (h : HB w g seed v size R kept) (i : Nat) (hi : i < 32) : w.cell? ⟨g, 6 + i, none⟩ = some (.int .u8 ((R.getD i 0).toNat : Int)) := by
  rw [h.cell, hcells_tail, List.getElem?_append_left (by rw [bytesV_length, h.len]; exact hi), bytesV_get _ _ (by rw [h.len]; exact hi)]
theorem HB.keptc (h : HB w g seed v size R kept) : w.cell? ⟨g, 38, none⟩ = some (.int .i64 (kept : Int)) := by
  rw [h.cell, show 38 = 6 + 32 from rfl, hcells_tail, List.getElem?_append_right (by rw [bytesV_length, h.len]; omega), bytesV_length, h.len]; rfl
theorem HB.made (h : HB w g seed v size R kept) : w.cell? ⟨g, 39, none⟩ = some (.bool true) := by
  rw [h.cell, show 39 = 6 + 33 from rfl, hcells_tail, List.getElem?_append_right (by rw [bytesV_length, h.len]; omega), bytesV_length, h.len]; rfl
theorem HB.reads (h : HB w g seed v size R kept) : Reads w (g + 1) (some ⟨g, 6, none⟩) 32 R := ⟨h.len, fun _ => ⟨g, 6, rfl, by omega, fun i hi => h.byte i hi⟩⟩
theorem HB.keepb (h : HB w g seed v size R kept) (hb : w'.heap[g]? = w.heap[g]?) : HB w' g seed v size R kept := ⟨hb.trans h.blk, h.len⟩
theorem HB.still (h : HB w g seed v size R kept) (hs : Still w w') : HB w' g seed v size R kept := h.keepb (hs.block g h.lt)
theorem HB.setSize (h : HB w g seed v size R kept) (s : Nat) : HB (w.setCell ⟨g, 5, none⟩ (.int .u64 (s : Int))) g seed v s R kept := by
  refine ⟨?_, h.len⟩
  rw [heap_setCell_same w g 5 _ _ _ h.blk]
  simp [hcells]
theorem HB.setKept (h : HB w g seed v size R kept) (k : Nat) : HB (w.setCell ⟨g, 38, none⟩ (.int .i64 (k : Int))) g seed v size R k := by
  refine ⟨?_, h.len⟩
  rw [heap_setCell_same w g 38 _ _ _ h.blk]
  have e : (hcells seed v size R kept).set 38 (.int .i64 (k : Int)) = hcells seed v size R k := by
    simp only [hcells, List.set_cons_succ]
    rw [List.set_append_right _ _ (by rw [bytesV_length, h.len]; omega), bytesV_length, h.len]
    rfl
  simp only [List.setIfInBounds_toArray, e]
/-- One lane set. -/
def setLane (v : Nat → Nat) (k x : Nat) : Nat → Nat := fun i => if i = k then x else v i
theorem HB.setLane (h : HB w g seed v size R kept) (k x : Nat) (hk : k < 4) : HB (w.setCell ⟨g, 1 + k, none⟩ (.int .u64 (x : Int))) g seed (setLane v k x) size R kept := by
  refine ⟨?_, h.len⟩
  rw [heap_setCell_same w g (1 + k) _ _ _ h.blk]
  obtain rfl | rfl | rfl | rfl : k = 0 ∨ k = 1 ∨ k = 2 ∨ k = 3 := by omega
  all_goals simp [hcells, Go.Proofs.Ytgbkpbmilaafgaa.setLane]
theorem hcells_congr (seed : Nat) (v v' : Nat → Nat) (size : Nat) (R : List UInt8) (kept : Nat) (e : ∀ k, k < 4 → v k = v' k) : hcells seed v size R kept = hcells seed v' size R kept := by
  simp only [hcells, e 0 (by omega), e 1 (by omega), e 2 (by omega), e 3 (by omega)]
theorem HB.congr (h : HB w g seed v size R kept) {v' : Nat → Nat} (e : ∀ k, k < 4 → v k = v' k) : HB w g seed v' size R kept := by
  refine ⟨?_, h.len⟩
  rw [← hcells_congr seed v v' size R kept e]
  exact h.blk
theorem hcells_length (h : R.length = 32) : (hcells seed v size R kept).length = 40 := by simp [hcells, bytesV_length, h]
theorem hcells_splice (hR : R.length = 32) (o : Nat) (l : List UInt8) (ho : o + l.length ≤ 32) : splice (hcells seed v size R kept) (6 + o) (bytesV l) = hcells seed v size (R.take o ++ (l ++ R.drop (o + l.length))) kept := by
  unfold splice
  rw [bytesV_length, Nat.add_assoc, Nat.add_comm 6 o, Nat.add_comm 6 (o + l.length)]
  simp only [hcells, List.take_succ_cons, List.drop_succ_cons, bytesV_append, bytesV_take, bytesV_drop]
  rw [List.take_append_of_le_length (by rw [bytesV_length, hR]; omega), List.drop_append_of_le_length (by rw [bytesV_length, hR]; omega)]
  simp
/-- A store of a word into the hasher's own block leaves all bytes that read. -/
theorem Reads.setWord {B n : Nat} {A : Option Addr} {l : List UInt8} (h : Reads w B A n l) {b o : Nat} {k : IntKind} {x : Int} (hk : k ≠ .u8) (hc : w.cell? ⟨b, o, none⟩ = some (.int k x)) (u : Value) :
    Reads (w.setCell ⟨b, o, none⟩ u) B A n l := by
  refine ⟨h.1, fun hn => ?_⟩
  obtain ⟨b1, o1, e, hlt, hcc⟩ := h.2 hn
  refine ⟨b1, o1, e, hlt, fun i hi => ?_⟩
  rw [World.cell?_setCell_other]
  · exact hcc i hi
  · rintro e2
    have h1 := hcc i hi
    first | rw [e2] at h1 | rw [← e2] at h1
    rw [h1] at hc
    injection hc with hc
    injection hc with hc1 hc2
    exact hk hc1.symm
end
end Go.Proofs.Ytgbkpbmilaafgaa

/- Contracts: a new hasher; a block taken. It proves no statement. -/






namespace Go.Proofs.Ytgbkpbmilaafgaa
open Go.RowKit
set_option linter.unusedVariables false
set_option linter.unusedSimpArgs false

/-- A hasher at block g that was given l. -/
def Had (w : World) (g seed : Nat) (l : List UInt8) : Prop :=
  ∃ R, HB w g seed (fun k => xRun (xLane0 seed k) k l (l.length / 32)) l.length R (l.length % 32) ∧ R.take (l.length % 32) = l.drop (32 * (l.length / 32)) ∧ l.length ≤ 70368744177664
theorem Had.lt {w : World} {g seed : Nat} {l : List UInt8} (h : Had w g seed l) : g < w.heap.size := h.choose_spec.1.lt
theorem Had.keepb {w w' : World} {g seed : Nat} {l : List UInt8} (h : Had w g seed l) (hb : w'.heap[g]? = w.heap[g]?) : Had w' g seed l := by
  obtain ⟨R, hb1, h2, h3⟩ := h
  exact ⟨R, hb1.keepb hb, h2, h3⟩
theorem Had.still {w w' : World} {g seed : Nat} {l : List UInt8} (h : Had w g seed l) (hs : Still w w') : Had w' g seed l := h.keepb (hs.block g h.lt)
theorem Had.grown {w w' : World} {g g' seed : Nat} {l : List UInt8} (h : Had w g seed l) (hs : w.grownBy w' (some g')) (hne : g ≠ g') : Had w' g seed l :=
  h.keepb (hs.block g h.lt (fun e => hne (Option.some.inj e)))

theorem new_any (seed : Nat) (w : World) (hs : seed < m64) :
    Calls Try.prog 72 #[.int .u64 seed] w fun e w' => e = .returned (.pointer (some ⟨w.heap.size, 0, none⟩)) ∧ Had w' w.heap.size seed [] ∧ Still w w' := by
  have hm1 : xP1 ≤ m64 := by decide
  have e1 : IntKind.u64.wrap (IntKind.u64.wrap ((seed : Int) + 11400714785074694791) + 14029467366897019727) = ((xLane0 seed 0 : Nat) : Int) := by
    show IntKind.u64.wrap (IntKind.u64.wrap ((seed : Int) + (xP1 : Nat)) + (xP2 : Nat)) = _
    rw [xLane0_0, wrap_add, wrap_add, Nat.mod_add_mod]
  have e2 : IntKind.u64.wrap ((seed : Int) + 14029467366897019727) = ((xLane0 seed 1 : Nat) : Int) := by
    show IntKind.u64.wrap ((seed : Int) + (xP2 : Nat)) = _
    rw [xLane0_1, wrap_add]
  have e3 : xLane0 seed 2 = seed := xLane0_2 seed
  have e4 : IntKind.u64.wrap ((seed : Int) - 11400714785074694791) = ((xLane0 seed 3 : Nat) : Int) := by
    show IntKind.u64.wrap ((seed : Int) - (xP1 : Nat)) = _
    rw [xLane0_3, wrap_sub _ _ hm1]
  have hv : HB (w.alloc (.cells (hcells seed (xLane0 seed) 0 (List.replicate 32 0) 0).toArray 143)) w.heap.size seed (fun k => xRun (xLane0 seed k) k [] (([] : List UInt8).length / 32)) ([] : List UInt8).length (List.replicate 32 0) (([] : List UInt8).length % 32) :=
    ⟨heap_alloc_new w _, rfl⟩
  have hx : hcells seed (xLane0 seed) 0 (List.replicate 32 0) 0 = Value.int .u64 (seed : Int) :: Value.int .u64 (xLane0 seed 0 : Int) :: Value.int .u64 (xLane0 seed 1 : Int) :: Value.int .u64 (seed : Int) :: Value.int .u64 (xLane0 seed 3 : Int) :: Value.int .u64 0 :: (List.replicate 32 (Value.int .u8 0) ++ [Value.int .i64 0, Value.bool true]) := by
    simp [hcells, e3, bytesV]
  rw [hx] at hv
  clear hx e3
  generalize xLane0 seed 0 = f0 at *
  generalize xLane0 seed 1 = f1 at *
  generalize xLane0 seed 3 = f3 at *
  have HV := Lib.hid hv
  clear hv hm1
  go_enter Try.func72, Try.ntmps72
  go_wp2_with fail
  go_ret
  exact ⟨rfl, ⟨List.replicate 32 0, HV.out, rfl, by simp⟩, (Still.refl w).alloc (Nat.le_refl _) _⟩

/-- The first k lanes have taken their word. -/
def takeTo (v : Nat → Nat) (l : List UInt8) (k : Nat) : Nat → Nat := fun i => if i < k then xLane (v i) (xWord l (8 * i)) else v i
theorem takeTo_next (v : Nat → Nat) (l : List UInt8) (k : Nat) : setLane (takeTo v l k) k (xLane (v k) (xWord l (8 * k))) = takeTo v l (k + 1) := by
  funext i
  unfold setLane takeTo
  by_cases h1 : i = k
  · subst h1; simp
  · simp only [if_neg h1]
    by_cases h2 : i < k
    · rw [if_pos h2, if_pos (by omega)]
    · rw [if_neg h2, if_neg (by omega)]

set_option maxRecDepth 100000 in
set_option maxHeartbeats 1600000 in
theorem takeBlock_any (g seed size kept : Nat) (v : Nat → Nat) (R : List UInt8) (A : Option Addr) (c : Nat) (l : List UInt8) (w : World) (B : Nat) (h : Reads w B A 32 l) (hc : 32 ≤ c) (hm : c ≤ 9223372036854775807) (hb : HB w g seed v size R kept) :
    Calls Try.prog 89 #[.pointer (some ⟨g, 0, none⟩), .slice A 32 c] w fun e w' => e = .returned (.tuple #[]) ∧ HB w' g seed (fun k => xLane (v k) (xWord l (8 * k))) size R kept ∧ w.grownBy w' (some g) := by
  have c0 := hb.lane0
  have c1 := hb.lane1
  have c2 := hb.lane2
  have c3 := hb.lane3
  have HV := Lib.hid hb
  have hix : ∀ (k : Nat) (w : World), k < 4 → (Instr.index 141 (.agg #[.int .u64 (v 0 : Int), .int .u64 (v 1 : Int), .int .u64 (v 2 : Int), .int .u64 (v 3 : Int)]) (.int .i64 (k : Int))).run Try.prog w = .ok (.int .u64 (v k : Int)) w := by
    intro k w hk
    obtain rfl | rfl | rfl | rfl : k = 0 ∨ k = 1 ∨ k = 2 ∨ k = 3 := by omega
    all_goals kernel_rfl
  obtain ⟨f0, h0⟩ : ∃ f, f = v 0 := ⟨_, rfl⟩
  obtain ⟨f1, h1⟩ : ∃ f, f = v 1 := ⟨_, rfl⟩
  obtain ⟨f2, h2⟩ : ∃ f, f = v 2 := ⟨_, rfl⟩
  obtain ⟨f3, h3⟩ : ∃ f, f = v 3 := ⟨_, rfl⟩
  rw [← h0] at c0 hix
  rw [← h1] at c1 hix
  rw [← h2] at c2 hix
  rw [← h3] at c3 hix
  have HIX := Lib.hid hix
  clear hb h0 h1 h2 h3 hix
  obtain ⟨b, o, rfl, hbb, hcc⟩ := h.at_ (by omega)
  clear hcc
  have HR := Lib.hid h
  clear h
  go_enter Try.func89, Try.ntmps89
  go_wp2_with fail
  go_loopw [10] (fun iv wr => ∃ k : Nat, iv = .int .i64 k ∧ k ≤ 4 ∧ Hid (HB wr g seed (takeTo v l k) size R kept ∧ Reads wr B (some ⟨b, o, none⟩) 32 l ∧ w.grownBy wr (some g))) (fun iv _ => 4 - (intOf iv).toNat)
  case atStart => exact ⟨0, rfl, by omega, HV.out.congr fun k _ => rfl, HR.out, World.grownBy.refl _ _⟩
  case round =>
    obtain ⟨k, rfl, hk, hin⟩ := hrel
    by_cases hk4 : k < 4
    · have d7 : (k : Int) < 4 := by omega
      have d8 : (0 : Int) ≤ (k : Int) := by omega
      have ix := fun w => HIX.out k w hk4
      obtain ⟨t, ht⟩ : ∃ t, t = 8 * k := ⟨_, rfl⟩
      have d1 : IntKind.i64.wrap ((k : Int) * 8) = (t : Int) := by rw [IntKind.wrap_i64]; omega
      have d2 : IntKind.i64.wrap ((k : Int) + 1) = (k : Int) + 1 := by rw [IntKind.wrap_i64]; omega
      have d3 : IntKind.i64.wrap (((k : Int) + 1) * 8) = (t : Int) + 8 := by rw [IntKind.wrap_i64]; omega
      have d4 : (t : Int) + 8 ≤ (c : Int) := by omega
      have d5 : (0 : Int) ≤ (t : Int) := by omega
      have d9 : ((t : Int) + 8).toNat = t + 8 := by omega
      have d10 : t + 8 - t = 8 := by omega
      have d11 : ¬ c = t := by omega
      have d12 : (0 : Int) ≤ (t : Int) + 8 := by omega
      have d13 : t ≤ t + 8 := by omega
      have hcell : wr.cell? ⟨g, 1 + k, none⟩ = some (.int .u64 (v k : Int)) := by
        rw [hin.out.1.lane k hk4]; simp [takeTo]
      have hfro : wr.frozen? ⟨g, 1 + k, none⟩ = false := hin.out.1.frozen _
      have rw1 := (hin.out.2.1.dropk (k := t) (by omega)).takek (k := 8) (by omega)
      simp only [Option.map_some, Addr.add_lit] at rw1
      have rw2 : Reads wr.drew B (some ⟨b, o + t, none⟩) 8 ((l.drop t).take 8) := rw1
      have hnum := (number_any _ 8 (c - t) _ wr.drew B rw2 (by omega) (by omega)).mono fun e w' h => (⟨h.1, h.2.symm⟩ : e = _ ∧ w' = wr.drew)
      have hw8 : leNum ((l.drop t).take 8) = xWord l t := rfl
      rw [hw8] at hnum
      obtain ⟨x, hx⟩ : ∃ x, x = xWord l t := ⟨_, rfl⟩
      obtain ⟨a, ha⟩ : ∃ a, a = v k := ⟨_, rfl⟩
      rw [← hx] at hnum
      rw [← ha] at hcell ix
      have hlane := (lane_any a x wr.drew).mono fun e w' h => (⟨h.1, h.2.symm⟩ : e = _ ∧ w' = wr.drew)
      obtain ⟨z, hz⟩ : ∃ z, z = xLane a x := ⟨_, rfl⟩
      rw [← hz] at hlane
      have HN := Lib.hid hnum
      have HLN := Lib.hid hlane
      have HX := Lib.hid hx
      have HA := Lib.hid ha
      have HZ := Lib.hid hz
      have HT := Lib.hid ht
      have HK := Lib.hid hk4
      have HCE := Lib.hid hcell
      clear hnum hlane hx ha hz ht hw8 rw1 rw2 hk hk4
      go_wp2_with fail
      go_still_tail 15, (by kernel_rfl)
      · repeat still_step
        still_call HN.out
        repeat still_step
        still_call HLN.out
        repeat still_step
        refine wpStill_nil ?_
        change wpList _ _ _ _ _ wr.drew
        have hcell2 := HCE.out
        go_wp2_with fail
        go_roundw
        case rel =>
          refine ⟨k + 1, by go_num, HK.out, ?_, ?_, ?_⟩
          · have o2 := hin.out.1.setLane k z HK.out
            have e : z = xLane (v k) (xWord l (8 * k)) := by rw [HZ.out, HA.out, HX.out, HT.out]
            rw [e, takeTo_next, ← e] at o2
            exact o2.keepb rfl
          · have := hin.out.2.1.setWord (by decide) HCE.out (Value.int .u64 (z : Int))
            exact this.keep fun p _ => rfl
          · exact grownBy_drew (hin.out.2.2.trans (grownBy_set _ _ _ _))
        case measure =>
          have := HK.out
          simp [intOf]
          omega
    · obtain rfl : k = 4 := by omega
      rw [show ((4 : Nat) : Int) = 4 from rfl]
      go_wp2_with fail
      go_end0
      refine ⟨rfl, hin.out.1.congr fun k hk => ?_, hin.out.2.2⟩
      simp [takeTo, hk]
end Go.Proofs.Ytgbkpbmilaafgaa

/- Contracts: the four lanes joined; a hasher's sum. It proves no statement. -/


namespace Go.Proofs.Ytgbkpbmilaafgaa
open Go.RowKit
set_option linter.unusedVariables false
set_option linter.unusedSimpArgs false

set_option maxRecDepth 100000 in
set_option maxHeartbeats 1600000 in
theorem joined_any (g seed size kept : Nat) (v : Nat → Nat) (R : List UInt8) (w : World) (hb : HB w g seed v size R kept) (hv : ∀ k, v k < m64) :
    Calls Try.prog 90 #[.pointer (some ⟨g, 0, none⟩)] w fun e w' => e = .returned (.int .u64 (xHead v : Nat)) ∧ Still w w' := by
  have c0 := hb.lane0
  have c1 := hb.lane1
  have c2 := hb.lane2
  have c3 := hb.lane3
  have hix : ∀ (k : Nat) (w : World), k < 4 → (Instr.index 141 (.agg #[.int .u64 (v 0 : Int), .int .u64 (v 1 : Int), .int .u64 (v 2 : Int), .int .u64 (v 3 : Int)]) (.int .i64 (k : Int))).run Try.prog w = .ok (.int .u64 (v k : Int)) w := by
    intro k w hk
    obtain rfl | rfl | rfl | rfl : k = 0 ∨ k = 1 ∨ k = 2 ∨ k = 3 := by omega
    all_goals kernel_rfl
  have t0 := fun w => (turnk _ 1 w (hv 0) (by omega)).mono fun e w' h => (⟨h.1, h.2.symm⟩ : e = _ ∧ w' = w)
  have t1 := fun w => (turnk _ 7 w (hv 1) (by omega)).mono fun e w' h => (⟨h.1, h.2.symm⟩ : e = _ ∧ w' = w)
  have t2 := fun w => (turnk _ 12 w (hv 2) (by omega)).mono fun e w' h => (⟨h.1, h.2.symm⟩ : e = _ ∧ w' = w)
  have t3 := fun w => (turnk _ 18 w (hv 3) (by omega)).mono fun e w' h => (⟨h.1, h.2.symm⟩ : e = _ ∧ w' = w)
  have hH := xHead_mixes v
  obtain ⟨H, hHe⟩ : ∃ H, H = xHead v := ⟨_, rfl⟩
  rw [← hHe] at hH ⊢
  have hW : ∀ a b c d : Nat, IntKind.u64.wrap (IntKind.u64.wrap (IntKind.u64.wrap ((a : Int) + (b : Int)) + (c : Int)) + (d : Int)) = (((a + b + c + d) % m64 : Nat) : Int) := by
    intro a b c d
    rw [wrap_add, wrap_add, wrap_add, Nat.mod_add_mod, show (a + b) % m64 + c + d = (a + b) % m64 + (c + d) by omega, Nat.mod_add_mod, Nat.add_assoc (a + b)]
  have hv0 := hW (rotl 64 (v 0) 1) (rotl 64 (v 1) 7) (rotl 64 (v 2) 12) (rotl 64 (v 3) 18)
  generalize rotl 64 (v 0) 1 = r0 at *
  generalize rotl 64 (v 1) 7 = r1 at *
  generalize rotl 64 (v 2) 12 = r2 at *
  generalize rotl 64 (v 3) 18 = r3 at *
  have hh0 : (r0 + r1 + r2 + r3) % m64 < m64 := Nat.mod_lt _ (by decide)
  generalize (r0 + r1 + r2 + r3) % m64 = h0 at *
  obtain ⟨f0, g0⟩ : ∃ f, f = v 0 := ⟨_, rfl⟩
  obtain ⟨f1, g1⟩ : ∃ f, f = v 1 := ⟨_, rfl⟩
  obtain ⟨f2, g2⟩ : ∃ f, f = v 2 := ⟨_, rfl⟩
  obtain ⟨f3, g3⟩ : ∃ f, f = v 3 := ⟨_, rfl⟩
  rw [← g0] at c0 hix t0
  rw [← g1] at c1 hix t1
  rw [← g2] at c2 hix t2
  rw [← g3] at c3 hix t3
  have HIX := Lib.hid hix
  have HH := Lib.hid hH
  have H0 := Lib.hid hh0
  have HVL := Lib.hid hv
  have T0 := Lib.hid t0
  have T1 := Lib.hid t1
  have T2 := Lib.hid t2
  have T3 := Lib.hid t3
  clear hb hix g0 g1 g2 g3 hH hHe hh0 hv hW t0 t1 t2 t3
  go_enter Try.func90, Try.ntmps90
  go_wp2_with fail
  have st : Still w (w.alloc (Obj.cells #[.int .u64 (f0 : Int), .int .u64 (f1 : Int), .int .u64 (f2 : Int), .int .u64 (f3 : Int)] 141)) := (Still.refl w).alloc (Nat.le_refl _) _
  have hn := heap_alloc_new w (Obj.cells #[.int .u64 (f0 : Int), .int .u64 (f1 : Int), .int .u64 (f2 : Int), .int .u64 (f3 : Int)] 141)
  generalize w.alloc (Obj.cells #[.int .u64 (f0 : Int), .int .u64 (f1 : Int), .int .u64 (f2 : Int), .int .u64 (f3 : Int)] 141) = wa at *
  clear c0 c1 c2 c3
  have c0 : wa.cell? ⟨w.heap.size, 0, none⟩ = some (.int .u64 (f0 : Int)) := cell_of_row wa _ 0 _ _ _ hn
  have c1 : wa.cell? ⟨w.heap.size, 1, none⟩ = some (.int .u64 (f1 : Int)) := cell_of_row wa _ 1 _ _ _ hn
  have c2 : wa.cell? ⟨w.heap.size, 2, none⟩ = some (.int .u64 (f2 : Int)) := cell_of_row wa _ 2 _ _ _ hn
  have c3 : wa.cell? ⟨w.heap.size, 3, none⟩ = some (.int .u64 (f3 : Int)) := cell_of_row wa _ 3 _ _ _ hn
  have ST := Lib.hid st
  clear st hn
  go_quiet ((first | (go_at_call_of 96 (Value.int .u64 (f0 : Int)); exact Calls.quiet_of_same (T0.out _)) | (go_at_call_of 96 (Value.int .u64 (f1 : Int)); exact Calls.quiet_of_same (T1.out _)) | (go_at_call_of 96 (Value.int .u64 (f2 : Int)); exact Calls.quiet_of_same (T2.out _)) | (go_at_call_of 96 (Value.int .u64 (f3 : Int)); exact Calls.quiet_of_same (T3.out _))))
  clear T0 T1 T2 T3
  go_wp2_with fail
  clear hv0 c0 c1 c2 c3
  go_loop [4, 27] (fun hv iv => ∃ j : Nat, iv = .int .i64 j ∧ j ≤ 4 ∧ ∃ x : Nat, hv = .int .u64 x ∧ Hid (x = xMixes h0 v j)) (fun _ iv => 4 - (intOf iv).toNat)
  case atStart => exact ⟨0, rfl, by omega, h0, rfl, rfl⟩
  case round =>
    obtain ⟨j, rfl, hj, x, rfl, hx⟩ := hrel
    by_cases hj4 : j < 4
    · have hxl : x < m64 := by rw [hx.out]; exact xMixes_lt _ _ _ H0.out
      have z1 : (0 : Int) ≤ (j : Int) := by omega
      have z2 : (j : Int) < 4 := by omega
      have ix := fun w => HIX.out j w hj4
      obtain ⟨a, ha⟩ : ∃ a, a = v j := ⟨_, rfl⟩
      rw [← ha] at ix
      have lz := fun w => Go.Proofs.Ytgbkpbmilaafgaa.lane0 a w
      have ex := u64_xor_nat x (xLane 0 a) hxl (xLane_lt _ _)
      have em : IntKind.u64.wrap (((x ^^^ xLane 0 a : Nat) : Int) * 11400714785074694791) = (((x ^^^ xLane 0 a) * xP1 % m64 : Nat) : Int) := wrap_mul (x ^^^ xLane 0 a) xP1
      have ea : IntKind.u64.wrap ((((x ^^^ xLane 0 a) * xP1 % m64 : Nat) : Int) + 9650029242287828579) = ((((x ^^^ xLane 0 a) * xP1 % m64 + xP4) % m64 : Nat) : Int) := wrap_add ((x ^^^ xLane 0 a) * xP1 % m64) xP4
      rw [Nat.mod_add_mod] at ea
      have e0 : ((x ^^^ xLane 0 a) * xP1 + xP4) % m64 = xMixes h0 v (j + 1) := by rw [ha, hx.out]; rfl
      rw [e0] at ea
      clear e0
      generalize xLane 0 a = y at *
      generalize x ^^^ y = y2 at *
      generalize y2 * xP1 % m64 = y3 at *
      obtain ⟨z, hz⟩ : ∃ z, z = xMixes h0 v (j + 1) := ⟨_, rfl⟩
      rw [← hz] at ea
      have HZ := Lib.hid hz
      have LZ := Lib.hid lz
      clear hz lz ha hx
      go_wp2_with fail
      refine (LZ.out _).mono ?_
      rintro e w1 ⟨rfl, rfl⟩
      go_wp2_with fail
      go_round
      case rel => exact ⟨j + 1, by go_num, hj4, z, rfl, HZ.out⟩
      case measure => simp [intOf]; omega
    · obtain rfl : j = 4 := by omega
      go_wp2_with fail
      go_ret
      exact ⟨congrArg (fun z : Nat => Ending.returned (Value.int .u64 (z : Int))) (hx.out.trans HH.out.symm), still_drewN ST.out _⟩
end Go.Proofs.Ytgbkpbmilaafgaa

/- Contract: what a hasher that New made answers. It proves no statement. -/

namespace Go.Proofs.Ytgbkpbmilaafgaa
open Go.RowKit
set_option linter.unusedVariables false
set_option linter.unusedSimpArgs false

set_option maxRecDepth 100000 in
set_option maxHeartbeats 1600000 in
theorem msum_any (g seed : Nat) (l : List UInt8) (w : World) (h : Had w g seed l) (hs : seed < m64) :
    Calls Try.prog 74 #[.pointer (some ⟨g, 0, none⟩)] w fun e w' => e = .returned (.int .u64 (xxSum l seed : Nat)) ∧ Still w w' := by
  obtain ⟨R, hb, hR, hlen⟩ := h
  obtain ⟨n, hn⟩ : ∃ n, n = l.length := ⟨_, rfl⟩
  obtain ⟨kp, hkp⟩ : ∃ k, k = l.length % 32 := ⟨_, rfl⟩
  have hk32 : kp < 32 := by omega
  obtain ⟨v, hv⟩ : ∃ v : Nat → Nat, v = fun k => xRun (xLane0 seed k) k l (l.length / 32) := ⟨_, rfl⟩
  have hvl : ∀ k, v k < m64 := fun k => by rw [hv]; exact xRun_lt _ _ _ _ (xLane0_lt _ _ hs)
  obtain ⟨r, hr⟩ : ∃ r, r = l.drop (32 * (l.length / 32)) := ⟨_, rfl⟩
  have hsum : xxSum l seed = xFin (xTail (((if 32 ≤ n then xHead v else (seed + xP5) % m64) + n) % m64) r) := by rw [hr, hv, hn]; rfl
  rw [← hv, ← hkp, ← hn] at hb
  rw [← hkp, ← hr] at hR
  rw [← hn] at hlen
  clear hv hn hkp hr
  obtain ⟨x0, hx0⟩ : ∃ x0, x0 = if 32 ≤ n then xHead v else (seed + xP5) % m64 := ⟨_, rfl⟩
  have hx0l : x0 < m64 := by rw [hx0]; split; exact xHead_lt _; exact Nat.mod_lt _ (by decide)
  rw [← hx0] at hsum
  obtain ⟨x1', hx1⟩ : ∃ x, x = (x0 + n) % m64 := ⟨_, rfl⟩
  have hx1l : x1' < m64 := by rw [hx1]; exact Nat.mod_lt _ (by decide)
  have ea := wrap_add x0 n
  rw [← hx1] at ea hsum
  have hfl : xTail x1' r < m64 := by
    unfold xTail
    exact xEnd_lt _ _ (xEights_lt _ _ _ hx1l)
  obtain ⟨f, hf⟩ : ∃ f, f = xFin (xTail x1' r) := ⟨_, rfl⟩
  rw [hsum, ← hf]
  clear hsum hx1
  have e5 : IntKind.u64.wrap ((seed : Int) + 2870177450012600261) = (((seed + xP5) % m64 : Nat) : Int) := wrap_add seed xP5
  generalize hz5 : (seed + xP5) % m64 = z5 at *
  have JN := Lib.hid (joined_any g seed n kp v R w hb hvl)
  generalize xHead v = hd at JN hx0
  have cs := hb.seedc
  have cz := hb.sizec
  have ck := hb.keptc
  have cm := hb.made
  have HX0 := Lib.hid hx0
  have HB0 := Lib.hid hb
  have HR := Lib.hid hR
  have HF := Lib.hid hf
  have hzw : (0 : Int) ≤ (n : Int) := by omega
  clear hx0 hb hR hf hz5 hvl
  go_enter Try.func74, Try.ntmps74
  go_upto_if 22 with fail
  go_cut [3] (fun s3 wx => s3 = .int .u64 (x0 : Nat) ∧ Still w wx)
  case first =>
    by_cases h32 : 32 ≤ n
    · have e := HX0.out
      rw [if_pos h32] at e
      subst e
      go_wp2_with fail
      refine JN.out.mono ?_
      rintro e w1 ⟨rfl, st⟩
      go_wp2_with fail
      go_meet
      case rel => exact ⟨rfl, st⟩
    · have e := HX0.out
      rw [if_neg h32] at e
      subst e
      go_wp2_with fail
      go_meet
      case rel => exact ⟨rfl, Still.refl _⟩
  case rest =>
    obtain ⟨rfl, st⟩ := hcut
    have hb := HB0.out.still st
    have rd : Reads wc (g + 1) (some ⟨g, 6, none⟩) kp r := by
      have := hb.reads.takek (k := kp) (by omega)
      rwa [HR.out] at this
    have T := Lib.hid (fun m : Nat => (withRest_any (some ⟨g, 6, none⟩) kp 32 r x1' (wc.drewN m) (g + 1) (rd.keep fun _ _ => rfl) (by omega) (by omega) (by omega) hx1l).mono fun e w' h => (⟨h.1, h.2.symm⟩ : e = _ ∧ w' = wc.drewN m))
    have FN := Lib.hid (fun m : Nat => (finished_any (xTail x1' r) (wc.drewN m) hfl).mono fun e w' h => (⟨h.1, h.2.symm⟩ : e = _ ∧ w' = wc.drewN m))
    rw [← HF.out] at FN
    generalize xTail x1' r = y at T FN
    clear cs cz ck cm
    have cz := hb.sizec
    have ck := hb.keptc
    have ST := Lib.hid st
    have z1 : (0 : Int) ≤ (kp : Int) := by omega
    have z2 : (kp : Int) ≤ 32 := by omega
    clear hb rd st hx0l hx1l hfl HR HF HX0 HB0 JN e5
    go_wp2_with fail
    go_quiet ((first | (go_at_call 92; exact Calls.quiet_of_same (T.out _)) | (go_at_call 91; exact Calls.quiet_of_same (FN.out _))))
    go_wp2_with fail
    go_ret
    exact ⟨rfl, still_drewN ST.out _⟩
end Go.Proofs.Ytgbkpbmilaafgaa
