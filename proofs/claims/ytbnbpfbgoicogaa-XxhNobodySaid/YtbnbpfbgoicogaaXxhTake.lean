/- Contracts: a new hasher; a block taken. It proves no statement. -/
import Derived.Test.YtbnbpfbgoicogaaXxhHas
import Derived.Deep.RegionHeld3
import Derived.BigQuiet
import Derived.BigFrame
import Derived.StillTailTactics
namespace Go.Proofs.Ytbnbpfbgoicogaa
open Go.RowKit
set_option linter.unusedVariables false
set_option linter.unusedSimpArgs false

/-- A hasher at block g that was given l. -/
def Had (w : World) (g seed : Nat) (l : List UInt8) : Prop :=
  ∃ R, HB w g seed (fun k => xRun (xLane0 seed k) k l (l.length / 32)) l.length R (l.length % 32) ∧ R.take (l.length % 32) = l.drop (32 * (l.length / 32)) ∧ l.length ≤ 70368744177664
theorem Had.lt {w : World} {g seed : Nat} {l : List UInt8} (h : Had w g seed l) : g < w.heap.size := h.choose_spec.1.lt
theorem Had.keepb {w w' : World} {g seed : Nat} {l : List UInt8} (h : Had w g seed l) (hb : w'.heap[g]? = w.heap[g]?) : Had w' g seed l := by
  obtain ⟨R, hb1, h2, h3⟩ := h
  exact ⟨R, hb1.keepb hb, h2, h3⟩
theorem Had.still {w w' : World} {g seed : Nat} {l : List UInt8} (h : Had w g seed l) (hs : Still w w') : Had w' g seed l := h.keepb (hs.block g h.lt)
theorem Had.grown {w w' : World} {g g' seed : Nat} {l : List UInt8} (h : Had w g seed l) (hs : w.grownBy w' (some g')) (hne : g ≠ g') : Had w' g seed l :=
  h.keepb (hs.block g h.lt (fun e => hne (Option.some.inj e)))

theorem new_any (seed : Nat) (w : World) (hs : seed < m64) :
    Calls Try.prog 15 #[.int .u64 seed] w fun e w' => e = .returned (.pointer (some ⟨w.heap.size, 0, none⟩)) ∧ Had w' w.heap.size seed [] ∧ Still w w' := by
  have hm1 : xP1 ≤ m64 := by decide
  have e1 : IntKind.u64.wrap (IntKind.u64.wrap ((seed : Int) + 11400714785074694791) + 14029467366897019727) = ((xLane0 seed 0 : Nat) : Int) := by
    show IntKind.u64.wrap (IntKind.u64.wrap ((seed : Int) + (xP1 : Nat)) + (xP2 : Nat)) = _
    rw [xLane0_0, wrap_add, wrap_add, Nat.mod_add_mod]
  have e2 : IntKind.u64.wrap ((seed : Int) + 14029467366897019727) = ((xLane0 seed 1 : Nat) : Int) := by
    show IntKind.u64.wrap ((seed : Int) + (xP2 : Nat)) = _
    rw [xLane0_1, wrap_add]
  have e3 : xLane0 seed 2 = seed := xLane0_2 seed
  have e4 : IntKind.u64.wrap ((seed : Int) - 11400714785074694791) = ((xLane0 seed 3 : Nat) : Int) := by
    show IntKind.u64.wrap ((seed : Int) - (xP1 : Nat)) = _
    rw [xLane0_3, wrap_sub _ _ hm1]
  have hv : HB (w.alloc (.cells (hcells seed (xLane0 seed) 0 (List.replicate 32 0) 0).toArray 43)) w.heap.size seed (fun k => xRun (xLane0 seed k) k [] (([] : List UInt8).length / 32)) ([] : List UInt8).length (List.replicate 32 0) (([] : List UInt8).length % 32) :=
    ⟨heap_alloc_new w _, rfl⟩
  have hx : hcells seed (xLane0 seed) 0 (List.replicate 32 0) 0 = Value.int .u64 (seed : Int) :: Value.int .u64 (xLane0 seed 0 : Int) :: Value.int .u64 (xLane0 seed 1 : Int) :: Value.int .u64 (seed : Int) :: Value.int .u64 (xLane0 seed 3 : Int) :: Value.int .u64 0 :: (List.replicate 32 (Value.int .u8 0) ++ [Value.int .i64 0, Value.bool true]) := by
    simp [hcells, e3, bytesV]
  rw [hx] at hv
  clear hx e3
  generalize xLane0 seed 0 = f0 at *
  generalize xLane0 seed 1 = f1 at *
  generalize xLane0 seed 3 = f3 at *
  have HV := Lib.hid hv
  clear hv hm1
  go_enter Try.func15, Try.ntmps15
  go_wp2_with fail
  go_ret
  exact ⟨rfl, ⟨List.replicate 32 0, HV.out, rfl, by simp⟩, (Still.refl w).alloc (Nat.le_refl _) _⟩

/-- The first k lanes have taken their word. -/
def takeTo (v : Nat → Nat) (l : List UInt8) (k : Nat) : Nat → Nat := fun i => if i < k then xLane (v i) (xWord l (8 * i)) else v i
theorem takeTo_next (v : Nat → Nat) (l : List UInt8) (k : Nat) : setLane (takeTo v l k) k (xLane (v k) (xWord l (8 * k))) = takeTo v l (k + 1) := by
  funext i
  unfold setLane takeTo
  by_cases h1 : i = k
  · subst h1; simp
  · simp only [if_neg h1]
    by_cases h2 : i < k
    · rw [if_pos h2, if_pos (by omega)]
    · rw [if_neg h2, if_neg (by omega)]
theorem grownBy_drew {w w' : World} {r : Option Nat} (h : w.grownBy w' r) : w.grownBy w'.drew r := ⟨h.os, h.tape, h.output, h.size, h.block⟩
theorem grownBy_drewN {w w' : World} {r : Option Nat} (h : w.grownBy w' r) (n : Nat) : w.grownBy (w'.drewN n) r := ⟨h.os, h.tape, h.output, h.size, h.block⟩
theorem grownBy_set (w : World) (g o : Nat) (u : Value) : w.grownBy (w.setCell ⟨g, o, none⟩ u) (some g) := ⟨rfl, rfl, rfl, by simp [World.setCell], fun k _ hk => Below.heap_setCell _ _ _ _ (fun e => hk (by rw [e]))⟩

set_option maxRecDepth 100000 in
set_option maxHeartbeats 1600000 in
theorem takeBlock_any (g seed size kept : Nat) (v : Nat → Nat) (R : List UInt8) (A : Option Addr) (c : Nat) (l : List UInt8) (w : World) (B : Nat) (h : Reads w B A 32 l) (hc : 32 ≤ c) (hm : c ≤ 9223372036854775807) (hb : HB w g seed v size R kept) :
    Calls Try.prog 27 #[.pointer (some ⟨g, 0, none⟩), .slice A 32 c] w fun e w' => e = .returned (.tuple #[]) ∧ HB w' g seed (fun k => xLane (v k) (xWord l (8 * k))) size R kept ∧ w.grownBy w' (some g) := by
  have c0 := hb.lane0
  have c1 := hb.lane1
  have c2 := hb.lane2
  have c3 := hb.lane3
  have HV := Lib.hid hb
  have hix : ∀ (k : Nat) (w : World), k < 4 → (Instr.index 40 (.agg #[.int .u64 (v 0 : Int), .int .u64 (v 1 : Int), .int .u64 (v 2 : Int), .int .u64 (v 3 : Int)]) (.int .i64 (k : Int))).run Try.prog w = .ok (.int .u64 (v k : Int)) w := by
    intro k w hk
    obtain rfl | rfl | rfl | rfl : k = 0 ∨ k = 1 ∨ k = 2 ∨ k = 3 := by omega
    all_goals kernel_rfl
  obtain ⟨f0, h0⟩ : ∃ f, f = v 0 := ⟨_, rfl⟩
  obtain ⟨f1, h1⟩ : ∃ f, f = v 1 := ⟨_, rfl⟩
  obtain ⟨f2, h2⟩ : ∃ f, f = v 2 := ⟨_, rfl⟩
  obtain ⟨f3, h3⟩ : ∃ f, f = v 3 := ⟨_, rfl⟩
  rw [← h0] at c0 hix
  rw [← h1] at c1 hix
  rw [← h2] at c2 hix
  rw [← h3] at c3 hix
  have HIX := Lib.hid hix
  clear hb h0 h1 h2 h3 hix
  obtain ⟨b, o, rfl, hbb, hcc⟩ := h.at_ (by omega)
  clear hcc
  have HR := Lib.hid h
  clear h
  go_enter Try.func27, Try.ntmps27
  go_wp2_with fail
  go_loopw [10] (fun iv wr => ∃ k : Nat, iv = .int .i64 k ∧ k ≤ 4 ∧ Hid (HB wr g seed (takeTo v l k) size R kept ∧ Reads wr B (some ⟨b, o, none⟩) 32 l ∧ w.grownBy wr (some g))) (fun iv _ => 4 - (intOf iv).toNat)
  case atStart => exact ⟨0, rfl, by omega, HV.out.congr fun k _ => rfl, HR.out, World.grownBy.refl _ _⟩
  case round =>
    obtain ⟨k, rfl, hk, hin⟩ := hrel
    by_cases hk4 : k < 4
    · have d7 : (k : Int) < 4 := by omega
      have d8 : (0 : Int) ≤ (k : Int) := by omega
      have ix := fun w => HIX.out k w hk4
      obtain ⟨t, ht⟩ : ∃ t, t = 8 * k := ⟨_, rfl⟩
      have d1 : IntKind.i64.wrap ((k : Int) * 8) = (t : Int) := by rw [IntKind.wrap_i64]; omega
      have d2 : IntKind.i64.wrap ((k : Int) + 1) = (k : Int) + 1 := by rw [IntKind.wrap_i64]; omega
      have d3 : IntKind.i64.wrap (((k : Int) + 1) * 8) = (t : Int) + 8 := by rw [IntKind.wrap_i64]; omega
      have d4 : (t : Int) + 8 ≤ (c : Int) := by omega
      have d5 : (0 : Int) ≤ (t : Int) := by omega
      have d9 : ((t : Int) + 8).toNat = t + 8 := by omega
      have d10 : t + 8 - t = 8 := by omega
      have d11 : ¬ c = t := by omega
      have d12 : (0 : Int) ≤ (t : Int) + 8 := by omega
      have d13 : t ≤ t + 8 := by omega
      have hcell : wr.cell? ⟨g, 1 + k, none⟩ = some (.int .u64 (v k : Int)) := by
        rw [hin.out.1.lane k hk4]; simp [takeTo]
      have hfro : wr.frozen? ⟨g, 1 + k, none⟩ = false := hin.out.1.frozen _
      have rw1 := (hin.out.2.1.dropk (k := t) (by omega)).takek (k := 8) (by omega)
      simp only [Option.map_some, Addr.add_lit] at rw1
      have rw2 : Reads wr.drew B (some ⟨b, o + t, none⟩) 8 ((l.drop t).take 8) := rw1
      have hnum := (number_any _ 8 (c - t) _ wr.drew B rw2 (by omega) (by omega)).mono fun e w' h => (⟨h.1, h.2.symm⟩ : e = _ ∧ w' = wr.drew)
      have hw8 : leNum ((l.drop t).take 8) = xWord l t := rfl
      rw [hw8] at hnum
      obtain ⟨x, hx⟩ : ∃ x, x = xWord l t := ⟨_, rfl⟩
      obtain ⟨a, ha⟩ : ∃ a, a = v k := ⟨_, rfl⟩
      rw [← hx] at hnum
      rw [← ha] at hcell ix
      have hlane := (lane_any a x wr.drew).mono fun e w' h => (⟨h.1, h.2.symm⟩ : e = _ ∧ w' = wr.drew)
      obtain ⟨z, hz⟩ : ∃ z, z = xLane a x := ⟨_, rfl⟩
      rw [← hz] at hlane
      have HN := Lib.hid hnum
      have HLN := Lib.hid hlane
      have HX := Lib.hid hx
      have HA := Lib.hid ha
      have HZ := Lib.hid hz
      have HT := Lib.hid ht
      have HK := Lib.hid hk4
      have HCE := Lib.hid hcell
      clear hnum hlane hx ha hz ht hw8 rw1 rw2 hk hk4
      go_wp2_with fail
      go_still_tail 15, (by kernel_rfl)
      · repeat still_step
        still_call HN.out
        repeat still_step
        still_call HLN.out
        repeat still_step
        refine wpStill_nil ?_
        change wpList _ _ _ _ _ wr.drew
        have hcell2 := HCE.out
        go_wp2_with fail
        go_roundw
        case rel =>
          refine ⟨k + 1, by go_num, HK.out, ?_, ?_, ?_⟩
          · have o2 := hin.out.1.setLane k z HK.out
            have e : z = xLane (v k) (xWord l (8 * k)) := by rw [HZ.out, HA.out, HX.out, HT.out]
            rw [e, takeTo_next, ← e] at o2
            exact o2.keepb rfl
          · have := hin.out.2.1.setWord (by decide) HCE.out (Value.int .u64 (z : Int))
            exact this.keep fun p _ => rfl
          · exact grownBy_drew (hin.out.2.2.trans (grownBy_set _ _ _ _))
        case measure =>
          have := HK.out
          simp [intOf]
          omega
    · obtain rfl : k = 4 := by omega
      rw [show ((4 : Nat) : Int) = 4 from rfl]
      go_wp2_with fail
      go_end0
      refine ⟨rfl, hin.out.1.congr fun k hk => ?_, hin.out.2.2⟩
      simp [takeTo, hk]
end Go.Proofs.Ytbnbpfbgoicogaa
