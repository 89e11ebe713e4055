/- Contracts: the four lanes joined; a hasher's sum. It proves no statement. -/
import Derived.Test.YtbnbpfbgoicogaaXxhTake
import Derived.Deep.DeepCutAuto
namespace Go.Proofs.Ytbnbpfbgoicogaa
open Go.RowKit
set_option linter.unusedVariables false
set_option linter.unusedSimpArgs false

set_option maxRecDepth 100000 in
set_option maxHeartbeats 1600000 in
theorem joined_any (g seed size kept : Nat) (v : Nat → Nat) (R : List UInt8) (w : World) (hb : HB w g seed v size R kept) (hv : ∀ k, v k < m64) :
    Calls Try.prog 24 #[.pointer (some ⟨g, 0, none⟩)] w fun e w' => e = .returned (.int .u64 (xHead v : Nat)) ∧ Still w w' := by
  have c0 := hb.lane0
  have c1 := hb.lane1
  have c2 := hb.lane2
  have c3 := hb.lane3
  have hix : ∀ (k : Nat) (w : World), k < 4 → (Instr.index 40 (.agg #[.int .u64 (v 0 : Int), .int .u64 (v 1 : Int), .int .u64 (v 2 : Int), .int .u64 (v 3 : Int)]) (.int .i64 (k : Int))).run Try.prog w = .ok (.int .u64 (v k : Int)) w := by
    intro k w hk
    obtain rfl | rfl | rfl | rfl : k = 0 ∨ k = 1 ∨ k = 2 ∨ k = 3 := by omega
    all_goals kernel_rfl
  have t0 := fun w => (turnk _ 1 w (hv 0) (by omega)).mono fun e w' h => (⟨h.1, h.2.symm⟩ : e = _ ∧ w' = w)
  have t1 := fun w => (turnk _ 7 w (hv 1) (by omega)).mono fun e w' h => (⟨h.1, h.2.symm⟩ : e = _ ∧ w' = w)
  have t2 := fun w => (turnk _ 12 w (hv 2) (by omega)).mono fun e w' h => (⟨h.1, h.2.symm⟩ : e = _ ∧ w' = w)
  have t3 := fun w => (turnk _ 18 w (hv 3) (by omega)).mono fun e w' h => (⟨h.1, h.2.symm⟩ : e = _ ∧ w' = w)
  have hH := xHead_mixes v
  obtain ⟨H, hHe⟩ : ∃ H, H = xHead v := ⟨_, rfl⟩
  rw [← hHe] at hH ⊢
  have hW : ∀ a b c d : Nat, IntKind.u64.wrap (IntKind.u64.wrap (IntKind.u64.wrap ((a : Int) + (b : Int)) + (c : Int)) + (d : Int)) = (((a + b + c + d) % m64 : Nat) : Int) := by
    intro a b c d
    rw [wrap_add, wrap_add, wrap_add, Nat.mod_add_mod, show (a + b) % m64 + c + d = (a + b) % m64 + (c + d) by omega, Nat.mod_add_mod, Nat.add_assoc (a + b)]
  have hv0 := hW (rotl 64 (v 0) 1) (rotl 64 (v 1) 7) (rotl 64 (v 2) 12) (rotl 64 (v 3) 18)
  generalize rotl 64 (v 0) 1 = r0 at *
  generalize rotl 64 (v 1) 7 = r1 at *
  generalize rotl 64 (v 2) 12 = r2 at *
  generalize rotl 64 (v 3) 18 = r3 at *
  have hh0 : (r0 + r1 + r2 + r3) % m64 < m64 := Nat.mod_lt _ (by decide)
  generalize (r0 + r1 + r2 + r3) % m64 = h0 at *
  obtain ⟨f0, g0⟩ : ∃ f, f = v 0 := ⟨_, rfl⟩
  obtain ⟨f1, g1⟩ : ∃ f, f = v 1 := ⟨_, rfl⟩
  obtain ⟨f2, g2⟩ : ∃ f, f = v 2 := ⟨_, rfl⟩
  obtain ⟨f3, g3⟩ : ∃ f, f = v 3 := ⟨_, rfl⟩
  rw [← g0] at c0 hix t0
  rw [← g1] at c1 hix t1
  rw [← g2] at c2 hix t2
  rw [← g3] at c3 hix t3
  have HIX := Lib.hid hix
  have HH := Lib.hid hH
  have H0 := Lib.hid hh0
  have HVL := Lib.hid hv
  have T0 := Lib.hid t0
  have T1 := Lib.hid t1
  have T2 := Lib.hid t2
  have T3 := Lib.hid t3
  clear hb hix g0 g1 g2 g3 hH hHe hh0 hv hW t0 t1 t2 t3
  go_enter Try.func24, Try.ntmps24
  go_wp2_with fail
  have st : Still w (w.alloc (Obj.cells #[.int .u64 (f0 : Int), .int .u64 (f1 : Int), .int .u64 (f2 : Int), .int .u64 (f3 : Int)] 40)) := (Still.refl w).alloc (Nat.le_refl _) _
  have hn := heap_alloc_new w (Obj.cells #[.int .u64 (f0 : Int), .int .u64 (f1 : Int), .int .u64 (f2 : Int), .int .u64 (f3 : Int)] 40)
  generalize w.alloc (Obj.cells #[.int .u64 (f0 : Int), .int .u64 (f1 : Int), .int .u64 (f2 : Int), .int .u64 (f3 : Int)] 40) = wa at *
  clear c0 c1 c2 c3
  have c0 : wa.cell? ⟨w.heap.size, 0, none⟩ = some (.int .u64 (f0 : Int)) := cell_of_row wa _ 0 _ _ _ hn
  have c1 : wa.cell? ⟨w.heap.size, 1, none⟩ = some (.int .u64 (f1 : Int)) := cell_of_row wa _ 1 _ _ _ hn
  have c2 : wa.cell? ⟨w.heap.size, 2, none⟩ = some (.int .u64 (f2 : Int)) := cell_of_row wa _ 2 _ _ _ hn
  have c3 : wa.cell? ⟨w.heap.size, 3, none⟩ = some (.int .u64 (f3 : Int)) := cell_of_row wa _ 3 _ _ _ hn
  have ST := Lib.hid st
  clear st hn
  go_quiet ((first | (go_at_call_of 29 (Value.int .u64 (f0 : Int)); exact Calls.quiet_of_same (T0.out _)) | (go_at_call_of 29 (Value.int .u64 (f1 : Int)); exact Calls.quiet_of_same (T1.out _)) | (go_at_call_of 29 (Value.int .u64 (f2 : Int)); exact Calls.quiet_of_same (T2.out _)) | (go_at_call_of 29 (Value.int .u64 (f3 : Int)); exact Calls.quiet_of_same (T3.out _))))
  clear T0 T1 T2 T3
  go_wp2_with fail
  clear hv0 c0 c1 c2 c3
  go_loop [4, 27] (fun hv iv => ∃ j : Nat, iv = .int .i64 j ∧ j ≤ 4 ∧ ∃ x : Nat, hv = .int .u64 x ∧ Hid (x = xMixes h0 v j)) (fun _ iv => 4 - (intOf iv).toNat)
  case atStart => exact ⟨0, rfl, by omega, h0, rfl, rfl⟩
  case round =>
    obtain ⟨j, rfl, hj, x, rfl, hx⟩ := hrel
    by_cases hj4 : j < 4
    · have hxl : x < m64 := by rw [hx.out]; exact xMixes_lt _ _ _ H0.out
      have z1 : (0 : Int) ≤ (j : Int) := by omega
      have z2 : (j : Int) < 4 := by omega
      have ix := fun w => HIX.out j w hj4
      obtain ⟨a, ha⟩ : ∃ a, a = v j := ⟨_, rfl⟩
      rw [← ha] at ix
      have lz := fun w => Go.Proofs.Ytbnbpfbgoicogaa.lane0 a w
      have ex := u64_xor_nat x (xLane 0 a) hxl (xLane_lt _ _)
      have em : IntKind.u64.wrap (((x ^^^ xLane 0 a : Nat) : Int) * 11400714785074694791) = (((x ^^^ xLane 0 a) * xP1 % m64 : Nat) : Int) := wrap_mul (x ^^^ xLane 0 a) xP1
      have ea : IntKind.u64.wrap ((((x ^^^ xLane 0 a) * xP1 % m64 : Nat) : Int) + 9650029242287828579) = ((((x ^^^ xLane 0 a) * xP1 % m64 + xP4) % m64 : Nat) : Int) := wrap_add ((x ^^^ xLane 0 a) * xP1 % m64) xP4
      rw [Nat.mod_add_mod] at ea
      have e0 : ((x ^^^ xLane 0 a) * xP1 + xP4) % m64 = xMixes h0 v (j + 1) := by rw [ha, hx.out]; rfl
      rw [e0] at ea
      clear e0
      generalize xLane 0 a = y at *
      generalize x ^^^ y = y2 at *
      generalize y2 * xP1 % m64 = y3 at *
      obtain ⟨z, hz⟩ : ∃ z, z = xMixes h0 v (j + 1) := ⟨_, rfl⟩
      rw [← hz] at ea
      have HZ := Lib.hid hz
      have LZ := Lib.hid lz
      clear hz lz ha hx
      go_wp2_with fail
      refine (LZ.out _).mono ?_
      rintro e w1 ⟨rfl, rfl⟩
      go_wp2_with fail
      go_round
      case rel => exact ⟨j + 1, by go_num, hj4, z, rfl, HZ.out⟩
      case measure => simp [intOf]; omega
    · obtain rfl : j = 4 := by omega
      go_wp2_with fail
      go_ret
      exact ⟨congrArg (fun z : Nat => Ending.returned (Value.int .u64 (z : Int))) (hx.out.trans HH.out.symm), still_drewN ST.out _⟩
end Go.Proofs.Ytbnbpfbgoicogaa
