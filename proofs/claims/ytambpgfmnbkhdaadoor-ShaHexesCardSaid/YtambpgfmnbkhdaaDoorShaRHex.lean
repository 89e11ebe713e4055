/- Contract: a sum in digits, by the document's own answer. It proves no statement. -/
import Derived.Test.YtambpgfmnbkhdaaDoorShaHex
namespace Go.Proofs.YtambpgfmnbkhdaaDoor
open Go.RowKit
set_option linter.unusedVariables false
set_option linter.unusedSimpArgs false

theorem slice_digit (w : World) (q : Nat) (h : q < 16) : (Instr.slice 9 (.string ⟨#[48, 49, 50, 51, 52, 53, 54, 55, 56, 57, 97, 98, 99, 100, 101, 102]⟩) (some (.int .u8 (q : Int))) (some (.int .u8 ((q + 1 : Nat) : Int))) none).run Tryd.prog w = .ok (.string ⟨#[dg q]⟩) w := by
  rw [run_slice_string w 9 _ .u8 .u8 (q : Int) ((q + 1 : Nat) : Int) (by kernel_rfl) (by omega) (by omega) (by have : (⟨#[48, 49, 50, 51, 52, 53, 54, 55, 56, 57, 97, 98, 99, 100, 101, 102]⟩ : ByteArray).size = 16 := rfl; omega)]
  congr 2
  obtain rfl | rfl | rfl | rfl | rfl | rfl | rfl | rfl | rfl | rfl | rfl | rfl | rfl | rfl | rfl | rfl : q = 0 ∨ q = 1 ∨ q = 2 ∨ q = 3 ∨ q = 4 ∨ q = 5 ∨ q = 6 ∨ q = 7 ∨ q = 8 ∨ q = 9 ∨ q = 10 ∨ q = 11 ∨ q = 12 ∨ q = 13 ∨ q = 14 ∨ q = 15 := by omega
  all_goals decide +kernel
theorem cat_eq (a b : List UInt8) : (⟨a.toArray⟩ : ByteArray) ++ ⟨b.toArray⟩ = ⟨(a ++ b).toArray⟩ := by
  apply ByteArray.ext; simp
theorem cat_bytes (w : World) (a b : List UInt8) (h : a.length + b.length ≤ 9223372036854775807) : (binOp .add 9 (.string ⟨a.toArray⟩) (.string ⟨b.toArray⟩)).run Tryd.prog w = .ok (.string ⟨(a ++ b).toArray⟩) w := by
  have e : (⟨a.toArray⟩ : ByteArray) ++ ⟨b.toArray⟩ = ⟨(a ++ b).toArray⟩ := by
    apply ByteArray.ext; simp
  rw [← e]
  simp [go_sem]; exact h

theorem rstill_drewN {a w : World} (h : Still a w) (n : Nat) : Still a (w.drewN n) := ⟨h.os, h.tape, h.output, h.size, h.block⟩

set_option maxRecDepth 100000 in
set_option maxHeartbeats 800000 in
theorem rhex_any (l : List UInt8) (w : World) (hl : l.length = 32) :
    Calls Tryd.prog 25 #[.agg (bytesV l).toArray] w fun e w' => e = .returned (.string ⟨(hexL l).toArray⟩) ∧ Still w w' := by
  obtain ⟨wA, hA⟩ : ∃ x, x = w.alloc (.cells (bytesV l).toArray 26) := ⟨_, rfl⟩
  have aA : Arr wA w.heap.size l := by rw [hA]; exact Arr.new _ _
  have sA : Still w wA := by rw [hA]; exact (Still.refl w).alloc (Nat.le_refl _) _
  obtain ⟨arr, harr⟩ : ∃ a, a = (bytesV l).toArray := ⟨_, rfl⟩
  rw [← harr] at hA ⊢
  have AA := Lib.hid aA
  have SA := Lib.hid sA
  have HL := Lib.hid hl
  clear aA sA harr
  go_enter Tryd.func25, Tryd.ntmps25
  go_wp2_with fail
  rw [← hA]
  clear hA
  go_loopw [3, 4] (fun s i wr => ∃ k : Nat, k ≤ 32 ∧ i = .int .i64 k ∧ s = .string ⟨(hexL (l.take k)).toArray⟩ ∧ Still wA wr) (fun _ i _ => 32 - (intOf i).toNat)
  case atStart => exact ⟨0, by omega, rfl, rfl, Still.refl _⟩
  case round =>
    obtain ⟨k, hk, rfl, rfl, st⟩ := hrel
    by_cases hlt : k < 32
    · have d1 : (k : Int) < 32 := by omega
      have hcell := (AA.out.still st).cell k (by rw [HL.out]; exact hlt)
      have hnx := hex_take l k (by rw [HL.out]; exact hlt)
      have hhl : (hexL (l.take k)).length ≤ 64 := by rw [hexL_length, List.length_take]; omega
      have hc := (l.getD k 0).toNat_lt
      generalize (l.getD k 0).toNat = c at *
      have e1 : (c : Int) / 16 = ((c / 16 : Nat) : Int) := by omega
      have e2 : (c : Int) % 16 = ((c % 16 : Nat) : Int) := by omega
      have x1 := fun w => slice_digit w (c / 16) (by omega)
      have x2 := fun w => slice_digit w (c % 16) (by omega)
      have p1 : ((c / 16 : Nat) : Int) + 1 = ((c / 16 + 1 : Nat) : Int) := by omega
      have p2 : ((c % 16 : Nat) : Int) + 1 = ((c % 16 + 1 : Nat) : Int) := by omega
      have wp1 : IntKind.u8.wrap ((c / 16 + 1 : Nat) : Int) = ((c / 16 + 1 : Nat) : Int) := by rw [IntKind.wrap_u8]; omega
      have wp2 : IntKind.u8.wrap ((c % 16 + 1 : Nat) : Int) = ((c % 16 + 1 : Nat) : Int) := by rw [IntKind.wrap_u8]; omega
      have c1 := fun w => cat_bytes w (hexL (l.take k)) [dg (c / 16)] (by simp; omega)
      have c2 := fun w => cat_bytes w (hexL (l.take k) ++ [dg (c / 16)]) [dg (c % 16)] (by simp; omega)
      have hfin : (hexL (l.take k) ++ [dg (c / 16)]) ++ [dg (c % 16)] = hexL (l.take (k + 1)) := by rw [hnx]; simp
      have a1 := cat_eq (hexL (l.take k)) [dg (c / 16)]
      have a2 := cat_eq (hexL (l.take k) ++ [dg (c / 16)]) [dg (c % 16)]
      have z1 : (⟨(hexL (l.take k)).toArray⟩ : ByteArray).size + (⟨[dg (c / 16)].toArray⟩ : ByteArray).size ≤ 9223372036854775807 := by
        show (hexL (l.take k)).toArray.size + 1 ≤ _
        simp; omega
      have z2 : (⟨(hexL (l.take k) ++ [dg (c / 16)]).toArray⟩ : ByteArray).size + (⟨[dg (c % 16)].toArray⟩ : ByteArray).size ≤ 9223372036854775807 := by
        show (hexL (l.take k) ++ [dg (c / 16)]).toArray.size + 1 ≤ _
        simp; omega
      rw [hfin] at c2 a2
      clear hnx hfin hhl
      have g1 : (⟨#[dg (c / 16)]⟩ : ByteArray) = ⟨[dg (c / 16)].toArray⟩ := rfl
      have g2 : (⟨#[dg (c % 16)]⟩ : ByteArray) = ⟨[dg (c % 16)].toArray⟩ := rfl
      rw [g1] at x1
      rw [g2] at x2
      clear g1 g2
      generalize (⟨[dg (c / 16)].toArray⟩ : ByteArray) = Y1 at *
      generalize (⟨[dg (c % 16)].toArray⟩ : ByteArray) = Y2 at *
      generalize (⟨(hexL (l.take k) ++ [dg (c / 16)]).toArray⟩ : ByteArray) = S1 at *
      generalize (⟨(hexL (l.take k)).toArray⟩ : ByteArray) = S0 at *
      obtain ⟨S2, hS2⟩ : ∃ S, S = (⟨(hexL (l.take (k + 1))).toArray⟩ : ByteArray) := ⟨_, rfl⟩
      rw [← hS2] at c2 a2
      have HS2 := Lib.hid hS2
      clear hS2
      have b1 : c / 16 < 16 := by omega
      have b2 : c % 16 < 16 := by omega
      obtain ⟨r1, hr1⟩ : ∃ r, r = c / 16 + 1 := ⟨_, rfl⟩
      obtain ⟨r2, hr2⟩ : ∃ r, r = c % 16 + 1 := ⟨_, rfl⟩
      rw [← hr1] at x1 p1 wp1
      rw [← hr2] at x2 p2 wp2
      generalize c / 16 = q1 at *
      generalize c % 16 = q2 at *
      have wq1 : IntKind.u8.wrap (q1 : Int) = (q1 : Int) := by rw [IntKind.wrap_u8]; omega
      have wq2 : IntKind.u8.wrap (q2 : Int) = (q2 : Int) := by rw [IntKind.wrap_u8]; omega
      have f0 : (0 : Int) ≤ (r1 : Int) := by omega
      have f1 : (r1 : Int) ≤ 16 := by omega
      have f2 : (0 : Int) ≤ (q1 : Int) := by omega
      have f3 : (q1 : Int) ≤ (r1 : Int) := by omega
      have f4 : (0 : Int) ≤ (r2 : Int) := by omega
      have f5 : (r2 : Int) ≤ 16 := by omega
      have f6 : (0 : Int) ≤ (q2 : Int) := by omega
      have f7 : (q2 : Int) ≤ (r2 : Int) := by omega
      have lsz : (⟨#[48, 49, 50, 51, 52, 53, 54, 55, 56, 57, 97, 98, 99, 100, 101, 102]⟩ : ByteArray).size = 16 := rfl
      have ST := Lib.hid st
      have hlt' := hlt
      have HK := Lib.hid hlt
      clear hlt st hr1 hr2
      go_wp2_with fail
      go_quiet (fail)
      go_wp2_with fail
      go_roundw
      case rel => exact ⟨k + 1, by have := HK.out; omega, by go_num, by rw [HS2.out], rstill_drewN ST.out _⟩
      case measure => simp [intOf]; have := HK.out; omega
    · obtain rfl : k = 32 := by omega
      rw [show ((32 : Nat) : Int) = 32 from rfl]
      have hfull : l.take 32 = l := List.take_of_length_le (by rw [HL.out]; omega)
      rw [hfull]
      have ST := Lib.hid (SA.out.trans st)
      clear st
      go_wp2_with fail
      go_ret
      exact ⟨rfl, ST.out⟩
end Go.Proofs.YtambpgfmnbkhdaaDoor
