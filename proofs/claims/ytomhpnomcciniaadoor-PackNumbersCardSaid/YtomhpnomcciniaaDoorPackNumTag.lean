/- Contract: a number's tag. It proves no statement. -/
import Derived.Test.YtomhpnomcciniaaDoorPackTag
import Derived.Laws.BitsAllLaws
namespace Go.Proofs.YtomhpnomcciniaaDoor
open Go.RowKit
set_option linter.unusedVariables false
set_option linter.unusedSimpArgs false

/-- A number's tag. -/
def nt (x : Int) : Nat := if -32 ≤ x ∧ x ≤ 127 then (x % 256).toNat else if 0 ≤ x then pk x.toNat 204 else pk (2 * (-x - 1)).toNat 208
theorem i64_flip (x : Int) (h1 : -9223372036854775808 ≤ x) (h2 : x ≤ 9223372036854775807) : bits .xor .i64 (-1) x = -1 - x := by
  show IntKind.i64.wrap ((BitVec.ofInt 64 (-1) ^^^ BitVec.ofInt 64 x).toNat : Int) = _
  have h : BitVec.ofInt 64 (-1) = BitVec.allOnes 64 := by decide
  rw [h, BitVec.allOnes_xor, BitVec.toNat_not, BitVec.toNat_ofInt, IntKind.wrap_i64]
  omega
theorem pick_lit (x : Nat) (w : World) (hx : x < 18446744073709551616) :
    Calls Tryd.prog 65 #[.int .u64 (x : Int), .agg #[.int .u8 204, .int .u8 205, .int .u8 206, .int .u8 207]] w fun e w' => e = .returned (.int .u8 (pk x 204 : Nat)) ∧ Still w w' := pick_any x 204 w hx
theorem pick_lit2 (x : Nat) (w : World) (hx : x < 18446744073709551616) :
    Calls Tryd.prog 65 #[.int .u64 (x : Int), .agg #[.int .u8 208, .int .u8 209, .int .u8 210, .int .u8 211]] w fun e w' => e = .returned (.int .u8 (pk x 208 : Nat)) ∧ Still w w' := pick_any x 208 w hx

set_option maxRecDepth 100000 in
set_option maxHeartbeats 800000 in
theorem numTag_any (x : Int) (w : World) (h1 : -9223372036854775808 ≤ x) (h2 : x ≤ 9223372036854775807) :
    Calls Tryd.prog 42 #[.int .i64 x] w fun e w' => e = .returned (.int .u8 (nt x : Nat)) ∧ Still w w' := by
  by_cases c1 : -32 ≤ x ∧ x ≤ 127
  · obtain ⟨a, b⟩ := c1
    have e : ((nt x : Nat) : Int) = x % 256 := by unfold nt; rw [if_pos ⟨a, b⟩]; omega
    have HE := Lib.hid e
    clear e h1 h2
    go_enter Tryd.func42, Tryd.ntmps42
    go_wp2_with fail
    go_ret
    exact ⟨ret_u8 HE.out.symm, Still.refl w⟩
  · by_cases c2 : 0 ≤ x
    · obtain ⟨n, rfl⟩ := Int.eq_ofNat_of_zero_le c2
      have e : nt (n : Int) = pk n 204 := by unfold nt; rw [if_neg c1, if_pos c2]; rfl
      have HP := Lib.hid (fun w => pick_lit n w (by omega))
      have d1 : -32 ≤ (n : Int) := by omega
      have d2 : ¬ (n : Int) ≤ 127 := by omega
      have e2 : IntKind.u64.wrap (n : Int) = (n : Int) := by rw [IntKind.wrap_u64]; omega
      rw [e]
      obtain ⟨y, hy⟩ : ∃ y, y = pk n 204 := ⟨_, rfl⟩
      rw [← hy] at HP ⊢
      clear e c1 h1 h2 hy
      go_enter Tryd.func42, Tryd.ntmps42
      go_wp2_with fail
      refine (HP.out _).mono ?_
      rintro e w1 ⟨rfl, s1⟩
      go_wp2_with fail
      go_ret
      exact ⟨rfl, s1⟩
    · obtain ⟨n, hn⟩ := Int.eq_ofNat_of_zero_le (show 0 ≤ -x - 1 by omega)
      have e : nt x = pk (2 * n) 208 := by unfold nt; rw [if_neg c1, if_neg c2, hn]; rfl
      have HP := Lib.hid (fun w => pick_lit2 (2 * n) w (by omega))
      have d1 : ¬ -32 ≤ x := by omega
      have d2 : ¬ 0 ≤ x := by omega
      have e1 : bits .xor .i64 (-1) x = (n : Int) := by rw [i64_flip x h1 h2]; omega
      have e2 : IntKind.u64.wrap (n : Int) = (n : Int) := by rw [IntKind.wrap_u64]; omega
      obtain ⟨m, hm⟩ : ∃ m, m = 2 * n := ⟨_, rfl⟩
      have e3 : IntKind.u64.wrap ((n : Int) * 2) = (m : Int) := by rw [IntKind.wrap_u64]; omega
      have e4 : (n : Int) * 2 = (m : Int) := by omega
      have e5 : IntKind.u64.wrap (m : Int) = (m : Int) := by rw [IntKind.wrap_u64]; omega
      rw [e]
      rw [← hm] at HP ⊢
      obtain ⟨y, hy⟩ : ∃ y, y = pk m 208 := ⟨_, rfl⟩
      rw [← hy] at HP ⊢
      have HX := Lib.hid hn
      clear e c1 c2 h1 h2 hy hn hm
      go_enter Tryd.func42, Tryd.ntmps42
      go_wp2_with fail
      refine (HP.out _).mono ?_
      rintro e w1 ⟨rfl, s1⟩
      go_wp2_with fail
      go_ret
      exact ⟨rfl, s1⟩
end Go.Proofs.YtomhpnomcciniaaDoor
