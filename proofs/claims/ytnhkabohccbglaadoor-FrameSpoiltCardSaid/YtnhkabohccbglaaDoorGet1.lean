/- Contract: bytes as a number, the lowest first. It proves no statement. -/
import Derived.Test.YtnhkabohccbglaaDoorFits
import Derived.Test.YtnhkabohccbglaaDoorLe
import Derived.Laws.BitsAllLaws
namespace Go.Proofs.YtnhkabohccbglaaDoor
open Go.RowKit
set_option linter.unusedVariables false
set_option linter.unusedSimpArgs false

theorem get_or (y d k : Nat) (hy : y < 2 ^ (8 * k)) (hd : d < 256) (hk : k ≤ 7) :
    bits BinOp.or IntKind.u64 (y : Int) (IntKind.u64.wrap ((d : Int) * 2 ^ (8 * k))) = ((y + d * 2 ^ (8 * k) : Nat) : Int) := by
  have hp := pow_le8 k hk
  have hm : d * 2 ^ (8 * k) ≤ 255 * 72057594037927936 := Nat.mul_le_mul (by omega) hp
  have e : (d : Int) * 2 ^ (8 * k) = ((d * 2 ^ (8 * k) : Nat) : Int) := by simp
  rw [e, u64_wrap_nat _ (by omega), u64_or_nat _ _ (by omega) (by omega), Nat.or_comm, nat_join (8 * k) _ _ (by simp) hy, Nat.add_comm]
set_option maxHeartbeats 400000 in
theorem get_yes (A : Option Addr) (n c : Nat) (l : List UInt8) (w : World) (B : Nat) (h : Reads w B A n l) (h1 : 1 ≤ n) (h2 : n ≤ 8) :
    Calls Tryd.prog 47 #[.slice A n c] w fun e w' => e = .returned (.tuple #[.int .u64 (leNum l : Int), .bool true]) ∧ w = w' := by
  have hl := h.1
  obtain ⟨b, o, rfl, hb, hc⟩ := h.at_ (by omega)
  go_enter Tryd.func47, Tryd.ntmps47
  go_wp2_with (go_at_call 43; refine (fits_yes _ _ (by omega) (by omega)).mono ?_; rintro e w' ⟨rfl, rfl⟩)
  go_loop [4, 13] (fun x i => ∃ k : Nat, k ≤ n ∧ i = .int .i64 k ∧ ∃ y : Nat, x = .int .u64 y ∧ Hid (y = leNum (l.take k))) (fun _ i => n - (intOf i).toNat)
  case atStart => exact ⟨0, Nat.zero_le _, rfl, 0, rfl, rfl⟩
  case round =>
    obtain ⟨k, hk, rfl, y, rfl, hy⟩ := hrel
    by_cases hlt : k < n
    · have c1 := hc k hlt
      obtain ⟨d, hd⟩ : ∃ d, d = (l.getD k 0).toNat := ⟨_, rfl⟩
      rw [← hd] at c1
      have hd' : d < 256 := by rw [hd]; exact (l.getD k 0).toNat_lt
      have HD := Lib.hid hd
      clear hc hd
      go_wp2_with fail
      go_round
      case rel =>
        have hyb : y < 2 ^ (8 * k) := by
          have := leNum_lt (l.take k)
          rw [hy.out]
          simpa [show min k l.length = k by omega] using this
        refine ⟨k + 1, by omega, by go_num, y + d * 2 ^ (8 * k), ?_, ?_⟩
        · rw [get_or y d k hyb hd' (by omega)]
        · show _ = _
          rw [leNum_take l k (by omega), hy.out, HD.out]
      case measure => simp [intOf]; omega
    · obtain rfl : k = n := by omega
      have e := hy.out
      rw [List.take_of_length_le (by omega)] at e
      have E := Lib.hid e
      clear e hy
      go_wp2_with fail
      go_ret2
      rw [E.out]
      exact ⟨rfl, rfl⟩
theorem get_no (A : Option Addr) (n c : Nat) (w : World) (h : n < 1 ∨ 8 < n) :
    Calls Tryd.prog 47 #[.slice A n c] w fun e w' => e = .returned (.tuple #[.int .u64 0, .bool false]) ∧ w = w' := by
  go_enter Tryd.func47, Tryd.ntmps47
  go_wp2_with (go_at_call 43; refine (fits_no _ _ (by omega)).mono ?_; rintro e w' ⟨rfl, rfl⟩)
  go_ret2
  exact ⟨rfl, rfl⟩
end Go.Proofs.YtnhkabohccbglaaDoor
