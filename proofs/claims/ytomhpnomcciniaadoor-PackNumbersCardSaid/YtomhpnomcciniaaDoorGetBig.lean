/- Contract: bytes as a number, the highest first. It proves no statement. -/
import Derived.Test.YtomhpnomcciniaaDoorFits
import Derived.Test.YtomhpnomcciniaaDoorLe
import Derived.Laws.BitsAllLaws
namespace Go.Proofs.YtomhpnomcciniaaDoor
open Go.RowKit
set_option linter.unusedVariables false
set_option linter.unusedSimpArgs false

theorem big_or (y d : Nat) (hy : y < 72057594037927936) (hd : d < 256) :
    bits BinOp.or IntKind.u64 ((y : Int) * 256) (d : Int) = ((d + 256 * y : Nat) : Int) := by
  have e : (y : Int) * 256 = ((y * 256 : Nat) : Int) := by simp
  rw [e, u64_or_nat _ _ (by omega) (by omega), nat_join 8 _ _ (by omega) (by omega)]
  omega

set_option maxHeartbeats 400000 in
theorem getbig_yes (A : Option Addr) (n c : Nat) (l : List UInt8) (w : World) (B : Nat) (h : Reads w B A n l) (h1 : 1 ≤ n) (h2 : n ≤ 8) :
    Calls Tryd.prog 86 #[.slice A n c] w fun e w' => e = .returned (.tuple #[.int .u64 (leNum l.reverse : Int), .bool true]) ∧ w = w' := by
  have hl := h.1
  obtain ⟨b, o, rfl, hb, hc⟩ := h.at_ (by omega)
  go_enter Tryd.func86, Tryd.ntmps86
  go_wp2_with (go_at_call 82; refine (fits_yes _ _ (by omega) (by omega)).mono ?_; rintro e w' ⟨rfl, rfl⟩)
  go_loop [4, 13] (fun x i => ∃ k : Nat, k ≤ n ∧ i = .int .i64 k ∧ ∃ y : Nat, x = .int .u64 y ∧ Hid (y = leNum (l.take k).reverse)) (fun _ i => n - (intOf i).toNat)
  case atStart => exact ⟨0, Nat.zero_le _, rfl, 0, rfl, rfl⟩
  case round =>
    obtain ⟨k, hk, rfl, y, rfl, hy⟩ := hrel
    by_cases hlt : k < n
    · have c1 := hc k hlt
      obtain ⟨d, hd⟩ : ∃ d, d = (l.getD k 0).toNat := ⟨_, rfl⟩
      rw [← hd] at c1
      have hd' : d < 256 := by rw [hd]; exact (l.getD k 0).toNat_lt
      have HD := Lib.hid hd
      have hyb : y < 72057594037927936 := by
        have := leNum_lt (l.take k).reverse
        have h8 := pow_le8 k (by omega)
        rw [hy.out]
        simp only [List.length_reverse, List.length_take, show min k l.length = k by omega] at this
        omega
      clear hc hd
      go_wp2_with fail
      go_round
      case rel =>
        refine ⟨k + 1, by omega, by go_num, d + 256 * y, ?_, ?_⟩
        · have := big_or y d hyb hd'
          rw [this]
        · show _ = _
          have e : l.take (k + 1) = l.take k ++ [l.getD k 0] := by
            rw [List.take_add_one]; simp [List.getD, show k < l.length by omega]
          rw [e, List.reverse_append, hy.out, HD.out]
          rfl
      case measure => simp [intOf]; omega
    · obtain rfl : k = n := by omega
      have e := hy.out
      rw [List.take_of_length_le (by omega)] at e
      have E := Lib.hid e
      clear e hy
      go_wp2_with fail
      go_ret2
      rw [E.out]
      exact ⟨rfl, rfl⟩

theorem getbig_no (A : Option Addr) (n c : Nat) (w : World) (h : n < 1 ∨ 8 < n) :
    Calls Tryd.prog 86 #[.slice A n c] w fun e w' => e = .returned (.tuple #[.int .u64 0, .bool false]) ∧ w = w' := by
  go_enter Tryd.func86, Tryd.ntmps86
  go_wp2_with (go_at_call 82; refine (fits_no _ _ (by omega)).mono ?_; rintro e w' ⟨rfl, rfl⟩)
  go_ret2
  exact ⟨rfl, rfl⟩

end Go.Proofs.YtomhpnomcciniaaDoor
