/- Contracts: the document's own Put. It proves no statement. -/
import Derived.Test.YtnhkabohccbglaaDoorPut
namespace Go.Proofs.YtnhkabohccbglaaDoor
open Go.RowKit
set_option linter.unusedVariables false
set_option linter.unusedSimpArgs false

theorem rput_no (x : Nat) (n : Int) (w : World) (h : n < 1 ∨ 8 < n) :
    Calls Tryd.prog 33 #[.int .u64 x, .int .i64 n] w fun e w' => e = .returned (.slice none 0 0) ∧ w = w' := by
  rcases h with h | h
  · go_enter Tryd.func33, Tryd.ntmps33
    go_wp2
    go_ret
    exact ⟨rfl, rfl⟩
  · have h1 : 1 ≤ n := by omega
    go_enter Tryd.func33, Tryd.ntmps33
    go_wp2
    go_ret
    exact ⟨rfl, rfl⟩

set_option maxHeartbeats 400000 in
theorem rput_yes (x n : Nat) (w : World) (hx : x < 18446744073709551616) (h1 : 1 ≤ n) (h2 : n ≤ 8) :
    Calls Tryd.prog 33 #[.int .u64 x, .int .i64 n] w fun e w' =>
      ∃ v, e = .returned v ∧ w'.ownsRow w.heap.size 5 1 v n (bytesV (leBytes x n)) ∧ Still w w' := by
  have h2' : decide ((8 : Int) < n) = false := by simp; omega
  go_enter Tryd.func33, Tryd.ntmps33
  go_wp2_with fail
  go_loopw [0, 5, 6] (fun xv v i wr => ∃ k : Nat, k ≤ n ∧ i = .int .i64 k ∧ (∃ y : Nat, xv = .int .u64 y ∧ Hid (y = x / 2 ^ (8 * k)) ∧ y < 18446744073709551616) ∧ wr.ownsRow w.heap.size 5 1 v k (bytesV (leBytes x k)) ∧ Still w wr)
    (fun _ _ i _ => n - (intOf i).toNat)
  case atStart => exact ⟨0, Nat.zero_le _, rfl, ⟨x, rfl, by simp [Hid], hx⟩, World.ownsRow_nil _ _ _ _, Below.refl _ _⟩
  case round =>
    obtain ⟨k, hk, rfl, ⟨y, rfl, hy, hyb⟩, hownr, hstr⟩ := hrel
    have hbyte : Hid ((y : Int) % 256 = ((UInt8.ofNat (x / 2 ^ (8 * k))).toNat : Int)) := by unfold Hid; rw [byte_cast, hy.out]
    go_wp2_with (at_builtin; go_must (refine wpList_push _ rfl _ _ rfl w.heap.size _ _ _ rfl hownr _ (UInt8.ofNat (x / 2 ^ (8 * k))) rfl ?c1 ?c2 ?c3 ?_))
    case c1 => exact hbyte.out
    case c2 => omega
    case c3 => exact hstr.size
    · intro v' w1 hown' hgrow _
      have hst' : Still w w1 := hstr.grown hgrow hstr.size (fun k hk => (hownr.lt k hk).1)
      have hlt : k < n := by assumption
      clear hgrow hbyte
      go_wp2_with fail
      go_roundw
      case rel => exact ⟨k + 1, by omega, by go_num, ⟨y / 256, by simp, by
        have h := hy.out
        show y / 256 = _
        rw [h, Nat.div_div_eq_div_mul]
        congr 1
        rw [show 8 * (k + 1) = 8 * k + 8 by omega, Nat.pow_add], by omega⟩, by rw [leBytes_succ]; exact hown', hst'⟩
      case measure => simp [intOf]; omega
    · obtain rfl : k = n := by omega
      go_ret
      exact ⟨_, rfl, hownr, hstr⟩
end Go.Proofs.YtnhkabohccbglaaDoor
