/- Contracts: a number as bytes. It proves no statement. -/
import Derived.Test.YtnhkabohccbglaaDoorFits
import Derived.Outline
import Derived.Deep.DeepMust
namespace Go.Proofs.YtnhkabohccbglaaDoor
open Go.RowKit
set_option linter.unusedVariables false

def leBytes (x n : Nat) : List UInt8 := (List.range n).map (fun i => UInt8.ofNat (x / 2 ^ (8 * i)))
theorem leBytes_length (x n : Nat) : (leBytes x n).length = n := by simp [leBytes]
theorem leBytes_succ (x n : Nat) : leBytes x (n + 1) = leBytes x n ++ [UInt8.ofNat (x / 2 ^ (8 * n))] := by simp [leBytes, List.range_succ]

theorem byte_cast (y : Nat) : ((UInt8.ofNat y).toNat : Int) = (y : Int) % 256 := by simp
theorem le_cast (x k : Nat) : ((UInt8.ofNat (x / 2 ^ (8 * k))).toNat : Int) = (x : Int) / 2 ^ (8 * k) % 256 := by
  rw [byte_cast]; simp

theorem put_step {w : World} {B g x n k : Nat} (hk : k < n) (h : w.ownsRow B 5 1 (.slice (some ⟨g, 0, none⟩) n n) n (bytesV (leBytes x k ++ List.replicate (n - k) 0))) :
    (w.setCell ⟨g, k, none⟩ (.int .u8 ((UInt8.ofNat (x / 2 ^ (8 * k))).toNat : Int))).ownsRow B 5 1 (.slice (some ⟨g, 0, none⟩) n n) n (bytesV (leBytes x (k + 1) ++ List.replicate (n - (k + 1)) 0)) := by
  have hs := (h.stored k (.int .u8 ((UInt8.ofNat (x / 2 ^ (8 * k))).toNat : Int))).1
  rw [bytesV_set] at hs
  have e : (leBytes x k ++ List.replicate (n - k) 0).set k (UInt8.ofNat (x / 2 ^ (8 * k))) = leBytes x (k + 1) ++ List.replicate (n - (k + 1)) 0 := by
    rw [leBytes_succ, List.set_append_right _ _ (by simp [leBytes_length])]
    obtain ⟨m, rfl⟩ : ∃ m, n = k + 1 + m := ⟨n - (k + 1), by omega⟩
    simp [leBytes_length, show k + 1 + m - k = m + 1 by omega, List.replicate_succ]
  rw [e] at hs
  exact hs

set_option maxRecDepth 100000 in
set_option maxHeartbeats 400000 in
theorem put_yes (x n : Nat) (w : World) (hx : x < 18446744073709551616) (h1 : 1 ≤ n) (h2 : n ≤ 8) :
    Calls Tryd.prog 30 #[.int .u64 x, .int .i64 n] w fun e w' =>
      e = .returned (.slice (some ⟨w.heap.size, 0, none⟩) n n) ∧ w'.ownsRow w.heap.size 5 1 (.slice (some ⟨w.heap.size, 0, none⟩) n n) n (bytesV (leBytes x n)) ∧ Still w w' := by
  obtain ⟨i0, hi, hz0, hz1, hz2⟩ := info_parts Tryd.infoByte
  obtain ⟨B, hB⟩ : ∃ B, B = w.heap.size := ⟨_, rfl⟩
  have HX := Lib.hid hx
  clear hx
  go_enter Tryd.func30, Tryd.ntmps30
  go_wp2_with (first | (go_at_call 43; refine (fits_yes _ _ (by omega) (by omega)).mono ?_; rintro e w' ⟨rfl, rfl⟩) | (at_make; go_must (refine wpList_make_full _ rfl _ _ 24 rfl w.heap.size 5 i0 (.int .u8 0) 1 Tryd.underlying24 hi hz0 hz1 _ _ _ _ n rfl rfl rfl rfl ?c1 ?c2 ?c3 ?_)))
  case c1 => rw [hz2]; omega
  case c2 => unfold maxLen; omega
  case c3 => exact Nat.le_refl _
  intro w1 hown hgrow
  have hst : Still w w1 := (Below.refl _ _).grown hgrow (Nat.le_refl _) (by intro k hk; cases hk)
  clear hgrow
  go_wp2_with fail
  go_loopw [6, 14] (fun _ i wr => ∃ k : Nat, k ≤ n ∧ i = .int .i64 k ∧ wr.ownsRow w.heap.size 5 1 (.slice (some ⟨w.heap.size, 0, none⟩) n n) n (bytesV (leBytes x k ++ List.replicate (n - k) 0)) ∧ Still w wr)
    (fun _ i _ => n - (intOf i).toNat)
  case atStart => exact ⟨0, Nat.zero_le _, rfl, by
    rw [toList_madeCells_one, bytesV_rep] at hown
    simpa [leBytes] using hown, hst⟩
  case round =>
    obtain ⟨k, hk, rfl, hownr, hstr⟩ := hrel
    have hc : k < n → wr.cell? ⟨w.heap.size, k, none⟩ = some (.int .u8 (((leBytes x k ++ List.replicate (n - k) 0).getD k 0).toNat : Int)) := fun h => by
      rw [hownr.cellAt k (by omega), bytesV_get _ _ (by simp [leBytes_length]; omega)]
    have hf : wr.frozen? ⟨w.heap.size, k, none⟩ = false := hownr.frozenAt k
    go_wp2_with fail
    · have hlt : k < n := by assumption
      go_roundw
      case rel => exact ⟨k + 1, by omega, by go_num, by
        have h := put_step hlt hownr
        rw [le_cast] at h
        exact h, hstr.setCell (Nat.le_refl _) _⟩
      case measure => simp [intOf]; omega
    · obtain rfl : k = n := by omega
      go_ret
      exact ⟨rfl, by simpa using hownr, hstr⟩
theorem put_no (x : Nat) (n : Int) (w : World) (h : n < 1 ∨ 8 < n) :
    Calls Tryd.prog 30 #[.int .u64 x, .int .i64 n] w fun e w' => e = .returned (.slice none 0 0) ∧ w = w' := by
  go_enter Tryd.func30, Tryd.ntmps30
  go_wp2_with (go_at_call 43; refine (fits_no _ _ h).mono ?_; rintro e w' ⟨rfl, rfl⟩)
  go_ret
  exact ⟨rfl, rfl⟩
end Go.Proofs.YtnhkabohccbglaaDoor
