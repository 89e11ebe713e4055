/- Contracts: a text cut short; one digit looked up. It proves no statement. -/
import Derived.Test.YtambpgfmnbkhdaaDoorShaRHex
import Derived.Lib.Bytealg
namespace Go.Proofs.YtambpgfmnbkhdaaDoor
open Go.RowKit
set_option linter.unusedVariables false
set_option linter.unusedSimpArgs false

set_option maxHeartbeats 800000 in
theorem short_any (s : ByteArray) (w : World) (hs : s.size ≤ 9223372036854775807) :
    Calls Tryd.prog 21 #[.string s, .int .i64 80] w fun e w' => (∃ t : ByteArray, e = .returned (.string t) ∧ t.size ≤ 80) ∧ w' = w := by
  obtain ⟨n, hn⟩ : ∃ n, n = s.size := ⟨_, rfl⟩
  by_cases h : 80 < n
  · have h1 : (80 : Int) < (s.size : Int) := by omega
    have h2 : (80 : Int) ≤ (s.size : Int) := by omega
    go_enter Tryd.func21, Tryd.ntmps21
    go_wp2_with fail
    go_ret
    exact ⟨⟨_, rfl, by simp; try omega⟩, rfl⟩
  · have h1 : ¬ (80 : Int) < (s.size : Int) := by omega
    go_enter Tryd.func21, Tryd.ntmps21
    go_wp2_with fail
    go_ret
    exact ⟨⟨_, rfl, by omega⟩, rfl⟩

/-- A digit's number, or 16. -/
def nb (c : Nat) : Nat := if 48 ≤ c ∧ c ≤ 57 then c - 48 else if 97 ≤ c ∧ c ≤ 102 then c - 87 else 16
theorem nb_hit : ∀ c < 256, ∀ k < 16, (dg k).toNat = c → nb c = k := by decide +kernel
theorem nb_miss : ∀ c < 256, (∀ k < 16, (dg k).toNat ≠ c) → nb c = 16 := by decide +kernel
theorem index_digit64 (w : World) (q : Nat) (h : q < 16) : (Instr.index 9 (.string ⟨#[48, 49, 50, 51, 52, 53, 54, 55, 56, 57, 97, 98, 99, 100, 101, 102]⟩) (.int .i64 (q : Int))).run Tryd.prog w = .ok (.int .u8 ((dg q).toNat : Int)) w := by
  rw [run_index_string w 9 _ .i64 (q : Int) (by kernel_rfl), dif_pos ⟨by omega, by have : (⟨#[48, 49, 50, 51, 52, 53, 54, 55, 56, 57, 97, 98, 99, 100, 101, 102]⟩ : ByteArray).size = 16 := rfl; omega⟩]
  congr 3
  obtain rfl | rfl | rfl | rfl | rfl | rfl | rfl | rfl | rfl | rfl | rfl | rfl | rfl | rfl | rfl | rfl : q = 0 ∨ q = 1 ∨ q = 2 ∨ q = 3 ∨ q = 4 ∨ q = 5 ∨ q = 6 ∨ q = 7 ∨ q = 8 ∨ q = 9 ∨ q = 10 ∨ q = 11 ∨ q = 12 ∨ q = 13 ∨ q = 14 ∨ q = 15 := by omega
  all_goals rfl

set_option maxRecDepth 100000 in
set_option maxHeartbeats 800000 in
theorem nibble_any (c : Nat) (hc : c < 256) (w : World) :
    Calls Tryd.prog 36 #[.int .u8 (c : Int)] w fun e w' => e = .returned (.int .i64 (nb c : Int)) ∧ w' = w := by
  obtain ⟨b, hb⟩ : ∃ b, b = nb c := ⟨_, rfl⟩
  rw [← hb]
  have HB := Lib.hid hb
  obtain ⟨wz, hwz⟩ : ∃ x, x = w := ⟨_, rfl⟩
  rw [← hwz]
  clear hb hwz
  go_enter Tryd.func36, Tryd.ntmps36
  go_wp2_with fail
  go_loopw [3] (fun i wr => ∃ k : Nat, k ≤ 16 ∧ i = .int .i64 k ∧ Hid (∀ j < k, (dg j).toNat ≠ c) ∧ wr = wz) (fun i _ => 16 - (intOf i).toNat)
  case atStart => exact ⟨0, by omega, rfl, Lib.hid (fun j hj => by omega), rfl⟩
  case round =>
    obtain ⟨k, hk, rfl, hno, rfl⟩ := hrel
    by_cases hlt : k < 16
    · have d1 : (k : Int) < 16 := by omega
      have ix := fun w => index_digit64 w k hlt
      obtain ⟨y, hy⟩ : ∃ y, y = (dg k).toNat := ⟨_, rfl⟩
      rw [← hy] at ix
      have HY := Lib.hid hy
      have HK := Lib.hid hlt
      clear hy
      by_cases hyc : y = c
      · subst hyc
        have hbk : b = k := HB.out.trans (nb_hit _ hc k hlt HY.out.symm)
        clear hc hlt
        go_wp2_with fail
        go_ret
        exact ⟨by rw [hbk]; rfl, rfl⟩
      · have hne : ¬ ((y : Int) = (c : Int)) := by omega
        clear hc hlt
        go_wp2_with fail
        go_roundw
        case rel => exact ⟨k + 1, by have := HK.out; omega, by go_num, Lib.hid (fun j hj => by
            by_cases h : j = k
            · subst h; rw [← HY.out]; exact hyc
            · exact hno.out j (by omega)), by first | rfl | trivial⟩
        case measure => simp [intOf]; have := HK.out; omega
    · obtain rfl : k = 16 := by omega
      rw [show ((16 : Nat) : Int) = 16 from rfl]
      have hbk : b = 16 := HB.out.trans (nb_miss _ hc hno.out)
      go_wp2_with fail
      go_ret
      exact ⟨by rw [hbk]; rfl, rfl⟩
end Go.Proofs.YtambpgfmnbkhdaaDoor
