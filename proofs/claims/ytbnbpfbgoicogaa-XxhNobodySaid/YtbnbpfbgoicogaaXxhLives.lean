/- Contracts: a text's sum at once; whether anything is summed; hashers that no call made. It proves no statement. -/
import Derived.Test.YtbnbpfbgoicogaaXxhWrite
namespace Go.Proofs.Ytbnbpfbgoicogaa
open Go.RowKit
set_option linter.unusedVariables false
set_option linter.unusedSimpArgs false

theorem still_grown {w w1 w2 : World} {g : Nat} (s : Still w w1) (gr : w1.grownBy w2 (some g)) (hg : w.heap.size ≤ g) : Still w w2 := s.grown gr s.size (fun k hk => by cases hk; exact hg)
theorem far_low {w : World} {B g n : Nat} {A : Option Addr} {l : List UInt8} (h : Reads w B A n l) (hB : B ≤ g) : Far g A n := by
  intro ad e hn
  obtain ⟨b, o, e2, hb, _⟩ := h.2 hn
  rw [e2] at e
  cases e
  show b ≠ g
  omega

theorem sum_any (A : Option Addr) (n c : Nat) (l : List UInt8) (seed : Nat) (w : World) (B : Nat) (h : Reads w B A n l) (hB : B ≤ w.heap.size) (hn : n ≤ 70368744177664) (hnc : n ≤ c) (hc : c ≤ 9223372036854775807) (hA : A = none → c = 0) (hs : seed < m64) :
    Calls Try.prog 11 #[.slice A n c, .int .u64 seed] w fun e w' => e = .returned (.int .u64 (xxSum l seed : Nat)) ∧ Still w w' := by
  obtain ⟨X, hX⟩ : ∃ X, X = xxSum l seed := ⟨_, rfl⟩
  rw [← hX]
  have HX := Lib.hid hX
  clear hX
  go_enter Try.func11, Try.ntmps11
  go_wp2_with fail
  refine (new_any seed w hs).mono ?_
  rintro e w1 ⟨rfl, hd, s1⟩
  have W := Lib.hid (write_any w.heap.size seed [] l A n c w1 B hd (h.still hB s1) hnc hc (far_low (h.still hB s1) hB) hA (by simpa using hn))
  have S1 := Lib.hid s1
  clear hd s1
  go_wp2_with fail
  refine W.out.mono ?_
  rintro e w2 ⟨rfl, hd2, gr⟩
  have s2 := still_grown S1.out gr (Nat.le_refl _)
  rw [List.nil_append] at hd2
  have M := Lib.hid (msum_any w.heap.size seed l w2 hd2 hs)
  have S2 := Lib.hid s2
  clear hd2 gr s2 W
  rw [← HX.out] at M
  go_wp2_with fail
  refine M.out.mono ?_
  rintro e w3 ⟨rfl, s3⟩
  go_wp2_with fail
  go_ret
  exact ⟨rfl, S2.out.trans s3⟩

theorem xx_nil : xxSum [] 0 = 17241709254077376921 := by decide +kernel
theorem xx_a : xxSum [97] 0 = 15154266338359012955 := by decide +kernel
theorem xx_abc : xxSum [97, 98, 99] 0 = 4952883123889572249 := by decide +kernel

theorem lives_any (w : World) : Calls Try.prog 14 #[] w fun e w' => e = .returned (.bool true) ∧ Still w w' := by
  have S : Calls Try.prog 11 #[.slice none 0 0, .int .u64 0] w fun e w' => e = .returned (.int .u64 17241709254077376921) ∧ Still w w' := by
    have := sum_any none 0 0 [] 0 w 0 Reads.nil0 (Nat.zero_le _) (by omega) (Nat.le_refl _) (by omega) (fun _ => rfl) (by decide)
    rw [xx_nil] at this
    exact this
  have S' := Lib.hid S
  clear S
  go_enter Try.func14, Try.ntmps14
  go_wp2_with fail
  refine S'.out.mono ?_
  rintro e w1 ⟨rfl, s1⟩
  go_wp2_with fail
  go_ret
  exact ⟨rfl, s1⟩

/-- A hasher that no call made: nil, or a struct of noughts. -/
def Dead (w : World) (P : Value) : Prop := P = .pointer none ∨ ∃ g, P = .pointer (some ⟨g, 0, none⟩) ∧ w.cell? ⟨g, 39, none⟩ = some (.bool false)
theorem sum_dead (P : Value) (w : World) (h : Dead w P) : Calls Try.prog 16 #[P] w fun e w' => e = .returned (.int .u64 0) ∧ w = w' := by
  rcases h with rfl | ⟨g, rfl, hb⟩
  · go_enter Try.func16, Try.ntmps16
    go_wp2
    go_ret
    exact ⟨rfl, rfl⟩
  · go_enter Try.func16, Try.ntmps16
    go_wp2
    go_ret
    exact ⟨rfl, rfl⟩
theorem write_dead (P b : Value) (w : World) (h : Dead w P) : Calls Try.prog 17 #[P, b] w fun e w' => e = .returned (.tuple #[]) ∧ w = w' := by
  rcases h with rfl | ⟨g, rfl, hb⟩
  · go_enter Try.func17, Try.ntmps17
    go_wp2
    (try simp only [Exit.inBlock, Exit.then])
    refine bodyPost_ret (results_none rfl _ _ _) rfl ?_
    exact ⟨rfl, rfl⟩
  · go_enter Try.func17, Try.ntmps17
    go_wp2
    (try simp only [Exit.inBlock, Exit.then])
    refine bodyPost_ret (results_none rfl _ _ _) rfl ?_
    exact ⟨rfl, rfl⟩
end Go.Proofs.Ytbnbpfbgoicogaa
