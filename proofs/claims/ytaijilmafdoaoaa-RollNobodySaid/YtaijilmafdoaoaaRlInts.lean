/- The walks of layer 10 over numbers that came in. It proves no statement. -/
import Derived.Test.YtaijilmafdoaoaaRlWalks
import Derived.Test.YtaijilmafdoaoaaRlGrowsWalk
import Derived.Test.YtaijilmafdoaoaaRlLastWalk
import Derived.Test.YtaijilmafdoaoaaRlPlaysWalk
namespace Go.Proofs.Ytaijilmafdoaoaa
open Go.RowKit
set_option linter.unusedVariables false

theorem nat_u32 {x : Int} (h : 0 ≤ x ∧ x ≤ 4294967295) : ∃ n : Nat, x = (n : Int) ∧ n < 4294967296 := ⟨x.toNat, by omega, by omega⟩
theorem nat_u8 {x : Int} (h : 0 ≤ x ∧ x ≤ 255) : ∃ n : Nat, x = (n : Int) ∧ n < 256 := ⟨x.toNat, by omega, by omega⟩
theorem byte_u8 {x : Int} (h : 0 ≤ x ∧ x ≤ 255) : ∃ c : UInt8, x = ((c.toNat : Nat) : Int) := ⟨UInt8.ofNat x.toNat, by rw [UInt8.toNat_ofNat']; omega⟩
theorem rollWords_row (s c : Int) (a2 : Option Addr) (len2 cap2 : Nat) (z2 : List Int) (w : World) (hs : 0 ≤ s ∧ s ≤ 4294967295) (hc : 0 ≤ c ∧ c ≤ 255) (h : RowIn .u8 w a2 len2 cap2 z2) :
    Calls Try.prog 3 #[.int .u32 s, .int .u8 c, .slice a2 len2 cap2] w fun e w' => e = .returned (.bool true) ∧ Below w.heap.size w w' := by
  obtain ⟨s, rfl, ks⟩ := nat_u32 hs
  obtain ⟨c, rfl, kc⟩ := nat_u8 hc
  exact rollWords_walk s c a2 len2 cap2 z2 w ks kc h
theorem rollApart_row (s a b : Int) (w : World) (hs : 0 ≤ s ∧ s ≤ 4294967295) (ha : 0 ≤ a ∧ a ≤ 255) (hb : 0 ≤ b ∧ b ≤ 255) :
    Calls Try.prog 6 #[.int .u32 s, .int .u8 a, .int .u8 b] w fun e w' => e = .returned (.bool true) ∧ Below w.heap.size w w' := by
  obtain ⟨s, rfl, ks⟩ := nat_u32 hs
  obtain ⟨a, rfl, ka⟩ := nat_u8 ha
  obtain ⟨b, rfl, kb⟩ := nat_u8 hb
  exact rollApart_walk s a b w ks ka kb
theorem rollNobody_row (c : Int) (w : World) (hc : 0 ≤ c ∧ c ≤ 255) :
    Calls Try.prog 8 #[.int .u8 c] w fun e w' => e = .returned (.bool true) ∧ Below w.heap.size w w' := by
  obtain ⟨c, rfl, kc⟩ := nat_u8 hc
  exact rollNobody_walk c w kc
theorem rollGrows_row (s c : Int) (a2 : Option Addr) (len2 cap2 : Nat) (z2 : List Int) (w : World) (hs : 0 ≤ s ∧ s ≤ 4294967295) (hc : 0 ≤ c ∧ c ≤ 255) (h : RowIn .u8 w a2 len2 cap2 z2) :
    Calls Try.prog 7 #[.int .u32 s, .int .u8 c, .slice a2 len2 cap2] w fun e w' => e = .returned (.bool true) ∧ Below w.heap.size w w' := by
  obtain ⟨s, rfl, ks⟩ := nat_u32 hs
  obtain ⟨c, rfl⟩ := byte_u8 hc
  exact rollGrows_walk s c a2 len2 cap2 z2 w ks h
theorem rollLast_row (s win : Int) (a2 : Option Addr) (len2 cap2 : Nat) (z2 : List Int) (a3 : Option Addr) (len3 cap3 : Nat) (z3 : List Int) (a4 : Option Addr) (len4 cap4 : Nat) (z4 : List Int) (w : World) (hs : 0 ≤ s ∧ s ≤ 4294967295) (h2 : RowIn .u8 w a2 len2 cap2 z2) (h3 : RowIn .u8 w a3 len3 cap3 z3) (h4 : RowIn .u8 w a4 len4 cap4 z4) :
    Calls Try.prog 5 #[.int .u32 s, .int .i64 win, .slice a2 len2 cap2, .slice a3 len3 cap3, .slice a4 len4 cap4] w fun e w' => e = .returned (.bool true) ∧ Below w.heap.size w w' := by
  obtain ⟨s, rfl, ks⟩ := nat_u32 hs
  exact rollLast_walk s win a2 len2 cap2 z2 a3 len3 cap3 z3 a4 len4 cap4 z4 w ks h2 h3 h4
theorem rollPlays_row (s win : Int) (a2 : Option Addr) (len2 cap2 : Nat) (z2 : List Int) (cl : Int) (w : World) (hs : 0 ≤ s ∧ s ≤ 4294967295) (h2 : RowIn .u8 w a2 len2 cap2 z2) :
    Calls Try.prog 4 #[.int .u32 s, .int .i64 win, .slice a2 len2 cap2, .int .i64 cl] w fun e w' => e = .returned (.bool true) ∧ Below w.heap.size w w' := by
  obtain ⟨s, rfl, ks⟩ := nat_u32 hs
  exact rollPlays_walk s win a2 len2 cap2 z2 cl w ks h2
end Go.Proofs.Ytaijilmafdoaoaa
