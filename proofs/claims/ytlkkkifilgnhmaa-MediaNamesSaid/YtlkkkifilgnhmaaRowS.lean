/- What is left of a slice that came in. It proves no statement. -/
import Derived.Test.YtlkkkifilgnhmaaMdGb
namespace Go.Proofs.Ytlkkkifilgnhmaa
open Go.RowKit
set_option linter.unusedVariables false

/-- A slice that came in, or what is left of it. -/
structure RowS (w : World) (B : Nat) (A : Option Addr) (n c : Nat) (l : List UInt8) : Prop where
  reads : Reads w B A n l
  fit : n ≤ c
  cap : c ≤ 9223372036854775807
  nil : A = none → n = 0 ∧ c = 0
theorem RowS.still {w w' : World} {B n c : Nat} {A : Option Addr} {l : List UInt8} (h : RowS w B A n c l) (hB : B ≤ w.heap.size) (hs : Still w w') : RowS w' B A n c l := ⟨h.reads.still hB hs, h.fit, h.cap, h.nil⟩
theorem RowS.dropk {w : World} {B n c k : Nat} {A : Option Addr} {l : List UInt8} (h : RowS w B A n c l) (hk : k ≤ n) : RowS w B (A.map (·.add k)) (n - k) (c - k) (l.drop k) :=
  ⟨h.reads.dropk hk, by have := h.fit; omega, by have := h.cap; omega, fun e => by
    have e2 : A = none := by simpa using e
    have := h.nil e2
    omega⟩
theorem RowS.endk {w : World} {B n c : Nat} {A : Option Addr} {l : List UInt8} (h : RowS w B A n c l) {k : Nat} (hk : n ≤ k) : RowS w B A 0 0 (l.drop k) := by
  have e : l.drop k = [] := List.drop_of_length_le (by have := h.reads.1; omega)
  rw [e]
  exact ⟨⟨rfl, fun h => by omega⟩, by omega, by omega, fun _ => ⟨rfl, rfl⟩⟩
/-- A row that came in, cut. -/
theorem cut_row {w : World} {A : Option Addr} {n0 c0 : Nat} {z : List Int} (h : RowIn .u8 w A n0 c0 z) (k : Nat) (hk : 1 ≤ k) :
    ∃ n l, RowS w w.heap.size A n c0 l ∧ n ≤ k ∧ Calls Try.prog 21 #[.slice A n0 c0, .int .i64 k] w fun e w' => e = .returned (.slice A n c0) ∧ w = w' := by
  obtain ⟨l0, r0, hc0, hm0, hA0⟩ := reads_of_row h
  exact ⟨_, _, ⟨r0.take k, by omega, hm0, fun e => ⟨by have := (hA0 e).1; omega, (hA0 e).2⟩⟩, by omega, cut_any A n0 c0 k l0 w _ r0 hc0 hm0 hk⟩
end Go.Proofs.Ytlkkkifilgnhmaa
