/- Rows of rows that came in. It proves no statement. -/
import Derived.Test.YtjihnagoebhinaaRowS
import Derived.Deep.Matrix
namespace Go.Proofs.Ytjihnagoebhinaa
open Go.RowKit
set_option linter.unusedVariables false

/-- What is told of a slice of slices of integers that came in. -/
def RowsIn (k : IntKind) (w : World) (a : Option Addr) (len : Nat) : Prop :=
  len ≤ 9223372036854775807 ∧ ∀ i, i < len → ∃ b o A L C zs, a = some ⟨b, o, none⟩ ∧ b < w.heap.size ∧ w.cell? ⟨b, o + i, none⟩ = some (.slice A L C) ∧ RowIn k w A L C zs
theorem rowsIn_nil (k : IntKind) (w : World) (a : Option Addr) : RowsIn k w a 0 := ⟨by omega, fun i hi => absurd hi (by omega)⟩
theorem rowsIn_of {k : IntKind} {w : World} {a : Addr} {len cap : Nat} {A : Nat → Option Addr} {L C : Nat → Nat} {Z : Nat → List Int} {base : Nat} (hl : len ≤ cap) (hm : cap ≤ maxLen)
    (hi : ∀ r, r < cap → w.cell? (a.add r) = some (.slice (A r) (L r) (C r)) ∧ L r ≤ C r ∧ C r ≤ maxLen ∧ (Z r).length = C r ∧ (∀ n ∈ Z r, (Lit.int k n).wf = true) ∧ (A r = none → C r = 0) ∧
        ∀ a', A r = some a' → base ≤ a'.block ∧ ∀ c, c < C r → w.cell? (a'.add c) = some (.int k ((Z r).getD c 0))) : RowsIn k w (some a) len := by
  refine ⟨by unfold maxLen at hm; omega, fun i hi' => ?_⟩
  obtain ⟨b, o, sp⟩ := a
  have h0 := (hi 0 (by omega)).1
  have hsp : sp = none := by simpa [Addr.add] using World.cell?_spot h0
  subst hsp
  obtain ⟨e0, r1, r2, r3, r4, r5, r6⟩ := hi i (by omega)
  rw [Addr.add_lit] at e0
  refine ⟨b, o, A i, L i, C i, Z i, rfl, by simpa using World.block_lt_of_cell? w _ e0, e0, ?_⟩
  rcases hA : A i with _ | a'
  · have hc := r5 hA
    refine .inl ⟨rfl, by omega, hc, List.eq_nil_of_length_eq_zero (by omega)⟩
  · exact .inr ⟨a', rfl, r1, r2, r3, fun j hj => (r6 a' hA).2 j (by omega), r4⟩
/-- One of them, in a later world. -/
theorem rowsIn_row {w w' : World} {A : Option Addr} {L C : Nat} {zs : List Int} (h : RowIn .u8 w A L C zs) (s : Still w w') : ∃ l, RowS w' w.heap.size A L C l := by
  obtain ⟨l0, r0, hc0, hm0, hA0⟩ := reads_of_row h
  exact ⟨l0, RowS.still ⟨r0, hc0, hm0, hA0⟩ (Nat.le_refl _) s⟩
theorem cut_rowS {w : World} {B : Nat} {A : Option Addr} {n0 c0 : Nat} {l0 : List UInt8} (h : RowS w B A n0 c0 l0) (k : Nat) (hk : 1 ≤ k) :
    ∃ n l, RowS w B A n c0 l ∧ n ≤ k ∧ Calls Try.prog 10 #[.slice A n0 c0, .int .i64 k] w fun e w' => e = .returned (.slice A n c0) ∧ w = w' :=
  ⟨_, _, ⟨h.reads.take k, by have := h.fit; omega, h.cap, fun e => ⟨by have := (h.nil e).1; omega, (h.nil e).2⟩⟩, by omega, cut_any A n0 c0 k l0 w _ h.reads h.fit h.cap hk⟩
end Go.Proofs.Ytjihnagoebhinaa
