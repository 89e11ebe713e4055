/- Rows of bytes, and parts of them. It proves no statement. -/
import Derived.Test.YtlebancjgjcfjaaBase
import Derived.Outline
import Derived.Deep.DeepMust
import Derived.Deep.QuietTactic
import Derived.BigQuiet
import Derived.RegionTactic
import Derived.ChangeAlike
import Derived.BigRegion
namespace Go.Proofs.Ytlebancjgjcfjaa
open Go.RowKit
set_option linter.unusedVariables false
set_option linter.unusedSimpArgs false

theorem still_drewN {a w : World} (h : Still a w) (n : Nat) : Still a (w.drewN n) := ⟨h.os, h.tape, h.output, h.size, h.block⟩

/-- Integers that came in. -/
theorem ints_of_row {w : World} {a : Option Addr} {len cap : Nat} {zs : List Int} (h : RowIn .i64 w a len cap zs) :
    len ≤ 9223372036854775807 ∧ (∀ i, i < len → ∃ b o y, a = some ⟨b, o, none⟩ ∧ b < w.heap.size ∧ w.cell? ⟨b, o + i, none⟩ = some (.int .i64 y)) := by
  rcases h with ⟨rfl, rfl, rfl, rfl⟩ | ⟨x, rfl, hl, hm, hz, hc, hw⟩
  · exact ⟨by omega, fun i hi => by omega⟩
  · unfold maxLen at hm
    refine ⟨by omega, fun i hi => ?_⟩
    obtain ⟨b, o, sp⟩ := x
    have h00 := hc 0 (by omega)
    have hsp : sp = none := by simpa [Addr.add] using World.cell?_spot h00
    subst hsp
    have h0 := hc i (by omega)
    rw [Addr.add_lit] at h0
    exact ⟨b, o, zs.getD i 0, rfl, by simpa using World.block_lt_of_cell? w _ h0, h0⟩

theorem Reads.dropk {w : World} {B n k : Nat} {A : Option Addr} {l : List UInt8} (h : Reads w B A n l) (hk : k ≤ n) : Reads w B (A.map (·.add k)) (n - k) (l.drop k) := by
  refine ⟨by rw [List.length_drop, h.1], fun hn => ?_⟩
  obtain ⟨b, o, rfl, hb, hc⟩ := h.2 (by omega)
  refine ⟨b, o + k, by simp [Addr.add_lit], hb, fun i hi => ?_⟩
  have := hc (k + i) (by omega)
  rw [Nat.add_assoc, this]
  simp [List.getD]
theorem Reads.takek {w : World} {B n k : Nat} {A : Option Addr} {l : List UInt8} (h : Reads w B A n l) (hk : k ≤ n) : Reads w B A k (l.take k) := by
  have := h.take k
  rwa [show min n k = k by omega] at this
end Go.Proofs.Ytlebancjgjcfjaa
