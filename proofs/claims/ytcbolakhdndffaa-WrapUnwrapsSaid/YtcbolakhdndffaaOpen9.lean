/- Bytes that were handed out, to be written over. It proves no statement. -/
import Derived.Test.YtcbolakhdndffaaLive
namespace Go.Proofs.Ytcbolakhdndffaa
open Go.RowKit
set_option linter.unusedVariables false
set_option linter.unusedSimpArgs false

/-- Bytes that were handed out, to be written over. -/
def Open9 (w : World) (M G : Nat) (A : Option Addr) (k : Nat) : Prop :=
  0 < k → ∃ b o, A = some ⟨b, o, none⟩ ∧ M ≤ b ∧ b < G ∧ ∀ i, i < k → (∃ y, w.cell? ⟨b, o + i, none⟩ = some (.int .u8 y)) ∧ w.frozen? ⟨b, o + i, none⟩ = false
theorem open9_of {w : World} {M G k : Nat} {A : Option Addr} {p : List UInt8} (h : Reads w G A k p) (m : Mine w M A k) : Open9 w M G A k := by
  intro hk
  obtain ⟨b, o, rfl, hb, hc⟩ := h.2 hk
  obtain ⟨b', o', e', hlo, hf⟩ := m hk
  simp only [Option.some.injEq, Addr.mk.injEq, and_true] at e'
  obtain ⟨rfl, rfl⟩ := e'
  exact ⟨b, o, rfl, hlo, hb, fun i hi => ⟨⟨_, hc i hi⟩, hf i hi⟩⟩
theorem Open9.still {w w' : World} {M G k : Nat} {A : Option Addr} (h : Open9 w M G A k) (hs : Still w w') (hG : G ≤ w.heap.size) : Open9 w' M G A k := by
  intro hk
  obtain ⟨b, o, rfl, h1, h2, hc⟩ := h hk
  refine ⟨b, o, rfl, h1, h2, fun i hi => ?_⟩
  obtain ⟨⟨y, hy⟩, hf⟩ := hc i hi
  exact ⟨⟨y, (hs.cell (p := ⟨b, o + i, none⟩) (by simp; omega)).trans hy⟩, (hs.frozen (p := ⟨b, o + i, none⟩) (by simp; omega)).trans hf⟩
theorem Open9.poke {w : World} {M G k b o j : Nat} (h : Open9 w M G (some ⟨b, o, none⟩) k) (z : Int) : Open9 (w.setCell ⟨b, o + j, none⟩ (.int .u8 z)) M G (some ⟨b, o, none⟩) k := by
  intro hk
  obtain ⟨b', o', e, h1, h2, hc⟩ := h hk
  refine ⟨b', o', e, h1, h2, fun i hi => ?_⟩
  simp only [Option.some.injEq, Addr.mk.injEq, and_true] at e
  obtain ⟨rfl, rfl⟩ := e
  obtain ⟨⟨y, hy⟩, hf⟩ := hc i hi
  refine ⟨?_, by rw [World.frozen?_setCell]; exact hf⟩
  by_cases e : j = i
  · subst e
    exact ⟨z, World.cell?_setCell_same w _ _ hy⟩
  · refine ⟨y, (World.cell?_setCell_other w _ _ _ ?_).trans hy⟩
    intro e2
    simp only [Addr.mk.injEq, and_true, true_and] at e2
    omega
end Go.Proofs.Ytcbolakhdndffaa
