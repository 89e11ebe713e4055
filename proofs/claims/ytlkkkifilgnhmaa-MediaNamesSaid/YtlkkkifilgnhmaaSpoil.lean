/- A row of bytes of the call's own, each of which may be spoilt. It proves no statement. -/
import Derived.Test.YtlkkkifilgnhmaaMdGa
namespace Go.Proofs.Ytlkkkifilgnhmaa
open Go.RowKit
set_option linter.unusedVariables false
set_option linter.unusedSimpArgs false

/-- Bytes, n of them at least, from a block's beginning on. -/
def Byt (w : World) (g n : Nat) : Prop := ∃ cur, Blk w g 5 cur ∧ ∀ i, i < n → ∃ y : Int, 0 ≤ y ∧ y < 256 ∧ cur[i]? = some (.int .u8 y)
theorem Byt.at_ {w : World} {g n i : Nat} (h : Byt w g n) (hi : i < n) : ∃ y : Int, 0 ≤ y ∧ y < 256 ∧ w.cell? ⟨g, i, none⟩ = some (.int .u8 y) ∧ w.frozen? ⟨g, i, none⟩ = false := by
  obtain ⟨cur, hb, hc⟩ := h
  obtain ⟨y, h0, h1, h2⟩ := hc i hi
  exact ⟨y, h0, h1, (hb.cell i).trans h2, hb.frozen i⟩
theorem Byt.set {w : World} {g n i : Nat} {z : Int} (h : Byt w g n) (hi : i < n) (h0 : 0 ≤ z) (h1 : z < 256) : Byt (w.setCell ⟨g, i, none⟩ (.int .u8 z)) g n := by
  obtain ⟨cur, hb, hc⟩ := h
  refine ⟨_, hb.setc i _, fun j hj => ?_⟩
  obtain ⟨y, q0, q1, q2⟩ := hc j hj
  by_cases hij : i = j
  · subst hij
    have : i < cur.size := (Array.getElem?_eq_some_iff.1 q2).1
    exact ⟨z, h0, h1, by simp [this]⟩
  · exact ⟨y, q0, q1, by rw [Array.getElem?_setIfInBounds_ne hij]; exact q2⟩
theorem Byt.keep {w w' : World} {g n : Nat} (h : Byt w g n) (hb : w'.heap[g]? = w.heap[g]?) : Byt w' g n := by
  obtain ⟨cur, h1, h2⟩ := h
  exact ⟨cur, hb.trans h1, h2⟩
theorem Byt.lt {w : World} {g n : Nat} (h : Byt w g n) : g < w.heap.size := by
  obtain ⟨cur, h1, h2⟩ := h
  exact h1.lt
/-- A row of the call's own is such, where it has bytes. -/
theorem byt_own {w : World} {base n : Nat} {v : Value} {l : List UInt8} (h : w.ownsRow base 5 1 v n (bytesV l)) (hn : 0 < n) : ∃ g c, v = .slice (some ⟨g, 0, none⟩) n c ∧ base ≤ g ∧ Byt w g n := by
  rcases h.2 with ⟨_, h0⟩ | ⟨g, cap, cur, hv, hlo, hgb, _⟩
  · omega
  · subst hv
    refine ⟨g, cap, rfl, hlo, cur, hgb, fun i hi => ?_⟩
    have hl : (bytesV l).length = 1 * n := by have := h.1; omega
    have hc := h.cellAt i (by omega)
    have hb : Blk w g 5 cur := hgb
    rw [hb.cell i] at hc
    have hl2 : l.length = n := by simpa [bytesV] using hl
    have hx : (bytesV l)[i]? = some (Value.int .u8 (((l[i]'(by omega)).toNat : Nat) : Int)) := by simp [bytesV, List.getElem?_eq_getElem (show i < l.length by omega)]
    have hlt := (l[i]'(by omega)).toNat_lt
    exact ⟨_, by omega, by omega, hc.trans hx⟩
theorem grown_setc0 {w w' : World} {g i : Nat} {u : Value} (gr : w.grownBy w' (some g)) : w.grownBy (w'.setCell ⟨g, i, none⟩ u) (some g) :=
  ⟨gr.os, gr.tape, gr.output, by simpa [World.setCell] using gr.size, fun k hk hne => (Below.heap_setCell _ _ _ k (fun e => hne (by simp only at e; rw [e]))).trans (gr.block k hk hne)⟩
/-- One more, in a byte. -/
theorem u8_more (y : Int) (h0 : 0 ≤ y) (h1 : y < 256) : 0 ≤ IntKind.u8.wrap (y + 1) ∧ IntKind.u8.wrap (y + 1) < 256 := by
  unfold IntKind.wrap
  simp [IntKind.bits, IntKind.signed]
  omega
end Go.Proofs.Ytlkkkifilgnhmaa
