/- Numbers that came in, as rows that read. It proves no statement. -/
import Derived.Test.YtlkkkifilgnhmaaMdTake
import Derived.Test.YtlkkkifilgnhmaaMdGb
namespace Go.Proofs.Ytlkkkifilgnhmaa
open Go.RowKit Go.Maps Go.WideMaps
set_option linter.unusedVariables false
set_option linter.unusedSimpArgs false

theorem readsI_of_row {w : World} {a : Option Addr} {len cap : Nat} {zs : List Int} (h : RowIn .i64 w a len cap zs) : ∃ ys, ReadsI w (fun b => b < w.heap.size) a len ys ∧ len ≤ cap ∧ cap ≤ 9223372036854775807 ∧ (a = none → len = 0 ∧ cap = 0) := by
  rcases h with ⟨rfl, rfl, rfl, rfl⟩ | ⟨x, rfl, hl, hm, hz, hc, hw⟩
  · exact ⟨[], ⟨rfl, fun h => absurd h (by omega)⟩, by omega, by omega, fun _ => ⟨rfl, rfl⟩⟩
  · refine ⟨zs.take len, ⟨by simp; omega, fun hn => ?_⟩, hl, by unfold maxLen at hm; omega, fun e => by cases e⟩
    obtain ⟨b, o, sp⟩ := x
    have h0 := hc 0 (by omega)
    have hsp : sp = none := by simpa [Addr.add] using World.cell?_spot h0
    subst hsp
    have hbl : b < w.heap.size := by simpa [Addr.add] using World.block_lt_of_cell? w _ h0
    refine ⟨b, o, rfl, hbl, hbl, fun i hi => ?_⟩
    have hi' := hc i (by omega)
    rw [Addr.add_lit] at hi'
    rw [hi']
    simp [List.getD, hi, show i < zs.length by omega]
theorem ReadsI.front {w : World} {B : Nat → Prop} {n k : Nat} {A : Option Addr} {zs : List Int} (h : ReadsI w B A n zs) (hk : k ≤ n) : ReadsI w B A k (zs.take k) := by
  refine ⟨by rw [List.length_take, h.1]; omega, fun hk0 => ?_⟩
  obtain ⟨b, o, e, hb, hbl, hc⟩ := h.2 (by omega)
  refine ⟨b, o, e, hb, hbl, fun i hi => ?_⟩
  rw [hc i (by omega)]
  have hz := h.1
  simp [List.getD, List.getElem?_take, hi]
end Go.Proofs.Ytlkkkifilgnhmaa
