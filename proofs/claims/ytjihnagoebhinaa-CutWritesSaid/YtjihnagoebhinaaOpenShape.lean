/- A shape that came in, opened. It proves no statement. -/
import Derived.Test.YtjihnagoebhinaaBase
import Derived.ChangeSlices
import Derived.ChangeSame
import Derived.ChangeArms
namespace Go.Proofs.Ytjihnagoebhinaa
open Go.RowKit
set_option linter.unusedVariables false
set_option linter.unusedSimpArgs false

theorem Try.cells_shape : Try.prog.cellsOf 24 = 5 := by kernel_rfl
theorem Try.cells_int0 : Try.prog.cellsOf 3 = 1 := by kernel_rfl
theorem Try.cells_u320 : Try.prog.cellsOf 22 = 1 := by kernel_rfl
set_option maxRecDepth 100000 in
theorem open_shape {H : Type} {enc : TypeId × Value → H} {w : World} {r : Reach} {b0 : Nat} {held : Bool} {v : Value} {d : DataW H} {p : List MemPlace} (hv : Value.okWide Try.prog w r b0 24 v) (h : DataW.Trod enc Try.prog w 0 (fun _ => true) held 24 v d p) :
    ∃ x y z u sd, v = .agg #[.int .i64 x, .int .i64 y, .int .i64 z, .int .i64 u, .int .u32 sd] ∧ 0 ≤ sd ∧ sd ≤ 4294967295 := by
  obtain ⟨cs, rfl, hsz⟩ := Go.WideShapes.okWide_struct Try.underlying24 hv
  obtain ⟨l⟩ := cs
  obtain ⟨fuel, hf⟩ := h
  obtain ⟨xs, m, hn, hx, hlen, hxl, hg⟩ := DataW.trod_struct Try.underlying24 hf
  rw [Try.cells_shape] at hlen
  simp only [Value.cells] at hlen hg
  have hl7 : l.length = 5 := hlen
  have hxl7 : xs.length = 5 := hxl
  have hfx : ∀ (i : Nat) (hi : i < xs.length), xs[i]? = some xs[i] := fun i hi => List.getElem?_eq_getElem hi
  match l, hl7 with
  | [v0, v1, v2, v3, v4], _ =>
  have g0 : DataW.trod enc Try.prog w 0 (fun _ => true) held m 3 [v0] = some xs[0] := by
    have this : DataW.trod enc Try.prog w 0 (fun _ => true) held m 3 (([v0, v1, v2, v3, v4].drop 0).take (Try.prog.cellsOf 3)) = some xs[0] := (hg 0 _ rfl).trans (hfx 0 (by omega))
    rw [Try.cells_int0] at this
    exact this
  have g1 : DataW.trod enc Try.prog w 0 (fun _ => true) held m 3 [v1] = some xs[1] := by
    have this : DataW.trod enc Try.prog w 0 (fun _ => true) held m 3 (([v0, v1, v2, v3, v4].drop 1).take (Try.prog.cellsOf 3)) = some xs[1] := (hg 1 _ rfl).trans (hfx 1 (by omega))
    rw [Try.cells_int0] at this
    exact this
  have g2 : DataW.trod enc Try.prog w 0 (fun _ => true) held m 3 [v2] = some xs[2] := by
    have this : DataW.trod enc Try.prog w 0 (fun _ => true) held m 3 (([v0, v1, v2, v3, v4].drop 2).take (Try.prog.cellsOf 3)) = some xs[2] := (hg 2 _ rfl).trans (hfx 2 (by omega))
    rw [Try.cells_int0] at this
    exact this
  have g3 : DataW.trod enc Try.prog w 0 (fun _ => true) held m 3 [v3] = some xs[3] := by
    have this : DataW.trod enc Try.prog w 0 (fun _ => true) held m 3 (([v0, v1, v2, v3, v4].drop 3).take (Try.prog.cellsOf 3)) = some xs[3] := (hg 3 _ rfl).trans (hfx 3 (by omega))
    rw [Try.cells_int0] at this
    exact this
  have g4 : DataW.trod enc Try.prog w 0 (fun _ => true) held m 22 [v4] = some xs[4] := by
    have this : DataW.trod enc Try.prog w 0 (fun _ => true) held m 22 (([v0, v1, v2, v3, v4].drop 4).take (Try.prog.cellsOf 22)) = some xs[4] := (hg 4 _ rfl).trans (hfx 4 (by omega))
    rw [Try.cells_u320] at this
    exact this
  obtain ⟨x, e0, _, _⟩ := DataW.trod_int Try.underlying3 g0
  obtain ⟨y, e1, _, _⟩ := DataW.trod_int Try.underlying3 g1
  obtain ⟨z, e2, _, _⟩ := DataW.trod_int Try.underlying3 g2
  obtain ⟨u, e3, _, _⟩ := DataW.trod_int Try.underlying3 g3
  obtain ⟨sd, e4, _, hw⟩ := DataW.trod_int Try.underlying22 g4
  simp only [List.cons.injEq, and_true] at e0 e1 e2 e3 e4
  subst e0 e1 e2 e3 e4
  have hb := bounds_u32 hw
  exact ⟨x, y, z, u, sd, rfl, hb.1, hb.2⟩
end Go.Proofs.Ytjihnagoebhinaa
