/- A call that came in (the law's own struct), opened. It proves no statement. -/
import Derived.Test.YtlkkkifilgnhmaaMdFew
import Derived.Test.YtlkkkifilgnhmaaRowS
import Derived.ChangeSlices
import Derived.ChangeSame
import Derived.ChangeArms
namespace Go.Proofs.Ytlkkkifilgnhmaa
open Go.RowKit
set_option linter.unusedVariables false
set_option linter.unusedSimpArgs false

theorem Try.cells_do : Try.prog.cellsOf 34 = 7 := by kernel_rfl
theorem Try.cells_int0 : Try.prog.cellsOf 3 = 1 := by kernel_rfl
theorem Try.cells_str0 : Try.prog.cellsOf 9 = 1 := by kernel_rfl
theorem Try.cells_bytes0 : Try.prog.cellsOf 32 = 1 := by kernel_rfl
theorem Try.cells_ints0 : Try.prog.cellsOf 23 = 1 := by kernel_rfl
theorem Try.cells_byte0 : Try.prog.cellsOf 5 = 1 := by kernel_rfl
/-- A call that came in: its names, its bytes, its numbers. -/
structure DoIn (w : World) (s t : ByteArray) (D : List UInt8) (A : Option Addr) (n c : Nat) (A2 : Option Addr) (n2 c2 : Nat) : Prop where
  name : s.size ≤ 9223372036854775807
  goal : t.size ≤ 9223372036854775807
  reads : Reads w w.heap.size A n D
  fit : n ≤ c
  cap : c ≤ 9223372036854775807
  nil : A = none → n = 0 ∧ c = 0
  fit2 : n2 ≤ c2
  cap2 : c2 ≤ 9223372036854775807
  at2 : 0 < n2 → ∃ b o, A2 = some ⟨b, o, none⟩
set_option maxRecDepth 100000 in
theorem open_do {H : Type} {enc : TypeId × Value → H} {w : World} {r : Reach} {b0 : Nat} {held : Bool} {v : Value} {d : DataW H} {p : List MemPlace} (hv : Value.okWide Try.prog w r b0 34 v) (h : DataW.Trod enc Try.prog w 0 (fun _ => true) held 34 v d p) :
    ∃ k s t nn mm D A n c A2 n2 c2, v = .agg #[.int .i64 k, .string s, .string t, .int .i64 nn, .int .i64 mm, .slice A n c, .slice A2 n2 c2] ∧ DoIn w s t D A n c A2 n2 c2 := by
  obtain ⟨cs, rfl, hsz⟩ := Go.WideShapes.okWide_struct Try.underlying34 hv
  obtain ⟨l⟩ := cs
  obtain ⟨fuel, hf⟩ := h
  obtain ⟨xs, m, hn, hx, hlen, hxl, hg⟩ := DataW.trod_struct Try.underlying34 hf
  rw [Try.cells_do] at hlen
  simp only [Value.cells] at hlen hg
  have hl7 : l.length = 7 := hlen
  have hxl7 : xs.length = 7 := hxl
  have hfx : ∀ (i : Nat) (hi : i < xs.length), xs[i]? = some xs[i] := fun i hi => List.getElem?_eq_getElem hi
  match l, hl7 with
  | [v0, v1, v2, v3, v4, v5, v6], _ =>
  have g0 : DataW.trod enc Try.prog w 0 (fun _ => true) held m 3 [v0] = some xs[0] := by
    have this : DataW.trod enc Try.prog w 0 (fun _ => true) held m 3 (([v0, v1, v2, v3, v4, v5, v6].drop 0).take (Try.prog.cellsOf 3)) = some xs[0] := (hg 0 _ rfl).trans (hfx 0 (by omega))
    rw [Try.cells_int0] at this
    exact this
  have g1 : DataW.trod enc Try.prog w 0 (fun _ => true) held m 9 [v1] = some xs[1] := by
    have this : DataW.trod enc Try.prog w 0 (fun _ => true) held m 9 (([v0, v1, v2, v3, v4, v5, v6].drop 1).take (Try.prog.cellsOf 9)) = some xs[1] := (hg 1 _ rfl).trans (hfx 1 (by omega))
    rw [Try.cells_str0] at this
    exact this
  have g2 : DataW.trod enc Try.prog w 0 (fun _ => true) held m 9 [v2] = some xs[2] := by
    have this : DataW.trod enc Try.prog w 0 (fun _ => true) held m 9 (([v0, v1, v2, v3, v4, v5, v6].drop 2).take (Try.prog.cellsOf 9)) = some xs[2] := (hg 2 _ rfl).trans (hfx 2 (by omega))
    rw [Try.cells_str0] at this
    exact this
  have g3 : DataW.trod enc Try.prog w 0 (fun _ => true) held m 3 [v3] = some xs[3] := by
    have this : DataW.trod enc Try.prog w 0 (fun _ => true) held m 3 (([v0, v1, v2, v3, v4, v5, v6].drop 3).take (Try.prog.cellsOf 3)) = some xs[3] := (hg 3 _ rfl).trans (hfx 3 (by omega))
    rw [Try.cells_int0] at this
    exact this
  have g4 : DataW.trod enc Try.prog w 0 (fun _ => true) held m 3 [v4] = some xs[4] := by
    have this : DataW.trod enc Try.prog w 0 (fun _ => true) held m 3 (([v0, v1, v2, v3, v4, v5, v6].drop 4).take (Try.prog.cellsOf 3)) = some xs[4] := (hg 4 _ rfl).trans (hfx 4 (by omega))
    rw [Try.cells_int0] at this
    exact this
  have g5 : DataW.trod enc Try.prog w 0 (fun _ => true) held m 32 [v5] = some xs[5] := by
    have this : DataW.trod enc Try.prog w 0 (fun _ => true) held m 32 (([v0, v1, v2, v3, v4, v5, v6].drop 5).take (Try.prog.cellsOf 32)) = some xs[5] := (hg 5 _ rfl).trans (hfx 5 (by omega))
    rw [Try.cells_bytes0] at this
    exact this
  have g6 : DataW.trod enc Try.prog w 0 (fun _ => true) held m 23 [v6] = some xs[6] := by
    have this : DataW.trod enc Try.prog w 0 (fun _ => true) held m 23 (([v0, v1, v2, v3, v4, v5, v6].drop 6).take (Try.prog.cellsOf 23)) = some xs[6] := (hg 6 _ rfl).trans (hfx 6 (by omega))
    rw [Try.cells_ints0] at this
    exact this
  obtain ⟨k, e0, _, _⟩ := DataW.trod_int Try.underlying3 g0
  obtain ⟨s, e1, _, z1⟩ := DataW.trod_string Try.underlying9 g1
  obtain ⟨t, e2, _, z2⟩ := DataW.trod_string Try.underlying9 g2
  obtain ⟨nn, e3, _, _⟩ := DataW.trod_int Try.underlying3 g3
  obtain ⟨mm, e4, _, _⟩ := DataW.trod_int Try.underlying3 g4
  have hb : ∃ (A : Option Addr) (n c : Nat) (D : List UInt8), v5 = .slice A n c ∧ Reads w w.heap.size A n D ∧ n ≤ c ∧ c ≤ 9223372036854775807 ∧ (A = none → n = 0 ∧ c = 0) := by
    rcases Go.ChangeShapes.open_ints Try.underlying32 Try.underlying5 Try.cells_byte0 g5 with ⟨e2, _⟩ | ⟨a, len, cap, zs, e2, _, hl, hm, hz, _, hc, hw⟩
    · exact ⟨none, 0, 0, [], by simpa using e2, Reads.nil0, by omega, by omega, fun _ => ⟨rfl, rfl⟩⟩
    · obtain ⟨D, hr, h1, h2, h3⟩ := reads_of_row (a := some a) (len := len) (cap := cap) (zs := zs) (.inr ⟨a, rfl, hl, hm, by simpa using hz, hc, hw⟩)
      exact ⟨some a, len, cap, D, by simpa using e2, hr, h1, h2, h3⟩
  have hb2 : ∃ (A : Option Addr) (n c : Nat), v6 = .slice A n c ∧ n ≤ c ∧ c ≤ 9223372036854775807 ∧ (0 < n → ∃ b o, A = some ⟨b, o, none⟩) := by
    rcases Go.ChangeShapes.open_ints Try.underlying23 Try.underlying3 Try.cells_int0 g6 with ⟨e2, _⟩ | ⟨a, len, cap, zs, e2, _, hl, hm, hz, _, hc, hw⟩
    · exact ⟨none, 0, 0, by simpa using e2, by omega, by omega, fun h => by omega⟩
    · have h4 := ints_of_row (a := some a) (len := len) (cap := cap) (zs := zs) (.inr ⟨a, rfl, hl, hm, by simpa using hz, hc, hw⟩)
      unfold maxLen at hm
      refine ⟨some a, len, cap, by simpa using e2, hl, by omega, fun h0 => ?_⟩
      obtain ⟨b, o, y, ha, _, _⟩ := h4.2 0 h0
      exact ⟨b, o, ha⟩
  obtain ⟨A, n, c, D, e5, hr, h1, h2, h3⟩ := hb
  obtain ⟨A2, n2, c2, e6, h4, h5, h6⟩ := hb2
  unfold maxLen at z1 z2
  simp only [List.cons.injEq, and_true] at e0 e1 e2 e3 e4
  subst e0 e1 e2 e3 e4 e5 e6
  exact ⟨k, s, t, nn, mm, D, A, n, c, A2, n2, c2, rfl, { name := by omega, goal := by omega, reads := hr, fit := h1, cap := h2, nil := h3, fit2 := h4, cap2 := h5, at2 := h6 }⟩
end Go.Proofs.Ytlkkkifilgnhmaa
