/- A slice of calls that came in, opened. It proves no statement. -/
import Derived.Test.YtljacdbdjacbkaaGreatMpGzj
import Derived.Test.YtljacdbdjacbkaaGreatMpGzi
namespace Go.Proofs.YtljacdbdjacbkaaGreat
open Go.RowKit
set_option linter.unusedVariables false
set_option linter.unusedSimpArgs false

theorem nnle {x : Int} (h : (Lit.int .i64 x).wf = true) : x ≤ 9223372036854775807 := by
  have e : IntKind.i64.min ≤ x ∧ x ≤ 9223372036854775807 := by simpa [Lit.wf] using h
  exact e.2
set_option maxRecDepth 100000 in
theorem open_doL {H : Type} {enc : TypeId × Value → H} {w : World} {held : Bool} {fuel : Nat} {l : List Value} {y : DataW H × List MemPlace} (hf : DataW.trod enc Tryz.prog w 0 (fun _ => true) held fuel 36 l = some y) :
    ∃ x A n c A2 n2 c2, l = doL x A n c A2 n2 c2 ∧ Reads w w.heap.size A n x.b ∧ (n ≤ c ∧ c ≤ 9223372036854775807) ∧ (A = none → n = 0 ∧ c = 0) ∧ ReadsI w (fun b => b < w.heap.size) A2 n2 x.l ∧ (n2 ≤ c2 ∧ c2 ≤ 9223372036854775807) ∧ x.s.size ≤ 9223372036854775807 ∧ x.t.size ≤ 9223372036854775807 ∧ x.nn ≤ 9223372036854775807 := by
  obtain ⟨xs, m, hn, hx, hlen, hxl, hg⟩ := DataW.trod_struct Tryz.underlying36 hf
  rw [Tryz.cells_do] at hlen
  have hl7 : l.length = 7 := hlen
  have hxl7 : xs.length = 7 := hxl
  have hfx : ∀ (i : Nat) (hi : i < xs.length), xs[i]? = some xs[i] := fun i hi => List.getElem?_eq_getElem hi
  match l, hl7 with
  | [v0, v1, v2, v3, v4, v5, v6], _ =>
  have g0 : DataW.trod enc Tryz.prog w 0 (fun _ => true) held m 3 [v0] = some xs[0] := by
    have this : DataW.trod enc Tryz.prog w 0 (fun _ => true) held m 3 (([v0, v1, v2, v3, v4, v5, v6].drop 0).take (Tryz.prog.cellsOf 3)) = some xs[0] := (hg 0 _ rfl).trans (hfx 0 (by omega))
    rw [Tryz.cells_int0] at this
    exact this
  have g1 : DataW.trod enc Tryz.prog w 0 (fun _ => true) held m 9 [v1] = some xs[1] := by
    have this : DataW.trod enc Tryz.prog w 0 (fun _ => true) held m 9 (([v0, v1, v2, v3, v4, v5, v6].drop 1).take (Tryz.prog.cellsOf 9)) = some xs[1] := (hg 1 _ rfl).trans (hfx 1 (by omega))
    rw [Tryz.cells_str0] at this
    exact this
  have g2 : DataW.trod enc Tryz.prog w 0 (fun _ => true) held m 9 [v2] = some xs[2] := by
    have this : DataW.trod enc Tryz.prog w 0 (fun _ => true) held m 9 (([v0, v1, v2, v3, v4, v5, v6].drop 2).take (Tryz.prog.cellsOf 9)) = some xs[2] := (hg 2 _ rfl).trans (hfx 2 (by omega))
    rw [Tryz.cells_str0] at this
    exact this
  have g3 : DataW.trod enc Tryz.prog w 0 (fun _ => true) held m 3 [v3] = some xs[3] := by
    have this : DataW.trod enc Tryz.prog w 0 (fun _ => true) held m 3 (([v0, v1, v2, v3, v4, v5, v6].drop 3).take (Tryz.prog.cellsOf 3)) = some xs[3] := (hg 3 _ rfl).trans (hfx 3 (by omega))
    rw [Tryz.cells_int0] at this
    exact this
  have g4 : DataW.trod enc Tryz.prog w 0 (fun _ => true) held m 3 [v4] = some xs[4] := by
    have this : DataW.trod enc Tryz.prog w 0 (fun _ => true) held m 3 (([v0, v1, v2, v3, v4, v5, v6].drop 4).take (Tryz.prog.cellsOf 3)) = some xs[4] := (hg 4 _ rfl).trans (hfx 4 (by omega))
    rw [Tryz.cells_int0] at this
    exact this
  have g5 : DataW.trod enc Tryz.prog w 0 (fun _ => true) held m 31 [v5] = some xs[5] := by
    have this : DataW.trod enc Tryz.prog w 0 (fun _ => true) held m 31 (([v0, v1, v2, v3, v4, v5, v6].drop 5).take (Tryz.prog.cellsOf 31)) = some xs[5] := (hg 5 _ rfl).trans (hfx 5 (by omega))
    rw [Tryz.cells_bytes0] at this
    exact this
  have g6 : DataW.trod enc Tryz.prog w 0 (fun _ => true) held m 34 [v6] = some xs[6] := by
    have this : DataW.trod enc Tryz.prog w 0 (fun _ => true) held m 34 (([v0, v1, v2, v3, v4, v5, v6].drop 6).take (Tryz.prog.cellsOf 34)) = some xs[6] := (hg 6 _ rfl).trans (hfx 6 (by omega))
    rw [Tryz.cells_ints0] at this
    exact this
  obtain ⟨k, e0, _, _⟩ := DataW.trod_int Tryz.underlying3 g0
  obtain ⟨s, e1, _, z1⟩ := DataW.trod_string Tryz.underlying9 g1
  obtain ⟨t, e2, _, z2⟩ := DataW.trod_string Tryz.underlying9 g2
  obtain ⟨nn, e3, _, zn⟩ := DataW.trod_int Tryz.underlying3 g3
  obtain ⟨mm, e4, _, _⟩ := DataW.trod_int Tryz.underlying3 g4
  have hb : ∃ (A : Option Addr) (n c : Nat) (D : List UInt8), v5 = .slice A n c ∧ Reads w w.heap.size A n D ∧ n ≤ c ∧ c ≤ 9223372036854775807 ∧ (A = none → n = 0 ∧ c = 0) := by
    rcases Go.ChangeShapes.open_ints Tryz.underlying31 Tryz.underlying5 Tryz.cells_byte0 g5 with ⟨e2, _⟩ | ⟨a, len, cap, zs, e2, _, hl, hm, hz, _, hc, hw⟩
    · exact ⟨none, 0, 0, [], by simpa using e2, Reads.nil0, by omega, by omega, fun _ => ⟨rfl, rfl⟩⟩
    · obtain ⟨D, hr, h1, h2, h3⟩ := reads_of_row (a := some a) (len := len) (cap := cap) (zs := zs) (.inr ⟨a, rfl, hl, hm, by simpa using hz, hc, hw⟩)
      exact ⟨some a, len, cap, D, by simpa using e2, hr, h1, h2, h3⟩
  have hb2 : ∃ (A : Option Addr) (n c : Nat) (Z : List Int), v6 = .slice A n c ∧ n ≤ c ∧ c ≤ 9223372036854775807 ∧ ReadsI w (fun b => b < w.heap.size) A n Z := by
    rcases Go.ChangeShapes.open_ints Tryz.underlying34 Tryz.underlying3 Tryz.cells_int0 g6 with ⟨e2, _⟩ | ⟨a, len, cap, zs, e2, _, hl, hm, hz, _, hc, hw⟩
    · exact ⟨none, 0, 0, [], by simpa using e2, by omega, by omega, rfl, fun h => by omega⟩
    · obtain ⟨Z, hz2, h4, h5, _⟩ := readsI_of_row (a := some a) (len := len) (cap := cap) (zs := zs) (.inr ⟨a, rfl, hl, hm, by simpa using hz, hc, hw⟩)
      exact ⟨some a, len, cap, Z, by simpa using e2, h4, h5, hz2⟩
  obtain ⟨A, n, c, D, e5, hr, h1, h2, h3⟩ := hb
  obtain ⟨A2, n2, c2, Z, e6, h4, h5, h6⟩ := hb2
  unfold maxLen at z1 z2
  simp only [List.cons.injEq, and_true] at e0 e1 e2 e3 e4
  subst e0 e1 e2 e3 e4 e5 e6
  exact ⟨⟨k, s, t, nn, mm, D, Z⟩, A, n, c, A2, n2, c2, rfl, hr, ⟨h1, h2⟩, h3, h6, ⟨h4, h5⟩, by omega, by omega, nnle zn⟩
/-- A slice of calls that came in. -/
structure DosRow (w : World) (A : Option Addr) (n c : Nat) (L : List Call) : Prop where
  ins : DosIn w w.heap.size A L
  len : L.length = n
  fit : n ≤ c
  cap : c ≤ 9223372036854775807
theorem list_of_each {n : Nat} {P : Nat → Call → Prop} (h : ∀ i, i < n → ∃ x, P i x) : ∃ L : List Call, L.length = n ∧ ∀ i x, L[i]? = some x → P i x := by
  induction n with
  | zero => exact ⟨[], rfl, fun i x hx => by simp at hx⟩
  | succ n ih =>
    obtain ⟨L, hL, hP⟩ := ih (fun i hi => h i (by omega))
    obtain ⟨x, hx⟩ := h n (by omega)
    refine ⟨L ++ [x], by simp [hL], fun i y hy => ?_⟩
    by_cases hi : i < n
    · rw [List.getElem?_append_left (by omega)] at hy
      exact hP i y hy
    · rw [List.getElem?_append_right (by omega)] at hy
      have hi' : i - L.length = 0 := by
        rcases Nat.eq_zero_or_pos (i - L.length) with h0 | h0
        · exact h0
        · rw [List.getElem?_eq_none (by simp; omega)] at hy; cases hy
      rw [hi'] at hy
      simp only [List.getElem?_cons_zero, Option.some.injEq] at hy
      subst hy
      obtain rfl : i = n := by omega
      exact hx
set_option maxRecDepth 100000 in
theorem open_dos {H : Type} {enc : TypeId × Value → H} {w : World} {held : Bool} {fuel : Nat} {cs : List Value} {y : DataW H × List MemPlace} (hf : DataW.trod enc Tryz.prog w 0 (fun _ => true) held fuel 22 cs = some y) :
    ∃ A n c L, cs = [.slice A n c] ∧ DosRow w A n c L := by
  rcases DataW.trod_slice Tryz.underlying22 hf with ⟨e, _⟩ | ⟨a, len, cap, elems, rest, m, _, e, _, _, hl, hm, hel, hi, _, _⟩
  · exact ⟨none, 0, 0, [], e, { ins := fun i x hx => by simp at hx, len := rfl, fit := Nat.le_refl _, cap := by omega }⟩
  · have each : ∀ i, i < len → ∃ x : Call, ∃ b o A' n c A2 n2 c2, (some a : Option Addr) = some ⟨b, o, none⟩ ∧ DoRow w w.heap.size b (o + i * 7) x A' n c A2 n2 c2 := fun i hlt => by
      have h1 := hi i hlt
      rw [List.getElem?_eq_getElem (by omega), Tryz.cells_do, Option.bind_eq_some_iff] at h1
      obtain ⟨l, hl1, hl2⟩ := h1
      obtain ⟨x, A', n, c, A2, n2, c2, rfl, r1, r2, r3, r4, r5, r6, r7, r8⟩ := open_doL hl2
      have hc := World.cells?_some hl1
      have hcell : ∀ j u, (doL x A' n c A2 n2 c2)[j]? = some u → w.cell? ((a.add (i * 7)).add j) = some u := fun j u hj => by
        have hlt2 : j < 7 := (List.getElem?_eq_some_iff.1 hj).1
        first
          | exact (hc.2.2 j hlt2).trans hj
          | exact (hc.2 j hlt2).trans hj
          | exact (hc j hlt2).trans hj
      obtain ⟨b, o, sp⟩ := a
      have hsp : sp = none := by
        have h00 := hi 0 (by omega)
        rw [List.getElem?_eq_getElem (by omega), Tryz.cells_do, Option.bind_eq_some_iff] at h00
        obtain ⟨l0, q1, _⟩ := h00
        obtain ⟨_, q2, q3⟩ := World.cells?_some q1
        have q4 := q3 0 (by omega)
        rw [List.getElem?_eq_getElem (by omega)] at q4
        simpa [Addr.add] using World.cell?_spot q4
      subst hsp
      refine ⟨x, b, o, A', n, c, A2, n2, c2, rfl, { at_ := fun j u hj => ?_, rd := r1, le := r2, nil := r3, rd2 := r4, le2 := r5, ss := r6, tt := r7, nr := r8 }⟩
      have h := hcell j u hj
      rw [Addr.add_lit, Addr.add_lit] at h
      exact h
    obtain ⟨L, hL, hP⟩ := list_of_each each
    exact ⟨some a, len, cap, L, e, { ins := hP, len := hL, fit := hl, cap := by unfold maxLen at hm; omega }⟩
end Go.Proofs.YtljacdbdjacbkaaGreat
