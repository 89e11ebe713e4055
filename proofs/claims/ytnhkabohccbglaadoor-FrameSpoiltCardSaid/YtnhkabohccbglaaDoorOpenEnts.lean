/- A slice of entries that came in, opened. It proves no statement. -/
import Derived.Test.YtnhkabohccbglaaDoorOpenEnt
import Derived.Test.YtnhkabohccbglaaDoorFrFewN
namespace Go.Proofs.YtnhkabohccbglaaDoor
open Go.RowKit
set_option linter.unusedVariables false
set_option linter.unusedSimpArgs false

set_option maxRecDepth 100000 in
theorem open_entL {H : Type} {enc : TypeId × Value → H} {w : World} {held : Bool} {fuel : Nat} {l : List Value} {y : DataW H × List MemPlace} (hf : DataW.trod enc Tryd.prog w 0 (fun _ => true) held fuel 26 l = some y) :
    ∃ t K D A n c, l = entL t K (.slice A n c) ∧ EntIn w t K D A n c := by
  obtain ⟨xs, m, hn, hx, hlen, hxl, hg⟩ := DataW.trod_struct Tryd.underlying26 hf
  rw [Tryd.cells_ent] at hlen
  have hl34 : l.length = 34 := hlen
  have hxl3 : xs.length = 3 := hxl
  have hfx : ∀ (i : Nat) (hi : i < xs.length), xs[i]? = some xs[i] := fun i hi => List.getElem?_eq_getElem hi
  have g0 : DataW.trod enc Tryd.prog w 0 (fun _ => true) held m 3 (l.take 1) = some xs[0] := by
    have this : DataW.trod enc Tryd.prog w 0 (fun _ => true) held m 3 ((l.drop 0).take (Tryd.prog.cellsOf 3)) = some xs[0] := (hg 0 _ rfl).trans (hfx 0 (by omega))
    rw [Tryd.cells_int0] at this
    exact this
  have g1 : DataW.trod enc Tryd.prog w 0 (fun _ => true) held m 23 ((l.drop 1).take 32) = some xs[1] := by
    have this : DataW.trod enc Tryd.prog w 0 (fun _ => true) held m 23 ((l.drop 1).take (Tryd.prog.cellsOf 23)) = some xs[1] := (hg 1 _ rfl).trans (hfx 1 (by omega))
    rw [Tryd.cells_id] at this
    exact this
  have g2 : DataW.trod enc Tryd.prog w 0 (fun _ => true) held m 24 ((l.drop 33).take 1) = some xs[2] := by
    have this : DataW.trod enc Tryd.prog w 0 (fun _ => true) held m 24 ((l.drop 33).take (Tryd.prog.cellsOf 24)) = some xs[2] := (hg 2 _ rfl).trans (hfx 2 (by omega))
    rw [Tryd.cells_bytes0] at this
    exact this
  obtain ⟨t, e0, _, w0⟩ := DataW.trod_int Tryd.underlying3 g0
  obtain ⟨K, e1, hK⟩ := trod_id (by simp; omega) g1
  have hb : ∃ (A : Option Addr) (n c : Nat) (D : List UInt8), (l.drop 33).take 1 = [.slice A n c] ∧ Reads w w.heap.size A n D ∧ n ≤ c ∧ c ≤ 9223372036854775807 ∧ (A = none → n = 0 ∧ c = 0) := by
    rcases Go.ChangeShapes.open_ints Tryd.underlying24 Tryd.underlying5 Tryd.cells_byte0 g2 with ⟨e2, _⟩ | ⟨a, len, cap, zs, e2, _, hl, hm, hz, _, hc, hw⟩
    · exact ⟨none, 0, 0, [], by simpa using e2, Reads.nil0, by omega, by omega, fun _ => ⟨rfl, rfl⟩⟩
    · obtain ⟨D, hr, h1, h2, h3⟩ := reads_of_row (a := some a) (len := len) (cap := cap) (zs := zs) (.inr ⟨a, rfl, hl, hm, by simpa using hz, hc, hw⟩)
      exact ⟨some a, len, cap, D, by simpa using e2, hr, h1, h2, h3⟩
  obtain ⟨A, n, c, D, e2, hr, h1, h2, h3⟩ := hb
  refine ⟨t, K, D, A, n, c, ?_, { key := hK, reads := hr, fit := h1, cap := h2, nil := h3 }⟩
  have el : l = entL t K (.slice A n c) := by
    have s1 : l = l.take 1 ++ ((l.drop 1).take 32 ++ (l.drop 33).take 1) := by
      have a1 := (List.take_append_drop 1 l).symm
      have a2 := (List.take_append_drop 32 (l.drop 1)).symm
      rw [List.drop_drop] at a2
      have a3 : (l.drop 33).take 1 = l.drop 33 := List.take_of_length_le (by rw [List.length_drop]; omega)
      rw [a3]
      conv => lhs; rw [a1, a2]
    rw [s1, e1, e2]
    unfold entL
    have e0' : l.take 1 = [.int .i64 t] := by simpa using e0
    rw [e0']
    rfl
  exact el
/-- A slice of entries that came in. -/
structure EntsRow (w : World) (A : Option Addr) (n c : Nat) (L : List Ee) : Prop where
  ins : EntsIn w w.heap.size A L
  len : L.length = n
  fit : n ≤ c
  cap : c ≤ 9223372036854775807
theorem list_of_each {n : Nat} {P : Nat → Ee → Prop} (h : ∀ i, i < n → ∃ x, P i x) : ∃ L : List Ee, L.length = n ∧ ∀ i x, L[i]? = some x → P i x := by
  induction n with
  | zero => exact ⟨[], rfl, fun i x hx => by simp at hx⟩
  | succ n ih =>
    obtain ⟨L, hL, hP⟩ := ih (fun i hi => h i (by omega))
    obtain ⟨x, hx⟩ := h n (by omega)
    refine ⟨L ++ [x], by simp [hL], fun i y hy => ?_⟩
    by_cases hi : i < n
    · rw [List.getElem?_append_left (by omega)] at hy
      exact hP i y hy
    · rw [List.getElem?_append_right (by omega)] at hy
      have hi' : i - L.length = 0 := by
        rcases Nat.eq_zero_or_pos (i - L.length) with h0 | h0
        · exact h0
        · rw [List.getElem?_eq_none (by simp; omega)] at hy; cases hy
      rw [hi'] at hy
      simp only [List.getElem?_cons_zero, Option.some.injEq] at hy
      subst hy
      obtain rfl : i = n := by omega
      exact hx
theorem open_ents {H : Type} {enc : TypeId × Value → H} {w : World} {held : Bool} {fuel : Nat} {cs : List Value} {y : DataW H × List MemPlace} (hf : DataW.trod enc Tryd.prog w 0 (fun _ => true) held fuel 27 cs = some y) :
    ∃ A n c L, cs = [.slice A n c] ∧ EntsRow w A n c L := by
  rcases DataW.trod_slice Tryd.underlying27 hf with ⟨e, _⟩ | ⟨a, len, cap, elems, rest, m, _, e, _, _, hl, hm, hel, hi, _, _⟩
  · exact ⟨none, 0, 0, [], e, { ins := fun i x hx => by simp at hx, len := rfl, fit := Nat.le_refl _, cap := by omega }⟩
  · have each : ∀ i, i < len → ∃ x : Ee, ∃ b o A' n c, (some a : Option Addr) = some ⟨b, o, none⟩ ∧ EntRow w w.heap.size b (o + i * 34) x A' n c := fun i hlt => by
      have h1 := hi i hlt
      rw [List.getElem?_eq_getElem (by omega), Tryd.cells_ent, Option.bind_eq_some_iff] at h1
      obtain ⟨l, hl1, hl2⟩ := h1
      obtain ⟨t, K, D, A', n, c, rfl, hE⟩ := open_entL hl2
      have hc := World.cells?_some hl1
      have hcell : ∀ j u, (entL t K (.slice A' n c))[j]? = some u → w.cell? ((a.add (i * 34)).add j) = some u := fun j u hj => by
        have hlt2 : j < 34 := by rw [← entL_len t K (.slice A' n c) hE.key]; exact (List.getElem?_eq_some_iff.1 hj).1
        first
          | exact (hc.2.2 j hlt2).trans hj
          | exact (hc.2 j hlt2).trans hj
          | exact (hc j hlt2).trans hj
      obtain ⟨b, o, sp⟩ := a
      have hsp : sp = none := by
        have h00 := hi 0 (by omega)
        rw [List.getElem?_eq_getElem (by omega), Tryd.cells_ent, Option.bind_eq_some_iff] at h00
        obtain ⟨l0, q1, _⟩ := h00
        obtain ⟨_, q2, q3⟩ := World.cells?_some q1
        have q4 := q3 0 (by omega)
        rw [List.getElem?_eq_getElem (by omega)] at q4
        simpa [Addr.add] using World.cell?_spot q4
      subst hsp
      refine ⟨⟨t, K, D⟩, b, o, A', n, c, rfl, { key := hE.key, at_ := fun j u hj => ?_, rd := hE.reads, le := ⟨hE.fit, hE.cap⟩, nil := hE.nil }⟩
      have h := hcell j u hj
      rw [Addr.add_lit, Addr.add_lit] at h
      exact h
    obtain ⟨L, hL, hP⟩ := list_of_each each
    exact ⟨some a, len, cap, L, e, { ins := hP, len := hL, fit := hl, cap := by unfold maxLen at hm; omega }⟩
end Go.Proofs.YtnhkabohccbglaaDoor
