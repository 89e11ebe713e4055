/- A row that came in, of elements of so many cells each. It proves no statement. -/
import Derived.Test.YtlebancjgjcfjaaOpenId
import Derived.Deep.DeepMust
namespace Go.Proofs.Ytlebancjgjcfjaa
open Go.RowKit
set_option linter.unusedVariables false
set_option linter.unusedSimpArgs false

theorem list_of_each {α : Type} {n : Nat} {P : Nat → α → Prop} (h : ∀ i, i < n → ∃ x, P i x) : ∃ L : List α, L.length = n ∧ ∀ i x, L[i]? = some x → P i x := by
  induction n with
  | zero => exact ⟨[], rfl, fun i x hx => by simp at hx⟩
  | succ n ih =>
    obtain ⟨L, hL, hP⟩ := ih (fun i hi => h i (by omega))
    obtain ⟨x, hx⟩ := h n (by omega)
    refine ⟨L ++ [x], by simp [hL], fun i y hy => ?_⟩
    by_cases hi : i < n
    · rw [List.getElem?_append_left (by omega)] at hy
      exact hP i y hy
    · rw [List.getElem?_append_right (by omega)] at hy
      have hi' : i - L.length = 0 := by
        rcases Nat.eq_zero_or_pos (i - L.length) with h0 | h0
        · exact h0
        · rw [List.getElem?_eq_none (by simp; omega)] at hy; cases hy
      rw [hi'] at hy
      simp only [List.getElem?_cons_zero, Option.some.injEq] at hy
      subst hy
      obtain rfl : i = n := by omega
      exact hx
/-- A row that came in: elements of m cells. -/
structure FxRow (w : World) (A : Option Addr) (n c m : Nat) (E : List (List Value)) : Prop where
  at_ : ∀ (i : Nat) (x : List Value), E[i]? = some x → ∃ b o, A = some ⟨b, o, none⟩ ∧ b < w.heap.size ∧ w.rangeAt b (o + i * m) x
  len : E.length = n
  fit : n ≤ c
  cap : c ≤ 9223372036854775807
theorem open_row {H : Type} {enc : TypeId × Value → H} {w : World} {held : Bool} {fuel : Nat} {cs : List Value} {y : DataW H × List MemPlace} {T t : TypeId} (m : Nat) (Q : List Value → Prop) (hT : Try.prog.underlying T = some (.slice t)) (hm0 : 0 < m)
    (hcells : Try.prog.cellsOf t = m) (hQ : ∀ {fuel : Nat} {l : List Value} {y : DataW H × List MemPlace}, l.length = m → DataW.trod enc Try.prog w 0 (fun _ => true) held fuel t l = some y → Q l)
    (hf : DataW.trod enc Try.prog w 0 (fun _ => true) held fuel T cs = some y) :
    ∃ A n c E, cs = [.slice A n c] ∧ FxRow w A n c m E ∧ ∀ x ∈ E, Q x ∧ x.length = m := by
  rcases DataW.trod_slice hT hf with ⟨e, _⟩ | ⟨a, len, cap, elems, rest, fm, _, e, _, _, hl, hm, hel, hi, _, _⟩
  · exact ⟨none, 0, 0, [], e, { at_ := fun i x hx => by simp at hx, len := rfl, fit := Nat.le_refl _, cap := by omega }, fun x hx => by cases hx⟩
  · have each : ∀ i, i < len → ∃ x : List Value, (∃ b o, (some a : Option Addr) = some ⟨b, o, none⟩ ∧ b < w.heap.size ∧ w.rangeAt b (o + i * m) x) ∧ Q x ∧ x.length = m := fun i hlt => by
      have h1 := hi i hlt
      rw [List.getElem?_eq_getElem (by omega), hcells, Option.bind_eq_some_iff] at h1
      obtain ⟨l, hl1, hl2⟩ := h1
      have hc := World.cells?_some hl1
      have hll : l.length = m := by first | exact hc.1 | exact hc.2.1
      have hcell : ∀ j u, l[j]? = some u → w.cell? ((a.add (i * m)).add j) = some u := fun j u hj => by
        have hlt2 : j < m := by
          have h := (List.getElem?_eq_some_iff.1 hj).1
          omega
        first
          | exact (hc.2.2 j hlt2).trans hj
          | exact (hc.2 j hlt2).trans hj
          | exact (hc j hlt2).trans hj
      obtain ⟨b, o, sp⟩ := a
      have hsp : sp = none := by
        have h00 := hi 0 (by omega)
        rw [List.getElem?_eq_getElem (by omega), hcells, Option.bind_eq_some_iff] at h00
        obtain ⟨l0, q1, _⟩ := h00
        obtain ⟨q0, q2, q3⟩ := World.cells?_some q1
        have q4 := q3 0 (by omega)
        rw [List.getElem?_eq_getElem (by omega)] at q4
        simpa [Addr.add] using World.cell?_spot q4
      subst hsp
      have hat : ∀ j u, l[j]? = some u → w.cell? ⟨b, o + i * m + j, none⟩ = some u := fun j u hj => by
        have h := hcell j u hj
        rwa [Addr.add_lit, Addr.add_lit] at h
      exact ⟨l, ⟨b, o, rfl, by simpa using World.block_lt_of_cell? w _ (hat 0 _ (List.getElem?_eq_getElem (by omega))), hat⟩, hQ hll hl2, hll⟩
    obtain ⟨L, hL, hP⟩ := list_of_each each
    refine ⟨some a, len, cap, L, e, { at_ := fun i x hx => (hP i x hx).1, len := hL, fit := hl, cap := by unfold maxLen at hm; omega }, fun x hx => ?_⟩
    obtain ⟨i, hi2⟩ := List.mem_iff_getElem?.1 hx
    exact (hP i x hi2).2
theorem list_of_all {α β : Type} (f : α → β) (P : α → Prop) : ∀ E : List β, (∀ x ∈ E, ∃ a, x = f a ∧ P a) → ∃ L : List α, E = L.map f ∧ ∀ a ∈ L, P a
  | [], _ => ⟨[], rfl, fun a h => by cases h⟩
  | x :: r, h => by
    obtain ⟨a, rfl, ha⟩ := h x (by simp)
    obtain ⟨L, hL, hP⟩ := list_of_all f P r (fun y hy => h y (by simp [hy]))
    refine ⟨a :: L, by rw [List.map_cons, hL], fun b hb => ?_⟩
    rcases List.mem_cons.1 hb with rfl | hb
    · exact ha
    · exact hP b hb
end Go.Proofs.Ytlebancjgjcfjaa
