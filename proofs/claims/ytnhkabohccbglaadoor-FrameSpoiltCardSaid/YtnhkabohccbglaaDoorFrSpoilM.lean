/- The mathematics of FrameSpoilt: what stands ahead of a spoilt entry is found, whatever stands behind. It proves no statement. -/
import Derived.Test.YtnhkabohccbglaaDoorFrWholeM
namespace Go.Proofs.YtnhkabohccbglaaDoor
open Go.RowKit
set_option linter.unusedVariables false
set_option linter.unusedSimpArgs false

theorem scF_ahead (R : List UInt8) : ∀ (xs : List Ee) (pre : List UInt8) (k : Nat), (∀ x ∈ xs, okE x) → (segB xs).length ≤ k → ∃ F', (scF (pre ++ (segB xs ++ R)) k pre.length).1 = fosF pre.length xs ++ F'
  | [], pre, k, _, _ => ⟨_, rfl⟩
  | x :: xs, pre, k, hok, hk => by
    have hx := hok x (by simp)
    have h9 := okE_len hx
    have hl : (segB (x :: xs)).length = (bytE x.t x.K x.D).length + (segB xs).length := by
      show (bytE x.t x.K x.D ++ segB xs).length = _
      rw [List.length_append]
    obtain ⟨k', rfl⟩ : ∃ k', k = k' + 1 := ⟨k - 1, by omega⟩
    have hd : (pre ++ (segB (x :: xs) ++ R)).drop pre.length = bytE x.t x.K x.D ++ (segB xs ++ R) := by
      rw [List.drop_left]
      show (bytE x.t x.K x.D ++ segB xs) ++ R = _
      rw [List.append_assoc]
    obtain ⟨r1, r2, r3, r4, r5⟩ := rd_back (R := segB xs ++ R) hx.1 hx.2
    have e := scF_ok (pre ++ (segB (x :: xs) ++ R)) k' pre.length (by rw [List.length_append, List.length_append]; omega) (by rw [hd]; exact r1)
    rw [e]
    unfold fo
    rw [hd, r2, r3, r4, r5]
    obtain ⟨F', ih⟩ := scF_ahead R xs (pre ++ bytE x.t x.K x.D) k' (fun y hy => hok y (by simp [hy])) (by omega)
    have hp : pre ++ (segB (x :: xs) ++ R) = (pre ++ bytE x.t x.K x.D) ++ (segB xs ++ R) := by
      show pre ++ ((bytE x.t x.K x.D ++ segB xs) ++ R) = _
      rw [List.append_assoc, List.append_assoc]
    refine ⟨F', ?_⟩
    rw [hp, show pre.length + (bytE x.t x.K x.D).length = (pre ++ bytE x.t x.K x.D).length by rw [List.length_append]]
    show _ :: (scF _ k' _).1 = _
    rw [ih]
    simp only [fosF, List.cons_append]
    rw [List.length_append]
/-- Scan of a segment's front, whatever stands behind it. -/
theorem scan_ahead (xs : List Ee) (R : List UInt8) (hok : ∀ x ∈ xs, okE x) : ∃ F', (scanR (magic ++ (segB xs ++ R))).1 = fosF 8 xs ++ F' := by
  unfold scanR
  rw [if_pos ⟨by rw [List.length_append]; show 8 ≤ 8 + _; omega, List.take_left' (by rfl)⟩]
  exact scF_ahead R xs magic _ hok (by rw [List.length_append, List.length_append]; omega)
/-- A byte turned behind a front leaves the front. -/
theorem set_behind (l : List UInt8) (m i : Nat) (v : UInt8) (h : m ≤ i) : (l.set i v).take m = l.take m ∧ ∀ q, i < q → (l.set i v).drop q = l.drop q := by
  refine ⟨?_, fun q hq => ?_⟩
  · apply List.ext_getElem?
    intro j
    by_cases hj : j < m
    · rw [List.getElem?_take_of_lt hj, List.getElem?_take_of_lt hj, List.getElem?_set_ne (by omega)]
    · rw [List.getElem?_take_eq_none (by omega), List.getElem?_take_eq_none (by omega)]
  · apply List.ext_getElem?
    intro j
    rw [List.getElem?_drop, List.getElem?_drop, List.getElem?_set_ne (by omega)]
/-- The segment parted at its i-th entry. -/
theorem seg_part (xs : List Ee) (i : Nat) (x : Ee) (hx : xs[i]? = some x) : magic ++ segB xs = magic ++ (segB (xs.take i) ++ (bytE x.t x.K x.D ++ segB (xs.drop (i + 1)))) ∧ (magic ++ segB (xs.take i)).length = atE xs i := by
  refine ⟨?_, by rw [List.length_append]; rfl⟩
  have h : xs = xs.take i ++ (x :: xs.drop (i + 1)) := by
    have hlt : i < xs.length := (List.getElem?_eq_some_iff.1 hx).1
    conv => lhs; rw [← List.take_append_drop i xs, List.drop_eq_getElem_cons hlt]
    rw [List.getElem?_eq_getElem hlt] at hx
    rw [Option.some.inj hx]
  conv => lhs; rw [h, segB_app]
  rfl
/-- A segment with one byte of its i-th entry turned: what is ahead, what is behind. -/
theorem spoilt_parts (xs : List Ee) (i k : Nat) (x : Ee) (v : UInt8) (hx : xs[i]? = some x) (hk : k < (bytE x.t x.K x.D).length) :
    (∃ R, (magic ++ segB xs).set (atE xs i + k) v = magic ++ (segB (xs.take i) ++ R)) ∧ ((magic ++ segB xs).set (atE xs i + k) v).drop (atE xs i + (bytE x.t x.K x.D).length) = segB (xs.drop (i + 1)) := by
  obtain ⟨h1, h2⟩ := seg_part xs i x hx
  have h3 : magic ++ segB xs = (magic ++ segB (xs.take i)) ++ (bytE x.t x.K x.D ++ segB (xs.drop (i + 1))) := by rw [h1, List.append_assoc]
  obtain ⟨t1, _⟩ := set_behind (magic ++ segB xs) (atE xs i) (atE xs i + k) v (by omega)
  obtain ⟨_, t2⟩ := set_behind (magic ++ segB xs) 0 (atE xs i + k) v (by omega)
  constructor
  · refine ⟨((magic ++ segB xs).set (atE xs i + k) v).drop (atE xs i), ?_⟩
    conv => lhs; rw [← List.take_append_drop (atE xs i) ((magic ++ segB xs).set (atE xs i + k) v), t1]
    rw [← List.append_assoc]
    congr 1
    rw [h3, ← h2, List.take_left]
  · rw [t2 _ (by omega), h3, ← h2, ← List.drop_drop, List.drop_left, List.drop_left]
end Go.Proofs.YtnhkabohccbglaaDoor
