/- What a text of digits stands for, on lists of bytes. It proves no statement. -/
import Derived.Test.YtambpgfmnbkhdaaDoorShaIndex
namespace Go.Proofs.YtambpgfmnbkhdaaDoor
open Go.RowKit
set_option linter.unusedVariables false
set_option linter.unusedSimpArgs false

/-- The number of the j-th byte as a digit. -/
def nbL (l : List UInt8) (j : Nat) : Nat := nb (l.getD j 0).toNat
def sbL (l : List UInt8) (j : Nat) : UInt8 := UInt8.ofNat (nbL l (2 * j) * 16 + nbL l (2 * j + 1))
def goodL (l : List UInt8) : Bool := (List.range 64).all fun j => nbL l j != 16
/-- What a text stands for. -/
def fromL (l : List UInt8) : List UInt8 := if l.length = 64 ∧ goodL l = true then (List.range 32).map (sbL l) else List.replicate 32 0
def isL (l : List UInt8) : Bool := l.length == 64 && goodL l
theorem nb_le (c : Nat) : nb c ≤ 16 := by unfold nb; split <;> (try split) <;> omega
theorem dg_lt : ∀ q < 16, (dg q).toNat < 256 := by decide +kernel
theorem nb_dg (q : Nat) (h : q < 16) : nb (dg q).toNat = q := nb_hit _ (dg_lt q h) q h rfl
theorem hexL_get : ∀ (l : List UInt8) (j : Nat), j < l.length → (hexL l).getD (2 * j) 0 = dg ((l.getD j 0).toNat / 16) ∧ (hexL l).getD (2 * j + 1) 0 = dg ((l.getD j 0).toNat % 16)
  | c :: r, 0, _ => ⟨rfl, rfl⟩
  | c :: r, j + 1, h => by
    have ih := hexL_get r j (by simpa using h)
    rw [show 2 * (j + 1) = 2 * j + 1 + 1 by omega]
    exact ih
theorem nbL_hex (l : List UInt8) (j : Nat) (h : j < l.length) : nbL (hexL l) (2 * j) = (l.getD j 0).toNat / 16 ∧ nbL (hexL l) (2 * j + 1) = (l.getD j 0).toNat % 16 := by
  have hc := (l.getD j 0).toNat_lt
  unfold nbL
  rw [(hexL_get l j h).1, (hexL_get l j h).2, nb_dg _ (by omega), nb_dg _ (by omega)]
  exact ⟨rfl, rfl⟩
theorem sbL_hex (l : List UInt8) (j : Nat) (h : j < l.length) : sbL (hexL l) j = l.getD j 0 := by
  unfold sbL
  rw [(nbL_hex l j h).1, (nbL_hex l j h).2, show (l.getD j 0).toNat / 16 * 16 + (l.getD j 0).toNat % 16 = (l.getD j 0).toNat by omega]
  exact UInt8.ofNat_toNat
theorem goodL_hex (l : List UInt8) (h : l.length = 32) : goodL (hexL l) = true := by
  unfold goodL
  rw [List.all_eq_true]
  intro j hj
  have hj := List.mem_range.1 hj
  have hc := (l.getD (j / 2) 0).toNat_lt
  have k := nbL_hex l (j / 2) (by omega)
  rw [bne_iff_ne]
  by_cases p : j % 2 = 0
  · rw [show j = 2 * (j / 2) by omega, k.1]; omega
  · rw [show j = 2 * (j / 2) + 1 by omega, k.2]; omega
theorem isL_hex (l : List UInt8) (h : l.length = 32) : isL (hexL l) = true := by
  unfold isL
  rw [goodL_hex l h, hexL_length, h]; rfl
theorem fromL_hex (l : List UInt8) (h : l.length = 32) : fromL (hexL l) = l := by
  unfold fromL
  rw [if_pos ⟨by rw [hexL_length, h], goodL_hex l h⟩]
  apply List.ext_getElem
  · simp [h]
  · intro j h1 h2
    have hj : j < l.length := h2
    rw [List.getElem_map, List.getElem_range, sbL_hex l j hj]
    simp [List.getD, hj]
theorem fromL_bad (l : List UInt8) (h : isL l = false) : fromL l = List.replicate 32 0 := by
  unfold fromL
  rw [if_neg]
  rintro ⟨h1, h2⟩
  unfold isL at h
  rw [h1, h2] at h
  cases h
end Go.Proofs.YtambpgfmnbkhdaaDoor
