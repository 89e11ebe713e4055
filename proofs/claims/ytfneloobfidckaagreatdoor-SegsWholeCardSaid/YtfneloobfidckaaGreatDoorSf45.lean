/- Contracts and facts, several texts in one. It proves no statement. -/
import Derived.Test.YtfneloobfidckaaGreatDoorSf41
import Derived.Deep.MidRow

/- How much Scan finds. It proves no statement. -/

namespace Go.Proofs.YtfneloobfidckaaGreatDoor
open Go.RowKit
set_option linter.unusedVariables false
set_option linter.unusedSimpArgs false

theorem fo_D (l : List UInt8) (a : Nat) : (fo l a).D.length ≤ l.length := by
  have h := rdD_len (l.drop a)
  rw [List.length_drop] at h
  show (rdD (l.drop a)).length ≤ l.length
  omega
theorem scF_D (l : List UInt8) : ∀ (k a : Nat), (scF l k a).1.length ≤ k ∧ ∀ f ∈ (scF l k a).1, f.D.length ≤ l.length
  | 0, a => by simp [scF]
  | k + 1, a => by
    unfold scF
    split
    · split
      · obtain ⟨h1, h2⟩ := scF_D l k (a + rdN (l.drop a))
        refine ⟨by simp only [List.length_cons]; omega, ?_⟩
        intro f hf
        rcases List.mem_cons.1 hf with rfl | h
        · exact fo_D l a
        · exact h2 f h
      · simp
    · simp
theorem scanR_D (l : List UInt8) : (scanR l).1.length ≤ l.length ∧ ∀ f ∈ (scanR l).1, f.D.length ≤ l.length := by
  unfold scanR
  split
  · exact scF_D l _ _
  · simp
theorem own_still0 {W W' : World} {B n z : Nat} {e : TypeId} {v : Value} {xs : List Value} (s : Still W W') (h : W.ownsRow B e z v n xs) : W'.ownsRow B e z v n xs :=
  h.kept (row := none) (grown_still0 s) (by cases v.ownBlock <;> simp)

end Go.Proofs.YtfneloobfidckaaGreatDoor

/- One of a row of entries found, in memory. It proves no statement. -/


namespace Go.Proofs.YtfneloobfidckaaGreatDoor
open Go.RowKit
set_option linter.unusedVariables false
set_option linter.unusedSimpArgs false

/-- One entry of a row of entries found. -/
theorem HasF.at_ {W : World} {B : Nat} : ∀ (F : List Fo) (xs : List Value) (i : Nat) (f : Fo), HasF W B F xs → F[i]? = some f → ∃ v, f.K.length = 32 ∧ W.ownsRow B 5 1 v f.D.length (bytesV f.D) ∧ ∀ q, q < 36 → xs[i * 36 + q]? = (foL f.t f.K v f.at_ f.n)[q]?
  | [], _, i, f, _, hf => by simp at hf
  | g :: F, xs, 0, f, ⟨v, ys, h1, h2, h3, h4⟩, hf => by
    simp only [List.getElem?_cons_zero, Option.some.injEq] at hf
    subst hf
    refine ⟨v, h2, h3, fun q hq => ?_⟩
    rw [h1, Nat.zero_mul, Nat.zero_add, List.getElem?_append_left (by rw [foL_len _ _ _ _ _ h2]; exact hq)]
  | g :: F, xs, i + 1, f, ⟨v, ys, h1, h2, h3, h4⟩, hf => by
    obtain ⟨v', a, b, c⟩ := HasF.at_ F ys i f h4 (by simpa using hf)
    refine ⟨v', a, b, fun q hq => ?_⟩
    rw [h1, List.getElem?_append_right (by rw [foL_len _ _ _ _ _ h2]; omega), foL_len _ _ _ _ _ h2, ← c q hq]
    congr 1
    omega
/-- Its cells in memory. -/
structure AtF (W : World) (g p : Nat) (f : Fo) (v : Value) : Prop where
  ent : W.rangeAt g p (entL f.t f.K v)
  at_ : W.cell? ⟨g, p + 34, none⟩ = some (.int .i64 f.at_)
  n : W.cell? ⟨g, p + 35, none⟩ = some (.int .i64 f.n)
theorem atF {W : World} {B base g N c i : Nat} {F : List Fo} {xs : List Value} {f : Fo} (ho : W.ownsRow base 83 36 (.slice (some ⟨g, 0, none⟩) N c) N xs) (hF : HasF W B F xs) (hf : F[i]? = some f) (hi : i < N) : ∃ A n d, f.K.length = 32 ∧ W.ownsRow B 5 1 (.slice A n d) n (bytesV f.D) ∧ n = f.D.length ∧ AtF W g (i * 36) f (.slice A n d) := by
  obtain ⟨v, h1, h2, h3⟩ := HasF.at_ F xs i f hF hf
  obtain ⟨A, d, rfl, _, _, _⟩ := own_form h2
  have hc : ∀ q, q < 36 → W.cell? ⟨g, i * 36 + q, none⟩ = (foL f.t f.K (.slice A f.D.length d) f.at_ f.n)[q]? := fun q hq => by rw [ho.cellAt (i * 36 + q) (by omega), h3 q hq]
  have hl := entL_len f.t f.K (.slice A f.D.length d) h1
  refine ⟨A, _, d, h1, h2, rfl, ⟨fun j u hj => ?_, ?_, ?_⟩⟩
  · have hj34 : j < 34 := by rw [← hl]; exact (List.getElem?_eq_some_iff.1 hj).1
    rw [hc j (by omega)]
    unfold foL
    rw [List.getElem?_append_left (by omega)]
    exact hj
  · rw [hc 34 (by omega)]
    unfold foL
    rw [List.getElem?_append_right (by omega), hl]
    rfl
  · rw [hc 35 (by omega)]
    unfold foL
    rw [List.getElem?_append_right (by omega), hl]
    rfl

end Go.Proofs.YtfneloobfidckaaGreatDoor
