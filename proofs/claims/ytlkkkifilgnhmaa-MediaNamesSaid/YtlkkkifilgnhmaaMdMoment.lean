/- What a crash leaves of names is the names of some moment since SyncDir. Mathematics; it proves no statement. -/
import Derived.Test.YtlkkkifilgnhmaaMdOn
namespace Go.Proofs.Ytlkkkifilgnhmaa
open Go.RowKit Go.Maps Go.WideMaps Go.Sort
set_option linter.unusedVariables false
set_option linter.unusedSimpArgs false

/-- A call but SyncDir, Arm, Crash adds at most one naming. -/
theorem step_waits {M : Me} (h : M.On) (x : Call) (gf : Nat) (o : Option Nat) (h0 : 0 ≤ x.k) (h5 : x.k ≤ 5) : (stepM M x gf o).2.fast = M.fast ∧ ((stepM M x gf o).2.wait = M.wait ∨ ∃ y, (stepM M x gf o).2.wait = M.wait ++ [y]) := by
  have name : ∀ y, (opName M y).2.fast = M.fast ∧ ((opName M y).2.wait = M.wait ∨ ∃ z, (opName M y).2.wait = M.wait ++ [z]) := fun y => by
    unfold opName
    rw [if_neg h.ne]
    exact ⟨rfl, .inr ⟨y, rfl⟩⟩
  unfold stepM
  by_cases e0 : x.k = 0
  · rw [if_pos e0]
    unfold opCreate
    rw [if_neg h.no]
    split
    · exact ⟨rfl, .inl rfl⟩
    split
    · exact ⟨rfl, .inl rfl⟩
    split
    · exact ⟨rfl, .inl rfl⟩
    rw [if_neg h.ne]
    exact ⟨rfl, .inr ⟨_, rfl⟩⟩
  rw [if_neg e0]
  by_cases e1 : x.k = 1
  · rw [if_pos e1]
    unfold opAppend
    split
    · exact ⟨rfl, .inl rfl⟩
    · split
      · exact ⟨rfl, .inl rfl⟩
      · rw [if_neg h.ne]; exact ⟨rfl, .inl rfl⟩
  rw [if_neg e1]
  by_cases e2 : x.k = 2
  · rw [if_pos e2]
    unfold opTruncate
    split
    · exact ⟨rfl, .inl rfl⟩
    · split
      · exact ⟨rfl, .inl rfl⟩
      · rw [if_neg h.ne]; exact ⟨rfl, .inl rfl⟩
  rw [if_neg e2]
  by_cases e3 : x.k = 3
  · rw [if_pos e3]
    unfold opRename
    split
    · exact ⟨rfl, .inl rfl⟩
    · split
      · exact ⟨rfl, .inl rfl⟩
      · exact name _
  rw [if_neg e3]
  by_cases e4 : x.k = 4
  · rw [if_pos e4]
    unfold opRemove
    split
    · exact ⟨rfl, .inl rfl⟩
    · exact name _
  rw [if_neg e4]
  have e5 : x.k = 5 := by omega
  rw [if_pos e5]
  unfold opSync
  split
  · exact ⟨rfl, .inl rfl⟩
  · rw [if_neg h.ne]; exact ⟨rfl, .inl rfl⟩
/-- All that a crash may leave is among these. -/
def Moments (M : Me) (mom : List NT) : Prop := ∀ k, k ≤ M.wait.length → nmSteps M.fast (M.wait.take k) ∈ mom
theorem Moments.fresh {M : Me} (hf : M.fast = M.now) (hw : M.wait = []) : Moments M [M.now] := fun k _ => by
  rw [hw, List.take_nil, hf]
  exact List.mem_singleton.2 rfl
theorem Moments.step {M M' : Me} {mom : List NT} (h : Moments M mom) (hf : M'.fast = M.fast) (hw : M'.wait = M.wait ∨ ∃ y, M'.wait = M.wait ++ [y]) (hok : M'.ok) : Moments M' (mom ++ [M'.now]) := by
  intro k hk
  by_cases e : k = M'.wait.length
  · rw [e, List.take_length, ← hok.eq]
    exact List.mem_append_right _ (List.mem_singleton.2 rfl)
  · refine List.mem_append_left _ ?_
    rw [hf]
    rcases hw with hw | ⟨y, hw⟩
    · rw [hw] at hk ⊢
      exact h k hk
    · rw [hw, List.length_append, List.length_singleton] at hk e
      rw [hw, List.take_append_of_le_length (by omega)]
      exact h k (by omega)
theorem Moments.crash {M : Me} {mom : List NT} (h : Moments M mom) (zs : List Int) : (M.crash zs).now ∈ mom := h _ (natN_le _ _)
end Go.Proofs.Ytlkkkifilgnhmaa
