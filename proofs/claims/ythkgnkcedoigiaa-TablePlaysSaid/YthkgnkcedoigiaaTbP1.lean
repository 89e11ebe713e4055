/- Mathematics: the document's own way to put a key among rising keys. It proves no statement. -/
import Derived.Test.YthkgnkcedoigiaaTbL
namespace Go.Proofs.Ythkgnkcedoigiaa
open Go.Lib
set_option linter.unusedVariables false
set_option linter.unusedSimpArgs false

/-- Whether a pair stands at or behind the key. -/
def atB (k : List UInt8) (z : KV) : Bool := decide (z.1 = k) || ltK k z.1
def doneB (k : List UInt8) (l : List KV) : Bool := l.any (atB k)
theorem insL_pre {k : List UInt8} {v : List Int} : ∀ {l m : List KV}, doneB k l = false → insL k v (l ++ m) = l ++ insL k v m
  | [], m, _ => rfl
  | z :: l, m, h => by
    have hh : atB k z = false ∧ doneB k l = false := by simpa [doneB] using h
    have h1 : z.1 ≠ k ∧ ltK k z.1 = false := by simpa [atB] using hh.1
    rw [List.cons_append]
    show (if z.1 = k then _ else if ltK k z.1 then _ else z :: insL k v (l ++ m)) = _
    rw [if_neg h1.1, if_neg (by rw [h1.2]; simp), insL_pre hh.2]
    rfl
theorem insL_post {k : List UInt8} {v : List Int} : ∀ {l m : List KV}, doneB k l = true → insL k v (l ++ m) = insL k v l ++ m
  | [], m, h => by cases h
  | z :: l, m, h => by
    rw [List.cons_append]
    show (if z.1 = k then (k, v) :: (l ++ m) else if ltK k z.1 then (k, v) :: z :: (l ++ m) else z :: insL k v (l ++ m)) = (if z.1 = k then (k, v) :: l else if ltK k z.1 then (k, v) :: z :: l else z :: insL k v l) ++ m
    by_cases h1 : z.1 = k
    · rw [if_pos h1, if_pos h1]; rfl
    · rw [if_neg h1, if_neg h1]
      by_cases h2 : ltK k z.1 = true
      · rw [if_pos h2, if_pos h2]; rfl
      · rw [if_neg h2, if_neg h2]
        have hd : doneB k l = true := by
          have : atB k z = false := by simp [atB, h1, h2]
          simpa [doneB, this] using h
        rw [insL_post hd]; rfl
/-- What stands behind i pairs. -/
def outP (k : List UInt8) (v : List Int) (L : List KV) (i : Nat) : List KV := if doneB k (L.take i) then insL k v (L.take i) else L.take i
section
variable {k : List UInt8} {v : List Int} {L : List KV} {i : Nat} {z : KV}
theorem doneB_succ (h : L[i]? = some z) : doneB k (L.take (i + 1)) = (doneB k (L.take i) || atB k z) := by
  rw [List.take_add_one, h]; simp [doneB]
theorem outP_later (h : L[i]? = some z) (hd : doneB k (L.take i) = true) : outP k v L (i + 1) = outP k v L i ++ [z] := by
  unfold outP
  rw [doneB_succ h, hd]
  simp only [Bool.true_or, if_true]
  rw [List.take_add_one, h]
  exact insL_post hd
theorem outP_same (h : L[i]? = some z) (hd : doneB k (L.take i) = false) (he : z.1 = k) : outP k v L (i + 1) = outP k v L i ++ [(k, v)] := by
  unfold outP
  rw [doneB_succ h, hd, show atB k z = true by simp [atB, he]]
  simp only [Bool.or_true, if_true, Bool.false_eq_true, if_false]
  rw [List.take_add_one, h, Option.toList_some, insL_pre hd]
  simp [insL, he]
theorem outP_here (h : L[i]? = some z) (hd : doneB k (L.take i) = false) (he : z.1 ≠ k) (hl : ltK k z.1 = true) : outP k v L (i + 1) = outP k v L i ++ [(k, v)] ++ [z] := by
  unfold outP
  rw [doneB_succ h, hd, show atB k z = true by simp [atB, hl]]
  simp only [Bool.or_true, if_true, Bool.false_eq_true, if_false]
  rw [List.take_add_one, h, Option.toList_some, insL_pre hd]
  simp [insL, he, hl]
theorem outP_on (h : L[i]? = some z) (hd : doneB k (L.take i) = false) (he : z.1 ≠ k) (hl : ltK k z.1 = false) : outP k v L (i + 1) = outP k v L i ++ [z] := by
  unfold outP
  rw [doneB_succ h, hd, show atB k z = false by simp [atB, he, hl]]
  simp only [Bool.or_false, Bool.false_eq_true, if_false]
  rw [List.take_add_one, h, Option.toList_some]
theorem outP_end (hi : i = L.length) : (if doneB k (L.take i) then outP k v L i else outP k v L i ++ [(k, v)]) = insL k v L := by
  subst hi
  unfold outP
  rw [List.take_length]
  split
  · rfl
  · rename_i h
    have h : doneB k L = false := by simpa using h
    have := insL_pre (v := v) (m := []) h
    rw [List.append_nil] at this
    rw [this]; rfl
/-- Ahead of the key's own place nothing is done. -/
theorem done_before (hr : Rise L) (h : L[i]? = some z) (hz : z.1 = k) {j : Nat} (hj : j ≤ i) : doneB k (L.take j) = false := by
  unfold doneB
  rw [List.any_eq_false]
  intro y hy
  obtain ⟨q, hq⟩ := List.mem_iff_getElem?.1 hy
  rw [List.getElem?_take] at hq
  split at hq
  · have hlt : ltK y.1 z.1 = true := by
      obtain ⟨hq1, rfl⟩ := List.getElem?_eq_some_iff.1 hq
      obtain ⟨hi1, rfl⟩ := List.getElem?_eq_some_iff.1 h
      exact List.pairwise_iff_getElem.1 hr q i hq1 hi1 (by omega)
    subst hz
    have := ltK_ne hlt
    simp [atB, this, ltK_asym hlt]
  · cases hq
end
/-- Where a key stands. -/
def AtIs (L : List KV) (k : List UInt8) (a : Int) : Prop := (hasL k L = false ∧ a = -1) ∨ (∃ (i : Nat) (v : List Int), L[i]? = some (k, v) ∧ a = i)
theorem delL_at {L : List KV} {k : List UInt8} {i : Nat} {v : List Int} (hr : Rise L) (h : L[i]? = some (k, v)) : delL k L = L.take i ++ L.drop (i + 1) := by
  induction L generalizing i with
  | nil => simp at h
  | cons y r ih =>
    obtain ⟨hy, hr'⟩ := List.pairwise_cons.1 hr
    match i, h with
    | 0, h =>
      simp only [List.getElem?_cons_zero, Option.some.injEq] at h
      subst h
      have hn : hasL k r = false := hasL_no.2 fun u hu => by have := hy _ hu; rw [ltK_irrefl] at this; cases this
      have : delL k ((k, v) :: r) = delL k r := by simp [delL]
      rw [this, delL_none hn]
      simp
    | i + 1, h =>
      rw [List.getElem?_cons_succ] at h
      have hne : y.1 ≠ k := ltK_ne (hy _ (List.mem_of_getElem? h))
      have : delL k (y :: r) = y :: delL k r := by simp [delL, hne]
      rw [this, ih hr' h]
      simp
/-- So many slots. -/
def SlotsR (n c : Nat) : Prop := ∃ e, c = 8 * 2 ^ e ∧ 2 * n ≤ c ∧ (e = 0 ∨ c < 4 * n)
theorem SlotsR.put {n c : Nat} (h : SlotsR (n + 1) c) : NewCap n c := by
  obtain ⟨e, rfl, h2, h3⟩ := h
  refine ⟨e, rfl, by omega, ?_⟩
  rcases h3 with h3 | h3
  · exact .inl h3
  · exact .inr (by omega)
theorem NewCap.put {n c : Nat} (h : NewCap n c) : SlotsR (n + 1) c := by
  obtain ⟨e, rfl, h2, h3⟩ := h
  have := Nat.two_pow_pos e
  refine ⟨e, rfl, by omega, ?_⟩
  rcases h3 with h3 | h3
  · exact .inl h3
  · exact .inr (by omega)
theorem SlotsR.uniq {k n n' : Nat} (h : SlotsR k n) (h' : SlotsR k n') : n = n' := by
  obtain ⟨e, rfl, h2, h3⟩ := h
  obtain ⟨e', rfl, h2', h3'⟩ := h'
  rcases Nat.lt_trichotomy e e' with hlt | rfl | hlt
  · have : 2 ^ (e + 1) ≤ 2 ^ e' := Nat.pow_le_pow_right (by omega) hlt
    rw [Nat.pow_succ] at this
    rcases h3' with rfl | h3'
    · omega
    · omega
  · rfl
  · have : 2 ^ (e' + 1) ≤ 2 ^ e := Nat.pow_le_pow_right (by omega) hlt
    rw [Nat.pow_succ] at this
    rcases h3 with rfl | h3
    · omega
    · omega
end Go.Proofs.Ythkgnkcedoigiaa
