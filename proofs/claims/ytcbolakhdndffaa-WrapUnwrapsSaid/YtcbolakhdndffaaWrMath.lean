/- Wrapped texts as functions on bytes. It proves no statement. -/
import Derived.Test.YtcbolakhdndffaaLzSqM
import Derived.Test.YtcbolakhdndffaaLzLoMath
import Derived.Test.YtcbolakhdndffaaPut
namespace Go.Proofs.Ytcbolakhdndffaa
set_option linter.unusedVariables false
set_option linter.unusedSimpArgs false

theorem leNum_leB (x n : Nat) : leNum (leBytes x n) = x % 2 ^ (8 * n) := by
  induction n with
  | zero => simp [leBytes, leNum, Nat.mod_one]
  | succ n ih =>
    rw [leBytes_succ, leNum_snoc, ih, leBytes_length, UInt8.toNat_ofNat']
    rw [show 8 * (n + 1) = 8 * n + 8 by omega, Nat.pow_add, Nat.mod_mul]
    simp only [Nat.mul_comm]
theorem leNum_inj : ∀ (l m : List UInt8), l.length = m.length → leNum l = leNum m → l = m
  | [], [], _, _ => rfl
  | a :: l, b :: m, hl, h => by
    simp only [leNum] at h
    have ha := a.toNat_lt
    have hb := b.toNat_lt
    have e1 : a.toNat = b.toNat := by omega
    have e2 : leNum l = leNum m := by omega
    rw [UInt8.toNat_inj.1 e1, leNum_inj l m (by simpa using hl) e2]
  | [], _ :: _, hl, _ => by simp at hl
  | _ :: _, [], hl, _ => by simp at hl
theorem leB_leNum (l : List UInt8) : leBytes (leNum l) l.length = l := by
  refine leNum_inj _ _ (leBytes_length _ _) ?_
  rw [leNum_leB, Nat.mod_eq_of_lt (leNum_lt l)]

/-- Whether a text is squeezed. -/
def wrkB (b : List UInt8) (s : Bool) : Bool := !s && decide ((sqz b).length < b.length)
/-- A kind, a size, and what follows. -/
def layB (k n : Nat) (r : List UInt8) : List UInt8 := leBytes k 1 ++ (leBytes n 4 ++ r)
theorem layB_length (k n : Nat) (r : List UInt8) : (layB k n r).length = r.length + 5 := by
  simp [layB, leBytes_length]; omega
def wrB (b : List UInt8) (s : Bool) : List UInt8 := if wrkB b s = true then layB 1 b.length (sqz b) else layB 0 b.length b
def wrapR (b : List UInt8) (s : Bool) : List UInt8 × Int := if 16379 < b.length then ([], 5) else (wrB b s, 0)
/-- What five bytes tell. -/
def lookR (w : List UInt8) : Nat × Nat × Int :=
  if w.length < 5 then (0, 0, 3)
  else if 1 < leNum (w.take 1) ∨ 16379 < leNum ((w.drop 1).take 4) then (0, 0, 4)
  else (leNum (w.take 1), leNum ((w.drop 1).take 4), 0)
/-- What a stored text is. -/
def takR (l : List UInt8) (n : Nat) : List UInt8 × Int := if l.length < n then ([], 3) else if n < l.length then ([], 6) else (l, 0)
/-- What a squeezed text is. -/
def losR (l : List UInt8) (n : Nat) : List UInt8 × Int :=
  if (looseR l n).2 = 5 then ([], 4)
  else if (looseR l n).2 ≠ 0 then ([], (looseR l n).2)
  else if (looseR l n).1.length = n ∧ (sqz (looseR l n).1).length < (looseR l n).1.length ∧ sqz (looseR l n).1 = l then ((looseR l n).1, 0)
  else ([], 4)
/-- What is unwrapped. -/
def unwR (w : List UInt8) : List UInt8 × Int :=
  if (lookR w).2.2 ≠ 0 then ([], (lookR w).2.2)
  else if (lookR w).1 = 1 then losR (w.drop 5) (lookR w).2.1
  else takR (w.drop 5) (lookR w).2.1

theorem wrB_length (b : List UInt8) (s : Bool) : (wrB b s).length ≤ b.length + 5 ∧ (s = true → (wrB b s).length = b.length + 5) ∧ 5 ≤ (wrB b s).length := by
  unfold wrB wrkB
  cases s
  · by_cases h : (sqz b).length < b.length
    · rw [if_pos (by simpa using h), layB_length]
      exact ⟨by omega, ⟨fun e => by simp at e, by omega⟩⟩
    · rw [if_neg (by simpa using h), layB_length]
      exact ⟨by omega, ⟨fun e => by simp at e, by omega⟩⟩
  · simp [layB_length]
theorem layB_parts (k n : Nat) (r : List UInt8) (hk : k ≤ 1) (hn : n ≤ 16379) : lookR (layB k n r) = (k, n, 0) ∧ (layB k n r).drop 5 = r := by
  have l1 : (leBytes k 1).length = 1 := leBytes_length _ _
  have l4 : (leBytes n 4).length = 4 := leBytes_length _ _
  have e1 : (layB k n r).take 1 = leBytes k 1 := by unfold layB; rw [List.take_append_of_le_length (by omega), List.take_of_length_le (by omega)]
  have e2 : (layB k n r).drop 1 = leBytes n 4 ++ r := by unfold layB; rw [List.drop_append_of_le_length (by omega), List.drop_of_length_le (by omega), List.nil_append]
  have e3 : ((layB k n r).drop 1).take 4 = leBytes n 4 := by rw [e2, List.take_append_of_le_length (by omega), List.take_of_length_le (by omega)]
  have n1 : leNum (leBytes k 1) = k := by rw [leNum_leB]; omega
  have n4 : leNum (leBytes n 4) = n := by rw [leNum_leB]; omega
  refine ⟨?_, ?_⟩
  · unfold lookR
    rw [e1, e3, n1, n4, if_neg (by rw [layB_length]; omega), if_neg (by omega)]
  · rw [show 5 = 1 + 4 from rfl, ← List.drop_drop, e2, List.drop_append_of_le_length (by omega), List.drop_of_length_le (by omega), List.nil_append]
/-- What tells a kind and a size is laid of them. -/
theorem lookR_lay (w : List UInt8) (h : (lookR w).2.2 = 0) : 5 ≤ w.length ∧ (lookR w).1 ≤ 1 ∧ (lookR w).2.1 ≤ 16379 ∧ w = layB (lookR w).1 (lookR w).2.1 (w.drop 5) := by
  by_cases h5 : w.length < 5
  · rw [lookR, if_pos h5] at h; simp at h
  by_cases h2 : 1 < leNum (w.take 1) ∨ 16379 < leNum ((w.drop 1).take 4)
  · rw [lookR, if_neg h5, if_pos h2] at h; simp at h
  have e : lookR w = (leNum (w.take 1), leNum ((w.drop 1).take 4), 0) := by rw [lookR, if_neg h5, if_neg h2]
  rw [e]
  refine ⟨by omega, by simp only; omega, by simp only; omega, ?_⟩
  simp only
  unfold layB
  have q1 := leB_leNum (w.take 1)
  have q4 := leB_leNum ((w.drop 1).take 4)
  rw [show (w.take 1).length = 1 by rw [List.length_take]; omega] at q1
  rw [show ((w.drop 1).take 4).length = 4 by rw [List.length_take, List.length_drop]; omega] at q4
  rw [q1, q4, show w.drop 5 = (w.drop 1).drop 4 by rw [List.drop_drop], List.take_append_drop, List.take_append_drop]
theorem lookR_err (w : List UInt8) (h : (lookR w).2.2 ≠ 0) : (lookR w).1 = 0 ∧ (lookR w).2.1 = 0 := by
  unfold lookR at *
  split
  · exact ⟨rfl, rfl⟩
  · rename_i h5
    rw [if_neg h5] at h
    split
    · exact ⟨rfl, rfl⟩
    · rename_i h2
      rw [if_neg h2] at h
      simp at h
theorem loR_lenW (M f : Nat) (l t : List UInt8) : (loR M f l t).1.length ≤ M := by
  induction f generalizing l t with
  | zero => simp [loR]
  | succ f ih =>
    rw [loR]
    split
    · simp
    · rename_i h
      split
      · exact (seqS_ok (Classical.not_not.1 h)).2
      · exact ih _ _
theorem looseR_lenW (b : List UInt8) (n : Nat) : (looseR b n).1.length ≤ n := by
  unfold looseR
  split
  · simp
  · exact loR_lenW n _ b []
theorem losR_len (l : List UInt8) (n : Nat) : (losR l n).1.length ≤ n := by
  unfold losR
  have := looseR_lenW l n
  split
  · simp
  · split
    · simp
    · split
      · exact this
      · simp
theorem layB_inj {k k' n n' : Nat} {r r' : List UInt8} (hk : k ≤ 1) (hk' : k' ≤ 1) (hn : n ≤ 16379) (hn' : n' ≤ 16379) (h : layB k n r = layB k' n' r') : k = k' ∧ n = n' ∧ r = r' := by
  obtain ⟨a1, a2⟩ := layB_parts k n r hk hn
  obtain ⟨b1, b2⟩ := layB_parts k' n' r' hk' hn'
  rw [h] at a1 a2
  rw [a1] at b1
  rw [a2] at b2
  simp only [Prod.mk.injEq] at b1
  exact ⟨b1.1, b1.2.1, b2⟩
/-- The document's own test: wrapped again it is the same. -/
theorem again_iff (w X : List UInt8) (h : (lookR w).2.2 = 0) (h1 : (lookR w).1 = 1) (hX : X.length = (lookR w).2.1) : wrB X false = w ↔ ((sqz X).length < X.length ∧ sqz X = w.drop 5) := by
  obtain ⟨h5, hk, hn, hw⟩ := lookR_lay w h
  rw [h1] at hw
  unfold wrB wrkB
  by_cases hs : (sqz X).length < X.length
  · rw [if_pos (by simpa using hs)]
    constructor
    · intro e
      rw [hw] at e
      exact ⟨hs, (layB_inj (Nat.le_refl 1) (Nat.le_refl 1) (by omega) hn e).2.2⟩
    · rintro ⟨_, e⟩
      rw [e, hX]
      exact hw.symm
  · rw [if_neg (by simpa using hs)]
    constructor
    · intro e
      rw [hw] at e
      have := (layB_inj (Nat.zero_le 1) (Nat.le_refl 1) (by omega) hn e).1
      omega
    · rintro ⟨e, _⟩
      exact absurd e hs
/-- What is wrapped is unwrapped as it was. -/
theorem unwR_wrB (b : List UInt8) (s : Bool) (h : b.length ≤ 16379) : unwR (wrB b s) = (b, 0) ∧ (lookR (wrB b s)).2.1 = b.length ∧ (lookR (wrB b s)).2.2 = 0 := by
  unfold wrB
  by_cases hk : wrkB b s = true
  · rw [if_pos hk]
    obtain ⟨a1, a2⟩ := layB_parts 1 b.length (sqz b) (Nat.le_refl 1) h
    have hs : (sqz b).length < b.length := by
      unfold wrkB at hk
      simp only [Bool.and_eq_true, decide_eq_true_eq] at hk
      exact hk.2
    have hl := loose_sqz b (by omega) b.length (by omega)
    rw [if_neg (by omega)] at hl
    refine ⟨?_, by rw [a1], by rw [a1]⟩
    unfold unwR losR
    rw [a1, a2]
    simp only [hl]
    simp [hs]
  · rw [if_neg hk]
    obtain ⟨a1, a2⟩ := layB_parts 0 b.length b (Nat.zero_le 1) h
    refine ⟨?_, by rw [a1], by rw [a1]⟩
    unfold unwR takR
    rw [a1, a2]
    simp
/-- What is unwrapped is one of the two. -/
theorem unwR_one (w : List UInt8) (h : (unwR w).2 = 0) : (unwR w).1.length ≤ 16379 ∧ (w = wrB (unwR w).1 false ∨ w = wrB (unwR w).1 true) := by
  by_cases hl : (lookR w).2.2 = 0
  · obtain ⟨h5, hk, hn, hw⟩ := lookR_lay w hl
    by_cases h1 : (lookR w).1 = 1
    · have e : unwR w = losR (w.drop 5) (lookR w).2.1 := by unfold unwR; rw [if_neg (by simpa using hl), if_pos h1]
      rw [e] at h ⊢
      have hlen := losR_len (w.drop 5) (lookR w).2.1
      refine ⟨by omega, .inl ?_⟩
      by_cases c1 : (looseR (w.drop 5) (lookR w).2.1).2 = 5
      · rw [losR, if_pos c1] at h; simp at h
      by_cases c2 : (looseR (w.drop 5) (lookR w).2.1).2 = 0
      · by_cases c3 : (looseR (w.drop 5) (lookR w).2.1).1.length = (lookR w).2.1 ∧ (sqz (looseR (w.drop 5) (lookR w).2.1).1).length < (looseR (w.drop 5) (lookR w).2.1).1.length ∧ sqz (looseR (w.drop 5) (lookR w).2.1).1 = w.drop 5
        · have e2 : losR (w.drop 5) (lookR w).2.1 = ((looseR (w.drop 5) (lookR w).2.1).1, 0) := by rw [losR, if_neg c1, if_neg (by simpa using c2), if_pos c3]
          rw [e2]
          exact ((again_iff w _ hl h1 c3.1).2 c3.2).symm
        · rw [losR, if_neg c1, if_neg (by simpa using c2), if_neg c3] at h; simp at h
      · rw [losR, if_neg c1, if_pos c2] at h; exact absurd h c2
    · have e : unwR w = takR (w.drop 5) (lookR w).2.1 := by unfold unwR; rw [if_neg (by simpa using hl), if_neg h1]
      have h0 : (lookR w).1 = 0 := by omega
      rw [e] at h ⊢
      by_cases c1 : (w.drop 5).length < (lookR w).2.1
      · rw [takR, if_pos c1] at h; simp at h
      by_cases c2 : (lookR w).2.1 < (w.drop 5).length
      · rw [takR, if_neg c1, if_pos c2] at h; simp at h
      have e2 : takR (w.drop 5) (lookR w).2.1 = (w.drop 5, 0) := by rw [takR, if_neg c1, if_neg c2]
      rw [e2]
      refine ⟨by simp only; omega, .inr ?_⟩
      simp only [wrB, wrkB, Bool.not_true, Bool.false_and, Bool.false_eq_true, if_false]
      rw [show (w.drop 5).length = (lookR w).2.1 by omega, ← h0]
      exact hw
  · rw [unwR, if_pos hl] at h
    exact absurd h hl
theorem unwR_none (w : List UInt8) (h : (unwR w).2 ≠ 0) : (unwR w).1 = [] := by
  unfold unwR at *
  split
  · rfl
  · rename_i h1
    rw [if_neg h1] at h
    split
    · rename_i h2
      rw [if_pos h2] at h
      unfold losR at *
      split
      · rfl
      · rename_i h3
        rw [if_neg h3] at h
        split
        · rfl
        · rename_i h4
          rw [if_neg h4] at h
          split
          · rename_i h6
            rw [if_pos h6] at h
            simp at h
          · rfl
    · rename_i h2
      rw [if_neg h2] at h
      unfold takR at *
      split
      · rfl
      · rename_i h3
        rw [if_neg h3] at h
        split
        · rfl
        · rename_i h4
          rw [if_neg h4] at h
          simp at h
end Go.Proofs.Ytcbolakhdndffaa
