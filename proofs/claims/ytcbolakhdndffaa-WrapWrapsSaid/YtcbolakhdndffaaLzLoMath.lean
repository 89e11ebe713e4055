/- What any bytes tell as a block, on lists of bytes. It proves no statement. -/
import Derived.Test.YtcbolakhdndffaaLzMath
namespace Go.Proofs.Ytcbolakhdndffaa
set_option linter.unusedVariables false

/-- A number that goes on: what it is in the end, and what is left. -/
def extR : Nat → List UInt8 → Option (Nat × List UInt8)
  | _, [] => none
  | n, k :: l => if k.toNat = 255 then extR (n + 255) l else some (n + k.toNat, l)
def numR (n : Nat) (l : List UInt8) : Option (Nat × List UInt8) := if n < 15 then some (n, l) else extR n l
theorem extR_len {n : Nat} {l : List UInt8} {a : Nat} {l' : List UInt8} (h : extR n l = some (a, l')) : l'.length < l.length ∧ a ≤ n + 255 * l.length ∧ n ≤ a := by
  induction l generalizing n with
  | nil => simp [extR] at h
  | cons k l ih =>
    unfold extR at h
    split at h
    · have := ih h
      simp only [List.length_cons]
      omega
    · simp only [Option.some.injEq, Prod.mk.injEq] at h
      obtain ⟨rfl, rfl⟩ := h
      have := k.toNat_lt
      simp only [List.length_cons]
      omega
theorem numR_len {n : Nat} {l : List UInt8} {a : Nat} {l' : List UInt8} (h : numR n l = some (a, l')) : l'.length ≤ l.length ∧ a ≤ n + 255 * l.length := by
  unfold numR at h
  split at h
  · simp only [Option.some.injEq, Prod.mk.injEq] at h
    obtain ⟨rfl, rfl⟩ := h
    omega
  · have := extR_len h
    omega
/-- Bytes told from d back, one by one. -/
def backL (d : Nat) : Nat → List UInt8 → List UInt8
  | 0, t => t
  | k + 1, t => backL d k (t ++ [t.getD (t.length - d) 0])
theorem backL_length (d k : Nat) (t : List UInt8) : (backL d k t).length = t.length + k := by
  induction k generalizing t with
  | zero => rfl
  | succ k ih => unfold backL; rw [ih]; simp; omega
/-- Literals: the error, what is left, what is told. -/
def litS (most n : Nat) (l t : List UInt8) : Int × List UInt8 × List UInt8 :=
  match numR n l with
  | none => (3, l, t)
  | some (a, l1) => if l1.length < a then (3, l, t) else if most < t.length + a then (5, l, t) else (0, l1.drop a, t ++ l1.take a)
/-- Bytes told from d back, once their number is known. -/
def backT (most d : Nat) (l t : List UInt8) : Option (Nat × List UInt8) → Int × List UInt8 × List UInt8
  | none => (3, l, t)
  | some (k, l3) => if most < t.length + (k + 4) then (5, l, t) else (0, l3, backL d (k + 4) t)
/-- Bytes told from further back. -/
def backS (most m : Nat) (l t : List UInt8) : Int × List UInt8 × List UInt8 :=
  if l.length < 2 then (3, l, t)
  else if leNum (l.take 2) = 0 ∨ t.length < leNum (l.take 2) then (4, l, t)
  else backT most (leNum (l.take 2)) l t (numR m (l.drop 2))
/-- A sequence: the error, whether it was the last, what is left, what is told. -/
def seqS (most : Nat) (l t : List UInt8) : Int × Bool × List UInt8 × List UInt8 :=
  match l with
  | [] => (3, false, [], t)
  | k :: l1 =>
    if (litS most (k.toNat / 16) l1 t).1 ≠ 0 then ((litS most (k.toNat / 16) l1 t).1, false, l, t)
    else if (litS most (k.toNat / 16) l1 t).2.1 = [] then (0, true, [], (litS most (k.toNat / 16) l1 t).2.2)
    else ((backS most (k.toNat % 16) (litS most (k.toNat / 16) l1 t).2.1 (litS most (k.toNat / 16) l1 t).2.2).1, false, (backS most (k.toNat % 16) (litS most (k.toNat / 16) l1 t).2.1 (litS most (k.toNat / 16) l1 t).2.2).2)
def loR (most : Nat) : Nat → List UInt8 → List UInt8 → List UInt8 × Int
  | 0, _, _ => ([], 3)
  | f + 1, l, t =>
    if (seqS most l t).1 ≠ 0 then ([], (seqS most l t).1)
    else if (seqS most l t).2.1 = true then ((seqS most l t).2.2.2, 0)
    else loR most f (seqS most l t).2.2.1 (seqS most l t).2.2.2
/-- What Loosen answers. -/
def looseR (b : List UInt8) (most : Int) : List UInt8 × Int := if most < 0 ∨ 65536 < most then ([], 2) else loR most.toNat (b.length + 1) b []
theorem litS_ok {most n : Nat} {l t : List UInt8} (h : (litS most n l t).1 = 0) : (litS most n l t).2.1.length ≤ l.length ∧ t.length ≤ (litS most n l t).2.2.length ∧ ((litS most n l t).2.2.length ≤ most) := by
  unfold litS at h ⊢
  split at h
  · cases h
  · rename_i a l1 e
    have := numR_len e
    split at h
    · cases h
    · split at h
      · cases h
      · rename_i h1 h2
        rw [if_neg h1, if_neg h2]
        simp only [List.length_drop, List.length_append, List.length_take]
        omega
theorem backS_ok {most n : Nat} {l t : List UInt8} (h : (backS most n l t).1 = 0) : (backS most n l t).2.1.length ≤ l.length ∧ (backS most n l t).2.2.length ≤ most := by
  unfold backS at h ⊢
  split at h
  · cases h
  · rename_i h0
    rw [if_neg h0]
    split at h
    · cases h
    · rename_i h1
      rw [if_neg h1]
      cases e : numR n (l.drop 2) with
      | none => rw [e] at h; cases h
      | some q =>
        obtain ⟨a, l1⟩ := q
        have := numR_len e
        rw [e] at h
        unfold backT at h ⊢
        simp only at h ⊢
        split at h
        · cases h
        · rename_i h2
          rw [if_neg h2]
          simp only [List.length_drop, backL_length] at *
          omega
theorem seqS_ok {most : Nat} {l t : List UInt8} (h : (seqS most l t).1 = 0) : ((seqS most l t).2.1 = false → (seqS most l t).2.2.1.length < l.length) ∧ (seqS most l t).2.2.2.length ≤ most := by
  unfold seqS at h ⊢
  cases l with
  | nil => cases h
  | cons k l1 =>
    simp only at h ⊢
    split at h
    · rename_i h0
      exact absurd h h0
    · rename_i h0
      have hl := litS_ok (Classical.not_not.1 h0)
      rw [if_neg h0]
      split at h
      · rename_i h1
        rw [if_pos h1]
        exact ⟨fun e => (by cases e), hl.2.2⟩
      · rename_i h1
        rw [if_neg h1]
        have := backS_ok h
        simp only [List.length_cons]
        exact ⟨fun _ => (by omega), this.2⟩
end Go.Proofs.Ytcbolakhdndffaa
