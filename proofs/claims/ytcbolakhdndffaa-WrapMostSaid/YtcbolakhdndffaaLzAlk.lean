/- How many bytes two texts have alike: behind some of them. It proves no statement. -/
import Derived.Test.YtcbolakhdndffaaLzMath
namespace Go.Proofs.Ytcbolakhdndffaa
theorem alk_drop (a b : List UInt8) (k : Nat) (h : k ≤ alk a b) : alk a b = k + alk (a.drop k) (b.drop k) := by
  induction k generalizing a b with
  | zero => simp
  | succ k ih =>
    match a, b with
    | [], b => rw [alk_nil] at h; omega
    | x :: a, [] => rw [alk_nil2] at h; omega
    | x :: a, y :: b =>
      rw [alk] at h ⊢
      by_cases e : x = y
      · rw [if_pos e] at h ⊢
        rw [ih a b (by omega)]
        simp only [List.drop_succ_cons]
        omega
      · rw [if_neg e] at h
        omega

end Go.Proofs.Ytcbolakhdndffaa
