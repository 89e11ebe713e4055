/- Contract: the end of a reader that Open made. It proves no statement. -/
import Derived.Test.YtcbolakhdndffaaLive
namespace Go.Proofs.Ytcbolakhdndffaa
open Go.RowKit
set_option linter.unusedVariables false
set_option linter.unusedSimpArgs false

/-- What End answers. -/
def endOf (n : Nat) (x : Int) : Int := if x = 0 then (if n = 0 then 0 else 6) else x
theorem end_live {w : World} {lo B g : Nat} {A : Option Addr} {n c : Nat} {l : List UInt8} {x : Int} (h : Live w lo B g A n c l x) :
    Calls Try.prog 37 #[.pointer (some ⟨g, 0, none⟩)] w fun e w' => e = .returned (.int .i64 (endOf n x)) ∧ w = w' := by
  have c0 : w.cell? ⟨g, 0, none⟩ = some (.slice A n c) := h.blk.cell 0
  by_cases hx : x = 0
  · subst hx
    by_cases hn : n = 0
    · subst hn
      have e : endOf 0 0 = 0 := rfl
      rw [e]
      go_enter Try.func37, Try.ntmps37
      go_wp2_with fail
      refine (err_live h).mono ?_
      rintro e w1 ⟨rfl, rfl⟩
      go_wp2_with fail
      go_ret
      exact ⟨rfl, rfl⟩
    · have e : endOf n 0 = 6 := by simp [endOf, hn]
      rw [e]
      have hp : (0 : Int) < n := by omega
      go_enter Try.func37, Try.ntmps37
      go_wp2_with fail
      refine (err_live h).mono ?_
      rintro e w1 ⟨rfl, rfl⟩
      go_wp2_with fail
      go_ret
      exact ⟨rfl, rfl⟩
  · have e : endOf n x = x := by simp [endOf, hx]
    rw [e]
    have hb : (x != 0) = true := by simpa using hx
    go_enter Try.func37, Try.ntmps37
    go_wp2_with fail
    refine (err_live h).mono ?_
    rintro e w1 ⟨rfl, rfl⟩
    go_wp2_with fail
    go_ret
    exact ⟨rfl, rfl⟩
end Go.Proofs.Ytcbolakhdndffaa
