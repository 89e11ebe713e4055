/- Bytes alike; what bytes begin with. It proves no statement. -/
import Derived.Test.YtnhkabohccbglaaDoorFrRead
import Derived.Test.YtnhkabohccbglaaDoorConv
import Derived.Test.YtnhkabohccbglaaDoorBytesEq
import Derived.BigQuiet
import Derived.BigFrame
import Derived.Lib.SlBytesConst
namespace Go.Proofs.YtnhkabohccbglaaDoor
open Go.RowKit
set_option linter.unusedVariables false
set_option linter.unusedSimpArgs false

set_option maxRecDepth 100000 in
set_option maxHeartbeats 800000 in
theorem prefix_any (A A' : Option Addr) (n c c' : Nat) (l l' : List UInt8) (w : World) (B B' : Nat) (h : Reads w B A n l) (h' : Reads w B' A' 8 l') (hc : n ≤ c) (hm : c ≤ 9223372036854775807) :
    Calls Tryd.prog 39 #[.slice A n c, .slice A' 8 c'] w fun e w' => e = .returned (.bool (decide (8 ≤ n ∧ l.take 8 = l'))) ∧ w = w' := by
  by_cases h8 : 8 ≤ n
  · have r8 := h.take 8
    rw [Nat.min_eq_right h8] at r8
    have EQ := Lib.hid (bytesEq_any A A' 8 8 c c' (l.take 8) l' w B B' r8 h')
    rw [show decide (8 ≤ n ∧ l.take 8 = l') = decide (l.take 8 = l') by simp [h8]]
    generalize decide (l.take 8 = l') = q at EQ
    have EQ' := EQ
    have d1 : (8 : Int) ≤ (n : Int) := by omega
    have d2 : (8 : Int) ≤ (c : Int) := by omega
    have d3 : 8 ≤ c := by omega
    clear h h' r8 EQ
    go_enter Tryd.func39, Tryd.ntmps39
    go_wp2_with fail
    refine EQ'.out.mono ?_
    rintro e w1 ⟨rfl, rfl⟩
    go_wp2_with fail
    go_ret
    exact ⟨rfl, rfl⟩
  · rw [show decide (8 ≤ n ∧ l.take 8 = l') = false by simp [h8]]
    have d1 : (n : Int) < 8 := by omega
    have d2 : ¬ (8 : Int) ≤ (n : Int) := by omega
    clear h h'
    go_enter Tryd.func39, Tryd.ntmps39
    go_wp2_with fail
    go_ret
    exact ⟨rfl, rfl⟩
end Go.Proofs.YtnhkabohccbglaaDoor
