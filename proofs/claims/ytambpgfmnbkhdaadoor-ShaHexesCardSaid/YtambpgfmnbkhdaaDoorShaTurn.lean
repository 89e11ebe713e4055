/- Contracts: words turned to the right, by the program and by the document's own answer. It proves no statement. -/
import Derived.Test.YtambpgfmnbkhdaaDoorShaFact
import Derived.Test.YtambpgfmnbkhdaaDoorTurn32
namespace Go.Proofs.YtambpgfmnbkhdaaDoor
open Go.RowKit
set_option linter.unusedVariables false
set_option linter.unusedSimpArgs false

theorem right_any (x n : Nat) (w : World) (hx : x < m32) (h1 : 1 ≤ n) (hn : n < 32) :
    Calls Tryd.prog 44 #[.int .u32 x, .int .i64 n] w fun e w' => e = .returned (.int .u32 (rr x n : Nat)) ∧ w' = w := by
  have h := turn32_any x (-(n : Int)) w hx
  have e : ((-(n : Int)) % 32).toNat = 32 - n := by omega
  rw [e] at h
  have e2 : rotl 32 x (32 - n) = rr x n := rfl
  rw [e2] at h
  have e3 : IntKind.i64.wrap (-(n : Int)) = -(n : Int) := by rw [IntKind.wrap_i64]; omega
  generalize rr x n = z at h ⊢
  have H := Lib.hid h
  clear h e e2
  go_enter Tryd.func44, Tryd.ntmps44
  go_wp2_with fail
  refine H.out.mono ?_
  rintro e w1 ⟨rfl, rfl⟩
  go_wp2_with fail
  go_ret
  exact ⟨rfl, rfl⟩
theorem rturned_any (x n : Nat) (w : World) (hx : x < m32) (h1 : 1 ≤ n) (hn : n < 32) :
    Calls Tryd.prog 38 #[.int .u32 x, .int .u64 n] w fun e w' => e = .returned (.int .u32 (rr x n : Nat)) ∧ w' = w := by
  have hr := rr_cast x n hx h1 hn
  have hs : IntKind.u64.wrap (32 - (n : Int)) = ((32 - n : Nat) : Int) := by rw [IntKind.wrap_u64]; omega
  have z1 : (0 : Int) ≤ (n : Int) := by omega
  generalize rr x n = z at hr ⊢
  go_enter Tryd.func38, Tryd.ntmps38
  go_wp2
  go_ret
  exact ⟨rfl, rfl⟩
end Go.Proofs.YtambpgfmnbkhdaaDoor
