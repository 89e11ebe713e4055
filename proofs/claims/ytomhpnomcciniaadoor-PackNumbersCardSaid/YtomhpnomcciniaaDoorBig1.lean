/- Contract: a number as bytes in the other order. It proves no statement. -/
import Derived.Test.YtomhpnomcciniaaDoorPut
import Derived.Test.YtomhpnomcciniaaDoorRev
namespace Go.Proofs.YtomhpnomcciniaaDoor
open Go.RowKit
set_option linter.unusedVariables false
set_option linter.unusedSimpArgs false

theorem reverse_nil (w : World) :
    Calls Tryd.prog 79 #[.slice none 0 0] w fun e w' => e = .returned (.tuple #[]) ∧ w = w' := by
  go_enter Tryd.func79, Tryd.ntmps79
  go_wp2_with fail
  refine wp_loop_rounds 1 ?_
  rw [rounds_succ]
  go_wp2_with fail
  go_end0
  exact ⟨rfl, rfl⟩

set_option maxHeartbeats 400000 in
theorem big_yes (x n : Nat) (w : World) (hx : x < 18446744073709551616) (h1 : 1 ≤ n) (h2 : n ≤ 8) :
    Calls Tryd.prog 63 #[.int .u64 x, .int .i64 n] w fun e w' =>
      e = .returned (.slice (some ⟨w.heap.size, 0, none⟩) n n) ∧ w'.ownsRow w.heap.size 5 1 (.slice (some ⟨w.heap.size, 0, none⟩) n n) n (bytesV (leBytes x n).reverse) ∧ Still w w' := by
  go_enter Tryd.func63, Tryd.ntmps63
  go_wp2_with fail
  refine (put_yes x n w hx h1 h2).mono ?_
  rintro e w1 ⟨rfl, hown, hst⟩
  go_wp2_with fail
  refine (reverse_own w.heap.size w.heap.size n n _ w1 hown (by omega)).mono ?_
  rintro e w2 ⟨rfl, hown2, hg⟩
  have hst2 : Still w w2 := hst.grown hg hst.size (fun k hk => by injection hk with hk; omega)
  clear hg hown
  go_wp2_with fail
  go_ret
  exact ⟨rfl, hown2, hst2⟩

theorem big_no (x : Nat) (n : Int) (w : World) (h : n < 1 ∨ 8 < n) :
    Calls Tryd.prog 63 #[.int .u64 x, .int .i64 n] w fun e w' => e = .returned (.slice none 0 0) ∧ w = w' := by
  go_enter Tryd.func63, Tryd.ntmps63
  go_wp2_with (first | (go_at_call 78; refine (put_no _ _ _ h).mono ?_; rintro e w' ⟨rfl, rfl⟩) | (go_at_call 79; refine (reverse_nil _).mono ?_; rintro e w' ⟨rfl, rfl⟩))
  go_ret
  exact ⟨rfl, rfl⟩

end Go.Proofs.YtomhpnomcciniaaDoor
