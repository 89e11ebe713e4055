/- Contract: slices.Clone of bytes. It proves no statement. -/
import Derived.Test.YtjihnagoebhinaaCut
namespace Go.Proofs.Ytjihnagoebhinaa
open Go.RowKit
set_option linter.unusedVariables false
set_option linter.unusedSimpArgs false

set_option maxHeartbeats 400000 in
theorem clone_any (A : Option Addr) (n c : Nat) (l : List UInt8) (w : World) (B : Nat) (h : Reads w B A n l) (hB : B ≤ w.heap.size) (hn : n ≤ 70368744177664) (hA : A = none → n = 0 ∧ c = 0) :
    Calls Try.prog 26 #[.slice A n c] w fun e w' => (∃ v, e = .returned v ∧ w'.ownsRow w.heap.size 5 1 v n (bytesV l)) ∧ Still w w' := by
  rcases A with _ | ad
  · obtain ⟨rfl, rfl⟩ := hA rfl
    have hl : l = [] := List.eq_nil_of_length_eq_zero h.1
    subst hl
    have hk : ∀ w : World, (binOp .eql 25 (.slice none 0 0) (.slice none 0 0)).run Try.prog w = .ok (.bool true) w := fun w => Lib.run_eql_slice_nil w _ _ none 0 0 0 0 Try.underlying25
    go_enter Try.func26, Try.ntmps26
    go_wp2
    go_ret
    exact ⟨⟨_, rfl, World.ownsRow_nil _ _ _ _⟩, Below.refl _ _⟩
  · have r1 : Reads (w.alloc (.cells #[] 5)) B (some ad) n l := h.keep fun p hp => World.cell?_alloc_lt w _ p (by omega)
    have o1 : (w.alloc (.cells #[] 5)).ownsRow w.heap.size 5 1 (.slice (some ⟨w.heap.size, 0, none⟩) 0 0) 0 (bytesV []) := World.ownsRow_made w #[] 0 (Nat.le_refl _) (by unfold maxLen; omega) rfl
    have s1 : Still w (w.alloc (.cells #[] 5)) := (Below.refl _ _).alloc (Nat.le_refl _) _
    have hk : ∀ w : World, (binOp .eql 25 (.slice (some ad) n c) (.slice none 0 0)).run Try.prog w = .ok (.bool false) w := fun w => Lib.run_eql_slice_nil w _ _ (some ad) n c 0 0 Try.underlying25
    go_enter Try.func26, Try.ntmps26
    go_wp2_with (at_builtin; go_must (refine wpList_adds _ rfl _ _ rfl w.heap.size _ 0 [] rfl o1 _ n c B l rfl r1 (fun e => by cases e) ?c1 ?c2 ?_))
    case c1 => omega
    case c2 => simp
    intro v' w' hown hg _
    have hst : Still w w' := s1.grown hg (by simp) (fun k hk => by simp [Value.ownBlock] at hk; omega)
    have hown' : w'.ownsRow w.heap.size 5 1 v' n (bytesV l) := by simpa using hown
    clear hg hown
    go_wp2_with fail
    go_ret
    exact ⟨⟨_, rfl, hown'⟩, hst⟩
end Go.Proofs.Ytjihnagoebhinaa
