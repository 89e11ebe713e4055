/- Contract: what makes the closure. It proves no statement. -/
import Derived.Test.YtlkkkifilgnhmaaMdTake
namespace Go.Proofs.Ytlkkkifilgnhmaa
open Go.RowKit Go.Maps Go.WideMaps
set_option linter.unusedVariables false
set_option linter.unusedSimpArgs false

theorem wpList_box_one {P : Program} {ops : Array Oper} {rest : List Oper} {o : Oper} {a : Act} {w : World} {Q : Exit → Act → World → Prop} (hg : o.guard = none) (t : TypeId) (x : Operand) (ho : o.op = .box t x) (dst : Option Tmp) (hdst : o.dst = dst) (A : Option Addr) (n c : Nat)
    (hx : a.eval x = .slice A n c) (h : wpList P ops Q rest (a.put dst (.pointer (some ⟨w.heap.size, 0, none⟩))) (w.alloc (.cells #[.slice A n c] t))) : wpList P ops Q (o :: rest) a w := by
  refine Go.Great.wpList_runTo hg dst hdst _ _ ?_ h
  unfold execOp
  simp [ho, hx, Instr.box, Value.cells, newVar, newRow, Sem.run_bind]
theorem taker_any {w : World} (A : Option Addr) (n c : Nat) (B : Nat → Prop) (zs : List Int) (h : ReadsI w B A n zs) (hc : n ≤ c) (hm : c ≤ 9223372036854775807) :
    Calls Try.prog 32 #[.slice A n c] w fun e w' => ∃ gl, e = .returned (.func (.func 48) #[] #[.pointer (some ⟨gl, 0, none⟩)]) ∧ w.heap.size ≤ gl ∧ TK w' B gl zs ∧ Still w w' := by
  obtain ⟨w1, hw1⟩ : ∃ w1, w1 = w.alloc (.cells #[.slice A n c] 23) := ⟨_, rfl⟩
  obtain ⟨gl, hgl⟩ : ∃ gl, gl = w.heap.size := ⟨_, rfl⟩
  have S1 := Lib.hid (show Still w w1 by rw [hw1]; exact (Still.refl _).alloc (Nat.le_refl _) _)
  have T1 := Lib.hid (show TK w1 B gl zs from ⟨A, n, c, by rw [hw1, hgl]; exact Blk.new _ _ _, hc, hm, h.chg (Chg.of_still S1.out (fun _ => False)) (fun _ _ h => h)⟩)
  have HW := Lib.hid hw1
  have HG := Lib.hid hgl
  clear h hw1 hgl
  have hmf : ∀ (fn : Fn) (first cap : Array Value) (w : World), (Instr.makeFunc fn first cap).run Try.prog w = .ok (.func fn first cap) w := fun _ _ _ _ => rfl
  go_enter Try.func32, Try.ntmps32
  go_upto_region 1 with (guard_target =~ wpList _ _ _ (Oper.mk _ (Op.box _ _) _ _ _ _ :: _) _ _; go_must (refine wpList_box_one rfl 23 (.tmp 0) rfl (some 1) rfl A n c (by kernel_rfl) ?_))
  rw [← HW.out, ← HG.out]
  go_wp2_with fail
  go_ret
  exact ⟨gl, rfl, by rw [HG.out]; exact Nat.le_refl _, T1.out, S1.out⟩
end Go.Proofs.Ytlkkkifilgnhmaa
