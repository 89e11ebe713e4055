/- Steps of a walk within a fence: loads and stores of whole arrays, boxes, literals. It proves no statement. -/
import Derived.Test.YtlebancjgjcfjaaTbMem
import Derived.Test.YtlebancjgjcfjaaAllocArr
import Derived.RangeFuncNested
import Derived.RangeFuncBound
import Derived.RangeFuncCalls
import Derived.RangeFuncLeaves
import Derived.RangeFuncBox
import Derived.Shelf.Abstract
import Derived.WalkKit
import Derived.OwnWalkIn
import Derived.TacticsInMore
import Derived.LoopNIn
import Derived.LoopIn
namespace Go.Proofs.Ytlebancjgjcfjaa
open Go Go.RowKit
set_option linter.unusedVariables false
set_option linter.unusedSimpArgs false
section
variable {F : Fence} {n : Nat} {P : Program} {ops : Array Oper} {rest : List Oper} {o : Oper} {a : Act} {w : World} {Q : Exit → Act → World → Prop}
theorem about_load {ty : TypeId} {x : Operand} (ho : o.op = .load ty x) : o.about P w a.eval = none := by unfold Oper.about; rw [ho]
theorem inList_value (hg : Region.wanted o (yielded ops a.tmps) = true) (hd : ∀ c, o.op ≠ .defer c) (hc : o.about P w a.eval = none) (v : Value) (w' : World) (hrun : (execOp a.eval o).run P w = .ok (.value v) w') (h : wpListIn F n P ops Q rest (a.put o.dst v) w') : wpListIn F n P ops Q (o :: rest) a w := by
  refine wpListIn_step fun K hK => ?_
  rw [if_pos hg]
  unfold Oper.wpIn
  refine ⟨(fun f hf => by rw [hc] at hf; cases hf), ?_⟩
  rw [Oper.semAt_eq _ _ _ hd, hrun, Oper.uponIn_value]
  exact hK _ _ h
theorem inList_skip (hg : Region.wanted o (yielded ops a.tmps) = true) (hd : ∀ c, o.op ≠ .defer c) (hc : o.about P w a.eval = none) (w' : World) (hrun : (execOp a.eval o).run P w = .ok .skip w') (h : wpListIn F n P ops Q rest (a.put o.dst undef) w') : wpListIn F n P ops Q (o :: rest) a w := by
  refine wpListIn_step fun K hK => ?_
  rw [if_pos hg]
  unfold Oper.wpIn
  refine ⟨(fun f hf => by rw [hc] at hf; cases hf), ?_⟩
  rw [Oper.semAt_eq _ _ _ hd, hrun, Oper.uponIn_skip]
  exact hK _ _ h
theorem inList_load_mid (hg : Region.wanted o (yielded ops a.tmps) = true) (ty : TypeId) (x : Operand) (ho : o.op = .load ty x)
    (b oo : Nat) (hx : a.eval x = .pointer (some ⟨b, oo, none⟩)) (cs : List Value) (d : TypeDesc) (hc : w.rangeAt b oo cs)
    (hu : P.underlying ty = some d) (hd : d.isRow = true) (hi : (P.info? ty).map (·.size) = some cs.length) (h : wpListIn F n P ops Q rest (a.put o.dst (.agg cs.toArray)) w) : wpListIn F n P ops Q (o :: rest) a w := by
  refine inList_value hg (fun c e => by rw [ho] at e; cases e) (by unfold Oper.about; rw [ho]) _ w ?_ h
  unfold execOp
  simp only [ho, hx, Instr.loadAt, Instr.sureAddr, Sem.run_bind, Sem.run_pure, Result.andThen_ok, run_loadVar_mid w b oo ty cs d hc hu hd hi]
theorem inList_alloc_arr (hg : Region.wanted o (yielded ops a.tmps) = true) (t : TypeId) (ho : o.op = .alloc t) (dst : Option Tmp) (hdst : o.dst = dst) (cs : Array Value) (k : Nat)
    (hi : (P.info? t).map (fun i => (i.zero, i.size)) = some (some (.agg cs), k)) (h : wpListIn F n P ops Q rest (a.put dst (.pointer (some ⟨w.heap.size, 0, none⟩))) (w.alloc (.cells cs t))) : wpListIn F n P ops Q (o :: rest) a w := by
  subst hdst
  exact inList_value hg (fun c e => by rw [ho] at e; cases e) (by unfold Oper.about; rw [ho]) _ _ (run_alloc_arr _ o t ho cs k hi w) h
theorem inList_build (hg : Region.wanted o (yielded ops a.tmps) = true) (t : TypeId) (parts : Array (Nat × Operand)) (ho : o.op = .build t parts) (cells : Array Value) (hf : P.built t (parts.map fun (i, x) => (i, a.eval x)).toList = some cells)
    (h : wpListIn F n P ops Q rest (a.put o.dst (.agg cells)) w) : wpListIn F n P ops Q (o :: rest) a w := by
  refine inList_value hg (fun c e => by rw [ho] at e; cases e) (by unfold Oper.about; rw [ho]) _ w ?_ h
  unfold execOp
  simp only [ho, Sem.run_bind, run_build (P := P) w t _ _ hf, Result.andThen_ok]
  rfl
theorem inList_store_mid (hg : Region.wanted o (yielded ops a.tmps) = true) (ty : TypeId) (x y : Operand) (ho : o.op = .store ty x y)
    (b oo : Nat) (cells : Array Value) (hx : a.eval x = .pointer (some ⟨b, oo, none⟩)) (hy : a.eval y = .agg cells)
    (ht : w.there b oo cells.size) (hi : (P.info? ty).map (·.size) = some cells.size) (h1 : cells.all (·.oneCell') = true)
    (h : wpListIn F n P ops Q rest (a.put o.dst undef) (w.setCells b oo cells.toList)) : wpListIn F n P ops Q (o :: rest) a w := by
  refine inList_skip hg (fun c e => by rw [ho] at e; cases e) (by unfold Oper.about; rw [ho]) _ ?_ h
  unfold execOp
  simp only [ho, hx, hy, Instr.storeAt, Instr.sureAddr, Sem.run_bind, Sem.run_pure, Result.andThen_ok, run_storeVar_mid w b oo ty cells ht hi h1]
theorem inList_store_row (hg : Region.wanted o (yielded ops a.tmps) = true) (ty : TypeId) (x y : Operand) (ho : o.op = .store ty x y)
    (g : Nat) (cells : Array Value) (hx : a.eval x = .pointer (some ⟨g, 0, none⟩)) (hy : a.eval y = .agg cells)
    (t : TypeId) (old : Array Value) (hgg : w.heap[g]? = some (.cells old t (0, 0))) (hi : (P.info? ty).map (·.size) = some cells.size)
    (hold : old.size = cells.size) (h1 : cells.all (·.oneCell') = true)
    (h : wpListIn F n P ops Q rest (a.put o.dst undef) (w.setRow g cells)) : wpListIn F n P ops Q (o :: rest) a w := by
  refine inList_skip hg (fun c e => by rw [ho] at e; cases e) (by unfold Oper.about; rw [ho]) (w.setRow g cells) ?_ h
  unfold execOp
  simp only [ho, hx, hy, Instr.storeAt, Instr.sureAddr, Sem.run_bind, Sem.run_pure, Result.andThen_ok]
  rw [run_storeVar_row w g t ty old cells hgg hi hold h1]
  rfl
end
/-- Whatever is cells, but what S names, lies as it lay. -/
structure Kc (S : Nat → Prop) (A B : World) : Prop where
  size : A.heap.size ≤ B.heap.size
  same : ∀ (k : Nat) (cs : Array Value) (t : TypeId) (fr : Nat × Nat), A.heap[k]? = some (.cells cs t fr) → ¬ S k → B.heap[k]? = some (.cells cs t fr)
theorem Kc.refl (S : Nat → Prop) (A : World) : Kc S A A := ⟨Nat.le_refl _, fun _ _ _ _ h _ => h⟩
theorem Kc.trans {S : Nat → Prop} {A B C : World} (h : Kc S A B) (k : Kc S B C) : Kc S A C := ⟨Nat.le_trans h.size k.size, fun q cs t fr hq hS => k.same q cs t fr (h.same q cs t fr hq hS) hS⟩
theorem Kc.of_still {S : Nat → Prop} {A B : World} (h : Still A B) : Kc S A B := ⟨h.size, fun q cs t fr hq _ => (h.block q (Array.getElem?_eq_some_iff.1 hq).1).trans hq⟩
theorem Kc.of_grown {S : Nat → Prop} {A B : World} {r : Option Nat} (h : A.grownBy B r) (hr : ∀ k, r = some k → S k) : Kc S A B := ⟨h.size, fun q cs t fr hq hS => (h.block q (Array.getElem?_eq_some_iff.1 hq).1 (fun e => hS (hr q e.symm))).trans hq⟩
theorem Kc.putObj {S : Nat → Prop} (W : World) (l : Nat) (o o' : Obj) (h : W.heap[l]? = some o) (ho : o.isCells = false) : Kc S W (W.putObj l o') := by
  have g := grownBy_putObj' W l o'
  refine ⟨g.size, fun q cs t fr hq _ => (g.block q (Array.getElem?_eq_some_iff.1 hq).1 (fun e => ?_)).trans hq⟩
  obtain rfl : q = l := Option.some.inj e
  rw [h] at hq
  cases hq
  cases ho
theorem Kc.blk {S : Nat → Prop} {A B : World} (h : Kc S A B) {g : Nat} {t : TypeId} {cs : Array Value} (hb : Blk A g t cs) (hS : ¬ S g) : Blk B g t cs := h.same g cs t (0, 0) hb hS
theorem keepsFrom_still {A B : World} (k : Nat) (h : Still A B) : KeepsFrom k A B := ⟨h.size, fun q o _ hq _ => (h.block q (Array.getElem?_eq_some_iff.1 hq).1).trans hq⟩
theorem grown_none {A B : World} (h : Still A B) : A.grownBy B none := ⟨h.os, h.tape, h.output, h.size, fun k hk _ => h.block k hk⟩
end Go.Proofs.Ytlebancjgjcfjaa
