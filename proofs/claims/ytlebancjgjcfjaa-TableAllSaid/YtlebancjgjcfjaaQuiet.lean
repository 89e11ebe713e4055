/- A region that draws its order, whose operations read and whose callees turn nothing that was there, walked once, in the text's order; loads of whole arrays on the way. It proves no statement. -/
import Derived.Test.YtlebancjgjcfjaaBase
import Derived.Deep.QuietTactic
import Derived.Deep.MidRow
namespace Go.Proofs.Ytlebancjgjcfjaa
open Go Go.RowKit
set_option linter.unusedVariables false
set_option linter.unusedSimpArgs false

/-- A world in which nothing of w has turned. -/
structure StillBy (w : World) where
  W : World
  still : Still w W
instance (w : World) : Inhabited (StillBy w) := ⟨⟨w, Still.refl w⟩⟩
section
variable {P : Program} {ops : Array Oper} {C : World → Prop} {Q : Act → Prop} {a : Act} {o : Oper} {rest : List Oper}
theorem wp_region_quiet_still {id : Nat} {Q : Exit → Act → World → Prop} {w : World} {l : List Oper} (w0 : World) (h0 : Still w0 w) (hm : P.follows .mixedOrders = true) (hB : Region.lexB .any l.toArray = true)
    (h : wpQuiet P l.toArray (fun w' => ∃ p : StillBy w0, w' = p.W) (fun a' => ∀ w', (∃ p : StillBy w0, w' = p.W) → Q .normal a' w') l a) : (Code.region id l.toArray true).wp P Q a w :=
  wp_region_quiet (C := fun w' => ∃ p : StillBy w0, w' = p.W) hm hB ⟨⟨_, h0.drew⟩, rfl⟩ (by simpa using h)
/-- A callee's contract. -/
theorem Calls.stillby {w : World} {f : FuncId} {args : Array Value} {v : Value} (p : StillBy w) (h : Calls P f args p.W fun e w' => e = .returned v ∧ Still p.W w') : Calls P f args p.W fun e w'' => e = .returned v ∧ ∃ q : StillBy w, w'' = q.W :=
  h.mono fun _ w'' ⟨he, hs⟩ => ⟨he, ⟨w'', Still.trans p.still hs⟩, rfl⟩
/-- A load of a row from the middle of a block. -/
theorem quiet_load_mid (hw : Region.wanted o (yielded ops a.tmps) = true) (ty : TypeId) (x : Operand) (ho : o.op = .load ty x)
    (b oo : Nat) (hx : a.eval x = .pointer (some ⟨b, oo, none⟩)) (cs : List Value) (d : TypeDesc) (hc : ∀ w, C w → w.rangeAt b oo cs)
    (hu : P.underlying ty = some d) (hd : d.isRow = true) (hi : (P.info? ty).map (·.size) = some cs.length) (h : wpQuiet P ops C Q rest (a.put o.dst (.agg cs.toArray))) : wpQuiet P ops C Q (o :: rest) a := by
  refine wpQuiet_step fun K hK => ?_
  rw [if_pos hw]
  refine ⟨_, fun w hC => ?_, hK _ h⟩
  unfold Oper.quietAt execOp
  simp only [ho, hx, Instr.loadAt, Instr.sureAddr, Sem.run_bind, Sem.run_pure, Result.andThen_ok, run_loadVar_mid w b oo ty cs d (hc w hC) hu hd hi]
  exact ⟨rfl, rfl⟩
end
end Go.Proofs.Ytlebancjgjcfjaa
