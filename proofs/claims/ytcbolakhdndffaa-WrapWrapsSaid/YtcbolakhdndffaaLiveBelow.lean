/- A reader that Open made stays where nothing below its bound turns. It proves no statement. -/
import Derived.Test.YtcbolakhdndffaaLive
namespace Go.Proofs.Ytcbolakhdndffaa
open Go.RowKit
set_option linter.unusedVariables false
set_option linter.unusedSimpArgs false

section
variable {w w' w'' : World} {lo B g : Nat} {A : Option Addr} {n c : Nat} {l : List UInt8} {x : Int}
theorem grown_trans {r : Option Nat} (a : w.grownBy w' r) (b : w'.grownBy w'' r) : w.grownBy w'' r :=
  ⟨b.os.trans a.os, b.tape.trans a.tape, b.output.trans a.output, Nat.le_trans a.size b.size, fun k hk hr => (b.block k (Nat.lt_of_lt_of_le hk a.size) hr).trans (a.block k hk hr)⟩
theorem grown_of_still {r : Option Nat} (b : Still w w') : w.grownBy w' r := ⟨b.os, b.tape, b.output, b.size, fun k hk _ => b.block k hk⟩
theorem Live.below (h : Live w lo B g A n c l x) (s : Below B w w') : Live w' lo B g A n c l x := by
  refine ⟨(s.block g h.high).trans h.blk, h.low, h.high, h.reads.below s, fun hn => ?_, h.fit, h.cap, h.nil⟩
  obtain ⟨b, o, e, hb, hf⟩ := h.mine hn
  obtain ⟨b', o', e', hlt, _⟩ := h.reads.2 hn
  rw [e] at e'
  simp only [Option.some.injEq, Addr.mk.injEq, and_true] at e'
  obtain ⟨rfl, rfl⟩ := e'
  exact ⟨b, o, e, hb, fun i hi => (World.frozen?_of_block (w := w) (s.block b hlt)).trans (hf i hi)⟩
end
end Go.Proofs.Ytcbolakhdndffaa
