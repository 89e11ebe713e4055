/- A key of a call lies in a box. It proves no statement. -/
import Derived.Test.YtlebancjgjcfjaaTbCmp
namespace Go.Proofs.Ytlebancjgjcfjaa
open Go.RowKit
set_option linter.unusedVariables false
set_option linter.unusedSimpArgs false

/-- A key of a call lies in a box. -/
structure KeyBox (w wA : World) (gk : Nat) (k : List UInt8) (kv : Array Value) : Prop where
  hwA : wA = w.alloc (.cells kv 43)
  hgk : gk = w.heap.size
  hkv : kv = (bytesV k).toArray
  still : Still w wA
  reads : ∀ W, Still wA W → W.rangeAt gk 0 (bytesV k)
  size : (Try.prog.info? 43).map (·.size) = some (bytesV k).length
theorem keyBox (w : World) (k : List UInt8) (hk : k.length = 32) : ∃ wA gk kv, KeyBox w wA gk k kv :=
  ⟨_, _, _, rfl, rfl, rfl, (Still.refl w).alloc (Nat.le_refl _) _, fun W s q u hq => (s.cell (p := ⟨w.heap.size, 0 + q, none⟩) (by simp)).trans (box_key w k q u hq), by rw [size32, bytesV_length, hk]⟩
end Go.Proofs.Ytlebancjgjcfjaa
