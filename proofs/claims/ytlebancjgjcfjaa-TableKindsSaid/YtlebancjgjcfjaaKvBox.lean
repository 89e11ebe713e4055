/- A key and a value of a call lie in boxes. It proves no statement. -/
import Derived.Test.YtlebancjgjcfjaaKeyBox
namespace Go.Proofs.Ytlebancjgjcfjaa
open Go.RowKit
set_option linter.unusedVariables false
set_option linter.unusedSimpArgs false

def intsV (v : List Int) : Array Value := (v.map (Value.int .i64)).toArray
/-- A key and a value of a call lie in boxes. -/
structure KvBox (w wB : World) (gk gv : Nat) (k : List UInt8) (v : List Int) (T : TypeId) (kv vv : Array Value) : Prop where
  eq : wB = (w.alloc (.cells kv 43)).alloc (.cells vv T)
  hgk : gk = w.heap.size
  hgv : gv = (w.alloc (.cells kv 43)).heap.size
  hkv : kv = (bytesV k).toArray
  hvv : vv = intsV v
  still : Still w wB
  reads : ∀ W, Still wB W → W.rangeAt gk 0 (bytesV k)
  vals : ∀ W, Still wB W → W.rangeAt gv 0 (v.map (Value.int .i64))
  size : (Try.prog.info? 43).map (·.size) = some (bytesV k).length
  lt : gk < wB.heap.size ∧ gv < wB.heap.size
theorem kvBox (w : World) (k : List UInt8) (v : List Int) (T : TypeId) (hk : k.length = 32) : ∃ wB gk gv kv vv, KvBox w wB gk gv k v T kv vv := by
  obtain ⟨wA, gk, kv, KA⟩ := keyBox w k hk
  have SB : Still wA (wA.alloc (.cells (intsV v) T)) := (Still.refl wA).alloc (Nat.le_refl _) _
  refine ⟨wA.alloc (.cells (intsV v) T), gk, wA.heap.size, kv, _, by rw [← KA.hwA], KA.hgk, by rw [← KA.hwA], KA.hkv, rfl, Still.trans KA.still SB, fun W s => KA.reads W (Still.trans SB s), fun W s q u hq => ?_, KA.size, ?_⟩
  · have e : (wA.alloc (.cells (intsV v) T)).cell? ⟨wA.heap.size, 0 + q, none⟩ = some u := by
      rw [Nat.zero_add, (Blk.new wA T (intsV v)).cell, intsV, List.getElem?_toArray, hq]
    exact (s.cell (p := ⟨wA.heap.size, 0 + q, none⟩) (by simp)).trans e
  · have h1 := KA.still.size
    have h2 : gk < wA.heap.size := by rw [KA.hwA, KA.hgk]; simp
    have h3 : (wA.alloc (.cells (intsV v) T)).heap.size = wA.heap.size + 1 := by simp
    omega
end Go.Proofs.Ytlebancjgjcfjaa
