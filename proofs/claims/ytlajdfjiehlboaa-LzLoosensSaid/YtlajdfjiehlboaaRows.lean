/-
  No cell of these rows narrows 'for every input' (looked for: loops, veiled, ifaces, maps, wideKeys, modest, calm, conditions, laid).
  DERIVED. THE GIVEN ROWS OF THIS SEAT. 8 by the template 'for every input the law returns true; each argument reads behind the call as it read before'; 0 by the template 'total and deterministic' (their statements: YtlajdfjiehlboaaTotals.lean).
  GIVEN WITH THE SEED: the statements are not yours to turn. If you find one false, say at which input.
  Laid BY PROGRAM, IN A SANDBOX (cutbox-rows.mjs): the forced cells as the released guide's own fill.sh prints them over the translation 468a591025c47f9b… (all of the seat's roots in one cut). By AI agents, Wed Nov 11 2026. No macro, syntax, notation, axiom, sorry.
-/
import Derived.Test.YtlajdfjiehlboaaChecked
import GoSem.Claim
import GoSem.ClaimJoined
import GoSem.ClaimMapViews
import Derived.JoinedTies
import Derived.KernelRfl
namespace Go.Proofs.Ytlajdfjiehlboaa
/- THE CELL 'sum', in the pinned program and in every row, IS THE sha256 OF THE DUMP (.gsa) THAT YtlajdfjiehlboaaProg.lean LOADS. Nothing in Lean hashes anything: it is a label: what it is worth is what the hold of that sum in a sandbox is worth. -/
noncomputable def Try.pinned : Pinned := { name := "ytlajdfjiehlboaa", sum := "468a591025c47f9bfb20c2605cc6532d080979be08680d7bcfcdeec3d206d636", checked := Try.checked }
namespace Rows
def none {H : Type} : Left H := { results := [], args := [] }

/-- 'hoardlaw08.LzSqueezes': WHATEVER THE INPUT: true; the input reads as it did. -/
def lzSqueezesSpec : ChangeSpec := { name := "lzSqueezes", fn := fun _ => fun
  | [d] => { results := [.lit (.bool true)], args := [d] }
  | _ => none }
def lzSqueezesRow : OpenClaim := { program := "ytlajdfjiehlboaa", sum := "468a591025c47f9bfb20c2605cc6532d080979be08680d7bcfcdeec3d206d636", func := "hoard/hoardlaw08.LzSqueezes", spec := "lzSqueezes", apart := false }
def LzSqueezesSaid : Prop := lzSqueezesRow.holds Try.pinned (OpenSpec.ofChange lzSqueezesSpec)

/-- ITS FALSE NEIGHBOUR: 'it returns false'. Refute it at one input. -/
def lzSqueezesWrong : ChangeSpec := { name := "lzSqueezes", fn := fun _ => fun
  | [d] => { results := [.lit (.bool false)], args := [d] }
  | _ => none }
def LzSqueezesWrongFalsely : Prop := lzSqueezesRow.holds Try.pinned (OpenSpec.ofChange lzSqueezesWrong)

/-- 'hoardlaw08.LzLoosens': WHATEVER THE INPUT: true; the input reads as it did. -/
def lzLoosensSpec : ChangeSpec := { name := "lzLoosens", fn := fun _ => fun
  | [d1, d2] => { results := [.lit (.bool true)], args := [d1, d2] }
  | _ => none }
def lzLoosensRow : OpenClaim := { program := "ytlajdfjiehlboaa", sum := "468a591025c47f9bfb20c2605cc6532d080979be08680d7bcfcdeec3d206d636", func := "hoard/hoardlaw08.LzLoosens", spec := "lzLoosens", apart := false }
def LzLoosensSaid : Prop := lzLoosensRow.holds Try.pinned (OpenSpec.ofChange lzLoosensSpec)

/-- ITS FALSE NEIGHBOUR: 'it returns false'. Refute it at one input. -/
def lzLoosensWrong : ChangeSpec := { name := "lzLoosens", fn := fun _ => fun
  | [d1, d2] => { results := [.lit (.bool false)], args := [d1, d2] }
  | _ => none }
def LzLoosensWrongFalsely : Prop := lzLoosensRow.holds Try.pinned (OpenSpec.ofChange lzLoosensWrong)

/-- 'hoardlaw08.LzBack': WHATEVER THE INPUT: true; the input reads as it did. -/
def lzBackSpec : ChangeSpec := { name := "lzBack", fn := fun _ => fun
  | [d1, d2, d3] => { results := [.lit (.bool true)], args := [d1, d2, d3] }
  | _ => none }
def lzBackRow : OpenClaim := { program := "ytlajdfjiehlboaa", sum := "468a591025c47f9bfb20c2605cc6532d080979be08680d7bcfcdeec3d206d636", func := "hoard/hoardlaw08.LzBack", spec := "lzBack", apart := false }
def LzBackSaid : Prop := lzBackRow.holds Try.pinned (OpenSpec.ofChange lzBackSpec)

/-- ITS FALSE NEIGHBOUR: 'it returns false'. Refute it at one input. -/
def lzBackWrong : ChangeSpec := { name := "lzBack", fn := fun _ => fun
  | [d1, d2, d3] => { results := [.lit (.bool false)], args := [d1, d2, d3] }
  | _ => none }
def LzBackWrongFalsely : Prop := lzBackRow.holds Try.pinned (OpenSpec.ofChange lzBackWrong)

/-- 'hoardlaw08.LzBound': WHATEVER THE INPUT: true; the input reads as it did. -/
def lzBoundSpec : ChangeSpec := { name := "lzBound", fn := fun _ => fun
  | [d] => { results := [.lit (.bool true)], args := [d] }
  | _ => none }
def lzBoundRow : OpenClaim := { program := "ytlajdfjiehlboaa", sum := "468a591025c47f9bfb20c2605cc6532d080979be08680d7bcfcdeec3d206d636", func := "hoard/hoardlaw08.LzBound", spec := "lzBound", apart := false }
def LzBoundSaid : Prop := lzBoundRow.holds Try.pinned (OpenSpec.ofChange lzBoundSpec)

/-- ITS FALSE NEIGHBOUR: 'it returns false'. Refute it at one input. -/
def lzBoundWrong : ChangeSpec := { name := "lzBound", fn := fun _ => fun
  | [d] => { results := [.lit (.bool false)], args := [d] }
  | _ => none }
def LzBoundWrongFalsely : Prop := lzBoundRow.holds Try.pinned (OpenSpec.ofChange lzBoundWrong)

/-- 'hoardlaw08.LzRuns': WHATEVER THE INPUT: true; the input reads as it did. -/
def lzRunsSpec : ChangeSpec := { name := "lzRuns", fn := fun _ => fun
  | [d1, d2] => { results := [.lit (.bool true)], args := [d1, d2] }
  | _ => none }
def lzRunsRow : OpenClaim := { program := "ytlajdfjiehlboaa", sum := "468a591025c47f9bfb20c2605cc6532d080979be08680d7bcfcdeec3d206d636", func := "hoard/hoardlaw08.LzRuns", spec := "lzRuns", apart := false }
def LzRunsSaid : Prop := lzRunsRow.holds Try.pinned (OpenSpec.ofChange lzRunsSpec)

/-- ITS FALSE NEIGHBOUR: 'it returns false'. Refute it at one input. -/
def lzRunsWrong : ChangeSpec := { name := "lzRuns", fn := fun _ => fun
  | [d1, d2] => { results := [.lit (.bool false)], args := [d1, d2] }
  | _ => none }
def LzRunsWrongFalsely : Prop := lzRunsRow.holds Try.pinned (OpenSpec.ofChange lzRunsWrong)

/-- 'hoardlaw08.LzTail': WHATEVER THE INPUT: true; the input reads as it did. -/
def lzTailSpec : ChangeSpec := { name := "lzTail", fn := fun _ => fun
  | [d] => { results := [.lit (.bool true)], args := [d] }
  | _ => none }
def lzTailRow : OpenClaim := { program := "ytlajdfjiehlboaa", sum := "468a591025c47f9bfb20c2605cc6532d080979be08680d7bcfcdeec3d206d636", func := "hoard/hoardlaw08.LzTail", spec := "lzTail", apart := false }
def LzTailSaid : Prop := lzTailRow.holds Try.pinned (OpenSpec.ofChange lzTailSpec)

/-- ITS FALSE NEIGHBOUR: 'it returns false'. Refute it at one input. -/
def lzTailWrong : ChangeSpec := { name := "lzTail", fn := fun _ => fun
  | [d] => { results := [.lit (.bool false)], args := [d] }
  | _ => none }
def LzTailWrongFalsely : Prop := lzTailRow.holds Try.pinned (OpenSpec.ofChange lzTailWrong)

/-- 'hoardlaw08.LzCuts': WHATEVER THE INPUT: true; the input reads as it did. -/
def lzCutsSpec : ChangeSpec := { name := "lzCuts", fn := fun _ => fun
  | [d1, d2] => { results := [.lit (.bool true)], args := [d1, d2] }
  | _ => none }
def lzCutsRow : OpenClaim := { program := "ytlajdfjiehlboaa", sum := "468a591025c47f9bfb20c2605cc6532d080979be08680d7bcfcdeec3d206d636", func := "hoard/hoardlaw08.LzCuts", spec := "lzCuts", apart := false }
def LzCutsSaid : Prop := lzCutsRow.holds Try.pinned (OpenSpec.ofChange lzCutsSpec)

/-- ITS FALSE NEIGHBOUR: 'it returns false'. Refute it at one input. -/
def lzCutsWrong : ChangeSpec := { name := "lzCuts", fn := fun _ => fun
  | [d1, d2] => { results := [.lit (.bool false)], args := [d1, d2] }
  | _ => none }
def LzCutsWrongFalsely : Prop := lzCutsRow.holds Try.pinned (OpenSpec.ofChange lzCutsWrong)

/-- 'hoardlaw08.LzBig': WHATEVER THE INPUT: true; the input reads as it did. -/
def lzBigSpec : ChangeSpec := { name := "lzBig", fn := fun _ => fun
  | [d1, d2] => { results := [.lit (.bool true)], args := [d1, d2] }
  | _ => none }
def lzBigRow : OpenClaim := { program := "ytlajdfjiehlboaa", sum := "468a591025c47f9bfb20c2605cc6532d080979be08680d7bcfcdeec3d206d636", func := "hoard/hoardlaw08.LzBig", spec := "lzBig", apart := false }
def LzBigSaid : Prop := lzBigRow.holds Try.pinned (OpenSpec.ofChange lzBigSpec)

/-- ITS FALSE NEIGHBOUR: 'it returns false'. Refute it at one input. -/
def lzBigWrong : ChangeSpec := { name := "lzBig", fn := fun _ => fun
  | [d1, d2] => { results := [.lit (.bool false)], args := [d1, d2] }
  | _ => none }
def LzBigWrongFalsely : Prop := lzBigRow.holds Try.pinned (OpenSpec.ofChange lzBigWrong)

/- THE SECOND FORM. 'bulk': how many values and letters a reading holds, each counted each time it is reached (what is shared counts as often as it is met; a slice's spare places count too). A statement '..UptoSaid' is the law's where the arguments, and the package variables that the reading takes, are together of bulk at most 1048576: NARROWER than '..Said'. Prove '..Said' where nothing that the law and all that it calls make is longer than what came in: it says more and counts as full. Else prove '..UptoSaid'. A law counts once. -/
mutual
def uptoBulk {H : Type} : DataW H → Nat
  | .lit (.string bytes) => bytes.length + 1
  | .lit _ => 1
  | .nil => 1
  | .ptr d => uptoBulk d + 1
  | .slice elems spare => uptoBulkAll elems + uptoBulkAll spare + 1
  | .agg parts => uptoBulkAll parts + 1
  | .iface _ d => uptoBulk d + 1
  | .map entries => uptoBulkEntries entries + 1
  | .held _ => 1
def uptoBulkAll {H : Type} : List (DataW H) → Nat
  | [] => 0
  | d :: r => uptoBulk d + uptoBulkAll r
def uptoBulkEntries {H : Type} : List (Lit × DataW H) → Nat
  | [] => 0
  | x :: r => uptoBulkEntry x + uptoBulkEntries r
def uptoBulkEntry {H : Type} : Lit × DataW H → Nat
  | (.string bytes, d) => bytes.length + uptoBulk d + 1
  | (_, d) => uptoBulk d + 1
 end
def uptoSmall : (H : Type) → List (DataW H) → Bool := fun _ ds => decide (uptoBulkAll ds ≤ 1048576)
def OpenSpec.upto (s : _root_.Go.ChangeSpec) : _root_.Go.OpenSpec := { _root_.Go.OpenSpec.ofChange s with cond := some uptoSmall }

/-- 'hoardlaw08.LzSqueezes', WHERE WHAT IT READS IS OF BULK AT MOST 1048576: true; the input reads as it did. -/
def lzSqueezesUptoRow : OpenClaim := { program := "ytlajdfjiehlboaa", sum := "468a591025c47f9bfb20c2605cc6532d080979be08680d7bcfcdeec3d206d636", func := "hoard/hoardlaw08.LzSqueezes", spec := "lzSqueezes", apart := false, narrowed := true }
def LzSqueezesUptoSaid : Prop := lzSqueezesUptoRow.holds Try.pinned (OpenSpec.upto lzSqueezesSpec)

/-- 'hoardlaw08.LzLoosens', WHERE WHAT IT READS IS OF BULK AT MOST 1048576: true; the input reads as it did. -/
def lzLoosensUptoRow : OpenClaim := { program := "ytlajdfjiehlboaa", sum := "468a591025c47f9bfb20c2605cc6532d080979be08680d7bcfcdeec3d206d636", func := "hoard/hoardlaw08.LzLoosens", spec := "lzLoosens", apart := false, narrowed := true }
def LzLoosensUptoSaid : Prop := lzLoosensUptoRow.holds Try.pinned (OpenSpec.upto lzLoosensSpec)

/-- 'hoardlaw08.LzBack', WHERE WHAT IT READS IS OF BULK AT MOST 1048576: true; the input reads as it did. -/
def lzBackUptoRow : OpenClaim := { program := "ytlajdfjiehlboaa", sum := "468a591025c47f9bfb20c2605cc6532d080979be08680d7bcfcdeec3d206d636", func := "hoard/hoardlaw08.LzBack", spec := "lzBack", apart := false, narrowed := true }
def LzBackUptoSaid : Prop := lzBackUptoRow.holds Try.pinned (OpenSpec.upto lzBackSpec)

/-- 'hoardlaw08.LzBound', WHERE WHAT IT READS IS OF BULK AT MOST 1048576: true; the input reads as it did. -/
def lzBoundUptoRow : OpenClaim := { program := "ytlajdfjiehlboaa", sum := "468a591025c47f9bfb20c2605cc6532d080979be08680d7bcfcdeec3d206d636", func := "hoard/hoardlaw08.LzBound", spec := "lzBound", apart := false, narrowed := true }
def LzBoundUptoSaid : Prop := lzBoundUptoRow.holds Try.pinned (OpenSpec.upto lzBoundSpec)

/-- 'hoardlaw08.LzRuns', WHERE WHAT IT READS IS OF BULK AT MOST 1048576: true; the input reads as it did. -/
def lzRunsUptoRow : OpenClaim := { program := "ytlajdfjiehlboaa", sum := "468a591025c47f9bfb20c2605cc6532d080979be08680d7bcfcdeec3d206d636", func := "hoard/hoardlaw08.LzRuns", spec := "lzRuns", apart := false, narrowed := true }
def LzRunsUptoSaid : Prop := lzRunsUptoRow.holds Try.pinned (OpenSpec.upto lzRunsSpec)

/-- 'hoardlaw08.LzTail', WHERE WHAT IT READS IS OF BULK AT MOST 1048576: true; the input reads as it did. -/
def lzTailUptoRow : OpenClaim := { program := "ytlajdfjiehlboaa", sum := "468a591025c47f9bfb20c2605cc6532d080979be08680d7bcfcdeec3d206d636", func := "hoard/hoardlaw08.LzTail", spec := "lzTail", apart := false, narrowed := true }
def LzTailUptoSaid : Prop := lzTailUptoRow.holds Try.pinned (OpenSpec.upto lzTailSpec)

/-- 'hoardlaw08.LzCuts', WHERE WHAT IT READS IS OF BULK AT MOST 1048576: true; the input reads as it did. -/
def lzCutsUptoRow : OpenClaim := { program := "ytlajdfjiehlboaa", sum := "468a591025c47f9bfb20c2605cc6532d080979be08680d7bcfcdeec3d206d636", func := "hoard/hoardlaw08.LzCuts", spec := "lzCuts", apart := false, narrowed := true }
def LzCutsUptoSaid : Prop := lzCutsUptoRow.holds Try.pinned (OpenSpec.upto lzCutsSpec)

/-- 'hoardlaw08.LzBig', WHERE WHAT IT READS IS OF BULK AT MOST 1048576: true; the input reads as it did. -/
def lzBigUptoRow : OpenClaim := { program := "ytlajdfjiehlboaa", sum := "468a591025c47f9bfb20c2605cc6532d080979be08680d7bcfcdeec3d206d636", func := "hoard/hoardlaw08.LzBig", spec := "lzBig", apart := false, narrowed := true }
def LzBigUptoSaid : Prop := lzBigUptoRow.holds Try.pinned (OpenSpec.upto lzBigSpec)

end Rows
end Go.Proofs.Ytlajdfjiehlboaa
