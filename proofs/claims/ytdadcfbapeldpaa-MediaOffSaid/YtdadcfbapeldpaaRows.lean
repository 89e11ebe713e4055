/-
  No cell of these rows narrows 'for every input' (looked for: loops, veiled, ifaces, maps, wideKeys, modest, calm, conditions, laid).
  DERIVED. THE GIVEN ROWS OF THIS SEAT. 3 by the template 'for every input the law returns true; each argument reads behind the call as it read before'; 0 by the template 'total and deterministic' (their statements: YtdadcfbapeldpaaTotals.lean).
  GIVEN WITH THE SEED: the statements are not yours to turn. If you find one false, say at which input.
  Laid BY PROGRAM, IN A SANDBOX (cutbox-rows.mjs): the forced cells as the released guide's own fill.sh prints them over the translation 3d8585b85ce8c572… (all of the seat's roots in one cut). By AI agents, Wed Nov 11 2026. No macro, syntax, notation, axiom, sorry.
-/
import Derived.Test.YtdadcfbapeldpaaChecked
import GoSem.Claim
import GoSem.ClaimJoined
import GoSem.ClaimMapViews
import Derived.JoinedTies
import Derived.KernelRfl
namespace Go.Proofs.Ytdadcfbapeldpaa
/- THE CELL 'sum', in the pinned program and in every row, IS THE sha256 OF THE DUMP (.gsa) THAT YtdadcfbapeldpaaProg.lean LOADS. Nothing in Lean hashes anything: it is a label: what it is worth is what the hold of that sum in a sandbox is worth. -/
noncomputable def Try.pinned : Pinned := { name := "ytdadcfbapeldpaa", sum := "3d8585b85ce8c572ba8425ffc8fd1460b94d938e7b4f35a754a06ddda8fa3b25", checked := Try.checked }
namespace Rows
def none {H : Type} : Left H := { results := [], args := [] }

/-- 'hoardlaw06.MediaFast': WHATEVER THE INPUT: true; the input reads as it did. -/
def mediaFastSpec : ChangeSpec := { name := "mediaFast", fn := fun _ => fun
  | [d1, d2, d3] => { results := [.lit (.bool true)], args := [d1, d2, d3] }
  | _ => none }
def mediaFastRow : OpenClaim := { program := "ytdadcfbapeldpaa", sum := "3d8585b85ce8c572ba8425ffc8fd1460b94d938e7b4f35a754a06ddda8fa3b25", func := "hoard/hoardlaw06.MediaFast", spec := "mediaFast", inPlace := ["maps.clone"], unfollowed := true, recurses := true, apart := false }
def MediaFastSaid : Prop := mediaFastRow.holds Try.pinned (OpenSpec.ofChange mediaFastSpec)

/-- ITS FALSE NEIGHBOUR: 'it returns false'. Refute it at one input. -/
def mediaFastWrong : ChangeSpec := { name := "mediaFast", fn := fun _ => fun
  | [d1, d2, d3] => { results := [.lit (.bool false)], args := [d1, d2, d3] }
  | _ => none }
def MediaFastWrongFalsely : Prop := mediaFastRow.holds Try.pinned (OpenSpec.ofChange mediaFastWrong)

/-- 'hoardlaw06.MediaNames': WHATEVER THE INPUT: true; the input reads as it did. -/
def mediaNamesSpec : ChangeSpec := { name := "mediaNames", fn := fun _ => fun
  | [d1, d2, d3] => { results := [.lit (.bool true)], args := [d1, d2, d3] }
  | _ => none }
def mediaNamesRow : OpenClaim := { program := "ytdadcfbapeldpaa", sum := "3d8585b85ce8c572ba8425ffc8fd1460b94d938e7b4f35a754a06ddda8fa3b25", func := "hoard/hoardlaw06.MediaNames", spec := "mediaNames", inPlace := ["maps.clone"], unfollowed := true, recurses := true, apart := false }
def MediaNamesSaid : Prop := mediaNamesRow.holds Try.pinned (OpenSpec.ofChange mediaNamesSpec)

/-- ITS FALSE NEIGHBOUR: 'it returns false'. Refute it at one input. -/
def mediaNamesWrong : ChangeSpec := { name := "mediaNames", fn := fun _ => fun
  | [d1, d2, d3] => { results := [.lit (.bool false)], args := [d1, d2, d3] }
  | _ => none }
def MediaNamesWrongFalsely : Prop := mediaNamesRow.holds Try.pinned (OpenSpec.ofChange mediaNamesWrong)

/-- 'hoardlaw06.MediaOff': WHATEVER THE INPUT: true; the input reads as it did. -/
def mediaOffSpec : ChangeSpec := { name := "mediaOff", fn := fun _ => fun
  | [d1, d2, d3] => { results := [.lit (.bool true)], args := [d1, d2, d3] }
  | _ => none }
def mediaOffRow : OpenClaim := { program := "ytdadcfbapeldpaa", sum := "3d8585b85ce8c572ba8425ffc8fd1460b94d938e7b4f35a754a06ddda8fa3b25", func := "hoard/hoardlaw06.MediaOff", spec := "mediaOff", inPlace := ["maps.clone"], unfollowed := true, recurses := true, apart := false }
def MediaOffSaid : Prop := mediaOffRow.holds Try.pinned (OpenSpec.ofChange mediaOffSpec)

/-- ITS FALSE NEIGHBOUR: 'it returns false'. Refute it at one input. -/
def mediaOffWrong : ChangeSpec := { name := "mediaOff", fn := fun _ => fun
  | [d1, d2, d3] => { results := [.lit (.bool false)], args := [d1, d2, d3] }
  | _ => none }
def MediaOffWrongFalsely : Prop := mediaOffRow.holds Try.pinned (OpenSpec.ofChange mediaOffWrong)

/- THE SECOND FORM. 'bulk': how many values and letters a reading holds, each counted each time it is reached (what is shared counts as often as it is met; a slice's spare places count too). A statement '..UptoSaid' is the law's where the arguments, and the package variables that the reading takes, are together of bulk at most 1048576: NARROWER than '..Said'. Prove '..Said' where nothing that the law and all that it calls make is longer than what came in: it says more and counts as full. Else prove '..UptoSaid'. A law counts once. -/
mutual
def uptoBulk {H : Type} : DataW H → Nat
  | .lit (.string bytes) => bytes.length + 1
  | .lit _ => 1
  | .nil => 1
  | .ptr d => uptoBulk d + 1
  | .slice elems spare => uptoBulkAll elems + uptoBulkAll spare + 1
  | .agg parts => uptoBulkAll parts + 1
  | .iface _ d => uptoBulk d + 1
  | .map entries => uptoBulkEntries entries + 1
  | .held _ => 1
def uptoBulkAll {H : Type} : List (DataW H) → Nat
  | [] => 0
  | d :: r => uptoBulk d + uptoBulkAll r
def uptoBulkEntries {H : Type} : List (Lit × DataW H) → Nat
  | [] => 0
  | x :: r => uptoBulkEntry x + uptoBulkEntries r
def uptoBulkEntry {H : Type} : Lit × DataW H → Nat
  | (.string bytes, d) => bytes.length + uptoBulk d + 1
  | (_, d) => uptoBulk d + 1
 end
def uptoSmall : (H : Type) → List (DataW H) → Bool := fun _ ds => decide (uptoBulkAll ds ≤ 1048576)
def OpenSpec.upto (s : _root_.Go.ChangeSpec) : _root_.Go.OpenSpec := { _root_.Go.OpenSpec.ofChange s with cond := some uptoSmall }

/-- 'hoardlaw06.MediaFast', WHERE WHAT IT READS IS OF BULK AT MOST 1048576: true; the input reads as it did. -/
def mediaFastUptoRow : OpenClaim := { program := "ytdadcfbapeldpaa", sum := "3d8585b85ce8c572ba8425ffc8fd1460b94d938e7b4f35a754a06ddda8fa3b25", func := "hoard/hoardlaw06.MediaFast", spec := "mediaFast", inPlace := ["maps.clone"], unfollowed := true, recurses := true, apart := false, narrowed := true }
def MediaFastUptoSaid : Prop := mediaFastUptoRow.holds Try.pinned (OpenSpec.upto mediaFastSpec)

/-- 'hoardlaw06.MediaNames', WHERE WHAT IT READS IS OF BULK AT MOST 1048576: true; the input reads as it did. -/
def mediaNamesUptoRow : OpenClaim := { program := "ytdadcfbapeldpaa", sum := "3d8585b85ce8c572ba8425ffc8fd1460b94d938e7b4f35a754a06ddda8fa3b25", func := "hoard/hoardlaw06.MediaNames", spec := "mediaNames", inPlace := ["maps.clone"], unfollowed := true, recurses := true, apart := false, narrowed := true }
def MediaNamesUptoSaid : Prop := mediaNamesUptoRow.holds Try.pinned (OpenSpec.upto mediaNamesSpec)

/-- 'hoardlaw06.MediaOff', WHERE WHAT IT READS IS OF BULK AT MOST 1048576: true; the input reads as it did. -/
def mediaOffUptoRow : OpenClaim := { program := "ytdadcfbapeldpaa", sum := "3d8585b85ce8c572ba8425ffc8fd1460b94d938e7b4f35a754a06ddda8fa3b25", func := "hoard/hoardlaw06.MediaOff", spec := "mediaOff", inPlace := ["maps.clone"], unfollowed := true, recurses := true, apart := false, narrowed := true }
def MediaOffUptoSaid : Prop := mediaOffUptoRow.holds Try.pinned (OpenSpec.upto mediaOffSpec)

end Rows
end Go.Proofs.Ytdadcfbapeldpaa
