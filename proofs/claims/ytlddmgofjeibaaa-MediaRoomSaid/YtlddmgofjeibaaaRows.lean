/-
  No cell of these rows narrows 'for every input' (looked for: loops, veiled, ifaces, maps, wideKeys, modest, calm, conditions, laid).
  DERIVED. THE GIVEN ROWS OF THIS SEAT. 6 by the template 'for every input the law returns true; each argument reads behind the call as it read before'; 0 by the template 'total and deterministic' (their statements: YtlddmgofjeibaaaTotals.lean).
  GIVEN WITH THE SEED: the statements are not yours to turn. If you find one false, say at which input.
  Laid BY PROGRAM, IN A SANDBOX (cutbox-rows.mjs): the forced cells as the released guide's own fill.sh prints them over the translation 524d977086c57704… (all of the seat's roots in one cut). By AI agents, Wed Nov 11 2026. No macro, syntax, notation, axiom, sorry.
-/
import Derived.Test.YtlddmgofjeibaaaChecked
import GoSem.Claim
import GoSem.ClaimJoined
import GoSem.ClaimMapViews
import Derived.JoinedTies
import Derived.KernelRfl
namespace Go.Proofs.Ytlddmgofjeibaaa
/- THE CELL 'sum', in the pinned program and in every row, IS THE sha256 OF THE DUMP (.gsa) THAT YtlddmgofjeibaaaProg.lean LOADS. Nothing in Lean hashes anything: it is a label: what it is worth is what the hold of that sum in a sandbox is worth. -/
noncomputable def Try.pinned : Pinned := { name := "ytlddmgofjeibaaa", sum := "524d977086c577045b26e52aa44decc81e60b93bb2515ce58c5acc818dc15809", checked := Try.checked }
namespace Rows
def none {H : Type} : Left H := { results := [], args := [] }

/-- 'hoardlaw06.MediaFast': WHATEVER THE INPUT: true; the input reads as it did. -/
def mediaFastSpec : ChangeSpec := { name := "mediaFast", fn := fun _ => fun
  | [d1, d2, d3] => { results := [.lit (.bool true)], args := [d1, d2, d3] }
  | _ => none }
def mediaFastRow : OpenClaim := { program := "ytlddmgofjeibaaa", sum := "524d977086c577045b26e52aa44decc81e60b93bb2515ce58c5acc818dc15809", func := "hoard/hoardlaw06.MediaFast", spec := "mediaFast", inPlace := ["maps.clone"], unfollowed := true, recurses := true, apart := false }
def MediaFastSaid : Prop := mediaFastRow.holds Try.pinned (OpenSpec.ofChange mediaFastSpec)

/-- ITS FALSE NEIGHBOUR: 'it returns false'. Refute it at one input. -/
def mediaFastWrong : ChangeSpec := { name := "mediaFast", fn := fun _ => fun
  | [d1, d2, d3] => { results := [.lit (.bool false)], args := [d1, d2, d3] }
  | _ => none }
def MediaFastWrongFalsely : Prop := mediaFastRow.holds Try.pinned (OpenSpec.ofChange mediaFastWrong)

/-- 'hoardlaw06.MediaNames': WHATEVER THE INPUT: true; the input reads as it did. -/
def mediaNamesSpec : ChangeSpec := { name := "mediaNames", fn := fun _ => fun
  | [d1, d2, d3] => { results := [.lit (.bool true)], args := [d1, d2, d3] }
  | _ => none }
def mediaNamesRow : OpenClaim := { program := "ytlddmgofjeibaaa", sum := "524d977086c577045b26e52aa44decc81e60b93bb2515ce58c5acc818dc15809", func := "hoard/hoardlaw06.MediaNames", spec := "mediaNames", inPlace := ["maps.clone"], unfollowed := true, recurses := true, apart := false }
def MediaNamesSaid : Prop := mediaNamesRow.holds Try.pinned (OpenSpec.ofChange mediaNamesSpec)

/-- ITS FALSE NEIGHBOUR: 'it returns false'. Refute it at one input. -/
def mediaNamesWrong : ChangeSpec := { name := "mediaNames", fn := fun _ => fun
  | [d1, d2, d3] => { results := [.lit (.bool false)], args := [d1, d2, d3] }
  | _ => none }
def MediaNamesWrongFalsely : Prop := mediaNamesRow.holds Try.pinned (OpenSpec.ofChange mediaNamesWrong)

/-- 'hoardlaw06.MediaTears': WHATEVER THE INPUT: true; the input reads as it did. -/
def mediaTearsSpec : ChangeSpec := { name := "mediaTears", fn := fun _ => fun
  | [d1, d2, d3] => { results := [.lit (.bool true)], args := [d1, d2, d3] }
  | _ => none }
def mediaTearsRow : OpenClaim := { program := "ytlddmgofjeibaaa", sum := "524d977086c577045b26e52aa44decc81e60b93bb2515ce58c5acc818dc15809", func := "hoard/hoardlaw06.MediaTears", spec := "mediaTears", inPlace := ["maps.clone"], unfollowed := true, recurses := true, apart := false }
def MediaTearsSaid : Prop := mediaTearsRow.holds Try.pinned (OpenSpec.ofChange mediaTearsSpec)

/-- ITS FALSE NEIGHBOUR: 'it returns false'. Refute it at one input. -/
def mediaTearsWrong : ChangeSpec := { name := "mediaTears", fn := fun _ => fun
  | [d1, d2, d3] => { results := [.lit (.bool false)], args := [d1, d2, d3] }
  | _ => none }
def MediaTearsWrongFalsely : Prop := mediaTearsRow.holds Try.pinned (OpenSpec.ofChange mediaTearsWrong)

/-- 'hoardlaw06.MediaOff': WHATEVER THE INPUT: true; the input reads as it did. -/
def mediaOffSpec : ChangeSpec := { name := "mediaOff", fn := fun _ => fun
  | [d1, d2, d3] => { results := [.lit (.bool true)], args := [d1, d2, d3] }
  | _ => none }
def mediaOffRow : OpenClaim := { program := "ytlddmgofjeibaaa", sum := "524d977086c577045b26e52aa44decc81e60b93bb2515ce58c5acc818dc15809", func := "hoard/hoardlaw06.MediaOff", spec := "mediaOff", inPlace := ["maps.clone"], unfollowed := true, recurses := true, apart := false }
def MediaOffSaid : Prop := mediaOffRow.holds Try.pinned (OpenSpec.ofChange mediaOffSpec)

/-- ITS FALSE NEIGHBOUR: 'it returns false'. Refute it at one input. -/
def mediaOffWrong : ChangeSpec := { name := "mediaOff", fn := fun _ => fun
  | [d1, d2, d3] => { results := [.lit (.bool false)], args := [d1, d2, d3] }
  | _ => none }
def MediaOffWrongFalsely : Prop := mediaOffRow.holds Try.pinned (OpenSpec.ofChange mediaOffWrong)

/-- 'hoardlaw06.MediaRoom': WHATEVER THE INPUT: true; the input reads as it did. -/
def mediaRoomSpec : ChangeSpec := { name := "mediaRoom", fn := fun _ => fun
  | [d1, d2] => { results := [.lit (.bool true)], args := [d1, d2] }
  | _ => none }
def mediaRoomRow : OpenClaim := { program := "ytlddmgofjeibaaa", sum := "524d977086c577045b26e52aa44decc81e60b93bb2515ce58c5acc818dc15809", func := "hoard/hoardlaw06.MediaRoom", spec := "mediaRoom", inPlace := ["maps.clone"], unfollowed := true, recurses := true, apart := false }
def MediaRoomSaid : Prop := mediaRoomRow.holds Try.pinned (OpenSpec.ofChange mediaRoomSpec)

/-- ITS FALSE NEIGHBOUR: 'it returns false'. Refute it at one input. -/
def mediaRoomWrong : ChangeSpec := { name := "mediaRoom", fn := fun _ => fun
  | [d1, d2] => { results := [.lit (.bool false)], args := [d1, d2] }
  | _ => none }
def MediaRoomWrongFalsely : Prop := mediaRoomRow.holds Try.pinned (OpenSpec.ofChange mediaRoomWrong)

/-- 'hoardlaw06.MediaNobody': WHATEVER THE INPUT: true; the input reads as it did. -/
def mediaNobodySpec : ChangeSpec := { name := "mediaNobody", fn := fun _ => fun
  | [d] => { results := [.lit (.bool true)], args := [d] }
  | _ => none }
def mediaNobodyRow : OpenClaim := { program := "ytlddmgofjeibaaa", sum := "524d977086c577045b26e52aa44decc81e60b93bb2515ce58c5acc818dc15809", func := "hoard/hoardlaw06.MediaNobody", spec := "mediaNobody", inPlace := ["maps.clone"], unfollowed := true, recurses := true, apart := false }
def MediaNobodySaid : Prop := mediaNobodyRow.holds Try.pinned (OpenSpec.ofChange mediaNobodySpec)

/-- ITS FALSE NEIGHBOUR: 'it returns false'. Refute it at one input. -/
def mediaNobodyWrong : ChangeSpec := { name := "mediaNobody", fn := fun _ => fun
  | [d] => { results := [.lit (.bool false)], args := [d] }
  | _ => none }
def MediaNobodyWrongFalsely : Prop := mediaNobodyRow.holds Try.pinned (OpenSpec.ofChange mediaNobodyWrong)

/- THE SECOND FORM. 'bulk': how many values and letters a reading holds, each counted each time it is reached (what is shared counts as often as it is met; a slice's spare places count too). A statement '..UptoSaid' is the law's where the arguments, and the package variables that the reading takes, are together of bulk at most 1048576: NARROWER than '..Said'. Prove '..Said' where nothing that the law and all that it calls make is longer than what came in: it says more and counts as full. Else prove '..UptoSaid'. A law counts once. -/
mutual
def uptoBulk {H : Type} : DataW H → Nat
  | .lit (.string bytes) => bytes.length + 1
  | .lit _ => 1
  | .nil => 1
  | .ptr d => uptoBulk d + 1
  | .slice elems spare => uptoBulkAll elems + uptoBulkAll spare + 1
  | .agg parts => uptoBulkAll parts + 1
  | .iface _ d => uptoBulk d + 1
  | .map entries => uptoBulkEntries entries + 1
  | .held _ => 1
def uptoBulkAll {H : Type} : List (DataW H) → Nat
  | [] => 0
  | d :: r => uptoBulk d + uptoBulkAll r
def uptoBulkEntries {H : Type} : List (Lit × DataW H) → Nat
  | [] => 0
  | x :: r => uptoBulkEntry x + uptoBulkEntries r
def uptoBulkEntry {H : Type} : Lit × DataW H → Nat
  | (.string bytes, d) => bytes.length + uptoBulk d + 1
  | (_, d) => uptoBulk d + 1
 end
def uptoSmall : (H : Type) → List (DataW H) → Bool := fun _ ds => decide (uptoBulkAll ds ≤ 1048576)
def OpenSpec.upto (s : _root_.Go.ChangeSpec) : _root_.Go.OpenSpec := { _root_.Go.OpenSpec.ofChange s with cond := some uptoSmall }

/-- 'hoardlaw06.MediaFast', WHERE WHAT IT READS IS OF BULK AT MOST 1048576: true; the input reads as it did. -/
def mediaFastUptoRow : OpenClaim := { program := "ytlddmgofjeibaaa", sum := "524d977086c577045b26e52aa44decc81e60b93bb2515ce58c5acc818dc15809", func := "hoard/hoardlaw06.MediaFast", spec := "mediaFast", inPlace := ["maps.clone"], unfollowed := true, recurses := true, apart := false, narrowed := true }
def MediaFastUptoSaid : Prop := mediaFastUptoRow.holds Try.pinned (OpenSpec.upto mediaFastSpec)

/-- 'hoardlaw06.MediaNames', WHERE WHAT IT READS IS OF BULK AT MOST 1048576: true; the input reads as it did. -/
def mediaNamesUptoRow : OpenClaim := { program := "ytlddmgofjeibaaa", sum := "524d977086c577045b26e52aa44decc81e60b93bb2515ce58c5acc818dc15809", func := "hoard/hoardlaw06.MediaNames", spec := "mediaNames", inPlace := ["maps.clone"], unfollowed := true, recurses := true, apart := false, narrowed := true }
def MediaNamesUptoSaid : Prop := mediaNamesUptoRow.holds Try.pinned (OpenSpec.upto mediaNamesSpec)

/-- 'hoardlaw06.MediaTears', WHERE WHAT IT READS IS OF BULK AT MOST 1048576: true; the input reads as it did. -/
def mediaTearsUptoRow : OpenClaim := { program := "ytlddmgofjeibaaa", sum := "524d977086c577045b26e52aa44decc81e60b93bb2515ce58c5acc818dc15809", func := "hoard/hoardlaw06.MediaTears", spec := "mediaTears", inPlace := ["maps.clone"], unfollowed := true, recurses := true, apart := false, narrowed := true }
def MediaTearsUptoSaid : Prop := mediaTearsUptoRow.holds Try.pinned (OpenSpec.upto mediaTearsSpec)

/-- 'hoardlaw06.MediaOff', WHERE WHAT IT READS IS OF BULK AT MOST 1048576: true; the input reads as it did. -/
def mediaOffUptoRow : OpenClaim := { program := "ytlddmgofjeibaaa", sum := "524d977086c577045b26e52aa44decc81e60b93bb2515ce58c5acc818dc15809", func := "hoard/hoardlaw06.MediaOff", spec := "mediaOff", inPlace := ["maps.clone"], unfollowed := true, recurses := true, apart := false, narrowed := true }
def MediaOffUptoSaid : Prop := mediaOffUptoRow.holds Try.pinned (OpenSpec.upto mediaOffSpec)

/-- 'hoardlaw06.MediaRoom', WHERE WHAT IT READS IS OF BULK AT MOST 1048576: true; the input reads as it did. -/
def mediaRoomUptoRow : OpenClaim := { program := "ytlddmgofjeibaaa", sum := "524d977086c577045b26e52aa44decc81e60b93bb2515ce58c5acc818dc15809", func := "hoard/hoardlaw06.MediaRoom", spec := "mediaRoom", inPlace := ["maps.clone"], unfollowed := true, recurses := true, apart := false, narrowed := true }
def MediaRoomUptoSaid : Prop := mediaRoomUptoRow.holds Try.pinned (OpenSpec.upto mediaRoomSpec)

/-- 'hoardlaw06.MediaNobody', WHERE WHAT IT READS IS OF BULK AT MOST 1048576: true; the input reads as it did. -/
def mediaNobodyUptoRow : OpenClaim := { program := "ytlddmgofjeibaaa", sum := "524d977086c577045b26e52aa44decc81e60b93bb2515ce58c5acc818dc15809", func := "hoard/hoardlaw06.MediaNobody", spec := "mediaNobody", inPlace := ["maps.clone"], unfollowed := true, recurses := true, apart := false, narrowed := true }
def MediaNobodyUptoSaid : Prop := mediaNobodyUptoRow.holds Try.pinned (OpenSpec.upto mediaNobodySpec)

end Rows
end Go.Proofs.Ytlddmgofjeibaaa
