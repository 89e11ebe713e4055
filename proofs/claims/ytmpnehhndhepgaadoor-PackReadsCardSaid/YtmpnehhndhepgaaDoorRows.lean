/-
  NARROWER THAN 'FOR EVERY INPUT', by the rows' own cells (each row's printed sentence says how): PackWrites: loops, laid · PackReads: laid · PackBack: loops, laid · PackOne: loops, laid · PackCuts: loops, laid · PackDeep: laid.
  DERIVED. THE GIVEN ROWS OF THIS SEAT. 6 by the template 'for every input the law returns true; each argument reads behind the call as it read before'; 0 by the template 'total and deterministic' (their statements: YtmpnehhndhepgaaDoorTotals.lean).
  GIVEN WITH THE SEED: the statements are not yours to turn. If you find one false, say at which input.
  Laid BY PROGRAM, IN A SANDBOX (cutbox-rows.mjs): the forced cells as the released guide's own fill.sh prints them over the translation e5bc701af95279ba… (all of the seat's roots in one cut). By AI agents, Wed Nov 11 2026. No macro, syntax, notation, axiom, sorry.
-/
import Derived.Test.YtmpnehhndhepgaaDoorChecked
import GoSem.Claim
import GoSem.ClaimJoined
import GoSem.ClaimMapViews
import Derived.JoinedTies
import Derived.KernelRfl
namespace Go.Proofs.YtmpnehhndhepgaaDoor
/- THE CELL 'sum', in the pinned program and in every row, IS THE sha256 OF THE DUMP (.gsa) THAT YtmpnehhndhepgaaDoorProg.lean LOADS. Nothing in Lean hashes anything: it is a label: what it is worth is what the hold of that sum in a sandbox is worth. -/
noncomputable def Tryd.pinned : Pinned := { name := "ytmpnehhndhepgaadoor", sum := "e5bc701af95279ba380a322e0c51c6a4f6c7c044404393ba99c2e1c7c9a6e47d", checked := Tryd.checked }
namespace Rows
def none {H : Type} : Left H := { results := [], args := [] }

/- WHAT THE LISTED PACKAGE-LEVEL VARIABLES READ AS WHEN THE CALL BEGINS. Each datum BY PROGRAM (the guide's laid-datum.mjs) off the statement by which the dump's own 'gosem.cut.vars' lays the variable. In a bare row this is a premise. The card (YtmpnehhndhepgaaDoorCards.lean) ties it to the program's text. -/
def laid_hoard_pack_sizesOf {H : Type} : DataW H := .agg [.agg [.lit (.int .u8 0), .lit (.int .u8 0), .lit (.int .u8 0), .lit (.int .u8 0)], .agg [.lit (.int .u8 0), .lit (.int .u8 0), .lit (.int .u8 0), .lit (.int .u8 0)], .agg [.lit (.int .u8 0), .lit (.int .u8 0), .lit (.int .u8 0), .lit (.int .u8 0)], .agg [.lit (.int .u8 0), .lit (.int .u8 0), .lit (.int .u8 0), .lit (.int .u8 0)], .agg [.lit (.int .u8 0), .lit (.int .u8 0), .lit (.int .u8 196), .lit (.int .u8 197)], .agg [.lit (.int .u8 160), .lit (.int .u8 32), .lit (.int .u8 217), .lit (.int .u8 218)], .agg [.lit (.int .u8 144), .lit (.int .u8 16), .lit (.int .u8 0), .lit (.int .u8 220)], .agg [.lit (.int .u8 128), .lit (.int .u8 16), .lit (.int .u8 0), .lit (.int .u8 222)]]

/-- 'hoardlaw05.PackWrites': WHATEVER THE INPUT: true; the input reads as it did. -/
def packWritesSpec : ChangeSpec := { name := "packWrites", fn := fun _ => fun
  | [d] => { results := [.lit (.bool true)], args := [d] }
  | _ => none }
def packWritesRow : OpenClaim := { program := "ytmpnehhndhepgaadoor", sum := "e5bc701af95279ba380a322e0c51c6a4f6c7c044404393ba99c2e1c7c9a6e47d", func := "hoard/hoardlaw05.PackWrites", spec := "packWrites", unfollowed := true, recurses := true, named := ["hoard/pack.sizesOf"], loops := true, apart := false, laid := [("hoard/pack.sizesOf", laid_hoard_pack_sizesOf)] }
def PackWritesSaid : Prop := packWritesRow.holds Tryd.pinned (OpenSpec.ofChange packWritesSpec)

/-- ITS FALSE NEIGHBOUR: 'it returns false'. Refute it at one input. -/
def packWritesWrong : ChangeSpec := { name := "packWrites", fn := fun _ => fun
  | [d] => { results := [.lit (.bool false)], args := [d] }
  | _ => none }
def PackWritesWrongFalsely : Prop := packWritesRow.holds Tryd.pinned (OpenSpec.ofChange packWritesWrong)

/-- 'hoardlaw05.PackReads': WHATEVER THE INPUT: true; the input reads as it did. -/
def packReadsSpec : ChangeSpec := { name := "packReads", fn := fun _ => fun
  | [d] => { results := [.lit (.bool true)], args := [d] }
  | _ => none }
def packReadsRow : OpenClaim := { program := "ytmpnehhndhepgaadoor", sum := "e5bc701af95279ba380a322e0c51c6a4f6c7c044404393ba99c2e1c7c9a6e47d", func := "hoard/hoardlaw05.PackReads", spec := "packReads", unfollowed := true, recurses := true, named := ["hoard/pack.sizesOf"], apart := false, laid := [("hoard/pack.sizesOf", laid_hoard_pack_sizesOf)] }
def PackReadsSaid : Prop := packReadsRow.holds Tryd.pinned (OpenSpec.ofChange packReadsSpec)

/-- ITS FALSE NEIGHBOUR: 'it returns false'. Refute it at one input. -/
def packReadsWrong : ChangeSpec := { name := "packReads", fn := fun _ => fun
  | [d] => { results := [.lit (.bool false)], args := [d] }
  | _ => none }
def PackReadsWrongFalsely : Prop := packReadsRow.holds Tryd.pinned (OpenSpec.ofChange packReadsWrong)

/-- 'hoardlaw05.PackBack': WHATEVER THE INPUT: true; the input reads as it did. -/
def packBackSpec : ChangeSpec := { name := "packBack", fn := fun _ => fun
  | [d1, d2] => { results := [.lit (.bool true)], args := [d1, d2] }
  | _ => none }
def packBackRow : OpenClaim := { program := "ytmpnehhndhepgaadoor", sum := "e5bc701af95279ba380a322e0c51c6a4f6c7c044404393ba99c2e1c7c9a6e47d", func := "hoard/hoardlaw05.PackBack", spec := "packBack", unfollowed := true, recurses := true, named := ["hoard/pack.sizesOf"], loops := true, apart := false, laid := [("hoard/pack.sizesOf", laid_hoard_pack_sizesOf)] }
def PackBackSaid : Prop := packBackRow.holds Tryd.pinned (OpenSpec.ofChange packBackSpec)

/-- ITS FALSE NEIGHBOUR: 'it returns false'. Refute it at one input. -/
def packBackWrong : ChangeSpec := { name := "packBack", fn := fun _ => fun
  | [d1, d2] => { results := [.lit (.bool false)], args := [d1, d2] }
  | _ => none }
def PackBackWrongFalsely : Prop := packBackRow.holds Tryd.pinned (OpenSpec.ofChange packBackWrong)

/-- 'hoardlaw05.PackOne': WHATEVER THE INPUT: true; the input reads as it did. -/
def packOneSpec : ChangeSpec := { name := "packOne", fn := fun _ => fun
  | [d1, d2] => { results := [.lit (.bool true)], args := [d1, d2] }
  | _ => none }
def packOneRow : OpenClaim := { program := "ytmpnehhndhepgaadoor", sum := "e5bc701af95279ba380a322e0c51c6a4f6c7c044404393ba99c2e1c7c9a6e47d", func := "hoard/hoardlaw05.PackOne", spec := "packOne", unfollowed := true, recurses := true, named := ["hoard/pack.sizesOf"], loops := true, apart := false, laid := [("hoard/pack.sizesOf", laid_hoard_pack_sizesOf)] }
def PackOneSaid : Prop := packOneRow.holds Tryd.pinned (OpenSpec.ofChange packOneSpec)

/-- ITS FALSE NEIGHBOUR: 'it returns false'. Refute it at one input. -/
def packOneWrong : ChangeSpec := { name := "packOne", fn := fun _ => fun
  | [d1, d2] => { results := [.lit (.bool false)], args := [d1, d2] }
  | _ => none }
def PackOneWrongFalsely : Prop := packOneRow.holds Tryd.pinned (OpenSpec.ofChange packOneWrong)

/-- 'hoardlaw05.PackCuts': WHATEVER THE INPUT: true; the input reads as it did. -/
def packCutsSpec : ChangeSpec := { name := "packCuts", fn := fun _ => fun
  | [d1, d2, d3] => { results := [.lit (.bool true)], args := [d1, d2, d3] }
  | _ => none }
def packCutsRow : OpenClaim := { program := "ytmpnehhndhepgaadoor", sum := "e5bc701af95279ba380a322e0c51c6a4f6c7c044404393ba99c2e1c7c9a6e47d", func := "hoard/hoardlaw05.PackCuts", spec := "packCuts", unfollowed := true, recurses := true, named := ["hoard/pack.sizesOf"], loops := true, apart := false, laid := [("hoard/pack.sizesOf", laid_hoard_pack_sizesOf)] }
def PackCutsSaid : Prop := packCutsRow.holds Tryd.pinned (OpenSpec.ofChange packCutsSpec)

/-- ITS FALSE NEIGHBOUR: 'it returns false'. Refute it at one input. -/
def packCutsWrong : ChangeSpec := { name := "packCuts", fn := fun _ => fun
  | [d1, d2, d3] => { results := [.lit (.bool false)], args := [d1, d2, d3] }
  | _ => none }
def PackCutsWrongFalsely : Prop := packCutsRow.holds Tryd.pinned (OpenSpec.ofChange packCutsWrong)

/-- 'hoardlaw05.PackDeep': WHATEVER THE INPUT: true; the input reads as it did. -/
def packDeepSpec : ChangeSpec := { name := "packDeep", fn := fun _ => fun
  | [d1, d2] => { results := [.lit (.bool true)], args := [d1, d2] }
  | _ => none }
def packDeepRow : OpenClaim := { program := "ytmpnehhndhepgaadoor", sum := "e5bc701af95279ba380a322e0c51c6a4f6c7c044404393ba99c2e1c7c9a6e47d", func := "hoard/hoardlaw05.PackDeep", spec := "packDeep", unfollowed := true, recurses := true, named := ["hoard/pack.sizesOf"], apart := false, laid := [("hoard/pack.sizesOf", laid_hoard_pack_sizesOf)] }
def PackDeepSaid : Prop := packDeepRow.holds Tryd.pinned (OpenSpec.ofChange packDeepSpec)

/-- ITS FALSE NEIGHBOUR: 'it returns false'. Refute it at one input. -/
def packDeepWrong : ChangeSpec := { name := "packDeep", fn := fun _ => fun
  | [d1, d2] => { results := [.lit (.bool false)], args := [d1, d2] }
  | _ => none }
def PackDeepWrongFalsely : Prop := packDeepRow.holds Tryd.pinned (OpenSpec.ofChange packDeepWrong)

/- THE SECOND FORM. 'bulk': how many values and letters a reading holds, each counted each time it is reached (what is shared counts as often as it is met; a slice's spare places count too). A statement '..UptoSaid' is the law's where the arguments, and the package variables that the reading takes, are together of bulk at most 1048576: NARROWER than '..Said'. Prove '..Said' where nothing that the law and all that it calls make is longer than what came in: it says more and counts as full. Else prove '..UptoSaid'. A law counts once. -/
mutual
def uptoBulk {H : Type} : DataW H → Nat
  | .lit (.string bytes) => bytes.length + 1
  | .lit _ => 1
  | .nil => 1
  | .ptr d => uptoBulk d + 1
  | .slice elems spare => uptoBulkAll elems + uptoBulkAll spare + 1
  | .agg parts => uptoBulkAll parts + 1
  | .iface _ d => uptoBulk d + 1
  | .map entries => uptoBulkEntries entries + 1
  | .held _ => 1
def uptoBulkAll {H : Type} : List (DataW H) → Nat
  | [] => 0
  | d :: r => uptoBulk d + uptoBulkAll r
def uptoBulkEntries {H : Type} : List (Lit × DataW H) → Nat
  | [] => 0
  | x :: r => uptoBulkEntry x + uptoBulkEntries r
def uptoBulkEntry {H : Type} : Lit × DataW H → Nat
  | (.string bytes, d) => bytes.length + uptoBulk d + 1
  | (_, d) => uptoBulk d + 1
 end
def uptoSmall : (H : Type) → List (DataW H) → Bool := fun _ ds => decide (uptoBulkAll ds ≤ 1048576)
def OpenSpec.upto (s : _root_.Go.ChangeSpec) : _root_.Go.OpenSpec := { _root_.Go.OpenSpec.ofChange s with cond := some uptoSmall }

/-- 'hoardlaw05.PackWrites', WHERE WHAT IT READS IS OF BULK AT MOST 1048576: true; the input reads as it did. -/
def packWritesUptoRow : OpenClaim := { program := "ytmpnehhndhepgaadoor", sum := "e5bc701af95279ba380a322e0c51c6a4f6c7c044404393ba99c2e1c7c9a6e47d", func := "hoard/hoardlaw05.PackWrites", spec := "packWrites", unfollowed := true, recurses := true, named := ["hoard/pack.sizesOf"], loops := true, apart := false, laid := [("hoard/pack.sizesOf", laid_hoard_pack_sizesOf)], narrowed := true }
def PackWritesUptoSaid : Prop := packWritesUptoRow.holds Tryd.pinned (OpenSpec.upto packWritesSpec)

/-- 'hoardlaw05.PackReads', WHERE WHAT IT READS IS OF BULK AT MOST 1048576: true; the input reads as it did. -/
def packReadsUptoRow : OpenClaim := { program := "ytmpnehhndhepgaadoor", sum := "e5bc701af95279ba380a322e0c51c6a4f6c7c044404393ba99c2e1c7c9a6e47d", func := "hoard/hoardlaw05.PackReads", spec := "packReads", unfollowed := true, recurses := true, named := ["hoard/pack.sizesOf"], apart := false, laid := [("hoard/pack.sizesOf", laid_hoard_pack_sizesOf)], narrowed := true }
def PackReadsUptoSaid : Prop := packReadsUptoRow.holds Tryd.pinned (OpenSpec.upto packReadsSpec)

/-- 'hoardlaw05.PackBack', WHERE WHAT IT READS IS OF BULK AT MOST 1048576: true; the input reads as it did. -/
def packBackUptoRow : OpenClaim := { program := "ytmpnehhndhepgaadoor", sum := "e5bc701af95279ba380a322e0c51c6a4f6c7c044404393ba99c2e1c7c9a6e47d", func := "hoard/hoardlaw05.PackBack", spec := "packBack", unfollowed := true, recurses := true, named := ["hoard/pack.sizesOf"], loops := true, apart := false, laid := [("hoard/pack.sizesOf", laid_hoard_pack_sizesOf)], narrowed := true }
def PackBackUptoSaid : Prop := packBackUptoRow.holds Tryd.pinned (OpenSpec.upto packBackSpec)

/-- 'hoardlaw05.PackOne', WHERE WHAT IT READS IS OF BULK AT MOST 1048576: true; the input reads as it did. -/
def packOneUptoRow : OpenClaim := { program := "ytmpnehhndhepgaadoor", sum := "e5bc701af95279ba380a322e0c51c6a4f6c7c044404393ba99c2e1c7c9a6e47d", func := "hoard/hoardlaw05.PackOne", spec := "packOne", unfollowed := true, recurses := true, named := ["hoard/pack.sizesOf"], loops := true, apart := false, laid := [("hoard/pack.sizesOf", laid_hoard_pack_sizesOf)], narrowed := true }
def PackOneUptoSaid : Prop := packOneUptoRow.holds Tryd.pinned (OpenSpec.upto packOneSpec)

/-- 'hoardlaw05.PackCuts', WHERE WHAT IT READS IS OF BULK AT MOST 1048576: true; the input reads as it did. -/
def packCutsUptoRow : OpenClaim := { program := "ytmpnehhndhepgaadoor", sum := "e5bc701af95279ba380a322e0c51c6a4f6c7c044404393ba99c2e1c7c9a6e47d", func := "hoard/hoardlaw05.PackCuts", spec := "packCuts", unfollowed := true, recurses := true, named := ["hoard/pack.sizesOf"], loops := true, apart := false, laid := [("hoard/pack.sizesOf", laid_hoard_pack_sizesOf)], narrowed := true }
def PackCutsUptoSaid : Prop := packCutsUptoRow.holds Tryd.pinned (OpenSpec.upto packCutsSpec)

/-- 'hoardlaw05.PackDeep', WHERE WHAT IT READS IS OF BULK AT MOST 1048576: true; the input reads as it did. -/
def packDeepUptoRow : OpenClaim := { program := "ytmpnehhndhepgaadoor", sum := "e5bc701af95279ba380a322e0c51c6a4f6c7c044404393ba99c2e1c7c9a6e47d", func := "hoard/hoardlaw05.PackDeep", spec := "packDeep", unfollowed := true, recurses := true, named := ["hoard/pack.sizesOf"], apart := false, laid := [("hoard/pack.sizesOf", laid_hoard_pack_sizesOf)], narrowed := true }
def PackDeepUptoSaid : Prop := packDeepUptoRow.holds Tryd.pinned (OpenSpec.upto packDeepSpec)

end Rows
end Go.Proofs.YtmpnehhndhepgaaDoor
