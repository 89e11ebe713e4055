/-
  NARROWER THAN 'FOR EVERY INPUT', by the rows' own cells (each row's printed sentence says how): ReplayLast: laid · ReplayOpen: laid · ReplayLive: laid · ReplayCrash: laid · HintsBack: laid · HintsCrash: laid · HintsStale: laid · HintsNames: laid · HintsNobody: laid.
  DERIVED. THE GIVEN ROWS OF THIS SEAT. 9 by the template 'for every input the law returns true; each argument reads behind the call as it read before'; 0 by the template 'total and deterministic' (their statements: YtblgphfdicffcaaGreatDoorTotals.lean).
  GIVEN WITH THE SEED: the statements are not yours to turn. If you find one false, say at which input.
  Laid BY PROGRAM, IN A SANDBOX (cutbox-rows.mjs): the forced cells as the released guide's own fill.sh prints them over the translation 7400fb45e5a33b06… (all of the seat's roots in one cut). By AI agents, Wed Nov 11 2026. No macro, syntax, notation, axiom, sorry.
-/
import Derived.Test.YtblgphfdicffcaaGreatDoorChecked
import GoSem.Claim
import GoSem.ClaimJoined
import GoSem.ClaimMapViews
import Derived.JoinedTies
import Derived.KernelRfl
namespace Go.Proofs.YtblgphfdicffcaaGreatDoor
/- THE CELL 'sum', in the pinned program and in every row, IS THE sha256 OF THE DUMP (.gsa) THAT YtblgphfdicffcaaGreatDoorProg.lean LOADS. Nothing in Lean hashes anything: it is a label: what it is worth is what the hold of that sum in a sandbox is worth. -/
noncomputable def Tryz.pinned : Pinned := { name := "ytblgphfdicffcaagreatdoor", sum := "7400fb45e5a33b06544521155163143304f1bd1e29fab9598ea67b3a28a161b8", checked := Tryz.checked }
namespace Rows
def none {H : Type} : Left H := { results := [], args := [] }

/- WHAT THE LISTED PACKAGE-LEVEL VARIABLES READ AS WHEN THE CALL BEGINS. Each datum BY PROGRAM (the guide's laid-datum.mjs) off the statement by which the dump's own 'gosem.cut.vars' lays the variable. In a bare row this is a premise. The card (YtblgphfdicffcaaGreatDoorCards.lean) ties it to the program's text. -/
def laid_hoard_crc_lowHalf {H : Type} : DataW H := .agg [.lit (.int .u32 0), .lit (.int .u32 1996959894), .lit (.int .u32 3993919788), .lit (.int .u32 2567524794), .lit (.int .u32 124634137), .lit (.int .u32 1886057615), .lit (.int .u32 3915621685), .lit (.int .u32 2657392035), .lit (.int .u32 249268274), .lit (.int .u32 2044508324), .lit (.int .u32 3772115230), .lit (.int .u32 2547177864), .lit (.int .u32 162941995), .lit (.int .u32 2125561021), .lit (.int .u32 3887607047), .lit (.int .u32 2428444049)]
def laid_hoard_crc_highHalf {H : Type} : DataW H := .agg [.lit (.int .u32 0), .lit (.int .u32 498536548), .lit (.int .u32 997073096), .lit (.int .u32 651767980), .lit (.int .u32 1994146192), .lit (.int .u32 1802195444), .lit (.int .u32 1303535960), .lit (.int .u32 1342533948), .lit (.int .u32 3988292384), .lit (.int .u32 4027552580), .lit (.int .u32 3604390888), .lit (.int .u32 3412177804), .lit (.int .u32 2607071920), .lit (.int .u32 2262029012), .lit (.int .u32 2685067896), .lit (.int .u32 3183342108)]
def laid_math_bits_deBruijn32tab {H : Type} : DataW H := .agg [.lit (.int .u8 0), .lit (.int .u8 1), .lit (.int .u8 28), .lit (.int .u8 2), .lit (.int .u8 29), .lit (.int .u8 14), .lit (.int .u8 24), .lit (.int .u8 3), .lit (.int .u8 30), .lit (.int .u8 22), .lit (.int .u8 20), .lit (.int .u8 15), .lit (.int .u8 25), .lit (.int .u8 17), .lit (.int .u8 4), .lit (.int .u8 8), .lit (.int .u8 31), .lit (.int .u8 27), .lit (.int .u8 13), .lit (.int .u8 23), .lit (.int .u8 21), .lit (.int .u8 19), .lit (.int .u8 16), .lit (.int .u8 7), .lit (.int .u8 26), .lit (.int .u8 12), .lit (.int .u8 18), .lit (.int .u8 6), .lit (.int .u8 11), .lit (.int .u8 5), .lit (.int .u8 10), .lit (.int .u8 9)]
def laid_math_bits_deBruijn64tab {H : Type} : DataW H := .agg [.lit (.int .u8 0), .lit (.int .u8 1), .lit (.int .u8 56), .lit (.int .u8 2), .lit (.int .u8 57), .lit (.int .u8 49), .lit (.int .u8 28), .lit (.int .u8 3), .lit (.int .u8 61), .lit (.int .u8 58), .lit (.int .u8 42), .lit (.int .u8 50), .lit (.int .u8 38), .lit (.int .u8 29), .lit (.int .u8 17), .lit (.int .u8 4), .lit (.int .u8 62), .lit (.int .u8 47), .lit (.int .u8 59), .lit (.int .u8 36), .lit (.int .u8 45), .lit (.int .u8 43), .lit (.int .u8 51), .lit (.int .u8 22), .lit (.int .u8 53), .lit (.int .u8 39), .lit (.int .u8 33), .lit (.int .u8 30), .lit (.int .u8 24), .lit (.int .u8 18), .lit (.int .u8 12), .lit (.int .u8 5), .lit (.int .u8 63), .lit (.int .u8 55), .lit (.int .u8 48), .lit (.int .u8 27), .lit (.int .u8 60), .lit (.int .u8 41), .lit (.int .u8 37), .lit (.int .u8 16), .lit (.int .u8 46), .lit (.int .u8 35), .lit (.int .u8 44), .lit (.int .u8 21), .lit (.int .u8 52), .lit (.int .u8 32), .lit (.int .u8 23), .lit (.int .u8 11), .lit (.int .u8 54), .lit (.int .u8 26), .lit (.int .u8 40), .lit (.int .u8 15), .lit (.int .u8 34), .lit (.int .u8 20), .lit (.int .u8 31), .lit (.int .u8 10), .lit (.int .u8 25), .lit (.int .u8 14), .lit (.int .u8 19), .lit (.int .u8 9), .lit (.int .u8 13), .lit (.int .u8 8), .lit (.int .u8 7), .lit (.int .u8 6)]
def laid_internal_strconv_uint64pow10 {H : Type} : DataW H := .agg [.lit (.int .u64 1), .lit (.int .u64 10), .lit (.int .u64 100), .lit (.int .u64 1000), .lit (.int .u64 10000), .lit (.int .u64 100000), .lit (.int .u64 1000000), .lit (.int .u64 10000000), .lit (.int .u64 100000000), .lit (.int .u64 1000000000), .lit (.int .u64 10000000000), .lit (.int .u64 100000000000), .lit (.int .u64 1000000000000), .lit (.int .u64 10000000000000), .lit (.int .u64 100000000000000), .lit (.int .u64 1000000000000000), .lit (.int .u64 10000000000000000), .lit (.int .u64 100000000000000000), .lit (.int .u64 1000000000000000000), .lit (.int .u64 10000000000000000000)]
def laid_strconv_ErrRange {H : Type} : DataW H := .iface "*errors.errorString" (.ptr (.agg [.lit (.string [118, 97, 108, 117, 101, 32, 111, 117, 116, 32, 111, 102, 32, 114, 97, 110, 103, 101])]))
def laid_strconv_ErrSyntax {H : Type} : DataW H := .iface "*errors.errorString" (.ptr (.agg [.lit (.string [105, 110, 118, 97, 108, 105, 100, 32, 115, 121, 110, 116, 97, 120])]))

/-- 'hoardlaw15.ReplayLast': WHATEVER THE INPUT: true; the input reads as it did. -/
def replayLastSpec : ChangeSpec := { name := "replayLast", fn := fun _ => fun
  | [d1, d2, d3] => { results := [.lit (.bool true)], args := [d1, d2, d3] }
  | _ => none }
def replayLastRow : OpenClaim := { program := "ytblgphfdicffcaagreatdoor", sum := "7400fb45e5a33b06544521155163143304f1bd1e29fab9598ea67b3a28a161b8", func := "hoard/hoardlaw15.ReplayLast", spec := "replayLast", inPlace := ["internal/abi.NoEscape", "internal/bytealg.MakeNoZero", "internal/bytealg.Compare"], unfollowed := true, recurses := true, named := ["strconv.ErrSyntax", "strconv.ErrRange", "internal/strconv.uint64pow10", "math/bits.deBruijn32tab", "math/bits.deBruijn64tab", "hoard/crc.lowHalf", "hoard/crc.highHalf"], apart := false, laid := [("hoard/crc.lowHalf", laid_hoard_crc_lowHalf), ("hoard/crc.highHalf", laid_hoard_crc_highHalf), ("math/bits.deBruijn32tab", laid_math_bits_deBruijn32tab), ("math/bits.deBruijn64tab", laid_math_bits_deBruijn64tab), ("internal/strconv.uint64pow10", laid_internal_strconv_uint64pow10), ("strconv.ErrRange", laid_strconv_ErrRange), ("strconv.ErrSyntax", laid_strconv_ErrSyntax)] }
def ReplayLastSaid : Prop := replayLastRow.holds Tryz.pinned (OpenSpec.ofChange replayLastSpec)

/-- ITS FALSE NEIGHBOUR: 'it returns false'. Refute it at one input. -/
def replayLastWrong : ChangeSpec := { name := "replayLast", fn := fun _ => fun
  | [d1, d2, d3] => { results := [.lit (.bool false)], args := [d1, d2, d3] }
  | _ => none }
def ReplayLastWrongFalsely : Prop := replayLastRow.holds Tryz.pinned (OpenSpec.ofChange replayLastWrong)

/-- 'hoardlaw15.ReplayOpen': WHATEVER THE INPUT: true; the input reads as it did. -/
def replayOpenSpec : ChangeSpec := { name := "replayOpen", fn := fun _ => fun
  | [d1, d2, d3] => { results := [.lit (.bool true)], args := [d1, d2, d3] }
  | _ => none }
def replayOpenRow : OpenClaim := { program := "ytblgphfdicffcaagreatdoor", sum := "7400fb45e5a33b06544521155163143304f1bd1e29fab9598ea67b3a28a161b8", func := "hoard/hoardlaw15.ReplayOpen", spec := "replayOpen", inPlace := ["internal/abi.NoEscape", "internal/bytealg.MakeNoZero", "internal/bytealg.Compare"], unfollowed := true, recurses := true, named := ["strconv.ErrSyntax", "strconv.ErrRange", "internal/strconv.uint64pow10", "math/bits.deBruijn32tab", "math/bits.deBruijn64tab", "hoard/crc.lowHalf", "hoard/crc.highHalf"], apart := false, laid := [("hoard/crc.lowHalf", laid_hoard_crc_lowHalf), ("hoard/crc.highHalf", laid_hoard_crc_highHalf), ("math/bits.deBruijn32tab", laid_math_bits_deBruijn32tab), ("math/bits.deBruijn64tab", laid_math_bits_deBruijn64tab), ("internal/strconv.uint64pow10", laid_internal_strconv_uint64pow10), ("strconv.ErrRange", laid_strconv_ErrRange), ("strconv.ErrSyntax", laid_strconv_ErrSyntax)] }
def ReplayOpenSaid : Prop := replayOpenRow.holds Tryz.pinned (OpenSpec.ofChange replayOpenSpec)

/-- ITS FALSE NEIGHBOUR: 'it returns false'. Refute it at one input. -/
def replayOpenWrong : ChangeSpec := { name := "replayOpen", fn := fun _ => fun
  | [d1, d2, d3] => { results := [.lit (.bool false)], args := [d1, d2, d3] }
  | _ => none }
def ReplayOpenWrongFalsely : Prop := replayOpenRow.holds Tryz.pinned (OpenSpec.ofChange replayOpenWrong)

/-- 'hoardlaw15.ReplayLive': WHATEVER THE INPUT: true; the input reads as it did. -/
def replayLiveSpec : ChangeSpec := { name := "replayLive", fn := fun _ => fun
  | [d1, d2] => { results := [.lit (.bool true)], args := [d1, d2] }
  | _ => none }
def replayLiveRow : OpenClaim := { program := "ytblgphfdicffcaagreatdoor", sum := "7400fb45e5a33b06544521155163143304f1bd1e29fab9598ea67b3a28a161b8", func := "hoard/hoardlaw15.ReplayLive", spec := "replayLive", inPlace := ["internal/abi.NoEscape", "internal/bytealg.MakeNoZero", "internal/bytealg.Compare"], unfollowed := true, recurses := true, named := ["strconv.ErrSyntax", "strconv.ErrRange", "internal/strconv.uint64pow10", "math/bits.deBruijn32tab", "math/bits.deBruijn64tab", "hoard/crc.lowHalf", "hoard/crc.highHalf"], apart := false, laid := [("hoard/crc.lowHalf", laid_hoard_crc_lowHalf), ("hoard/crc.highHalf", laid_hoard_crc_highHalf), ("math/bits.deBruijn32tab", laid_math_bits_deBruijn32tab), ("math/bits.deBruijn64tab", laid_math_bits_deBruijn64tab), ("internal/strconv.uint64pow10", laid_internal_strconv_uint64pow10), ("strconv.ErrRange", laid_strconv_ErrRange), ("strconv.ErrSyntax", laid_strconv_ErrSyntax)] }
def ReplayLiveSaid : Prop := replayLiveRow.holds Tryz.pinned (OpenSpec.ofChange replayLiveSpec)

/-- ITS FALSE NEIGHBOUR: 'it returns false'. Refute it at one input. -/
def replayLiveWrong : ChangeSpec := { name := "replayLive", fn := fun _ => fun
  | [d1, d2] => { results := [.lit (.bool false)], args := [d1, d2] }
  | _ => none }
def ReplayLiveWrongFalsely : Prop := replayLiveRow.holds Tryz.pinned (OpenSpec.ofChange replayLiveWrong)

/-- 'hoardlaw15.ReplayCrash': WHATEVER THE INPUT: true; the input reads as it did. -/
def replayCrashSpec : ChangeSpec := { name := "replayCrash", fn := fun _ => fun
  | [d1, d2, d3] => { results := [.lit (.bool true)], args := [d1, d2, d3] }
  | _ => none }
def replayCrashRow : OpenClaim := { program := "ytblgphfdicffcaagreatdoor", sum := "7400fb45e5a33b06544521155163143304f1bd1e29fab9598ea67b3a28a161b8", func := "hoard/hoardlaw15.ReplayCrash", spec := "replayCrash", inPlace := ["internal/abi.NoEscape", "internal/bytealg.MakeNoZero", "internal/bytealg.Compare", "maps.clone"], unfollowed := true, recurses := true, named := ["strconv.ErrSyntax", "strconv.ErrRange", "internal/strconv.uint64pow10", "math/bits.deBruijn32tab", "math/bits.deBruijn64tab", "hoard/crc.lowHalf", "hoard/crc.highHalf"], apart := false, laid := [("hoard/crc.lowHalf", laid_hoard_crc_lowHalf), ("hoard/crc.highHalf", laid_hoard_crc_highHalf), ("math/bits.deBruijn32tab", laid_math_bits_deBruijn32tab), ("math/bits.deBruijn64tab", laid_math_bits_deBruijn64tab), ("internal/strconv.uint64pow10", laid_internal_strconv_uint64pow10), ("strconv.ErrRange", laid_strconv_ErrRange), ("strconv.ErrSyntax", laid_strconv_ErrSyntax)] }
def ReplayCrashSaid : Prop := replayCrashRow.holds Tryz.pinned (OpenSpec.ofChange replayCrashSpec)

/-- ITS FALSE NEIGHBOUR: 'it returns false'. Refute it at one input. -/
def replayCrashWrong : ChangeSpec := { name := "replayCrash", fn := fun _ => fun
  | [d1, d2, d3] => { results := [.lit (.bool false)], args := [d1, d2, d3] }
  | _ => none }
def ReplayCrashWrongFalsely : Prop := replayCrashRow.holds Tryz.pinned (OpenSpec.ofChange replayCrashWrong)

/-- 'hoardlaw16.HintsBack': WHATEVER THE INPUT: true; the input reads as it did. -/
def hintsBackSpec : ChangeSpec := { name := "hintsBack", fn := fun _ => fun
  | [d1, d2, d3, d4] => { results := [.lit (.bool true)], args := [d1, d2, d3, d4] }
  | _ => none }
def hintsBackRow : OpenClaim := { program := "ytblgphfdicffcaagreatdoor", sum := "7400fb45e5a33b06544521155163143304f1bd1e29fab9598ea67b3a28a161b8", func := "hoard/hoardlaw16.HintsBack", spec := "hintsBack", inPlace := ["internal/abi.NoEscape", "internal/bytealg.MakeNoZero", "internal/bytealg.Compare", "internal/bytealg.IndexByteString", "internal/bytealg.IndexString", "maps.clone"], unfollowed := true, recurses := true, named := ["strconv.ErrSyntax", "strconv.ErrRange", "internal/strconv.uint64pow10", "math/bits.deBruijn32tab", "math/bits.deBruijn64tab", "hoard/crc.lowHalf", "hoard/crc.highHalf", "internal/bytealg.MaxLen"], apart := false, laid := [("hoard/crc.lowHalf", laid_hoard_crc_lowHalf), ("hoard/crc.highHalf", laid_hoard_crc_highHalf), ("math/bits.deBruijn32tab", laid_math_bits_deBruijn32tab), ("math/bits.deBruijn64tab", laid_math_bits_deBruijn64tab), ("internal/strconv.uint64pow10", laid_internal_strconv_uint64pow10), ("strconv.ErrRange", laid_strconv_ErrRange), ("strconv.ErrSyntax", laid_strconv_ErrSyntax)] }
def HintsBackSaid : Prop := hintsBackRow.holds Tryz.pinned (OpenSpec.ofChange hintsBackSpec)

/-- ITS FALSE NEIGHBOUR: 'it returns false'. Refute it at one input. -/
def hintsBackWrong : ChangeSpec := { name := "hintsBack", fn := fun _ => fun
  | [d1, d2, d3, d4] => { results := [.lit (.bool false)], args := [d1, d2, d3, d4] }
  | _ => none }
def HintsBackWrongFalsely : Prop := hintsBackRow.holds Tryz.pinned (OpenSpec.ofChange hintsBackWrong)

/-- 'hoardlaw16.HintsCrash': WHATEVER THE INPUT: true; the input reads as it did. -/
def hintsCrashSpec : ChangeSpec := { name := "hintsCrash", fn := fun _ => fun
  | [d1, d2, d3, d4, d5] => { results := [.lit (.bool true)], args := [d1, d2, d3, d4, d5] }
  | _ => none }
def hintsCrashRow : OpenClaim := { program := "ytblgphfdicffcaagreatdoor", sum := "7400fb45e5a33b06544521155163143304f1bd1e29fab9598ea67b3a28a161b8", func := "hoard/hoardlaw16.HintsCrash", spec := "hintsCrash", inPlace := ["internal/abi.NoEscape", "internal/bytealg.MakeNoZero", "internal/bytealg.Compare", "internal/bytealg.IndexByteString", "internal/bytealg.IndexString", "maps.clone"], unfollowed := true, recurses := true, named := ["strconv.ErrSyntax", "strconv.ErrRange", "internal/strconv.uint64pow10", "math/bits.deBruijn32tab", "math/bits.deBruijn64tab", "hoard/crc.lowHalf", "hoard/crc.highHalf", "internal/bytealg.MaxLen"], apart := false, laid := [("hoard/crc.lowHalf", laid_hoard_crc_lowHalf), ("hoard/crc.highHalf", laid_hoard_crc_highHalf), ("math/bits.deBruijn32tab", laid_math_bits_deBruijn32tab), ("math/bits.deBruijn64tab", laid_math_bits_deBruijn64tab), ("internal/strconv.uint64pow10", laid_internal_strconv_uint64pow10), ("strconv.ErrRange", laid_strconv_ErrRange), ("strconv.ErrSyntax", laid_strconv_ErrSyntax)] }
def HintsCrashSaid : Prop := hintsCrashRow.holds Tryz.pinned (OpenSpec.ofChange hintsCrashSpec)

/-- ITS FALSE NEIGHBOUR: 'it returns false'. Refute it at one input. -/
def hintsCrashWrong : ChangeSpec := { name := "hintsCrash", fn := fun _ => fun
  | [d1, d2, d3, d4, d5] => { results := [.lit (.bool false)], args := [d1, d2, d3, d4, d5] }
  | _ => none }
def HintsCrashWrongFalsely : Prop := hintsCrashRow.holds Tryz.pinned (OpenSpec.ofChange hintsCrashWrong)

/-- 'hoardlaw16.HintsStale': WHATEVER THE INPUT: true; the input reads as it did. -/
def hintsStaleSpec : ChangeSpec := { name := "hintsStale", fn := fun _ => fun
  | [d1, d2, d3, d4, d5] => { results := [.lit (.bool true)], args := [d1, d2, d3, d4, d5] }
  | _ => none }
def hintsStaleRow : OpenClaim := { program := "ytblgphfdicffcaagreatdoor", sum := "7400fb45e5a33b06544521155163143304f1bd1e29fab9598ea67b3a28a161b8", func := "hoard/hoardlaw16.HintsStale", spec := "hintsStale", inPlace := ["internal/abi.NoEscape", "internal/bytealg.MakeNoZero", "internal/bytealg.Compare", "internal/bytealg.IndexByteString", "internal/bytealg.IndexString"], unfollowed := true, recurses := true, named := ["strconv.ErrSyntax", "strconv.ErrRange", "internal/strconv.uint64pow10", "math/bits.deBruijn32tab", "math/bits.deBruijn64tab", "hoard/crc.lowHalf", "hoard/crc.highHalf", "internal/bytealg.MaxLen"], apart := false, laid := [("hoard/crc.lowHalf", laid_hoard_crc_lowHalf), ("hoard/crc.highHalf", laid_hoard_crc_highHalf), ("math/bits.deBruijn32tab", laid_math_bits_deBruijn32tab), ("math/bits.deBruijn64tab", laid_math_bits_deBruijn64tab), ("internal/strconv.uint64pow10", laid_internal_strconv_uint64pow10), ("strconv.ErrRange", laid_strconv_ErrRange), ("strconv.ErrSyntax", laid_strconv_ErrSyntax)] }
def HintsStaleSaid : Prop := hintsStaleRow.holds Tryz.pinned (OpenSpec.ofChange hintsStaleSpec)

/-- ITS FALSE NEIGHBOUR: 'it returns false'. Refute it at one input. -/
def hintsStaleWrong : ChangeSpec := { name := "hintsStale", fn := fun _ => fun
  | [d1, d2, d3, d4, d5] => { results := [.lit (.bool false)], args := [d1, d2, d3, d4, d5] }
  | _ => none }
def HintsStaleWrongFalsely : Prop := hintsStaleRow.holds Tryz.pinned (OpenSpec.ofChange hintsStaleWrong)

/-- 'hoardlaw16.HintsNames': WHATEVER THE INPUT: true; the input reads as it did. -/
def hintsNamesSpec : ChangeSpec := { name := "hintsNames", fn := fun _ => fun
  | [d] => { results := [.lit (.bool true)], args := [d] }
  | _ => none }
def hintsNamesRow : OpenClaim := { program := "ytblgphfdicffcaagreatdoor", sum := "7400fb45e5a33b06544521155163143304f1bd1e29fab9598ea67b3a28a161b8", func := "hoard/hoardlaw16.HintsNames", spec := "hintsNames", inPlace := ["internal/abi.NoEscape", "internal/bytealg.MakeNoZero", "internal/bytealg.Compare", "internal/bytealg.IndexByteString", "internal/bytealg.IndexString"], unfollowed := true, recurses := true, named := ["internal/strconv.uint64pow10", "math/bits.deBruijn32tab", "math/bits.deBruijn64tab", "strconv.ErrSyntax", "strconv.ErrRange", "internal/bytealg.MaxLen"], apart := false, laid := [("math/bits.deBruijn32tab", laid_math_bits_deBruijn32tab), ("math/bits.deBruijn64tab", laid_math_bits_deBruijn64tab), ("internal/strconv.uint64pow10", laid_internal_strconv_uint64pow10), ("strconv.ErrRange", laid_strconv_ErrRange), ("strconv.ErrSyntax", laid_strconv_ErrSyntax)] }
def HintsNamesSaid : Prop := hintsNamesRow.holds Tryz.pinned (OpenSpec.ofChange hintsNamesSpec)

/-- ITS FALSE NEIGHBOUR: 'it returns false'. Refute it at one input. -/
def hintsNamesWrong : ChangeSpec := { name := "hintsNames", fn := fun _ => fun
  | [d] => { results := [.lit (.bool false)], args := [d] }
  | _ => none }
def HintsNamesWrongFalsely : Prop := hintsNamesRow.holds Tryz.pinned (OpenSpec.ofChange hintsNamesWrong)

/-- 'hoardlaw16.HintsNobody': WHATEVER THE INPUT: true; the input reads as it did. -/
def hintsNobodySpec : ChangeSpec := { name := "hintsNobody", fn := fun _ => fun
  | [d] => { results := [.lit (.bool true)], args := [d] }
  | _ => none }
def hintsNobodyRow : OpenClaim := { program := "ytblgphfdicffcaagreatdoor", sum := "7400fb45e5a33b06544521155163143304f1bd1e29fab9598ea67b3a28a161b8", func := "hoard/hoardlaw16.HintsNobody", spec := "hintsNobody", inPlace := ["internal/abi.NoEscape", "internal/bytealg.MakeNoZero", "internal/bytealg.Compare", "internal/bytealg.IndexByteString", "internal/bytealg.IndexString"], unfollowed := true, recurses := true, named := ["internal/strconv.uint64pow10", "math/bits.deBruijn32tab", "math/bits.deBruijn64tab", "internal/bytealg.MaxLen", "strconv.ErrSyntax", "strconv.ErrRange"], apart := false, laid := [("math/bits.deBruijn32tab", laid_math_bits_deBruijn32tab), ("math/bits.deBruijn64tab", laid_math_bits_deBruijn64tab), ("internal/strconv.uint64pow10", laid_internal_strconv_uint64pow10), ("strconv.ErrRange", laid_strconv_ErrRange), ("strconv.ErrSyntax", laid_strconv_ErrSyntax)] }
def HintsNobodySaid : Prop := hintsNobodyRow.holds Tryz.pinned (OpenSpec.ofChange hintsNobodySpec)

/-- ITS FALSE NEIGHBOUR: 'it returns false'. Refute it at one input. -/
def hintsNobodyWrong : ChangeSpec := { name := "hintsNobody", fn := fun _ => fun
  | [d] => { results := [.lit (.bool false)], args := [d] }
  | _ => none }
def HintsNobodyWrongFalsely : Prop := hintsNobodyRow.holds Tryz.pinned (OpenSpec.ofChange hintsNobodyWrong)

/- THE SECOND FORM. 'bulk': how many values and letters a reading holds, each counted each time it is reached (what is shared counts as often as it is met; a slice's spare places count too). A statement '..UptoSaid' is the law's where the arguments, and the package variables that the reading takes, are together of bulk at most 1048576: NARROWER than '..Said'. Prove '..Said' where nothing that the law and all that it calls make is longer than what came in: it says more and counts as full. Else prove '..UptoSaid'. A law counts once. -/
mutual
def uptoBulk {H : Type} : DataW H → Nat
  | .lit (.string bytes) => bytes.length + 1
  | .lit _ => 1
  | .nil => 1
  | .ptr d => uptoBulk d + 1
  | .slice elems spare => uptoBulkAll elems + uptoBulkAll spare + 1
  | .agg parts => uptoBulkAll parts + 1
  | .iface _ d => uptoBulk d + 1
  | .map entries => uptoBulkEntries entries + 1
  | .held _ => 1
def uptoBulkAll {H : Type} : List (DataW H) → Nat
  | [] => 0
  | d :: r => uptoBulk d + uptoBulkAll r
def uptoBulkEntries {H : Type} : List (Lit × DataW H) → Nat
  | [] => 0
  | x :: r => uptoBulkEntry x + uptoBulkEntries r
def uptoBulkEntry {H : Type} : Lit × DataW H → Nat
  | (.string bytes, d) => bytes.length + uptoBulk d + 1
  | (_, d) => uptoBulk d + 1
 end
def uptoSmall : (H : Type) → List (DataW H) → Bool := fun _ ds => decide (uptoBulkAll ds ≤ 1048576)
def OpenSpec.upto (s : _root_.Go.ChangeSpec) : _root_.Go.OpenSpec := { _root_.Go.OpenSpec.ofChange s with cond := some uptoSmall }

/-- 'hoardlaw15.ReplayLast', WHERE WHAT IT READS IS OF BULK AT MOST 1048576: true; the input reads as it did. -/
def replayLastUptoRow : OpenClaim := { program := "ytblgphfdicffcaagreatdoor", sum := "7400fb45e5a33b06544521155163143304f1bd1e29fab9598ea67b3a28a161b8", func := "hoard/hoardlaw15.ReplayLast", spec := "replayLast", inPlace := ["internal/abi.NoEscape", "internal/bytealg.MakeNoZero", "internal/bytealg.Compare"], unfollowed := true, recurses := true, named := ["strconv.ErrSyntax", "strconv.ErrRange", "internal/strconv.uint64pow10", "math/bits.deBruijn32tab", "math/bits.deBruijn64tab", "hoard/crc.lowHalf", "hoard/crc.highHalf"], apart := false, laid := [("hoard/crc.lowHalf", laid_hoard_crc_lowHalf), ("hoard/crc.highHalf", laid_hoard_crc_highHalf), ("math/bits.deBruijn32tab", laid_math_bits_deBruijn32tab), ("math/bits.deBruijn64tab", laid_math_bits_deBruijn64tab), ("internal/strconv.uint64pow10", laid_internal_strconv_uint64pow10), ("strconv.ErrRange", laid_strconv_ErrRange), ("strconv.ErrSyntax", laid_strconv_ErrSyntax)], narrowed := true }
def ReplayLastUptoSaid : Prop := replayLastUptoRow.holds Tryz.pinned (OpenSpec.upto replayLastSpec)

/-- 'hoardlaw15.ReplayOpen', WHERE WHAT IT READS IS OF BULK AT MOST 1048576: true; the input reads as it did. -/
def replayOpenUptoRow : OpenClaim := { program := "ytblgphfdicffcaagreatdoor", sum := "7400fb45e5a33b06544521155163143304f1bd1e29fab9598ea67b3a28a161b8", func := "hoard/hoardlaw15.ReplayOpen", spec := "replayOpen", inPlace := ["internal/abi.NoEscape", "internal/bytealg.MakeNoZero", "internal/bytealg.Compare"], unfollowed := true, recurses := true, named := ["strconv.ErrSyntax", "strconv.ErrRange", "internal/strconv.uint64pow10", "math/bits.deBruijn32tab", "math/bits.deBruijn64tab", "hoard/crc.lowHalf", "hoard/crc.highHalf"], apart := false, laid := [("hoard/crc.lowHalf", laid_hoard_crc_lowHalf), ("hoard/crc.highHalf", laid_hoard_crc_highHalf), ("math/bits.deBruijn32tab", laid_math_bits_deBruijn32tab), ("math/bits.deBruijn64tab", laid_math_bits_deBruijn64tab), ("internal/strconv.uint64pow10", laid_internal_strconv_uint64pow10), ("strconv.ErrRange", laid_strconv_ErrRange), ("strconv.ErrSyntax", laid_strconv_ErrSyntax)], narrowed := true }
def ReplayOpenUptoSaid : Prop := replayOpenUptoRow.holds Tryz.pinned (OpenSpec.upto replayOpenSpec)

/-- 'hoardlaw15.ReplayLive', WHERE WHAT IT READS IS OF BULK AT MOST 1048576: true; the input reads as it did. -/
def replayLiveUptoRow : OpenClaim := { program := "ytblgphfdicffcaagreatdoor", sum := "7400fb45e5a33b06544521155163143304f1bd1e29fab9598ea67b3a28a161b8", func := "hoard/hoardlaw15.ReplayLive", spec := "replayLive", inPlace := ["internal/abi.NoEscape", "internal/bytealg.MakeNoZero", "internal/bytealg.Compare"], unfollowed := true, recurses := true, named := ["strconv.ErrSyntax", "strconv.ErrRange", "internal/strconv.uint64pow10", "math/bits.deBruijn32tab", "math/bits.deBruijn64tab", "hoard/crc.lowHalf", "hoard/crc.highHalf"], apart := false, laid := [("hoard/crc.lowHalf", laid_hoard_crc_lowHalf), ("hoard/crc.highHalf", laid_hoard_crc_highHalf), ("math/bits.deBruijn32tab", laid_math_bits_deBruijn32tab), ("math/bits.deBruijn64tab", laid_math_bits_deBruijn64tab), ("internal/strconv.uint64pow10", laid_internal_strconv_uint64pow10), ("strconv.ErrRange", laid_strconv_ErrRange), ("strconv.ErrSyntax", laid_strconv_ErrSyntax)], narrowed := true }
def ReplayLiveUptoSaid : Prop := replayLiveUptoRow.holds Tryz.pinned (OpenSpec.upto replayLiveSpec)

/-- 'hoardlaw15.ReplayCrash', WHERE WHAT IT READS IS OF BULK AT MOST 1048576: true; the input reads as it did. -/
def replayCrashUptoRow : OpenClaim := { program := "ytblgphfdicffcaagreatdoor", sum := "7400fb45e5a33b06544521155163143304f1bd1e29fab9598ea67b3a28a161b8", func := "hoard/hoardlaw15.ReplayCrash", spec := "replayCrash", inPlace := ["internal/abi.NoEscape", "internal/bytealg.MakeNoZero", "internal/bytealg.Compare", "maps.clone"], unfollowed := true, recurses := true, named := ["strconv.ErrSyntax", "strconv.ErrRange", "internal/strconv.uint64pow10", "math/bits.deBruijn32tab", "math/bits.deBruijn64tab", "hoard/crc.lowHalf", "hoard/crc.highHalf"], apart := false, laid := [("hoard/crc.lowHalf", laid_hoard_crc_lowHalf), ("hoard/crc.highHalf", laid_hoard_crc_highHalf), ("math/bits.deBruijn32tab", laid_math_bits_deBruijn32tab), ("math/bits.deBruijn64tab", laid_math_bits_deBruijn64tab), ("internal/strconv.uint64pow10", laid_internal_strconv_uint64pow10), ("strconv.ErrRange", laid_strconv_ErrRange), ("strconv.ErrSyntax", laid_strconv_ErrSyntax)], narrowed := true }
def ReplayCrashUptoSaid : Prop := replayCrashUptoRow.holds Tryz.pinned (OpenSpec.upto replayCrashSpec)

/-- 'hoardlaw16.HintsBack', WHERE WHAT IT READS IS OF BULK AT MOST 1048576: true; the input reads as it did. -/
def hintsBackUptoRow : OpenClaim := { program := "ytblgphfdicffcaagreatdoor", sum := "7400fb45e5a33b06544521155163143304f1bd1e29fab9598ea67b3a28a161b8", func := "hoard/hoardlaw16.HintsBack", spec := "hintsBack", inPlace := ["internal/abi.NoEscape", "internal/bytealg.MakeNoZero", "internal/bytealg.Compare", "internal/bytealg.IndexByteString", "internal/bytealg.IndexString", "maps.clone"], unfollowed := true, recurses := true, named := ["strconv.ErrSyntax", "strconv.ErrRange", "internal/strconv.uint64pow10", "math/bits.deBruijn32tab", "math/bits.deBruijn64tab", "hoard/crc.lowHalf", "hoard/crc.highHalf", "internal/bytealg.MaxLen"], apart := false, laid := [("hoard/crc.lowHalf", laid_hoard_crc_lowHalf), ("hoard/crc.highHalf", laid_hoard_crc_highHalf), ("math/bits.deBruijn32tab", laid_math_bits_deBruijn32tab), ("math/bits.deBruijn64tab", laid_math_bits_deBruijn64tab), ("internal/strconv.uint64pow10", laid_internal_strconv_uint64pow10), ("strconv.ErrRange", laid_strconv_ErrRange), ("strconv.ErrSyntax", laid_strconv_ErrSyntax)], narrowed := true }
def HintsBackUptoSaid : Prop := hintsBackUptoRow.holds Tryz.pinned (OpenSpec.upto hintsBackSpec)

/-- 'hoardlaw16.HintsCrash', WHERE WHAT IT READS IS OF BULK AT MOST 1048576: true; the input reads as it did. -/
def hintsCrashUptoRow : OpenClaim := { program := "ytblgphfdicffcaagreatdoor", sum := "7400fb45e5a33b06544521155163143304f1bd1e29fab9598ea67b3a28a161b8", func := "hoard/hoardlaw16.HintsCrash", spec := "hintsCrash", inPlace := ["internal/abi.NoEscape", "internal/bytealg.MakeNoZero", "internal/bytealg.Compare", "internal/bytealg.IndexByteString", "internal/bytealg.IndexString", "maps.clone"], unfollowed := true, recurses := true, named := ["strconv.ErrSyntax", "strconv.ErrRange", "internal/strconv.uint64pow10", "math/bits.deBruijn32tab", "math/bits.deBruijn64tab", "hoard/crc.lowHalf", "hoard/crc.highHalf", "internal/bytealg.MaxLen"], apart := false, laid := [("hoard/crc.lowHalf", laid_hoard_crc_lowHalf), ("hoard/crc.highHalf", laid_hoard_crc_highHalf), ("math/bits.deBruijn32tab", laid_math_bits_deBruijn32tab), ("math/bits.deBruijn64tab", laid_math_bits_deBruijn64tab), ("internal/strconv.uint64pow10", laid_internal_strconv_uint64pow10), ("strconv.ErrRange", laid_strconv_ErrRange), ("strconv.ErrSyntax", laid_strconv_ErrSyntax)], narrowed := true }
def HintsCrashUptoSaid : Prop := hintsCrashUptoRow.holds Tryz.pinned (OpenSpec.upto hintsCrashSpec)

/-- 'hoardlaw16.HintsStale', WHERE WHAT IT READS IS OF BULK AT MOST 1048576: true; the input reads as it did. -/
def hintsStaleUptoRow : OpenClaim := { program := "ytblgphfdicffcaagreatdoor", sum := "7400fb45e5a33b06544521155163143304f1bd1e29fab9598ea67b3a28a161b8", func := "hoard/hoardlaw16.HintsStale", spec := "hintsStale", inPlace := ["internal/abi.NoEscape", "internal/bytealg.MakeNoZero", "internal/bytealg.Compare", "internal/bytealg.IndexByteString", "internal/bytealg.IndexString"], unfollowed := true, recurses := true, named := ["strconv.ErrSyntax", "strconv.ErrRange", "internal/strconv.uint64pow10", "math/bits.deBruijn32tab", "math/bits.deBruijn64tab", "hoard/crc.lowHalf", "hoard/crc.highHalf", "internal/bytealg.MaxLen"], apart := false, laid := [("hoard/crc.lowHalf", laid_hoard_crc_lowHalf), ("hoard/crc.highHalf", laid_hoard_crc_highHalf), ("math/bits.deBruijn32tab", laid_math_bits_deBruijn32tab), ("math/bits.deBruijn64tab", laid_math_bits_deBruijn64tab), ("internal/strconv.uint64pow10", laid_internal_strconv_uint64pow10), ("strconv.ErrRange", laid_strconv_ErrRange), ("strconv.ErrSyntax", laid_strconv_ErrSyntax)], narrowed := true }
def HintsStaleUptoSaid : Prop := hintsStaleUptoRow.holds Tryz.pinned (OpenSpec.upto hintsStaleSpec)

/-- 'hoardlaw16.HintsNames', WHERE WHAT IT READS IS OF BULK AT MOST 1048576: true; the input reads as it did. -/
def hintsNamesUptoRow : OpenClaim := { program := "ytblgphfdicffcaagreatdoor", sum := "7400fb45e5a33b06544521155163143304f1bd1e29fab9598ea67b3a28a161b8", func := "hoard/hoardlaw16.HintsNames", spec := "hintsNames", inPlace := ["internal/abi.NoEscape", "internal/bytealg.MakeNoZero", "internal/bytealg.Compare", "internal/bytealg.IndexByteString", "internal/bytealg.IndexString"], unfollowed := true, recurses := true, named := ["internal/strconv.uint64pow10", "math/bits.deBruijn32tab", "math/bits.deBruijn64tab", "strconv.ErrSyntax", "strconv.ErrRange", "internal/bytealg.MaxLen"], apart := false, laid := [("math/bits.deBruijn32tab", laid_math_bits_deBruijn32tab), ("math/bits.deBruijn64tab", laid_math_bits_deBruijn64tab), ("internal/strconv.uint64pow10", laid_internal_strconv_uint64pow10), ("strconv.ErrRange", laid_strconv_ErrRange), ("strconv.ErrSyntax", laid_strconv_ErrSyntax)], narrowed := true }
def HintsNamesUptoSaid : Prop := hintsNamesUptoRow.holds Tryz.pinned (OpenSpec.upto hintsNamesSpec)

/-- 'hoardlaw16.HintsNobody', WHERE WHAT IT READS IS OF BULK AT MOST 1048576: true; the input reads as it did. -/
def hintsNobodyUptoRow : OpenClaim := { program := "ytblgphfdicffcaagreatdoor", sum := "7400fb45e5a33b06544521155163143304f1bd1e29fab9598ea67b3a28a161b8", func := "hoard/hoardlaw16.HintsNobody", spec := "hintsNobody", inPlace := ["internal/abi.NoEscape", "internal/bytealg.MakeNoZero", "internal/bytealg.Compare", "internal/bytealg.IndexByteString", "internal/bytealg.IndexString"], unfollowed := true, recurses := true, named := ["internal/strconv.uint64pow10", "math/bits.deBruijn32tab", "math/bits.deBruijn64tab", "internal/bytealg.MaxLen", "strconv.ErrSyntax", "strconv.ErrRange"], apart := false, laid := [("math/bits.deBruijn32tab", laid_math_bits_deBruijn32tab), ("math/bits.deBruijn64tab", laid_math_bits_deBruijn64tab), ("internal/strconv.uint64pow10", laid_internal_strconv_uint64pow10), ("strconv.ErrRange", laid_strconv_ErrRange), ("strconv.ErrSyntax", laid_strconv_ErrSyntax)], narrowed := true }
def HintsNobodyUptoSaid : Prop := hintsNobodyUptoRow.holds Tryz.pinned (OpenSpec.upto hintsNobodySpec)

end Rows
end Go.Proofs.YtblgphfdicffcaaGreatDoor
