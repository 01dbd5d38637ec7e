/-
  NARROWER THAN 'FOR EVERY INPUT', by the rows' own cells (each row's printed sentence says how): ScanRuns: laid · ScanSets: laid · ScanMatch: laid · ScanTrees: loops, laid · ScanPatterns: laid · ScanWays: laid · ScanStates: laid.
  DERIVED. THE GIVEN ROWS OF THIS SEAT. 7 by the template 'for every input the law returns true; each argument reads behind the call as it read before'; 0 by the template 'total and deterministic' (their statements: YtonfmbnankihbaaDoorTotals.lean).
  GIVEN WITH THE SEED: the statements are not yours to turn. If you find one false, say at which input.
  Laid BY PROGRAM, IN A SANDBOX (cutbox-rows.mjs): the forced cells as the released guide's own fill.sh prints them over the translation 1b51ef8e9696da28… (all of the seat's roots in one cut). By AI agents, Wed Nov 11 2026. No macro, syntax, notation, axiom, sorry.
-/
import Derived.Test.YtonfmbnankihbaaDoorChecked
import GoSem.Claim
import GoSem.ClaimJoined
import GoSem.ClaimMapViews
import Derived.JoinedTies
import Derived.KernelRfl
namespace Go.Proofs.YtonfmbnankihbaaDoor
/- THE CELL 'sum', in the pinned program and in every row, IS THE sha256 OF THE DUMP (.gsa) THAT YtonfmbnankihbaaDoorProg.lean LOADS. Nothing in Lean hashes anything: it is a label: what it is worth is what the hold of that sum in a sandbox is worth. -/
noncomputable def Tryd.pinned : Pinned := { name := "ytonfmbnankihbaadoor", sum := "1b51ef8e9696da2833c628e84cce2b9e719289321effb8d2ff35c7f3348396e6", checked := Tryd.checked }
namespace Rows
def none {H : Type} : Left H := { results := [], args := [] }

/- WHAT THE LISTED PACKAGE-LEVEL VARIABLES READ AS WHEN THE CALL BEGINS. Each datum BY PROGRAM (the guide's laid-datum.mjs) off the statement by which the dump's own 'gosem.cut.vars' lays the variable. In a bare row this is a premise. The card (YtonfmbnankihbaaDoorCards.lean) ties it to the program's text. -/
def laid_math_bits_deBruijn64tab {H : Type} : DataW H := .agg [.lit (.int .u8 0), .lit (.int .u8 1), .lit (.int .u8 56), .lit (.int .u8 2), .lit (.int .u8 57), .lit (.int .u8 49), .lit (.int .u8 28), .lit (.int .u8 3), .lit (.int .u8 61), .lit (.int .u8 58), .lit (.int .u8 42), .lit (.int .u8 50), .lit (.int .u8 38), .lit (.int .u8 29), .lit (.int .u8 17), .lit (.int .u8 4), .lit (.int .u8 62), .lit (.int .u8 47), .lit (.int .u8 59), .lit (.int .u8 36), .lit (.int .u8 45), .lit (.int .u8 43), .lit (.int .u8 51), .lit (.int .u8 22), .lit (.int .u8 53), .lit (.int .u8 39), .lit (.int .u8 33), .lit (.int .u8 30), .lit (.int .u8 24), .lit (.int .u8 18), .lit (.int .u8 12), .lit (.int .u8 5), .lit (.int .u8 63), .lit (.int .u8 55), .lit (.int .u8 48), .lit (.int .u8 27), .lit (.int .u8 60), .lit (.int .u8 41), .lit (.int .u8 37), .lit (.int .u8 16), .lit (.int .u8 46), .lit (.int .u8 35), .lit (.int .u8 44), .lit (.int .u8 21), .lit (.int .u8 52), .lit (.int .u8 32), .lit (.int .u8 23), .lit (.int .u8 11), .lit (.int .u8 54), .lit (.int .u8 26), .lit (.int .u8 40), .lit (.int .u8 15), .lit (.int .u8 34), .lit (.int .u8 20), .lit (.int .u8 31), .lit (.int .u8 10), .lit (.int .u8 25), .lit (.int .u8 14), .lit (.int .u8 19), .lit (.int .u8 9), .lit (.int .u8 13), .lit (.int .u8 8), .lit (.int .u8 7), .lit (.int .u8 6)]

/-- 'sordinelaw7.ScanRuns': WHATEVER THE INPUT: true; the input reads as it did. -/
def scanRunsSpec : ChangeSpec := { name := "scanRuns", fn := fun _ => fun
  | [] => { results := [.lit (.bool true)], args := [] }
  | _ => none }
def scanRunsRow : OpenClaim := { program := "ytonfmbnankihbaadoor", sum := "1b51ef8e9696da2833c628e84cce2b9e719289321effb8d2ff35c7f3348396e6", func := "sordine/sordinelaw7.ScanRuns", spec := "scanRuns", inPlace := ["internal/bytealg.IndexByteString"], recurses := true, named := ["math/bits.deBruijn64tab"], apart := false, laid := [("math/bits.deBruijn64tab", laid_math_bits_deBruijn64tab)] }
def ScanRunsSaid : Prop := scanRunsRow.holds Tryd.pinned (OpenSpec.ofChange scanRunsSpec)

/-- ITS FALSE NEIGHBOUR: 'it returns false'. Refute it at one input. -/
def scanRunsWrong : ChangeSpec := { name := "scanRuns", fn := fun _ => fun
  | [] => { results := [.lit (.bool false)], args := [] }
  | _ => none }
def ScanRunsWrongFalsely : Prop := scanRunsRow.holds Tryd.pinned (OpenSpec.ofChange scanRunsWrong)

/-- 'sordinelaw7.ScanSets': WHATEVER THE INPUT: true; the input reads as it did. -/
def scanSetsSpec : ChangeSpec := { name := "scanSets", fn := fun _ => fun
  | [d1, d2, d3] => { results := [.lit (.bool true)], args := [d1, d2, d3] }
  | _ => none }
def scanSetsRow : OpenClaim := { program := "ytonfmbnankihbaadoor", sum := "1b51ef8e9696da2833c628e84cce2b9e719289321effb8d2ff35c7f3348396e6", func := "sordine/sordinelaw7.ScanSets", spec := "scanSets", inPlace := ["internal/bytealg.IndexByteString"], recurses := true, named := ["math/bits.deBruijn64tab"], apart := false, laid := [("math/bits.deBruijn64tab", laid_math_bits_deBruijn64tab)] }
def ScanSetsSaid : Prop := scanSetsRow.holds Tryd.pinned (OpenSpec.ofChange scanSetsSpec)

/-- ITS FALSE NEIGHBOUR: 'it returns false'. Refute it at one input. -/
def scanSetsWrong : ChangeSpec := { name := "scanSets", fn := fun _ => fun
  | [d1, d2, d3] => { results := [.lit (.bool false)], args := [d1, d2, d3] }
  | _ => none }
def ScanSetsWrongFalsely : Prop := scanSetsRow.holds Tryd.pinned (OpenSpec.ofChange scanSetsWrong)

/-- 'sordinelaw7.ScanMatch': WHATEVER THE INPUT: true; the input reads as it did. -/
def scanMatchSpec : ChangeSpec := { name := "scanMatch", fn := fun _ => fun
  | [d1, d2] => { results := [.lit (.bool true)], args := [d1, d2] }
  | _ => none }
def scanMatchRow : OpenClaim := { program := "ytonfmbnankihbaadoor", sum := "1b51ef8e9696da2833c628e84cce2b9e719289321effb8d2ff35c7f3348396e6", func := "sordine/sordinelaw7.ScanMatch", spec := "scanMatch", inPlace := ["internal/bytealg.IndexByteString"], recurses := true, named := ["math/bits.deBruijn64tab"], apart := false, laid := [("math/bits.deBruijn64tab", laid_math_bits_deBruijn64tab)] }
def ScanMatchSaid : Prop := scanMatchRow.holds Tryd.pinned (OpenSpec.ofChange scanMatchSpec)

/-- ITS FALSE NEIGHBOUR: 'it returns false'. Refute it at one input. -/
def scanMatchWrong : ChangeSpec := { name := "scanMatch", fn := fun _ => fun
  | [d1, d2] => { results := [.lit (.bool false)], args := [d1, d2] }
  | _ => none }
def ScanMatchWrongFalsely : Prop := scanMatchRow.holds Tryd.pinned (OpenSpec.ofChange scanMatchWrong)

/-- 'sordinelaw7.ScanTrees': WHATEVER THE INPUT: true; the input reads as it did. -/
def scanTreesSpec : ChangeSpec := { name := "scanTrees", fn := fun _ => fun
  | [d1, d2] => { results := [.lit (.bool true)], args := [d1, d2] }
  | _ => none }
def scanTreesRow : OpenClaim := { program := "ytonfmbnankihbaadoor", sum := "1b51ef8e9696da2833c628e84cce2b9e719289321effb8d2ff35c7f3348396e6", func := "sordine/sordinelaw7.ScanTrees", spec := "scanTrees", inPlace := ["internal/bytealg.IndexByteString"], recurses := true, named := ["math/bits.deBruijn64tab"], loops := true, apart := false, laid := [("math/bits.deBruijn64tab", laid_math_bits_deBruijn64tab)] }
def ScanTreesSaid : Prop := scanTreesRow.holds Tryd.pinned (OpenSpec.ofChange scanTreesSpec)

/-- ITS FALSE NEIGHBOUR: 'it returns false'. Refute it at one input. -/
def scanTreesWrong : ChangeSpec := { name := "scanTrees", fn := fun _ => fun
  | [d1, d2] => { results := [.lit (.bool false)], args := [d1, d2] }
  | _ => none }
def ScanTreesWrongFalsely : Prop := scanTreesRow.holds Tryd.pinned (OpenSpec.ofChange scanTreesWrong)

/-- 'sordinelaw7.ScanPatterns': WHATEVER THE INPUT: true; the input reads as it did. -/
def scanPatternsSpec : ChangeSpec := { name := "scanPatterns", fn := fun _ => fun
  | [d1, d2] => { results := [.lit (.bool true)], args := [d1, d2] }
  | _ => none }
def scanPatternsRow : OpenClaim := { program := "ytonfmbnankihbaadoor", sum := "1b51ef8e9696da2833c628e84cce2b9e719289321effb8d2ff35c7f3348396e6", func := "sordine/sordinelaw7.ScanPatterns", spec := "scanPatterns", inPlace := ["internal/bytealg.IndexByteString"], recurses := true, named := ["math/bits.deBruijn64tab"], apart := false, laid := [("math/bits.deBruijn64tab", laid_math_bits_deBruijn64tab)] }
def ScanPatternsSaid : Prop := scanPatternsRow.holds Tryd.pinned (OpenSpec.ofChange scanPatternsSpec)

/-- ITS FALSE NEIGHBOUR: 'it returns false'. Refute it at one input. -/
def scanPatternsWrong : ChangeSpec := { name := "scanPatterns", fn := fun _ => fun
  | [d1, d2] => { results := [.lit (.bool false)], args := [d1, d2] }
  | _ => none }
def ScanPatternsWrongFalsely : Prop := scanPatternsRow.holds Tryd.pinned (OpenSpec.ofChange scanPatternsWrong)

/-- 'sordinelaw7.ScanWays': WHATEVER THE INPUT: true; the input reads as it did. -/
def scanWaysSpec : ChangeSpec := { name := "scanWays", fn := fun _ => fun
  | [d1, d2, d3, d4] => { results := [.lit (.bool true)], args := [d1, d2, d3, d4] }
  | _ => none }
def scanWaysRow : OpenClaim := { program := "ytonfmbnankihbaadoor", sum := "1b51ef8e9696da2833c628e84cce2b9e719289321effb8d2ff35c7f3348396e6", func := "sordine/sordinelaw7.ScanWays", spec := "scanWays", inPlace := ["internal/bytealg.IndexByteString"], recurses := true, named := ["math/bits.deBruijn64tab"], apart := false, laid := [("math/bits.deBruijn64tab", laid_math_bits_deBruijn64tab)] }
def ScanWaysSaid : Prop := scanWaysRow.holds Tryd.pinned (OpenSpec.ofChange scanWaysSpec)

/-- ITS FALSE NEIGHBOUR: 'it returns false'. Refute it at one input. -/
def scanWaysWrong : ChangeSpec := { name := "scanWays", fn := fun _ => fun
  | [d1, d2, d3, d4] => { results := [.lit (.bool false)], args := [d1, d2, d3, d4] }
  | _ => none }
def ScanWaysWrongFalsely : Prop := scanWaysRow.holds Tryd.pinned (OpenSpec.ofChange scanWaysWrong)

/-- 'sordinelaw7.ScanStates': WHATEVER THE INPUT: true; the input reads as it did. -/
def scanStatesSpec : ChangeSpec := { name := "scanStates", fn := fun _ => fun
  | [d1, d2, d3, d4] => { results := [.lit (.bool true)], args := [d1, d2, d3, d4] }
  | _ => none }
def scanStatesRow : OpenClaim := { program := "ytonfmbnankihbaadoor", sum := "1b51ef8e9696da2833c628e84cce2b9e719289321effb8d2ff35c7f3348396e6", func := "sordine/sordinelaw7.ScanStates", spec := "scanStates", inPlace := ["internal/bytealg.IndexByteString"], recurses := true, named := ["math/bits.deBruijn64tab"], apart := false, laid := [("math/bits.deBruijn64tab", laid_math_bits_deBruijn64tab)] }
def ScanStatesSaid : Prop := scanStatesRow.holds Tryd.pinned (OpenSpec.ofChange scanStatesSpec)

/-- ITS FALSE NEIGHBOUR: 'it returns false'. Refute it at one input. -/
def scanStatesWrong : ChangeSpec := { name := "scanStates", fn := fun _ => fun
  | [d1, d2, d3, d4] => { results := [.lit (.bool false)], args := [d1, d2, d3, d4] }
  | _ => none }
def ScanStatesWrongFalsely : Prop := scanStatesRow.holds Tryd.pinned (OpenSpec.ofChange scanStatesWrong)

/- THE SECOND FORM. 'bulk': how many values and letters a reading holds, each counted each time it is reached (what is shared counts as often as it is met; a slice's spare places count too). A statement '..UptoSaid' is the law's where the arguments, and the package variables that the reading takes, are together of bulk at most 1048576: NARROWER than '..Said'. Prove '..Said' where nothing that the law and all that it calls make is longer than what came in: it says more and counts as full. Else prove '..UptoSaid'. A law counts once. -/
mutual
def uptoBulk {H : Type} : DataW H → Nat
  | .lit (.string bytes) => bytes.length + 1
  | .lit _ => 1
  | .nil => 1
  | .ptr d => uptoBulk d + 1
  | .slice elems spare => uptoBulkAll elems + uptoBulkAll spare + 1
  | .agg parts => uptoBulkAll parts + 1
  | .iface _ d => uptoBulk d + 1
  | .map entries => uptoBulkEntries entries + 1
  | .held _ => 1
def uptoBulkAll {H : Type} : List (DataW H) → Nat
  | [] => 0
  | d :: r => uptoBulk d + uptoBulkAll r
def uptoBulkEntries {H : Type} : List (Lit × DataW H) → Nat
  | [] => 0
  | x :: r => uptoBulkEntry x + uptoBulkEntries r
def uptoBulkEntry {H : Type} : Lit × DataW H → Nat
  | (.string bytes, d) => bytes.length + uptoBulk d + 1
  | (_, d) => uptoBulk d + 1
 end
def uptoSmall : (H : Type) → List (DataW H) → Bool := fun _ ds => decide (uptoBulkAll ds ≤ 1048576)
def OpenSpec.upto (s : _root_.Go.ChangeSpec) : _root_.Go.OpenSpec := { _root_.Go.OpenSpec.ofChange s with cond := some uptoSmall }

/-- 'sordinelaw7.ScanRuns', WHERE WHAT IT READS IS OF BULK AT MOST 1048576: true; the input reads as it did. -/
def scanRunsUptoRow : OpenClaim := { program := "ytonfmbnankihbaadoor", sum := "1b51ef8e9696da2833c628e84cce2b9e719289321effb8d2ff35c7f3348396e6", func := "sordine/sordinelaw7.ScanRuns", spec := "scanRuns", inPlace := ["internal/bytealg.IndexByteString"], recurses := true, named := ["math/bits.deBruijn64tab"], apart := false, laid := [("math/bits.deBruijn64tab", laid_math_bits_deBruijn64tab)], narrowed := true }
def ScanRunsUptoSaid : Prop := scanRunsUptoRow.holds Tryd.pinned (OpenSpec.upto scanRunsSpec)

/-- 'sordinelaw7.ScanSets', WHERE WHAT IT READS IS OF BULK AT MOST 1048576: true; the input reads as it did. -/
def scanSetsUptoRow : OpenClaim := { program := "ytonfmbnankihbaadoor", sum := "1b51ef8e9696da2833c628e84cce2b9e719289321effb8d2ff35c7f3348396e6", func := "sordine/sordinelaw7.ScanSets", spec := "scanSets", inPlace := ["internal/bytealg.IndexByteString"], recurses := true, named := ["math/bits.deBruijn64tab"], apart := false, laid := [("math/bits.deBruijn64tab", laid_math_bits_deBruijn64tab)], narrowed := true }
def ScanSetsUptoSaid : Prop := scanSetsUptoRow.holds Tryd.pinned (OpenSpec.upto scanSetsSpec)

/-- 'sordinelaw7.ScanMatch', WHERE WHAT IT READS IS OF BULK AT MOST 1048576: true; the input reads as it did. -/
def scanMatchUptoRow : OpenClaim := { program := "ytonfmbnankihbaadoor", sum := "1b51ef8e9696da2833c628e84cce2b9e719289321effb8d2ff35c7f3348396e6", func := "sordine/sordinelaw7.ScanMatch", spec := "scanMatch", inPlace := ["internal/bytealg.IndexByteString"], recurses := true, named := ["math/bits.deBruijn64tab"], apart := false, laid := [("math/bits.deBruijn64tab", laid_math_bits_deBruijn64tab)], narrowed := true }
def ScanMatchUptoSaid : Prop := scanMatchUptoRow.holds Tryd.pinned (OpenSpec.upto scanMatchSpec)

/-- 'sordinelaw7.ScanTrees', WHERE WHAT IT READS IS OF BULK AT MOST 1048576: true; the input reads as it did. -/
def scanTreesUptoRow : OpenClaim := { program := "ytonfmbnankihbaadoor", sum := "1b51ef8e9696da2833c628e84cce2b9e719289321effb8d2ff35c7f3348396e6", func := "sordine/sordinelaw7.ScanTrees", spec := "scanTrees", inPlace := ["internal/bytealg.IndexByteString"], recurses := true, named := ["math/bits.deBruijn64tab"], loops := true, apart := false, laid := [("math/bits.deBruijn64tab", laid_math_bits_deBruijn64tab)], narrowed := true }
def ScanTreesUptoSaid : Prop := scanTreesUptoRow.holds Tryd.pinned (OpenSpec.upto scanTreesSpec)

/-- 'sordinelaw7.ScanPatterns', WHERE WHAT IT READS IS OF BULK AT MOST 1048576: true; the input reads as it did. -/
def scanPatternsUptoRow : OpenClaim := { program := "ytonfmbnankihbaadoor", sum := "1b51ef8e9696da2833c628e84cce2b9e719289321effb8d2ff35c7f3348396e6", func := "sordine/sordinelaw7.ScanPatterns", spec := "scanPatterns", inPlace := ["internal/bytealg.IndexByteString"], recurses := true, named := ["math/bits.deBruijn64tab"], apart := false, laid := [("math/bits.deBruijn64tab", laid_math_bits_deBruijn64tab)], narrowed := true }
def ScanPatternsUptoSaid : Prop := scanPatternsUptoRow.holds Tryd.pinned (OpenSpec.upto scanPatternsSpec)

/-- 'sordinelaw7.ScanWays', WHERE WHAT IT READS IS OF BULK AT MOST 1048576: true; the input reads as it did. -/
def scanWaysUptoRow : OpenClaim := { program := "ytonfmbnankihbaadoor", sum := "1b51ef8e9696da2833c628e84cce2b9e719289321effb8d2ff35c7f3348396e6", func := "sordine/sordinelaw7.ScanWays", spec := "scanWays", inPlace := ["internal/bytealg.IndexByteString"], recurses := true, named := ["math/bits.deBruijn64tab"], apart := false, laid := [("math/bits.deBruijn64tab", laid_math_bits_deBruijn64tab)], narrowed := true }
def ScanWaysUptoSaid : Prop := scanWaysUptoRow.holds Tryd.pinned (OpenSpec.upto scanWaysSpec)

/-- 'sordinelaw7.ScanStates', WHERE WHAT IT READS IS OF BULK AT MOST 1048576: true; the input reads as it did. -/
def scanStatesUptoRow : OpenClaim := { program := "ytonfmbnankihbaadoor", sum := "1b51ef8e9696da2833c628e84cce2b9e719289321effb8d2ff35c7f3348396e6", func := "sordine/sordinelaw7.ScanStates", spec := "scanStates", inPlace := ["internal/bytealg.IndexByteString"], recurses := true, named := ["math/bits.deBruijn64tab"], apart := false, laid := [("math/bits.deBruijn64tab", laid_math_bits_deBruijn64tab)], narrowed := true }
def ScanStatesUptoSaid : Prop := scanStatesUptoRow.holds Tryd.pinned (OpenSpec.upto scanStatesSpec)

end Rows
end Go.Proofs.YtonfmbnankihbaaDoor
