/-
  NARROWER THAN 'FOR EVERY INPUT', by the rows' own cells (each row's printed sentence says how): RexTrees: loops · RexStars: loops · RexWays: loops.
  DERIVED. THE GIVEN ROWS OF THIS SEAT. 8 by the template 'for every input the law returns true; each argument reads behind the call as it read before'; 0 by the template 'total and deterministic' (their statements: YteifjiadgbgkbaaTotals.lean).
  GIVEN WITH THE SEED: the statements are not yours to turn. If you find one false, say at which input.
  Laid BY PROGRAM, IN A SANDBOX (cutbox-rows.mjs): the forced cells as the released guide's own fill.sh prints them over the translation ce7125ef70e1a176… (all of the seat's roots in one cut). By AI agents, Wed Nov 11 2026. No macro, syntax, notation, axiom, sorry.
-/
import Derived.Test.YteifjiadgbgkbaaChecked
import GoSem.Claim
import GoSem.ClaimJoined
import GoSem.ClaimMapViews
import Derived.JoinedTies
import Derived.KernelRfl
namespace Go.Proofs.Yteifjiadgbgkbaa
/- THE CELL 'sum', in the pinned program and in every row, IS THE sha256 OF THE DUMP (.gsa) THAT YteifjiadgbgkbaaProg.lean LOADS. Nothing in Lean hashes anything: it is a label: what it is worth is what the hold of that sum in a sandbox is worth. -/
noncomputable def Try.pinned : Pinned := { name := "yteifjiadgbgkbaa", sum := "ce7125ef70e1a17691fbe6d7a9056438d17595e8bec048e83a51f970f3b74f8f", checked := Try.checked }
namespace Rows
def none {H : Type} : Left H := { results := [], args := [] }

/-- 'sordinelaw5.RexRuns': WHATEVER THE INPUT: true; the input reads as it did. -/
def rexRunsSpec : ChangeSpec := { name := "rexRuns", fn := fun _ => fun
  | [] => { results := [.lit (.bool true)], args := [] }
  | _ => none }
def rexRunsRow : OpenClaim := { program := "yteifjiadgbgkbaa", sum := "ce7125ef70e1a17691fbe6d7a9056438d17595e8bec048e83a51f970f3b74f8f", func := "sordine/sordinelaw5.RexRuns", spec := "rexRuns", inPlace := ["internal/bytealg.IndexByteString"], recurses := true, apart := false }
def RexRunsSaid : Prop := rexRunsRow.holds Try.pinned (OpenSpec.ofChange rexRunsSpec)

/-- ITS FALSE NEIGHBOUR: 'it returns false'. Refute it at one input. -/
def rexRunsWrong : ChangeSpec := { name := "rexRuns", fn := fun _ => fun
  | [] => { results := [.lit (.bool false)], args := [] }
  | _ => none }
def RexRunsWrongFalsely : Prop := rexRunsRow.holds Try.pinned (OpenSpec.ofChange rexRunsWrong)

/-- 'sordinelaw5.RexParses': WHATEVER THE INPUT: true; the input reads as it did. -/
def rexParsesSpec : ChangeSpec := { name := "rexParses", fn := fun _ => fun
  | [d] => { results := [.lit (.bool true)], args := [d] }
  | _ => none }
def rexParsesRow : OpenClaim := { program := "yteifjiadgbgkbaa", sum := "ce7125ef70e1a17691fbe6d7a9056438d17595e8bec048e83a51f970f3b74f8f", func := "sordine/sordinelaw5.RexParses", spec := "rexParses", inPlace := ["internal/bytealg.IndexByteString"], recurses := true, apart := false }
def RexParsesSaid : Prop := rexParsesRow.holds Try.pinned (OpenSpec.ofChange rexParsesSpec)

/-- ITS FALSE NEIGHBOUR: 'it returns false'. Refute it at one input. -/
def rexParsesWrong : ChangeSpec := { name := "rexParses", fn := fun _ => fun
  | [d] => { results := [.lit (.bool false)], args := [d] }
  | _ => none }
def RexParsesWrongFalsely : Prop := rexParsesRow.holds Try.pinned (OpenSpec.ofChange rexParsesWrong)

/-- 'sordinelaw5.RexTrees': WHATEVER THE INPUT: true; the input reads as it did. -/
def rexTreesSpec : ChangeSpec := { name := "rexTrees", fn := fun _ => fun
  | [d1, d2, d3] => { results := [.lit (.bool true)], args := [d1, d2, d3] }
  | _ => none }
def rexTreesRow : OpenClaim := { program := "yteifjiadgbgkbaa", sum := "ce7125ef70e1a17691fbe6d7a9056438d17595e8bec048e83a51f970f3b74f8f", func := "sordine/sordinelaw5.RexTrees", spec := "rexTrees", inPlace := ["internal/bytealg.IndexByteString"], recurses := true, loops := true, apart := false }
def RexTreesSaid : Prop := rexTreesRow.holds Try.pinned (OpenSpec.ofChange rexTreesSpec)

/-- ITS FALSE NEIGHBOUR: 'it returns false'. Refute it at one input. -/
def rexTreesWrong : ChangeSpec := { name := "rexTrees", fn := fun _ => fun
  | [d1, d2, d3] => { results := [.lit (.bool false)], args := [d1, d2, d3] }
  | _ => none }
def RexTreesWrongFalsely : Prop := rexTreesRow.holds Try.pinned (OpenSpec.ofChange rexTreesWrong)

/-- 'sordinelaw5.RexEnds': WHATEVER THE INPUT: true; the input reads as it did. -/
def rexEndsSpec : ChangeSpec := { name := "rexEnds", fn := fun _ => fun
  | [d1, d2] => { results := [.lit (.bool true)], args := [d1, d2] }
  | _ => none }
def rexEndsRow : OpenClaim := { program := "yteifjiadgbgkbaa", sum := "ce7125ef70e1a17691fbe6d7a9056438d17595e8bec048e83a51f970f3b74f8f", func := "sordine/sordinelaw5.RexEnds", spec := "rexEnds", inPlace := ["internal/bytealg.IndexByteString"], recurses := true, apart := false }
def RexEndsSaid : Prop := rexEndsRow.holds Try.pinned (OpenSpec.ofChange rexEndsSpec)

/-- ITS FALSE NEIGHBOUR: 'it returns false'. Refute it at one input. -/
def rexEndsWrong : ChangeSpec := { name := "rexEnds", fn := fun _ => fun
  | [d1, d2] => { results := [.lit (.bool false)], args := [d1, d2] }
  | _ => none }
def RexEndsWrongFalsely : Prop := rexEndsRow.holds Try.pinned (OpenSpec.ofChange rexEndsWrong)

/-- 'sordinelaw5.RexStars': WHATEVER THE INPUT: true; the input reads as it did. -/
def rexStarsSpec : ChangeSpec := { name := "rexStars", fn := fun _ => fun
  | [d1, d2] => { results := [.lit (.bool true)], args := [d1, d2] }
  | _ => none }
def rexStarsRow : OpenClaim := { program := "yteifjiadgbgkbaa", sum := "ce7125ef70e1a17691fbe6d7a9056438d17595e8bec048e83a51f970f3b74f8f", func := "sordine/sordinelaw5.RexStars", spec := "rexStars", inPlace := ["internal/bytealg.IndexByteString"], recurses := true, loops := true, apart := false }
def RexStarsSaid : Prop := rexStarsRow.holds Try.pinned (OpenSpec.ofChange rexStarsSpec)

/-- ITS FALSE NEIGHBOUR: 'it returns false'. Refute it at one input. -/
def rexStarsWrong : ChangeSpec := { name := "rexStars", fn := fun _ => fun
  | [d1, d2] => { results := [.lit (.bool false)], args := [d1, d2] }
  | _ => none }
def RexStarsWrongFalsely : Prop := rexStarsRow.holds Try.pinned (OpenSpec.ofChange rexStarsWrong)

/-- 'sordinelaw5.RexWays': WHATEVER THE INPUT: true; the input reads as it did. -/
def rexWaysSpec : ChangeSpec := { name := "rexWays", fn := fun _ => fun
  | [d1, d2, d3, d4] => { results := [.lit (.bool true)], args := [d1, d2, d3, d4] }
  | _ => none }
def rexWaysRow : OpenClaim := { program := "yteifjiadgbgkbaa", sum := "ce7125ef70e1a17691fbe6d7a9056438d17595e8bec048e83a51f970f3b74f8f", func := "sordine/sordinelaw5.RexWays", spec := "rexWays", inPlace := ["internal/bytealg.IndexByteString"], recurses := true, loops := true, apart := false }
def RexWaysSaid : Prop := rexWaysRow.holds Try.pinned (OpenSpec.ofChange rexWaysSpec)

/-- ITS FALSE NEIGHBOUR: 'it returns false'. Refute it at one input. -/
def rexWaysWrong : ChangeSpec := { name := "rexWays", fn := fun _ => fun
  | [d1, d2, d3, d4] => { results := [.lit (.bool false)], args := [d1, d2, d3, d4] }
  | _ => none }
def RexWaysWrongFalsely : Prop := rexWaysRow.holds Try.pinned (OpenSpec.ofChange rexWaysWrong)

/-- 'sordinelaw5.RexPlain': WHATEVER THE INPUT: true; the input reads as it did. -/
def rexPlainSpec : ChangeSpec := { name := "rexPlain", fn := fun _ => fun
  | [d1, d2] => { results := [.lit (.bool true)], args := [d1, d2] }
  | _ => none }
def rexPlainRow : OpenClaim := { program := "yteifjiadgbgkbaa", sum := "ce7125ef70e1a17691fbe6d7a9056438d17595e8bec048e83a51f970f3b74f8f", func := "sordine/sordinelaw5.RexPlain", spec := "rexPlain", inPlace := ["internal/bytealg.IndexByteString"], recurses := true, apart := false }
def RexPlainSaid : Prop := rexPlainRow.holds Try.pinned (OpenSpec.ofChange rexPlainSpec)

/-- ITS FALSE NEIGHBOUR: 'it returns false'. Refute it at one input. -/
def rexPlainWrong : ChangeSpec := { name := "rexPlain", fn := fun _ => fun
  | [d1, d2] => { results := [.lit (.bool false)], args := [d1, d2] }
  | _ => none }
def RexPlainWrongFalsely : Prop := rexPlainRow.holds Try.pinned (OpenSpec.ofChange rexPlainWrong)

/-- 'sordinelaw5.RexDeep': WHATEVER THE INPUT: true; the input reads as it did. -/
def rexDeepSpec : ChangeSpec := { name := "rexDeep", fn := fun _ => fun
  | [d1, d2] => { results := [.lit (.bool true)], args := [d1, d2] }
  | _ => none }
def rexDeepRow : OpenClaim := { program := "yteifjiadgbgkbaa", sum := "ce7125ef70e1a17691fbe6d7a9056438d17595e8bec048e83a51f970f3b74f8f", func := "sordine/sordinelaw5.RexDeep", spec := "rexDeep", inPlace := ["internal/bytealg.IndexByteString"], recurses := true, apart := false }
def RexDeepSaid : Prop := rexDeepRow.holds Try.pinned (OpenSpec.ofChange rexDeepSpec)

/-- ITS FALSE NEIGHBOUR: 'it returns false'. Refute it at one input. -/
def rexDeepWrong : ChangeSpec := { name := "rexDeep", fn := fun _ => fun
  | [d1, d2] => { results := [.lit (.bool false)], args := [d1, d2] }
  | _ => none }
def RexDeepWrongFalsely : Prop := rexDeepRow.holds Try.pinned (OpenSpec.ofChange rexDeepWrong)

/- THE SECOND FORM. 'bulk': how many values and letters a reading holds, each counted each time it is reached (what is shared counts as often as it is met; a slice's spare places count too). A statement '..UptoSaid' is the law's where the arguments, and the package variables that the reading takes, are together of bulk at most 1048576: NARROWER than '..Said'. Prove '..Said' where nothing that the law and all that it calls make is longer than what came in: it says more and counts as full. Else prove '..UptoSaid'. A law counts once. -/
mutual
def uptoBulk {H : Type} : DataW H → Nat
  | .lit (.string bytes) => bytes.length + 1
  | .lit _ => 1
  | .nil => 1
  | .ptr d => uptoBulk d + 1
  | .slice elems spare => uptoBulkAll elems + uptoBulkAll spare + 1
  | .agg parts => uptoBulkAll parts + 1
  | .iface _ d => uptoBulk d + 1
  | .map entries => uptoBulkEntries entries + 1
  | .held _ => 1
def uptoBulkAll {H : Type} : List (DataW H) → Nat
  | [] => 0
  | d :: r => uptoBulk d + uptoBulkAll r
def uptoBulkEntries {H : Type} : List (Lit × DataW H) → Nat
  | [] => 0
  | x :: r => uptoBulkEntry x + uptoBulkEntries r
def uptoBulkEntry {H : Type} : Lit × DataW H → Nat
  | (.string bytes, d) => bytes.length + uptoBulk d + 1
  | (_, d) => uptoBulk d + 1
 end
def uptoSmall : (H : Type) → List (DataW H) → Bool := fun _ ds => decide (uptoBulkAll ds ≤ 1048576)
def OpenSpec.upto (s : _root_.Go.ChangeSpec) : _root_.Go.OpenSpec := { _root_.Go.OpenSpec.ofChange s with cond := some uptoSmall }

/-- 'sordinelaw5.RexRuns', WHERE WHAT IT READS IS OF BULK AT MOST 1048576: true; the input reads as it did. -/
def rexRunsUptoRow : OpenClaim := { program := "yteifjiadgbgkbaa", sum := "ce7125ef70e1a17691fbe6d7a9056438d17595e8bec048e83a51f970f3b74f8f", func := "sordine/sordinelaw5.RexRuns", spec := "rexRuns", inPlace := ["internal/bytealg.IndexByteString"], recurses := true, apart := false, narrowed := true }
def RexRunsUptoSaid : Prop := rexRunsUptoRow.holds Try.pinned (OpenSpec.upto rexRunsSpec)

/-- 'sordinelaw5.RexParses', WHERE WHAT IT READS IS OF BULK AT MOST 1048576: true; the input reads as it did. -/
def rexParsesUptoRow : OpenClaim := { program := "yteifjiadgbgkbaa", sum := "ce7125ef70e1a17691fbe6d7a9056438d17595e8bec048e83a51f970f3b74f8f", func := "sordine/sordinelaw5.RexParses", spec := "rexParses", inPlace := ["internal/bytealg.IndexByteString"], recurses := true, apart := false, narrowed := true }
def RexParsesUptoSaid : Prop := rexParsesUptoRow.holds Try.pinned (OpenSpec.upto rexParsesSpec)

/-- 'sordinelaw5.RexTrees', WHERE WHAT IT READS IS OF BULK AT MOST 1048576: true; the input reads as it did. -/
def rexTreesUptoRow : OpenClaim := { program := "yteifjiadgbgkbaa", sum := "ce7125ef70e1a17691fbe6d7a9056438d17595e8bec048e83a51f970f3b74f8f", func := "sordine/sordinelaw5.RexTrees", spec := "rexTrees", inPlace := ["internal/bytealg.IndexByteString"], recurses := true, loops := true, apart := false, narrowed := true }
def RexTreesUptoSaid : Prop := rexTreesUptoRow.holds Try.pinned (OpenSpec.upto rexTreesSpec)

/-- 'sordinelaw5.RexEnds', WHERE WHAT IT READS IS OF BULK AT MOST 1048576: true; the input reads as it did. -/
def rexEndsUptoRow : OpenClaim := { program := "yteifjiadgbgkbaa", sum := "ce7125ef70e1a17691fbe6d7a9056438d17595e8bec048e83a51f970f3b74f8f", func := "sordine/sordinelaw5.RexEnds", spec := "rexEnds", inPlace := ["internal/bytealg.IndexByteString"], recurses := true, apart := false, narrowed := true }
def RexEndsUptoSaid : Prop := rexEndsUptoRow.holds Try.pinned (OpenSpec.upto rexEndsSpec)

/-- 'sordinelaw5.RexStars', WHERE WHAT IT READS IS OF BULK AT MOST 1048576: true; the input reads as it did. -/
def rexStarsUptoRow : OpenClaim := { program := "yteifjiadgbgkbaa", sum := "ce7125ef70e1a17691fbe6d7a9056438d17595e8bec048e83a51f970f3b74f8f", func := "sordine/sordinelaw5.RexStars", spec := "rexStars", inPlace := ["internal/bytealg.IndexByteString"], recurses := true, loops := true, apart := false, narrowed := true }
def RexStarsUptoSaid : Prop := rexStarsUptoRow.holds Try.pinned (OpenSpec.upto rexStarsSpec)

/-- 'sordinelaw5.RexWays', WHERE WHAT IT READS IS OF BULK AT MOST 1048576: true; the input reads as it did. -/
def rexWaysUptoRow : OpenClaim := { program := "yteifjiadgbgkbaa", sum := "ce7125ef70e1a17691fbe6d7a9056438d17595e8bec048e83a51f970f3b74f8f", func := "sordine/sordinelaw5.RexWays", spec := "rexWays", inPlace := ["internal/bytealg.IndexByteString"], recurses := true, loops := true, apart := false, narrowed := true }
def RexWaysUptoSaid : Prop := rexWaysUptoRow.holds Try.pinned (OpenSpec.upto rexWaysSpec)

/-- 'sordinelaw5.RexPlain', WHERE WHAT IT READS IS OF BULK AT MOST 1048576: true; the input reads as it did. -/
def rexPlainUptoRow : OpenClaim := { program := "yteifjiadgbgkbaa", sum := "ce7125ef70e1a17691fbe6d7a9056438d17595e8bec048e83a51f970f3b74f8f", func := "sordine/sordinelaw5.RexPlain", spec := "rexPlain", inPlace := ["internal/bytealg.IndexByteString"], recurses := true, apart := false, narrowed := true }
def RexPlainUptoSaid : Prop := rexPlainUptoRow.holds Try.pinned (OpenSpec.upto rexPlainSpec)

/-- 'sordinelaw5.RexDeep', WHERE WHAT IT READS IS OF BULK AT MOST 1048576: true; the input reads as it did. -/
def rexDeepUptoRow : OpenClaim := { program := "yteifjiadgbgkbaa", sum := "ce7125ef70e1a17691fbe6d7a9056438d17595e8bec048e83a51f970f3b74f8f", func := "sordine/sordinelaw5.RexDeep", spec := "rexDeep", inPlace := ["internal/bytealg.IndexByteString"], recurses := true, apart := false, narrowed := true }
def RexDeepUptoSaid : Prop := rexDeepUptoRow.holds Try.pinned (OpenSpec.upto rexDeepSpec)

end Rows
end Go.Proofs.Yteifjiadgbgkbaa
