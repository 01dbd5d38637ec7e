/-
  NARROWER THAN 'FOR EVERY INPUT', by the rows' own cells (each row's printed sentence says how): MatchRuns: laid · MatchAsk: laid · MatchLists: laid · MatchDrawn: laid · MatchBytes: laid · MatchBack: laid · MatchNot: laid · MatchAbsent: laid.
  DERIVED. THE GIVEN ROWS OF THIS SEAT. 8 by the template 'for every input the law returns true; each argument reads behind the call as it read before'; 0 by the template 'total and deterministic' (their statements: YtjmojjjgifkkiaaDoorTotals.lean).
  GIVEN WITH THE SEED: the statements are not yours to turn. If you find one false, say at which input.
  Laid BY PROGRAM, IN A SANDBOX (cutbox-rows.mjs): the forced cells as the released guide's own fill.sh prints them over the translation e0dba097e3f9d436… (all of the seat's roots in one cut). By AI agents, Wed Nov 11 2026. No macro, syntax, notation, axiom, sorry.
-/
import Derived.Test.YtjmojjjgifkkiaaDoorChecked
import GoSem.Claim
import GoSem.ClaimJoined
import GoSem.ClaimMapViews
import Derived.JoinedTies
import Derived.KernelRfl
namespace Go.Proofs.YtjmojjjgifkkiaaDoor
/- THE CELL 'sum', in the pinned program and in every row, IS THE sha256 OF THE DUMP (.gsa) THAT YtjmojjjgifkkiaaDoorProg.lean LOADS. Nothing in Lean hashes anything: it is a label: what it is worth is what the hold of that sum in a sandbox is worth. -/
noncomputable def Tryd.pinned : Pinned := { name := "ytjmojjjgifkkiaadoor", sum := "e0dba097e3f9d436fad2f5e2e225c56def878f38fb272ce420e6b6cb5c7917b7", checked := Tryd.checked }
namespace Rows
def none {H : Type} : Left H := { results := [], args := [] }

/- WHAT THE LISTED PACKAGE-LEVEL VARIABLES READ AS WHEN THE CALL BEGINS. Each datum BY PROGRAM (the guide's laid-datum.mjs) off the statement by which the dump's own 'gosem.cut.vars' lays the variable. In a bare row this is a premise. The card (YtjmojjjgifkkiaaDoorCards.lean) ties it to the program's text. -/
def laid_math_bits_deBruijn64tab {H : Type} : DataW H := .agg [.lit (.int .u8 0), .lit (.int .u8 1), .lit (.int .u8 56), .lit (.int .u8 2), .lit (.int .u8 57), .lit (.int .u8 49), .lit (.int .u8 28), .lit (.int .u8 3), .lit (.int .u8 61), .lit (.int .u8 58), .lit (.int .u8 42), .lit (.int .u8 50), .lit (.int .u8 38), .lit (.int .u8 29), .lit (.int .u8 17), .lit (.int .u8 4), .lit (.int .u8 62), .lit (.int .u8 47), .lit (.int .u8 59), .lit (.int .u8 36), .lit (.int .u8 45), .lit (.int .u8 43), .lit (.int .u8 51), .lit (.int .u8 22), .lit (.int .u8 53), .lit (.int .u8 39), .lit (.int .u8 33), .lit (.int .u8 30), .lit (.int .u8 24), .lit (.int .u8 18), .lit (.int .u8 12), .lit (.int .u8 5), .lit (.int .u8 63), .lit (.int .u8 55), .lit (.int .u8 48), .lit (.int .u8 27), .lit (.int .u8 60), .lit (.int .u8 41), .lit (.int .u8 37), .lit (.int .u8 16), .lit (.int .u8 46), .lit (.int .u8 35), .lit (.int .u8 44), .lit (.int .u8 21), .lit (.int .u8 52), .lit (.int .u8 32), .lit (.int .u8 23), .lit (.int .u8 11), .lit (.int .u8 54), .lit (.int .u8 26), .lit (.int .u8 40), .lit (.int .u8 15), .lit (.int .u8 34), .lit (.int .u8 20), .lit (.int .u8 31), .lit (.int .u8 10), .lit (.int .u8 25), .lit (.int .u8 14), .lit (.int .u8 19), .lit (.int .u8 9), .lit (.int .u8 13), .lit (.int .u8 8), .lit (.int .u8 7), .lit (.int .u8 6)]

/-- 'sordinelaw8.MatchRuns': WHATEVER THE INPUT: true; the input reads as it did. -/
def matchRunsSpec : ChangeSpec := { name := "matchRuns", fn := fun _ => fun
  | [] => { results := [.lit (.bool true)], args := [] }
  | _ => none }
def matchRunsRow : OpenClaim := { program := "ytjmojjjgifkkiaadoor", sum := "e0dba097e3f9d436fad2f5e2e225c56def878f38fb272ce420e6b6cb5c7917b7", func := "sordine/sordinelaw8.MatchRuns", spec := "matchRuns", inPlace := ["internal/bytealg.IndexByteString"], recurses := true, named := ["math/bits.deBruijn64tab"], apart := false, laid := [("math/bits.deBruijn64tab", laid_math_bits_deBruijn64tab)] }
def MatchRunsSaid : Prop := matchRunsRow.holds Tryd.pinned (OpenSpec.ofChange matchRunsSpec)

/-- ITS FALSE NEIGHBOUR: 'it returns false'. Refute it at one input. -/
def matchRunsWrong : ChangeSpec := { name := "matchRuns", fn := fun _ => fun
  | [] => { results := [.lit (.bool false)], args := [] }
  | _ => none }
def MatchRunsWrongFalsely : Prop := matchRunsRow.holds Tryd.pinned (OpenSpec.ofChange matchRunsWrong)

/-- 'sordinelaw8.MatchAsk': WHATEVER THE INPUT: true; the input reads as it did. -/
def matchAskSpec : ChangeSpec := { name := "matchAsk", fn := fun _ => fun
  | [d1, d2] => { results := [.lit (.bool true)], args := [d1, d2] }
  | _ => none }
def matchAskRow : OpenClaim := { program := "ytjmojjjgifkkiaadoor", sum := "e0dba097e3f9d436fad2f5e2e225c56def878f38fb272ce420e6b6cb5c7917b7", func := "sordine/sordinelaw8.MatchAsk", spec := "matchAsk", inPlace := ["internal/bytealg.IndexByteString"], recurses := true, named := ["math/bits.deBruijn64tab"], apart := false, laid := [("math/bits.deBruijn64tab", laid_math_bits_deBruijn64tab)] }
def MatchAskSaid : Prop := matchAskRow.holds Tryd.pinned (OpenSpec.ofChange matchAskSpec)

/-- ITS FALSE NEIGHBOUR: 'it returns false'. Refute it at one input. -/
def matchAskWrong : ChangeSpec := { name := "matchAsk", fn := fun _ => fun
  | [d1, d2] => { results := [.lit (.bool false)], args := [d1, d2] }
  | _ => none }
def MatchAskWrongFalsely : Prop := matchAskRow.holds Tryd.pinned (OpenSpec.ofChange matchAskWrong)

/-- 'sordinelaw8.MatchLists': WHATEVER THE INPUT: true; the input reads as it did. -/
def matchListsSpec : ChangeSpec := { name := "matchLists", fn := fun _ => fun
  | [d1, d2] => { results := [.lit (.bool true)], args := [d1, d2] }
  | _ => none }
def matchListsRow : OpenClaim := { program := "ytjmojjjgifkkiaadoor", sum := "e0dba097e3f9d436fad2f5e2e225c56def878f38fb272ce420e6b6cb5c7917b7", func := "sordine/sordinelaw8.MatchLists", spec := "matchLists", inPlace := ["internal/bytealg.IndexByteString", "internal/bytealg.abigen_runtime_cmpstring"], recurses := true, named := ["math/bits.deBruijn64tab"], apart := false, laid := [("math/bits.deBruijn64tab", laid_math_bits_deBruijn64tab)] }
def MatchListsSaid : Prop := matchListsRow.holds Tryd.pinned (OpenSpec.ofChange matchListsSpec)

/-- ITS FALSE NEIGHBOUR: 'it returns false'. Refute it at one input. -/
def matchListsWrong : ChangeSpec := { name := "matchLists", fn := fun _ => fun
  | [d1, d2] => { results := [.lit (.bool false)], args := [d1, d2] }
  | _ => none }
def MatchListsWrongFalsely : Prop := matchListsRow.holds Tryd.pinned (OpenSpec.ofChange matchListsWrong)

/-- 'sordinelaw8.MatchDrawn': WHATEVER THE INPUT: true; the input reads as it did. -/
def matchDrawnSpec : ChangeSpec := { name := "matchDrawn", fn := fun _ => fun
  | [d1, d2] => { results := [.lit (.bool true)], args := [d1, d2] }
  | _ => none }
def matchDrawnRow : OpenClaim := { program := "ytjmojjjgifkkiaadoor", sum := "e0dba097e3f9d436fad2f5e2e225c56def878f38fb272ce420e6b6cb5c7917b7", func := "sordine/sordinelaw8.MatchDrawn", spec := "matchDrawn", inPlace := ["internal/bytealg.IndexByteString", "internal/bytealg.abigen_runtime_cmpstring"], recurses := true, named := ["math/bits.deBruijn64tab"], apart := false, laid := [("math/bits.deBruijn64tab", laid_math_bits_deBruijn64tab)] }
def MatchDrawnSaid : Prop := matchDrawnRow.holds Tryd.pinned (OpenSpec.ofChange matchDrawnSpec)

/-- ITS FALSE NEIGHBOUR: 'it returns false'. Refute it at one input. -/
def matchDrawnWrong : ChangeSpec := { name := "matchDrawn", fn := fun _ => fun
  | [d1, d2] => { results := [.lit (.bool false)], args := [d1, d2] }
  | _ => none }
def MatchDrawnWrongFalsely : Prop := matchDrawnRow.holds Tryd.pinned (OpenSpec.ofChange matchDrawnWrong)

/-- 'sordinelaw8.MatchBytes': WHATEVER THE INPUT: true; the input reads as it did. -/
def matchBytesSpec : ChangeSpec := { name := "matchBytes", fn := fun _ => fun
  | [d1, d2] => { results := [.lit (.bool true)], args := [d1, d2] }
  | _ => none }
def matchBytesRow : OpenClaim := { program := "ytjmojjjgifkkiaadoor", sum := "e0dba097e3f9d436fad2f5e2e225c56def878f38fb272ce420e6b6cb5c7917b7", func := "sordine/sordinelaw8.MatchBytes", spec := "matchBytes", inPlace := ["internal/bytealg.IndexByteString", "internal/bytealg.abigen_runtime_cmpstring"], recurses := true, named := ["math/bits.deBruijn64tab"], apart := false, laid := [("math/bits.deBruijn64tab", laid_math_bits_deBruijn64tab)] }
def MatchBytesSaid : Prop := matchBytesRow.holds Tryd.pinned (OpenSpec.ofChange matchBytesSpec)

/-- ITS FALSE NEIGHBOUR: 'it returns false'. Refute it at one input. -/
def matchBytesWrong : ChangeSpec := { name := "matchBytes", fn := fun _ => fun
  | [d1, d2] => { results := [.lit (.bool false)], args := [d1, d2] }
  | _ => none }
def MatchBytesWrongFalsely : Prop := matchBytesRow.holds Tryd.pinned (OpenSpec.ofChange matchBytesWrong)

/-- 'sordinelaw8.MatchBack': WHATEVER THE INPUT: true; the input reads as it did. -/
def matchBackSpec : ChangeSpec := { name := "matchBack", fn := fun _ => fun
  | [d1, d2, d3] => { results := [.lit (.bool true)], args := [d1, d2, d3] }
  | _ => none }
def matchBackRow : OpenClaim := { program := "ytjmojjjgifkkiaadoor", sum := "e0dba097e3f9d436fad2f5e2e225c56def878f38fb272ce420e6b6cb5c7917b7", func := "sordine/sordinelaw8.MatchBack", spec := "matchBack", inPlace := ["internal/bytealg.IndexByteString", "internal/bytealg.abigen_runtime_cmpstring"], recurses := true, named := ["math/bits.deBruijn64tab"], apart := false, laid := [("math/bits.deBruijn64tab", laid_math_bits_deBruijn64tab)] }
def MatchBackSaid : Prop := matchBackRow.holds Tryd.pinned (OpenSpec.ofChange matchBackSpec)

/-- ITS FALSE NEIGHBOUR: 'it returns false'. Refute it at one input. -/
def matchBackWrong : ChangeSpec := { name := "matchBack", fn := fun _ => fun
  | [d1, d2, d3] => { results := [.lit (.bool false)], args := [d1, d2, d3] }
  | _ => none }
def MatchBackWrongFalsely : Prop := matchBackRow.holds Tryd.pinned (OpenSpec.ofChange matchBackWrong)

/-- 'sordinelaw8.MatchNot': WHATEVER THE INPUT: true; the input reads as it did. -/
def matchNotSpec : ChangeSpec := { name := "matchNot", fn := fun _ => fun
  | [d1, d2] => { results := [.lit (.bool true)], args := [d1, d2] }
  | _ => none }
def matchNotRow : OpenClaim := { program := "ytjmojjjgifkkiaadoor", sum := "e0dba097e3f9d436fad2f5e2e225c56def878f38fb272ce420e6b6cb5c7917b7", func := "sordine/sordinelaw8.MatchNot", spec := "matchNot", inPlace := ["internal/bytealg.IndexByteString"], recurses := true, named := ["math/bits.deBruijn64tab"], apart := false, laid := [("math/bits.deBruijn64tab", laid_math_bits_deBruijn64tab)] }
def MatchNotSaid : Prop := matchNotRow.holds Tryd.pinned (OpenSpec.ofChange matchNotSpec)

/-- ITS FALSE NEIGHBOUR: 'it returns false'. Refute it at one input. -/
def matchNotWrong : ChangeSpec := { name := "matchNot", fn := fun _ => fun
  | [d1, d2] => { results := [.lit (.bool false)], args := [d1, d2] }
  | _ => none }
def MatchNotWrongFalsely : Prop := matchNotRow.holds Tryd.pinned (OpenSpec.ofChange matchNotWrong)

/-- 'sordinelaw8.MatchAbsent': WHATEVER THE INPUT: true; the input reads as it did. -/
def matchAbsentSpec : ChangeSpec := { name := "matchAbsent", fn := fun _ => fun
  | [d1, d2] => { results := [.lit (.bool true)], args := [d1, d2] }
  | _ => none }
def matchAbsentRow : OpenClaim := { program := "ytjmojjjgifkkiaadoor", sum := "e0dba097e3f9d436fad2f5e2e225c56def878f38fb272ce420e6b6cb5c7917b7", func := "sordine/sordinelaw8.MatchAbsent", spec := "matchAbsent", inPlace := ["internal/bytealg.IndexByteString"], recurses := true, named := ["math/bits.deBruijn64tab"], apart := false, laid := [("math/bits.deBruijn64tab", laid_math_bits_deBruijn64tab)] }
def MatchAbsentSaid : Prop := matchAbsentRow.holds Tryd.pinned (OpenSpec.ofChange matchAbsentSpec)

/-- ITS FALSE NEIGHBOUR: 'it returns false'. Refute it at one input. -/
def matchAbsentWrong : ChangeSpec := { name := "matchAbsent", fn := fun _ => fun
  | [d1, d2] => { results := [.lit (.bool false)], args := [d1, d2] }
  | _ => none }
def MatchAbsentWrongFalsely : Prop := matchAbsentRow.holds Tryd.pinned (OpenSpec.ofChange matchAbsentWrong)

/- THE SECOND FORM. 'bulk': how many values and letters a reading holds, each counted each time it is reached (what is shared counts as often as it is met; a slice's spare places count too). A statement '..UptoSaid' is the law's where the arguments, and the package variables that the reading takes, are together of bulk at most 1048576: NARROWER than '..Said'. Prove '..Said' where nothing that the law and all that it calls make is longer than what came in: it says more and counts as full. Else prove '..UptoSaid'. A law counts once. -/
mutual
def uptoBulk {H : Type} : DataW H → Nat
  | .lit (.string bytes) => bytes.length + 1
  | .lit _ => 1
  | .nil => 1
  | .ptr d => uptoBulk d + 1
  | .slice elems spare => uptoBulkAll elems + uptoBulkAll spare + 1
  | .agg parts => uptoBulkAll parts + 1
  | .iface _ d => uptoBulk d + 1
  | .map entries => uptoBulkEntries entries + 1
  | .held _ => 1
def uptoBulkAll {H : Type} : List (DataW H) → Nat
  | [] => 0
  | d :: r => uptoBulk d + uptoBulkAll r
def uptoBulkEntries {H : Type} : List (Lit × DataW H) → Nat
  | [] => 0
  | x :: r => uptoBulkEntry x + uptoBulkEntries r
def uptoBulkEntry {H : Type} : Lit × DataW H → Nat
  | (.string bytes, d) => bytes.length + uptoBulk d + 1
  | (_, d) => uptoBulk d + 1
 end
def uptoSmall : (H : Type) → List (DataW H) → Bool := fun _ ds => decide (uptoBulkAll ds ≤ 1048576)
def OpenSpec.upto (s : _root_.Go.ChangeSpec) : _root_.Go.OpenSpec := { _root_.Go.OpenSpec.ofChange s with cond := some uptoSmall }

/-- 'sordinelaw8.MatchRuns', WHERE WHAT IT READS IS OF BULK AT MOST 1048576: true; the input reads as it did. -/
def matchRunsUptoRow : OpenClaim := { program := "ytjmojjjgifkkiaadoor", sum := "e0dba097e3f9d436fad2f5e2e225c56def878f38fb272ce420e6b6cb5c7917b7", func := "sordine/sordinelaw8.MatchRuns", spec := "matchRuns", inPlace := ["internal/bytealg.IndexByteString"], recurses := true, named := ["math/bits.deBruijn64tab"], apart := false, laid := [("math/bits.deBruijn64tab", laid_math_bits_deBruijn64tab)], narrowed := true }
def MatchRunsUptoSaid : Prop := matchRunsUptoRow.holds Tryd.pinned (OpenSpec.upto matchRunsSpec)

/-- 'sordinelaw8.MatchAsk', WHERE WHAT IT READS IS OF BULK AT MOST 1048576: true; the input reads as it did. -/
def matchAskUptoRow : OpenClaim := { program := "ytjmojjjgifkkiaadoor", sum := "e0dba097e3f9d436fad2f5e2e225c56def878f38fb272ce420e6b6cb5c7917b7", func := "sordine/sordinelaw8.MatchAsk", spec := "matchAsk", inPlace := ["internal/bytealg.IndexByteString"], recurses := true, named := ["math/bits.deBruijn64tab"], apart := false, laid := [("math/bits.deBruijn64tab", laid_math_bits_deBruijn64tab)], narrowed := true }
def MatchAskUptoSaid : Prop := matchAskUptoRow.holds Tryd.pinned (OpenSpec.upto matchAskSpec)

/-- 'sordinelaw8.MatchLists', WHERE WHAT IT READS IS OF BULK AT MOST 1048576: true; the input reads as it did. -/
def matchListsUptoRow : OpenClaim := { program := "ytjmojjjgifkkiaadoor", sum := "e0dba097e3f9d436fad2f5e2e225c56def878f38fb272ce420e6b6cb5c7917b7", func := "sordine/sordinelaw8.MatchLists", spec := "matchLists", inPlace := ["internal/bytealg.IndexByteString", "internal/bytealg.abigen_runtime_cmpstring"], recurses := true, named := ["math/bits.deBruijn64tab"], apart := false, laid := [("math/bits.deBruijn64tab", laid_math_bits_deBruijn64tab)], narrowed := true }
def MatchListsUptoSaid : Prop := matchListsUptoRow.holds Tryd.pinned (OpenSpec.upto matchListsSpec)

/-- 'sordinelaw8.MatchDrawn', WHERE WHAT IT READS IS OF BULK AT MOST 1048576: true; the input reads as it did. -/
def matchDrawnUptoRow : OpenClaim := { program := "ytjmojjjgifkkiaadoor", sum := "e0dba097e3f9d436fad2f5e2e225c56def878f38fb272ce420e6b6cb5c7917b7", func := "sordine/sordinelaw8.MatchDrawn", spec := "matchDrawn", inPlace := ["internal/bytealg.IndexByteString", "internal/bytealg.abigen_runtime_cmpstring"], recurses := true, named := ["math/bits.deBruijn64tab"], apart := false, laid := [("math/bits.deBruijn64tab", laid_math_bits_deBruijn64tab)], narrowed := true }
def MatchDrawnUptoSaid : Prop := matchDrawnUptoRow.holds Tryd.pinned (OpenSpec.upto matchDrawnSpec)

/-- 'sordinelaw8.MatchBytes', WHERE WHAT IT READS IS OF BULK AT MOST 1048576: true; the input reads as it did. -/
def matchBytesUptoRow : OpenClaim := { program := "ytjmojjjgifkkiaadoor", sum := "e0dba097e3f9d436fad2f5e2e225c56def878f38fb272ce420e6b6cb5c7917b7", func := "sordine/sordinelaw8.MatchBytes", spec := "matchBytes", inPlace := ["internal/bytealg.IndexByteString", "internal/bytealg.abigen_runtime_cmpstring"], recurses := true, named := ["math/bits.deBruijn64tab"], apart := false, laid := [("math/bits.deBruijn64tab", laid_math_bits_deBruijn64tab)], narrowed := true }
def MatchBytesUptoSaid : Prop := matchBytesUptoRow.holds Tryd.pinned (OpenSpec.upto matchBytesSpec)

/-- 'sordinelaw8.MatchBack', WHERE WHAT IT READS IS OF BULK AT MOST 1048576: true; the input reads as it did. -/
def matchBackUptoRow : OpenClaim := { program := "ytjmojjjgifkkiaadoor", sum := "e0dba097e3f9d436fad2f5e2e225c56def878f38fb272ce420e6b6cb5c7917b7", func := "sordine/sordinelaw8.MatchBack", spec := "matchBack", inPlace := ["internal/bytealg.IndexByteString", "internal/bytealg.abigen_runtime_cmpstring"], recurses := true, named := ["math/bits.deBruijn64tab"], apart := false, laid := [("math/bits.deBruijn64tab", laid_math_bits_deBruijn64tab)], narrowed := true }
def MatchBackUptoSaid : Prop := matchBackUptoRow.holds Tryd.pinned (OpenSpec.upto matchBackSpec)

/-- 'sordinelaw8.MatchNot', WHERE WHAT IT READS IS OF BULK AT MOST 1048576: true; the input reads as it did. -/
def matchNotUptoRow : OpenClaim := { program := "ytjmojjjgifkkiaadoor", sum := "e0dba097e3f9d436fad2f5e2e225c56def878f38fb272ce420e6b6cb5c7917b7", func := "sordine/sordinelaw8.MatchNot", spec := "matchNot", inPlace := ["internal/bytealg.IndexByteString"], recurses := true, named := ["math/bits.deBruijn64tab"], apart := false, laid := [("math/bits.deBruijn64tab", laid_math_bits_deBruijn64tab)], narrowed := true }
def MatchNotUptoSaid : Prop := matchNotUptoRow.holds Tryd.pinned (OpenSpec.upto matchNotSpec)

/-- 'sordinelaw8.MatchAbsent', WHERE WHAT IT READS IS OF BULK AT MOST 1048576: true; the input reads as it did. -/
def matchAbsentUptoRow : OpenClaim := { program := "ytjmojjjgifkkiaadoor", sum := "e0dba097e3f9d436fad2f5e2e225c56def878f38fb272ce420e6b6cb5c7917b7", func := "sordine/sordinelaw8.MatchAbsent", spec := "matchAbsent", inPlace := ["internal/bytealg.IndexByteString"], recurses := true, named := ["math/bits.deBruijn64tab"], apart := false, laid := [("math/bits.deBruijn64tab", laid_math_bits_deBruijn64tab)], narrowed := true }
def MatchAbsentUptoSaid : Prop := matchAbsentUptoRow.holds Tryd.pinned (OpenSpec.upto matchAbsentSpec)

end Rows
end Go.Proofs.YtjmojjjgifkkiaaDoor
