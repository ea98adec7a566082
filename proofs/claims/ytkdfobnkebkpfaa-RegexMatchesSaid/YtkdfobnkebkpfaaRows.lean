/-
  NARROWER THAN 'FOR EVERY INPUT', by the rows' own cells (each row's printed sentence says how): RegexChecks: loops · RegexTexts: loops · RegexMatches: loops · RegexBack: loops · RegexLaws: loops · RegexCuts: loops.
  DERIVED. THE GIVEN ROWS OF THIS SEAT. 9 by the template 'for every input the law returns true; each argument reads behind the call as it read before'; 0 by the template 'total and deterministic' (their statements: YtkdfobnkebkpfaaTotals.lean).
  GIVEN WITH THE SEED: the statements are not yours to turn. If you find one false, say at which input.
  Laid BY PROGRAM, IN A SANDBOX (cutbox-rows.mjs): the forced cells as the released guide's own fill.sh prints them over the translation 26d4ded99de4c7af… (all of the seat's roots in one cut). By AI agents, Wed Nov 11 2026. No macro, syntax, notation, axiom, sorry.
-/
import Derived.Test.YtkdfobnkebkpfaaChecked
import GoSem.Claim
import GoSem.ClaimJoined
import GoSem.ClaimMapViews
import Derived.JoinedTies
import Derived.KernelRfl
namespace Go.Proofs.Ytkdfobnkebkpfaa
/- THE CELL 'sum', in the pinned program and in every row, IS THE sha256 OF THE DUMP (.gsa) THAT YtkdfobnkebkpfaaProg.lean LOADS. Nothing in Lean hashes anything: it is a label: what it is worth is what the hold of that sum in a sandbox is worth. -/
noncomputable def Try.pinned : Pinned := { name := "ytkdfobnkebkpfaa", sum := "26d4ded99de4c7af1118e4fca4f0404e360a85d7214783fc534785a0d1df4a9a", checked := Try.checked }
namespace Rows
def none {H : Type} : Left H := { results := [], args := [] }

/-- 'quincunxlaw02.RegexChecks': WHATEVER THE INPUT: true; the input reads as it did. -/
def regexChecksSpec : ChangeSpec := { name := "regexChecks", fn := fun _ => fun
  | [d1, d2, d3] => { results := [.lit (.bool true)], args := [d1, d2, d3] }
  | _ => none }
def regexChecksRow : OpenClaim := { program := "ytkdfobnkebkpfaa", sum := "26d4ded99de4c7af1118e4fca4f0404e360a85d7214783fc534785a0d1df4a9a", func := "quincunx/quincunxlaw02.RegexChecks", spec := "regexChecks", inPlace := ["internal/bytealg.IndexByteString"], unfollowed := true, recurses := true, loops := true, apart := false }
def RegexChecksSaid : Prop := regexChecksRow.holds Try.pinned (OpenSpec.ofChange regexChecksSpec)

/-- ITS FALSE NEIGHBOUR: 'it returns false'. Refute it at one input. -/
def regexChecksWrong : ChangeSpec := { name := "regexChecks", fn := fun _ => fun
  | [d1, d2, d3] => { results := [.lit (.bool false)], args := [d1, d2, d3] }
  | _ => none }
def RegexChecksWrongFalsely : Prop := regexChecksRow.holds Try.pinned (OpenSpec.ofChange regexChecksWrong)

/-- 'quincunxlaw02.RegexParses': WHATEVER THE INPUT: true; the input reads as it did. -/
def regexParsesSpec : ChangeSpec := { name := "regexParses", fn := fun _ => fun
  | [d] => { results := [.lit (.bool true)], args := [d] }
  | _ => none }
def regexParsesRow : OpenClaim := { program := "ytkdfobnkebkpfaa", sum := "26d4ded99de4c7af1118e4fca4f0404e360a85d7214783fc534785a0d1df4a9a", func := "quincunx/quincunxlaw02.RegexParses", spec := "regexParses", inPlace := ["internal/bytealg.IndexByteString"], unfollowed := true, recurses := true, apart := false }
def RegexParsesSaid : Prop := regexParsesRow.holds Try.pinned (OpenSpec.ofChange regexParsesSpec)

/-- ITS FALSE NEIGHBOUR: 'it returns false'. Refute it at one input. -/
def regexParsesWrong : ChangeSpec := { name := "regexParses", fn := fun _ => fun
  | [d] => { results := [.lit (.bool false)], args := [d] }
  | _ => none }
def RegexParsesWrongFalsely : Prop := regexParsesRow.holds Try.pinned (OpenSpec.ofChange regexParsesWrong)

/-- 'quincunxlaw02.RegexTexts': WHATEVER THE INPUT: true; the input reads as it did. -/
def regexTextsSpec : ChangeSpec := { name := "regexTexts", fn := fun _ => fun
  | [d] => { results := [.lit (.bool true)], args := [d] }
  | _ => none }
def regexTextsRow : OpenClaim := { program := "ytkdfobnkebkpfaa", sum := "26d4ded99de4c7af1118e4fca4f0404e360a85d7214783fc534785a0d1df4a9a", func := "quincunx/quincunxlaw02.RegexTexts", spec := "regexTexts", inPlace := ["internal/bytealg.IndexByteString"], unfollowed := true, recurses := true, loops := true, apart := false }
def RegexTextsSaid : Prop := regexTextsRow.holds Try.pinned (OpenSpec.ofChange regexTextsSpec)

/-- ITS FALSE NEIGHBOUR: 'it returns false'. Refute it at one input. -/
def regexTextsWrong : ChangeSpec := { name := "regexTexts", fn := fun _ => fun
  | [d] => { results := [.lit (.bool false)], args := [d] }
  | _ => none }
def RegexTextsWrongFalsely : Prop := regexTextsRow.holds Try.pinned (OpenSpec.ofChange regexTextsWrong)

/-- 'quincunxlaw02.RegexMatches': WHATEVER THE INPUT: true; the input reads as it did. -/
def regexMatchesSpec : ChangeSpec := { name := "regexMatches", fn := fun _ => fun
  | [d1, d2] => { results := [.lit (.bool true)], args := [d1, d2] }
  | _ => none }
def regexMatchesRow : OpenClaim := { program := "ytkdfobnkebkpfaa", sum := "26d4ded99de4c7af1118e4fca4f0404e360a85d7214783fc534785a0d1df4a9a", func := "quincunx/quincunxlaw02.RegexMatches", spec := "regexMatches", inPlace := ["internal/bytealg.IndexByteString"], unfollowed := true, recurses := true, loops := true, apart := false }
def RegexMatchesSaid : Prop := regexMatchesRow.holds Try.pinned (OpenSpec.ofChange regexMatchesSpec)

/-- ITS FALSE NEIGHBOUR: 'it returns false'. Refute it at one input. -/
def regexMatchesWrong : ChangeSpec := { name := "regexMatches", fn := fun _ => fun
  | [d1, d2] => { results := [.lit (.bool false)], args := [d1, d2] }
  | _ => none }
def RegexMatchesWrongFalsely : Prop := regexMatchesRow.holds Try.pinned (OpenSpec.ofChange regexMatchesWrong)

/-- 'quincunxlaw02.RegexBack': WHATEVER THE INPUT: true; the input reads as it did. -/
def regexBackSpec : ChangeSpec := { name := "regexBack", fn := fun _ => fun
  | [d] => { results := [.lit (.bool true)], args := [d] }
  | _ => none }
def regexBackRow : OpenClaim := { program := "ytkdfobnkebkpfaa", sum := "26d4ded99de4c7af1118e4fca4f0404e360a85d7214783fc534785a0d1df4a9a", func := "quincunx/quincunxlaw02.RegexBack", spec := "regexBack", inPlace := ["internal/bytealg.IndexByteString"], unfollowed := true, recurses := true, loops := true, apart := false }
def RegexBackSaid : Prop := regexBackRow.holds Try.pinned (OpenSpec.ofChange regexBackSpec)

/-- ITS FALSE NEIGHBOUR: 'it returns false'. Refute it at one input. -/
def regexBackWrong : ChangeSpec := { name := "regexBack", fn := fun _ => fun
  | [d] => { results := [.lit (.bool false)], args := [d] }
  | _ => none }
def RegexBackWrongFalsely : Prop := regexBackRow.holds Try.pinned (OpenSpec.ofChange regexBackWrong)

/-- 'quincunxlaw02.RegexReads': WHATEVER THE INPUT: true; the input reads as it did. -/
def regexReadsSpec : ChangeSpec := { name := "regexReads", fn := fun _ => fun
  | [d] => { results := [.lit (.bool true)], args := [d] }
  | _ => none }
def regexReadsRow : OpenClaim := { program := "ytkdfobnkebkpfaa", sum := "26d4ded99de4c7af1118e4fca4f0404e360a85d7214783fc534785a0d1df4a9a", func := "quincunx/quincunxlaw02.RegexReads", spec := "regexReads", inPlace := ["internal/bytealg.IndexByteString"], unfollowed := true, recurses := true, apart := false }
def RegexReadsSaid : Prop := regexReadsRow.holds Try.pinned (OpenSpec.ofChange regexReadsSpec)

/-- ITS FALSE NEIGHBOUR: 'it returns false'. Refute it at one input. -/
def regexReadsWrong : ChangeSpec := { name := "regexReads", fn := fun _ => fun
  | [d] => { results := [.lit (.bool false)], args := [d] }
  | _ => none }
def RegexReadsWrongFalsely : Prop := regexReadsRow.holds Try.pinned (OpenSpec.ofChange regexReadsWrong)

/-- 'quincunxlaw02.RegexLaws': WHATEVER THE INPUT: true; the input reads as it did. -/
def regexLawsSpec : ChangeSpec := { name := "regexLaws", fn := fun _ => fun
  | [d1, d2, d3] => { results := [.lit (.bool true)], args := [d1, d2, d3] }
  | _ => none }
def regexLawsRow : OpenClaim := { program := "ytkdfobnkebkpfaa", sum := "26d4ded99de4c7af1118e4fca4f0404e360a85d7214783fc534785a0d1df4a9a", func := "quincunx/quincunxlaw02.RegexLaws", spec := "regexLaws", inPlace := ["internal/bytealg.IndexByteString"], unfollowed := true, recurses := true, loops := true, apart := false }
def RegexLawsSaid : Prop := regexLawsRow.holds Try.pinned (OpenSpec.ofChange regexLawsSpec)

/-- ITS FALSE NEIGHBOUR: 'it returns false'. Refute it at one input. -/
def regexLawsWrong : ChangeSpec := { name := "regexLaws", fn := fun _ => fun
  | [d1, d2, d3] => { results := [.lit (.bool false)], args := [d1, d2, d3] }
  | _ => none }
def RegexLawsWrongFalsely : Prop := regexLawsRow.holds Try.pinned (OpenSpec.ofChange regexLawsWrong)

/-- 'quincunxlaw02.RegexSpans': WHATEVER THE INPUT: true; the input reads as it did. -/
def regexSpansSpec : ChangeSpec := { name := "regexSpans", fn := fun _ => fun
  | [d1, d2] => { results := [.lit (.bool true)], args := [d1, d2] }
  | _ => none }
def regexSpansRow : OpenClaim := { program := "ytkdfobnkebkpfaa", sum := "26d4ded99de4c7af1118e4fca4f0404e360a85d7214783fc534785a0d1df4a9a", func := "quincunx/quincunxlaw02.RegexSpans", spec := "regexSpans", inPlace := ["internal/bytealg.IndexByteString"], unfollowed := true, recurses := true, apart := false }
def RegexSpansSaid : Prop := regexSpansRow.holds Try.pinned (OpenSpec.ofChange regexSpansSpec)

/-- ITS FALSE NEIGHBOUR: 'it returns false'. Refute it at one input. -/
def regexSpansWrong : ChangeSpec := { name := "regexSpans", fn := fun _ => fun
  | [d1, d2] => { results := [.lit (.bool false)], args := [d1, d2] }
  | _ => none }
def RegexSpansWrongFalsely : Prop := regexSpansRow.holds Try.pinned (OpenSpec.ofChange regexSpansWrong)

/-- 'quincunxlaw02.RegexCuts': WHATEVER THE INPUT: true; the input reads as it did. -/
def regexCutsSpec : ChangeSpec := { name := "regexCuts", fn := fun _ => fun
  | [d1, d2, d3] => { results := [.lit (.bool true)], args := [d1, d2, d3] }
  | _ => none }
def regexCutsRow : OpenClaim := { program := "ytkdfobnkebkpfaa", sum := "26d4ded99de4c7af1118e4fca4f0404e360a85d7214783fc534785a0d1df4a9a", func := "quincunx/quincunxlaw02.RegexCuts", spec := "regexCuts", inPlace := ["internal/bytealg.IndexByteString"], unfollowed := true, recurses := true, loops := true, apart := false }
def RegexCutsSaid : Prop := regexCutsRow.holds Try.pinned (OpenSpec.ofChange regexCutsSpec)

/-- ITS FALSE NEIGHBOUR: 'it returns false'. Refute it at one input. -/
def regexCutsWrong : ChangeSpec := { name := "regexCuts", fn := fun _ => fun
  | [d1, d2, d3] => { results := [.lit (.bool false)], args := [d1, d2, d3] }
  | _ => none }
def RegexCutsWrongFalsely : Prop := regexCutsRow.holds Try.pinned (OpenSpec.ofChange regexCutsWrong)

/- THE SECOND FORM. 'bulk': how many values and letters a reading holds, each counted each time it is reached (what is shared counts as often as it is met; a slice's spare places count too). A statement '..UptoSaid' is the law's where the arguments, and the package variables that the reading takes, are together of bulk at most 1048576: NARROWER than '..Said'. Prove '..Said' where nothing that the law and all that it calls make is longer than what came in: it says more and counts as full. Else prove '..UptoSaid'. A law counts once. -/
mutual
def uptoBulk {H : Type} : DataW H → Nat
  | .lit (.string bytes) => bytes.length + 1
  | .lit _ => 1
  | .nil => 1
  | .ptr d => uptoBulk d + 1
  | .slice elems spare => uptoBulkAll elems + uptoBulkAll spare + 1
  | .agg parts => uptoBulkAll parts + 1
  | .iface _ d => uptoBulk d + 1
  | .map entries => uptoBulkEntries entries + 1
  | .held _ => 1
def uptoBulkAll {H : Type} : List (DataW H) → Nat
  | [] => 0
  | d :: r => uptoBulk d + uptoBulkAll r
def uptoBulkEntries {H : Type} : List (Lit × DataW H) → Nat
  | [] => 0
  | x :: r => uptoBulkEntry x + uptoBulkEntries r
def uptoBulkEntry {H : Type} : Lit × DataW H → Nat
  | (.string bytes, d) => bytes.length + uptoBulk d + 1
  | (_, d) => uptoBulk d + 1
 end
def uptoSmall : (H : Type) → List (DataW H) → Bool := fun _ ds => decide (uptoBulkAll ds ≤ 1048576)
def OpenSpec.upto (s : _root_.Go.ChangeSpec) : _root_.Go.OpenSpec := { _root_.Go.OpenSpec.ofChange s with cond := some uptoSmall }

/-- 'quincunxlaw02.RegexChecks', WHERE WHAT IT READS IS OF BULK AT MOST 1048576: true; the input reads as it did. -/
def regexChecksUptoRow : OpenClaim := { program := "ytkdfobnkebkpfaa", sum := "26d4ded99de4c7af1118e4fca4f0404e360a85d7214783fc534785a0d1df4a9a", func := "quincunx/quincunxlaw02.RegexChecks", spec := "regexChecks", inPlace := ["internal/bytealg.IndexByteString"], unfollowed := true, recurses := true, loops := true, apart := false, narrowed := true }
def RegexChecksUptoSaid : Prop := regexChecksUptoRow.holds Try.pinned (OpenSpec.upto regexChecksSpec)

/-- 'quincunxlaw02.RegexParses', WHERE WHAT IT READS IS OF BULK AT MOST 1048576: true; the input reads as it did. -/
def regexParsesUptoRow : OpenClaim := { program := "ytkdfobnkebkpfaa", sum := "26d4ded99de4c7af1118e4fca4f0404e360a85d7214783fc534785a0d1df4a9a", func := "quincunx/quincunxlaw02.RegexParses", spec := "regexParses", inPlace := ["internal/bytealg.IndexByteString"], unfollowed := true, recurses := true, apart := false, narrowed := true }
def RegexParsesUptoSaid : Prop := regexParsesUptoRow.holds Try.pinned (OpenSpec.upto regexParsesSpec)

/-- 'quincunxlaw02.RegexTexts', WHERE WHAT IT READS IS OF BULK AT MOST 1048576: true; the input reads as it did. -/
def regexTextsUptoRow : OpenClaim := { program := "ytkdfobnkebkpfaa", sum := "26d4ded99de4c7af1118e4fca4f0404e360a85d7214783fc534785a0d1df4a9a", func := "quincunx/quincunxlaw02.RegexTexts", spec := "regexTexts", inPlace := ["internal/bytealg.IndexByteString"], unfollowed := true, recurses := true, loops := true, apart := false, narrowed := true }
def RegexTextsUptoSaid : Prop := regexTextsUptoRow.holds Try.pinned (OpenSpec.upto regexTextsSpec)

/-- 'quincunxlaw02.RegexMatches', WHERE WHAT IT READS IS OF BULK AT MOST 1048576: true; the input reads as it did. -/
def regexMatchesUptoRow : OpenClaim := { program := "ytkdfobnkebkpfaa", sum := "26d4ded99de4c7af1118e4fca4f0404e360a85d7214783fc534785a0d1df4a9a", func := "quincunx/quincunxlaw02.RegexMatches", spec := "regexMatches", inPlace := ["internal/bytealg.IndexByteString"], unfollowed := true, recurses := true, loops := true, apart := false, narrowed := true }
def RegexMatchesUptoSaid : Prop := regexMatchesUptoRow.holds Try.pinned (OpenSpec.upto regexMatchesSpec)

/-- 'quincunxlaw02.RegexBack', WHERE WHAT IT READS IS OF BULK AT MOST 1048576: true; the input reads as it did. -/
def regexBackUptoRow : OpenClaim := { program := "ytkdfobnkebkpfaa", sum := "26d4ded99de4c7af1118e4fca4f0404e360a85d7214783fc534785a0d1df4a9a", func := "quincunx/quincunxlaw02.RegexBack", spec := "regexBack", inPlace := ["internal/bytealg.IndexByteString"], unfollowed := true, recurses := true, loops := true, apart := false, narrowed := true }
def RegexBackUptoSaid : Prop := regexBackUptoRow.holds Try.pinned (OpenSpec.upto regexBackSpec)

/-- 'quincunxlaw02.RegexReads', WHERE WHAT IT READS IS OF BULK AT MOST 1048576: true; the input reads as it did. -/
def regexReadsUptoRow : OpenClaim := { program := "ytkdfobnkebkpfaa", sum := "26d4ded99de4c7af1118e4fca4f0404e360a85d7214783fc534785a0d1df4a9a", func := "quincunx/quincunxlaw02.RegexReads", spec := "regexReads", inPlace := ["internal/bytealg.IndexByteString"], unfollowed := true, recurses := true, apart := false, narrowed := true }
def RegexReadsUptoSaid : Prop := regexReadsUptoRow.holds Try.pinned (OpenSpec.upto regexReadsSpec)

/-- 'quincunxlaw02.RegexLaws', WHERE WHAT IT READS IS OF BULK AT MOST 1048576: true; the input reads as it did. -/
def regexLawsUptoRow : OpenClaim := { program := "ytkdfobnkebkpfaa", sum := "26d4ded99de4c7af1118e4fca4f0404e360a85d7214783fc534785a0d1df4a9a", func := "quincunx/quincunxlaw02.RegexLaws", spec := "regexLaws", inPlace := ["internal/bytealg.IndexByteString"], unfollowed := true, recurses := true, loops := true, apart := false, narrowed := true }
def RegexLawsUptoSaid : Prop := regexLawsUptoRow.holds Try.pinned (OpenSpec.upto regexLawsSpec)

/-- 'quincunxlaw02.RegexSpans', WHERE WHAT IT READS IS OF BULK AT MOST 1048576: true; the input reads as it did. -/
def regexSpansUptoRow : OpenClaim := { program := "ytkdfobnkebkpfaa", sum := "26d4ded99de4c7af1118e4fca4f0404e360a85d7214783fc534785a0d1df4a9a", func := "quincunx/quincunxlaw02.RegexSpans", spec := "regexSpans", inPlace := ["internal/bytealg.IndexByteString"], unfollowed := true, recurses := true, apart := false, narrowed := true }
def RegexSpansUptoSaid : Prop := regexSpansUptoRow.holds Try.pinned (OpenSpec.upto regexSpansSpec)

/-- 'quincunxlaw02.RegexCuts', WHERE WHAT IT READS IS OF BULK AT MOST 1048576: true; the input reads as it did. -/
def regexCutsUptoRow : OpenClaim := { program := "ytkdfobnkebkpfaa", sum := "26d4ded99de4c7af1118e4fca4f0404e360a85d7214783fc534785a0d1df4a9a", func := "quincunx/quincunxlaw02.RegexCuts", spec := "regexCuts", inPlace := ["internal/bytealg.IndexByteString"], unfollowed := true, recurses := true, loops := true, apart := false, narrowed := true }
def RegexCutsUptoSaid : Prop := regexCutsUptoRow.holds Try.pinned (OpenSpec.upto regexCutsSpec)

end Rows
end Go.Proofs.Ytkdfobnkebkpfaa
