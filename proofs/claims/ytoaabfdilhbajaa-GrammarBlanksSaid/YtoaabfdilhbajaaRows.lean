/-
  No cell of these rows narrows 'for every input' (looked for: loops, veiled, ifaces, maps, wideKeys, modest, calm, conditions, laid).
  DERIVED. THE GIVEN ROWS OF THIS SEAT. 5 by the template 'for every input the law returns true; each argument reads behind the call as it read before'; 0 by the template 'total and deterministic' (their statements: YtoaabfdilhbajaaTotals.lean).
  GIVEN WITH THE SEED: the statements are not yours to turn. If you find one false, say at which input.
  Laid BY PROGRAM, IN A SANDBOX (cutbox-rows.mjs): the forced cells as the released guide's own fill.sh prints them over the translation 40b1d0013b8ec9b1… (all of the seat's roots in one cut). By AI agents, Wed Nov 11 2026. No macro, syntax, notation, axiom, sorry.
-/
import Derived.Test.YtoaabfdilhbajaaChecked
import GoSem.Claim
import GoSem.ClaimJoined
import GoSem.ClaimMapViews
import Derived.JoinedTies
import Derived.KernelRfl
namespace Go.Proofs.Ytoaabfdilhbajaa
/- THE CELL 'sum', in the pinned program and in every row, IS THE sha256 OF THE DUMP (.gsa) THAT YtoaabfdilhbajaaProg.lean LOADS. Nothing in Lean hashes anything: it is a label: what it is worth is what the hold of that sum in a sandbox is worth. -/
noncomputable def Try.pinned : Pinned := { name := "ytoaabfdilhbajaa", sum := "40b1d0013b8ec9b16d44a0de33612bf65dc2d70eb289a6069a761d65fa588796", checked := Try.checked }
namespace Rows
def none {H : Type} : Left H := { results := [], args := [] }

/-- 'quincunxlaw07.GrammarChecks': WHATEVER THE INPUT: true; the input reads as it did. -/
def grammarChecksSpec : ChangeSpec := { name := "grammarChecks", fn := fun _ => fun
  | [d1, d2] => { results := [.lit (.bool true)], args := [d1, d2] }
  | _ => none }
def grammarChecksRow : OpenClaim := { program := "ytoaabfdilhbajaa", sum := "40b1d0013b8ec9b16d44a0de33612bf65dc2d70eb289a6069a761d65fa588796", func := "quincunx/quincunxlaw07.GrammarChecks", spec := "grammarChecks", inPlace := ["internal/bytealg.IndexByteString", "internal/abi.NoEscape"], unfollowed := true, recurses := true, apart := false }
def GrammarChecksSaid : Prop := grammarChecksRow.holds Try.pinned (OpenSpec.ofChange grammarChecksSpec)

/-- ITS FALSE NEIGHBOUR: 'it returns false'. Refute it at one input. -/
def grammarChecksWrong : ChangeSpec := { name := "grammarChecks", fn := fun _ => fun
  | [d1, d2] => { results := [.lit (.bool false)], args := [d1, d2] }
  | _ => none }
def GrammarChecksWrongFalsely : Prop := grammarChecksRow.holds Try.pinned (OpenSpec.ofChange grammarChecksWrong)

/-- 'quincunxlaw07.GrammarParses': WHATEVER THE INPUT: true; the input reads as it did. -/
def grammarParsesSpec : ChangeSpec := { name := "grammarParses", fn := fun _ => fun
  | [d] => { results := [.lit (.bool true)], args := [d] }
  | _ => none }
def grammarParsesRow : OpenClaim := { program := "ytoaabfdilhbajaa", sum := "40b1d0013b8ec9b16d44a0de33612bf65dc2d70eb289a6069a761d65fa588796", func := "quincunx/quincunxlaw07.GrammarParses", spec := "grammarParses", inPlace := ["internal/bytealg.IndexByteString", "internal/abi.NoEscape"], unfollowed := true, recurses := true, apart := false }
def GrammarParsesSaid : Prop := grammarParsesRow.holds Try.pinned (OpenSpec.ofChange grammarParsesSpec)

/-- ITS FALSE NEIGHBOUR: 'it returns false'. Refute it at one input. -/
def grammarParsesWrong : ChangeSpec := { name := "grammarParses", fn := fun _ => fun
  | [d] => { results := [.lit (.bool false)], args := [d] }
  | _ => none }
def GrammarParsesWrongFalsely : Prop := grammarParsesRow.holds Try.pinned (OpenSpec.ofChange grammarParsesWrong)

/-- 'quincunxlaw07.GrammarBack': WHATEVER THE INPUT: true; the input reads as it did. -/
def grammarBackSpec : ChangeSpec := { name := "grammarBack", fn := fun _ => fun
  | [d] => { results := [.lit (.bool true)], args := [d] }
  | _ => none }
def grammarBackRow : OpenClaim := { program := "ytoaabfdilhbajaa", sum := "40b1d0013b8ec9b16d44a0de33612bf65dc2d70eb289a6069a761d65fa588796", func := "quincunx/quincunxlaw07.GrammarBack", spec := "grammarBack", inPlace := ["internal/bytealg.IndexByteString", "internal/abi.NoEscape"], unfollowed := true, recurses := true, apart := false }
def GrammarBackSaid : Prop := grammarBackRow.holds Try.pinned (OpenSpec.ofChange grammarBackSpec)

/-- ITS FALSE NEIGHBOUR: 'it returns false'. Refute it at one input. -/
def grammarBackWrong : ChangeSpec := { name := "grammarBack", fn := fun _ => fun
  | [d] => { results := [.lit (.bool false)], args := [d] }
  | _ => none }
def GrammarBackWrongFalsely : Prop := grammarBackRow.holds Try.pinned (OpenSpec.ofChange grammarBackWrong)

/-- 'quincunxlaw07.GrammarBlanks': WHATEVER THE INPUT: true; the input reads as it did. -/
def grammarBlanksSpec : ChangeSpec := { name := "grammarBlanks", fn := fun _ => fun
  | [d1, d2] => { results := [.lit (.bool true)], args := [d1, d2] }
  | _ => none }
def grammarBlanksRow : OpenClaim := { program := "ytoaabfdilhbajaa", sum := "40b1d0013b8ec9b16d44a0de33612bf65dc2d70eb289a6069a761d65fa588796", func := "quincunx/quincunxlaw07.GrammarBlanks", spec := "grammarBlanks", inPlace := ["internal/bytealg.IndexByteString", "internal/abi.NoEscape"], unfollowed := true, recurses := true, apart := false }
def GrammarBlanksSaid : Prop := grammarBlanksRow.holds Try.pinned (OpenSpec.ofChange grammarBlanksSpec)

/-- ITS FALSE NEIGHBOUR: 'it returns false'. Refute it at one input. -/
def grammarBlanksWrong : ChangeSpec := { name := "grammarBlanks", fn := fun _ => fun
  | [d1, d2] => { results := [.lit (.bool false)], args := [d1, d2] }
  | _ => none }
def GrammarBlanksWrongFalsely : Prop := grammarBlanksRow.holds Try.pinned (OpenSpec.ofChange grammarBlanksWrong)

/-- 'quincunxlaw07.GrammarLines': WHATEVER THE INPUT: true; the input reads as it did. -/
def grammarLinesSpec : ChangeSpec := { name := "grammarLines", fn := fun _ => fun
  | [d] => { results := [.lit (.bool true)], args := [d] }
  | _ => none }
def grammarLinesRow : OpenClaim := { program := "ytoaabfdilhbajaa", sum := "40b1d0013b8ec9b16d44a0de33612bf65dc2d70eb289a6069a761d65fa588796", func := "quincunx/quincunxlaw07.GrammarLines", spec := "grammarLines", inPlace := ["internal/bytealg.IndexByteString", "internal/abi.NoEscape"], unfollowed := true, recurses := true, apart := false }
def GrammarLinesSaid : Prop := grammarLinesRow.holds Try.pinned (OpenSpec.ofChange grammarLinesSpec)

/-- ITS FALSE NEIGHBOUR: 'it returns false'. Refute it at one input. -/
def grammarLinesWrong : ChangeSpec := { name := "grammarLines", fn := fun _ => fun
  | [d] => { results := [.lit (.bool false)], args := [d] }
  | _ => none }
def GrammarLinesWrongFalsely : Prop := grammarLinesRow.holds Try.pinned (OpenSpec.ofChange grammarLinesWrong)

/- THE SECOND FORM. 'bulk': how many values and letters a reading holds, each counted each time it is reached (what is shared counts as often as it is met; a slice's spare places count too). A statement '..UptoSaid' is the law's where the arguments, and the package variables that the reading takes, are together of bulk at most 1048576: NARROWER than '..Said'. Prove '..Said' where nothing that the law and all that it calls make is longer than what came in: it says more and counts as full. Else prove '..UptoSaid'. A law counts once. -/
mutual
def uptoBulk {H : Type} : DataW H → Nat
  | .lit (.string bytes) => bytes.length + 1
  | .lit _ => 1
  | .nil => 1
  | .ptr d => uptoBulk d + 1
  | .slice elems spare => uptoBulkAll elems + uptoBulkAll spare + 1
  | .agg parts => uptoBulkAll parts + 1
  | .iface _ d => uptoBulk d + 1
  | .map entries => uptoBulkEntries entries + 1
  | .held _ => 1
def uptoBulkAll {H : Type} : List (DataW H) → Nat
  | [] => 0
  | d :: r => uptoBulk d + uptoBulkAll r
def uptoBulkEntries {H : Type} : List (Lit × DataW H) → Nat
  | [] => 0
  | x :: r => uptoBulkEntry x + uptoBulkEntries r
def uptoBulkEntry {H : Type} : Lit × DataW H → Nat
  | (.string bytes, d) => bytes.length + uptoBulk d + 1
  | (_, d) => uptoBulk d + 1
 end
def uptoSmall : (H : Type) → List (DataW H) → Bool := fun _ ds => decide (uptoBulkAll ds ≤ 1048576)
def OpenSpec.upto (s : _root_.Go.ChangeSpec) : _root_.Go.OpenSpec := { _root_.Go.OpenSpec.ofChange s with cond := some uptoSmall }

/-- 'quincunxlaw07.GrammarChecks', WHERE WHAT IT READS IS OF BULK AT MOST 1048576: true; the input reads as it did. -/
def grammarChecksUptoRow : OpenClaim := { program := "ytoaabfdilhbajaa", sum := "40b1d0013b8ec9b16d44a0de33612bf65dc2d70eb289a6069a761d65fa588796", func := "quincunx/quincunxlaw07.GrammarChecks", spec := "grammarChecks", inPlace := ["internal/bytealg.IndexByteString", "internal/abi.NoEscape"], unfollowed := true, recurses := true, apart := false, narrowed := true }
def GrammarChecksUptoSaid : Prop := grammarChecksUptoRow.holds Try.pinned (OpenSpec.upto grammarChecksSpec)

/-- 'quincunxlaw07.GrammarParses', WHERE WHAT IT READS IS OF BULK AT MOST 1048576: true; the input reads as it did. -/
def grammarParsesUptoRow : OpenClaim := { program := "ytoaabfdilhbajaa", sum := "40b1d0013b8ec9b16d44a0de33612bf65dc2d70eb289a6069a761d65fa588796", func := "quincunx/quincunxlaw07.GrammarParses", spec := "grammarParses", inPlace := ["internal/bytealg.IndexByteString", "internal/abi.NoEscape"], unfollowed := true, recurses := true, apart := false, narrowed := true }
def GrammarParsesUptoSaid : Prop := grammarParsesUptoRow.holds Try.pinned (OpenSpec.upto grammarParsesSpec)

/-- 'quincunxlaw07.GrammarBack', WHERE WHAT IT READS IS OF BULK AT MOST 1048576: true; the input reads as it did. -/
def grammarBackUptoRow : OpenClaim := { program := "ytoaabfdilhbajaa", sum := "40b1d0013b8ec9b16d44a0de33612bf65dc2d70eb289a6069a761d65fa588796", func := "quincunx/quincunxlaw07.GrammarBack", spec := "grammarBack", inPlace := ["internal/bytealg.IndexByteString", "internal/abi.NoEscape"], unfollowed := true, recurses := true, apart := false, narrowed := true }
def GrammarBackUptoSaid : Prop := grammarBackUptoRow.holds Try.pinned (OpenSpec.upto grammarBackSpec)

/-- 'quincunxlaw07.GrammarBlanks', WHERE WHAT IT READS IS OF BULK AT MOST 1048576: true; the input reads as it did. -/
def grammarBlanksUptoRow : OpenClaim := { program := "ytoaabfdilhbajaa", sum := "40b1d0013b8ec9b16d44a0de33612bf65dc2d70eb289a6069a761d65fa588796", func := "quincunx/quincunxlaw07.GrammarBlanks", spec := "grammarBlanks", inPlace := ["internal/bytealg.IndexByteString", "internal/abi.NoEscape"], unfollowed := true, recurses := true, apart := false, narrowed := true }
def GrammarBlanksUptoSaid : Prop := grammarBlanksUptoRow.holds Try.pinned (OpenSpec.upto grammarBlanksSpec)

/-- 'quincunxlaw07.GrammarLines', WHERE WHAT IT READS IS OF BULK AT MOST 1048576: true; the input reads as it did. -/
def grammarLinesUptoRow : OpenClaim := { program := "ytoaabfdilhbajaa", sum := "40b1d0013b8ec9b16d44a0de33612bf65dc2d70eb289a6069a761d65fa588796", func := "quincunx/quincunxlaw07.GrammarLines", spec := "grammarLines", inPlace := ["internal/bytealg.IndexByteString", "internal/abi.NoEscape"], unfollowed := true, recurses := true, apart := false, narrowed := true }
def GrammarLinesUptoSaid : Prop := grammarLinesUptoRow.holds Try.pinned (OpenSpec.upto grammarLinesSpec)

end Rows
end Go.Proofs.Ytoaabfdilhbajaa
