/-
  NARROWER THAN 'FOR EVERY INPUT', by the rows' own cells (each row's printed sentence says how): DfaRegex: loops.
  DERIVED. THE GIVEN ROWS OF THIS SEAT. 6 by the template 'for every input the law returns true; each argument reads behind the call as it read before'; 0 by the template 'total and deterministic' (their statements: YtngbfjimmdkfeaaTotals.lean).
  GIVEN WITH THE SEED: the statements are not yours to turn. If you find one false, say at which input.
  Laid BY PROGRAM, IN A SANDBOX (cutbox-rows.mjs): the forced cells as the released guide's own fill.sh prints them over the translation 9a804e3fe224923e… (all of the seat's roots in one cut). By AI agents, Wed Nov 11 2026. No macro, syntax, notation, axiom, sorry.
-/
import Derived.Test.YtngbfjimmdkfeaaChecked
import GoSem.Claim
import GoSem.ClaimJoined
import GoSem.ClaimMapViews
import Derived.JoinedTies
import Derived.KernelRfl
namespace Go.Proofs.Ytngbfjimmdkfeaa
/- THE CELL 'sum', in the pinned program and in every row, IS THE sha256 OF THE DUMP (.gsa) THAT YtngbfjimmdkfeaaProg.lean LOADS. Nothing in Lean hashes anything: it is a label: what it is worth is what the hold of that sum in a sandbox is worth. -/
noncomputable def Try.pinned : Pinned := { name := "ytngbfjimmdkfeaa", sum := "9a804e3fe224923edfc10dedf1baea28d6aac835667e20fc43aa683204eb3160", checked := Try.checked }
namespace Rows
def none {H : Type} : Left H := { results := [], args := [] }

/-- 'quincunxlaw04.DfaChecks': WHATEVER THE INPUT: true; the input reads as it did. -/
def dfaChecksSpec : ChangeSpec := { name := "dfaChecks", fn := fun _ => fun
  | [d] => { results := [.lit (.bool true)], args := [d] }
  | _ => none }
def dfaChecksRow : OpenClaim := { program := "ytngbfjimmdkfeaa", sum := "9a804e3fe224923edfc10dedf1baea28d6aac835667e20fc43aa683204eb3160", func := "quincunx/quincunxlaw04.DfaChecks", spec := "dfaChecks", unfollowed := true, recurses := true, plainKeys := false, apart := false }
def DfaChecksSaid : Prop := dfaChecksRow.holds Try.pinned (OpenSpec.ofChange dfaChecksSpec)

/-- ITS FALSE NEIGHBOUR: 'it returns false'. Refute it at one input. -/
def dfaChecksWrong : ChangeSpec := { name := "dfaChecks", fn := fun _ => fun
  | [d] => { results := [.lit (.bool false)], args := [d] }
  | _ => none }
def DfaChecksWrongFalsely : Prop := dfaChecksRow.holds Try.pinned (OpenSpec.ofChange dfaChecksWrong)

/-- 'quincunxlaw04.DfaBuilds': WHATEVER THE INPUT: true; the input reads as it did. -/
def dfaBuildsSpec : ChangeSpec := { name := "dfaBuilds", fn := fun _ => fun
  | [d] => { results := [.lit (.bool true)], args := [d] }
  | _ => none }
def dfaBuildsRow : OpenClaim := { program := "ytngbfjimmdkfeaa", sum := "9a804e3fe224923edfc10dedf1baea28d6aac835667e20fc43aa683204eb3160", func := "quincunx/quincunxlaw04.DfaBuilds", spec := "dfaBuilds", unfollowed := true, recurses := true, plainKeys := false, apart := false }
def DfaBuildsSaid : Prop := dfaBuildsRow.holds Try.pinned (OpenSpec.ofChange dfaBuildsSpec)

/-- ITS FALSE NEIGHBOUR: 'it returns false'. Refute it at one input. -/
def dfaBuildsWrong : ChangeSpec := { name := "dfaBuilds", fn := fun _ => fun
  | [d] => { results := [.lit (.bool false)], args := [d] }
  | _ => none }
def DfaBuildsWrongFalsely : Prop := dfaBuildsRow.holds Try.pinned (OpenSpec.ofChange dfaBuildsWrong)

/-- 'quincunxlaw04.DfaRuns': WHATEVER THE INPUT: true; the input reads as it did. -/
def dfaRunsSpec : ChangeSpec := { name := "dfaRuns", fn := fun _ => fun
  | [d1, d2, d3, d4] => { results := [.lit (.bool true)], args := [d1, d2, d3, d4] }
  | _ => none }
def dfaRunsRow : OpenClaim := { program := "ytngbfjimmdkfeaa", sum := "9a804e3fe224923edfc10dedf1baea28d6aac835667e20fc43aa683204eb3160", func := "quincunx/quincunxlaw04.DfaRuns", spec := "dfaRuns", unfollowed := true, recurses := true, plainKeys := false, apart := false }
def DfaRunsSaid : Prop := dfaRunsRow.holds Try.pinned (OpenSpec.ofChange dfaRunsSpec)

/-- ITS FALSE NEIGHBOUR: 'it returns false'. Refute it at one input. -/
def dfaRunsWrong : ChangeSpec := { name := "dfaRuns", fn := fun _ => fun
  | [d1, d2, d3, d4] => { results := [.lit (.bool false)], args := [d1, d2, d3, d4] }
  | _ => none }
def DfaRunsWrongFalsely : Prop := dfaRunsRow.holds Try.pinned (OpenSpec.ofChange dfaRunsWrong)

/-- 'quincunxlaw04.DfaSame': WHATEVER THE INPUT: true; the input reads as it did. -/
def dfaSameSpec : ChangeSpec := { name := "dfaSame", fn := fun _ => fun
  | [d1, d2] => { results := [.lit (.bool true)], args := [d1, d2] }
  | _ => none }
def dfaSameRow : OpenClaim := { program := "ytngbfjimmdkfeaa", sum := "9a804e3fe224923edfc10dedf1baea28d6aac835667e20fc43aa683204eb3160", func := "quincunx/quincunxlaw04.DfaSame", spec := "dfaSame", unfollowed := true, recurses := true, plainKeys := false, apart := false }
def DfaSameSaid : Prop := dfaSameRow.holds Try.pinned (OpenSpec.ofChange dfaSameSpec)

/-- ITS FALSE NEIGHBOUR: 'it returns false'. Refute it at one input. -/
def dfaSameWrong : ChangeSpec := { name := "dfaSame", fn := fun _ => fun
  | [d1, d2] => { results := [.lit (.bool false)], args := [d1, d2] }
  | _ => none }
def DfaSameWrongFalsely : Prop := dfaSameRow.holds Try.pinned (OpenSpec.ofChange dfaSameWrong)

/-- 'quincunxlaw04.DfaRegex': WHATEVER THE INPUT: true; the input reads as it did. -/
def dfaRegexSpec : ChangeSpec := { name := "dfaRegex", fn := fun _ => fun
  | [d1, d2] => { results := [.lit (.bool true)], args := [d1, d2] }
  | _ => none }
def dfaRegexRow : OpenClaim := { program := "ytngbfjimmdkfeaa", sum := "9a804e3fe224923edfc10dedf1baea28d6aac835667e20fc43aa683204eb3160", func := "quincunx/quincunxlaw04.DfaRegex", spec := "dfaRegex", unfollowed := true, recurses := true, loops := true, plainKeys := false, apart := false }
def DfaRegexSaid : Prop := dfaRegexRow.holds Try.pinned (OpenSpec.ofChange dfaRegexSpec)

/-- ITS FALSE NEIGHBOUR: 'it returns false'. Refute it at one input. -/
def dfaRegexWrong : ChangeSpec := { name := "dfaRegex", fn := fun _ => fun
  | [d1, d2] => { results := [.lit (.bool false)], args := [d1, d2] }
  | _ => none }
def DfaRegexWrongFalsely : Prop := dfaRegexRow.holds Try.pinned (OpenSpec.ofChange dfaRegexWrong)

/-- 'quincunxlaw04.DfaSteps': WHATEVER THE INPUT: true; the input reads as it did. -/
def dfaStepsSpec : ChangeSpec := { name := "dfaSteps", fn := fun _ => fun
  | [d1, d2, d3] => { results := [.lit (.bool true)], args := [d1, d2, d3] }
  | _ => none }
def dfaStepsRow : OpenClaim := { program := "ytngbfjimmdkfeaa", sum := "9a804e3fe224923edfc10dedf1baea28d6aac835667e20fc43aa683204eb3160", func := "quincunx/quincunxlaw04.DfaSteps", spec := "dfaSteps", unfollowed := true, recurses := true, plainKeys := false, apart := false }
def DfaStepsSaid : Prop := dfaStepsRow.holds Try.pinned (OpenSpec.ofChange dfaStepsSpec)

/-- ITS FALSE NEIGHBOUR: 'it returns false'. Refute it at one input. -/
def dfaStepsWrong : ChangeSpec := { name := "dfaSteps", fn := fun _ => fun
  | [d1, d2, d3] => { results := [.lit (.bool false)], args := [d1, d2, d3] }
  | _ => none }
def DfaStepsWrongFalsely : Prop := dfaStepsRow.holds Try.pinned (OpenSpec.ofChange dfaStepsWrong)

/- THE SECOND FORM. 'bulk': how many values and letters a reading holds, each counted each time it is reached (what is shared counts as often as it is met; a slice's spare places count too). A statement '..UptoSaid' is the law's where the arguments, and the package variables that the reading takes, are together of bulk at most 1048576: NARROWER than '..Said'. Prove '..Said' where nothing that the law and all that it calls make is longer than what came in: it says more and counts as full. Else prove '..UptoSaid'. A law counts once. -/
mutual
def uptoBulk {H : Type} : DataW H → Nat
  | .lit (.string bytes) => bytes.length + 1
  | .lit _ => 1
  | .nil => 1
  | .ptr d => uptoBulk d + 1
  | .slice elems spare => uptoBulkAll elems + uptoBulkAll spare + 1
  | .agg parts => uptoBulkAll parts + 1
  | .iface _ d => uptoBulk d + 1
  | .map entries => uptoBulkEntries entries + 1
  | .held _ => 1
def uptoBulkAll {H : Type} : List (DataW H) → Nat
  | [] => 0
  | d :: r => uptoBulk d + uptoBulkAll r
def uptoBulkEntries {H : Type} : List (Lit × DataW H) → Nat
  | [] => 0
  | x :: r => uptoBulkEntry x + uptoBulkEntries r
def uptoBulkEntry {H : Type} : Lit × DataW H → Nat
  | (.string bytes, d) => bytes.length + uptoBulk d + 1
  | (_, d) => uptoBulk d + 1
 end
def uptoSmall : (H : Type) → List (DataW H) → Bool := fun _ ds => decide (uptoBulkAll ds ≤ 1048576)
def OpenSpec.upto (s : _root_.Go.ChangeSpec) : _root_.Go.OpenSpec := { _root_.Go.OpenSpec.ofChange s with cond := some uptoSmall }

/-- 'quincunxlaw04.DfaChecks', WHERE WHAT IT READS IS OF BULK AT MOST 1048576: true; the input reads as it did. -/
def dfaChecksUptoRow : OpenClaim := { program := "ytngbfjimmdkfeaa", sum := "9a804e3fe224923edfc10dedf1baea28d6aac835667e20fc43aa683204eb3160", func := "quincunx/quincunxlaw04.DfaChecks", spec := "dfaChecks", unfollowed := true, recurses := true, plainKeys := false, apart := false, narrowed := true }
def DfaChecksUptoSaid : Prop := dfaChecksUptoRow.holds Try.pinned (OpenSpec.upto dfaChecksSpec)

/-- 'quincunxlaw04.DfaBuilds', WHERE WHAT IT READS IS OF BULK AT MOST 1048576: true; the input reads as it did. -/
def dfaBuildsUptoRow : OpenClaim := { program := "ytngbfjimmdkfeaa", sum := "9a804e3fe224923edfc10dedf1baea28d6aac835667e20fc43aa683204eb3160", func := "quincunx/quincunxlaw04.DfaBuilds", spec := "dfaBuilds", unfollowed := true, recurses := true, plainKeys := false, apart := false, narrowed := true }
def DfaBuildsUptoSaid : Prop := dfaBuildsUptoRow.holds Try.pinned (OpenSpec.upto dfaBuildsSpec)

/-- 'quincunxlaw04.DfaRuns', WHERE WHAT IT READS IS OF BULK AT MOST 1048576: true; the input reads as it did. -/
def dfaRunsUptoRow : OpenClaim := { program := "ytngbfjimmdkfeaa", sum := "9a804e3fe224923edfc10dedf1baea28d6aac835667e20fc43aa683204eb3160", func := "quincunx/quincunxlaw04.DfaRuns", spec := "dfaRuns", unfollowed := true, recurses := true, plainKeys := false, apart := false, narrowed := true }
def DfaRunsUptoSaid : Prop := dfaRunsUptoRow.holds Try.pinned (OpenSpec.upto dfaRunsSpec)

/-- 'quincunxlaw04.DfaSame', WHERE WHAT IT READS IS OF BULK AT MOST 1048576: true; the input reads as it did. -/
def dfaSameUptoRow : OpenClaim := { program := "ytngbfjimmdkfeaa", sum := "9a804e3fe224923edfc10dedf1baea28d6aac835667e20fc43aa683204eb3160", func := "quincunx/quincunxlaw04.DfaSame", spec := "dfaSame", unfollowed := true, recurses := true, plainKeys := false, apart := false, narrowed := true }
def DfaSameUptoSaid : Prop := dfaSameUptoRow.holds Try.pinned (OpenSpec.upto dfaSameSpec)

/-- 'quincunxlaw04.DfaRegex', WHERE WHAT IT READS IS OF BULK AT MOST 1048576: true; the input reads as it did. -/
def dfaRegexUptoRow : OpenClaim := { program := "ytngbfjimmdkfeaa", sum := "9a804e3fe224923edfc10dedf1baea28d6aac835667e20fc43aa683204eb3160", func := "quincunx/quincunxlaw04.DfaRegex", spec := "dfaRegex", unfollowed := true, recurses := true, loops := true, plainKeys := false, apart := false, narrowed := true }
def DfaRegexUptoSaid : Prop := dfaRegexUptoRow.holds Try.pinned (OpenSpec.upto dfaRegexSpec)

/-- 'quincunxlaw04.DfaSteps', WHERE WHAT IT READS IS OF BULK AT MOST 1048576: true; the input reads as it did. -/
def dfaStepsUptoRow : OpenClaim := { program := "ytngbfjimmdkfeaa", sum := "9a804e3fe224923edfc10dedf1baea28d6aac835667e20fc43aa683204eb3160", func := "quincunx/quincunxlaw04.DfaSteps", spec := "dfaSteps", unfollowed := true, recurses := true, plainKeys := false, apart := false, narrowed := true }
def DfaStepsUptoSaid : Prop := dfaStepsUptoRow.holds Try.pinned (OpenSpec.upto dfaStepsSpec)

end Rows
end Go.Proofs.Ytngbfjimmdkfeaa
