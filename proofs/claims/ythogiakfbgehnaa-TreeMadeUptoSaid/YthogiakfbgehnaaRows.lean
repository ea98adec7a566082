/-
  NARROWER THAN 'FOR EVERY INPUT', by the rows' own cells (each row's printed sentence says how): TreeBack: loops.
  DERIVED. THE GIVEN ROWS OF THIS SEAT. 12 by the template 'for every input the law returns true; each argument reads behind the call as it read before'; 0 by the template 'total and deterministic' (their statements: YthogiakfbgehnaaTotals.lean).
  GIVEN WITH THE SEED: the statements are not yours to turn. If you find one false, say at which input.
  Laid BY PROGRAM, IN A SANDBOX (cutbox-rows.mjs): the forced cells as the released guide's own fill.sh prints them over the translation 7307bea7a55c67a1… (all of the seat's roots in one cut). By AI agents, Wed Nov 11 2026. No macro, syntax, notation, axiom, sorry.
-/
import Derived.Test.YthogiakfbgehnaaChecked
import GoSem.Claim
import GoSem.ClaimJoined
import GoSem.ClaimMapViews
import Derived.JoinedTies
import Derived.KernelRfl
namespace Go.Proofs.Ythogiakfbgehnaa
/- THE CELL 'sum', in the pinned program and in every row, IS THE sha256 OF THE DUMP (.gsa) THAT YthogiakfbgehnaaProg.lean LOADS. Nothing in Lean hashes anything: it is a label: what it is worth is what the hold of that sum in a sandbox is worth. -/
noncomputable def Try.pinned : Pinned := { name := "ythogiakfbgehnaa", sum := "7307bea7a55c67a107b195ed58d2d196b8ab85a48ee850f1a2dd630ba0ef520d", checked := Try.checked }
namespace Rows
def none {H : Type} : Left H := { results := [], args := [] }

/-- 'quincunxlaw09.SetsTell': WHATEVER THE INPUT: true; the input reads as it did. -/
def setsTellSpec : ChangeSpec := { name := "setsTell", fn := fun _ => fun
  | [d] => { results := [.lit (.bool true)], args := [d] }
  | _ => none }
def setsTellRow : OpenClaim := { program := "ythogiakfbgehnaa", sum := "7307bea7a55c67a107b195ed58d2d196b8ab85a48ee850f1a2dd630ba0ef520d", func := "quincunx/quincunxlaw09.SetsTell", spec := "setsTell", unfollowed := true, recurses := true, apart := false }
def SetsTellSaid : Prop := setsTellRow.holds Try.pinned (OpenSpec.ofChange setsTellSpec)

/-- ITS FALSE NEIGHBOUR: 'it returns false'. Refute it at one input. -/
def setsTellWrong : ChangeSpec := { name := "setsTell", fn := fun _ => fun
  | [d] => { results := [.lit (.bool false)], args := [d] }
  | _ => none }
def SetsTellWrongFalsely : Prop := setsTellRow.holds Try.pinned (OpenSpec.ofChange setsTellWrong)

/-- 'quincunxlaw09.SetsLead': WHATEVER THE INPUT: true; the input reads as it did. -/
def setsLeadSpec : ChangeSpec := { name := "setsLead", fn := fun _ => fun
  | [d1, d2] => { results := [.lit (.bool true)], args := [d1, d2] }
  | _ => none }
def setsLeadRow : OpenClaim := { program := "ythogiakfbgehnaa", sum := "7307bea7a55c67a107b195ed58d2d196b8ab85a48ee850f1a2dd630ba0ef520d", func := "quincunx/quincunxlaw09.SetsLead", spec := "setsLead", unfollowed := true, recurses := true, apart := false }
def SetsLeadSaid : Prop := setsLeadRow.holds Try.pinned (OpenSpec.ofChange setsLeadSpec)

/-- ITS FALSE NEIGHBOUR: 'it returns false'. Refute it at one input. -/
def setsLeadWrong : ChangeSpec := { name := "setsLead", fn := fun _ => fun
  | [d1, d2] => { results := [.lit (.bool false)], args := [d1, d2] }
  | _ => none }
def SetsLeadWrongFalsely : Prop := setsLeadRow.holds Try.pinned (OpenSpec.ofChange setsLeadWrong)

/-- 'quincunxlaw10.TableBuilds': WHATEVER THE INPUT: true; the input reads as it did. -/
def tableBuildsSpec : ChangeSpec := { name := "tableBuilds", fn := fun _ => fun
  | [d] => { results := [.lit (.bool true)], args := [d] }
  | _ => none }
def tableBuildsRow : OpenClaim := { program := "ythogiakfbgehnaa", sum := "7307bea7a55c67a107b195ed58d2d196b8ab85a48ee850f1a2dd630ba0ef520d", func := "quincunx/quincunxlaw10.TableBuilds", spec := "tableBuilds", unfollowed := true, recurses := true, apart := false }
def TableBuildsSaid : Prop := tableBuildsRow.holds Try.pinned (OpenSpec.ofChange tableBuildsSpec)

/-- ITS FALSE NEIGHBOUR: 'it returns false'. Refute it at one input. -/
def tableBuildsWrong : ChangeSpec := { name := "tableBuilds", fn := fun _ => fun
  | [d] => { results := [.lit (.bool false)], args := [d] }
  | _ => none }
def TableBuildsWrongFalsely : Prop := tableBuildsRow.holds Try.pinned (OpenSpec.ofChange tableBuildsWrong)

/-- 'quincunxlaw10.TableTextbook': WHATEVER THE INPUT: true; the input reads as it did. -/
def tableTextbookSpec : ChangeSpec := { name := "tableTextbook", fn := fun _ => fun
  | [d] => { results := [.lit (.bool true)], args := [d] }
  | _ => none }
def tableTextbookRow : OpenClaim := { program := "ythogiakfbgehnaa", sum := "7307bea7a55c67a107b195ed58d2d196b8ab85a48ee850f1a2dd630ba0ef520d", func := "quincunx/quincunxlaw10.TableTextbook", spec := "tableTextbook", unfollowed := true, recurses := true, apart := false }
def TableTextbookSaid : Prop := tableTextbookRow.holds Try.pinned (OpenSpec.ofChange tableTextbookSpec)

/-- ITS FALSE NEIGHBOUR: 'it returns false'. Refute it at one input. -/
def tableTextbookWrong : ChangeSpec := { name := "tableTextbook", fn := fun _ => fun
  | [d] => { results := [.lit (.bool false)], args := [d] }
  | _ => none }
def TableTextbookWrongFalsely : Prop := tableTextbookRow.holds Try.pinned (OpenSpec.ofChange tableTextbookWrong)

/-- 'quincunxlaw11.ParseTells': WHATEVER THE INPUT: true; the input reads as it did. -/
def parseTellsSpec : ChangeSpec := { name := "parseTells", fn := fun _ => fun
  | [d1, d2] => { results := [.lit (.bool true)], args := [d1, d2] }
  | _ => none }
def parseTellsRow : OpenClaim := { program := "ythogiakfbgehnaa", sum := "7307bea7a55c67a107b195ed58d2d196b8ab85a48ee850f1a2dd630ba0ef520d", func := "quincunx/quincunxlaw11.ParseTells", spec := "parseTells", unfollowed := true, recurses := true, apart := false }
def ParseTellsSaid : Prop := parseTellsRow.holds Try.pinned (OpenSpec.ofChange parseTellsSpec)

/-- ITS FALSE NEIGHBOUR: 'it returns false'. Refute it at one input. -/
def parseTellsWrong : ChangeSpec := { name := "parseTells", fn := fun _ => fun
  | [d1, d2] => { results := [.lit (.bool false)], args := [d1, d2] }
  | _ => none }
def ParseTellsWrongFalsely : Prop := parseTellsRow.holds Try.pinned (OpenSpec.ofChange parseTellsWrong)

/-- 'quincunxlaw11.ParseYields': WHATEVER THE INPUT: true; the input reads as it did. -/
def parseYieldsSpec : ChangeSpec := { name := "parseYields", fn := fun _ => fun
  | [d1, d2] => { results := [.lit (.bool true)], args := [d1, d2] }
  | _ => none }
def parseYieldsRow : OpenClaim := { program := "ythogiakfbgehnaa", sum := "7307bea7a55c67a107b195ed58d2d196b8ab85a48ee850f1a2dd630ba0ef520d", func := "quincunx/quincunxlaw11.ParseYields", spec := "parseYields", unfollowed := true, recurses := true, apart := false }
def ParseYieldsSaid : Prop := parseYieldsRow.holds Try.pinned (OpenSpec.ofChange parseYieldsSpec)

/-- ITS FALSE NEIGHBOUR: 'it returns false'. Refute it at one input. -/
def parseYieldsWrong : ChangeSpec := { name := "parseYields", fn := fun _ => fun
  | [d1, d2] => { results := [.lit (.bool false)], args := [d1, d2] }
  | _ => none }
def ParseYieldsWrongFalsely : Prop := parseYieldsRow.holds Try.pinned (OpenSpec.ofChange parseYieldsWrong)

/-- 'quincunxlaw11.ParseEarly': WHATEVER THE INPUT: true; the input reads as it did. -/
def parseEarlySpec : ChangeSpec := { name := "parseEarly", fn := fun _ => fun
  | [d1, d2, d3] => { results := [.lit (.bool true)], args := [d1, d2, d3] }
  | _ => none }
def parseEarlyRow : OpenClaim := { program := "ythogiakfbgehnaa", sum := "7307bea7a55c67a107b195ed58d2d196b8ab85a48ee850f1a2dd630ba0ef520d", func := "quincunx/quincunxlaw11.ParseEarly", spec := "parseEarly", unfollowed := true, recurses := true, apart := false }
def ParseEarlySaid : Prop := parseEarlyRow.holds Try.pinned (OpenSpec.ofChange parseEarlySpec)

/-- ITS FALSE NEIGHBOUR: 'it returns false'. Refute it at one input. -/
def parseEarlyWrong : ChangeSpec := { name := "parseEarly", fn := fun _ => fun
  | [d1, d2, d3] => { results := [.lit (.bool false)], args := [d1, d2, d3] }
  | _ => none }
def ParseEarlyWrongFalsely : Prop := parseEarlyRow.holds Try.pinned (OpenSpec.ofChange parseEarlyWrong)

/-- 'quincunxlaw11.ParseSteps': WHATEVER THE INPUT: true; the input reads as it did. -/
def parseStepsSpec : ChangeSpec := { name := "parseSteps", fn := fun _ => fun
  | [d1, d2, d3] => { results := [.lit (.bool true)], args := [d1, d2, d3] }
  | _ => none }
def parseStepsRow : OpenClaim := { program := "ythogiakfbgehnaa", sum := "7307bea7a55c67a107b195ed58d2d196b8ab85a48ee850f1a2dd630ba0ef520d", func := "quincunx/quincunxlaw11.ParseSteps", spec := "parseSteps", unfollowed := true, recurses := true, apart := false }
def ParseStepsSaid : Prop := parseStepsRow.holds Try.pinned (OpenSpec.ofChange parseStepsSpec)

/-- ITS FALSE NEIGHBOUR: 'it returns false'. Refute it at one input. -/
def parseStepsWrong : ChangeSpec := { name := "parseSteps", fn := fun _ => fun
  | [d1, d2, d3] => { results := [.lit (.bool false)], args := [d1, d2, d3] }
  | _ => none }
def ParseStepsWrongFalsely : Prop := parseStepsRow.holds Try.pinned (OpenSpec.ofChange parseStepsWrong)

/-- 'quincunxlaw13.TreeBack': WHATEVER THE INPUT: true; the input reads as it did. -/
def treeBackSpec : ChangeSpec := { name := "treeBack", fn := fun _ => fun
  | [d1, d2] => { results := [.lit (.bool true)], args := [d1, d2] }
  | _ => none }
def treeBackRow : OpenClaim := { program := "ythogiakfbgehnaa", sum := "7307bea7a55c67a107b195ed58d2d196b8ab85a48ee850f1a2dd630ba0ef520d", func := "quincunx/quincunxlaw13.TreeBack", spec := "treeBack", inPlace := ["internal/abi.NoEscape", "internal/bytealg.MakeNoZero"], unfollowed := true, recurses := true, loops := true, apart := false }
def TreeBackSaid : Prop := treeBackRow.holds Try.pinned (OpenSpec.ofChange treeBackSpec)

/-- ITS FALSE NEIGHBOUR: 'it returns false'. Refute it at one input. -/
def treeBackWrong : ChangeSpec := { name := "treeBack", fn := fun _ => fun
  | [d1, d2] => { results := [.lit (.bool false)], args := [d1, d2] }
  | _ => none }
def TreeBackWrongFalsely : Prop := treeBackRow.holds Try.pinned (OpenSpec.ofChange treeBackWrong)

/-- 'quincunxlaw13.TreeMade': WHATEVER THE INPUT: true; the input reads as it did. -/
def treeMadeSpec : ChangeSpec := { name := "treeMade", fn := fun _ => fun
  | [d1, d2] => { results := [.lit (.bool true)], args := [d1, d2] }
  | _ => none }
def treeMadeRow : OpenClaim := { program := "ythogiakfbgehnaa", sum := "7307bea7a55c67a107b195ed58d2d196b8ab85a48ee850f1a2dd630ba0ef520d", func := "quincunx/quincunxlaw13.TreeMade", spec := "treeMade", inPlace := ["internal/abi.NoEscape", "internal/bytealg.MakeNoZero"], unfollowed := true, recurses := true, apart := false }
def TreeMadeSaid : Prop := treeMadeRow.holds Try.pinned (OpenSpec.ofChange treeMadeSpec)

/-- ITS FALSE NEIGHBOUR: 'it returns false'. Refute it at one input. -/
def treeMadeWrong : ChangeSpec := { name := "treeMade", fn := fun _ => fun
  | [d1, d2] => { results := [.lit (.bool false)], args := [d1, d2] }
  | _ => none }
def TreeMadeWrongFalsely : Prop := treeMadeRow.holds Try.pinned (OpenSpec.ofChange treeMadeWrong)

/-- 'quincunxlaw13.TreeParsed': WHATEVER THE INPUT: true; the input reads as it did. -/
def treeParsedSpec : ChangeSpec := { name := "treeParsed", fn := fun _ => fun
  | [d1, d2, d3] => { results := [.lit (.bool true)], args := [d1, d2, d3] }
  | _ => none }
def treeParsedRow : OpenClaim := { program := "ythogiakfbgehnaa", sum := "7307bea7a55c67a107b195ed58d2d196b8ab85a48ee850f1a2dd630ba0ef520d", func := "quincunx/quincunxlaw13.TreeParsed", spec := "treeParsed", inPlace := ["internal/abi.NoEscape", "internal/bytealg.MakeNoZero"], unfollowed := true, recurses := true, apart := false }
def TreeParsedSaid : Prop := treeParsedRow.holds Try.pinned (OpenSpec.ofChange treeParsedSpec)

/-- ITS FALSE NEIGHBOUR: 'it returns false'. Refute it at one input. -/
def treeParsedWrong : ChangeSpec := { name := "treeParsed", fn := fun _ => fun
  | [d1, d2, d3] => { results := [.lit (.bool false)], args := [d1, d2, d3] }
  | _ => none }
def TreeParsedWrongFalsely : Prop := treeParsedRow.holds Try.pinned (OpenSpec.ofChange treeParsedWrong)

/-- 'quincunxlaw13.TreeCounts': WHATEVER THE INPUT: true; the input reads as it did. -/
def treeCountsSpec : ChangeSpec := { name := "treeCounts", fn := fun _ => fun
  | [d1, d2] => { results := [.lit (.bool true)], args := [d1, d2] }
  | _ => none }
def treeCountsRow : OpenClaim := { program := "ythogiakfbgehnaa", sum := "7307bea7a55c67a107b195ed58d2d196b8ab85a48ee850f1a2dd630ba0ef520d", func := "quincunx/quincunxlaw13.TreeCounts", spec := "treeCounts", inPlace := ["internal/abi.NoEscape", "internal/bytealg.MakeNoZero"], unfollowed := true, recurses := true, apart := false }
def TreeCountsSaid : Prop := treeCountsRow.holds Try.pinned (OpenSpec.ofChange treeCountsSpec)

/-- ITS FALSE NEIGHBOUR: 'it returns false'. Refute it at one input. -/
def treeCountsWrong : ChangeSpec := { name := "treeCounts", fn := fun _ => fun
  | [d1, d2] => { results := [.lit (.bool false)], args := [d1, d2] }
  | _ => none }
def TreeCountsWrongFalsely : Prop := treeCountsRow.holds Try.pinned (OpenSpec.ofChange treeCountsWrong)

/- THE SECOND FORM. 'bulk': how many values and letters a reading holds, each counted each time it is reached (what is shared counts as often as it is met; a slice's spare places count too). A statement '..UptoSaid' is the law's where the arguments, and the package variables that the reading takes, are together of bulk at most 1048576: NARROWER than '..Said'. Prove '..Said' where nothing that the law and all that it calls make is longer than what came in: it says more and counts as full. Else prove '..UptoSaid'. A law counts once. -/
mutual
def uptoBulk {H : Type} : DataW H → Nat
  | .lit (.string bytes) => bytes.length + 1
  | .lit _ => 1
  | .nil => 1
  | .ptr d => uptoBulk d + 1
  | .slice elems spare => uptoBulkAll elems + uptoBulkAll spare + 1
  | .agg parts => uptoBulkAll parts + 1
  | .iface _ d => uptoBulk d + 1
  | .map entries => uptoBulkEntries entries + 1
  | .held _ => 1
def uptoBulkAll {H : Type} : List (DataW H) → Nat
  | [] => 0
  | d :: r => uptoBulk d + uptoBulkAll r
def uptoBulkEntries {H : Type} : List (Lit × DataW H) → Nat
  | [] => 0
  | x :: r => uptoBulkEntry x + uptoBulkEntries r
def uptoBulkEntry {H : Type} : Lit × DataW H → Nat
  | (.string bytes, d) => bytes.length + uptoBulk d + 1
  | (_, d) => uptoBulk d + 1
 end
def uptoSmall : (H : Type) → List (DataW H) → Bool := fun _ ds => decide (uptoBulkAll ds ≤ 1048576)
def OpenSpec.upto (s : _root_.Go.ChangeSpec) : _root_.Go.OpenSpec := { _root_.Go.OpenSpec.ofChange s with cond := some uptoSmall }

/-- 'quincunxlaw09.SetsTell', WHERE WHAT IT READS IS OF BULK AT MOST 1048576: true; the input reads as it did. -/
def setsTellUptoRow : OpenClaim := { program := "ythogiakfbgehnaa", sum := "7307bea7a55c67a107b195ed58d2d196b8ab85a48ee850f1a2dd630ba0ef520d", func := "quincunx/quincunxlaw09.SetsTell", spec := "setsTell", unfollowed := true, recurses := true, apart := false, narrowed := true }
def SetsTellUptoSaid : Prop := setsTellUptoRow.holds Try.pinned (OpenSpec.upto setsTellSpec)

/-- 'quincunxlaw09.SetsLead', WHERE WHAT IT READS IS OF BULK AT MOST 1048576: true; the input reads as it did. -/
def setsLeadUptoRow : OpenClaim := { program := "ythogiakfbgehnaa", sum := "7307bea7a55c67a107b195ed58d2d196b8ab85a48ee850f1a2dd630ba0ef520d", func := "quincunx/quincunxlaw09.SetsLead", spec := "setsLead", unfollowed := true, recurses := true, apart := false, narrowed := true }
def SetsLeadUptoSaid : Prop := setsLeadUptoRow.holds Try.pinned (OpenSpec.upto setsLeadSpec)

/-- 'quincunxlaw10.TableBuilds', WHERE WHAT IT READS IS OF BULK AT MOST 1048576: true; the input reads as it did. -/
def tableBuildsUptoRow : OpenClaim := { program := "ythogiakfbgehnaa", sum := "7307bea7a55c67a107b195ed58d2d196b8ab85a48ee850f1a2dd630ba0ef520d", func := "quincunx/quincunxlaw10.TableBuilds", spec := "tableBuilds", unfollowed := true, recurses := true, apart := false, narrowed := true }
def TableBuildsUptoSaid : Prop := tableBuildsUptoRow.holds Try.pinned (OpenSpec.upto tableBuildsSpec)

/-- 'quincunxlaw10.TableTextbook', WHERE WHAT IT READS IS OF BULK AT MOST 1048576: true; the input reads as it did. -/
def tableTextbookUptoRow : OpenClaim := { program := "ythogiakfbgehnaa", sum := "7307bea7a55c67a107b195ed58d2d196b8ab85a48ee850f1a2dd630ba0ef520d", func := "quincunx/quincunxlaw10.TableTextbook", spec := "tableTextbook", unfollowed := true, recurses := true, apart := false, narrowed := true }
def TableTextbookUptoSaid : Prop := tableTextbookUptoRow.holds Try.pinned (OpenSpec.upto tableTextbookSpec)

/-- 'quincunxlaw11.ParseTells', WHERE WHAT IT READS IS OF BULK AT MOST 1048576: true; the input reads as it did. -/
def parseTellsUptoRow : OpenClaim := { program := "ythogiakfbgehnaa", sum := "7307bea7a55c67a107b195ed58d2d196b8ab85a48ee850f1a2dd630ba0ef520d", func := "quincunx/quincunxlaw11.ParseTells", spec := "parseTells", unfollowed := true, recurses := true, apart := false, narrowed := true }
def ParseTellsUptoSaid : Prop := parseTellsUptoRow.holds Try.pinned (OpenSpec.upto parseTellsSpec)

/-- 'quincunxlaw11.ParseYields', WHERE WHAT IT READS IS OF BULK AT MOST 1048576: true; the input reads as it did. -/
def parseYieldsUptoRow : OpenClaim := { program := "ythogiakfbgehnaa", sum := "7307bea7a55c67a107b195ed58d2d196b8ab85a48ee850f1a2dd630ba0ef520d", func := "quincunx/quincunxlaw11.ParseYields", spec := "parseYields", unfollowed := true, recurses := true, apart := false, narrowed := true }
def ParseYieldsUptoSaid : Prop := parseYieldsUptoRow.holds Try.pinned (OpenSpec.upto parseYieldsSpec)

/-- 'quincunxlaw11.ParseEarly', WHERE WHAT IT READS IS OF BULK AT MOST 1048576: true; the input reads as it did. -/
def parseEarlyUptoRow : OpenClaim := { program := "ythogiakfbgehnaa", sum := "7307bea7a55c67a107b195ed58d2d196b8ab85a48ee850f1a2dd630ba0ef520d", func := "quincunx/quincunxlaw11.ParseEarly", spec := "parseEarly", unfollowed := true, recurses := true, apart := false, narrowed := true }
def ParseEarlyUptoSaid : Prop := parseEarlyUptoRow.holds Try.pinned (OpenSpec.upto parseEarlySpec)

/-- 'quincunxlaw11.ParseSteps', WHERE WHAT IT READS IS OF BULK AT MOST 1048576: true; the input reads as it did. -/
def parseStepsUptoRow : OpenClaim := { program := "ythogiakfbgehnaa", sum := "7307bea7a55c67a107b195ed58d2d196b8ab85a48ee850f1a2dd630ba0ef520d", func := "quincunx/quincunxlaw11.ParseSteps", spec := "parseSteps", unfollowed := true, recurses := true, apart := false, narrowed := true }
def ParseStepsUptoSaid : Prop := parseStepsUptoRow.holds Try.pinned (OpenSpec.upto parseStepsSpec)

/-- 'quincunxlaw13.TreeBack', WHERE WHAT IT READS IS OF BULK AT MOST 1048576: true; the input reads as it did. -/
def treeBackUptoRow : OpenClaim := { program := "ythogiakfbgehnaa", sum := "7307bea7a55c67a107b195ed58d2d196b8ab85a48ee850f1a2dd630ba0ef520d", func := "quincunx/quincunxlaw13.TreeBack", spec := "treeBack", inPlace := ["internal/abi.NoEscape", "internal/bytealg.MakeNoZero"], unfollowed := true, recurses := true, loops := true, apart := false, narrowed := true }
def TreeBackUptoSaid : Prop := treeBackUptoRow.holds Try.pinned (OpenSpec.upto treeBackSpec)

/-- 'quincunxlaw13.TreeMade', WHERE WHAT IT READS IS OF BULK AT MOST 1048576: true; the input reads as it did. -/
def treeMadeUptoRow : OpenClaim := { program := "ythogiakfbgehnaa", sum := "7307bea7a55c67a107b195ed58d2d196b8ab85a48ee850f1a2dd630ba0ef520d", func := "quincunx/quincunxlaw13.TreeMade", spec := "treeMade", inPlace := ["internal/abi.NoEscape", "internal/bytealg.MakeNoZero"], unfollowed := true, recurses := true, apart := false, narrowed := true }
def TreeMadeUptoSaid : Prop := treeMadeUptoRow.holds Try.pinned (OpenSpec.upto treeMadeSpec)

/-- 'quincunxlaw13.TreeParsed', WHERE WHAT IT READS IS OF BULK AT MOST 1048576: true; the input reads as it did. -/
def treeParsedUptoRow : OpenClaim := { program := "ythogiakfbgehnaa", sum := "7307bea7a55c67a107b195ed58d2d196b8ab85a48ee850f1a2dd630ba0ef520d", func := "quincunx/quincunxlaw13.TreeParsed", spec := "treeParsed", inPlace := ["internal/abi.NoEscape", "internal/bytealg.MakeNoZero"], unfollowed := true, recurses := true, apart := false, narrowed := true }
def TreeParsedUptoSaid : Prop := treeParsedUptoRow.holds Try.pinned (OpenSpec.upto treeParsedSpec)

/-- 'quincunxlaw13.TreeCounts', WHERE WHAT IT READS IS OF BULK AT MOST 1048576: true; the input reads as it did. -/
def treeCountsUptoRow : OpenClaim := { program := "ythogiakfbgehnaa", sum := "7307bea7a55c67a107b195ed58d2d196b8ab85a48ee850f1a2dd630ba0ef520d", func := "quincunx/quincunxlaw13.TreeCounts", spec := "treeCounts", inPlace := ["internal/abi.NoEscape", "internal/bytealg.MakeNoZero"], unfollowed := true, recurses := true, apart := false, narrowed := true }
def TreeCountsUptoSaid : Prop := treeCountsUptoRow.holds Try.pinned (OpenSpec.upto treeCountsSpec)

end Rows
end Go.Proofs.Ythogiakfbgehnaa
