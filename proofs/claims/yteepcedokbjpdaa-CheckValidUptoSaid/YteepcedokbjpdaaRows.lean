/-
  No cell of these rows narrows 'for every input' (looked for: loops, veiled, ifaces, maps, wideKeys, modest, calm, conditions, laid).
  DERIVED. THE GIVEN ROWS OF THIS SEAT. 6 by the template 'for every input the law returns true; each argument reads behind the call as it read before'; 0 by the template 'total and deterministic' (their statements: YteepcedokbjpdaaTotals.lean).
  GIVEN WITH THE SEED: the statements are not yours to turn. If you find one false, say at which input.
  Laid BY PROGRAM, IN A SANDBOX (cutbox-rows.mjs): the forced cells as the released guide's own fill.sh prints them over the translation 5777c1fc854544b0… (all of the seat's roots in one cut). By AI agents, Wed Nov 11 2026. No macro, syntax, notation, axiom, sorry.
-/
import Derived.Test.YteepcedokbjpdaaChecked
import GoSem.Claim
import GoSem.ClaimJoined
import GoSem.ClaimMapViews
import Derived.JoinedTies
import Derived.KernelRfl
namespace Go.Proofs.Yteepcedokbjpdaa
/- THE CELL 'sum', in the pinned program and in every row, IS THE sha256 OF THE DUMP (.gsa) THAT YteepcedokbjpdaaProg.lean LOADS. Nothing in Lean hashes anything: it is a label: what it is worth is what the hold of that sum in a sandbox is worth. -/
noncomputable def Try.pinned : Pinned := { name := "yteepcedokbjpdaa", sum := "5777c1fc854544b0825d42fb0df36a56ea5a6e90504eae5d74094822877d7858", checked := Try.checked }
namespace Rows
def none {H : Type} : Left H := { results := [], args := [] }

/-- 'quincunxlaw08.CheckFlaws': WHATEVER THE INPUT: true; the input reads as it did. -/
def checkFlawsSpec : ChangeSpec := { name := "checkFlaws", fn := fun _ => fun
  | [d1, d2] => { results := [.lit (.bool true)], args := [d1, d2] }
  | _ => none }
def checkFlawsRow : OpenClaim := { program := "yteepcedokbjpdaa", sum := "5777c1fc854544b0825d42fb0df36a56ea5a6e90504eae5d74094822877d7858", func := "quincunx/quincunxlaw08.CheckFlaws", spec := "checkFlaws", unfollowed := true, recurses := true, plainKeys := false, apart := false }
def CheckFlawsSaid : Prop := checkFlawsRow.holds Try.pinned (OpenSpec.ofChange checkFlawsSpec)

/-- ITS FALSE NEIGHBOUR: 'it returns false'. Refute it at one input. -/
def checkFlawsWrong : ChangeSpec := { name := "checkFlaws", fn := fun _ => fun
  | [d1, d2] => { results := [.lit (.bool false)], args := [d1, d2] }
  | _ => none }
def CheckFlawsWrongFalsely : Prop := checkFlawsRow.holds Try.pinned (OpenSpec.ofChange checkFlawsWrong)

/-- 'quincunxlaw08.CheckNumbers': WHATEVER THE INPUT: true; the input reads as it did. -/
def checkNumbersSpec : ChangeSpec := { name := "checkNumbers", fn := fun _ => fun
  | [d1, d2] => { results := [.lit (.bool true)], args := [d1, d2] }
  | _ => none }
def checkNumbersRow : OpenClaim := { program := "yteepcedokbjpdaa", sum := "5777c1fc854544b0825d42fb0df36a56ea5a6e90504eae5d74094822877d7858", func := "quincunx/quincunxlaw08.CheckNumbers", spec := "checkNumbers", unfollowed := true, recurses := true, plainKeys := false, apart := false }
def CheckNumbersSaid : Prop := checkNumbersRow.holds Try.pinned (OpenSpec.ofChange checkNumbersSpec)

/-- ITS FALSE NEIGHBOUR: 'it returns false'. Refute it at one input. -/
def checkNumbersWrong : ChangeSpec := { name := "checkNumbers", fn := fun _ => fun
  | [d1, d2] => { results := [.lit (.bool false)], args := [d1, d2] }
  | _ => none }
def CheckNumbersWrongFalsely : Prop := checkNumbersRow.holds Try.pinned (OpenSpec.ofChange checkNumbersWrong)

/-- 'quincunxlaw08.CheckValid': WHATEVER THE INPUT: true; the input reads as it did. -/
def checkValidSpec : ChangeSpec := { name := "checkValid", fn := fun _ => fun
  | [d] => { results := [.lit (.bool true)], args := [d] }
  | _ => none }
def checkValidRow : OpenClaim := { program := "yteepcedokbjpdaa", sum := "5777c1fc854544b0825d42fb0df36a56ea5a6e90504eae5d74094822877d7858", func := "quincunx/quincunxlaw08.CheckValid", spec := "checkValid", unfollowed := true, recurses := true, plainKeys := false, apart := false }
def CheckValidSaid : Prop := checkValidRow.holds Try.pinned (OpenSpec.ofChange checkValidSpec)

/-- ITS FALSE NEIGHBOUR: 'it returns false'. Refute it at one input. -/
def checkValidWrong : ChangeSpec := { name := "checkValid", fn := fun _ => fun
  | [d] => { results := [.lit (.bool false)], args := [d] }
  | _ => none }
def CheckValidWrongFalsely : Prop := checkValidRow.holds Try.pinned (OpenSpec.ofChange checkValidWrong)

/-- 'quincunxlaw08.CheckBack': WHATEVER THE INPUT: true; the input reads as it did. -/
def checkBackSpec : ChangeSpec := { name := "checkBack", fn := fun _ => fun
  | [d1, d2] => { results := [.lit (.bool true)], args := [d1, d2] }
  | _ => none }
def checkBackRow : OpenClaim := { program := "yteepcedokbjpdaa", sum := "5777c1fc854544b0825d42fb0df36a56ea5a6e90504eae5d74094822877d7858", func := "quincunx/quincunxlaw08.CheckBack", spec := "checkBack", unfollowed := true, recurses := true, plainKeys := false, apart := false }
def CheckBackSaid : Prop := checkBackRow.holds Try.pinned (OpenSpec.ofChange checkBackSpec)

/-- ITS FALSE NEIGHBOUR: 'it returns false'. Refute it at one input. -/
def checkBackWrong : ChangeSpec := { name := "checkBack", fn := fun _ => fun
  | [d1, d2] => { results := [.lit (.bool false)], args := [d1, d2] }
  | _ => none }
def CheckBackWrongFalsely : Prop := checkBackRow.holds Try.pinned (OpenSpec.ofChange checkBackWrong)

/-- 'quincunxlaw08.CheckMore': WHATEVER THE INPUT: true; the input reads as it did. -/
def checkMoreSpec : ChangeSpec := { name := "checkMore", fn := fun _ => fun
  | [d1, d2, d3] => { results := [.lit (.bool true)], args := [d1, d2, d3] }
  | _ => none }
def checkMoreRow : OpenClaim := { program := "yteepcedokbjpdaa", sum := "5777c1fc854544b0825d42fb0df36a56ea5a6e90504eae5d74094822877d7858", func := "quincunx/quincunxlaw08.CheckMore", spec := "checkMore", unfollowed := true, recurses := true, plainKeys := false, apart := false }
def CheckMoreSaid : Prop := checkMoreRow.holds Try.pinned (OpenSpec.ofChange checkMoreSpec)

/-- ITS FALSE NEIGHBOUR: 'it returns false'. Refute it at one input. -/
def checkMoreWrong : ChangeSpec := { name := "checkMore", fn := fun _ => fun
  | [d1, d2, d3] => { results := [.lit (.bool false)], args := [d1, d2, d3] }
  | _ => none }
def CheckMoreWrongFalsely : Prop := checkMoreRow.holds Try.pinned (OpenSpec.ofChange checkMoreWrong)

/-- 'quincunxlaw08.CheckShapes': WHATEVER THE INPUT: true; the input reads as it did. -/
def checkShapesSpec : ChangeSpec := { name := "checkShapes", fn := fun _ => fun
  | [d1, d2] => { results := [.lit (.bool true)], args := [d1, d2] }
  | _ => none }
def checkShapesRow : OpenClaim := { program := "yteepcedokbjpdaa", sum := "5777c1fc854544b0825d42fb0df36a56ea5a6e90504eae5d74094822877d7858", func := "quincunx/quincunxlaw08.CheckShapes", spec := "checkShapes", unfollowed := true, recurses := true, plainKeys := false, apart := false }
def CheckShapesSaid : Prop := checkShapesRow.holds Try.pinned (OpenSpec.ofChange checkShapesSpec)

/-- ITS FALSE NEIGHBOUR: 'it returns false'. Refute it at one input. -/
def checkShapesWrong : ChangeSpec := { name := "checkShapes", fn := fun _ => fun
  | [d1, d2] => { results := [.lit (.bool false)], args := [d1, d2] }
  | _ => none }
def CheckShapesWrongFalsely : Prop := checkShapesRow.holds Try.pinned (OpenSpec.ofChange checkShapesWrong)

/- THE SECOND FORM. 'bulk': how many values and letters a reading holds, each counted each time it is reached (what is shared counts as often as it is met; a slice's spare places count too). A statement '..UptoSaid' is the law's where the arguments, and the package variables that the reading takes, are together of bulk at most 1048576: NARROWER than '..Said'. Prove '..Said' where nothing that the law and all that it calls make is longer than what came in: it says more and counts as full. Else prove '..UptoSaid'. A law counts once. -/
mutual
def uptoBulk {H : Type} : DataW H → Nat
  | .lit (.string bytes) => bytes.length + 1
  | .lit _ => 1
  | .nil => 1
  | .ptr d => uptoBulk d + 1
  | .slice elems spare => uptoBulkAll elems + uptoBulkAll spare + 1
  | .agg parts => uptoBulkAll parts + 1
  | .iface _ d => uptoBulk d + 1
  | .map entries => uptoBulkEntries entries + 1
  | .held _ => 1
def uptoBulkAll {H : Type} : List (DataW H) → Nat
  | [] => 0
  | d :: r => uptoBulk d + uptoBulkAll r
def uptoBulkEntries {H : Type} : List (Lit × DataW H) → Nat
  | [] => 0
  | x :: r => uptoBulkEntry x + uptoBulkEntries r
def uptoBulkEntry {H : Type} : Lit × DataW H → Nat
  | (.string bytes, d) => bytes.length + uptoBulk d + 1
  | (_, d) => uptoBulk d + 1
 end
def uptoSmall : (H : Type) → List (DataW H) → Bool := fun _ ds => decide (uptoBulkAll ds ≤ 1048576)
def OpenSpec.upto (s : _root_.Go.ChangeSpec) : _root_.Go.OpenSpec := { _root_.Go.OpenSpec.ofChange s with cond := some uptoSmall }

/-- 'quincunxlaw08.CheckFlaws', WHERE WHAT IT READS IS OF BULK AT MOST 1048576: true; the input reads as it did. -/
def checkFlawsUptoRow : OpenClaim := { program := "yteepcedokbjpdaa", sum := "5777c1fc854544b0825d42fb0df36a56ea5a6e90504eae5d74094822877d7858", func := "quincunx/quincunxlaw08.CheckFlaws", spec := "checkFlaws", unfollowed := true, recurses := true, plainKeys := false, apart := false, narrowed := true }
def CheckFlawsUptoSaid : Prop := checkFlawsUptoRow.holds Try.pinned (OpenSpec.upto checkFlawsSpec)

/-- 'quincunxlaw08.CheckNumbers', WHERE WHAT IT READS IS OF BULK AT MOST 1048576: true; the input reads as it did. -/
def checkNumbersUptoRow : OpenClaim := { program := "yteepcedokbjpdaa", sum := "5777c1fc854544b0825d42fb0df36a56ea5a6e90504eae5d74094822877d7858", func := "quincunx/quincunxlaw08.CheckNumbers", spec := "checkNumbers", unfollowed := true, recurses := true, plainKeys := false, apart := false, narrowed := true }
def CheckNumbersUptoSaid : Prop := checkNumbersUptoRow.holds Try.pinned (OpenSpec.upto checkNumbersSpec)

/-- 'quincunxlaw08.CheckValid', WHERE WHAT IT READS IS OF BULK AT MOST 1048576: true; the input reads as it did. -/
def checkValidUptoRow : OpenClaim := { program := "yteepcedokbjpdaa", sum := "5777c1fc854544b0825d42fb0df36a56ea5a6e90504eae5d74094822877d7858", func := "quincunx/quincunxlaw08.CheckValid", spec := "checkValid", unfollowed := true, recurses := true, plainKeys := false, apart := false, narrowed := true }
def CheckValidUptoSaid : Prop := checkValidUptoRow.holds Try.pinned (OpenSpec.upto checkValidSpec)

/-- 'quincunxlaw08.CheckBack', WHERE WHAT IT READS IS OF BULK AT MOST 1048576: true; the input reads as it did. -/
def checkBackUptoRow : OpenClaim := { program := "yteepcedokbjpdaa", sum := "5777c1fc854544b0825d42fb0df36a56ea5a6e90504eae5d74094822877d7858", func := "quincunx/quincunxlaw08.CheckBack", spec := "checkBack", unfollowed := true, recurses := true, plainKeys := false, apart := false, narrowed := true }
def CheckBackUptoSaid : Prop := checkBackUptoRow.holds Try.pinned (OpenSpec.upto checkBackSpec)

/-- 'quincunxlaw08.CheckMore', WHERE WHAT IT READS IS OF BULK AT MOST 1048576: true; the input reads as it did. -/
def checkMoreUptoRow : OpenClaim := { program := "yteepcedokbjpdaa", sum := "5777c1fc854544b0825d42fb0df36a56ea5a6e90504eae5d74094822877d7858", func := "quincunx/quincunxlaw08.CheckMore", spec := "checkMore", unfollowed := true, recurses := true, plainKeys := false, apart := false, narrowed := true }
def CheckMoreUptoSaid : Prop := checkMoreUptoRow.holds Try.pinned (OpenSpec.upto checkMoreSpec)

/-- 'quincunxlaw08.CheckShapes', WHERE WHAT IT READS IS OF BULK AT MOST 1048576: true; the input reads as it did. -/
def checkShapesUptoRow : OpenClaim := { program := "yteepcedokbjpdaa", sum := "5777c1fc854544b0825d42fb0df36a56ea5a6e90504eae5d74094822877d7858", func := "quincunx/quincunxlaw08.CheckShapes", spec := "checkShapes", unfollowed := true, recurses := true, plainKeys := false, apart := false, narrowed := true }
def CheckShapesUptoSaid : Prop := checkShapesUptoRow.holds Try.pinned (OpenSpec.upto checkShapesSpec)

end Rows
end Go.Proofs.Yteepcedokbjpdaa
