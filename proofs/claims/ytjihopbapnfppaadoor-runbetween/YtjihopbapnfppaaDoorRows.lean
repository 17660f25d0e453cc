/-
  NARROWER THAN 'FOR EVERY INPUT', by the rows' own cells (each row's printed sentence says how): VmMays: laid · VmRuns: laid · VmSteps: laid · VmWords: laid · VmRenamed: laid · VmMoved: laid · RunMays: laid · RunPlays: laid · RunParts: laid · RunAlone: laid · RunBetween: laid · RunIdle: laid.
  DERIVED. THE GIVEN ROWS OF THIS SEAT. 12 by the template 'for every input the law returns true; each argument reads behind the call as it read before'; 0 by the template 'total and deterministic' (their statements: YtjihopbapnfppaaDoorTotals.lean).
  GIVEN WITH THE SEED: the statements are not yours to turn. If you find one false, say at which input.
  Laid BY PROGRAM, IN A SANDBOX (cutbox-rows.mjs): the forced cells as the released guide's own fill.sh prints them over the translation feabd22ff965d013… (all of the seat's roots in one cut). By AI agents, Wed Nov 11 2026. No macro, syntax, notation, axiom, sorry.
-/
import Derived.Test.YtjihopbapnfppaaDoorChecked
import GoSem.Claim
import GoSem.ClaimJoined
import GoSem.ClaimMapViews
import Derived.JoinedTies
import Derived.KernelRfl
namespace Go.Proofs.YtjihopbapnfppaaDoor
/- THE CELL 'sum', in the pinned program and in every row, IS THE sha256 OF THE DUMP (.gsa) THAT YtjihopbapnfppaaDoorProg.lean LOADS. Nothing in Lean hashes anything: it is a label: what it is worth is what the hold of that sum in a sandbox is worth. -/
noncomputable def Tryd.pinned : Pinned := { name := "ytjihopbapnfppaadoor", sum := "feabd22ff965d013abc6e4a00d39dfbc46ba870f076dcbee469716c5cb676ec6", checked := Tryd.checked }
namespace Rows
def none {H : Type} : Left H := { results := [], args := [] }

/- WHAT THE LISTED PACKAGE-LEVEL VARIABLES READ AS WHEN THE CALL BEGINS. Each datum BY PROGRAM (the guide's laid-datum.mjs) off the statement by which the dump's own 'gosem.cut.vars' lays the variable. In a bare row this is a premise. The card (YtjihopbapnfppaaDoorCards.lean) ties it to the program's text. -/
def laid_barograph_vm_operands {H : Type} : DataW H := .agg [.agg [.lit (.int .i64 0), .lit (.int .i64 0), .lit (.int .i64 0), .lit (.int .i64 0)], .agg [.lit (.int .i64 1), .lit (.int .i64 3), .lit (.int .i64 0), .lit (.int .i64 0)], .agg [.lit (.int .i64 1), .lit (.int .i64 1), .lit (.int .i64 0), .lit (.int .i64 0)], .agg [.lit (.int .i64 1), .lit (.int .i64 1), .lit (.int .i64 1), .lit (.int .i64 0)], .agg [.lit (.int .i64 1), .lit (.int .i64 1), .lit (.int .i64 1), .lit (.int .i64 0)], .agg [.lit (.int .i64 1), .lit (.int .i64 1), .lit (.int .i64 1), .lit (.int .i64 0)], .agg [.lit (.int .i64 1), .lit (.int .i64 1), .lit (.int .i64 1), .lit (.int .i64 0)], .agg [.lit (.int .i64 1), .lit (.int .i64 1), .lit (.int .i64 1), .lit (.int .i64 0)], .agg [.lit (.int .i64 1), .lit (.int .i64 1), .lit (.int .i64 1), .lit (.int .i64 0)], .agg [.lit (.int .i64 1), .lit (.int .i64 1), .lit (.int .i64 1), .lit (.int .i64 0)], .agg [.lit (.int .i64 2), .lit (.int .i64 0), .lit (.int .i64 0), .lit (.int .i64 0)], .agg [.lit (.int .i64 1), .lit (.int .i64 2), .lit (.int .i64 0), .lit (.int .i64 0)], .agg [.lit (.int .i64 1), .lit (.int .i64 2), .lit (.int .i64 0), .lit (.int .i64 0)], .agg [.lit (.int .i64 1), .lit (.int .i64 1), .lit (.int .i64 3), .lit (.int .i64 0)], .agg [.lit (.int .i64 1), .lit (.int .i64 1), .lit (.int .i64 3), .lit (.int .i64 0)], .agg [.lit (.int .i64 1), .lit (.int .i64 1), .lit (.int .i64 3), .lit (.int .i64 1)], .agg [.lit (.int .i64 1), .lit (.int .i64 0), .lit (.int .i64 0), .lit (.int .i64 0)], .agg [.lit (.int .i64 0), .lit (.int .i64 0), .lit (.int .i64 0), .lit (.int .i64 0)]]

/-- 'barographlaw.VmMays': WHATEVER THE INPUT: true; the input reads as it did. -/
def vmMaysSpec : ChangeSpec := { name := "vmMays", fn := fun _ => fun
  | [d] => { results := [.lit (.bool true)], args := [d] }
  | _ => none }
def vmMaysRow : OpenClaim := { program := "ytjihopbapnfppaadoor", sum := "feabd22ff965d013abc6e4a00d39dfbc46ba870f076dcbee469716c5cb676ec6", func := "barograph/barographlaw.VmMays", spec := "vmMays", unfollowed := true, recurses := true, named := ["barograph/vm.operands"], apart := false, laid := [("barograph/vm.operands", laid_barograph_vm_operands)] }
def VmMaysSaid : Prop := vmMaysRow.holds Tryd.pinned (OpenSpec.ofChange vmMaysSpec)

/-- ITS FALSE NEIGHBOUR: 'it returns false'. Refute it at one input. -/
def vmMaysWrong : ChangeSpec := { name := "vmMays", fn := fun _ => fun
  | [d] => { results := [.lit (.bool false)], args := [d] }
  | _ => none }
def VmMaysWrongFalsely : Prop := vmMaysRow.holds Tryd.pinned (OpenSpec.ofChange vmMaysWrong)

/-- 'barographlaw.VmRuns': WHATEVER THE INPUT: true; the input reads as it did. -/
def vmRunsSpec : ChangeSpec := { name := "vmRuns", fn := fun _ => fun
  | [d1, d2, d3, d4] => { results := [.lit (.bool true)], args := [d1, d2, d3, d4] }
  | _ => none }
def vmRunsRow : OpenClaim := { program := "ytjihopbapnfppaadoor", sum := "feabd22ff965d013abc6e4a00d39dfbc46ba870f076dcbee469716c5cb676ec6", func := "barograph/barographlaw.VmRuns", spec := "vmRuns", unfollowed := true, recurses := true, named := ["barograph/vm.operands"], apart := false, laid := [("barograph/vm.operands", laid_barograph_vm_operands)] }
def VmRunsSaid : Prop := vmRunsRow.holds Tryd.pinned (OpenSpec.ofChange vmRunsSpec)

/-- ITS FALSE NEIGHBOUR: 'it returns false'. Refute it at one input. -/
def vmRunsWrong : ChangeSpec := { name := "vmRuns", fn := fun _ => fun
  | [d1, d2, d3, d4] => { results := [.lit (.bool false)], args := [d1, d2, d3, d4] }
  | _ => none }
def VmRunsWrongFalsely : Prop := vmRunsRow.holds Tryd.pinned (OpenSpec.ofChange vmRunsWrong)

/-- 'barographkeep.VmSteps': WHATEVER THE INPUT: true; the input reads as it did. -/
def vmStepsSpec : ChangeSpec := { name := "vmSteps", fn := fun _ => fun
  | [d1, d2, d3, d4, d5] => { results := [.lit (.bool true)], args := [d1, d2, d3, d4, d5] }
  | _ => none }
def vmStepsRow : OpenClaim := { program := "ytjihopbapnfppaadoor", sum := "feabd22ff965d013abc6e4a00d39dfbc46ba870f076dcbee469716c5cb676ec6", func := "barograph/barographkeep.VmSteps", spec := "vmSteps", named := ["barograph/vm.operands"], apart := false, laid := [("barograph/vm.operands", laid_barograph_vm_operands)] }
def VmStepsSaid : Prop := vmStepsRow.holds Tryd.pinned (OpenSpec.ofChange vmStepsSpec)

/-- ITS FALSE NEIGHBOUR: 'it returns false'. Refute it at one input. -/
def vmStepsWrong : ChangeSpec := { name := "vmSteps", fn := fun _ => fun
  | [d1, d2, d3, d4, d5] => { results := [.lit (.bool false)], args := [d1, d2, d3, d4, d5] }
  | _ => none }
def VmStepsWrongFalsely : Prop := vmStepsRow.holds Tryd.pinned (OpenSpec.ofChange vmStepsWrong)

/-- 'barographkeep.VmWords': WHATEVER THE INPUT: true; the input reads as it did. -/
def vmWordsSpec : ChangeSpec := { name := "vmWords", fn := fun _ => fun
  | [d1, d2, d3] => { results := [.lit (.bool true)], args := [d1, d2, d3] }
  | _ => none }
def vmWordsRow : OpenClaim := { program := "ytjihopbapnfppaadoor", sum := "feabd22ff965d013abc6e4a00d39dfbc46ba870f076dcbee469716c5cb676ec6", func := "barograph/barographkeep.VmWords", spec := "vmWords", named := ["barograph/vm.operands"], apart := false, laid := [("barograph/vm.operands", laid_barograph_vm_operands)] }
def VmWordsSaid : Prop := vmWordsRow.holds Tryd.pinned (OpenSpec.ofChange vmWordsSpec)

/-- ITS FALSE NEIGHBOUR: 'it returns false'. Refute it at one input. -/
def vmWordsWrong : ChangeSpec := { name := "vmWords", fn := fun _ => fun
  | [d1, d2, d3] => { results := [.lit (.bool false)], args := [d1, d2, d3] }
  | _ => none }
def VmWordsWrongFalsely : Prop := vmWordsRow.holds Tryd.pinned (OpenSpec.ofChange vmWordsWrong)

/-- 'barographkeep.VmRenamed': WHATEVER THE INPUT: true; the input reads as it did. -/
def vmRenamedSpec : ChangeSpec := { name := "vmRenamed", fn := fun _ => fun
  | [d1, d2, d3, d4] => { results := [.lit (.bool true)], args := [d1, d2, d3, d4] }
  | _ => none }
def vmRenamedRow : OpenClaim := { program := "ytjihopbapnfppaadoor", sum := "feabd22ff965d013abc6e4a00d39dfbc46ba870f076dcbee469716c5cb676ec6", func := "barograph/barographkeep.VmRenamed", spec := "vmRenamed", unfollowed := true, recurses := true, named := ["barograph/vm.operands"], apart := false, laid := [("barograph/vm.operands", laid_barograph_vm_operands)] }
def VmRenamedSaid : Prop := vmRenamedRow.holds Tryd.pinned (OpenSpec.ofChange vmRenamedSpec)

/-- ITS FALSE NEIGHBOUR: 'it returns false'. Refute it at one input. -/
def vmRenamedWrong : ChangeSpec := { name := "vmRenamed", fn := fun _ => fun
  | [d1, d2, d3, d4] => { results := [.lit (.bool false)], args := [d1, d2, d3, d4] }
  | _ => none }
def VmRenamedWrongFalsely : Prop := vmRenamedRow.holds Tryd.pinned (OpenSpec.ofChange vmRenamedWrong)

/-- 'barographkeep.VmMoved': WHATEVER THE INPUT: true; the input reads as it did. -/
def vmMovedSpec : ChangeSpec := { name := "vmMoved", fn := fun _ => fun
  | [d1, d2, d3, d4, d5] => { results := [.lit (.bool true)], args := [d1, d2, d3, d4, d5] }
  | _ => none }
def vmMovedRow : OpenClaim := { program := "ytjihopbapnfppaadoor", sum := "feabd22ff965d013abc6e4a00d39dfbc46ba870f076dcbee469716c5cb676ec6", func := "barograph/barographkeep.VmMoved", spec := "vmMoved", named := ["barograph/vm.operands"], apart := false, laid := [("barograph/vm.operands", laid_barograph_vm_operands)] }
def VmMovedSaid : Prop := vmMovedRow.holds Tryd.pinned (OpenSpec.ofChange vmMovedSpec)

/-- ITS FALSE NEIGHBOUR: 'it returns false'. Refute it at one input. -/
def vmMovedWrong : ChangeSpec := { name := "vmMoved", fn := fun _ => fun
  | [d1, d2, d3, d4, d5] => { results := [.lit (.bool false)], args := [d1, d2, d3, d4, d5] }
  | _ => none }
def VmMovedWrongFalsely : Prop := vmMovedRow.holds Tryd.pinned (OpenSpec.ofChange vmMovedWrong)

/-- 'barographlaw.RunMays': WHATEVER THE INPUT: true; the input reads as it did. -/
def runMaysSpec : ChangeSpec := { name := "runMays", fn := fun _ => fun
  | [d] => { results := [.lit (.bool true)], args := [d] }
  | _ => none }
def runMaysRow : OpenClaim := { program := "ytjihopbapnfppaadoor", sum := "feabd22ff965d013abc6e4a00d39dfbc46ba870f076dcbee469716c5cb676ec6", func := "barograph/barographlaw.RunMays", spec := "runMays", unfollowed := true, recurses := true, named := ["barograph/vm.operands"], apart := false, laid := [("barograph/vm.operands", laid_barograph_vm_operands)] }
def RunMaysSaid : Prop := runMaysRow.holds Tryd.pinned (OpenSpec.ofChange runMaysSpec)

/-- ITS FALSE NEIGHBOUR: 'it returns false'. Refute it at one input. -/
def runMaysWrong : ChangeSpec := { name := "runMays", fn := fun _ => fun
  | [d] => { results := [.lit (.bool false)], args := [d] }
  | _ => none }
def RunMaysWrongFalsely : Prop := runMaysRow.holds Tryd.pinned (OpenSpec.ofChange runMaysWrong)

/-- 'barographlaw.RunPlays': WHATEVER THE INPUT: true; the input reads as it did. -/
def runPlaysSpec : ChangeSpec := { name := "runPlays", fn := fun _ => fun
  | [d1, d2] => { results := [.lit (.bool true)], args := [d1, d2] }
  | _ => none }
def runPlaysRow : OpenClaim := { program := "ytjihopbapnfppaadoor", sum := "feabd22ff965d013abc6e4a00d39dfbc46ba870f076dcbee469716c5cb676ec6", func := "barograph/barographlaw.RunPlays", spec := "runPlays", unfollowed := true, recurses := true, named := ["barograph/vm.operands"], apart := false, laid := [("barograph/vm.operands", laid_barograph_vm_operands)] }
def RunPlaysSaid : Prop := runPlaysRow.holds Tryd.pinned (OpenSpec.ofChange runPlaysSpec)

/-- ITS FALSE NEIGHBOUR: 'it returns false'. Refute it at one input. -/
def runPlaysWrong : ChangeSpec := { name := "runPlays", fn := fun _ => fun
  | [d1, d2] => { results := [.lit (.bool false)], args := [d1, d2] }
  | _ => none }
def RunPlaysWrongFalsely : Prop := runPlaysRow.holds Tryd.pinned (OpenSpec.ofChange runPlaysWrong)

/-- 'barographkeep.RunParts': WHATEVER THE INPUT: true; the input reads as it did. -/
def runPartsSpec : ChangeSpec := { name := "runParts", fn := fun _ => fun
  | [d1, d2, d3, d4, d5] => { results := [.lit (.bool true)], args := [d1, d2, d3, d4, d5] }
  | _ => none }
def runPartsRow : OpenClaim := { program := "ytjihopbapnfppaadoor", sum := "feabd22ff965d013abc6e4a00d39dfbc46ba870f076dcbee469716c5cb676ec6", func := "barograph/barographkeep.RunParts", spec := "runParts", unfollowed := true, recurses := true, named := ["barograph/vm.operands"], apart := false, laid := [("barograph/vm.operands", laid_barograph_vm_operands)] }
def RunPartsSaid : Prop := runPartsRow.holds Tryd.pinned (OpenSpec.ofChange runPartsSpec)

/-- ITS FALSE NEIGHBOUR: 'it returns false'. Refute it at one input. -/
def runPartsWrong : ChangeSpec := { name := "runParts", fn := fun _ => fun
  | [d1, d2, d3, d4, d5] => { results := [.lit (.bool false)], args := [d1, d2, d3, d4, d5] }
  | _ => none }
def RunPartsWrongFalsely : Prop := runPartsRow.holds Tryd.pinned (OpenSpec.ofChange runPartsWrong)

/-- 'barographkeep.RunAlone': WHATEVER THE INPUT: true; the input reads as it did. -/
def runAloneSpec : ChangeSpec := { name := "runAlone", fn := fun _ => fun
  | [d1, d2, d3] => { results := [.lit (.bool true)], args := [d1, d2, d3] }
  | _ => none }
def runAloneRow : OpenClaim := { program := "ytjihopbapnfppaadoor", sum := "feabd22ff965d013abc6e4a00d39dfbc46ba870f076dcbee469716c5cb676ec6", func := "barograph/barographkeep.RunAlone", spec := "runAlone", unfollowed := true, recurses := true, named := ["barograph/vm.operands"], apart := false, laid := [("barograph/vm.operands", laid_barograph_vm_operands)] }
def RunAloneSaid : Prop := runAloneRow.holds Tryd.pinned (OpenSpec.ofChange runAloneSpec)

/-- ITS FALSE NEIGHBOUR: 'it returns false'. Refute it at one input. -/
def runAloneWrong : ChangeSpec := { name := "runAlone", fn := fun _ => fun
  | [d1, d2, d3] => { results := [.lit (.bool false)], args := [d1, d2, d3] }
  | _ => none }
def RunAloneWrongFalsely : Prop := runAloneRow.holds Tryd.pinned (OpenSpec.ofChange runAloneWrong)

/-- 'barographkeep.RunBetween': WHATEVER THE INPUT: true; the input reads as it did. -/
def runBetweenSpec : ChangeSpec := { name := "runBetween", fn := fun _ => fun
  | [d1, d2, d3, d4] => { results := [.lit (.bool true)], args := [d1, d2, d3, d4] }
  | _ => none }
def runBetweenRow : OpenClaim := { program := "ytjihopbapnfppaadoor", sum := "feabd22ff965d013abc6e4a00d39dfbc46ba870f076dcbee469716c5cb676ec6", func := "barograph/barographkeep.RunBetween", spec := "runBetween", unfollowed := true, recurses := true, named := ["barograph/vm.operands"], apart := false, laid := [("barograph/vm.operands", laid_barograph_vm_operands)] }
def RunBetweenSaid : Prop := runBetweenRow.holds Tryd.pinned (OpenSpec.ofChange runBetweenSpec)

/-- ITS FALSE NEIGHBOUR: 'it returns false'. Refute it at one input. -/
def runBetweenWrong : ChangeSpec := { name := "runBetween", fn := fun _ => fun
  | [d1, d2, d3, d4] => { results := [.lit (.bool false)], args := [d1, d2, d3, d4] }
  | _ => none }
def RunBetweenWrongFalsely : Prop := runBetweenRow.holds Tryd.pinned (OpenSpec.ofChange runBetweenWrong)

/-- 'barographkeep.RunIdle': WHATEVER THE INPUT: true; the input reads as it did. -/
def runIdleSpec : ChangeSpec := { name := "runIdle", fn := fun _ => fun
  | [d1, d2, d3, d4, d5] => { results := [.lit (.bool true)], args := [d1, d2, d3, d4, d5] }
  | _ => none }
def runIdleRow : OpenClaim := { program := "ytjihopbapnfppaadoor", sum := "feabd22ff965d013abc6e4a00d39dfbc46ba870f076dcbee469716c5cb676ec6", func := "barograph/barographkeep.RunIdle", spec := "runIdle", unfollowed := true, recurses := true, named := ["barograph/vm.operands"], apart := false, laid := [("barograph/vm.operands", laid_barograph_vm_operands)] }
def RunIdleSaid : Prop := runIdleRow.holds Tryd.pinned (OpenSpec.ofChange runIdleSpec)

/-- ITS FALSE NEIGHBOUR: 'it returns false'. Refute it at one input. -/
def runIdleWrong : ChangeSpec := { name := "runIdle", fn := fun _ => fun
  | [d1, d2, d3, d4, d5] => { results := [.lit (.bool false)], args := [d1, d2, d3, d4, d5] }
  | _ => none }
def RunIdleWrongFalsely : Prop := runIdleRow.holds Tryd.pinned (OpenSpec.ofChange runIdleWrong)

/- THE SECOND FORM. 'bulk': how many values and letters a reading holds, each counted each time it is reached (what is shared counts as often as it is met; a slice's spare places count too). A statement '..UptoSaid' is the law's where the arguments, and the package variables that the reading takes, are together of bulk at most 1048576: NARROWER than '..Said'. Prove '..Said' where nothing that the law and all that it calls make is longer than what came in: it says more and counts as full. Else prove '..UptoSaid'. A law counts once. -/
mutual
def uptoBulk {H : Type} : DataW H → Nat
  | .lit (.string bytes) => bytes.length + 1
  | .lit _ => 1
  | .nil => 1
  | .ptr d => uptoBulk d + 1
  | .slice elems spare => uptoBulkAll elems + uptoBulkAll spare + 1
  | .agg parts => uptoBulkAll parts + 1
  | .iface _ d => uptoBulk d + 1
  | .map entries => uptoBulkEntries entries + 1
  | .held _ => 1
def uptoBulkAll {H : Type} : List (DataW H) → Nat
  | [] => 0
  | d :: r => uptoBulk d + uptoBulkAll r
def uptoBulkEntries {H : Type} : List (Lit × DataW H) → Nat
  | [] => 0
  | x :: r => uptoBulkEntry x + uptoBulkEntries r
def uptoBulkEntry {H : Type} : Lit × DataW H → Nat
  | (.string bytes, d) => bytes.length + uptoBulk d + 1
  | (_, d) => uptoBulk d + 1
 end
def uptoSmall : (H : Type) → List (DataW H) → Bool := fun _ ds => decide (uptoBulkAll ds ≤ 1048576)
def OpenSpec.upto (s : _root_.Go.ChangeSpec) : _root_.Go.OpenSpec := { _root_.Go.OpenSpec.ofChange s with cond := some uptoSmall }

/-- 'barographlaw.VmMays', WHERE WHAT IT READS IS OF BULK AT MOST 1048576: true; the input reads as it did. -/
def vmMaysUptoRow : OpenClaim := { program := "ytjihopbapnfppaadoor", sum := "feabd22ff965d013abc6e4a00d39dfbc46ba870f076dcbee469716c5cb676ec6", func := "barograph/barographlaw.VmMays", spec := "vmMays", unfollowed := true, recurses := true, named := ["barograph/vm.operands"], apart := false, laid := [("barograph/vm.operands", laid_barograph_vm_operands)], narrowed := true }
def VmMaysUptoSaid : Prop := vmMaysUptoRow.holds Tryd.pinned (OpenSpec.upto vmMaysSpec)

/-- 'barographlaw.VmRuns', WHERE WHAT IT READS IS OF BULK AT MOST 1048576: true; the input reads as it did. -/
def vmRunsUptoRow : OpenClaim := { program := "ytjihopbapnfppaadoor", sum := "feabd22ff965d013abc6e4a00d39dfbc46ba870f076dcbee469716c5cb676ec6", func := "barograph/barographlaw.VmRuns", spec := "vmRuns", unfollowed := true, recurses := true, named := ["barograph/vm.operands"], apart := false, laid := [("barograph/vm.operands", laid_barograph_vm_operands)], narrowed := true }
def VmRunsUptoSaid : Prop := vmRunsUptoRow.holds Tryd.pinned (OpenSpec.upto vmRunsSpec)

/-- 'barographkeep.VmSteps', WHERE WHAT IT READS IS OF BULK AT MOST 1048576: true; the input reads as it did. -/
def vmStepsUptoRow : OpenClaim := { program := "ytjihopbapnfppaadoor", sum := "feabd22ff965d013abc6e4a00d39dfbc46ba870f076dcbee469716c5cb676ec6", func := "barograph/barographkeep.VmSteps", spec := "vmSteps", named := ["barograph/vm.operands"], apart := false, laid := [("barograph/vm.operands", laid_barograph_vm_operands)], narrowed := true }
def VmStepsUptoSaid : Prop := vmStepsUptoRow.holds Tryd.pinned (OpenSpec.upto vmStepsSpec)

/-- 'barographkeep.VmWords', WHERE WHAT IT READS IS OF BULK AT MOST 1048576: true; the input reads as it did. -/
def vmWordsUptoRow : OpenClaim := { program := "ytjihopbapnfppaadoor", sum := "feabd22ff965d013abc6e4a00d39dfbc46ba870f076dcbee469716c5cb676ec6", func := "barograph/barographkeep.VmWords", spec := "vmWords", named := ["barograph/vm.operands"], apart := false, laid := [("barograph/vm.operands", laid_barograph_vm_operands)], narrowed := true }
def VmWordsUptoSaid : Prop := vmWordsUptoRow.holds Tryd.pinned (OpenSpec.upto vmWordsSpec)

/-- 'barographkeep.VmRenamed', WHERE WHAT IT READS IS OF BULK AT MOST 1048576: true; the input reads as it did. -/
def vmRenamedUptoRow : OpenClaim := { program := "ytjihopbapnfppaadoor", sum := "feabd22ff965d013abc6e4a00d39dfbc46ba870f076dcbee469716c5cb676ec6", func := "barograph/barographkeep.VmRenamed", spec := "vmRenamed", unfollowed := true, recurses := true, named := ["barograph/vm.operands"], apart := false, laid := [("barograph/vm.operands", laid_barograph_vm_operands)], narrowed := true }
def VmRenamedUptoSaid : Prop := vmRenamedUptoRow.holds Tryd.pinned (OpenSpec.upto vmRenamedSpec)

/-- 'barographkeep.VmMoved', WHERE WHAT IT READS IS OF BULK AT MOST 1048576: true; the input reads as it did. -/
def vmMovedUptoRow : OpenClaim := { program := "ytjihopbapnfppaadoor", sum := "feabd22ff965d013abc6e4a00d39dfbc46ba870f076dcbee469716c5cb676ec6", func := "barograph/barographkeep.VmMoved", spec := "vmMoved", named := ["barograph/vm.operands"], apart := false, laid := [("barograph/vm.operands", laid_barograph_vm_operands)], narrowed := true }
def VmMovedUptoSaid : Prop := vmMovedUptoRow.holds Tryd.pinned (OpenSpec.upto vmMovedSpec)

/-- 'barographlaw.RunMays', WHERE WHAT IT READS IS OF BULK AT MOST 1048576: true; the input reads as it did. -/
def runMaysUptoRow : OpenClaim := { program := "ytjihopbapnfppaadoor", sum := "feabd22ff965d013abc6e4a00d39dfbc46ba870f076dcbee469716c5cb676ec6", func := "barograph/barographlaw.RunMays", spec := "runMays", unfollowed := true, recurses := true, named := ["barograph/vm.operands"], apart := false, laid := [("barograph/vm.operands", laid_barograph_vm_operands)], narrowed := true }
def RunMaysUptoSaid : Prop := runMaysUptoRow.holds Tryd.pinned (OpenSpec.upto runMaysSpec)

/-- 'barographlaw.RunPlays', WHERE WHAT IT READS IS OF BULK AT MOST 1048576: true; the input reads as it did. -/
def runPlaysUptoRow : OpenClaim := { program := "ytjihopbapnfppaadoor", sum := "feabd22ff965d013abc6e4a00d39dfbc46ba870f076dcbee469716c5cb676ec6", func := "barograph/barographlaw.RunPlays", spec := "runPlays", unfollowed := true, recurses := true, named := ["barograph/vm.operands"], apart := false, laid := [("barograph/vm.operands", laid_barograph_vm_operands)], narrowed := true }
def RunPlaysUptoSaid : Prop := runPlaysUptoRow.holds Tryd.pinned (OpenSpec.upto runPlaysSpec)

/-- 'barographkeep.RunParts', WHERE WHAT IT READS IS OF BULK AT MOST 1048576: true; the input reads as it did. -/
def runPartsUptoRow : OpenClaim := { program := "ytjihopbapnfppaadoor", sum := "feabd22ff965d013abc6e4a00d39dfbc46ba870f076dcbee469716c5cb676ec6", func := "barograph/barographkeep.RunParts", spec := "runParts", unfollowed := true, recurses := true, named := ["barograph/vm.operands"], apart := false, laid := [("barograph/vm.operands", laid_barograph_vm_operands)], narrowed := true }
def RunPartsUptoSaid : Prop := runPartsUptoRow.holds Tryd.pinned (OpenSpec.upto runPartsSpec)

/-- 'barographkeep.RunAlone', WHERE WHAT IT READS IS OF BULK AT MOST 1048576: true; the input reads as it did. -/
def runAloneUptoRow : OpenClaim := { program := "ytjihopbapnfppaadoor", sum := "feabd22ff965d013abc6e4a00d39dfbc46ba870f076dcbee469716c5cb676ec6", func := "barograph/barographkeep.RunAlone", spec := "runAlone", unfollowed := true, recurses := true, named := ["barograph/vm.operands"], apart := false, laid := [("barograph/vm.operands", laid_barograph_vm_operands)], narrowed := true }
def RunAloneUptoSaid : Prop := runAloneUptoRow.holds Tryd.pinned (OpenSpec.upto runAloneSpec)

/-- 'barographkeep.RunBetween', WHERE WHAT IT READS IS OF BULK AT MOST 1048576: true; the input reads as it did. -/
def runBetweenUptoRow : OpenClaim := { program := "ytjihopbapnfppaadoor", sum := "feabd22ff965d013abc6e4a00d39dfbc46ba870f076dcbee469716c5cb676ec6", func := "barograph/barographkeep.RunBetween", spec := "runBetween", unfollowed := true, recurses := true, named := ["barograph/vm.operands"], apart := false, laid := [("barograph/vm.operands", laid_barograph_vm_operands)], narrowed := true }
def RunBetweenUptoSaid : Prop := runBetweenUptoRow.holds Tryd.pinned (OpenSpec.upto runBetweenSpec)

/-- 'barographkeep.RunIdle', WHERE WHAT IT READS IS OF BULK AT MOST 1048576: true; the input reads as it did. -/
def runIdleUptoRow : OpenClaim := { program := "ytjihopbapnfppaadoor", sum := "feabd22ff965d013abc6e4a00d39dfbc46ba870f076dcbee469716c5cb676ec6", func := "barograph/barographkeep.RunIdle", spec := "runIdle", unfollowed := true, recurses := true, named := ["barograph/vm.operands"], apart := false, laid := [("barograph/vm.operands", laid_barograph_vm_operands)], narrowed := true }
def RunIdleUptoSaid : Prop := runIdleUptoRow.holds Tryd.pinned (OpenSpec.upto runIdleSpec)

end Rows
end Go.Proofs.YtjihopbapnfppaaDoor
