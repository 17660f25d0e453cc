/-
  NARROWER THAN 'FOR EVERY INPUT', by the rows' own cells (each row's printed sentence says how): CountCodes: laid · CountLinear: laid · CountAll: laid · CountTells: laid · TopCount: laid.
  DERIVED. THE GIVEN ROWS OF THIS SEAT. 5 by the template 'for every input the law returns true; each argument reads behind the call as it read before'; 0 by the template 'total and deterministic' (their statements: YtnchgdjdfhfedaaDoorTotals.lean).
  GIVEN WITH THE SEED: the statements are not yours to turn. If you find one false, say at which input.
  Laid BY PROGRAM, IN A SANDBOX (cutbox-rows.mjs): the forced cells as the released guide's own fill.sh prints them over the translation fe1afc7b7bba9599… (all of the seat's roots in one cut). By AI agents, Wed Nov 11 2026. No macro, syntax, notation, axiom, sorry.
-/
import Derived.Test.YtnchgdjdfhfedaaDoorChecked
import GoSem.Claim
import GoSem.ClaimJoined
import GoSem.ClaimMapViews
import Derived.JoinedTies
import Derived.KernelRfl
namespace Go.Proofs.YtnchgdjdfhfedaaDoor
/- THE CELL 'sum', in the pinned program and in every row, IS THE sha256 OF THE DUMP (.gsa) THAT YtnchgdjdfhfedaaDoorProg.lean LOADS. Nothing in Lean hashes anything: it is a label: what it is worth is what the hold of that sum in a sandbox is worth. -/
noncomputable def Tryd.pinned : Pinned := { name := "ytnchgdjdfhfedaadoor", sum := "fe1afc7b7bba95997a44fa97d469a363c3c56ef4bde604379d2687d273bb07a6", checked := Tryd.checked }
namespace Rows
def none {H : Type} : Left H := { results := [], args := [] }

/- WHAT THE LISTED PACKAGE-LEVEL VARIABLES READ AS WHEN THE CALL BEGINS. Each datum BY PROGRAM (the guide's laid-datum.mjs) off the statement by which the dump's own 'gosem.cut.vars' lays the variable. In a bare row this is a premise. The card (YtnchgdjdfhfedaaDoorCards.lean) ties it to the program's text. -/
def laid_barograph_vm_operands {H : Type} : DataW H := .agg [.agg [.lit (.int .i64 0), .lit (.int .i64 0), .lit (.int .i64 0), .lit (.int .i64 0)], .agg [.lit (.int .i64 1), .lit (.int .i64 3), .lit (.int .i64 0), .lit (.int .i64 0)], .agg [.lit (.int .i64 1), .lit (.int .i64 1), .lit (.int .i64 0), .lit (.int .i64 0)], .agg [.lit (.int .i64 1), .lit (.int .i64 1), .lit (.int .i64 1), .lit (.int .i64 0)], .agg [.lit (.int .i64 1), .lit (.int .i64 1), .lit (.int .i64 1), .lit (.int .i64 0)], .agg [.lit (.int .i64 1), .lit (.int .i64 1), .lit (.int .i64 1), .lit (.int .i64 0)], .agg [.lit (.int .i64 1), .lit (.int .i64 1), .lit (.int .i64 1), .lit (.int .i64 0)], .agg [.lit (.int .i64 1), .lit (.int .i64 1), .lit (.int .i64 1), .lit (.int .i64 0)], .agg [.lit (.int .i64 1), .lit (.int .i64 1), .lit (.int .i64 1), .lit (.int .i64 0)], .agg [.lit (.int .i64 1), .lit (.int .i64 1), .lit (.int .i64 1), .lit (.int .i64 0)], .agg [.lit (.int .i64 2), .lit (.int .i64 0), .lit (.int .i64 0), .lit (.int .i64 0)], .agg [.lit (.int .i64 1), .lit (.int .i64 2), .lit (.int .i64 0), .lit (.int .i64 0)], .agg [.lit (.int .i64 1), .lit (.int .i64 2), .lit (.int .i64 0), .lit (.int .i64 0)], .agg [.lit (.int .i64 1), .lit (.int .i64 1), .lit (.int .i64 3), .lit (.int .i64 0)], .agg [.lit (.int .i64 1), .lit (.int .i64 1), .lit (.int .i64 3), .lit (.int .i64 0)], .agg [.lit (.int .i64 1), .lit (.int .i64 1), .lit (.int .i64 3), .lit (.int .i64 1)], .agg [.lit (.int .i64 1), .lit (.int .i64 0), .lit (.int .i64 0), .lit (.int .i64 0)], .agg [.lit (.int .i64 0), .lit (.int .i64 0), .lit (.int .i64 0), .lit (.int .i64 0)]]

/-- 'barographlaw.CountCodes': WHATEVER THE INPUT: true; the input reads as it did. -/
def countCodesSpec : ChangeSpec := { name := "countCodes", fn := fun _ => fun
  | [] => { results := [.lit (.bool true)], args := [] }
  | _ => none }
def countCodesRow : OpenClaim := { program := "ytnchgdjdfhfedaadoor", sum := "fe1afc7b7bba95997a44fa97d469a363c3c56ef4bde604379d2687d273bb07a6", func := "barograph/barographlaw.CountCodes", spec := "countCodes", unfollowed := true, recurses := true, named := ["barograph/vm.operands"], plainKeys := false, apart := false, laid := [("barograph/vm.operands", laid_barograph_vm_operands)] }
def CountCodesSaid : Prop := countCodesRow.holds Tryd.pinned (OpenSpec.ofChange countCodesSpec)

/-- ITS FALSE NEIGHBOUR: 'it returns false'. Refute it at one input. -/
def countCodesWrong : ChangeSpec := { name := "countCodes", fn := fun _ => fun
  | [] => { results := [.lit (.bool false)], args := [] }
  | _ => none }
def CountCodesWrongFalsely : Prop := countCodesRow.holds Tryd.pinned (OpenSpec.ofChange countCodesWrong)

/-- 'barographkeep.CountLinear': WHATEVER THE INPUT: true; the input reads as it did. -/
def countLinearSpec : ChangeSpec := { name := "countLinear", fn := fun _ => fun
  | [d1, d2] => { results := [.lit (.bool true)], args := [d1, d2] }
  | _ => none }
def countLinearRow : OpenClaim := { program := "ytnchgdjdfhfedaadoor", sum := "fe1afc7b7bba95997a44fa97d469a363c3c56ef4bde604379d2687d273bb07a6", func := "barograph/barographkeep.CountLinear", spec := "countLinear", unfollowed := true, recurses := true, named := ["barograph/vm.operands"], plainKeys := false, apart := false, laid := [("barograph/vm.operands", laid_barograph_vm_operands)] }
def CountLinearSaid : Prop := countLinearRow.holds Tryd.pinned (OpenSpec.ofChange countLinearSpec)

/-- ITS FALSE NEIGHBOUR: 'it returns false'. Refute it at one input. -/
def countLinearWrong : ChangeSpec := { name := "countLinear", fn := fun _ => fun
  | [d1, d2] => { results := [.lit (.bool false)], args := [d1, d2] }
  | _ => none }
def CountLinearWrongFalsely : Prop := countLinearRow.holds Tryd.pinned (OpenSpec.ofChange countLinearWrong)

/-- 'barographkeep.CountAll': WHATEVER THE INPUT: true; the input reads as it did. -/
def countAllSpec : ChangeSpec := { name := "countAll", fn := fun _ => fun
  | [d1, d2] => { results := [.lit (.bool true)], args := [d1, d2] }
  | _ => none }
def countAllRow : OpenClaim := { program := "ytnchgdjdfhfedaadoor", sum := "fe1afc7b7bba95997a44fa97d469a363c3c56ef4bde604379d2687d273bb07a6", func := "barograph/barographkeep.CountAll", spec := "countAll", unfollowed := true, recurses := true, named := ["barograph/vm.operands"], plainKeys := false, apart := false, laid := [("barograph/vm.operands", laid_barograph_vm_operands)] }
def CountAllSaid : Prop := countAllRow.holds Tryd.pinned (OpenSpec.ofChange countAllSpec)

/-- ITS FALSE NEIGHBOUR: 'it returns false'. Refute it at one input. -/
def countAllWrong : ChangeSpec := { name := "countAll", fn := fun _ => fun
  | [d1, d2] => { results := [.lit (.bool false)], args := [d1, d2] }
  | _ => none }
def CountAllWrongFalsely : Prop := countAllRow.holds Tryd.pinned (OpenSpec.ofChange countAllWrong)

/-- 'barographkeep.CountTells': WHATEVER THE INPUT: true; the input reads as it did. -/
def countTellsSpec : ChangeSpec := { name := "countTells", fn := fun _ => fun
  | [d] => { results := [.lit (.bool true)], args := [d] }
  | _ => none }
def countTellsRow : OpenClaim := { program := "ytnchgdjdfhfedaadoor", sum := "fe1afc7b7bba95997a44fa97d469a363c3c56ef4bde604379d2687d273bb07a6", func := "barograph/barographkeep.CountTells", spec := "countTells", unfollowed := true, recurses := true, named := ["barograph/vm.operands"], plainKeys := false, apart := false, laid := [("barograph/vm.operands", laid_barograph_vm_operands)] }
def CountTellsSaid : Prop := countTellsRow.holds Tryd.pinned (OpenSpec.ofChange countTellsSpec)

/-- ITS FALSE NEIGHBOUR: 'it returns false'. Refute it at one input. -/
def countTellsWrong : ChangeSpec := { name := "countTells", fn := fun _ => fun
  | [d] => { results := [.lit (.bool false)], args := [d] }
  | _ => none }
def CountTellsWrongFalsely : Prop := countTellsRow.holds Tryd.pinned (OpenSpec.ofChange countTellsWrong)

/-- 'barographtop.TopCount': WHATEVER THE INPUT: true; the input reads as it did. -/
def topCountSpec : ChangeSpec := { name := "topCount", fn := fun _ => fun
  | [d1, d2] => { results := [.lit (.bool true)], args := [d1, d2] }
  | _ => none }
def topCountRow : OpenClaim := { program := "ytnchgdjdfhfedaadoor", sum := "fe1afc7b7bba95997a44fa97d469a363c3c56ef4bde604379d2687d273bb07a6", func := "barograph/barographtop.TopCount", spec := "topCount", unfollowed := true, recurses := true, named := ["barograph/vm.operands"], plainKeys := false, apart := false, laid := [("barograph/vm.operands", laid_barograph_vm_operands)] }
def TopCountSaid : Prop := topCountRow.holds Tryd.pinned (OpenSpec.ofChange topCountSpec)

/-- ITS FALSE NEIGHBOUR: 'it returns false'. Refute it at one input. -/
def topCountWrong : ChangeSpec := { name := "topCount", fn := fun _ => fun
  | [d1, d2] => { results := [.lit (.bool false)], args := [d1, d2] }
  | _ => none }
def TopCountWrongFalsely : Prop := topCountRow.holds Tryd.pinned (OpenSpec.ofChange topCountWrong)

/- THE SECOND FORM. 'bulk': how many values and letters a reading holds, each counted each time it is reached (what is shared counts as often as it is met; a slice's spare places count too). A statement '..UptoSaid' is the law's where the arguments, and the package variables that the reading takes, are together of bulk at most 1048576: NARROWER than '..Said'. Prove '..Said' where nothing that the law and all that it calls make is longer than what came in: it says more and counts as full. Else prove '..UptoSaid'. A law counts once. -/
mutual
def uptoBulk {H : Type} : DataW H → Nat
  | .lit (.string bytes) => bytes.length + 1
  | .lit _ => 1
  | .nil => 1
  | .ptr d => uptoBulk d + 1
  | .slice elems spare => uptoBulkAll elems + uptoBulkAll spare + 1
  | .agg parts => uptoBulkAll parts + 1
  | .iface _ d => uptoBulk d + 1
  | .map entries => uptoBulkEntries entries + 1
  | .held _ => 1
def uptoBulkAll {H : Type} : List (DataW H) → Nat
  | [] => 0
  | d :: r => uptoBulk d + uptoBulkAll r
def uptoBulkEntries {H : Type} : List (Lit × DataW H) → Nat
  | [] => 0
  | x :: r => uptoBulkEntry x + uptoBulkEntries r
def uptoBulkEntry {H : Type} : Lit × DataW H → Nat
  | (.string bytes, d) => bytes.length + uptoBulk d + 1
  | (_, d) => uptoBulk d + 1
 end
def uptoSmall : (H : Type) → List (DataW H) → Bool := fun _ ds => decide (uptoBulkAll ds ≤ 1048576)
def OpenSpec.upto (s : _root_.Go.ChangeSpec) : _root_.Go.OpenSpec := { _root_.Go.OpenSpec.ofChange s with cond := some uptoSmall }

/-- 'barographlaw.CountCodes', WHERE WHAT IT READS IS OF BULK AT MOST 1048576: true; the input reads as it did. -/
def countCodesUptoRow : OpenClaim := { program := "ytnchgdjdfhfedaadoor", sum := "fe1afc7b7bba95997a44fa97d469a363c3c56ef4bde604379d2687d273bb07a6", func := "barograph/barographlaw.CountCodes", spec := "countCodes", unfollowed := true, recurses := true, named := ["barograph/vm.operands"], plainKeys := false, apart := false, laid := [("barograph/vm.operands", laid_barograph_vm_operands)], narrowed := true }
def CountCodesUptoSaid : Prop := countCodesUptoRow.holds Tryd.pinned (OpenSpec.upto countCodesSpec)

/-- 'barographkeep.CountLinear', WHERE WHAT IT READS IS OF BULK AT MOST 1048576: true; the input reads as it did. -/
def countLinearUptoRow : OpenClaim := { program := "ytnchgdjdfhfedaadoor", sum := "fe1afc7b7bba95997a44fa97d469a363c3c56ef4bde604379d2687d273bb07a6", func := "barograph/barographkeep.CountLinear", spec := "countLinear", unfollowed := true, recurses := true, named := ["barograph/vm.operands"], plainKeys := false, apart := false, laid := [("barograph/vm.operands", laid_barograph_vm_operands)], narrowed := true }
def CountLinearUptoSaid : Prop := countLinearUptoRow.holds Tryd.pinned (OpenSpec.upto countLinearSpec)

/-- 'barographkeep.CountAll', WHERE WHAT IT READS IS OF BULK AT MOST 1048576: true; the input reads as it did. -/
def countAllUptoRow : OpenClaim := { program := "ytnchgdjdfhfedaadoor", sum := "fe1afc7b7bba95997a44fa97d469a363c3c56ef4bde604379d2687d273bb07a6", func := "barograph/barographkeep.CountAll", spec := "countAll", unfollowed := true, recurses := true, named := ["barograph/vm.operands"], plainKeys := false, apart := false, laid := [("barograph/vm.operands", laid_barograph_vm_operands)], narrowed := true }
def CountAllUptoSaid : Prop := countAllUptoRow.holds Tryd.pinned (OpenSpec.upto countAllSpec)

/-- 'barographkeep.CountTells', WHERE WHAT IT READS IS OF BULK AT MOST 1048576: true; the input reads as it did. -/
def countTellsUptoRow : OpenClaim := { program := "ytnchgdjdfhfedaadoor", sum := "fe1afc7b7bba95997a44fa97d469a363c3c56ef4bde604379d2687d273bb07a6", func := "barograph/barographkeep.CountTells", spec := "countTells", unfollowed := true, recurses := true, named := ["barograph/vm.operands"], plainKeys := false, apart := false, laid := [("barograph/vm.operands", laid_barograph_vm_operands)], narrowed := true }
def CountTellsUptoSaid : Prop := countTellsUptoRow.holds Tryd.pinned (OpenSpec.upto countTellsSpec)

/-- 'barographtop.TopCount', WHERE WHAT IT READS IS OF BULK AT MOST 1048576: true; the input reads as it did. -/
def topCountUptoRow : OpenClaim := { program := "ytnchgdjdfhfedaadoor", sum := "fe1afc7b7bba95997a44fa97d469a363c3c56ef4bde604379d2687d273bb07a6", func := "barograph/barographtop.TopCount", spec := "topCount", unfollowed := true, recurses := true, named := ["barograph/vm.operands"], plainKeys := false, apart := false, laid := [("barograph/vm.operands", laid_barograph_vm_operands)], narrowed := true }
def TopCountUptoSaid : Prop := topCountUptoRow.holds Tryd.pinned (OpenSpec.upto topCountSpec)

end Rows
end Go.Proofs.YtnchgdjdfhfedaaDoor
