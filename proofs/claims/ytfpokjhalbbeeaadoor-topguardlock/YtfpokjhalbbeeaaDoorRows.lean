/-
  NARROWER THAN 'FOR EVERY INPUT', by the rows' own cells (each row's printed sentence says how): LockCodes: laid · LockOne: laid · LockEnds: laid · LockAlone: laid · TopGuardLock: laid.
  DERIVED. THE GIVEN ROWS OF THIS SEAT. 5 by the template 'for every input the law returns true; each argument reads behind the call as it read before'; 0 by the template 'total and deterministic' (their statements: YtfpokjhalbbeeaaDoorTotals.lean).
  GIVEN WITH THE SEED: the statements are not yours to turn. If you find one false, say at which input.
  Laid BY PROGRAM, IN A SANDBOX (cutbox-rows.mjs): the forced cells as the released guide's own fill.sh prints them over the translation 19c1120b8597aabc… (all of the seat's roots in one cut). By AI agents, Wed Nov 11 2026. No macro, syntax, notation, axiom, sorry.
-/
import Derived.Test.YtfpokjhalbbeeaaDoorChecked
import GoSem.Claim
import GoSem.ClaimJoined
import GoSem.ClaimMapViews
import Derived.JoinedTies
import Derived.KernelRfl
namespace Go.Proofs.YtfpokjhalbbeeaaDoor
/- THE CELL 'sum', in the pinned program and in every row, IS THE sha256 OF THE DUMP (.gsa) THAT YtfpokjhalbbeeaaDoorProg.lean LOADS. Nothing in Lean hashes anything: it is a label: what it is worth is what the hold of that sum in a sandbox is worth. -/
noncomputable def Tryd.pinned : Pinned := { name := "ytfpokjhalbbeeaadoor", sum := "19c1120b8597aabc7cfd9b197406c0ee98995ee9d6c065cd9e12577d7422929e", checked := Tryd.checked }
namespace Rows
def none {H : Type} : Left H := { results := [], args := [] }

/- WHAT THE LISTED PACKAGE-LEVEL VARIABLES READ AS WHEN THE CALL BEGINS. Each datum BY PROGRAM (the guide's laid-datum.mjs) off the statement by which the dump's own 'gosem.cut.vars' lays the variable. In a bare row this is a premise. The card (YtfpokjhalbbeeaaDoorCards.lean) ties it to the program's text. -/
def laid_barograph_vm_operands {H : Type} : DataW H := .agg [.agg [.lit (.int .i64 0), .lit (.int .i64 0), .lit (.int .i64 0), .lit (.int .i64 0)], .agg [.lit (.int .i64 1), .lit (.int .i64 3), .lit (.int .i64 0), .lit (.int .i64 0)], .agg [.lit (.int .i64 1), .lit (.int .i64 1), .lit (.int .i64 0), .lit (.int .i64 0)], .agg [.lit (.int .i64 1), .lit (.int .i64 1), .lit (.int .i64 1), .lit (.int .i64 0)], .agg [.lit (.int .i64 1), .lit (.int .i64 1), .lit (.int .i64 1), .lit (.int .i64 0)], .agg [.lit (.int .i64 1), .lit (.int .i64 1), .lit (.int .i64 1), .lit (.int .i64 0)], .agg [.lit (.int .i64 1), .lit (.int .i64 1), .lit (.int .i64 1), .lit (.int .i64 0)], .agg [.lit (.int .i64 1), .lit (.int .i64 1), .lit (.int .i64 1), .lit (.int .i64 0)], .agg [.lit (.int .i64 1), .lit (.int .i64 1), .lit (.int .i64 1), .lit (.int .i64 0)], .agg [.lit (.int .i64 1), .lit (.int .i64 1), .lit (.int .i64 1), .lit (.int .i64 0)], .agg [.lit (.int .i64 2), .lit (.int .i64 0), .lit (.int .i64 0), .lit (.int .i64 0)], .agg [.lit (.int .i64 1), .lit (.int .i64 2), .lit (.int .i64 0), .lit (.int .i64 0)], .agg [.lit (.int .i64 1), .lit (.int .i64 2), .lit (.int .i64 0), .lit (.int .i64 0)], .agg [.lit (.int .i64 1), .lit (.int .i64 1), .lit (.int .i64 3), .lit (.int .i64 0)], .agg [.lit (.int .i64 1), .lit (.int .i64 1), .lit (.int .i64 3), .lit (.int .i64 0)], .agg [.lit (.int .i64 1), .lit (.int .i64 1), .lit (.int .i64 3), .lit (.int .i64 1)], .agg [.lit (.int .i64 1), .lit (.int .i64 0), .lit (.int .i64 0), .lit (.int .i64 0)], .agg [.lit (.int .i64 0), .lit (.int .i64 0), .lit (.int .i64 0), .lit (.int .i64 0)]]

/-- 'barographlaw.LockCodes': WHATEVER THE INPUT: true; the input reads as it did. -/
def lockCodesSpec : ChangeSpec := { name := "lockCodes", fn := fun _ => fun
  | [d] => { results := [.lit (.bool true)], args := [d] }
  | _ => none }
def lockCodesRow : OpenClaim := { program := "ytfpokjhalbbeeaadoor", sum := "19c1120b8597aabc7cfd9b197406c0ee98995ee9d6c065cd9e12577d7422929e", func := "barograph/barographlaw.LockCodes", spec := "lockCodes", unfollowed := true, recurses := true, named := ["barograph/vm.operands"], apart := false, laid := [("barograph/vm.operands", laid_barograph_vm_operands)] }
def LockCodesSaid : Prop := lockCodesRow.holds Tryd.pinned (OpenSpec.ofChange lockCodesSpec)

/-- ITS FALSE NEIGHBOUR: 'it returns false'. Refute it at one input. -/
def lockCodesWrong : ChangeSpec := { name := "lockCodes", fn := fun _ => fun
  | [d] => { results := [.lit (.bool false)], args := [d] }
  | _ => none }
def LockCodesWrongFalsely : Prop := lockCodesRow.holds Tryd.pinned (OpenSpec.ofChange lockCodesWrong)

/-- 'barographkeep.LockOne': WHATEVER THE INPUT: true; the input reads as it did. -/
def lockOneSpec : ChangeSpec := { name := "lockOne", fn := fun _ => fun
  | [d1, d2, d3] => { results := [.lit (.bool true)], args := [d1, d2, d3] }
  | _ => none }
def lockOneRow : OpenClaim := { program := "ytfpokjhalbbeeaadoor", sum := "19c1120b8597aabc7cfd9b197406c0ee98995ee9d6c065cd9e12577d7422929e", func := "barograph/barographkeep.LockOne", spec := "lockOne", unfollowed := true, recurses := true, named := ["barograph/vm.operands"], apart := false, laid := [("barograph/vm.operands", laid_barograph_vm_operands)] }
def LockOneSaid : Prop := lockOneRow.holds Tryd.pinned (OpenSpec.ofChange lockOneSpec)

/-- ITS FALSE NEIGHBOUR: 'it returns false'. Refute it at one input. -/
def lockOneWrong : ChangeSpec := { name := "lockOne", fn := fun _ => fun
  | [d1, d2, d3] => { results := [.lit (.bool false)], args := [d1, d2, d3] }
  | _ => none }
def LockOneWrongFalsely : Prop := lockOneRow.holds Tryd.pinned (OpenSpec.ofChange lockOneWrong)

/-- 'barographkeep.LockEnds': WHATEVER THE INPUT: true; the input reads as it did. -/
def lockEndsSpec : ChangeSpec := { name := "lockEnds", fn := fun _ => fun
  | [d1, d2] => { results := [.lit (.bool true)], args := [d1, d2] }
  | _ => none }
def lockEndsRow : OpenClaim := { program := "ytfpokjhalbbeeaadoor", sum := "19c1120b8597aabc7cfd9b197406c0ee98995ee9d6c065cd9e12577d7422929e", func := "barograph/barographkeep.LockEnds", spec := "lockEnds", unfollowed := true, recurses := true, named := ["barograph/vm.operands"], apart := false, laid := [("barograph/vm.operands", laid_barograph_vm_operands)] }
def LockEndsSaid : Prop := lockEndsRow.holds Tryd.pinned (OpenSpec.ofChange lockEndsSpec)

/-- ITS FALSE NEIGHBOUR: 'it returns false'. Refute it at one input. -/
def lockEndsWrong : ChangeSpec := { name := "lockEnds", fn := fun _ => fun
  | [d1, d2] => { results := [.lit (.bool false)], args := [d1, d2] }
  | _ => none }
def LockEndsWrongFalsely : Prop := lockEndsRow.holds Tryd.pinned (OpenSpec.ofChange lockEndsWrong)

/-- 'barographkeep.LockAlone': WHATEVER THE INPUT: true; the input reads as it did. -/
def lockAloneSpec : ChangeSpec := { name := "lockAlone", fn := fun _ => fun
  | [d1, d2] => { results := [.lit (.bool true)], args := [d1, d2] }
  | _ => none }
def lockAloneRow : OpenClaim := { program := "ytfpokjhalbbeeaadoor", sum := "19c1120b8597aabc7cfd9b197406c0ee98995ee9d6c065cd9e12577d7422929e", func := "barograph/barographkeep.LockAlone", spec := "lockAlone", unfollowed := true, recurses := true, named := ["barograph/vm.operands"], apart := false, laid := [("barograph/vm.operands", laid_barograph_vm_operands)] }
def LockAloneSaid : Prop := lockAloneRow.holds Tryd.pinned (OpenSpec.ofChange lockAloneSpec)

/-- ITS FALSE NEIGHBOUR: 'it returns false'. Refute it at one input. -/
def lockAloneWrong : ChangeSpec := { name := "lockAlone", fn := fun _ => fun
  | [d1, d2] => { results := [.lit (.bool false)], args := [d1, d2] }
  | _ => none }
def LockAloneWrongFalsely : Prop := lockAloneRow.holds Tryd.pinned (OpenSpec.ofChange lockAloneWrong)

/-- 'barographtop.TopGuardLock': WHATEVER THE INPUT: true; the input reads as it did. -/
def topGuardLockSpec : ChangeSpec := { name := "topGuardLock", fn := fun _ => fun
  | [d1, d2] => { results := [.lit (.bool true)], args := [d1, d2] }
  | _ => none }
def topGuardLockRow : OpenClaim := { program := "ytfpokjhalbbeeaadoor", sum := "19c1120b8597aabc7cfd9b197406c0ee98995ee9d6c065cd9e12577d7422929e", func := "barograph/barographtop.TopGuardLock", spec := "topGuardLock", unfollowed := true, recurses := true, named := ["barograph/vm.operands"], apart := false, laid := [("barograph/vm.operands", laid_barograph_vm_operands)] }
def TopGuardLockSaid : Prop := topGuardLockRow.holds Tryd.pinned (OpenSpec.ofChange topGuardLockSpec)

/-- ITS FALSE NEIGHBOUR: 'it returns false'. Refute it at one input. -/
def topGuardLockWrong : ChangeSpec := { name := "topGuardLock", fn := fun _ => fun
  | [d1, d2] => { results := [.lit (.bool false)], args := [d1, d2] }
  | _ => none }
def TopGuardLockWrongFalsely : Prop := topGuardLockRow.holds Tryd.pinned (OpenSpec.ofChange topGuardLockWrong)

/- THE SECOND FORM. 'bulk': how many values and letters a reading holds, each counted each time it is reached (what is shared counts as often as it is met; a slice's spare places count too). A statement '..UptoSaid' is the law's where the arguments, and the package variables that the reading takes, are together of bulk at most 1048576: NARROWER than '..Said'. Prove '..Said' where nothing that the law and all that it calls make is longer than what came in: it says more and counts as full. Else prove '..UptoSaid'. A law counts once. -/
mutual
def uptoBulk {H : Type} : DataW H → Nat
  | .lit (.string bytes) => bytes.length + 1
  | .lit _ => 1
  | .nil => 1
  | .ptr d => uptoBulk d + 1
  | .slice elems spare => uptoBulkAll elems + uptoBulkAll spare + 1
  | .agg parts => uptoBulkAll parts + 1
  | .iface _ d => uptoBulk d + 1
  | .map entries => uptoBulkEntries entries + 1
  | .held _ => 1
def uptoBulkAll {H : Type} : List (DataW H) → Nat
  | [] => 0
  | d :: r => uptoBulk d + uptoBulkAll r
def uptoBulkEntries {H : Type} : List (Lit × DataW H) → Nat
  | [] => 0
  | x :: r => uptoBulkEntry x + uptoBulkEntries r
def uptoBulkEntry {H : Type} : Lit × DataW H → Nat
  | (.string bytes, d) => bytes.length + uptoBulk d + 1
  | (_, d) => uptoBulk d + 1
 end
def uptoSmall : (H : Type) → List (DataW H) → Bool := fun _ ds => decide (uptoBulkAll ds ≤ 1048576)
def OpenSpec.upto (s : _root_.Go.ChangeSpec) : _root_.Go.OpenSpec := { _root_.Go.OpenSpec.ofChange s with cond := some uptoSmall }

/-- 'barographlaw.LockCodes', WHERE WHAT IT READS IS OF BULK AT MOST 1048576: true; the input reads as it did. -/
def lockCodesUptoRow : OpenClaim := { program := "ytfpokjhalbbeeaadoor", sum := "19c1120b8597aabc7cfd9b197406c0ee98995ee9d6c065cd9e12577d7422929e", func := "barograph/barographlaw.LockCodes", spec := "lockCodes", unfollowed := true, recurses := true, named := ["barograph/vm.operands"], apart := false, laid := [("barograph/vm.operands", laid_barograph_vm_operands)], narrowed := true }
def LockCodesUptoSaid : Prop := lockCodesUptoRow.holds Tryd.pinned (OpenSpec.upto lockCodesSpec)

/-- 'barographkeep.LockOne', WHERE WHAT IT READS IS OF BULK AT MOST 1048576: true; the input reads as it did. -/
def lockOneUptoRow : OpenClaim := { program := "ytfpokjhalbbeeaadoor", sum := "19c1120b8597aabc7cfd9b197406c0ee98995ee9d6c065cd9e12577d7422929e", func := "barograph/barographkeep.LockOne", spec := "lockOne", unfollowed := true, recurses := true, named := ["barograph/vm.operands"], apart := false, laid := [("barograph/vm.operands", laid_barograph_vm_operands)], narrowed := true }
def LockOneUptoSaid : Prop := lockOneUptoRow.holds Tryd.pinned (OpenSpec.upto lockOneSpec)

/-- 'barographkeep.LockEnds', WHERE WHAT IT READS IS OF BULK AT MOST 1048576: true; the input reads as it did. -/
def lockEndsUptoRow : OpenClaim := { program := "ytfpokjhalbbeeaadoor", sum := "19c1120b8597aabc7cfd9b197406c0ee98995ee9d6c065cd9e12577d7422929e", func := "barograph/barographkeep.LockEnds", spec := "lockEnds", unfollowed := true, recurses := true, named := ["barograph/vm.operands"], apart := false, laid := [("barograph/vm.operands", laid_barograph_vm_operands)], narrowed := true }
def LockEndsUptoSaid : Prop := lockEndsUptoRow.holds Tryd.pinned (OpenSpec.upto lockEndsSpec)

/-- 'barographkeep.LockAlone', WHERE WHAT IT READS IS OF BULK AT MOST 1048576: true; the input reads as it did. -/
def lockAloneUptoRow : OpenClaim := { program := "ytfpokjhalbbeeaadoor", sum := "19c1120b8597aabc7cfd9b197406c0ee98995ee9d6c065cd9e12577d7422929e", func := "barograph/barographkeep.LockAlone", spec := "lockAlone", unfollowed := true, recurses := true, named := ["barograph/vm.operands"], apart := false, laid := [("barograph/vm.operands", laid_barograph_vm_operands)], narrowed := true }
def LockAloneUptoSaid : Prop := lockAloneUptoRow.holds Tryd.pinned (OpenSpec.upto lockAloneSpec)

/-- 'barographtop.TopGuardLock', WHERE WHAT IT READS IS OF BULK AT MOST 1048576: true; the input reads as it did. -/
def topGuardLockUptoRow : OpenClaim := { program := "ytfpokjhalbbeeaadoor", sum := "19c1120b8597aabc7cfd9b197406c0ee98995ee9d6c065cd9e12577d7422929e", func := "barograph/barographtop.TopGuardLock", spec := "topGuardLock", unfollowed := true, recurses := true, named := ["barograph/vm.operands"], apart := false, laid := [("barograph/vm.operands", laid_barograph_vm_operands)], narrowed := true }
def TopGuardLockUptoSaid : Prop := topGuardLockUptoRow.holds Tryd.pinned (OpenSpec.upto topGuardLockSpec)

end Rows
end Go.Proofs.YtfpokjhalbbeeaaDoor
