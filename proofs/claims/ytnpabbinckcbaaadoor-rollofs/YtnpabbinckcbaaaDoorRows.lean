/-
  NARROWER THAN 'FOR EVERY INPUT', by the rows' own cells (each row's printed sentence says how): RollOfs: laid · RollBuckets: laid · RollParts: laid · RollBounds: laid · BucketsAll: laid.
  DERIVED. THE GIVEN ROWS OF THIS SEAT. 5 by the template 'for every input the law returns true; each argument reads behind the call as it read before'; 0 by the template 'total and deterministic' (their statements: YtnpabbinckcbaaaDoorTotals.lean).
  GIVEN WITH THE SEED: the statements are not yours to turn. If you find one false, say at which input.
  Laid BY PROGRAM, IN A SANDBOX (cutbox-rows.mjs): the forced cells as the released guide's own fill.sh prints them over the translation 09d36b4635f04b22… (all of the seat's roots in one cut). By AI agents, Wed Nov 11 2026. No macro, syntax, notation, axiom, sorry.
-/
import Derived.Test.YtnpabbinckcbaaaDoorChecked
import GoSem.Claim
import GoSem.ClaimJoined
import GoSem.ClaimMapViews
import Derived.JoinedTies
import Derived.KernelRfl
namespace Go.Proofs.YtnpabbinckcbaaaDoor
/- THE CELL 'sum', in the pinned program and in every row, IS THE sha256 OF THE DUMP (.gsa) THAT YtnpabbinckcbaaaDoorProg.lean LOADS. Nothing in Lean hashes anything: it is a label: what it is worth is what the hold of that sum in a sandbox is worth. -/
noncomputable def Tryd.pinned : Pinned := { name := "ytnpabbinckcbaaadoor", sum := "09d36b4635f04b22eb8220d3248eca487b8b8f75b2772caa4c402bcc6748686e", checked := Tryd.checked }
namespace Rows
def none {H : Type} : Left H := { results := [], args := [] }

/- WHAT THE LISTED PACKAGE-LEVEL VARIABLES READ AS WHEN THE CALL BEGINS. Each datum BY PROGRAM (the guide's laid-datum.mjs) off the statement by which the dump's own 'gosem.cut.vars' lays the variable. In a bare row this is a premise. The card (YtnpabbinckcbaaaDoorCards.lean) ties it to the program's text. -/
def laid_barograph_zig_prefixes {H : Type} : DataW H := .agg [.agg [.lit (.int .i64 1), .lit (.int .i64 0), .lit (.int .i64 0)], .agg [.lit (.int .i64 2), .lit (.int .i64 2), .lit (.int .i64 6)], .agg [.lit (.int .i64 3), .lit (.int .i64 6), .lit (.int .i64 12)], .agg [.lit (.int .i64 4), .lit (.int .i64 14), .lit (.int .i64 24)], .agg [.lit (.int .i64 4), .lit (.int .i64 15), .lit (.int .i64 59)]]

/-- 'barographlaw.RollOfs': WHATEVER THE INPUT: true; the input reads as it did. -/
def rollOfsSpec : ChangeSpec := { name := "rollOfs", fn := fun _ => fun
  | [d] => { results := [.lit (.bool true)], args := [d] }
  | _ => none }
def rollOfsRow : OpenClaim := { program := "ytnpabbinckcbaaadoor", sum := "09d36b4635f04b22eb8220d3248eca487b8b8f75b2772caa4c402bcc6748686e", func := "barograph/barographlaw.RollOfs", spec := "rollOfs", named := ["barograph/zig.prefixes"], apart := false, laid := [("barograph/zig.prefixes", laid_barograph_zig_prefixes)] }
def RollOfsSaid : Prop := rollOfsRow.holds Tryd.pinned (OpenSpec.ofChange rollOfsSpec)

/-- ITS FALSE NEIGHBOUR: 'it returns false'. Refute it at one input. -/
def rollOfsWrong : ChangeSpec := { name := "rollOfs", fn := fun _ => fun
  | [d] => { results := [.lit (.bool false)], args := [d] }
  | _ => none }
def RollOfsWrongFalsely : Prop := rollOfsRow.holds Tryd.pinned (OpenSpec.ofChange rollOfsWrong)

/-- 'barographlaw.RollBuckets': WHATEVER THE INPUT: true; the input reads as it did. -/
def rollBucketsSpec : ChangeSpec := { name := "rollBuckets", fn := fun _ => fun
  | [d1, d2] => { results := [.lit (.bool true)], args := [d1, d2] }
  | _ => none }
def rollBucketsRow : OpenClaim := { program := "ytnpabbinckcbaaadoor", sum := "09d36b4635f04b22eb8220d3248eca487b8b8f75b2772caa4c402bcc6748686e", func := "barograph/barographlaw.RollBuckets", spec := "rollBuckets", unfollowed := true, recurses := true, named := ["barograph/zig.prefixes"], apart := false, laid := [("barograph/zig.prefixes", laid_barograph_zig_prefixes)] }
def RollBucketsSaid : Prop := rollBucketsRow.holds Tryd.pinned (OpenSpec.ofChange rollBucketsSpec)

/-- ITS FALSE NEIGHBOUR: 'it returns false'. Refute it at one input. -/
def rollBucketsWrong : ChangeSpec := { name := "rollBuckets", fn := fun _ => fun
  | [d1, d2] => { results := [.lit (.bool false)], args := [d1, d2] }
  | _ => none }
def RollBucketsWrongFalsely : Prop := rollBucketsRow.holds Tryd.pinned (OpenSpec.ofChange rollBucketsWrong)

/-- 'barographkeep.RollParts': WHATEVER THE INPUT: true; the input reads as it did. -/
def rollPartsSpec : ChangeSpec := { name := "rollParts", fn := fun _ => fun
  | [d1, d2, d3, d4] => { results := [.lit (.bool true)], args := [d1, d2, d3, d4] }
  | _ => none }
def rollPartsRow : OpenClaim := { program := "ytnpabbinckcbaaadoor", sum := "09d36b4635f04b22eb8220d3248eca487b8b8f75b2772caa4c402bcc6748686e", func := "barograph/barographkeep.RollParts", spec := "rollParts", named := ["barograph/zig.prefixes"], apart := false, laid := [("barograph/zig.prefixes", laid_barograph_zig_prefixes)] }
def RollPartsSaid : Prop := rollPartsRow.holds Tryd.pinned (OpenSpec.ofChange rollPartsSpec)

/-- ITS FALSE NEIGHBOUR: 'it returns false'. Refute it at one input. -/
def rollPartsWrong : ChangeSpec := { name := "rollParts", fn := fun _ => fun
  | [d1, d2, d3, d4] => { results := [.lit (.bool false)], args := [d1, d2, d3, d4] }
  | _ => none }
def RollPartsWrongFalsely : Prop := rollPartsRow.holds Tryd.pinned (OpenSpec.ofChange rollPartsWrong)

/-- 'barographkeep.RollBounds': WHATEVER THE INPUT: true; the input reads as it did. -/
def rollBoundsSpec : ChangeSpec := { name := "rollBounds", fn := fun _ => fun
  | [d1, d2, d3] => { results := [.lit (.bool true)], args := [d1, d2, d3] }
  | _ => none }
def rollBoundsRow : OpenClaim := { program := "ytnpabbinckcbaaadoor", sum := "09d36b4635f04b22eb8220d3248eca487b8b8f75b2772caa4c402bcc6748686e", func := "barograph/barographkeep.RollBounds", spec := "rollBounds", named := ["barograph/zig.prefixes"], apart := false, laid := [("barograph/zig.prefixes", laid_barograph_zig_prefixes)] }
def RollBoundsSaid : Prop := rollBoundsRow.holds Tryd.pinned (OpenSpec.ofChange rollBoundsSpec)

/-- ITS FALSE NEIGHBOUR: 'it returns false'. Refute it at one input. -/
def rollBoundsWrong : ChangeSpec := { name := "rollBounds", fn := fun _ => fun
  | [d1, d2, d3] => { results := [.lit (.bool false)], args := [d1, d2, d3] }
  | _ => none }
def RollBoundsWrongFalsely : Prop := rollBoundsRow.holds Tryd.pinned (OpenSpec.ofChange rollBoundsWrong)

/-- 'barographkeep.BucketsAll': WHATEVER THE INPUT: true; the input reads as it did. -/
def bucketsAllSpec : ChangeSpec := { name := "bucketsAll", fn := fun _ => fun
  | [d1, d2, d3] => { results := [.lit (.bool true)], args := [d1, d2, d3] }
  | _ => none }
def bucketsAllRow : OpenClaim := { program := "ytnpabbinckcbaaadoor", sum := "09d36b4635f04b22eb8220d3248eca487b8b8f75b2772caa4c402bcc6748686e", func := "barograph/barographkeep.BucketsAll", spec := "bucketsAll", named := ["barograph/zig.prefixes"], apart := false, laid := [("barograph/zig.prefixes", laid_barograph_zig_prefixes)] }
def BucketsAllSaid : Prop := bucketsAllRow.holds Tryd.pinned (OpenSpec.ofChange bucketsAllSpec)

/-- ITS FALSE NEIGHBOUR: 'it returns false'. Refute it at one input. -/
def bucketsAllWrong : ChangeSpec := { name := "bucketsAll", fn := fun _ => fun
  | [d1, d2, d3] => { results := [.lit (.bool false)], args := [d1, d2, d3] }
  | _ => none }
def BucketsAllWrongFalsely : Prop := bucketsAllRow.holds Tryd.pinned (OpenSpec.ofChange bucketsAllWrong)

/- THE SECOND FORM. 'bulk': how many values and letters a reading holds, each counted each time it is reached (what is shared counts as often as it is met; a slice's spare places count too). A statement '..UptoSaid' is the law's where the arguments, and the package variables that the reading takes, are together of bulk at most 1048576: NARROWER than '..Said'. Prove '..Said' where nothing that the law and all that it calls make is longer than what came in: it says more and counts as full. Else prove '..UptoSaid'. A law counts once. -/
mutual
def uptoBulk {H : Type} : DataW H → Nat
  | .lit (.string bytes) => bytes.length + 1
  | .lit _ => 1
  | .nil => 1
  | .ptr d => uptoBulk d + 1
  | .slice elems spare => uptoBulkAll elems + uptoBulkAll spare + 1
  | .agg parts => uptoBulkAll parts + 1
  | .iface _ d => uptoBulk d + 1
  | .map entries => uptoBulkEntries entries + 1
  | .held _ => 1
def uptoBulkAll {H : Type} : List (DataW H) → Nat
  | [] => 0
  | d :: r => uptoBulk d + uptoBulkAll r
def uptoBulkEntries {H : Type} : List (Lit × DataW H) → Nat
  | [] => 0
  | x :: r => uptoBulkEntry x + uptoBulkEntries r
def uptoBulkEntry {H : Type} : Lit × DataW H → Nat
  | (.string bytes, d) => bytes.length + uptoBulk d + 1
  | (_, d) => uptoBulk d + 1
 end
def uptoSmall : (H : Type) → List (DataW H) → Bool := fun _ ds => decide (uptoBulkAll ds ≤ 1048576)
def OpenSpec.upto (s : _root_.Go.ChangeSpec) : _root_.Go.OpenSpec := { _root_.Go.OpenSpec.ofChange s with cond := some uptoSmall }

/-- 'barographlaw.RollOfs', WHERE WHAT IT READS IS OF BULK AT MOST 1048576: true; the input reads as it did. -/
def rollOfsUptoRow : OpenClaim := { program := "ytnpabbinckcbaaadoor", sum := "09d36b4635f04b22eb8220d3248eca487b8b8f75b2772caa4c402bcc6748686e", func := "barograph/barographlaw.RollOfs", spec := "rollOfs", named := ["barograph/zig.prefixes"], apart := false, laid := [("barograph/zig.prefixes", laid_barograph_zig_prefixes)], narrowed := true }
def RollOfsUptoSaid : Prop := rollOfsUptoRow.holds Tryd.pinned (OpenSpec.upto rollOfsSpec)

/-- 'barographlaw.RollBuckets', WHERE WHAT IT READS IS OF BULK AT MOST 1048576: true; the input reads as it did. -/
def rollBucketsUptoRow : OpenClaim := { program := "ytnpabbinckcbaaadoor", sum := "09d36b4635f04b22eb8220d3248eca487b8b8f75b2772caa4c402bcc6748686e", func := "barograph/barographlaw.RollBuckets", spec := "rollBuckets", unfollowed := true, recurses := true, named := ["barograph/zig.prefixes"], apart := false, laid := [("barograph/zig.prefixes", laid_barograph_zig_prefixes)], narrowed := true }
def RollBucketsUptoSaid : Prop := rollBucketsUptoRow.holds Tryd.pinned (OpenSpec.upto rollBucketsSpec)

/-- 'barographkeep.RollParts', WHERE WHAT IT READS IS OF BULK AT MOST 1048576: true; the input reads as it did. -/
def rollPartsUptoRow : OpenClaim := { program := "ytnpabbinckcbaaadoor", sum := "09d36b4635f04b22eb8220d3248eca487b8b8f75b2772caa4c402bcc6748686e", func := "barograph/barographkeep.RollParts", spec := "rollParts", named := ["barograph/zig.prefixes"], apart := false, laid := [("barograph/zig.prefixes", laid_barograph_zig_prefixes)], narrowed := true }
def RollPartsUptoSaid : Prop := rollPartsUptoRow.holds Tryd.pinned (OpenSpec.upto rollPartsSpec)

/-- 'barographkeep.RollBounds', WHERE WHAT IT READS IS OF BULK AT MOST 1048576: true; the input reads as it did. -/
def rollBoundsUptoRow : OpenClaim := { program := "ytnpabbinckcbaaadoor", sum := "09d36b4635f04b22eb8220d3248eca487b8b8f75b2772caa4c402bcc6748686e", func := "barograph/barographkeep.RollBounds", spec := "rollBounds", named := ["barograph/zig.prefixes"], apart := false, laid := [("barograph/zig.prefixes", laid_barograph_zig_prefixes)], narrowed := true }
def RollBoundsUptoSaid : Prop := rollBoundsUptoRow.holds Tryd.pinned (OpenSpec.upto rollBoundsSpec)

/-- 'barographkeep.BucketsAll', WHERE WHAT IT READS IS OF BULK AT MOST 1048576: true; the input reads as it did. -/
def bucketsAllUptoRow : OpenClaim := { program := "ytnpabbinckcbaaadoor", sum := "09d36b4635f04b22eb8220d3248eca487b8b8f75b2772caa4c402bcc6748686e", func := "barograph/barographkeep.BucketsAll", spec := "bucketsAll", named := ["barograph/zig.prefixes"], apart := false, laid := [("barograph/zig.prefixes", laid_barograph_zig_prefixes)], narrowed := true }
def BucketsAllUptoSaid : Prop := bucketsAllUptoRow.holds Tryd.pinned (OpenSpec.upto bucketsAllSpec)

end Rows
end Go.Proofs.YtnpabbinckcbaaaDoor
