/-
  No cell of these rows narrows 'for every input' (looked for: loops, veiled, ifaces, maps, wideKeys, modest, calm, conditions, laid).
  DERIVED. THE GIVEN ROWS OF THIS SEAT. 4 by the template 'for every input the law returns true; each argument reads behind the call as it read before'; 0 by the template 'total and deterministic' (their statements: YtjpdbcohkfchpaaTotals.lean).
  GIVEN WITH THE SEED: the statements are not yours to turn. If you find one false, say at which input.
  Laid BY PROGRAM, IN A SANDBOX (cutbox-rows.mjs): the forced cells as the released guide's own fill.sh prints them over the translation 3271b92aa1c98eda… (all of the seat's roots in one cut). By AI agents, Wed Nov 11 2026. No macro, syntax, notation, axiom, sorry.
-/
import Derived.Test.YtjpdbcohkfchpaaChecked
import GoSem.Claim
import GoSem.ClaimJoined
import GoSem.ClaimMapViews
import Derived.JoinedTies
import Derived.KernelRfl
namespace Go.Proofs.Ytjpdbcohkfchpaa
/- THE CELL 'sum', in the pinned program and in every row, IS THE sha256 OF THE DUMP (.gsa) THAT YtjpdbcohkfchpaaProg.lean LOADS. Nothing in Lean hashes anything: it is a label: what it is worth is what the hold of that sum in a sandbox is worth. -/
noncomputable def Try.pinned : Pinned := { name := "ytjpdbcohkfchpaa", sum := "3271b92aa1c98eda12f181bb48e626ab2bd9f5f83cf3da08dfa837af8aea7111", checked := Try.checked }
namespace Rows
def none {H : Type} : Left H := { results := [], args := [] }

/-- 'barographlaw.ZigFolds': WHATEVER THE INPUT: true; the input reads as it did. -/
def zigFoldsSpec : ChangeSpec := { name := "zigFolds", fn := fun _ => fun
  | [d] => { results := [.lit (.bool true)], args := [d] }
  | _ => none }
def zigFoldsRow : OpenClaim := { program := "ytjpdbcohkfchpaa", sum := "3271b92aa1c98eda12f181bb48e626ab2bd9f5f83cf3da08dfa837af8aea7111", func := "barograph/barographlaw.ZigFolds", spec := "zigFolds", apart := false }
def ZigFoldsSaid : Prop := zigFoldsRow.holds Try.pinned (OpenSpec.ofChange zigFoldsSpec)

/-- ITS FALSE NEIGHBOUR: 'it returns false'. Refute it at one input. -/
def zigFoldsWrong : ChangeSpec := { name := "zigFolds", fn := fun _ => fun
  | [d] => { results := [.lit (.bool false)], args := [d] }
  | _ => none }
def ZigFoldsWrongFalsely : Prop := zigFoldsRow.holds Try.pinned (OpenSpec.ofChange zigFoldsWrong)

/-- 'barographlaw.ZigUnfolds': WHATEVER THE INPUT: true; the input reads as it did. -/
def zigUnfoldsSpec : ChangeSpec := { name := "zigUnfolds", fn := fun _ => fun
  | [d] => { results := [.lit (.bool true)], args := [d] }
  | _ => none }
def zigUnfoldsRow : OpenClaim := { program := "ytjpdbcohkfchpaa", sum := "3271b92aa1c98eda12f181bb48e626ab2bd9f5f83cf3da08dfa837af8aea7111", func := "barograph/barographlaw.ZigUnfolds", spec := "zigUnfolds", apart := false }
def ZigUnfoldsSaid : Prop := zigUnfoldsRow.holds Try.pinned (OpenSpec.ofChange zigUnfoldsSpec)

/-- ITS FALSE NEIGHBOUR: 'it returns false'. Refute it at one input. -/
def zigUnfoldsWrong : ChangeSpec := { name := "zigUnfolds", fn := fun _ => fun
  | [d] => { results := [.lit (.bool false)], args := [d] }
  | _ => none }
def ZigUnfoldsWrongFalsely : Prop := zigUnfoldsRow.holds Try.pinned (OpenSpec.ofChange zigUnfoldsWrong)

/-- 'barographkeep.FoldBack': WHATEVER THE INPUT: true; the input reads as it did. -/
def foldBackSpec : ChangeSpec := { name := "foldBack", fn := fun _ => fun
  | [d1, d2] => { results := [.lit (.bool true)], args := [d1, d2] }
  | _ => none }
def foldBackRow : OpenClaim := { program := "ytjpdbcohkfchpaa", sum := "3271b92aa1c98eda12f181bb48e626ab2bd9f5f83cf3da08dfa837af8aea7111", func := "barograph/barographkeep.FoldBack", spec := "foldBack", apart := false }
def FoldBackSaid : Prop := foldBackRow.holds Try.pinned (OpenSpec.ofChange foldBackSpec)

/-- ITS FALSE NEIGHBOUR: 'it returns false'. Refute it at one input. -/
def foldBackWrong : ChangeSpec := { name := "foldBack", fn := fun _ => fun
  | [d1, d2] => { results := [.lit (.bool false)], args := [d1, d2] }
  | _ => none }
def FoldBackWrongFalsely : Prop := foldBackRow.holds Try.pinned (OpenSpec.ofChange foldBackWrong)

/-- 'barographkeep.UnfoldBack': WHATEVER THE INPUT: true; the input reads as it did. -/
def unfoldBackSpec : ChangeSpec := { name := "unfoldBack", fn := fun _ => fun
  | [d1, d2] => { results := [.lit (.bool true)], args := [d1, d2] }
  | _ => none }
def unfoldBackRow : OpenClaim := { program := "ytjpdbcohkfchpaa", sum := "3271b92aa1c98eda12f181bb48e626ab2bd9f5f83cf3da08dfa837af8aea7111", func := "barograph/barographkeep.UnfoldBack", spec := "unfoldBack", apart := false }
def UnfoldBackSaid : Prop := unfoldBackRow.holds Try.pinned (OpenSpec.ofChange unfoldBackSpec)

/-- ITS FALSE NEIGHBOUR: 'it returns false'. Refute it at one input. -/
def unfoldBackWrong : ChangeSpec := { name := "unfoldBack", fn := fun _ => fun
  | [d1, d2] => { results := [.lit (.bool false)], args := [d1, d2] }
  | _ => none }
def UnfoldBackWrongFalsely : Prop := unfoldBackRow.holds Try.pinned (OpenSpec.ofChange unfoldBackWrong)

/- THE SECOND FORM. 'bulk': how many values and letters a reading holds, each counted each time it is reached (what is shared counts as often as it is met; a slice's spare places count too). A statement '..UptoSaid' is the law's where the arguments, and the package variables that the reading takes, are together of bulk at most 1048576: NARROWER than '..Said'. Prove '..Said' where nothing that the law and all that it calls make is longer than what came in: it says more and counts as full. Else prove '..UptoSaid'. A law counts once. -/
mutual
def uptoBulk {H : Type} : DataW H → Nat
  | .lit (.string bytes) => bytes.length + 1
  | .lit _ => 1
  | .nil => 1
  | .ptr d => uptoBulk d + 1
  | .slice elems spare => uptoBulkAll elems + uptoBulkAll spare + 1
  | .agg parts => uptoBulkAll parts + 1
  | .iface _ d => uptoBulk d + 1
  | .map entries => uptoBulkEntries entries + 1
  | .held _ => 1
def uptoBulkAll {H : Type} : List (DataW H) → Nat
  | [] => 0
  | d :: r => uptoBulk d + uptoBulkAll r
def uptoBulkEntries {H : Type} : List (Lit × DataW H) → Nat
  | [] => 0
  | x :: r => uptoBulkEntry x + uptoBulkEntries r
def uptoBulkEntry {H : Type} : Lit × DataW H → Nat
  | (.string bytes, d) => bytes.length + uptoBulk d + 1
  | (_, d) => uptoBulk d + 1
 end
def uptoSmall : (H : Type) → List (DataW H) → Bool := fun _ ds => decide (uptoBulkAll ds ≤ 1048576)
def OpenSpec.upto (s : _root_.Go.ChangeSpec) : _root_.Go.OpenSpec := { _root_.Go.OpenSpec.ofChange s with cond := some uptoSmall }

/-- 'barographlaw.ZigFolds', WHERE WHAT IT READS IS OF BULK AT MOST 1048576: true; the input reads as it did. -/
def zigFoldsUptoRow : OpenClaim := { program := "ytjpdbcohkfchpaa", sum := "3271b92aa1c98eda12f181bb48e626ab2bd9f5f83cf3da08dfa837af8aea7111", func := "barograph/barographlaw.ZigFolds", spec := "zigFolds", apart := false, narrowed := true }
def ZigFoldsUptoSaid : Prop := zigFoldsUptoRow.holds Try.pinned (OpenSpec.upto zigFoldsSpec)

/-- 'barographlaw.ZigUnfolds', WHERE WHAT IT READS IS OF BULK AT MOST 1048576: true; the input reads as it did. -/
def zigUnfoldsUptoRow : OpenClaim := { program := "ytjpdbcohkfchpaa", sum := "3271b92aa1c98eda12f181bb48e626ab2bd9f5f83cf3da08dfa837af8aea7111", func := "barograph/barographlaw.ZigUnfolds", spec := "zigUnfolds", apart := false, narrowed := true }
def ZigUnfoldsUptoSaid : Prop := zigUnfoldsUptoRow.holds Try.pinned (OpenSpec.upto zigUnfoldsSpec)

/-- 'barographkeep.FoldBack', WHERE WHAT IT READS IS OF BULK AT MOST 1048576: true; the input reads as it did. -/
def foldBackUptoRow : OpenClaim := { program := "ytjpdbcohkfchpaa", sum := "3271b92aa1c98eda12f181bb48e626ab2bd9f5f83cf3da08dfa837af8aea7111", func := "barograph/barographkeep.FoldBack", spec := "foldBack", apart := false, narrowed := true }
def FoldBackUptoSaid : Prop := foldBackUptoRow.holds Try.pinned (OpenSpec.upto foldBackSpec)

/-- 'barographkeep.UnfoldBack', WHERE WHAT IT READS IS OF BULK AT MOST 1048576: true; the input reads as it did. -/
def unfoldBackUptoRow : OpenClaim := { program := "ytjpdbcohkfchpaa", sum := "3271b92aa1c98eda12f181bb48e626ab2bd9f5f83cf3da08dfa837af8aea7111", func := "barograph/barographkeep.UnfoldBack", spec := "unfoldBack", apart := false, narrowed := true }
def UnfoldBackUptoSaid : Prop := unfoldBackUptoRow.holds Try.pinned (OpenSpec.upto unfoldBackSpec)

end Rows
end Go.Proofs.Ytjpdbcohkfchpaa
