/-
  No cell of these rows narrows 'for every input' (looked for: loops, veiled, ifaces, maps, wideKeys, modest, calm, conditions, laid).
  DERIVED. THE GIVEN ROWS OF THIS SEAT. 6 by the template 'for every input the law returns true; each argument reads behind the call as it read before'; 0 by the template 'total and deterministic' (their statements: YtadlkecodlhaaaaTotals.lean).
  GIVEN WITH THE SEED: the statements are not yours to turn. If you find one false, say at which input.
  Laid BY PROGRAM, IN A SANDBOX (cutbox-rows.mjs): the forced cells as the released guide's own fill.sh prints them over the translation 80c56d500b3e9555… (all of the seat's roots in one cut). By AI agents, Wed Nov 11 2026. No macro, syntax, notation, axiom, sorry.
-/
import Derived.Test.YtadlkecodlhaaaaChecked
import GoSem.Claim
import GoSem.ClaimJoined
import GoSem.ClaimMapViews
import Derived.JoinedTies
import Derived.KernelRfl
namespace Go.Proofs.Ytadlkecodlhaaaa
/- THE CELL 'sum', in the pinned program and in every row, IS THE sha256 OF THE DUMP (.gsa) THAT YtadlkecodlhaaaaProg.lean LOADS. Nothing in Lean hashes anything: it is a label: what it is worth is what the hold of that sum in a sandbox is worth. -/
noncomputable def Try.pinned : Pinned := { name := "ytadlkecodlhaaaa", sum := "80c56d500b3e95559d11921f333d73d6b85ad25bc58257df3079583e0a807a06", checked := Try.checked }
namespace Rows
def none {H : Type} : Left H := { results := [], args := [] }

/-- 'barographlaw.AdlerOfs': WHATEVER THE INPUT: true; the input reads as it did. -/
def adlerOfsSpec : ChangeSpec := { name := "adlerOfs", fn := fun _ => fun
  | [d] => { results := [.lit (.bool true)], args := [d] }
  | _ => none }
def adlerOfsRow : OpenClaim := { program := "ytadlkecodlhaaaa", sum := "80c56d500b3e95559d11921f333d73d6b85ad25bc58257df3079583e0a807a06", func := "barograph/barographlaw.AdlerOfs", spec := "adlerOfs", apart := false }
def AdlerOfsSaid : Prop := adlerOfsRow.holds Try.pinned (OpenSpec.ofChange adlerOfsSpec)

/-- ITS FALSE NEIGHBOUR: 'it returns false'. Refute it at one input. -/
def adlerOfsWrong : ChangeSpec := { name := "adlerOfs", fn := fun _ => fun
  | [d] => { results := [.lit (.bool false)], args := [d] }
  | _ => none }
def AdlerOfsWrongFalsely : Prop := adlerOfsRow.holds Try.pinned (OpenSpec.ofChange adlerOfsWrong)

/-- 'barographlaw.AdlerMores': WHATEVER THE INPUT: true; the input reads as it did. -/
def adlerMoresSpec : ChangeSpec := { name := "adlerMores", fn := fun _ => fun
  | [d1, d2] => { results := [.lit (.bool true)], args := [d1, d2] }
  | _ => none }
def adlerMoresRow : OpenClaim := { program := "ytadlkecodlhaaaa", sum := "80c56d500b3e95559d11921f333d73d6b85ad25bc58257df3079583e0a807a06", func := "barograph/barographlaw.AdlerMores", spec := "adlerMores", apart := false }
def AdlerMoresSaid : Prop := adlerMoresRow.holds Try.pinned (OpenSpec.ofChange adlerMoresSpec)

/-- ITS FALSE NEIGHBOUR: 'it returns false'. Refute it at one input. -/
def adlerMoresWrong : ChangeSpec := { name := "adlerMores", fn := fun _ => fun
  | [d1, d2] => { results := [.lit (.bool false)], args := [d1, d2] }
  | _ => none }
def AdlerMoresWrongFalsely : Prop := adlerMoresRow.holds Try.pinned (OpenSpec.ofChange adlerMoresWrong)

/-- 'barographlaw.AdlerSlides': WHATEVER THE INPUT: true; the input reads as it did. -/
def adlerSlidesSpec : ChangeSpec := { name := "adlerSlides", fn := fun _ => fun
  | [d1, d2, d3, d4] => { results := [.lit (.bool true)], args := [d1, d2, d3, d4] }
  | _ => none }
def adlerSlidesRow : OpenClaim := { program := "ytadlkecodlhaaaa", sum := "80c56d500b3e95559d11921f333d73d6b85ad25bc58257df3079583e0a807a06", func := "barograph/barographlaw.AdlerSlides", spec := "adlerSlides", unfollowed := true, recurses := true, apart := false }
def AdlerSlidesSaid : Prop := adlerSlidesRow.holds Try.pinned (OpenSpec.ofChange adlerSlidesSpec)

/-- ITS FALSE NEIGHBOUR: 'it returns false'. Refute it at one input. -/
def adlerSlidesWrong : ChangeSpec := { name := "adlerSlides", fn := fun _ => fun
  | [d1, d2, d3, d4] => { results := [.lit (.bool false)], args := [d1, d2, d3, d4] }
  | _ => none }
def AdlerSlidesWrongFalsely : Prop := adlerSlidesRow.holds Try.pinned (OpenSpec.ofChange adlerSlidesWrong)

/-- 'barographkeep.AdlerParts': WHATEVER THE INPUT: true; the input reads as it did. -/
def adlerPartsSpec : ChangeSpec := { name := "adlerParts", fn := fun _ => fun
  | [d1, d2] => { results := [.lit (.bool true)], args := [d1, d2] }
  | _ => none }
def adlerPartsRow : OpenClaim := { program := "ytadlkecodlhaaaa", sum := "80c56d500b3e95559d11921f333d73d6b85ad25bc58257df3079583e0a807a06", func := "barograph/barographkeep.AdlerParts", spec := "adlerParts", apart := false }
def AdlerPartsSaid : Prop := adlerPartsRow.holds Try.pinned (OpenSpec.ofChange adlerPartsSpec)

/-- ITS FALSE NEIGHBOUR: 'it returns false'. Refute it at one input. -/
def adlerPartsWrong : ChangeSpec := { name := "adlerParts", fn := fun _ => fun
  | [d1, d2] => { results := [.lit (.bool false)], args := [d1, d2] }
  | _ => none }
def AdlerPartsWrongFalsely : Prop := adlerPartsRow.holds Try.pinned (OpenSpec.ofChange adlerPartsWrong)

/-- 'barographkeep.AdlerSlid': WHATEVER THE INPUT: true; the input reads as it did. -/
def adlerSlidSpec : ChangeSpec := { name := "adlerSlid", fn := fun _ => fun
  | [d1, d2] => { results := [.lit (.bool true)], args := [d1, d2] }
  | _ => none }
def adlerSlidRow : OpenClaim := { program := "ytadlkecodlhaaaa", sum := "80c56d500b3e95559d11921f333d73d6b85ad25bc58257df3079583e0a807a06", func := "barograph/barographkeep.AdlerSlid", spec := "adlerSlid", apart := false }
def AdlerSlidSaid : Prop := adlerSlidRow.holds Try.pinned (OpenSpec.ofChange adlerSlidSpec)

/-- ITS FALSE NEIGHBOUR: 'it returns false'. Refute it at one input. -/
def adlerSlidWrong : ChangeSpec := { name := "adlerSlid", fn := fun _ => fun
  | [d1, d2] => { results := [.lit (.bool false)], args := [d1, d2] }
  | _ => none }
def AdlerSlidWrongFalsely : Prop := adlerSlidRow.holds Try.pinned (OpenSpec.ofChange adlerSlidWrong)

/-- 'barographkeep.AdlerSees': WHATEVER THE INPUT: true; the input reads as it did. -/
def adlerSeesSpec : ChangeSpec := { name := "adlerSees", fn := fun _ => fun
  | [d1, d2, d3] => { results := [.lit (.bool true)], args := [d1, d2, d3] }
  | _ => none }
def adlerSeesRow : OpenClaim := { program := "ytadlkecodlhaaaa", sum := "80c56d500b3e95559d11921f333d73d6b85ad25bc58257df3079583e0a807a06", func := "barograph/barographkeep.AdlerSees", spec := "adlerSees", apart := false }
def AdlerSeesSaid : Prop := adlerSeesRow.holds Try.pinned (OpenSpec.ofChange adlerSeesSpec)

/-- ITS FALSE NEIGHBOUR: 'it returns false'. Refute it at one input. -/
def adlerSeesWrong : ChangeSpec := { name := "adlerSees", fn := fun _ => fun
  | [d1, d2, d3] => { results := [.lit (.bool false)], args := [d1, d2, d3] }
  | _ => none }
def AdlerSeesWrongFalsely : Prop := adlerSeesRow.holds Try.pinned (OpenSpec.ofChange adlerSeesWrong)

/- THE SECOND FORM. 'bulk': how many values and letters a reading holds, each counted each time it is reached (what is shared counts as often as it is met; a slice's spare places count too). A statement '..UptoSaid' is the law's where the arguments, and the package variables that the reading takes, are together of bulk at most 1048576: NARROWER than '..Said'. Prove '..Said' where nothing that the law and all that it calls make is longer than what came in: it says more and counts as full. Else prove '..UptoSaid'. A law counts once. -/
mutual
def uptoBulk {H : Type} : DataW H → Nat
  | .lit (.string bytes) => bytes.length + 1
  | .lit _ => 1
  | .nil => 1
  | .ptr d => uptoBulk d + 1
  | .slice elems spare => uptoBulkAll elems + uptoBulkAll spare + 1
  | .agg parts => uptoBulkAll parts + 1
  | .iface _ d => uptoBulk d + 1
  | .map entries => uptoBulkEntries entries + 1
  | .held _ => 1
def uptoBulkAll {H : Type} : List (DataW H) → Nat
  | [] => 0
  | d :: r => uptoBulk d + uptoBulkAll r
def uptoBulkEntries {H : Type} : List (Lit × DataW H) → Nat
  | [] => 0
  | x :: r => uptoBulkEntry x + uptoBulkEntries r
def uptoBulkEntry {H : Type} : Lit × DataW H → Nat
  | (.string bytes, d) => bytes.length + uptoBulk d + 1
  | (_, d) => uptoBulk d + 1
 end
def uptoSmall : (H : Type) → List (DataW H) → Bool := fun _ ds => decide (uptoBulkAll ds ≤ 1048576)
def OpenSpec.upto (s : _root_.Go.ChangeSpec) : _root_.Go.OpenSpec := { _root_.Go.OpenSpec.ofChange s with cond := some uptoSmall }

/-- 'barographlaw.AdlerOfs', WHERE WHAT IT READS IS OF BULK AT MOST 1048576: true; the input reads as it did. -/
def adlerOfsUptoRow : OpenClaim := { program := "ytadlkecodlhaaaa", sum := "80c56d500b3e95559d11921f333d73d6b85ad25bc58257df3079583e0a807a06", func := "barograph/barographlaw.AdlerOfs", spec := "adlerOfs", apart := false, narrowed := true }
def AdlerOfsUptoSaid : Prop := adlerOfsUptoRow.holds Try.pinned (OpenSpec.upto adlerOfsSpec)

/-- 'barographlaw.AdlerMores', WHERE WHAT IT READS IS OF BULK AT MOST 1048576: true; the input reads as it did. -/
def adlerMoresUptoRow : OpenClaim := { program := "ytadlkecodlhaaaa", sum := "80c56d500b3e95559d11921f333d73d6b85ad25bc58257df3079583e0a807a06", func := "barograph/barographlaw.AdlerMores", spec := "adlerMores", apart := false, narrowed := true }
def AdlerMoresUptoSaid : Prop := adlerMoresUptoRow.holds Try.pinned (OpenSpec.upto adlerMoresSpec)

/-- 'barographlaw.AdlerSlides', WHERE WHAT IT READS IS OF BULK AT MOST 1048576: true; the input reads as it did. -/
def adlerSlidesUptoRow : OpenClaim := { program := "ytadlkecodlhaaaa", sum := "80c56d500b3e95559d11921f333d73d6b85ad25bc58257df3079583e0a807a06", func := "barograph/barographlaw.AdlerSlides", spec := "adlerSlides", unfollowed := true, recurses := true, apart := false, narrowed := true }
def AdlerSlidesUptoSaid : Prop := adlerSlidesUptoRow.holds Try.pinned (OpenSpec.upto adlerSlidesSpec)

/-- 'barographkeep.AdlerParts', WHERE WHAT IT READS IS OF BULK AT MOST 1048576: true; the input reads as it did. -/
def adlerPartsUptoRow : OpenClaim := { program := "ytadlkecodlhaaaa", sum := "80c56d500b3e95559d11921f333d73d6b85ad25bc58257df3079583e0a807a06", func := "barograph/barographkeep.AdlerParts", spec := "adlerParts", apart := false, narrowed := true }
def AdlerPartsUptoSaid : Prop := adlerPartsUptoRow.holds Try.pinned (OpenSpec.upto adlerPartsSpec)

/-- 'barographkeep.AdlerSlid', WHERE WHAT IT READS IS OF BULK AT MOST 1048576: true; the input reads as it did. -/
def adlerSlidUptoRow : OpenClaim := { program := "ytadlkecodlhaaaa", sum := "80c56d500b3e95559d11921f333d73d6b85ad25bc58257df3079583e0a807a06", func := "barograph/barographkeep.AdlerSlid", spec := "adlerSlid", apart := false, narrowed := true }
def AdlerSlidUptoSaid : Prop := adlerSlidUptoRow.holds Try.pinned (OpenSpec.upto adlerSlidSpec)

/-- 'barographkeep.AdlerSees', WHERE WHAT IT READS IS OF BULK AT MOST 1048576: true; the input reads as it did. -/
def adlerSeesUptoRow : OpenClaim := { program := "ytadlkecodlhaaaa", sum := "80c56d500b3e95559d11921f333d73d6b85ad25bc58257df3079583e0a807a06", func := "barograph/barographkeep.AdlerSees", spec := "adlerSees", apart := false, narrowed := true }
def AdlerSeesUptoSaid : Prop := adlerSeesUptoRow.holds Try.pinned (OpenSpec.upto adlerSeesSpec)

end Rows
end Go.Proofs.Ytadlkecodlhaaaa
