/-
  No cell of these rows narrows 'for every input' (looked for: loops, veiled, ifaces, maps, wideKeys, modest, calm, conditions, laid).
  DERIVED. THE GIVEN ROWS OF THIS SEAT. 7 by the template 'for every input the law returns true; each argument reads behind the call as it read before'; 0 by the template 'total and deterministic' (their statements: YtdoniefhmmodbaaTotals.lean).
  GIVEN WITH THE SEED: the statements are not yours to turn. If you find one false, say at which input.
  Laid BY PROGRAM, IN A SANDBOX (cutbox-rows.mjs): the forced cells as the released guide's own fill.sh prints them over the translation 8e1f3eab81c50a16… (all of the seat's roots in one cut). By AI agents, Wed Nov 11 2026. No macro, syntax, notation, axiom, sorry.
-/
import Derived.Test.YtdoniefhmmodbaaChecked
import GoSem.Claim
import GoSem.ClaimJoined
import GoSem.ClaimMapViews
import Derived.JoinedTies
import Derived.KernelRfl
namespace Go.Proofs.Ytdoniefhmmodbaa
/- THE CELL 'sum', in the pinned program and in every row, IS THE sha256 OF THE DUMP (.gsa) THAT YtdoniefhmmodbaaProg.lean LOADS. Nothing in Lean hashes anything: it is a label: what it is worth is what the hold of that sum in a sandbox is worth. -/
noncomputable def Try.pinned : Pinned := { name := "ytdoniefhmmodbaa", sum := "8e1f3eab81c50a16461f9bda84e94be2d6bf3f02d53e70ef72e42983b6cc263c", checked := Try.checked }
namespace Rows
def none {H : Type} : Left H := { results := [], args := [] }

/-- 'barographlaw.LinMays': WHATEVER THE INPUT: true; the input reads as it did. -/
def linMaysSpec : ChangeSpec := { name := "linMays", fn := fun _ => fun
  | [d1, d2] => { results := [.lit (.bool true)], args := [d1, d2] }
  | _ => none }
def linMaysRow : OpenClaim := { program := "ytdoniefhmmodbaa", sum := "8e1f3eab81c50a16461f9bda84e94be2d6bf3f02d53e70ef72e42983b6cc263c", func := "barograph/barographlaw.LinMays", spec := "linMays", unfollowed := true, recurses := true, plainKeys := false, apart := false }
def LinMaysSaid : Prop := linMaysRow.holds Try.pinned (OpenSpec.ofChange linMaysSpec)

/-- ITS FALSE NEIGHBOUR: 'it returns false'. Refute it at one input. -/
def linMaysWrong : ChangeSpec := { name := "linMays", fn := fun _ => fun
  | [d1, d2] => { results := [.lit (.bool false)], args := [d1, d2] }
  | _ => none }
def LinMaysWrongFalsely : Prop := linMaysRow.holds Try.pinned (OpenSpec.ofChange linMaysWrong)

/-- 'barographlaw.LinChecks': WHATEVER THE INPUT: true; the input reads as it did. -/
def linChecksSpec : ChangeSpec := { name := "linChecks", fn := fun _ => fun
  | [d1, d2, d3] => { results := [.lit (.bool true)], args := [d1, d2, d3] }
  | _ => none }
def linChecksRow : OpenClaim := { program := "ytdoniefhmmodbaa", sum := "8e1f3eab81c50a16461f9bda84e94be2d6bf3f02d53e70ef72e42983b6cc263c", func := "barograph/barographlaw.LinChecks", spec := "linChecks", unfollowed := true, recurses := true, plainKeys := false, apart := false }
def LinChecksSaid : Prop := linChecksRow.holds Try.pinned (OpenSpec.ofChange linChecksSpec)

/-- ITS FALSE NEIGHBOUR: 'it returns false'. Refute it at one input. -/
def linChecksWrong : ChangeSpec := { name := "linChecks", fn := fun _ => fun
  | [d1, d2, d3] => { results := [.lit (.bool false)], args := [d1, d2, d3] }
  | _ => none }
def LinChecksWrongFalsely : Prop := linChecksRow.holds Try.pinned (OpenSpec.ofChange linChecksWrong)

/-- 'barographkeep.LinOrders': WHATEVER THE INPUT: true; the input reads as it did. -/
def linOrdersSpec : ChangeSpec := { name := "linOrders", fn := fun _ => fun
  | [d1, d2, d3] => { results := [.lit (.bool true)], args := [d1, d2, d3] }
  | _ => none }
def linOrdersRow : OpenClaim := { program := "ytdoniefhmmodbaa", sum := "8e1f3eab81c50a16461f9bda84e94be2d6bf3f02d53e70ef72e42983b6cc263c", func := "barograph/barographkeep.LinOrders", spec := "linOrders", unfollowed := true, recurses := true, plainKeys := false, apart := false }
def LinOrdersSaid : Prop := linOrdersRow.holds Try.pinned (OpenSpec.ofChange linOrdersSpec)

/-- ITS FALSE NEIGHBOUR: 'it returns false'. Refute it at one input. -/
def linOrdersWrong : ChangeSpec := { name := "linOrders", fn := fun _ => fun
  | [d1, d2, d3] => { results := [.lit (.bool false)], args := [d1, d2, d3] }
  | _ => none }
def LinOrdersWrongFalsely : Prop := linOrdersRow.holds Try.pinned (OpenSpec.ofChange linOrdersWrong)

/-- 'barographkeep.LinTells': WHATEVER THE INPUT: true; the input reads as it did. -/
def linTellsSpec : ChangeSpec := { name := "linTells", fn := fun _ => fun
  | [d1, d2, d3, d4, d5] => { results := [.lit (.bool true)], args := [d1, d2, d3, d4, d5] }
  | _ => none }
def linTellsRow : OpenClaim := { program := "ytdoniefhmmodbaa", sum := "8e1f3eab81c50a16461f9bda84e94be2d6bf3f02d53e70ef72e42983b6cc263c", func := "barograph/barographkeep.LinTells", spec := "linTells", unfollowed := true, recurses := true, plainKeys := false, apart := false }
def LinTellsSaid : Prop := linTellsRow.holds Try.pinned (OpenSpec.ofChange linTellsSpec)

/-- ITS FALSE NEIGHBOUR: 'it returns false'. Refute it at one input. -/
def linTellsWrong : ChangeSpec := { name := "linTells", fn := fun _ => fun
  | [d1, d2, d3, d4, d5] => { results := [.lit (.bool false)], args := [d1, d2, d3, d4, d5] }
  | _ => none }
def LinTellsWrongFalsely : Prop := linTellsRow.holds Try.pinned (OpenSpec.ofChange linTellsWrong)

/-- 'barographkeep.LinPart': WHATEVER THE INPUT: true; the input reads as it did. -/
def linPartSpec : ChangeSpec := { name := "linPart", fn := fun _ => fun
  | [d1, d2, d3, d4] => { results := [.lit (.bool true)], args := [d1, d2, d3, d4] }
  | _ => none }
def linPartRow : OpenClaim := { program := "ytdoniefhmmodbaa", sum := "8e1f3eab81c50a16461f9bda84e94be2d6bf3f02d53e70ef72e42983b6cc263c", func := "barograph/barographkeep.LinPart", spec := "linPart", unfollowed := true, recurses := true, plainKeys := false, apart := false }
def LinPartSaid : Prop := linPartRow.holds Try.pinned (OpenSpec.ofChange linPartSpec)

/-- ITS FALSE NEIGHBOUR: 'it returns false'. Refute it at one input. -/
def linPartWrong : ChangeSpec := { name := "linPart", fn := fun _ => fun
  | [d1, d2, d3, d4] => { results := [.lit (.bool false)], args := [d1, d2, d3, d4] }
  | _ => none }
def LinPartWrongFalsely : Prop := linPartRow.holds Try.pinned (OpenSpec.ofChange linPartWrong)

/-- 'barographkeep.LinOpen': WHATEVER THE INPUT: true; the input reads as it did. -/
def linOpenSpec : ChangeSpec := { name := "linOpen", fn := fun _ => fun
  | [d1, d2, d3, d4, d5, d6] => { results := [.lit (.bool true)], args := [d1, d2, d3, d4, d5, d6] }
  | _ => none }
def linOpenRow : OpenClaim := { program := "ytdoniefhmmodbaa", sum := "8e1f3eab81c50a16461f9bda84e94be2d6bf3f02d53e70ef72e42983b6cc263c", func := "barograph/barographkeep.LinOpen", spec := "linOpen", unfollowed := true, recurses := true, plainKeys := false, apart := false }
def LinOpenSaid : Prop := linOpenRow.holds Try.pinned (OpenSpec.ofChange linOpenSpec)

/-- ITS FALSE NEIGHBOUR: 'it returns false'. Refute it at one input. -/
def linOpenWrong : ChangeSpec := { name := "linOpen", fn := fun _ => fun
  | [d1, d2, d3, d4, d5, d6] => { results := [.lit (.bool false)], args := [d1, d2, d3, d4, d5, d6] }
  | _ => none }
def LinOpenWrongFalsely : Prop := linOpenRow.holds Try.pinned (OpenSpec.ofChange linOpenWrong)

/-- 'barographkeep.LinTurned': WHATEVER THE INPUT: true; the input reads as it did. -/
def linTurnedSpec : ChangeSpec := { name := "linTurned", fn := fun _ => fun
  | [d1, d2, d3, d4, d5, d6] => { results := [.lit (.bool true)], args := [d1, d2, d3, d4, d5, d6] }
  | _ => none }
def linTurnedRow : OpenClaim := { program := "ytdoniefhmmodbaa", sum := "8e1f3eab81c50a16461f9bda84e94be2d6bf3f02d53e70ef72e42983b6cc263c", func := "barograph/barographkeep.LinTurned", spec := "linTurned", unfollowed := true, recurses := true, plainKeys := false, apart := false }
def LinTurnedSaid : Prop := linTurnedRow.holds Try.pinned (OpenSpec.ofChange linTurnedSpec)

/-- ITS FALSE NEIGHBOUR: 'it returns false'. Refute it at one input. -/
def linTurnedWrong : ChangeSpec := { name := "linTurned", fn := fun _ => fun
  | [d1, d2, d3, d4, d5, d6] => { results := [.lit (.bool false)], args := [d1, d2, d3, d4, d5, d6] }
  | _ => none }
def LinTurnedWrongFalsely : Prop := linTurnedRow.holds Try.pinned (OpenSpec.ofChange linTurnedWrong)

/- THE SECOND FORM. 'bulk': how many values and letters a reading holds, each counted each time it is reached (what is shared counts as often as it is met; a slice's spare places count too). A statement '..UptoSaid' is the law's where the arguments, and the package variables that the reading takes, are together of bulk at most 1048576: NARROWER than '..Said'. Prove '..Said' where nothing that the law and all that it calls make is longer than what came in: it says more and counts as full. Else prove '..UptoSaid'. A law counts once. -/
mutual
def uptoBulk {H : Type} : DataW H → Nat
  | .lit (.string bytes) => bytes.length + 1
  | .lit _ => 1
  | .nil => 1
  | .ptr d => uptoBulk d + 1
  | .slice elems spare => uptoBulkAll elems + uptoBulkAll spare + 1
  | .agg parts => uptoBulkAll parts + 1
  | .iface _ d => uptoBulk d + 1
  | .map entries => uptoBulkEntries entries + 1
  | .held _ => 1
def uptoBulkAll {H : Type} : List (DataW H) → Nat
  | [] => 0
  | d :: r => uptoBulk d + uptoBulkAll r
def uptoBulkEntries {H : Type} : List (Lit × DataW H) → Nat
  | [] => 0
  | x :: r => uptoBulkEntry x + uptoBulkEntries r
def uptoBulkEntry {H : Type} : Lit × DataW H → Nat
  | (.string bytes, d) => bytes.length + uptoBulk d + 1
  | (_, d) => uptoBulk d + 1
 end
def uptoSmall : (H : Type) → List (DataW H) → Bool := fun _ ds => decide (uptoBulkAll ds ≤ 1048576)
def OpenSpec.upto (s : _root_.Go.ChangeSpec) : _root_.Go.OpenSpec := { _root_.Go.OpenSpec.ofChange s with cond := some uptoSmall }

/-- 'barographlaw.LinMays', WHERE WHAT IT READS IS OF BULK AT MOST 1048576: true; the input reads as it did. -/
def linMaysUptoRow : OpenClaim := { program := "ytdoniefhmmodbaa", sum := "8e1f3eab81c50a16461f9bda84e94be2d6bf3f02d53e70ef72e42983b6cc263c", func := "barograph/barographlaw.LinMays", spec := "linMays", unfollowed := true, recurses := true, plainKeys := false, apart := false, narrowed := true }
def LinMaysUptoSaid : Prop := linMaysUptoRow.holds Try.pinned (OpenSpec.upto linMaysSpec)

/-- 'barographlaw.LinChecks', WHERE WHAT IT READS IS OF BULK AT MOST 1048576: true; the input reads as it did. -/
def linChecksUptoRow : OpenClaim := { program := "ytdoniefhmmodbaa", sum := "8e1f3eab81c50a16461f9bda84e94be2d6bf3f02d53e70ef72e42983b6cc263c", func := "barograph/barographlaw.LinChecks", spec := "linChecks", unfollowed := true, recurses := true, plainKeys := false, apart := false, narrowed := true }
def LinChecksUptoSaid : Prop := linChecksUptoRow.holds Try.pinned (OpenSpec.upto linChecksSpec)

/-- 'barographkeep.LinOrders', WHERE WHAT IT READS IS OF BULK AT MOST 1048576: true; the input reads as it did. -/
def linOrdersUptoRow : OpenClaim := { program := "ytdoniefhmmodbaa", sum := "8e1f3eab81c50a16461f9bda84e94be2d6bf3f02d53e70ef72e42983b6cc263c", func := "barograph/barographkeep.LinOrders", spec := "linOrders", unfollowed := true, recurses := true, plainKeys := false, apart := false, narrowed := true }
def LinOrdersUptoSaid : Prop := linOrdersUptoRow.holds Try.pinned (OpenSpec.upto linOrdersSpec)

/-- 'barographkeep.LinTells', WHERE WHAT IT READS IS OF BULK AT MOST 1048576: true; the input reads as it did. -/
def linTellsUptoRow : OpenClaim := { program := "ytdoniefhmmodbaa", sum := "8e1f3eab81c50a16461f9bda84e94be2d6bf3f02d53e70ef72e42983b6cc263c", func := "barograph/barographkeep.LinTells", spec := "linTells", unfollowed := true, recurses := true, plainKeys := false, apart := false, narrowed := true }
def LinTellsUptoSaid : Prop := linTellsUptoRow.holds Try.pinned (OpenSpec.upto linTellsSpec)

/-- 'barographkeep.LinPart', WHERE WHAT IT READS IS OF BULK AT MOST 1048576: true; the input reads as it did. -/
def linPartUptoRow : OpenClaim := { program := "ytdoniefhmmodbaa", sum := "8e1f3eab81c50a16461f9bda84e94be2d6bf3f02d53e70ef72e42983b6cc263c", func := "barograph/barographkeep.LinPart", spec := "linPart", unfollowed := true, recurses := true, plainKeys := false, apart := false, narrowed := true }
def LinPartUptoSaid : Prop := linPartUptoRow.holds Try.pinned (OpenSpec.upto linPartSpec)

/-- 'barographkeep.LinOpen', WHERE WHAT IT READS IS OF BULK AT MOST 1048576: true; the input reads as it did. -/
def linOpenUptoRow : OpenClaim := { program := "ytdoniefhmmodbaa", sum := "8e1f3eab81c50a16461f9bda84e94be2d6bf3f02d53e70ef72e42983b6cc263c", func := "barograph/barographkeep.LinOpen", spec := "linOpen", unfollowed := true, recurses := true, plainKeys := false, apart := false, narrowed := true }
def LinOpenUptoSaid : Prop := linOpenUptoRow.holds Try.pinned (OpenSpec.upto linOpenSpec)

/-- 'barographkeep.LinTurned', WHERE WHAT IT READS IS OF BULK AT MOST 1048576: true; the input reads as it did. -/
def linTurnedUptoRow : OpenClaim := { program := "ytdoniefhmmodbaa", sum := "8e1f3eab81c50a16461f9bda84e94be2d6bf3f02d53e70ef72e42983b6cc263c", func := "barograph/barographkeep.LinTurned", spec := "linTurned", unfollowed := true, recurses := true, plainKeys := false, apart := false, narrowed := true }
def LinTurnedUptoSaid : Prop := linTurnedUptoRow.holds Try.pinned (OpenSpec.upto linTurnedSpec)

end Rows
end Go.Proofs.Ytdoniefhmmodbaa
