/-
  No cell of these rows narrows 'for every input' (looked for: loops, veiled, ifaces, maps, wideKeys, modest, calm, conditions, laid).
  DERIVED. THE GIVEN ROWS OF THIS SEAT. 6 by the template 'for every input the law returns true; each argument reads behind the call as it read before'; 0 by the template 'total and deterministic' (their statements: YtpgjjndmbkkhiaaTotals.lean).
  GIVEN WITH THE SEED: the statements are not yours to turn. If you find one false, say at which input.
  Laid BY PROGRAM, IN A SANDBOX (cutbox-rows.mjs): the forced cells as the released guide's own fill.sh prints them over the translation fb1541a87a98db39… (all of the seat's roots in one cut). By AI agents, Wed Nov 11 2026. No macro, syntax, notation, axiom, sorry.
-/
import Derived.Test.YtpgjjndmbkkhiaaChecked
import GoSem.Claim
import GoSem.ClaimJoined
import GoSem.ClaimMapViews
import Derived.JoinedTies
import Derived.KernelRfl
namespace Go.Proofs.Ytpgjjndmbkkhiaa
/- THE CELL 'sum', in the pinned program and in every row, IS THE sha256 OF THE DUMP (.gsa) THAT YtpgjjndmbkkhiaaProg.lean LOADS. Nothing in Lean hashes anything: it is a label: what it is worth is what the hold of that sum in a sandbox is worth. -/
noncomputable def Try.pinned : Pinned := { name := "ytpgjjndmbkkhiaa", sum := "fb1541a87a98db39e6720b6068ee7340010ccb6497b4f0ec14b96b0fdf87d86e", checked := Try.checked }
namespace Rows
def none {H : Type} : Left H := { results := [], args := [] }

/-- 'barographlaw.FileRecords': WHATEVER THE INPUT: true; the input reads as it did. -/
def fileRecordsSpec : ChangeSpec := { name := "fileRecords", fn := fun _ => fun
  | [d] => { results := [.lit (.bool true)], args := [d] }
  | _ => none }
def fileRecordsRow : OpenClaim := { program := "ytpgjjndmbkkhiaa", sum := "fb1541a87a98db39e6720b6068ee7340010ccb6497b4f0ec14b96b0fdf87d86e", func := "barograph/barographlaw.FileRecords", spec := "fileRecords", apart := false }
def FileRecordsSaid : Prop := fileRecordsRow.holds Try.pinned (OpenSpec.ofChange fileRecordsSpec)

/-- ITS FALSE NEIGHBOUR: 'it returns false'. Refute it at one input. -/
def fileRecordsWrong : ChangeSpec := { name := "fileRecords", fn := fun _ => fun
  | [d] => { results := [.lit (.bool false)], args := [d] }
  | _ => none }
def FileRecordsWrongFalsely : Prop := fileRecordsRow.holds Try.pinned (OpenSpec.ofChange fileRecordsWrong)

/-- 'barographlaw.FileOpens': WHATEVER THE INPUT: true; the input reads as it did. -/
def fileOpensSpec : ChangeSpec := { name := "fileOpens", fn := fun _ => fun
  | [d] => { results := [.lit (.bool true)], args := [d] }
  | _ => none }
def fileOpensRow : OpenClaim := { program := "ytpgjjndmbkkhiaa", sum := "fb1541a87a98db39e6720b6068ee7340010ccb6497b4f0ec14b96b0fdf87d86e", func := "barograph/barographlaw.FileOpens", spec := "fileOpens", apart := false }
def FileOpensSaid : Prop := fileOpensRow.holds Try.pinned (OpenSpec.ofChange fileOpensSpec)

/-- ITS FALSE NEIGHBOUR: 'it returns false'. Refute it at one input. -/
def fileOpensWrong : ChangeSpec := { name := "fileOpens", fn := fun _ => fun
  | [d] => { results := [.lit (.bool false)], args := [d] }
  | _ => none }
def FileOpensWrongFalsely : Prop := fileOpensRow.holds Try.pinned (OpenSpec.ofChange fileOpensWrong)

/-- 'barographkeep.FileBack': WHATEVER THE INPUT: true; the input reads as it did. -/
def fileBackSpec : ChangeSpec := { name := "fileBack", fn := fun _ => fun
  | [d] => { results := [.lit (.bool true)], args := [d] }
  | _ => none }
def fileBackRow : OpenClaim := { program := "ytpgjjndmbkkhiaa", sum := "fb1541a87a98db39e6720b6068ee7340010ccb6497b4f0ec14b96b0fdf87d86e", func := "barograph/barographkeep.FileBack", spec := "fileBack", apart := false }
def FileBackSaid : Prop := fileBackRow.holds Try.pinned (OpenSpec.ofChange fileBackSpec)

/-- ITS FALSE NEIGHBOUR: 'it returns false'. Refute it at one input. -/
def fileBackWrong : ChangeSpec := { name := "fileBack", fn := fun _ => fun
  | [d] => { results := [.lit (.bool false)], args := [d] }
  | _ => none }
def FileBackWrongFalsely : Prop := fileBackRow.holds Try.pinned (OpenSpec.ofChange fileBackWrong)

/-- 'barographkeep.FileTorn': WHATEVER THE INPUT: true; the input reads as it did. -/
def fileTornSpec : ChangeSpec := { name := "fileTorn", fn := fun _ => fun
  | [d1, d2] => { results := [.lit (.bool true)], args := [d1, d2] }
  | _ => none }
def fileTornRow : OpenClaim := { program := "ytpgjjndmbkkhiaa", sum := "fb1541a87a98db39e6720b6068ee7340010ccb6497b4f0ec14b96b0fdf87d86e", func := "barograph/barographkeep.FileTorn", spec := "fileTorn", apart := false }
def FileTornSaid : Prop := fileTornRow.holds Try.pinned (OpenSpec.ofChange fileTornSpec)

/-- ITS FALSE NEIGHBOUR: 'it returns false'. Refute it at one input. -/
def fileTornWrong : ChangeSpec := { name := "fileTorn", fn := fun _ => fun
  | [d1, d2] => { results := [.lit (.bool false)], args := [d1, d2] }
  | _ => none }
def FileTornWrongFalsely : Prop := fileTornRow.holds Try.pinned (OpenSpec.ofChange fileTornWrong)

/-- 'barographkeep.FileSees': WHATEVER THE INPUT: true; the input reads as it did. -/
def fileSeesSpec : ChangeSpec := { name := "fileSees", fn := fun _ => fun
  | [d1, d2, d3, d4] => { results := [.lit (.bool true)], args := [d1, d2, d3, d4] }
  | _ => none }
def fileSeesRow : OpenClaim := { program := "ytpgjjndmbkkhiaa", sum := "fb1541a87a98db39e6720b6068ee7340010ccb6497b4f0ec14b96b0fdf87d86e", func := "barograph/barographkeep.FileSees", spec := "fileSees", apart := false }
def FileSeesSaid : Prop := fileSeesRow.holds Try.pinned (OpenSpec.ofChange fileSeesSpec)

/-- ITS FALSE NEIGHBOUR: 'it returns false'. Refute it at one input. -/
def fileSeesWrong : ChangeSpec := { name := "fileSees", fn := fun _ => fun
  | [d1, d2, d3, d4] => { results := [.lit (.bool false)], args := [d1, d2, d3, d4] }
  | _ => none }
def FileSeesWrongFalsely : Prop := fileSeesRow.holds Try.pinned (OpenSpec.ofChange fileSeesWrong)

/-- 'barographkeep.FileMore': WHATEVER THE INPUT: true; the input reads as it did. -/
def fileMoreSpec : ChangeSpec := { name := "fileMore", fn := fun _ => fun
  | [d1, d2] => { results := [.lit (.bool true)], args := [d1, d2] }
  | _ => none }
def fileMoreRow : OpenClaim := { program := "ytpgjjndmbkkhiaa", sum := "fb1541a87a98db39e6720b6068ee7340010ccb6497b4f0ec14b96b0fdf87d86e", func := "barograph/barographkeep.FileMore", spec := "fileMore", apart := false }
def FileMoreSaid : Prop := fileMoreRow.holds Try.pinned (OpenSpec.ofChange fileMoreSpec)

/-- ITS FALSE NEIGHBOUR: 'it returns false'. Refute it at one input. -/
def fileMoreWrong : ChangeSpec := { name := "fileMore", fn := fun _ => fun
  | [d1, d2] => { results := [.lit (.bool false)], args := [d1, d2] }
  | _ => none }
def FileMoreWrongFalsely : Prop := fileMoreRow.holds Try.pinned (OpenSpec.ofChange fileMoreWrong)

/- THE SECOND FORM. 'bulk': how many values and letters a reading holds, each counted each time it is reached (what is shared counts as often as it is met; a slice's spare places count too). A statement '..UptoSaid' is the law's where the arguments, and the package variables that the reading takes, are together of bulk at most 1048576: NARROWER than '..Said'. Prove '..Said' where nothing that the law and all that it calls make is longer than what came in: it says more and counts as full. Else prove '..UptoSaid'. A law counts once. -/
mutual
def uptoBulk {H : Type} : DataW H → Nat
  | .lit (.string bytes) => bytes.length + 1
  | .lit _ => 1
  | .nil => 1
  | .ptr d => uptoBulk d + 1
  | .slice elems spare => uptoBulkAll elems + uptoBulkAll spare + 1
  | .agg parts => uptoBulkAll parts + 1
  | .iface _ d => uptoBulk d + 1
  | .map entries => uptoBulkEntries entries + 1
  | .held _ => 1
def uptoBulkAll {H : Type} : List (DataW H) → Nat
  | [] => 0
  | d :: r => uptoBulk d + uptoBulkAll r
def uptoBulkEntries {H : Type} : List (Lit × DataW H) → Nat
  | [] => 0
  | x :: r => uptoBulkEntry x + uptoBulkEntries r
def uptoBulkEntry {H : Type} : Lit × DataW H → Nat
  | (.string bytes, d) => bytes.length + uptoBulk d + 1
  | (_, d) => uptoBulk d + 1
 end
def uptoSmall : (H : Type) → List (DataW H) → Bool := fun _ ds => decide (uptoBulkAll ds ≤ 1048576)
def OpenSpec.upto (s : _root_.Go.ChangeSpec) : _root_.Go.OpenSpec := { _root_.Go.OpenSpec.ofChange s with cond := some uptoSmall }

/-- 'barographlaw.FileRecords', WHERE WHAT IT READS IS OF BULK AT MOST 1048576: true; the input reads as it did. -/
def fileRecordsUptoRow : OpenClaim := { program := "ytpgjjndmbkkhiaa", sum := "fb1541a87a98db39e6720b6068ee7340010ccb6497b4f0ec14b96b0fdf87d86e", func := "barograph/barographlaw.FileRecords", spec := "fileRecords", apart := false, narrowed := true }
def FileRecordsUptoSaid : Prop := fileRecordsUptoRow.holds Try.pinned (OpenSpec.upto fileRecordsSpec)

/-- 'barographlaw.FileOpens', WHERE WHAT IT READS IS OF BULK AT MOST 1048576: true; the input reads as it did. -/
def fileOpensUptoRow : OpenClaim := { program := "ytpgjjndmbkkhiaa", sum := "fb1541a87a98db39e6720b6068ee7340010ccb6497b4f0ec14b96b0fdf87d86e", func := "barograph/barographlaw.FileOpens", spec := "fileOpens", apart := false, narrowed := true }
def FileOpensUptoSaid : Prop := fileOpensUptoRow.holds Try.pinned (OpenSpec.upto fileOpensSpec)

/-- 'barographkeep.FileBack', WHERE WHAT IT READS IS OF BULK AT MOST 1048576: true; the input reads as it did. -/
def fileBackUptoRow : OpenClaim := { program := "ytpgjjndmbkkhiaa", sum := "fb1541a87a98db39e6720b6068ee7340010ccb6497b4f0ec14b96b0fdf87d86e", func := "barograph/barographkeep.FileBack", spec := "fileBack", apart := false, narrowed := true }
def FileBackUptoSaid : Prop := fileBackUptoRow.holds Try.pinned (OpenSpec.upto fileBackSpec)

/-- 'barographkeep.FileTorn', WHERE WHAT IT READS IS OF BULK AT MOST 1048576: true; the input reads as it did. -/
def fileTornUptoRow : OpenClaim := { program := "ytpgjjndmbkkhiaa", sum := "fb1541a87a98db39e6720b6068ee7340010ccb6497b4f0ec14b96b0fdf87d86e", func := "barograph/barographkeep.FileTorn", spec := "fileTorn", apart := false, narrowed := true }
def FileTornUptoSaid : Prop := fileTornUptoRow.holds Try.pinned (OpenSpec.upto fileTornSpec)

/-- 'barographkeep.FileSees', WHERE WHAT IT READS IS OF BULK AT MOST 1048576: true; the input reads as it did. -/
def fileSeesUptoRow : OpenClaim := { program := "ytpgjjndmbkkhiaa", sum := "fb1541a87a98db39e6720b6068ee7340010ccb6497b4f0ec14b96b0fdf87d86e", func := "barograph/barographkeep.FileSees", spec := "fileSees", apart := false, narrowed := true }
def FileSeesUptoSaid : Prop := fileSeesUptoRow.holds Try.pinned (OpenSpec.upto fileSeesSpec)

/-- 'barographkeep.FileMore', WHERE WHAT IT READS IS OF BULK AT MOST 1048576: true; the input reads as it did. -/
def fileMoreUptoRow : OpenClaim := { program := "ytpgjjndmbkkhiaa", sum := "fb1541a87a98db39e6720b6068ee7340010ccb6497b4f0ec14b96b0fdf87d86e", func := "barograph/barographkeep.FileMore", spec := "fileMore", apart := false, narrowed := true }
def FileMoreUptoSaid : Prop := fileMoreUptoRow.holds Try.pinned (OpenSpec.upto fileMoreSpec)

end Rows
end Go.Proofs.Ytpgjjndmbkkhiaa
