/-
  DERIVED. GIVEN WITH THE SEED: THE CARDS: each row of YtahfpllphkkmbaaDoorRows.lean that lists a variable, with what it lists TIED to the program's text (the seventh form; the later family's looks); each row that meets fmt, with fmt's text TOLD by the authors' own Lean function (tested against real Go, not proved from fmt's source: count such statements apart). THE CARD IS WHAT COUNTS. Prove the row's statement (the work); the ties are given (YtahfpllphkkmbaaDoorTie.lean); close each card by the builder's one call (the guide's Derived/Test/ToyasCard.lean, 'card_holds'). Laid BY PROGRAM, IN A SANDBOX (cutbox-door.mjs). By AI agents, Wed Nov 11 2026. No macro, syntax, notation, axiom, sorry.
-/
import Derived.Test.YtahfpllphkkmbaaDoorRows
import GoSem.ClaimSeven
namespace Go.Proofs.YtahfpllphkkmbaaDoor
namespace Rows

/-- THE TIED CARD OF 'barographlaw.VmMays'. -/
def vmMaysCard : Claim7 := { stood := { row := vmMaysRow, standIns := [], harness := (true, "d86ab9ea8b14e2337d0693cae5eea088084fa39ce6ecc0f9b24ab0a4628b3342"), looks := false }, kinds := [], alts := [], laidByText := true, laidKinds := [.data], laidTests := true, laidLooks := .later }
def VmMaysCardSaid : Prop := Claim7.holds Tryd.pinned (.plain (OpenSpec.ofChange vmMaysSpec)) vmMaysCard

/-- THE TIED CARD OF 'barographlaw.VmRuns'. -/
def vmRunsCard : Claim7 := { stood := { row := vmRunsRow, standIns := [], harness := (true, "d86ab9ea8b14e2337d0693cae5eea088084fa39ce6ecc0f9b24ab0a4628b3342"), looks := false }, kinds := [], alts := [], laidByText := true, laidKinds := [.data], laidTests := true, laidLooks := .later }
def VmRunsCardSaid : Prop := Claim7.holds Tryd.pinned (.plain (OpenSpec.ofChange vmRunsSpec)) vmRunsCard

/-- THE TIED CARD OF 'barographkeep.VmSteps'. -/
def vmStepsCard : Claim7 := { stood := { row := vmStepsRow, standIns := [], harness := (true, "d86ab9ea8b14e2337d0693cae5eea088084fa39ce6ecc0f9b24ab0a4628b3342"), looks := false }, kinds := [], alts := [], laidByText := true, laidKinds := [.data], laidTests := true, laidLooks := .later }
def VmStepsCardSaid : Prop := Claim7.holds Tryd.pinned (.plain (OpenSpec.ofChange vmStepsSpec)) vmStepsCard

/-- THE TIED CARD OF 'barographkeep.VmWords'. -/
def vmWordsCard : Claim7 := { stood := { row := vmWordsRow, standIns := [], harness := (true, "d86ab9ea8b14e2337d0693cae5eea088084fa39ce6ecc0f9b24ab0a4628b3342"), looks := false }, kinds := [], alts := [], laidByText := true, laidKinds := [.data], laidTests := true, laidLooks := .later }
def VmWordsCardSaid : Prop := Claim7.holds Tryd.pinned (.plain (OpenSpec.ofChange vmWordsSpec)) vmWordsCard

/-- THE TIED CARD OF 'barographkeep.VmRenamed'. -/
def vmRenamedCard : Claim7 := { stood := { row := vmRenamedRow, standIns := [], harness := (true, "d86ab9ea8b14e2337d0693cae5eea088084fa39ce6ecc0f9b24ab0a4628b3342"), looks := false }, kinds := [], alts := [], laidByText := true, laidKinds := [.data], laidTests := true, laidLooks := .later }
def VmRenamedCardSaid : Prop := Claim7.holds Tryd.pinned (.plain (OpenSpec.ofChange vmRenamedSpec)) vmRenamedCard

/-- THE TIED CARD OF 'barographkeep.VmMoved'. -/
def vmMovedCard : Claim7 := { stood := { row := vmMovedRow, standIns := [], harness := (true, "d86ab9ea8b14e2337d0693cae5eea088084fa39ce6ecc0f9b24ab0a4628b3342"), looks := false }, kinds := [], alts := [], laidByText := true, laidKinds := [.data], laidTests := true, laidLooks := .later }
def VmMovedCardSaid : Prop := Claim7.holds Tryd.pinned (.plain (OpenSpec.ofChange vmMovedSpec)) vmMovedCard

/-- THE SECOND FORM's CARD OF 'barographlaw.VmMays'. -/
def vmMaysUptoCard : Claim7 := { stood := { row := vmMaysUptoRow, standIns := [], harness := (true, "d86ab9ea8b14e2337d0693cae5eea088084fa39ce6ecc0f9b24ab0a4628b3342"), looks := false }, kinds := [], alts := [], laidByText := true, laidKinds := [.data], laidTests := true, laidLooks := .later }
def VmMaysUptoCardSaid : Prop := Claim7.holds Tryd.pinned (.plain (OpenSpec.upto vmMaysSpec)) vmMaysUptoCard

/-- THE SECOND FORM's CARD OF 'barographlaw.VmRuns'. -/
def vmRunsUptoCard : Claim7 := { stood := { row := vmRunsUptoRow, standIns := [], harness := (true, "d86ab9ea8b14e2337d0693cae5eea088084fa39ce6ecc0f9b24ab0a4628b3342"), looks := false }, kinds := [], alts := [], laidByText := true, laidKinds := [.data], laidTests := true, laidLooks := .later }
def VmRunsUptoCardSaid : Prop := Claim7.holds Tryd.pinned (.plain (OpenSpec.upto vmRunsSpec)) vmRunsUptoCard

/-- THE SECOND FORM's CARD OF 'barographkeep.VmSteps'. -/
def vmStepsUptoCard : Claim7 := { stood := { row := vmStepsUptoRow, standIns := [], harness := (true, "d86ab9ea8b14e2337d0693cae5eea088084fa39ce6ecc0f9b24ab0a4628b3342"), looks := false }, kinds := [], alts := [], laidByText := true, laidKinds := [.data], laidTests := true, laidLooks := .later }
def VmStepsUptoCardSaid : Prop := Claim7.holds Tryd.pinned (.plain (OpenSpec.upto vmStepsSpec)) vmStepsUptoCard

/-- THE SECOND FORM's CARD OF 'barographkeep.VmWords'. -/
def vmWordsUptoCard : Claim7 := { stood := { row := vmWordsUptoRow, standIns := [], harness := (true, "d86ab9ea8b14e2337d0693cae5eea088084fa39ce6ecc0f9b24ab0a4628b3342"), looks := false }, kinds := [], alts := [], laidByText := true, laidKinds := [.data], laidTests := true, laidLooks := .later }
def VmWordsUptoCardSaid : Prop := Claim7.holds Tryd.pinned (.plain (OpenSpec.upto vmWordsSpec)) vmWordsUptoCard

/-- THE SECOND FORM's CARD OF 'barographkeep.VmRenamed'. -/
def vmRenamedUptoCard : Claim7 := { stood := { row := vmRenamedUptoRow, standIns := [], harness := (true, "d86ab9ea8b14e2337d0693cae5eea088084fa39ce6ecc0f9b24ab0a4628b3342"), looks := false }, kinds := [], alts := [], laidByText := true, laidKinds := [.data], laidTests := true, laidLooks := .later }
def VmRenamedUptoCardSaid : Prop := Claim7.holds Tryd.pinned (.plain (OpenSpec.upto vmRenamedSpec)) vmRenamedUptoCard

/-- THE SECOND FORM's CARD OF 'barographkeep.VmMoved'. -/
def vmMovedUptoCard : Claim7 := { stood := { row := vmMovedUptoRow, standIns := [], harness := (true, "d86ab9ea8b14e2337d0693cae5eea088084fa39ce6ecc0f9b24ab0a4628b3342"), looks := false }, kinds := [], alts := [], laidByText := true, laidKinds := [.data], laidTests := true, laidLooks := .later }
def VmMovedUptoCardSaid : Prop := Claim7.holds Tryd.pinned (.plain (OpenSpec.upto vmMovedSpec)) vmMovedUptoCard
end Rows
end Go.Proofs.YtahfpllphkkmbaaDoor
