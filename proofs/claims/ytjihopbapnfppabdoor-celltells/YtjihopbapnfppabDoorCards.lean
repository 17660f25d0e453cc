/-
  DERIVED. GIVEN WITH THE SEED: THE CARDS: each row of YtjihopbapnfppabDoorRows.lean that lists a variable, with what it lists TIED to the program's text (the seventh form; the later family's looks); each row that meets fmt, with fmt's text TOLD by the authors' own Lean function (tested against real Go, not proved from fmt's source: count such statements apart). THE CARD IS WHAT COUNTS. Prove the row's statement (the work); the ties are given (YtjihopbapnfppabDoorTie.lean); close each card by the builder's one call (the guide's Derived/Test/ToyasCard.lean, 'card_holds'). Laid BY PROGRAM, IN A SANDBOX (cutbox-door.mjs). By AI agents, Wed Nov 11 2026. No macro, syntax, notation, axiom, sorry.
-/
import Derived.Test.YtjihopbapnfppabDoorRows
import GoSem.ClaimSeven
namespace Go.Proofs.YtjihopbapnfppabDoor
namespace Rows

/-- THE TIED CARD OF 'barographlaw.CellCodes'. -/
def cellCodesCard : Claim7 := { stood := { row := cellCodesRow, standIns := [], harness := (true, "56d37197ed18b754cecbe1f4f0ebb309aef0c3147d60dcc30dd65862b56c2acf"), looks := false }, kinds := [], alts := [], laidByText := true, laidKinds := [.data, .data, .data, .data], laidTests := true, laidLooks := .later }
def CellCodesCardSaid : Prop := Claim7.holds Tryd.pinned (.plain (OpenSpec.ofChange cellCodesSpec)) cellCodesCard

/-- THE TIED CARD OF 'barographkeep.CellWhole'. -/
def cellWholeCard : Claim7 := { stood := { row := cellWholeRow, standIns := [], harness := (true, "56d37197ed18b754cecbe1f4f0ebb309aef0c3147d60dcc30dd65862b56c2acf"), looks := false }, kinds := [], alts := [], laidByText := true, laidKinds := [.data, .data, .data, .data], laidTests := true, laidLooks := .later }
def CellWholeCardSaid : Prop := Claim7.holds Tryd.pinned (.plain (OpenSpec.ofChange cellWholeSpec)) cellWholeCard

/-- THE TIED CARD OF 'barographkeep.CellEnds'. -/
def cellEndsCard : Claim7 := { stood := { row := cellEndsRow, standIns := [], harness := (true, "56d37197ed18b754cecbe1f4f0ebb309aef0c3147d60dcc30dd65862b56c2acf"), looks := false }, kinds := [], alts := [], laidByText := true, laidKinds := [.data, .data, .data, .data], laidTests := true, laidLooks := .later }
def CellEndsCardSaid : Prop := Claim7.holds Tryd.pinned (.plain (OpenSpec.ofChange cellEndsSpec)) cellEndsCard

/-- THE TIED CARD OF 'barographkeep.CellTells'. -/
def cellTellsCard : Claim7 := { stood := { row := cellTellsRow, standIns := [], harness := (true, "56d37197ed18b754cecbe1f4f0ebb309aef0c3147d60dcc30dd65862b56c2acf"), looks := false }, kinds := [], alts := [], laidByText := true, laidKinds := [.data, .data, .data, .data], laidTests := true, laidLooks := .later }
def CellTellsCardSaid : Prop := Claim7.holds Tryd.pinned (.plain (OpenSpec.ofChange cellTellsSpec)) cellTellsCard

/-- THE SECOND FORM's CARD OF 'barographlaw.CellCodes'. -/
def cellCodesUptoCard : Claim7 := { stood := { row := cellCodesUptoRow, standIns := [], harness := (true, "56d37197ed18b754cecbe1f4f0ebb309aef0c3147d60dcc30dd65862b56c2acf"), looks := false }, kinds := [], alts := [], laidByText := true, laidKinds := [.data, .data, .data, .data], laidTests := true, laidLooks := .later }
def CellCodesUptoCardSaid : Prop := Claim7.holds Tryd.pinned (.plain (OpenSpec.upto cellCodesSpec)) cellCodesUptoCard

/-- THE SECOND FORM's CARD OF 'barographkeep.CellWhole'. -/
def cellWholeUptoCard : Claim7 := { stood := { row := cellWholeUptoRow, standIns := [], harness := (true, "56d37197ed18b754cecbe1f4f0ebb309aef0c3147d60dcc30dd65862b56c2acf"), looks := false }, kinds := [], alts := [], laidByText := true, laidKinds := [.data, .data, .data, .data], laidTests := true, laidLooks := .later }
def CellWholeUptoCardSaid : Prop := Claim7.holds Tryd.pinned (.plain (OpenSpec.upto cellWholeSpec)) cellWholeUptoCard

/-- THE SECOND FORM's CARD OF 'barographkeep.CellEnds'. -/
def cellEndsUptoCard : Claim7 := { stood := { row := cellEndsUptoRow, standIns := [], harness := (true, "56d37197ed18b754cecbe1f4f0ebb309aef0c3147d60dcc30dd65862b56c2acf"), looks := false }, kinds := [], alts := [], laidByText := true, laidKinds := [.data, .data, .data, .data], laidTests := true, laidLooks := .later }
def CellEndsUptoCardSaid : Prop := Claim7.holds Tryd.pinned (.plain (OpenSpec.upto cellEndsSpec)) cellEndsUptoCard

/-- THE SECOND FORM's CARD OF 'barographkeep.CellTells'. -/
def cellTellsUptoCard : Claim7 := { stood := { row := cellTellsUptoRow, standIns := [], harness := (true, "56d37197ed18b754cecbe1f4f0ebb309aef0c3147d60dcc30dd65862b56c2acf"), looks := false }, kinds := [], alts := [], laidByText := true, laidKinds := [.data, .data, .data, .data], laidTests := true, laidLooks := .later }
def CellTellsUptoCardSaid : Prop := Claim7.holds Tryd.pinned (.plain (OpenSpec.upto cellTellsSpec)) cellTellsUptoCard
end Rows
end Go.Proofs.YtjihopbapnfppabDoor
