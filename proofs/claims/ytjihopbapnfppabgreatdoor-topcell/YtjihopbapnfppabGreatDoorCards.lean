/-
  DERIVED. GIVEN WITH THE SEED: THE CARDS: each row of YtjihopbapnfppabGreatDoorRows.lean that lists a variable, with what it lists TIED to the program's text (the seventh form; the later family's looks); each row that meets fmt, with fmt's text TOLD by the authors' own Lean function (tested against real Go, not proved from fmt's source: count such statements apart). THE CARD IS WHAT COUNTS. Prove the row's statement (the work); the ties are given (YtjihopbapnfppabGreatDoorTie.lean); close each card by the builder's one call (the guide's Derived/Test/ToyasCard.lean, 'card_holds'). Laid BY PROGRAM, IN A SANDBOX (cutbox-door.mjs). By AI agents, Wed Nov 11 2026. No macro, syntax, notation, axiom, sorry.
-/
import Derived.Test.YtjihopbapnfppabGreatDoorRows
import GoSem.ClaimSeven
namespace Go.Proofs.YtjihopbapnfppabGreatDoor
namespace Rows

/-- THE TIED CARD OF 'barographtop.TopCell'. -/
def topCellCard : Claim7 := { stood := { row := topCellRow, standIns := [], harness := (true, "b84ed0072d2f02951e1cd25ff574f29459c2815447b55c96841b499ac8233ef2"), looks := true }, kinds := [], alts := [], laidByText := true, laidKinds := [.data, .data, .data, .data], laidTests := true, laidLooks := .later }
def TopCellCardSaid : Prop := Claim7.holds Tryz.pinned (.plain (OpenSpec.ofChange topCellSpec)) topCellCard

/-- THE SECOND FORM's CARD OF 'barographtop.TopCell'. -/
def topCellUptoCard : Claim7 := { stood := { row := topCellUptoRow, standIns := [], harness := (true, "b84ed0072d2f02951e1cd25ff574f29459c2815447b55c96841b499ac8233ef2"), looks := true }, kinds := [], alts := [], laidByText := true, laidKinds := [.data, .data, .data, .data], laidTests := true, laidLooks := .later }
def TopCellUptoCardSaid : Prop := Claim7.holds Tryz.pinned (.plain (OpenSpec.upto topCellSpec)) topCellUptoCard
end Rows
end Go.Proofs.YtjihopbapnfppabGreatDoor
