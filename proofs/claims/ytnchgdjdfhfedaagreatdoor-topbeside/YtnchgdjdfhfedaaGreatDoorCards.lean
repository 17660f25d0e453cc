/-
  DERIVED. GIVEN WITH THE SEED: THE CARDS: each row of YtnchgdjdfhfedaaGreatDoorRows.lean that lists a variable, with what it lists TIED to the program's text (the seventh form; the later family's looks); each row that meets fmt, with fmt's text TOLD by the authors' own Lean function (tested against real Go, not proved from fmt's source: count such statements apart). THE CARD IS WHAT COUNTS. Prove the row's statement (the work); the ties are given (YtnchgdjdfhfedaaGreatDoorTie.lean); close each card by the builder's one call (the guide's Derived/Test/ToyasCard.lean, 'card_holds'). Laid BY PROGRAM, IN A SANDBOX (cutbox-door.mjs). By AI agents, Wed Nov 11 2026. No macro, syntax, notation, axiom, sorry.
-/
import Derived.Test.YtnchgdjdfhfedaaGreatDoorRows
import GoSem.ClaimSeven
namespace Go.Proofs.YtnchgdjdfhfedaaGreatDoor
namespace Rows

/-- THE TIED CARD OF 'barographtop.TopBeside'. -/
def topBesideCard : Claim7 := { stood := { row := topBesideRow, standIns := [], harness := (true, "89054ee6ab43ec14ab609c96b66d37c6f7bfd63096dc6f97c0bf050e9fd5f712"), looks := true }, kinds := [], alts := [], laidByText := true, laidKinds := [.data, .data, .data, .data], laidTests := true, laidLooks := .later }
def TopBesideCardSaid : Prop := Claim7.holds Tryz.pinned (.plain (OpenSpec.ofChange topBesideSpec)) topBesideCard

/-- THE SECOND FORM's CARD OF 'barographtop.TopBeside'. -/
def topBesideUptoCard : Claim7 := { stood := { row := topBesideUptoRow, standIns := [], harness := (true, "89054ee6ab43ec14ab609c96b66d37c6f7bfd63096dc6f97c0bf050e9fd5f712"), looks := true }, kinds := [], alts := [], laidByText := true, laidKinds := [.data, .data, .data, .data], laidTests := true, laidLooks := .later }
def TopBesideUptoCardSaid : Prop := Claim7.holds Tryz.pinned (.plain (OpenSpec.upto topBesideSpec)) topBesideUptoCard
end Rows
end Go.Proofs.YtnchgdjdfhfedaaGreatDoor
