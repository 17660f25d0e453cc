/-
  DERIVED. GIVEN WITH THE SEED: THE CARDS: each row of YtnpabbinckcbaaaDoorRows.lean that lists a variable, with what it lists TIED to the program's text (the seventh form; the later family's looks); each row that meets fmt, with fmt's text TOLD by the authors' own Lean function (tested against real Go, not proved from fmt's source: count such statements apart). THE CARD IS WHAT COUNTS. Prove the row's statement (the work); the ties are given (YtnpabbinckcbaaaDoorTie.lean); close each card by the builder's one call (the guide's Derived/Test/ToyasCard.lean, 'card_holds'). Laid BY PROGRAM, IN A SANDBOX (cutbox-door.mjs). By AI agents, Wed Nov 11 2026. No macro, syntax, notation, axiom, sorry.
-/
import Derived.Test.YtnpabbinckcbaaaDoorRows
import GoSem.ClaimSeven
namespace Go.Proofs.YtnpabbinckcbaaaDoor
namespace Rows

/-- THE TIED CARD OF 'barographlaw.RollOfs'. -/
def rollOfsCard : Claim7 := { stood := { row := rollOfsRow, standIns := [], harness := (true, "916d3032eb380c977195be34e2d04779bbe8d94be5391d87ea0a9ae7f4c67b21"), looks := false }, kinds := [], alts := [], laidByText := true, laidKinds := [.data], laidTests := true, laidLooks := .later }
def RollOfsCardSaid : Prop := Claim7.holds Tryd.pinned (.plain (OpenSpec.ofChange rollOfsSpec)) rollOfsCard

/-- THE TIED CARD OF 'barographlaw.RollBuckets'. -/
def rollBucketsCard : Claim7 := { stood := { row := rollBucketsRow, standIns := [], harness := (true, "916d3032eb380c977195be34e2d04779bbe8d94be5391d87ea0a9ae7f4c67b21"), looks := false }, kinds := [], alts := [], laidByText := true, laidKinds := [.data], laidTests := true, laidLooks := .later }
def RollBucketsCardSaid : Prop := Claim7.holds Tryd.pinned (.plain (OpenSpec.ofChange rollBucketsSpec)) rollBucketsCard

/-- THE TIED CARD OF 'barographkeep.RollParts'. -/
def rollPartsCard : Claim7 := { stood := { row := rollPartsRow, standIns := [], harness := (true, "916d3032eb380c977195be34e2d04779bbe8d94be5391d87ea0a9ae7f4c67b21"), looks := false }, kinds := [], alts := [], laidByText := true, laidKinds := [.data], laidTests := true, laidLooks := .later }
def RollPartsCardSaid : Prop := Claim7.holds Tryd.pinned (.plain (OpenSpec.ofChange rollPartsSpec)) rollPartsCard

/-- THE TIED CARD OF 'barographkeep.RollBounds'. -/
def rollBoundsCard : Claim7 := { stood := { row := rollBoundsRow, standIns := [], harness := (true, "916d3032eb380c977195be34e2d04779bbe8d94be5391d87ea0a9ae7f4c67b21"), looks := false }, kinds := [], alts := [], laidByText := true, laidKinds := [.data], laidTests := true, laidLooks := .later }
def RollBoundsCardSaid : Prop := Claim7.holds Tryd.pinned (.plain (OpenSpec.ofChange rollBoundsSpec)) rollBoundsCard

/-- THE TIED CARD OF 'barographkeep.BucketsAll'. -/
def bucketsAllCard : Claim7 := { stood := { row := bucketsAllRow, standIns := [], harness := (true, "916d3032eb380c977195be34e2d04779bbe8d94be5391d87ea0a9ae7f4c67b21"), looks := false }, kinds := [], alts := [], laidByText := true, laidKinds := [.data], laidTests := true, laidLooks := .later }
def BucketsAllCardSaid : Prop := Claim7.holds Tryd.pinned (.plain (OpenSpec.ofChange bucketsAllSpec)) bucketsAllCard

/-- THE SECOND FORM's CARD OF 'barographlaw.RollOfs'. -/
def rollOfsUptoCard : Claim7 := { stood := { row := rollOfsUptoRow, standIns := [], harness := (true, "916d3032eb380c977195be34e2d04779bbe8d94be5391d87ea0a9ae7f4c67b21"), looks := false }, kinds := [], alts := [], laidByText := true, laidKinds := [.data], laidTests := true, laidLooks := .later }
def RollOfsUptoCardSaid : Prop := Claim7.holds Tryd.pinned (.plain (OpenSpec.upto rollOfsSpec)) rollOfsUptoCard

/-- THE SECOND FORM's CARD OF 'barographlaw.RollBuckets'. -/
def rollBucketsUptoCard : Claim7 := { stood := { row := rollBucketsUptoRow, standIns := [], harness := (true, "916d3032eb380c977195be34e2d04779bbe8d94be5391d87ea0a9ae7f4c67b21"), looks := false }, kinds := [], alts := [], laidByText := true, laidKinds := [.data], laidTests := true, laidLooks := .later }
def RollBucketsUptoCardSaid : Prop := Claim7.holds Tryd.pinned (.plain (OpenSpec.upto rollBucketsSpec)) rollBucketsUptoCard

/-- THE SECOND FORM's CARD OF 'barographkeep.RollParts'. -/
def rollPartsUptoCard : Claim7 := { stood := { row := rollPartsUptoRow, standIns := [], harness := (true, "916d3032eb380c977195be34e2d04779bbe8d94be5391d87ea0a9ae7f4c67b21"), looks := false }, kinds := [], alts := [], laidByText := true, laidKinds := [.data], laidTests := true, laidLooks := .later }
def RollPartsUptoCardSaid : Prop := Claim7.holds Tryd.pinned (.plain (OpenSpec.upto rollPartsSpec)) rollPartsUptoCard

/-- THE SECOND FORM's CARD OF 'barographkeep.RollBounds'. -/
def rollBoundsUptoCard : Claim7 := { stood := { row := rollBoundsUptoRow, standIns := [], harness := (true, "916d3032eb380c977195be34e2d04779bbe8d94be5391d87ea0a9ae7f4c67b21"), looks := false }, kinds := [], alts := [], laidByText := true, laidKinds := [.data], laidTests := true, laidLooks := .later }
def RollBoundsUptoCardSaid : Prop := Claim7.holds Tryd.pinned (.plain (OpenSpec.upto rollBoundsSpec)) rollBoundsUptoCard

/-- THE SECOND FORM's CARD OF 'barographkeep.BucketsAll'. -/
def bucketsAllUptoCard : Claim7 := { stood := { row := bucketsAllUptoRow, standIns := [], harness := (true, "916d3032eb380c977195be34e2d04779bbe8d94be5391d87ea0a9ae7f4c67b21"), looks := false }, kinds := [], alts := [], laidByText := true, laidKinds := [.data], laidTests := true, laidLooks := .later }
def BucketsAllUptoCardSaid : Prop := Claim7.holds Tryd.pinned (.plain (OpenSpec.upto bucketsAllSpec)) bucketsAllUptoCard
end Rows
end Go.Proofs.YtnpabbinckcbaaaDoor
