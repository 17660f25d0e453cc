/-
  DERIVED. GIVEN WITH THE SEED: THE CARDS: each row of YtekojlepmfmmpaaDoorRows.lean that lists a variable, with what it lists TIED to the program's text (the seventh form; the later family's looks); each row that meets fmt, with fmt's text TOLD by the authors' own Lean function (tested against real Go, not proved from fmt's source: count such statements apart). THE CARD IS WHAT COUNTS. Prove the row's statement (the work); the ties are given (YtekojlepmfmmpaaDoorTie.lean); close each card by the builder's one call (the guide's Derived/Test/ToyasCard.lean, 'card_holds'). Laid BY PROGRAM, IN A SANDBOX (cutbox-door.mjs). By AI agents, Wed Nov 11 2026. No macro, syntax, notation, axiom, sorry.
-/
import Derived.Test.YtekojlepmfmmpaaDoorRows
import GoSem.ClaimSeven
namespace Go.Proofs.YtekojlepmfmmpaaDoor
namespace Rows

/-- THE TIED CARD OF 'barographlaw.ChunkEncodes'. -/
def chunkEncodesCard : Claim7 := { stood := { row := chunkEncodesRow, standIns := [], harness := (true, "647f6ad127482e82e3c44b34736b70cb98d6497e58771133334d9f52a4931661"), looks := false }, kinds := [], alts := [], laidByText := true, laidKinds := [.data], laidTests := true, laidLooks := .later }
def ChunkEncodesCardSaid : Prop := Claim7.holds Tryd.pinned (.plain (OpenSpec.ofChange chunkEncodesSpec)) chunkEncodesCard

/-- THE TIED CARD OF 'barographlaw.ChunkDecodes'. -/
def chunkDecodesCard : Claim7 := { stood := { row := chunkDecodesRow, standIns := [], harness := (true, "647f6ad127482e82e3c44b34736b70cb98d6497e58771133334d9f52a4931661"), looks := false }, kinds := [], alts := [], laidByText := true, laidKinds := [.data], laidTests := true, laidLooks := .later }
def ChunkDecodesCardSaid : Prop := Claim7.holds Tryd.pinned (.plain (OpenSpec.ofChange chunkDecodesSpec)) chunkDecodesCard

/-- THE TIED CARD OF 'barographkeep.ChunkBack'. -/
def chunkBackCard : Claim7 := { stood := { row := chunkBackRow, standIns := [], harness := (true, "647f6ad127482e82e3c44b34736b70cb98d6497e58771133334d9f52a4931661"), looks := false }, kinds := [], alts := [], laidByText := true, laidKinds := [.data], laidTests := true, laidLooks := .later }
def ChunkBackCardSaid : Prop := Claim7.holds Tryd.pinned (.plain (OpenSpec.ofChange chunkBackSpec)) chunkBackCard

/-- THE TIED CARD OF 'barographkeep.ChunkFixed'. -/
def chunkFixedCard : Claim7 := { stood := { row := chunkFixedRow, standIns := [], harness := (true, "647f6ad127482e82e3c44b34736b70cb98d6497e58771133334d9f52a4931661"), looks := false }, kinds := [], alts := [], laidByText := true, laidKinds := [.data], laidTests := true, laidLooks := .later }
def ChunkFixedCardSaid : Prop := Claim7.holds Tryd.pinned (.plain (OpenSpec.ofChange chunkFixedSpec)) chunkFixedCard

/-- THE TIED CARD OF 'barographkeep.ChunkSteady'. -/
def chunkSteadyCard : Claim7 := { stood := { row := chunkSteadyRow, standIns := [], harness := (true, "647f6ad127482e82e3c44b34736b70cb98d6497e58771133334d9f52a4931661"), looks := false }, kinds := [], alts := [], laidByText := true, laidKinds := [.data], laidTests := true, laidLooks := .later }
def ChunkSteadyCardSaid : Prop := Claim7.holds Tryd.pinned (.plain (OpenSpec.ofChange chunkSteadySpec)) chunkSteadyCard

/-- THE TIED CARD OF 'barographkeep.ChunkShift'. -/
def chunkShiftCard : Claim7 := { stood := { row := chunkShiftRow, standIns := [], harness := (true, "647f6ad127482e82e3c44b34736b70cb98d6497e58771133334d9f52a4931661"), looks := false }, kinds := [], alts := [], laidByText := true, laidKinds := [.data], laidTests := true, laidLooks := .later }
def ChunkShiftCardSaid : Prop := Claim7.holds Tryd.pinned (.plain (OpenSpec.ofChange chunkShiftSpec)) chunkShiftCard

/-- THE SECOND FORM's CARD OF 'barographlaw.ChunkEncodes'. -/
def chunkEncodesUptoCard : Claim7 := { stood := { row := chunkEncodesUptoRow, standIns := [], harness := (true, "647f6ad127482e82e3c44b34736b70cb98d6497e58771133334d9f52a4931661"), looks := false }, kinds := [], alts := [], laidByText := true, laidKinds := [.data], laidTests := true, laidLooks := .later }
def ChunkEncodesUptoCardSaid : Prop := Claim7.holds Tryd.pinned (.plain (OpenSpec.upto chunkEncodesSpec)) chunkEncodesUptoCard

/-- THE SECOND FORM's CARD OF 'barographlaw.ChunkDecodes'. -/
def chunkDecodesUptoCard : Claim7 := { stood := { row := chunkDecodesUptoRow, standIns := [], harness := (true, "647f6ad127482e82e3c44b34736b70cb98d6497e58771133334d9f52a4931661"), looks := false }, kinds := [], alts := [], laidByText := true, laidKinds := [.data], laidTests := true, laidLooks := .later }
def ChunkDecodesUptoCardSaid : Prop := Claim7.holds Tryd.pinned (.plain (OpenSpec.upto chunkDecodesSpec)) chunkDecodesUptoCard

/-- THE SECOND FORM's CARD OF 'barographkeep.ChunkBack'. -/
def chunkBackUptoCard : Claim7 := { stood := { row := chunkBackUptoRow, standIns := [], harness := (true, "647f6ad127482e82e3c44b34736b70cb98d6497e58771133334d9f52a4931661"), looks := false }, kinds := [], alts := [], laidByText := true, laidKinds := [.data], laidTests := true, laidLooks := .later }
def ChunkBackUptoCardSaid : Prop := Claim7.holds Tryd.pinned (.plain (OpenSpec.upto chunkBackSpec)) chunkBackUptoCard

/-- THE SECOND FORM's CARD OF 'barographkeep.ChunkFixed'. -/
def chunkFixedUptoCard : Claim7 := { stood := { row := chunkFixedUptoRow, standIns := [], harness := (true, "647f6ad127482e82e3c44b34736b70cb98d6497e58771133334d9f52a4931661"), looks := false }, kinds := [], alts := [], laidByText := true, laidKinds := [.data], laidTests := true, laidLooks := .later }
def ChunkFixedUptoCardSaid : Prop := Claim7.holds Tryd.pinned (.plain (OpenSpec.upto chunkFixedSpec)) chunkFixedUptoCard

/-- THE SECOND FORM's CARD OF 'barographkeep.ChunkSteady'. -/
def chunkSteadyUptoCard : Claim7 := { stood := { row := chunkSteadyUptoRow, standIns := [], harness := (true, "647f6ad127482e82e3c44b34736b70cb98d6497e58771133334d9f52a4931661"), looks := false }, kinds := [], alts := [], laidByText := true, laidKinds := [.data], laidTests := true, laidLooks := .later }
def ChunkSteadyUptoCardSaid : Prop := Claim7.holds Tryd.pinned (.plain (OpenSpec.upto chunkSteadySpec)) chunkSteadyUptoCard

/-- THE SECOND FORM's CARD OF 'barographkeep.ChunkShift'. -/
def chunkShiftUptoCard : Claim7 := { stood := { row := chunkShiftUptoRow, standIns := [], harness := (true, "647f6ad127482e82e3c44b34736b70cb98d6497e58771133334d9f52a4931661"), looks := false }, kinds := [], alts := [], laidByText := true, laidKinds := [.data], laidTests := true, laidLooks := .later }
def ChunkShiftUptoCardSaid : Prop := Claim7.holds Tryd.pinned (.plain (OpenSpec.upto chunkShiftSpec)) chunkShiftUptoCard
end Rows
end Go.Proofs.YtekojlepmfmmpaaDoor
